import Derived.Deep.RegionHeld3
import Derived.Test.YtlgeffinhbodeafGreatPkAB
import Derived.Test.YtlgeffinhbodeafGreatPkAH
import Derived.Test.YtlgeffinhbodeafGreatPkAG
import Derived.Test.YtlgeffinhbodeafGreatPkAD
import Derived.Test.YtlgeffinhbodeafGreatPkAC
/-
  Stores that came back: of the call's own all through; marks laid.
-/
namespace Go.Proofs.YtlgeffinhbodeafGreat
open Go.ChangeShapes Go.WideShapes Go.ChangeAt Go.RowKit Go.Deep
set_option linter.unusedVariables false
set_option linter.unusedSimpArgs false
set_option maxRecDepth 100000

/-- A run: its slice, its entries, and the block that they lie in, if there are any. -/
structure Rw where
  u : Value
  es : List Ent
  k : Option Nat
def OwnK (w : World) (base : Nat) (r : Rw) : Prop :=
  (r.k = none ∧ r.es = [] ∧ ∃ a c, r.u = .slice a 0 c) ∨ ∃ g cp, r.k = some g ∧ r.u = .slice (some ⟨g, 0, none⟩) r.es.length cp ∧ OwnE w base g cp r.es
theorem OwnK.ucells {w : World} {base : Nat} {r : Rw} (h : OwnK w base r) : r.u.cells = #[r.u] := by
  rcases h with ⟨_, _, a, c, h⟩ | ⟨g, cp, _, h, _⟩ <;> rw [h] <;> rfl
theorem OwnK.ins {w : World} {base : Nat} {r : Rw} (h : OwnK w base r) : InEnts w r.u r.es := by
  rcases h with ⟨_, h1, a, c, h⟩ | ⟨g, cp, _, h, hO⟩
  · exact .inl ⟨a, c, h, h1⟩
  · rw [h]; exact InEnts.own hO hO.caps.1 hO.caps.2
theorem OwnK.kept {w w' : World} {base : Nat} {r : Rw} {row : Option Nat} (h : OwnK w base r) (hg : w.grownBy w' row) (hne : ∀ g, r.k = some g → row ≠ some g) : OwnK w' base r := by
  rcases h with h | ⟨g, cp, hk, hu, hO⟩
  · exact .inl h
  · exact .inr ⟨g, cp, hk, hu, World.ownsRow.kept hO hg (.inr (fun q => hne g hk q.symm))⟩
theorem OwnK.below {w w' : World} {base : Nat} {r : Rw} (h : OwnK w base r) (hb : Below w.heap.size w w') : OwnK w' base r := by
  rcases h with h | ⟨g, cp, hk, hu, hO⟩
  · exact .inl h
  · exact .inr ⟨g, cp, hk, hu, hO.below hb hO.lt.2⟩
theorem OwnK.key {w : World} {base : Nat} {r : Rw} (h : OwnK w base r) {g : Nat} (hg : r.k = some g) : base ≤ g ∧ g < w.heap.size := by
  rcases h with ⟨h, _⟩ | ⟨g', cp, hk, hu, hO⟩
  · rw [h] at hg; cases hg
  · rw [hk] at hg; cases hg; exact hO.lt
theorem OwnK.chg {S : Nat → Prop} {w w' : World} {base : Nat} {r : Rw} (h : OwnK w base r) (hb : Chg S w w') (hne : ∀ g, r.k = some g → ¬ S g) : OwnK w' base r := by
  rcases h with h | ⟨g, cp, hk, hu, hO⟩
  · exact .inl h
  · exact .inr ⟨g, cp, hk, hu, own_chg hO hb (fun k q => by have : g = k := Option.some.inj q; subst this; exact hne g hk)⟩

theorem markK (base : Nat) (r : Rw) (a : Int) (w : World) (h : OwnK w base r) (h0 : 0 < a) (h1 : a ≤ 2 ^ 30) (hn : r.es.length ≤ 1048576) :
    Calls Tryz.prog 14 #[r.u, .int .i64 a] w fun e w' =>
      ∃ R', e = .returned (.int .i64 (a + r.es.length * 6)) ∧ OwnK w' base ⟨r.u, R', r.k⟩ ∧ R'.length = r.es.length ∧ marked a R' R'.length ∧ w.grownBy w' r.k := by
  obtain ⟨u, es, k⟩ := r
  rcases h with ⟨hk, he, x, c, hu⟩ | ⟨g, cp, hk, hu, hO⟩
  · simp only at hk he hu ⊢
    subst hk he hu
    refine (markEntryS_zero x c a w).mono ?_
    rintro e w' ⟨rfl, hb⟩
    exact ⟨[], by simp, .inl ⟨rfl, rfl, x, c, rfl⟩, rfl, fun j hj => by simp at hj, grown_of_below hb _⟩
  · simp only at hk hu hO hn ⊢
    subst hk hu
    refine (markEntryS_core base g cp es a w hO h0 h1 hn).mono ?_
    rintro e w' ⟨fs, rfl, hO', hl, hm, hg⟩
    exact ⟨fs, rfl, .inr ⟨g, cp, rfl, by simp only; rw [hl], hO'⟩, hl, by rw [hl]; exact hm, hg⟩
theorem heldK (base : Nat) (r : Rw) (a : Int) (w : World) (h : OwnK w base r) (hm : marked a r.es r.es.length) (h0 : 0 < a) (h1 : a ≤ 2 ^ 30) (hn : r.es.length ≤ 1048576) :
    Calls Tryz.prog 89 #[r.u, .int .i64 a] w fun e w' => e = .returned (.int .i64 (a + r.es.length * 6)) ∧ Below w.heap.size w w' := by
  obtain ⟨u, es, k⟩ := r
  rcases h with ⟨hk, he, x, c, hu⟩ | ⟨g, cp, hk, hu, hO⟩
  · simp only at hk he hu ⊢
    subst hk he hu
    refine (heldEntryS_zero x c a w).mono ?_
    rintro e w' ⟨rfl, hb⟩
    exact ⟨by simp, hb⟩
  · simp only at hk hu hO hm hn ⊢
    subst hk hu
    exact heldEntryS_core g 0 cp es a w hO.at hm hO.lt.2 h0 h1 hn

/-- The row of a tablet's runs. -/
def OwnRow (w : World) (base : Nat) (v : Value) (rs : List Rw) : Prop :=
  (rs = [] ∧ ∃ a c, v = .slice a 0 c) ∨ ∃ g cp, v = .slice (some ⟨g, 0, none⟩) rs.length cp ∧ w.ownsRow base 58 1 (.slice (some ⟨g, 0, none⟩) rs.length cp) rs.length (rs.map Rw.u)
theorem OwnRow.ucells {w : World} {base : Nat} {v : Value} {rs : List Rw} (h : OwnRow w base v rs) : v.cells = #[v] := by
  rcases h with ⟨_, a, c, h⟩ | ⟨g, cp, h, _⟩ <;> rw [h] <;> rfl
theorem OwnRow.caps {w : World} {base : Nat} {e s : Nat} {g n cp : Nat} {xs : List Value} (h : w.ownsRow base e s (.slice (some ⟨g, 0, none⟩) n cp) n xs) : n ≤ cp ∧ cp ≤ maxLen := by
  rcases h.2 with ⟨h0, _⟩ | ⟨g', cap', cur, hv, _, _, hn, hcap, _, _⟩
  · cases h0
  · simp only [Value.slice.injEq, Option.some.injEq, Addr.mk.injEq, and_true, true_and] at hv
    obtain ⟨rfl, rfl⟩ := hv
    exact ⟨hn, hcap⟩
def Rw.rn (r : Rw) : Rn := ⟨r.u, r.es⟩
theorem OwnRow.ins {w : World} {base : Nat} {v : Value} {rs : List Rw} (h : OwnRow w base v rs) (hk : ∀ r ∈ rs, OwnK w base r) : InRuns w v (rs.map Rw.rn) := by
  rcases h with ⟨rfl, a, c, h⟩ | ⟨g, cp, rfl, hO⟩
  · exact .inl ⟨a, c, h, rfl⟩
  · have hc := OwnRow.caps hO
    refine .inr ⟨g, 0, cp, by simp, fun i r hi => ?_, (World.ownsRow.lt hO g rfl).2, by simpa using hc.1, hc.2⟩
    rw [List.getElem?_map] at hi
    cases hp : rs[i]? with
    | none => rw [hp] at hi; cases hi
    | some p =>
      rw [hp] at hi
      simp at hi
      subst hi
      refine ⟨?_, (hk p (List.mem_of_getElem? hp)).ins⟩
      have hl := (List.getElem?_eq_some_iff.1 hp).1
      have := World.ownsRow.cellAt hO i (by omega)
      rw [List.getElem?_map, hp] at this
      rw [Nat.zero_add]
      exact this
theorem OwnRow.kept {w w' : World} {base : Nat} {v : Value} {rs : List Rw} {row : Option Nat} (h : OwnRow w base v rs) (hg : w.grownBy w' row) (hne : ∀ g, v.ownBlock = some g → rs ≠ [] → row ≠ some g) : OwnRow w' base v rs := by
  rcases h with h | ⟨g, cp, hv, hO⟩
  · exact .inl h
  · by_cases hr : rs = []
    · subst hr; exact .inl ⟨rfl, _, _, hv⟩
    · exact .inr ⟨g, cp, hv, World.ownsRow.kept hO hg (.inr (fun q => hne g (by rw [hv]; rfl) hr q.symm))⟩
theorem OwnRow.below {w w' : World} {base : Nat} {v : Value} {rs : List Rw} (h : OwnRow w base v rs) (hb : Below w.heap.size w w') : OwnRow w' base v rs := by
  rcases h with h | ⟨g, cp, hv, hO⟩
  · exact .inl h
  · refine .inr ⟨g, cp, hv, World.ownsRow.kept hO (grown_of_below hb none) (.inr (fun q => by cases q))⟩
theorem OwnRow.same {w : World} {base : Nat} {v : Value} {rs rs' : List Rw} (h : OwnRow w base v rs) (hu : rs'.map Rw.u = rs.map Rw.u) : OwnRow w base v rs' := by
  have hl : rs'.length = rs.length := by have := congrArg List.length hu; simpa using this
  rcases h with ⟨rfl, h⟩ | ⟨g, cp, hv, hO⟩
  · refine .inl ⟨List.eq_nil_of_length_eq_zero (by simpa using hl), h⟩
  · exact .inr ⟨g, cp, by rw [hl]; exact hv, by rw [hl, hu]; exact hO⟩

def totW : List Rw → Nat
  | [] => 0
  | r :: rs => r.es.length + totW rs
theorem totW_append : ∀ (a b : List Rw), totW (a ++ b) = totW a + totW b
  | [], b => by simp [totW]
  | r :: a, b => by simp [totW, totW_append a b]; omega
theorem totW_take {rs : List Rw} {k : Nat} {r : Rw} (h : rs[k]? = some r) : totW (rs.take (k + 1)) = totW (rs.take k) + r.es.length := by
  rw [List.take_add_one, h, totW_append]; simp [totW]
theorem totW_le (rs : List Rw) (k : Nat) : totW (rs.take k) ≤ totW rs := by
  have h := totW_append (rs.take k) (rs.drop k)
  rw [List.take_append_drop] at h
  omega
theorem totW_mem {rs : List Rw} {k : Nat} {r : Rw} (h : rs[k]? = some r) : r.es.length ≤ totW rs := by
  have h1 := totW_take h
  have h2 := totW_le rs (k + 1)
  omega
/-- The shape of runs: their slices, blocks and lengths. -/
def shp (r : Rw) : Value × Option Nat × Nat := (r.u, r.k, r.es.length)
theorem shp_u {a b : List Rw} (h : a.map shp = b.map shp) : a.map Rw.u = b.map Rw.u := by
  have := congrArg (List.map Prod.fst) h
  simpa [List.map_map, Function.comp_def, shp] using this
theorem shp_tot : ∀ {a b : List Rw}, a.map shp = b.map shp → totW a = totW b
  | [], [], _ => rfl
  | [], _ :: _, h => by simp at h
  | _ :: _, [], h => by simp at h
  | x :: a, y :: b, h => by
    simp [shp] at h
    have := shp_tot (a := a) (b := b) (by simpa [shp] using h.2)
    simp [totW, this, h.1.2.2]
/-- Runs marked, from 'a' on. -/
def MarkedR (a : Int) (rs : List Rw) : Prop := ∀ i r, rs[i]? = some r → marked (a + totW (rs.take i) * 6) r.es r.es.length
def Apart (rs : List Rw) : Prop := rs.Pairwise fun a b => ∀ k, a.k = some k → b.k ≠ some k
def KeysOf (rs : List Rw) (k : Nat) : Prop := ∃ r ∈ rs, r.k = some k

theorem row_ne {w : World} {base : Nat} {v : Value} {rs : List Rw} {r : Rw} {base' : Nat} (h : OwnRow w base v rs) (hk : OwnK w base' r) : ∀ g, v.ownBlock = some g → rs ≠ [] → r.k ≠ some g := by
  intro g hg hr hkg
  rcases h with ⟨h, _⟩ | ⟨g', cp, rfl, hO⟩
  · exact hr h
  · rcases hk with ⟨h, _⟩ | ⟨g2, cp2, h1, h2, hE⟩
    · rw [h] at hkg; cases hkg
    · rw [h1] at hkg
      have := own_apart hO hE (by decide) g' rfl
      have e1 : g' = g := Option.some.inj hg
      have e2 : g2 = g := Option.some.inj hkg
      subst e1 e2
      exact this rfl

set_option maxHeartbeats 2000000 in
theorem markRunS_gen (base : Nat) (v : Value) (rs : List Rw) (a : Int) (w : World) (hrow : OwnRow w base v rs) (hks : ∀ r ∈ rs, OwnK w base r) (hap : Apart rs) (h0 : 0 < a) (h1 : a + totW rs * 6 ≤ 2 ^ 30) (hn : totW rs ≤ 1048576) (hl : rs.length ≤ 1048576) :
    Calls Tryz.prog 66 #[v, .int .i64 a] w fun e w' =>
      ∃ rs' : List Rw, e = .returned (.int .i64 (a + totW rs * 6)) ∧ rs'.map shp = rs.map shp ∧ OwnRow w' base v rs' ∧ (∀ r ∈ rs', OwnK w' base r) ∧ MarkedR a rs' ∧ Chg (KeysOf rs) w w' := by
  have HA : Hid (OwnRow w base v rs ∧ (∀ r ∈ rs, OwnK w base r) ∧ Apart rs) := ⟨hrow, hks, hap⟩
  have hvl : ∃ ad c, v = .slice ad rs.length c := by
    rcases hrow with ⟨rfl, a, c, h⟩ | ⟨g, cp, h, _⟩
    · exact ⟨a, c, h⟩
    · exact ⟨_, cp, h⟩
  obtain ⟨ad, vc, rfl⟩ := hvl
  clear hrow hks hap
  go_enter Tryz.func66, Tryz.ntmps66
  go_wp2_with fail
  go_loopw [1, 5] (fun c i wr => ∃ (m : Nat) (b : Int) (done : List Rw), m ≤ rs.length ∧ i = .int .i64 m ∧ c = .int .i64 b ∧ b = a + totW (rs.take m) * 6 ∧ done.length = m ∧ done.map shp = (rs.take m).map shp ∧ MarkedR a done ∧ OwnRow wr base (.slice ad rs.length vc) (done ++ rs.drop m) ∧ (∀ r ∈ done ++ rs.drop m, OwnK wr base r) ∧ Chg (KeysOf rs) w wr) (fun _ i _ => rs.length - (intOf i).toNat)
  case atStart => exact ⟨0, a, [], Nat.zero_le _, rfl, rfl, by simp [totW], rfl, rfl, fun i r h => by simp at h, HA.out.1, HA.out.2.1, Chg.refl _ _⟩
  case round =>
    obtain ⟨m, b, done, hm, rfl, rfl, hb, hdl, hds, hmk, hR, hK, hC⟩ := hrel
    have HR : Hid (b = a + totW (rs.take m) * 6 ∧ done.length = m ∧ done.map shp = (rs.take m).map shp ∧ MarkedR a done ∧ OwnRow wr base (.slice ad rs.length vc) (done ++ rs.drop m) ∧ (∀ r ∈ done ++ rs.drop m, OwnK wr base r) ∧ Chg (KeysOf rs) w wr) := ⟨hb, hdl, hds, hmk, hR, hK, hC⟩
    have hb0 : 0 < b := by omega
    have hb1 : b ≤ 2 ^ 30 := by have := totW_le rs m; omega
    clear hb hdl hds hmk hR hK hC
    by_cases hlt : m < rs.length
    · obtain ⟨r, hr⟩ : ∃ r, rs[m]? = some r := ⟨_, List.getElem?_eq_getElem hlt⟩
      have hdr : rs.drop m = r :: rs.drop (m + 1) := by
        obtain ⟨h1, h2⟩ := List.getElem?_eq_some_iff.1 hr
        rw [← h2]; exact List.drop_eq_getElem_cons h1
      obtain ⟨g, hg, c0⟩ : ∃ g, ad = some ⟨g, 0, none⟩ ∧ wr.cell? ⟨g, m, none⟩ = some r.u := by
        rcases HR.out.2.2.2.2.1 with ⟨h, _⟩ | ⟨g, cp, hv, hO⟩
        · rw [hdr] at h; simp at h
        · simp only [Value.slice.injEq] at hv
          refine ⟨g, hv.1, ?_⟩
          have := World.ownsRow.cellAt hO m (by have := HR.out.2.1; simp; omega)
          rw [List.getElem?_map, List.getElem?_append_right (by rw [HR.out.2.1]; exact Nat.le_refl _), HR.out.2.1, Nat.sub_self, hdr] at this
          exact this
      subst hg
      have hru : r.u.cells = #[r.u] := (HR.out.2.2.2.2.2.1 r (by rw [hdr]; simp)).ucells
      have HD : Hid (rs[m]? = some r ∧ rs.drop m = r :: rs.drop (m + 1)) := ⟨hr, hdr⟩
      have hrl : r.es.length ≤ 1048576 := by have := totW_mem hr; omega
      clear hr hdr
      have zm : (m : Int) < (rs.length : Int) := by omega
      go_wp2_with fail
      refine (markK base r b _ (HR.out.2.2.2.2.2.1 r (by rw [HD.out.2]; simp)) hb0 hb1 hrl).mono ?_
      rintro e w1 ⟨R', rfl, hK1, hl1, hm1, hg1⟩
      have HN : Hid (∃ done' : List Rw, done'.length = m + 1 ∧ done'.map shp = (rs.take (m + 1)).map shp ∧ MarkedR a done' ∧ OwnRow w1 base (.slice (some ⟨g, 0, none⟩) rs.length vc) (done' ++ rs.drop (m + 1)) ∧ (∀ r ∈ done' ++ rs.drop (m + 1), OwnK w1 base r) ∧ Chg (KeysOf rs) w w1) := by
        obtain ⟨q1, q2, q3, q4, q5, q6, q7⟩ := HR.out
        have hrm := List.mem_of_getElem? HD.out.1
        have hap : ∀ x ∈ done ++ rs.drop (m + 1), ∀ k, x.k = some k → r.k ≠ some k := by
          intro x hx k hxk hrk
          have hps : (rs.take m ++ r :: rs.drop (m + 1)).Pairwise fun a b => ∀ k, a.k = some k → b.k ≠ some k := by
            have h3 : rs.take m ++ rs.drop m = rs := List.take_append_drop m rs
            rw [HD.out.2] at h3
            rw [h3]; exact HA.out.2.2
          rcases List.mem_append.1 hx with hx | hx
          · obtain ⟨i, hi⟩ := List.getElem?_of_mem hx
            have e1 := congrArg (fun l => l[i]?) q3
            simp only [List.getElem?_map, hi] at e1
            cases h2 : (rs.take m)[i]? with
            | none => rw [h2] at e1; simp at e1
            | some y =>
              rw [h2] at e1
              simp [shp] at e1
              have h4 := (List.pairwise_append.1 hps).2.2 y (List.mem_of_getElem? h2) r (by simp)
              exact h4 k (by rw [← e1.2.1]; exact hxk) hrk
          · have h4 := (List.pairwise_cons.1 (List.pairwise_append.1 hps).2.1).1 x hx
            exact h4 k hrk hxk
        refine ⟨done ++ [⟨r.u, R', r.k⟩], by simp [q2], ?_, ?_, ?_, ?_, ?_⟩
        · rw [List.take_add_one, HD.out.1, List.map_append, List.map_append, q3]
          simp [shp, hl1]
        · intro i x hx
          by_cases hi : i < done.length
          · rw [List.getElem?_append_left hi] at hx
            have := q4 i x hx
            rw [List.take_append_of_le_length (by omega)]
            exact this
          · rw [List.getElem?_append_right (by omega)] at hx
            have h5 : i - done.length = 0 := by
              have := (List.getElem?_eq_some_iff.1 hx).1
              simp at this; omega
            rw [h5] at hx
            simp at hx
            subst hx
            have h6 : i = done.length := by omega
            subst h6
            rw [List.take_append_of_le_length (Nat.le_refl _), List.take_of_length_le (Nat.le_refl _), shp_tot q3, ← q1]
            exact hm1
        · have hsame : (done ++ [Rw.mk r.u R' r.k] ++ rs.drop (m + 1)).map Rw.u = (done ++ rs.drop m).map Rw.u := by rw [HD.out.2]; simp
          refine (q5.kept hg1 (fun g' hg' hne hk' => ?_)).same hsame
          exact row_ne q5 (q6 r (by rw [HD.out.2]; simp)) g' hg' hne hk'
        · intro x hx
          rw [List.append_assoc] at hx
          rcases List.mem_append.1 hx with hx | hx
          · exact (q6 x (List.mem_append_left _ hx)).kept hg1 (fun k hk q => hap x (List.mem_append_left _ hx) k hk q)
          · rcases List.mem_append.1 hx with hx | hx
            · simp at hx
              subst hx
              exact hK1
            · exact (q6 x (by rw [HD.out.2]; exact List.mem_append_right _ (List.mem_cons_of_mem _ hx))).kept hg1 (fun k hk q => hap x (List.mem_append_right _ hx) k hk q)
        · exact q7.trans (Chg.of_grown hg1 (fun k hk => ⟨r, hrm, hk⟩))
      have HB : Hid (b + (r.es.length : Int) * 6 = a + totW (rs.take (m + 1)) * 6) := by
        have h2 := totW_take HD.out.1
        have h3 := HR.out.1
        show b + (r.es.length : Int) * 6 = a + totW (rs.take (m + 1)) * 6
        omega
      clear hK1 hl1 hm1 hg1 c0
      go_wp2_with fail
      go_roundw
      case rel =>
        go_light
        obtain ⟨d', a1, a2, a3, a4, a5, a6⟩ := HN.out
        exact ⟨m + 1, b + r.es.length * 6, d', by omega, by go_num, rfl, HB.out, a1, a2, a3, a4, a5, a6⟩
      case measure => go_light; simp [intOf]; omega
    · have zm : ¬ (m : Int) < (rs.length : Int) := by omega
      have HF : Hid (b = a + totW rs * 6 ∧ done.map shp = rs.map shp ∧ MarkedR a done ∧ OwnRow wr base (.slice ad rs.length vc) done ∧ (∀ r ∈ done, OwnK wr base r) ∧ Chg (KeysOf rs) w wr) := by
        obtain ⟨q1, q2, q3, q4, q5, q6, q7⟩ := HR.out
        rw [List.take_of_length_le (by omega)] at q1 q3
        rw [List.drop_eq_nil_of_le (by omega), List.append_nil] at q5 q6
        exact ⟨q1, q3, q4, q5, q6, q7⟩
      go_wp2_with fail
      go_ret
      exact ⟨by rw [HF.out.1]; rfl, done, HF.out.2.1, HF.out.2.2.2.1, HF.out.2.2.2.2.1, HF.out.2.2.1, HF.out.2.2.2.2.2⟩
end Go.Proofs.YtlgeffinhbodeafGreat

/-
  Marks looked for in runs; marks of tablets.
-/
namespace Go.Proofs.YtlgeffinhbodeafGreat
open Go.ChangeShapes Go.WideShapes Go.ChangeAt Go.RowKit Go.Deep
set_option linter.unusedVariables false
set_option linter.unusedSimpArgs false
set_option maxRecDepth 100000

theorem OwnRow.shape {w : World} {base : Nat} {v : Value} {rs : List Rw} (h : OwnRow w base v rs) : ∃ ad c, v = .slice ad rs.length c ∧ ∀ i r, rs[i]? = some r → ∃ g, ad = some ⟨g, 0, none⟩ ∧ g < w.heap.size ∧ w.cell? ⟨g, i, none⟩ = some r.u := by
  rcases h with ⟨rfl, a, c, h⟩ | ⟨g, cp, hv, hO⟩
  · exact ⟨a, c, h, fun i r hi => by simp at hi⟩
  · refine ⟨_, cp, hv, fun i r hi => ⟨g, rfl, (World.ownsRow.lt hO g rfl).2, ?_⟩⟩
    have hl := (List.getElem?_eq_some_iff.1 hi).1
    have := World.ownsRow.cellAt hO i (by omega)
    rw [List.getElem?_map, hi] at this
    exact this

set_option maxHeartbeats 2000000 in
theorem heldRunS_gen (base : Nat) (v : Value) (rs : List Rw) (a : Int) (w : World) (hrow : OwnRow w base v rs) (hks : ∀ r ∈ rs, OwnK w base r) (hmk : MarkedR a rs) (h0 : 0 < a) (h1 : a + totW rs * 6 ≤ 2 ^ 30) (hn : totW rs ≤ 1048576) (hl : rs.length ≤ 1048576) :
    Calls Tryz.prog 67 #[v, .int .i64 a] w fun e w' => e = .returned (.int .i64 (a + totW rs * 6)) ∧ Below w.heap.size w w' := by
  obtain ⟨ad, vc, rfl, hcell⟩ := hrow.shape
  have HA : Hid ((∀ r ∈ rs, OwnK w base r) ∧ MarkedR a rs ∧ ∀ i r, rs[i]? = some r → ∃ g, ad = some ⟨g, 0, none⟩ ∧ g < w.heap.size ∧ w.cell? ⟨g, i, none⟩ = some r.u) := ⟨hks, hmk, hcell⟩
  clear hrow hks hmk hcell
  go_enter Tryz.func67, Tryz.ntmps67
  go_wp2_with fail
  go_loopw [1, 5] (fun c i wr => ∃ (m : Nat) (b : Int), m ≤ rs.length ∧ i = .int .i64 m ∧ c = .int .i64 b ∧ b = a + totW (rs.take m) * 6 ∧ Below w.heap.size w wr) (fun _ i _ => rs.length - (intOf i).toNat)
  case atStart => exact ⟨0, a, Nat.zero_le _, rfl, rfl, by simp [totW], Below.refl _ _⟩
  case round =>
    obtain ⟨m, b, hm, rfl, rfl, hb, hbw⟩ := hrel
    have HB : Hid (b = a + totW (rs.take m) * 6) := hb
    have hb0 : 0 < b := by omega
    have hb1 : b ≤ 2 ^ 30 := by have := totW_le rs m; omega
    have hsz := hbw.size
    clear hb
    by_cases hlt : m < rs.length
    · obtain ⟨r, hr⟩ : ∃ r, rs[m]? = some r := ⟨_, List.getElem?_eq_getElem hlt⟩
      obtain ⟨g, rfl, hg, c0⟩ := HA.out.2.2 m r hr
      rw [← hbw.cell (p := ⟨g, m, none⟩) (by exact hg)] at c0
      have HR : Hid (rs[m]? = some r ∧ OwnK wr base r ∧ marked b r.es r.es.length) := by
        refine ⟨hr, (HA.out.1 r (List.mem_of_getElem? hr)).below hbw, ?_⟩
        have := HA.out.2.1 m r hr
        rw [← HB.out] at this
        exact this
      have hru := HR.out.2.1.ucells
      have hrl : r.es.length ≤ 1048576 := by have := totW_mem hr; omega
      have HB2 : Hid (b + (r.es.length : Int) * 6 = a + totW (rs.take (m + 1)) * 6) := by
        have h2 := totW_take hr
        have h3 := HB.out
        show b + (r.es.length : Int) * 6 = a + totW (rs.take (m + 1)) * 6
        omega
      clear hr
      have zm : (m : Int) < (rs.length : Int) := by omega
      go_wp2_with fail
      refine (heldK base r b _ HR.out.2.1 HR.out.2.2 hb0 hb1 hrl).mono ?_
      rintro e w1 ⟨rfl, hb2⟩
      have hb3 := hbw.trans (hb2.mono hsz)
      have zz : ¬ b + (r.es.length : Int) * 6 < 0 := by omega
      clear c0 hb2
      go_wp2_with fail
      go_roundw
      case rel => go_light; exact ⟨m + 1, b + r.es.length * 6, by omega, by go_num, rfl, HB2.out, hb3⟩
      case measure => go_light; simp [intOf]; omega
    · have zm : ¬ (m : Int) < (rs.length : Int) := by omega
      have HF : Hid (b = a + totW rs * 6) := by
        have q1 := HB.out
        rw [List.take_of_length_le (by omega)] at q1
        exact q1
      go_wp2_with fail
      go_ret
      exact ⟨by rw [HF.out]; rfl, hbw⟩

/-- A tablet that came back. -/
structure Tx where
  lo : ByteArray
  v : Value
  rs : List Rw
def Tx.pr (t : Tx) : Pr := (t.lo, t.v)
def Tx.tn (t : Tx) : Tn := ⟨t.lo, t.v, t.rs.map Rw.rn⟩
def OwnTRow (w : World) (base : Nat) (v : Value) (ts : List Tx) : Prop :=
  (ts = [] ∧ ∃ a c, v = .slice a 0 c) ∨ ∃ g cp, v = .slice (some ⟨g, 0, none⟩) ts.length cp ∧ OwnP w base g cp (ts.map Tx.pr)
structure OwnSt (w : World) (base : Nat) (v : Value) (ts : List Tx) : Prop where
  row : OwnTRow w base v ts
  runs : ∀ t ∈ ts, OwnRow w base t.v t.rs
  ents : ∀ t ∈ ts, ∀ r ∈ t.rs, OwnK w base r
theorem OwnTRow.kept {w w' : World} {base : Nat} {v : Value} {ts : List Tx} {row : Option Nat} (h : OwnTRow w base v ts) (hg : w.grownBy w' row) (hne : ∀ g, v.ownBlock = some g → ts ≠ [] → row ≠ some g) : OwnTRow w' base v ts := by
  rcases h with h | ⟨g, cp, hv, hO⟩
  · exact .inl h
  · by_cases hr : ts = []
    · subst hr; exact .inl ⟨rfl, _, _, hv⟩
    · exact .inr ⟨g, cp, hv, World.ownsRow.kept hO hg (.inr (fun q => hne g (by rw [hv]; rfl) hr q.symm))⟩
theorem OwnTRow.below {w w' : World} {base : Nat} {v : Value} {ts : List Tx} (h : OwnTRow w base v ts) (hb : Below w.heap.size w w') : OwnTRow w' base v ts := h.kept (grown_of_below hb none) (fun _ _ _ q => by cases q)
theorem OwnSt.below {w w' : World} {base : Nat} {v : Value} {ts : List Tx} (h : OwnSt w base v ts) (hb : Below w.heap.size w w') : OwnSt w' base v ts :=
  ⟨h.row.below hb, fun t ht => (h.runs t ht).below hb, fun t ht r hr => (h.ents t ht r hr).below hb⟩
theorem OwnTRow.ucells {w : World} {base : Nat} {v : Value} {rs : List Tx} (h : OwnTRow w base v rs) : v.cells = #[v] := by
  rcases h with ⟨_, a, c, h⟩ | ⟨g, cp, h, _⟩ <;> rw [h] <;> rfl
theorem OwnSt.ins {w : World} {base : Nat} {v : Value} {ts : List Tx} (h : OwnSt w base v ts) : InTabs w v (ts.map Tx.tn) := by
  rcases h.row with ⟨rfl, a, c, hv⟩ | ⟨g, cp, rfl, hO⟩
  · exact .inl ⟨a, c, hv, rfl⟩
  · have hO1 : w.ownsRow base 56 2 (.slice (some ⟨g, 0, none⟩) ts.length cp) ts.length (cellsP (ts.map Tx.pr)) := by
      have := hO
      unfold OwnP at this
      rw [List.length_map] at this
      exact this
    have hc := OwnRow.caps hO1
    refine .inr ⟨g, 0, cp, by simp, fun i t hi => ?_, hO.lt.2, by simpa using hc.1, hc.2⟩
    rw [List.getElem?_map] at hi
    cases hp : ts[i]? with
    | none => rw [hp] at hi; cases hi
    | some p =>
      rw [hp] at hi
      simp at hi
      subst hi
      have hm := List.mem_of_getElem? hp
      obtain ⟨c0, c1⟩ := hO.cells (p := p.pr) (i := i) (by rw [List.getElem?_map, hp]; rfl)
      rw [Nat.zero_add]
      exact ⟨c0, c1, (h.runs p hm).ins (h.ents p hm)⟩
def KeysT (v : Value) (ts : List Tx) (k : Nat) : Prop := (ts ≠ [] ∧ v.ownBlock = some k) ∨ ∃ t ∈ ts, KeysOf t.rs k
theorem OwnSt.key {w : World} {base : Nat} {v : Value} {ts : List Tx} (h : OwnSt w base v ts) {k : Nat} (hk : KeysT v ts k) : base ≤ k ∧ k < w.heap.size := by
  rcases hk with ⟨hne, hv⟩ | ⟨t, ht, r, hr, hk⟩
  · rcases h.row with ⟨h1, _⟩ | ⟨g, cp, rfl, hO⟩
    · exact absurd h1 hne
    · have : g = k := Option.some.inj hv
      subst this
      exact hO.lt
  · exact (h.ents t ht r hr).key hk
def ApartT (ts : List Tx) : Prop := Apart (ts.flatMap Tx.rs)
def wx (t : Tx) : Nat := 1 + totW t.rs * 6
def totX : List Tx → Nat
  | [] => 0
  | t :: ts => wx t + totX ts
theorem totX_append : ∀ (a b : List Tx), totX (a ++ b) = totX a + totX b
  | [], b => by simp [totX]
  | r :: a, b => by simp [totX, totX_append a b]; omega
theorem totX_take {rs : List Tx} {k : Nat} {r : Tx} (h : rs[k]? = some r) : totX (rs.take (k + 1)) = totX (rs.take k) + wx r := by
  rw [List.take_add_one, h, totX_append]; simp [totX]
theorem totX_le (rs : List Tx) (k : Nat) : totX (rs.take k) ≤ totX rs := by
  have h := totX_append (rs.take k) (rs.drop k)
  rw [List.take_append_drop] at h
  omega
theorem totX_mem {rs : List Tx} {k : Nat} {r : Tx} (h : rs[k]? = some r) : wx r ≤ totX rs := by
  have h1 := totX_take h
  have h2 := totX_le rs (k + 1)
  omega
def shpT (t : Tx) : Value × List (Value × Option Nat × Nat) := (t.v, t.rs.map shp)
theorem shpT_wx {a b : Tx} (h : shpT a = shpT b) : wx a = wx b := by
  simp [shpT] at h
  unfold wx
  rw [shp_tot (by simpa using h.2)]
theorem shpT_tot : ∀ {a b : List Tx}, a.map shpT = b.map shpT → totX a = totX b
  | [], [], _ => rfl
  | [], _ :: _, h => by simp at h
  | _ :: _, [], h => by simp at h
  | x :: a, y :: b, h => by
    rw [List.map_cons, List.map_cons, List.cons.injEq] at h
    have := shpT_tot (a := a) (b := b) h.2
    simp only [totX, this, shpT_wx h.1]
/-- Tablets marked, from 'a' on. -/
def MarkedT (a : Int) (ts : List Tx) : Prop := ∀ i t, ts[i]? = some t → t.lo = mText (a + totX (ts.take i)).toNat ∧ MarkedR (a + totX (ts.take i) + 1) t.rs
end Go.Proofs.YtlgeffinhbodeafGreat

/-
  Marks of tablets and stores, laid and looked for.
-/
namespace Go.Proofs.YtlgeffinhbodeafGreat
open Go.ChangeShapes Go.WideShapes Go.ChangeAt Go.RowKit Go.Deep
set_option linter.unusedVariables false
set_option linter.unusedSimpArgs false
set_option maxRecDepth 100000

theorem trow_row_ne {w : World} {base base' : Nat} {v v' : Value} {ts : List Tx} {rs : List Rw} (h : OwnTRow w base v ts) (h' : OwnRow w base' v' rs) : ∀ g, v.ownBlock = some g → ts ≠ [] → v'.ownBlock = some g → rs ≠ [] → False := by
  intro g hg hts hg' hrs
  rcases h with ⟨h, _⟩ | ⟨g1, cp, rfl, hO⟩
  · exact hts h
  · rcases h' with ⟨h, _⟩ | ⟨g2, cp2, rfl, hO'⟩
    · exact hrs h
    · have e1 : g1 = g := Option.some.inj hg
      have e2 : g2 = g := Option.some.inj hg'
      subst e1 e2
      exact own_apart hO hO' (by decide) _ rfl rfl
theorem trow_k_ne {w : World} {base base' : Nat} {v : Value} {ts : List Tx} {r : Rw} (h : OwnTRow w base v ts) (h' : OwnK w base' r) : ∀ g, v.ownBlock = some g → ts ≠ [] → r.k ≠ some g := by
  intro g hg hts hg'
  rcases h with ⟨h, _⟩ | ⟨g1, cp, rfl, hO⟩
  · exact hts h
  · rcases h' with ⟨h, _⟩ | ⟨g2, cp2, hk, hu, hO'⟩
    · rw [h] at hg'; cases hg'
    · have e1 : g1 = g := Option.some.inj hg
      rw [hk] at hg'
      have e2 : g2 = g := Option.some.inj hg'
      subst e1 e2
      exact own_apart hO hO' (by decide) _ rfl rfl
theorem OwnTRow.chg {S : Nat → Prop} {w w' : World} {base : Nat} {v : Value} {ts : List Tx} (h : OwnTRow w base v ts) (hc : Chg S w w') (hne : ∀ g, v.ownBlock = some g → ts ≠ [] → ¬ S g) : OwnTRow w' base v ts := by
  rcases h with h | ⟨g, cp, hv, hO⟩
  · exact .inl h
  · by_cases hr : ts = []
    · subst hr; exact .inl ⟨rfl, _, _, hv⟩
    · exact .inr ⟨g, cp, hv, own_chg hO hc (fun k q => by have : g = k := Option.some.inj q; subst this; exact hne g (by rw [hv]; rfl) hr)⟩
theorem OwnRow.chg {S : Nat → Prop} {w w' : World} {base : Nat} {v : Value} {ts : List Rw} (h : OwnRow w base v ts) (hc : Chg S w w') (hne : ∀ g, v.ownBlock = some g → ts ≠ [] → ¬ S g) : OwnRow w' base v ts := by
  rcases h with h | ⟨g, cp, hv, hO⟩
  · exact .inl h
  · by_cases hr : ts = []
    · subst hr; exact .inl ⟨rfl, _, _, hv⟩
    · exact .inr ⟨g, cp, hv, own_chg hO hc (fun k q => by have : g = k := Option.some.inj q; subst this; exact hne g (by rw [hv]; rfl) hr)⟩
theorem OwnSt.chg {S : Nat → Prop} {w w' : World} {base : Nat} {v : Value} {ts : List Tx} (h : OwnSt w base v ts) (hc : Chg S w w') (hne : ∀ k, base ≤ k → k < w.heap.size → ¬ S k) : OwnSt w' base v ts := by
  refine ⟨h.row.chg hc (fun g hg hts => ?_), fun t ht => (h.runs t ht).chg hc (fun g hg hts => ?_), fun t ht r hr => (h.ents t ht r hr).chg hc (fun g hg => hne g ((h.ents t ht r hr).key hg).1 ((h.ents t ht r hr).key hg).2)⟩
  · have := h.key (.inl ⟨hts, hg⟩)
    exact hne g this.1 this.2
  · rcases h.runs t ht with ⟨q, _⟩ | ⟨g', cp, hv, hO⟩
    · exact absurd q hts
    · rw [hv] at hg
      have e1 : g' = g := Option.some.inj hg
      subst e1
      have := World.ownsRow.lt hO g' rfl
      exact hne g' this.1 this.2

/-- A tablet's first row set. -/
theorem OwnTRow.put {w : World} {base g : Nat} {n cp : Nat} {ts ts' : List Tx} {m : Nat} {t : Tx} (h : OwnTRow w base (.slice (some ⟨g, 0, none⟩) n cp) ts) (ht : ts[m]? = some t) (lo : ByteArray) (he : ts'.map Tx.pr = (ts.map Tx.pr).set m (lo, t.v)) :
    OwnTRow (w.setCell ⟨g, m * 2, none⟩ (.string lo)) base (.slice (some ⟨g, 0, none⟩) n cp) ts' := by
  rcases h with ⟨rfl, _⟩ | ⟨g', cp', hv, hO⟩
  · simp at ht
  · simp only [Value.slice.injEq, Option.some.injEq, Addr.mk.injEq, and_true, true_and] at hv
    obtain ⟨rfl, rfl, rfl⟩ := hv
    have hl : ts'.length = ts.length := by have := congrArg List.length he; simpa using this
    refine .inr ⟨g, cp, by rw [hl], ?_⟩
    have := hO.set m 0 t.pr (lo, t.v) (.string lo) (by rw [List.getElem?_map, ht]; rfl) (by omega) rfl
    rw [Nat.add_zero] at this
    rw [he]
    exact this

set_option maxHeartbeats 4000000 in
theorem markTabletS_gen (base : Nat) (v : Value) (ts : List Tx) (a : Int) (w : World) (hst : OwnSt w base v ts) (hap : ApartT ts) (h0 : 0 < a) (h1 : a + totX ts ≤ 2 ^ 30) (hn : ∀ t ∈ ts, totW t.rs ≤ 1048576 ∧ t.rs.length ≤ 1048576) (hl : ts.length ≤ 1048576) :
    Calls Tryz.prog 36 #[v, .int .i64 a] w fun e w' =>
      ∃ ts' : List Tx, e = .returned (.int .i64 (a + totX ts)) ∧ ts'.map shpT = ts.map shpT ∧ OwnSt w' base v ts' ∧ MarkedT a ts' ∧ Chg (KeysT v ts) w w' := by
  have HA : Hid (OwnSt w base v ts ∧ ApartT ts ∧ ∀ t ∈ ts, totW t.rs ≤ 1048576 ∧ t.rs.length ≤ 1048576) := ⟨hst, hap, hn⟩
  have hvl : ∃ ad c, v = .slice ad ts.length c := by
    rcases hst.row with ⟨rfl, a, c, h⟩ | ⟨g, cp, h, _⟩
    · exact ⟨a, c, h⟩
    · exact ⟨_, cp, h⟩
  obtain ⟨ad, vc, rfl⟩ := hvl
  clear hst hap hn
  go_enter Tryz.func36, Tryz.ntmps36
  go_wp2_with fail
  go_loopw [1, 5] (fun c i wr => ∃ (m : Nat) (b : Int) (done : List Tx), m ≤ ts.length ∧ i = .int .i64 m ∧ c = .int .i64 b ∧ b = a + totX (ts.take m) ∧ done.length = m ∧ done.map shpT = (ts.take m).map shpT ∧ MarkedT a done ∧ OwnSt wr base (.slice ad ts.length vc) (done ++ ts.drop m) ∧ Chg (KeysT (.slice ad ts.length vc) ts) w wr) (fun _ i _ => ts.length - (intOf i).toNat)
  case atStart => exact ⟨0, a, [], Nat.zero_le _, rfl, rfl, by simp [totX], rfl, rfl, fun i r h => by simp at h, HA.out.1, Chg.refl _ _⟩
  case round =>
    obtain ⟨m, b, done, hm, rfl, rfl, hb, hdl, hds, hmk, hS, hC⟩ := hrel
    have HR : Hid (b = a + totX (ts.take m) ∧ done.length = m ∧ done.map shpT = (ts.take m).map shpT ∧ MarkedT a done ∧ OwnSt wr base (.slice ad ts.length vc) (done ++ ts.drop m) ∧ Chg (KeysT (.slice ad ts.length vc) ts) w wr) := ⟨hb, hdl, hds, hmk, hS, hC⟩
    have hb0 : 0 < b := by omega
    have hb1 : b ≤ 2 ^ 30 := by have := totX_le ts m; omega
    clear hb hdl hds hmk hS hC
    by_cases hlt : m < ts.length
    · obtain ⟨t, ht⟩ : ∃ t, ts[m]? = some t := ⟨_, List.getElem?_eq_getElem hlt⟩
      have hdr : ts.drop m = t :: ts.drop (m + 1) := by
        obtain ⟨h1, h2⟩ := List.getElem?_eq_some_iff.1 ht
        rw [← h2]; exact List.drop_eq_getElem_cons h1
      have hat : (done ++ ts.drop m)[m]? = some t := by
        rw [List.getElem?_append_right (by rw [HR.out.2.1]; exact Nat.le_refl _), HR.out.2.1, Nat.sub_self, hdr]; rfl
      have htm := List.mem_of_getElem? ht
      obtain ⟨g, hg, hO⟩ : ∃ g, ad = some ⟨g, 0, none⟩ ∧ OwnP wr base g vc ((done ++ ts.drop m).map Tx.pr) := by
        rcases HR.out.2.2.2.2.1.row with ⟨h, _⟩ | ⟨g, cp, hv, hO⟩
        · rw [hdr] at h; simp at h
        · simp only [Value.slice.injEq] at hv
          obtain ⟨h1, h2, rfl⟩ := hv
          exact ⟨g, h1, hO⟩
      subst hg
      have htv : t.v.cells = #[t.v] := (HR.out.2.2.2.2.1.runs t (by rw [hdr]; simp)).ucells
      have hw1 : b + 1 + totW t.rs * 6 ≤ 2 ^ 30 := by
        have h2 := totX_take ht
        have h3 := totX_le ts (m + 1)
        have h4 := HR.out.1
        unfold wx at h2
        omega
      have HD : Hid (ts[m]? = some t ∧ ts.drop m = t :: ts.drop (m + 1) ∧ (done ++ ts.drop m)[m]? = some t ∧ OwnP wr base g vc ((done ++ ts.drop m).map Tx.pr) ∧ t ∈ ts ∧ totW t.rs ≤ 1048576 ∧ t.rs.length ≤ 1048576) := ⟨ht, hdr, hat, hO, htm, HA.out.2.2 t htm⟩
      clear ht hdr hat hO htm
      have zm : (m : Int) < (ts.length : Int) := by omega
      go_wp2_with fail
      refine (markText_any b _ hb0 (by omega)).mono ?_
      rintro e w1 ⟨rfl, hb1'⟩
      have hO1 := HD.out.2.2.2.1.below hb1' HD.out.2.2.2.1.lt.2
      obtain ⟨c0, c1⟩ := hO1.cells (p := t.pr) (i := m) (by rw [List.getElem?_map, HD.out.2.2.1]; rfl)
      have hfz := fun j => World.ownsRow.frozenAt hO1 j
      have H1 : Hid (OwnSt w1 base (.slice (some ⟨g, 0, none⟩) ts.length vc) (done ++ ts.drop m) ∧ Below wr.heap.size wr w1) := ⟨HR.out.2.2.2.2.1.below hb1', hb1'⟩
      unfold Tx.pr at c0 c1
      simp only at c0 c1
      clear hO1 hb1'
      -- the tablets with the first row set
      obtain ⟨W2, hW2⟩ : ∃ W2 : World, W2 = w1.setCell ⟨g, m * 2, none⟩ (.string (mText b.toNat)) := ⟨_, rfl⟩
      have H2 : Hid (OwnSt W2 base (.slice (some ⟨g, 0, none⟩) ts.length vc) (done ++ (Tx.mk (mText b.toNat) t.v t.rs) :: ts.drop (m + 1)) ∧ Chg (KeysT (.slice (some ⟨g, 0, none⟩) ts.length vc) ts) wr W2) := by
        have hne : done ++ ts.drop m ≠ [] := by rw [HD.out.2.1]; simp
        have hg1 := grown_set w1 g (m * 2) (.string (mText b.toNat))
        refine ⟨⟨?_, fun x hx => ?_, fun x hx r hr => ?_⟩, ?_⟩
        · rw [hW2]
          refine H1.out.1.row.put HD.out.2.2.1 (mText b.toNat) ?_
          rw [HD.out.2.1, List.map_append, List.map_append, List.set_append_right _ _ (by rw [List.length_map, HR.out.2.1]; exact Nat.le_refl _), List.length_map, HR.out.2.1, Nat.sub_self]
          rfl
        · obtain ⟨y, hy, e1, e2⟩ : ∃ y ∈ done ++ ts.drop m, y.v = x.v ∧ y.rs = x.rs := by
            rcases List.mem_append.1 hx with hx | hx
            · exact ⟨x, List.mem_append_left _ hx, rfl, rfl⟩
            · rcases List.mem_cons.1 hx with rfl | hx
              · exact ⟨t, by rw [HD.out.2.1]; simp, rfl, rfl⟩
              · exact ⟨x, by rw [HD.out.2.1]; exact List.mem_append_right _ (List.mem_cons_of_mem _ hx), rfl, rfl⟩
          have q := H1.out.1.runs y hy
          rw [e1, e2] at q
          rw [hW2]
          exact q.kept hg1 (fun g' hg' hr hk => trow_row_ne H1.out.1.row q g rfl hne (by rw [hg', ← hk]) hr)
        · obtain ⟨y, hy, e2⟩ : ∃ y ∈ done ++ ts.drop m, y.rs = x.rs := by
            rcases List.mem_append.1 hx with hx | hx
            · exact ⟨x, List.mem_append_left _ hx, rfl⟩
            · rcases List.mem_cons.1 hx with rfl | hx
              · exact ⟨t, by rw [HD.out.2.1]; simp, rfl⟩
              · exact ⟨x, by rw [HD.out.2.1]; exact List.mem_append_right _ (List.mem_cons_of_mem _ hx), rfl⟩
          have q := H1.out.1.ents y hy r (by rw [e2]; exact hr)
          rw [hW2]
          exact q.kept hg1 (fun g' hg' hk => trow_k_ne H1.out.1.row q g rfl hne (by rw [hg', ← hk]))
        · rw [hW2]
          refine (Chg.of_below H1.out.2).trans (Chg.of_grown hg1 (fun k hk => .inl ⟨?_, hk⟩))
          intro q
          have := HD.out.2.2.2.2.1
          rw [q] at this
          cases this
      go_wp2_with fail
      rw [← hW2]
      clear hW2 c0 c1 hfz
      have hmem : Tx.mk (mText b.toNat) t.v t.rs ∈ done ++ (Tx.mk (mText b.toNat) t.v t.rs) :: ts.drop (m + 1) := by simp
      have hapt : Apart t.rs := by
        have h3 : ts.take m ++ ts.drop m = ts := List.take_append_drop m ts
        have h4 := HA.out.2.1
        unfold ApartT at h4
        rw [← h3, HD.out.2.1, List.flatMap_append, List.flatMap_cons] at h4
        exact (List.pairwise_append.1 (List.pairwise_append.1 h4).2.1).1
      refine (markRunS_gen base t.v t.rs (b + 1) _ (H2.out.1.runs ⟨mText b.toNat, t.v, t.rs⟩ hmem) (H2.out.1.ents ⟨mText b.toNat, t.v, t.rs⟩ hmem) hapt (by omega) hw1 HD.out.2.2.2.2.2.1 HD.out.2.2.2.2.2.2).mono ?_
      rintro e w3 ⟨rs', rfl, hsh, hrw3, hks3, hmk3, hC3⟩
      have HN : Hid (∃ done' : List Tx, done'.length = m + 1 ∧ done'.map shpT = (ts.take (m + 1)).map shpT ∧ MarkedT a done' ∧ OwnSt w3 base (.slice (some ⟨g, 0, none⟩) ts.length vc) (done' ++ ts.drop (m + 1)) ∧ Chg (KeysT (.slice (some ⟨g, 0, none⟩) ts.length vc) ts) w w3) := by
        obtain ⟨q1, q2, q3, q4, q5, q6⟩ := HR.out
        have hkeys : ∀ x ∈ done ++ ts.drop (m + 1), ∀ r ∈ x.rs, ∀ k, r.k = some k → ¬ KeysOf t.rs k := by
          intro x hx r hr k hk hK
          obtain ⟨s, hs, hsk⟩ := hK
          have h3 : ts.take m ++ ts.drop m = ts := List.take_append_drop m ts
          have h4 := HA.out.2.1
          unfold ApartT at h4
          rw [← h3, HD.out.2.1, List.flatMap_append, List.flatMap_cons] at h4
          rcases List.mem_append.1 hx with hx | hx
          · -- a tablet that has been marked: its runs have the keys of those ahead
            obtain ⟨i, hi⟩ := List.getElem?_of_mem hx
            have e1 := congrArg (fun l => l[i]?) q3
            simp only [List.getElem?_map, hi] at e1
            cases h2 : (ts.take m)[i]? with
            | none => rw [h2] at e1; simp at e1
            | some y =>
              rw [h2] at e1
              simp only [Option.map_some, Option.some.injEq] at e1
              have e2 : x.rs.map shp = y.rs.map shp := by simpa [shpT] using congrArg Prod.snd e1
              obtain ⟨j, hj⟩ := List.getElem?_of_mem hr
              have e3 := congrArg (fun l => l[j]?) e2
              simp only [List.getElem?_map, hj] at e3
              cases h5 : y.rs[j]? with
              | none => rw [h5] at e3; simp at e3
              | some z =>
                rw [h5] at e3
                simp [shp] at e3
                have h6 := (List.pairwise_append.1 h4).2.2 z (List.mem_flatMap.2 ⟨y, List.mem_of_getElem? h2, List.mem_of_getElem? h5⟩) s (List.mem_append_left _ hs)
                exact h6 k (by rw [← e3.2.1]; exact hk) hsk
          · have h6 := (List.pairwise_append.1 (List.pairwise_append.1 h4).2.1).2.2 s hs r (List.mem_flatMap.2 ⟨x, hx, hr⟩)
            exact h6 k hsk hk
        refine ⟨done ++ [⟨mText b.toNat, t.v, rs'⟩], by simp [q2], ?_, ?_, ⟨?_, ?_, ?_⟩, ?_⟩
        · rw [List.take_add_one, HD.out.1, List.map_append, List.map_append, q3]
          simp [shpT, hsh]
        · intro i x hx
          by_cases hi : i < done.length
          · rw [List.getElem?_append_left hi] at hx
            have := q4 i x hx
            rw [List.take_append_of_le_length (by omega)]
            exact this
          · rw [List.getElem?_append_right (by omega)] at hx
            have h5 : i - done.length = 0 := by
              have := (List.getElem?_eq_some_iff.1 hx).1
              simp at this; omega
            rw [h5] at hx
            simp at hx
            subst hx
            have h6 : i = done.length := by omega
            subst h6
            rw [List.take_append_of_le_length (Nat.le_refl _), List.take_of_length_le (Nat.le_refl _), shpT_tot q3, ← q1]
            exact ⟨rfl, hmk3⟩
        · have hsame : (done ++ [Tx.mk (mText b.toNat) t.v rs'] ++ ts.drop (m + 1)).map Tx.pr = (done ++ (Tx.mk (mText b.toNat) t.v t.rs) :: ts.drop (m + 1)).map Tx.pr := by simp [Tx.pr]
          have hr3 := H2.out.1.row.chg hC3 (fun g' hg' hne hK => by
            obtain ⟨s, hs, hsk⟩ := hK
            exact trow_k_ne H2.out.1.row (H2.out.1.ents _ hmem s hs) g' hg' hne hsk)
          have hll := congrArg List.length hsame
          simp only [List.length_map] at hll
          rcases hr3 with ⟨h, _⟩ | ⟨g', cp, hv, hO⟩
          · simp at h
          · exact .inr ⟨g', cp, by rw [hll]; exact hv, by rw [hsame]; exact hO⟩
        · intro x hx
          rw [List.append_assoc] at hx
          have hk : ∀ {y : Tx}, y ∈ done ++ (Tx.mk (mText b.toNat) t.v t.rs) :: ts.drop (m + 1) → OwnRow w3 base y.v y.rs := fun {y} hy => by
            refine (H2.out.1.runs y hy).chg hC3 (fun g' hg' hne hK => ?_)
            obtain ⟨s, hs, hsk⟩ := hK
            exact row_ne (H2.out.1.runs y hy) (H2.out.1.ents _ hmem s hs) g' hg' hne hsk
          rcases List.mem_append.1 hx with hx | hx
          · exact hk (List.mem_append_left _ hx)
          · rcases List.mem_append.1 hx with hx | hx
            · simp at hx
              subst hx
              exact hrw3
            · exact hk (List.mem_append_right _ (List.mem_cons_of_mem _ hx))
        · intro x hx r hr
          rw [List.append_assoc] at hx
          rcases List.mem_append.1 hx with hx | hx
          · exact (H2.out.1.ents x (List.mem_append_left _ hx) r hr).chg hC3 (fun k hk => hkeys x (List.mem_append_left _ hx) r hr k hk)
          · rcases List.mem_append.1 hx with hx | hx
            · simp at hx
              subst hx
              exact hks3 r hr
            · exact (H2.out.1.ents x (List.mem_append_right _ (List.mem_cons_of_mem _ hx)) r hr).chg hC3 (fun k hk => hkeys x (List.mem_append_right _ hx) r hr k hk)
        · exact (q6.trans H2.out.2).trans (hC3.mono (fun k hk => .inr ⟨t, HD.out.2.2.2.2.1, hk⟩))
      have HB : Hid (b + 1 + (totW t.rs : Int) * 6 = a + totX (ts.take (m + 1))) := by
        have h2 := totX_take HD.out.1
        have h3 := HR.out.1
        unfold wx at h2
        show b + 1 + (totW t.rs : Int) * 6 = a + totX (ts.take (m + 1))
        omega
      clear hsh hrw3 hks3 hmk3 hC3 hmem hapt
      go_wp2_with fail
      go_roundw
      case rel =>
        go_light
        obtain ⟨d', a1, a2, a3, a4, a5⟩ := HN.out
        exact ⟨m + 1, b + 1 + totW t.rs * 6, d', by omega, by go_num, rfl, HB.out, a1, a2, a3, a4, a5⟩
      case measure => go_light; simp [intOf]; omega
    · have zm : ¬ (m : Int) < (ts.length : Int) := by omega
      have HF : Hid (b = a + totX ts ∧ done.map shpT = ts.map shpT ∧ MarkedT a done ∧ OwnSt wr base (.slice ad ts.length vc) done ∧ Chg (KeysT (.slice ad ts.length vc) ts) w wr) := by
        obtain ⟨q1, q2, q3, q4, q5, q6⟩ := HR.out
        rw [List.take_of_length_le (by omega)] at q1 q3
        rw [List.drop_eq_nil_of_le (by omega), List.append_nil] at q5
        exact ⟨q1, q3, q4, q5, q6⟩
      go_wp2_with fail
      go_ret
      exact ⟨by rw [HF.out.1]; rfl, done, HF.out.2.1, HF.out.2.2.2.1, HF.out.2.2.1, HF.out.2.2.2.2⟩

set_option maxHeartbeats 4000000 in
theorem heldTabletS_gen (base : Nat) (v : Value) (ts : List Tx) (a : Int) (w : World) (hst : OwnSt w base v ts) (hmk : MarkedT a ts) (h0 : 0 < a) (h1 : a + totX ts ≤ 2 ^ 30) (hn : ∀ t ∈ ts, totW t.rs ≤ 1048576 ∧ t.rs.length ≤ 1048576) (hl : ts.length ≤ 1048576) :
    Calls Tryz.prog 38 #[v, .int .i64 a] w fun e w' => e = .returned (.int .i64 (a + totX ts)) ∧ Below w.heap.size w w' := by
  have HA : Hid (OwnSt w base v ts ∧ MarkedT a ts ∧ ∀ t ∈ ts, totW t.rs ≤ 1048576 ∧ t.rs.length ≤ 1048576) := ⟨hst, hmk, hn⟩
  have hvl : ∃ ad c, v = .slice ad ts.length c := by
    rcases hst.row with ⟨rfl, a, c, h⟩ | ⟨g, cp, h, _⟩
    · exact ⟨a, c, h⟩
    · exact ⟨_, cp, h⟩
  obtain ⟨ad, vc, rfl⟩ := hvl
  clear hst hmk hn
  go_enter Tryz.func38, Tryz.ntmps38
  go_wp2_with fail
  go_loopw [1, 5] (fun c i wr => ∃ (m : Nat) (b : Int), m ≤ ts.length ∧ i = .int .i64 m ∧ c = .int .i64 b ∧ b = a + totX (ts.take m) ∧ Below w.heap.size w wr) (fun _ i _ => ts.length - (intOf i).toNat)
  case atStart => exact ⟨0, a, Nat.zero_le _, rfl, rfl, by simp [totX], Below.refl _ _⟩
  case round =>
    obtain ⟨m, b, hm, rfl, rfl, hb, hbw⟩ := hrel
    have HB : Hid (b = a + totX (ts.take m)) := hb
    have hb0 : 0 < b := by omega
    have hb1 : b ≤ 2 ^ 30 := by have := totX_le ts m; omega
    have hsz := hbw.size
    clear hb
    by_cases hlt : m < ts.length
    · obtain ⟨t, ht⟩ : ∃ t, ts[m]? = some t := ⟨_, List.getElem?_eq_getElem hlt⟩
      have htm := List.mem_of_getElem? ht
      obtain ⟨g, hg, hO⟩ : ∃ g, ad = some ⟨g, 0, none⟩ ∧ OwnP w base g vc (ts.map Tx.pr) := by
        rcases HA.out.1.row with ⟨h, _⟩ | ⟨g, cp, hv, hO⟩
        · rw [h] at ht; simp at ht
        · simp only [Value.slice.injEq] at hv
          obtain ⟨h1, h2, rfl⟩ := hv
          exact ⟨g, h1, hO⟩
      subst hg
      have htv : t.v.cells = #[t.v] := (HA.out.1.runs t htm).ucells
      have hmt := HA.out.2.1 m t ht
      rw [← HB.out] at hmt
      have hw1 : b + 1 + totW t.rs * 6 ≤ 2 ^ 30 := by
        have h2 := totX_take ht
        have h3 := totX_le ts (m + 1)
        have h4 := HB.out
        unfold wx at h2
        omega
      have HB2 : Hid (b + 1 + (totW t.rs : Int) * 6 = a + totX (ts.take (m + 1))) := by
        have h2 := totX_take ht
        have h3 := HB.out
        unfold wx at h2
        show b + 1 + (totW t.rs : Int) * 6 = a + totX (ts.take (m + 1))
        omega
      have hpr : (ts.map Tx.pr)[m]? = some (mText b.toNat, t.v) := by rw [List.getElem?_map, ht, ← hmt.1]; rfl
      have HD : Hid (t ∈ ts ∧ OwnP w base g vc (ts.map Tx.pr) ∧ (ts.map Tx.pr)[m]? = some (mText b.toNat, t.v) ∧ MarkedR (b + 1) t.rs ∧ (totW t.rs ≤ 1048576 ∧ t.rs.length ≤ 1048576)) := ⟨htm, hO, hpr, hmt.2, HA.out.2.2 t htm⟩
      have hgl := hO.lt.2
      clear ht hO htm hmt hpr
      have c0 : ∀ n : Out wr, n.u.cell? ⟨g, m * 2, none⟩ = some (.string (mText b.toNat)) := fun n => ((HD.out.2.1.below (hbw.trans (n.out.mono hsz)) hgl).cells HD.out.2.2.1).1
      have zm : (m : Int) < (ts.length : Int) := by omega
      have inh : Nonempty (Out wr) := ⟨⟨wr, Below.refl _ _⟩⟩
      go_upto_region 4 with fail
      refine wp_region_out (by kernel_rfl) (by kernel_rfl) ?_
      repeat (go_big_quiet_step ((go_at_call 37; exact Calls.out_of (markText_any b _ hb0 (by omega)))))
      refine wpQuiet_nil ?_
      rintro wy ⟨⟨wx', hby⟩, rfl⟩
      have hbw2 := hbw.trans (hby.mono hsz)
      have hsz2 := hbw2.size
      obtain ⟨_, c1⟩ := (HD.out.2.1.below hbw2 hgl).cells HD.out.2.2.1
      clear c0 hby
      go_wp2_with fail
      refine (heldRunS_gen base t.v t.rs (b + 1) _ ((HA.out.1.below hbw2).runs t HD.out.1) ((HA.out.1.below hbw2).ents t HD.out.1) HD.out.2.2.2.1 (by omega) hw1 HD.out.2.2.2.2.1 HD.out.2.2.2.2.2).mono ?_
      rintro e w1 ⟨rfl, hb2⟩
      have hb3 := hbw2.trans (hb2.mono hsz2)
      have zz : ¬ b + 1 + (totW t.rs : Int) * 6 < 0 := by omega
      clear c1 hb2
      go_wp2_with fail
      go_roundw
      case rel => go_light; exact ⟨m + 1, b + 1 + totW t.rs * 6, by omega, by go_num, rfl, HB2.out, hb3⟩
      case measure => go_light; simp [intOf]; omega
    · have zm : ¬ (m : Int) < (ts.length : Int) := by omega
      have HF : Hid (b = a + totX ts) := by
        have q1 := HB.out
        rw [List.take_of_length_le (by omega)] at q1
        exact q1
      go_wp2_with fail
      go_ret
      exact ⟨by rw [HF.out]; rfl, hbw⟩

set_option maxHeartbeats 1000000 in
theorem markStore_gen (base : Nat) (v : Value) (ts : List Tx) (a : Int) (w : World) (hst : OwnSt w base v ts) (hap : ApartT ts) (h0 : 0 < a) (h1 : a + totX ts ≤ 2 ^ 30) (hn : ∀ t ∈ ts, totW t.rs ≤ 1048576 ∧ t.rs.length ≤ 1048576) (hl : ts.length ≤ 1048576) :
    Calls Tryz.prog 13 #[.agg #[v], .int .i64 a] w fun e w' =>
      ∃ ts' : List Tx, e = .returned (.int .i64 (a + totX ts)) ∧ ts'.map shpT = ts.map shpT ∧ OwnSt w' base v ts' ∧ MarkedT a ts' ∧ Chg (KeysT v ts) w w' := by
  have hu := hst.row.ucells
  have hb0 : Below w.heap.size w (w.alloc (Obj.cells #[v] 30)) := (Below.refl _ _).alloc (Nat.le_refl _) _
  have HU : Hid (OwnSt (w.alloc (Obj.cells #[v] 30)) base v ts ∧ ApartT ts ∧ ∀ t ∈ ts, totW t.rs ≤ 1048576 ∧ t.rs.length ≤ 1048576) := ⟨hst.below hb0, hap, hn⟩
  clear hst hap hn
  go_enter Tryz.func13, Tryz.ntmps13
  go_wp2_with fail
  refine (markTabletS_gen base v ts a _ HU.out.1 HU.out.2.1 h0 h1 HU.out.2.2 hl).mono ?_
  rintro e w1 ⟨ts', rfl, h2, h3, h4, h5⟩
  have HF : Hid (ts'.map shpT = ts.map shpT ∧ OwnSt w1 base v ts' ∧ MarkedT a ts' ∧ Chg (KeysT v ts) w w1) := ⟨h2, h3, h4, (Chg.of_below hb0).trans h5⟩
  clear h2 h3 h4 h5
  go_wp2_with fail
  go_ret
  exact ⟨ts', rfl, HF.out.1, HF.out.2.1, HF.out.2.2.1, HF.out.2.2.2⟩
set_option maxHeartbeats 1000000 in
theorem heldStore_gen (base : Nat) (v : Value) (ts : List Tx) (a : Int) (w : World) (hst : OwnSt w base v ts) (hmk : MarkedT a ts) (h0 : 0 < a) (h1 : a + totX ts ≤ 2 ^ 30) (hn : ∀ t ∈ ts, totW t.rs ≤ 1048576 ∧ t.rs.length ≤ 1048576) (hl : ts.length ≤ 1048576) :
    Calls Tryz.prog 15 #[.agg #[v], .int .i64 a] w fun e w' => e = .returned (.int .i64 (a + totX ts)) ∧ Below w.heap.size w w' := by
  have hu := hst.row.ucells
  have hb0 : Below w.heap.size w (w.alloc (Obj.cells #[v] 30)) := (Below.refl _ _).alloc (Nat.le_refl _) _
  have HU : Hid (OwnSt (w.alloc (Obj.cells #[v] 30)) base v ts ∧ MarkedT a ts ∧ ∀ t ∈ ts, totW t.rs ≤ 1048576 ∧ t.rs.length ≤ 1048576) := ⟨hst.below hb0, hmk, hn⟩
  clear hst hmk hn
  go_enter Tryz.func15, Tryz.ntmps15
  go_wp2_with fail
  refine (heldTabletS_gen base v ts a _ HU.out.1 HU.out.2.1 h0 h1 HU.out.2.2 hl).mono ?_
  rintro e w1 ⟨rfl, hb1⟩
  have zz : ¬ a + (totX ts : Int) < 0 := by omega
  go_wp2_with fail
  go_ret
  exact ⟨rfl, hb0.trans (hb1.mono (by simp))⟩
theorem shpT_ok {a b : List Tx} (h : a.map shpT = b.map shpT) (hn : ∀ t ∈ b, totW t.rs ≤ 1048576 ∧ t.rs.length ≤ 1048576) : ∀ t ∈ a, totW t.rs ≤ 1048576 ∧ t.rs.length ≤ 1048576 := by
  intro t ht
  have h1 : shpT t ∈ b.map shpT := by rw [← h]; exact List.mem_map.2 ⟨t, ht, rfl⟩
  obtain ⟨u, hu, he⟩ := List.mem_map.1 h1
  have e2 : u.rs.map shp = t.rs.map shp := by simpa [shpT] using congrArg Prod.snd he
  have := hn u hu
  have e3 := congrArg List.length e2
  simp at e3
  rw [← shp_tot e2, ← e3]
  exact this
end Go.Proofs.YtlgeffinhbodeafGreat

/-
  Tablets as they are read by a copy; spec.l7CopyRuns.
-/
namespace Go.Proofs.YtlgeffinhbodeafGreat
open Go.ChangeShapes Go.WideShapes Go.ChangeAt Go.RowKit Go.Deep
set_option linter.unusedVariables false
set_option linter.unusedSimpArgs false
set_option maxRecDepth 100000

/-- A slice of runs, nil too. -/
def InRms (w : World) (v : Value) (l : List Rm) : Prop :=
  (∃ a cap, v = .slice a 0 cap ∧ l = []) ∨ ∃ b off cap, v = .slice (some ⟨b, off, none⟩) l.length cap ∧ RmsAt w b off l ∧ b < w.heap.size ∧ l.length ≤ cap ∧ cap ≤ maxLen
theorem InRms.below {w w' : World} {v : Value} {l : List Rm} (h : InRms w v l) (hb : Below w.heap.size w w') : InRms w' v l := by
  rcases h with h | ⟨b, off, cap, hv, hE, hlt, h1, h2⟩
  · exact .inl h
  · exact .inr ⟨b, off, cap, hv, hE.below hb hlt, by have := hb.size; omega, h1, h2⟩
theorem InRms.ucells {w : World} {v : Value} {l : List Rm} (h : InRms w v l) : v.cells = #[v] := by
  rcases h with ⟨a, cap, rfl, _⟩ | ⟨b, off, cap, rfl, _⟩ <;> rfl
theorem InRms.one {w : World} {v : Value} {l : List Rm} (h : InRms w v l) : v.oneCell' = true := by
  rcases h with ⟨a, cap, rfl, _⟩ | ⟨b, off, cap, rfl, _⟩ <;> rfl
theorem InRms.shape {w : World} {v : Value} {l : List Rm} (h : InRms w v l) : ∃ ad c, v = .slice ad l.length c ∧ ∀ (i : Nat) (r : Rm), l[i]? = some r → ∃ b off, ad = some ⟨b, off, none⟩ ∧ b < w.heap.size ∧ RmsAt w b off l := by
  rcases h with ⟨a, cap, rfl, rfl⟩ | ⟨b, off, cap, rfl, hE, hlt, h1, h2⟩
  · exact ⟨a, cap, rfl, fun i r hi => by simp at hi⟩
  · exact ⟨_, cap, rfl, fun i r hi => ⟨b, off, rfl, hlt, hE⟩⟩
theorem OwnRow.of {w : World} {base : Nat} {v : Value} {rs : List Rw} {us : List Value} (h : w.ownsRow base 58 1 v us.length us) (hu : us = rs.map Rw.u) : OwnRow w base v rs := by
  have hl : us.length = rs.length := by rw [hu, List.length_map]
  rcases h.2 with ⟨h0, h1⟩ | ⟨g, cap, cur, hv, _⟩
  · refine .inl ⟨List.eq_nil_of_length_eq_zero (by omega), none, 0, h0⟩
  · refine .inr ⟨g, cap, by rw [← hl]; exact hv, ?_⟩
    rw [hl, hu] at h
    rw [hl] at hv
    rw [hv] at h
    exact h
/-- Runs copied: a row of the call's own, and entries of the call's own in blocks apart. -/
structure CopyR (w : World) (base : Nat) (v : Value) (l : List Rm) (rs : List Rw) : Prop where
  row : OwnRow w base v rs
  ents : ∀ r ∈ rs, OwnK w base r
  apart : Apart rs
  same : rs.map Rw.es = esM l
theorem CopyR.below {w w' : World} {base : Nat} {v : Value} {l : List Rm} {rs : List Rw} (h : CopyR w base v l rs) (hb : Below w.heap.size w w') : CopyR w' base v l rs :=
  ⟨h.row.below hb, fun r hr => (h.ents r hr).below hb, h.apart, h.same⟩
theorem OwnE.mono' {w : World} {base base' g cap : Nat} {es : List Ent} (h : OwnE w base g cap es) (hb : base' ≤ base) : OwnE w base' g cap es := h.mono hb
theorem OwnK.mono {w : World} {base base' : Nat} {r : Rw} (h : OwnK w base r) (hb : base' ≤ base) : OwnK w base' r := by
  rcases h with h | ⟨g, cp, hk, hu, hO⟩
  · exact .inl h
  · exact .inr ⟨g, cp, hk, hu, hO.mono hb⟩
theorem row_mono {w : World} {base base' e size : Nat} {v : Value} {n : Nat} {xs : List Value} (h : w.ownsRow base e size v n xs) (hb : base' ≤ base) : w.ownsRow base' e size v n xs := by
  refine ⟨h.1, ?_⟩
  rcases h.2 with hn | ⟨g', cap', cur, hv, h1, rest⟩
  · exact .inl hn
  · exact .inr ⟨g', cap', cur, hv, Nat.le_trans hb h1, rest⟩
theorem OwnRow.mono {w : World} {base base' : Nat} {v : Value} {rs : List Rw} (h : OwnRow w base v rs) (hb : base' ≤ base) : OwnRow w base' v rs := by
  rcases h with h | ⟨g, cp, hv, hO⟩
  · exact .inl h
  · exact .inr ⟨g, cp, hv, row_mono hO hb⟩
/-- One copied run more: its entries lie in a block that is new. -/
theorem apart_snoc {rs : List Rw} {r : Rw} {n : Nat} (h : Apart rs) (h1 : ∀ x ∈ rs, ∀ k, x.k = some k → k < n) (h2 : ∀ k, r.k = some k → n ≤ k) : Apart (rs ++ [r]) := by
  refine List.pairwise_append.2 ⟨h, by simp, fun a ha b hb k hk hk' => ?_⟩
  simp at hb
  subst hb
  have := h1 a ha k hk
  have := h2 k hk'
  omega
theorem one_cell_new {w : World} {x : Value} {t : TypeId} : ∀ j u, [x][j]? = some u → (w.alloc (.cells #[x] t)).cell? ⟨w.heap.size, 0 + j, none⟩ = some u := by
  intro j u hj
  have := cell_one_new w x t j u hj
  rw [Addr.add_mid] at this
  exact this
def totM : List Rm → Nat
  | [] => 0
  | r :: rs => r.es.length + totM rs
theorem totM_mem {l : List Rm} {r : Rm} (h : r ∈ l) : r.es.length ≤ totM l := by
  induction l with
  | nil => cases h
  | cons a l ih =>
    rcases List.mem_cons.1 h with rfl | h
    · simp [totM]
    · have := ih h; simp only [totM]; omega

/-- What a copy of runs hands back. -/
def CpRPost (w : World) (l : List Rm) (e : Ending) (w' : World) : Prop := ∃ (u : Value) (rs : List Rw), e = .returned u ∧ CopyR w' w.heap.size u l rs ∧ (∃ g cp, u = .slice (some ⟨g, 0, none⟩) rs.length cp ∧ w'.ownsRow w.heap.size 58 1 (.slice (some ⟨g, 0, none⟩) rs.length cp) rs.length (rs.map Rw.u)) ∧ Below w.heap.size w w'

set_option maxHeartbeats 4000000 in
theorem specCopyRuns_core (v : Value) (l : List Rm) (w : World) (h : InRms w v l) (hn : l.length ≤ 1048576) (ht : totM l ≤ 1048576) :
    Calls Tryz.prog 48 #[v] w fun e w' => CpRPost w l e w' := by
  obtain ⟨ad, vc, rfl, hcell⟩ := h.shape
  have HA : Hid (∀ (i : Nat) (r : Rm), l[i]? = some r → ∃ b off, ad = some ⟨b, off, none⟩ ∧ b < w.heap.size ∧ RmsAt w b off l) := hcell
  clear h hcell
  obtain ⟨W0, hW0⟩ : ∃ W0 : World, W0 = w.alloc (Obj.cells #[] 58) := ⟨_, rfl⟩
  have hb0 : Below w.heap.size w W0 := by rw [hW0]; exact (Below.refl _ _).alloc (Nat.le_refl _) _
  have hz0 : W0.heap.size = w.heap.size + 1 := by rw [hW0]; simp
  have HR0 : Hid (W0.ownsRow w.heap.size 58 1 (.slice (some ⟨w.heap.size, 0, none⟩) 0 0) 0 []) := by rw [hW0]; exact ownR_empty w _ (Nat.le_refl _)
  go_enter Tryz.func48, Tryz.ntmps48
  go_wp2_with fail
  rw [← hW0]
  clear hW0
  go_loopw [3, 4] (fun o i wr => ∃ (k g cp : Nat) (rs : List Rw), k ≤ l.length ∧ i = .int .i64 k ∧ o = .slice (some ⟨g, 0, none⟩) k cp ∧ rs.length = k ∧ rs.map Rw.es = esM (l.take k) ∧ wr.ownsRow w.heap.size 58 1 (.slice (some ⟨g, 0, none⟩) k cp) k (rs.map Rw.u) ∧ (∀ r ∈ rs, OwnK wr w.heap.size r) ∧ Apart rs ∧ Below w.heap.size w wr) (fun _ i _ => l.length - (intOf i).toNat)
  case atStart => exact ⟨0, w.heap.size, 0, [], Nat.zero_le _, rfl, rfl, rfl, rfl, HR0.out, fun r hr => by simp at hr, List.Pairwise.nil, hb0⟩
  case round =>
    obtain ⟨k, g, cp, rs, hk, rfl, rfl, hrl, hes, hrow, hks, hap, hb⟩ := hrel
    have HR : Hid (rs.length = k ∧ rs.map Rw.es = esM (l.take k) ∧ wr.ownsRow w.heap.size 58 1 (.slice (some ⟨g, 0, none⟩) k cp) k (rs.map Rw.u) ∧ (∀ r ∈ rs, OwnK wr w.heap.size r) ∧ Apart rs) := ⟨hrl, hes, hrow, hks, hap⟩
    have hg := World.ownsRow.lt hrow g rfl
    have hsz := hb.size
    clear hrl hes hrow hks hap
    by_cases hlt : k < l.length
    · obtain ⟨r, hr⟩ : ∃ r, l[k]? = some r := ⟨_, List.getElem?_eq_getElem hlt⟩
      obtain ⟨b, off, rfl, hB, hat⟩ := HA.out k r hr
      obtain ⟨c0, ha⟩ := (hat.below hb hB) k r hr
      have hrm := List.mem_of_getElem? hr
      have hrt : r.es.length ≤ 1048576 := by have := totM_mem hrm; omega
      have HD : Hid (l[k]? = some r ∧ r.at wr) := ⟨hr, ha⟩
      clear hr ha hat hrm
      have zk : (k : Int) < (l.length : Int) := by omega
      -- the new empty row of entries
      obtain ⟨W1, hW1⟩ : ∃ W1 : World, W1 = wr.alloc (Obj.cells #[] 61) := ⟨_, rfl⟩
      have hbA : Below wr.heap.size wr W1 := by rw [hW1]; exact (Below.refl _ _).alloc (Nat.le_refl _) _
      have hzA : W1.heap.size = wr.heap.size + 1 := by rw [hW1]; simp
      have HE1 : Hid (OwnE W1 wr.heap.size wr.heap.size 0 []) := by rw [hW1]; exact ownE_empty wr _ (Nat.le_refl _)
      have c1 : W1.cell? ⟨b, off + k, none⟩ = some (.slice (some ⟨r.b, r.off, none⟩) r.es.length r.cap) := by rw [hbA.cell (p := ⟨b, off + k, none⟩) (by show b < _; omega)]; exact c0
      have c1' : (wr.alloc (Obj.cells #[] 61)).cell? ⟨b, off + k, none⟩ = some (.slice (some ⟨r.b, r.off, none⟩) r.es.length r.cap) := by rw [← hW1]; exact c1
      go_wp2_with (at_builtin; rw [← hW1]; refine wpList_append_entO _ rfl _ _ rfl wr.heap.size wr.heap.size 0 0 r.b r.off r.es.length r.cap [] r.es rfl rfl rfl rfl HE1.out ?hc ?hl ?hb ?_)
      case hc => exact (HD.out.2.below hbA).ents
      case hl => simp; omega
      case hb => omega
      intro g' cp' w2 hO' hgr hat'
      rw [← hW1] at hgr
      have hb2 : Below wr.heap.size wr w2 := hbA.grown hgr hbA.size (fun j hj => by cases hj; exact Nat.le_refl _)
      have HO2 : Hid (OwnE w2 wr.heap.size g' cp' r.es) := hO'
      have s2 := hb2.size
      clear hO' hgr hW1 c1 c1' c0
      have hus : (rs.map Rw.u).length = k := by rw [List.length_map]; exact HR.out.1
      have HR2 : Hid ((w2.alloc (Obj.cells #[.slice (some ⟨g', 0, none⟩) r.es.length cp'] 58)).ownsRow w.heap.size 58 1 (.slice (some ⟨g, 0, none⟩) k cp) (rs.map Rw.u).length (rs.map Rw.u)) := by
        show World.ownsRow _ _ _ _ _ _ _
        rw [hus]
        exact World.ownsRow.alloc (World.ownsRow.kept HR.out.2.2.1 (grown_of_below hb2 none) (.inr (fun q => by cases q))) _
      go_wp2_with (at_builtin; refine wpList_append_runO _ rfl _ _ rfl w.heap.size (.slice (some ⟨g, 0, none⟩) k cp) (rs.map Rw.u) w2.heap.size 0 1 1 [.slice (some ⟨g', 0, none⟩) r.es.length cp'] rfl rfl rfl HR2.out one_cell_new ?h1 ?hl ?hb ?_)
      case h1 => intro u hu; simp at hu; subst hu; rfl
      case hl => rw [hus]; simp; omega
      case hb => simp; omega
      intro v' w3 hA3
      have hz : (rs.map Rw.u ++ [Value.slice (some ⟨g', 0, none⟩) r.es.length cp']).length = k + 1 := by simp [hus]
      obtain ⟨g3, cp3, rfl⟩ := hA3.form (by intro q; cases q)
      have hO3 := hA3.row
      rw [hz] at hO3 ⊢
      have hgr3 := hA3.grown
      clear hA3
      have HN : Hid (∃ rs' : List Rw, rs'.length = k + 1 ∧ rs'.map Rw.es = esM (l.take (k + 1)) ∧ w3.ownsRow w.heap.size 58 1 (.slice (some ⟨g3, 0, none⟩) (k + 1) cp3) (k + 1) (rs'.map Rw.u) ∧ (∀ r ∈ rs', OwnK w3 w.heap.size r) ∧ Apart rs') := by
        obtain ⟨q1, q2, q3, q4, q5⟩ := HR.out
        have hbz : Below w2.heap.size w2 (w2.alloc (Obj.cells #[.slice (some ⟨g', 0, none⟩) r.es.length cp'] 58)) := (Below.refl _ _).alloc (Nat.le_refl _) _
        have hkk : ∀ x : Rw, OwnK w2 w.heap.size x → OwnK w3 w.heap.size x := fun x hx => by
          refine (hx.below hbz).kept hgr3 (fun k' hk' q => ?_)
          -- the row of runs is no row of entries
          have hq : g = k' := Option.some.inj q
          subst hq
          rcases hx with ⟨h0, _⟩ | ⟨g2, cp2, h1, h2, hE⟩
          · rw [h0] at hk'; cases hk'
          · rw [h1] at hk'
            have e2 : g2 = g := Option.some.inj hk'
            subst e2
            exact own_apart (World.ownsRow.kept q3 (grown_of_below hb2 none) (.inr (fun q => by cases q))) hE (by decide) _ rfl rfl
        refine ⟨rs ++ [⟨.slice (some ⟨g', 0, none⟩) r.es.length cp', r.es, some g'⟩], by simp [q1], ?_, ?_, ?_, ?_⟩
        · rw [List.map_append, q2, List.take_add_one, HD.out.1]; simp [esM]
        · rw [List.map_append]
          exact hO3
        · intro x hx
          rcases List.mem_append.1 hx with hx | hx
          · exact hkk x ((q4 x hx).below hb2)
          · simp at hx
            subst hx
            exact hkk _ ((OwnK.mono (.inr ⟨g', cp', rfl, rfl, HO2.out⟩) (by omega)))
        · refine apart_snoc (n := wr.heap.size) q5 (fun x hx k' hk' => ((q4 x hx).key hk').2) (fun k' hk' => ?_)
          have e2 : g' = k' := Option.some.inj hk'
          subst e2
          exact HO2.out.lt.1
      have hb3 : Below w.heap.size w w3 := ((hb.trans (hb2.mono hsz)).alloc (by omega) _).grown hgr3 (by simp; omega) (fun j hj => by cases hj; exact hg.1)
      clear hO3 hgr3 hus hz
      go_wp2_with fail
      go_roundw
      case rel =>
        go_light
        obtain ⟨rs', a1, a2, a3, a4, a5⟩ := HN.out
        exact ⟨k + 1, g3, cp3, rs', by omega, by go_num, rfl, a1, a2, a3, a4, a5, hb3⟩
      case measure => go_light; simp [intOf]; omega
    · have zk : ¬ (k : Int) < (l.length : Int) := by omega
      have HF : Hid (∃ rs : List Rw, CopyR wr w.heap.size (.slice (some ⟨g, 0, none⟩) k cp) l rs ∧ rs.length = k ∧ wr.ownsRow w.heap.size 58 1 (.slice (some ⟨g, 0, none⟩) rs.length cp) rs.length (rs.map Rw.u)) := by
        obtain ⟨q1, q2, q3, q4, q5⟩ := HR.out
        refine ⟨rs, ⟨OwnRow.of (us := rs.map Rw.u) ?_ rfl, q4, q5, ?_⟩, q1, by rw [q1]; exact q3⟩
        · rw [List.length_map, q1]; exact q3
        · rw [List.take_of_length_le (by omega)] at q2; exact q2
      go_wp2_with fail
      go_ret
      obtain ⟨rs', hc, hl', hr'⟩ := HF.out
      exact ⟨_, rs', rfl, hc, ⟨g, cp, (by rw [hl']; rfl), hr'⟩, hb⟩
end Go.Proofs.YtlgeffinhbodeafGreat

/-
  A region that draws its order and whose last operation stores: what is read ahead of it is taken first.
-/
namespace Go.Proofs.YtlgeffinhbodeafGreat
open Go.ChangeShapes Go.WideShapes Go.ChangeAt Go.RowKit Go.Deep
set_option linter.unusedVariables false

section
variable {P : Program} {ops : Array Oper} {Q : Exit → Act → World → Prop} {md : Region.Mode} {S : World → Prop} {L : Nat}

/-- Whatever order is picked: 'S' holds behind every operation but number 'L'. -/
def AnyT (P : Program) (md : Region.Mode) (ops : Array Oper) (Q : Exit → Act → World → Prop) (S : World → Prop) (L : Nat) : Nat → Array Bool → Act → World → Prop
  | 0, listed, a, w => Region.ready md ops listed = [] ∧ Q .normal a w
  | fuel + 1, listed, a, w =>
    (Region.ready md ops listed = [] → Q .normal a w) ∧
    ∀ i ∈ Region.ready md ops listed, wpOp P ops Q i (fun a' w' => (i = L ∨ S w') ∧ AnyT P md ops Q S L fuel (listed.setIfInBounds i true) a' w') a w
theorem any_of_T : ∀ (fuel : Nat) (listed : Array Bool) (a : Act) (w : World), AnyT P md ops Q S L fuel listed a w → wpAny P md ops Q fuel listed a w
  | 0, _, _, _, h => h
  | fuel + 1, _, _, _, h => ⟨h.1, fun i hi => wpOp_mono (fun a' w' h' => any_of_T fuel _ a' w' h'.2) (h.2 i hi)⟩
/-- Operation 'L' waits for number 'i'. -/
def waitsT (md : Region.Mode) (ops : Array Oper) (L i : Nat) : Bool := ((ops[L]?).map (fun o => o.after.any fun e => Region.binds md e && e.on == i)).getD false
theorem anyT_first {i : Nat} {oi : Oper} {v : Value} (hi : ops[i]? = some oi) (hsel : ∀ (j : Nat) (o : Oper) cs b, ops[j]? = some o → o.op ≠ .select cs b)
    (hQ : ∀ c a w, Q (.panic c) (a.put oi.dst v) w → Q (.panic c) a w) (hL : waitsT md ops L i = true) (hne : i ≠ L) :
    ∀ (fuel : Nat) (listed : Array Bool) (a : Act) (w : World),
      (∀ j oj, ops[j]? = some oj → j ≠ i → listed.getD j true = false → (∀ e ∈ oj.after, Region.binds md e = true → e.on ≠ i) → oi.apart ops oj = true) →
      i ∈ Region.ready md ops listed → YieldsIf P ops S oi v a → S w →
      AnyT P md ops Q S L fuel (listed.setIfInBounds i true) (a.put oi.dst v) w → AnyT P md ops Q S L (fuel + 1) listed a w := by
  intro fuel
  induction fuel with
  | zero =>
    intro listed a w _ hr hy hS H
    refine ⟨fun h => (by rw [h] at hr; cases hr), fun j hj => ?_⟩
    by_cases hji : j = i
    · subst hji; exact hy.wpOp hi hS ⟨.inr hS, H⟩
    · have := ready_mono hj hji
      rw [H.1] at this
      cases this
  | succ fuel ih =>
    intro listed a w hfree hr hy hS H
    refine ⟨fun h => (by rw [h] at hr; cases hr), fun j hj => ?_⟩
    by_cases hji : j = i
    · subst hji; exact hy.wpOp hi hS ⟨.inr hS, H⟩
    · have h1 := H.2 j (ready_mono hj hji)
      obtain ⟨hjun, oj, hoj, hall⟩ := mem_ready.1 hj
      have hnot : ∀ e ∈ oj.after, Region.binds md e = true → e.on ≠ i := fun e he hb heq => by
        have h1 := hall e he hb
        have h0 := (mem_ready.1 hr).1
        rw [heq] at h1
        rcases Nat.lt_or_ge i listed.size with h' | h'
        · simp [h'] at h0 h1; rw [h0] at h1; cases h1
        · simp [Array.getElem?_eq_none h'] at h1
      have hjL : j ≠ L := fun q => by
        subst q
        unfold waitsT at hL
        rw [hoj] at hL
        simp only [Option.map_some, Option.getD_some, Array.any_eq_true] at hL
        obtain ⟨k, hk, hb⟩ := hL
        rw [Bool.and_eq_true, beq_iff_eq] at hb
        exact hnot _ (Array.getElem_mem hk) hb.1 hb.2
      have h2 := wpOp_putIf hoj (hfree j oj hoj hji hjun hnot) (fun cs b => hsel i oi cs b hi) (fun cs b => hsel j oj cs b hoj) hQ hy h1
      have hfree' : ∀ k ok, ops[k]? = some ok → k ≠ i → (listed.setIfInBounds j true).getD k true = false →
          (∀ e ∈ ok.after, Region.binds md e = true → e.on ≠ i) → oi.apart ops ok = true := fun k ok hk hki hun hno => by
        refine hfree k ok hk hki ?_ hno
        by_cases hjk : j = k
        · subst hjk; exact hjun
        · rw [getD_set_ne true hjk] at hun; exact hun
      refine wpOp_mono (fun a' w' h3 => ⟨h3.2.1, ih (listed.setIfInBounds j true) a' w' hfree' (ready_mono hr (Ne.symm hji)) h3.1 (h3.2.1.resolve_left hjL) ?_⟩) h2
      rw [Array.setIfInBounds_comm _ _ hji]
      exact h3.2.2
theorem anyT_take {i : Nat} {oi : Oper} {v : Value} {fuel : Nat} {listed : Array Bool} {a : Act} {w : World} (hi : ops[i]? = some oi)
    (hs : Region.noSelect ops = true) (hf : Region.free md ops listed i = true) (hr : (Region.ready md ops listed).contains i = true) (hL : waitsT md ops L i = true) (hne : i ≠ L)
    (hQ : ∀ c a w, Q (.panic c) (a.put oi.dst v) w → Q (.panic c) a w) (hy : YieldsIf P ops S oi v a) (hS : S w)
    (h : AnyT P md ops Q S L fuel (listed.setIfInBounds i true) (a.put oi.dst v) w) : AnyT P md ops Q S L (fuel + 1) listed a w :=
  anyT_first hi (Region.noSelect_spec hs) hQ hL hne fuel listed a w (Region.free_spec hi hf) (by simpa using hr) hy hS h
/-- One operation alone may come up. -/
theorem anyT_one {i : Nat} {o : Oper} {fuel : Nat} {listed : Array Bool} {a : Act} {w : World} (hr : Region.ready md ops listed = [i]) (ho : ops[i]? = some o)
    (h : ∀ K' : Act → World → Prop, Shut (∀ a w, (i = L ∨ S w) → AnyT P md ops Q S L fuel (listed.setIfInBounds i true) a w → K' a w) → if Region.wanted o (yielded ops a.tmps) = true then Oper.wp P o a w K' Q else K' (a.put o.dst undef) w) :
    AnyT P md ops Q S L (fuel + 1) listed a w := by
  refine ⟨fun h0 => (by rw [hr] at h0; cases h0), fun j hj => ?_⟩
  rw [hr] at hj
  simp at hj
  subst hj
  exact wpOp_step ho (fun K' hK => h K' (fun a w hS hW => hK a w ⟨hS, hW⟩))
/-- Either of two may come up. -/
theorem anyT_two {i j : Nat} {o q : Oper} {fuel : Nat} {listed : Array Bool} {a : Act} {w : World} (hr : Region.ready md ops listed = [i, j]) (ho : ops[i]? = some o) (hq : ops[j]? = some q)
    (h : ∀ K' : Act → World → Prop, Shut (∀ a w, (i = L ∨ S w) → AnyT P md ops Q S L fuel (listed.setIfInBounds i true) a w → K' a w) → if Region.wanted o (yielded ops a.tmps) = true then Oper.wp P o a w K' Q else K' (a.put o.dst undef) w)
    (h' : ∀ K' : Act → World → Prop, Shut (∀ a w, (j = L ∨ S w) → AnyT P md ops Q S L fuel (listed.setIfInBounds j true) a w → K' a w) → if Region.wanted q (yielded ops a.tmps) = true then Oper.wp P q a w K' Q else K' (a.put q.dst undef) w) :
    AnyT P md ops Q S L (fuel + 1) listed a w := by
  refine ⟨fun h0 => (by rw [hr] at h0; cases h0), fun k hk => ?_⟩
  rw [hr] at hk
  simp at hk
  rcases hk with rfl | rfl
  · exact wpOp_step ho (fun K' hK => h K' (fun a w hS hW => hK a w ⟨hS, hW⟩))
  · exact wpOp_step hq (fun K' hK => h' K' (fun a w hS hW => hK a w ⟨hS, hW⟩))
theorem anyT_done {fuel : Nat} {listed : Array Bool} {a : Act} {w : World} (hr : Region.ready md ops listed = []) (h : Q .normal a w) : AnyT P md ops Q S L fuel listed a w := by
  cases fuel with
  | zero => exact ⟨hr, h⟩
  | succ n => exact ⟨fun _ => h, by rw [hr]; simp⟩
theorem wp_region_T {id : Nat} {a : Act} {w : World} (L : Nat) (S : World → Prop) (hm : P.follows .mixedOrders = true)
    (h : AnyT P .any ops Q S L ops.size (Array.replicate ops.size false) a w.drew) : (Code.region id ops true).wp P Q a w :=
  wp_region_any hm (any_of_T _ _ _ _ h)
end
end Go.Proofs.YtlgeffinhbodeafGreat

