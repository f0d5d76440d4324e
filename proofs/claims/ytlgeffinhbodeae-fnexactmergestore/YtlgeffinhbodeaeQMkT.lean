/-
  Stores that came back: of the call's own all through; marks laid.
-/
import Derived.Test.YtlgeffinhbodeaeQTabP
import Derived.Test.YtlgeffinhbodeaeQEqT
import Derived.Test.YtlgeffinhbodeaeQOwnU
import Derived.Test.YtlgeffinhbodeaeQChg
namespace Go.Proofs.Ytlgeffinhbodeae
open Go.ChangeShapes Go.WideShapes Go.ChangeAt Go.RowKit Go.Deep
set_option linter.unusedVariables false
set_option linter.unusedSimpArgs false
set_option maxRecDepth 100000

/-- A run: its slice, its entries, and the block that they lie in, if there are any. -/
structure Rw where
  u : Value
  es : List Ent
  k : Option Nat
def OwnK (w : World) (base : Nat) (r : Rw) : Prop :=
  (r.k = none ∧ r.es = [] ∧ ∃ a c, r.u = .slice a 0 c) ∨ ∃ g cp, r.k = some g ∧ r.u = .slice (some ⟨g, 0, none⟩) r.es.length cp ∧ OwnE w base g cp r.es
theorem OwnK.ucells {w : World} {base : Nat} {r : Rw} (h : OwnK w base r) : r.u.cells = #[r.u] := by
  rcases h with ⟨_, _, a, c, h⟩ | ⟨g, cp, _, h, _⟩ <;> rw [h] <;> rfl
theorem OwnK.ins {w : World} {base : Nat} {r : Rw} (h : OwnK w base r) : InEnts w r.u r.es := by
  rcases h with ⟨_, h1, a, c, h⟩ | ⟨g, cp, _, h, hO⟩
  · exact .inl ⟨a, c, h, h1⟩
  · rw [h]; exact InEnts.own hO hO.caps.1 hO.caps.2
theorem OwnK.kept {w w' : World} {base : Nat} {r : Rw} {row : Option Nat} (h : OwnK w base r) (hg : w.grownBy w' row) (hne : ∀ g, r.k = some g → row ≠ some g) : OwnK w' base r := by
  rcases h with h | ⟨g, cp, hk, hu, hO⟩
  · exact .inl h
  · exact .inr ⟨g, cp, hk, hu, World.ownsRow.kept hO hg (.inr (fun q => hne g hk q.symm))⟩
theorem OwnK.below {w w' : World} {base : Nat} {r : Rw} (h : OwnK w base r) (hb : Below w.heap.size w w') : OwnK w' base r := by
  rcases h with h | ⟨g, cp, hk, hu, hO⟩
  · exact .inl h
  · exact .inr ⟨g, cp, hk, hu, hO.below hb hO.lt.2⟩
theorem OwnK.key {w : World} {base : Nat} {r : Rw} (h : OwnK w base r) {g : Nat} (hg : r.k = some g) : base ≤ g ∧ g < w.heap.size := by
  rcases h with ⟨h, _⟩ | ⟨g', cp, hk, hu, hO⟩
  · rw [h] at hg; cases hg
  · rw [hk] at hg; cases hg; exact hO.lt
theorem OwnK.chg {S : Nat → Prop} {w w' : World} {base : Nat} {r : Rw} (h : OwnK w base r) (hb : Chg S w w') (hne : ∀ g, r.k = some g → ¬ S g) : OwnK w' base r := by
  rcases h with h | ⟨g, cp, hk, hu, hO⟩
  · exact .inl h
  · exact .inr ⟨g, cp, hk, hu, own_chg hO hb (fun k q => by have : g = k := Option.some.inj q; subst this; exact hne g hk)⟩

theorem markK (base : Nat) (r : Rw) (a : Int) (w : World) (h : OwnK w base r) (h0 : 0 < a) (h1 : a ≤ 2 ^ 30) (hn : r.es.length ≤ 1048576) :
    Calls Try.prog 156 #[r.u, .int .i64 a] w fun e w' =>
      ∃ R', e = .returned (.int .i64 (a + r.es.length * 6)) ∧ OwnK w' base ⟨r.u, R', r.k⟩ ∧ R'.length = r.es.length ∧ marked a R' R'.length ∧ w.grownBy w' r.k := by
  obtain ⟨u, es, k⟩ := r
  rcases h with ⟨hk, he, x, c, hu⟩ | ⟨g, cp, hk, hu, hO⟩
  · simp only at hk he hu ⊢
    subst hk he hu
    refine (markEntryS_zero x c a w).mono ?_
    rintro e w' ⟨rfl, hb⟩
    exact ⟨[], by simp, .inl ⟨rfl, rfl, x, c, rfl⟩, rfl, fun j hj => by simp at hj, grown_of_below hb _⟩
  · simp only at hk hu hO hn ⊢
    subst hk hu
    refine (markEntryS_core base g cp es a w hO h0 h1 hn).mono ?_
    rintro e w' ⟨fs, rfl, hO', hl, hm, hg⟩
    exact ⟨fs, rfl, .inr ⟨g, cp, rfl, by simp only; rw [hl], hO'⟩, hl, by rw [hl]; exact hm, hg⟩
theorem heldK (base : Nat) (r : Rw) (a : Int) (w : World) (h : OwnK w base r) (hm : marked a r.es r.es.length) (h0 : 0 < a) (h1 : a ≤ 2 ^ 30) (hn : r.es.length ≤ 1048576) :
    Calls Try.prog 157 #[r.u, .int .i64 a] w fun e w' => e = .returned (.int .i64 (a + r.es.length * 6)) ∧ Below w.heap.size w w' := by
  obtain ⟨u, es, k⟩ := r
  rcases h with ⟨hk, he, x, c, hu⟩ | ⟨g, cp, hk, hu, hO⟩
  · simp only at hk he hu ⊢
    subst hk he hu
    refine (heldEntryS_zero x c a w).mono ?_
    rintro e w' ⟨rfl, hb⟩
    exact ⟨by simp, hb⟩
  · simp only at hk hu hO hm hn ⊢
    subst hk hu
    exact heldEntryS_core g 0 cp es a w hO.at hm hO.lt.2 h0 h1 hn

/-- The row of a tablet's runs. -/
def OwnRow (w : World) (base : Nat) (v : Value) (rs : List Rw) : Prop :=
  (rs = [] ∧ ∃ a c, v = .slice a 0 c) ∨ ∃ g cp, v = .slice (some ⟨g, 0, none⟩) rs.length cp ∧ w.ownsRow base 30 1 (.slice (some ⟨g, 0, none⟩) rs.length cp) rs.length (rs.map Rw.u)
theorem OwnRow.ucells {w : World} {base : Nat} {v : Value} {rs : List Rw} (h : OwnRow w base v rs) : v.cells = #[v] := by
  rcases h with ⟨_, a, c, h⟩ | ⟨g, cp, h, _⟩ <;> rw [h] <;> rfl
theorem OwnRow.caps {w : World} {base : Nat} {e s : Nat} {g n cp : Nat} {xs : List Value} (h : w.ownsRow base e s (.slice (some ⟨g, 0, none⟩) n cp) n xs) : n ≤ cp ∧ cp ≤ maxLen := by
  rcases h.2 with ⟨h0, _⟩ | ⟨g', cap', cur, hv, _, _, hn, hcap, _, _⟩
  · cases h0
  · simp only [Value.slice.injEq, Option.some.injEq, Addr.mk.injEq, and_true, true_and] at hv
    obtain ⟨rfl, rfl⟩ := hv
    exact ⟨hn, hcap⟩
def Rw.rn (r : Rw) : Rn := ⟨r.u, r.es⟩
theorem OwnRow.ins {w : World} {base : Nat} {v : Value} {rs : List Rw} (h : OwnRow w base v rs) (hk : ∀ r ∈ rs, OwnK w base r) : InRuns w v (rs.map Rw.rn) := by
  rcases h with ⟨rfl, a, c, h⟩ | ⟨g, cp, rfl, hO⟩
  · exact .inl ⟨a, c, h, rfl⟩
  · have hc := OwnRow.caps hO
    refine .inr ⟨g, 0, cp, by simp, fun i r hi => ?_, (World.ownsRow.lt hO g rfl).2, by simpa using hc.1, hc.2⟩
    rw [List.getElem?_map] at hi
    cases hp : rs[i]? with
    | none => rw [hp] at hi; cases hi
    | some p =>
      rw [hp] at hi
      simp at hi
      subst hi
      refine ⟨?_, (hk p (List.mem_of_getElem? hp)).ins⟩
      have hl := (List.getElem?_eq_some_iff.1 hp).1
      have := World.ownsRow.cellAt hO i (by omega)
      rw [List.getElem?_map, hp] at this
      rw [Nat.zero_add]
      exact this
theorem OwnRow.kept {w w' : World} {base : Nat} {v : Value} {rs : List Rw} {row : Option Nat} (h : OwnRow w base v rs) (hg : w.grownBy w' row) (hne : ∀ g, v.ownBlock = some g → rs ≠ [] → row ≠ some g) : OwnRow w' base v rs := by
  rcases h with h | ⟨g, cp, hv, hO⟩
  · exact .inl h
  · by_cases hr : rs = []
    · subst hr; exact .inl ⟨rfl, _, _, hv⟩
    · exact .inr ⟨g, cp, hv, World.ownsRow.kept hO hg (.inr (fun q => hne g (by rw [hv]; rfl) hr q.symm))⟩
theorem OwnRow.below {w w' : World} {base : Nat} {v : Value} {rs : List Rw} (h : OwnRow w base v rs) (hb : Below w.heap.size w w') : OwnRow w' base v rs := by
  rcases h with h | ⟨g, cp, hv, hO⟩
  · exact .inl h
  · refine .inr ⟨g, cp, hv, World.ownsRow.kept hO (grown_of_below hb none) (.inr (fun q => by cases q))⟩
theorem OwnRow.same {w : World} {base : Nat} {v : Value} {rs rs' : List Rw} (h : OwnRow w base v rs) (hu : rs'.map Rw.u = rs.map Rw.u) : OwnRow w base v rs' := by
  have hl : rs'.length = rs.length := by have := congrArg List.length hu; simpa using this
  rcases h with ⟨rfl, h⟩ | ⟨g, cp, hv, hO⟩
  · refine .inl ⟨List.eq_nil_of_length_eq_zero (by simpa using hl), h⟩
  · exact .inr ⟨g, cp, by rw [hl]; exact hv, by rw [hl, hu]; exact hO⟩

def totW : List Rw → Nat
  | [] => 0
  | r :: rs => r.es.length + totW rs
theorem totW_append : ∀ (a b : List Rw), totW (a ++ b) = totW a + totW b
  | [], b => by simp [totW]
  | r :: a, b => by simp [totW, totW_append a b]; omega
theorem totW_take {rs : List Rw} {k : Nat} {r : Rw} (h : rs[k]? = some r) : totW (rs.take (k + 1)) = totW (rs.take k) + r.es.length := by
  rw [List.take_add_one, h, totW_append]; simp [totW]
theorem totW_le (rs : List Rw) (k : Nat) : totW (rs.take k) ≤ totW rs := by
  have h := totW_append (rs.take k) (rs.drop k)
  rw [List.take_append_drop] at h
  omega
theorem totW_mem {rs : List Rw} {k : Nat} {r : Rw} (h : rs[k]? = some r) : r.es.length ≤ totW rs := by
  have h1 := totW_take h
  have h2 := totW_le rs (k + 1)
  omega
/-- The shape of runs: their slices, blocks and lengths. -/
def shp (r : Rw) : Value × Option Nat × Nat := (r.u, r.k, r.es.length)
theorem shp_u {a b : List Rw} (h : a.map shp = b.map shp) : a.map Rw.u = b.map Rw.u := by
  have := congrArg (List.map Prod.fst) h
  simpa [List.map_map, Function.comp_def, shp] using this
theorem shp_tot : ∀ {a b : List Rw}, a.map shp = b.map shp → totW a = totW b
  | [], [], _ => rfl
  | [], _ :: _, h => by simp at h
  | _ :: _, [], h => by simp at h
  | x :: a, y :: b, h => by
    simp [shp] at h
    have := shp_tot (a := a) (b := b) (by simpa [shp] using h.2)
    simp [totW, this, h.1.2.2]
/-- Runs marked, from 'a' on. -/
def MarkedR (a : Int) (rs : List Rw) : Prop := ∀ i r, rs[i]? = some r → marked (a + totW (rs.take i) * 6) r.es r.es.length
def Apart (rs : List Rw) : Prop := rs.Pairwise fun a b => ∀ k, a.k = some k → b.k ≠ some k
def KeysOf (rs : List Rw) (k : Nat) : Prop := ∃ r ∈ rs, r.k = some k

theorem row_ne {w : World} {base : Nat} {v : Value} {rs : List Rw} {r : Rw} {base' : Nat} (h : OwnRow w base v rs) (hk : OwnK w base' r) : ∀ g, v.ownBlock = some g → rs ≠ [] → r.k ≠ some g := by
  intro g hg hr hkg
  rcases h with ⟨h, _⟩ | ⟨g', cp, rfl, hO⟩
  · exact hr h
  · rcases hk with ⟨h, _⟩ | ⟨g2, cp2, h1, h2, hE⟩
    · rw [h] at hkg; cases hkg
    · rw [h1] at hkg
      have := own_apart hO hE (by decide) g' rfl
      have e1 : g' = g := Option.some.inj hg
      have e2 : g2 = g := Option.some.inj hkg
      subst e1 e2
      exact this rfl

set_option maxHeartbeats 2000000 in
theorem markRunS_gen (base : Nat) (v : Value) (rs : List Rw) (a : Int) (w : World) (hrow : OwnRow w base v rs) (hks : ∀ r ∈ rs, OwnK w base r) (hap : Apart rs) (h0 : 0 < a) (h1 : a + totW rs * 6 ≤ 2 ^ 30) (hn : totW rs ≤ 1048576) (hl : rs.length ≤ 1048576) :
    Calls Try.prog 125 #[v, .int .i64 a] w fun e w' =>
      ∃ rs' : List Rw, e = .returned (.int .i64 (a + totW rs * 6)) ∧ rs'.map shp = rs.map shp ∧ OwnRow w' base v rs' ∧ (∀ r ∈ rs', OwnK w' base r) ∧ MarkedR a rs' ∧ Chg (KeysOf rs) w w' := by
  have HA : Hid (OwnRow w base v rs ∧ (∀ r ∈ rs, OwnK w base r) ∧ Apart rs) := ⟨hrow, hks, hap⟩
  have hvl : ∃ ad c, v = .slice ad rs.length c := by
    rcases hrow with ⟨rfl, a, c, h⟩ | ⟨g, cp, h, _⟩
    · exact ⟨a, c, h⟩
    · exact ⟨_, cp, h⟩
  obtain ⟨ad, vc, rfl⟩ := hvl
  clear hrow hks hap
  go_enter Try.func125, Try.ntmps125
  go_wp2_with fail
  go_loopw [1, 5] (fun c i wr => ∃ (m : Nat) (b : Int) (done : List Rw), m ≤ rs.length ∧ i = .int .i64 m ∧ c = .int .i64 b ∧ b = a + totW (rs.take m) * 6 ∧ done.length = m ∧ done.map shp = (rs.take m).map shp ∧ MarkedR a done ∧ OwnRow wr base (.slice ad rs.length vc) (done ++ rs.drop m) ∧ (∀ r ∈ done ++ rs.drop m, OwnK wr base r) ∧ Chg (KeysOf rs) w wr) (fun _ i _ => rs.length - (intOf i).toNat)
  case atStart => exact ⟨0, a, [], Nat.zero_le _, rfl, rfl, by simp [totW], rfl, rfl, fun i r h => by simp at h, HA.out.1, HA.out.2.1, Chg.refl _ _⟩
  case round =>
    obtain ⟨m, b, done, hm, rfl, rfl, hb, hdl, hds, hmk, hR, hK, hC⟩ := hrel
    have HR : Hid (b = a + totW (rs.take m) * 6 ∧ done.length = m ∧ done.map shp = (rs.take m).map shp ∧ MarkedR a done ∧ OwnRow wr base (.slice ad rs.length vc) (done ++ rs.drop m) ∧ (∀ r ∈ done ++ rs.drop m, OwnK wr base r) ∧ Chg (KeysOf rs) w wr) := ⟨hb, hdl, hds, hmk, hR, hK, hC⟩
    have hb0 : 0 < b := by omega
    have hb1 : b ≤ 2 ^ 30 := by have := totW_le rs m; omega
    clear hb hdl hds hmk hR hK hC
    by_cases hlt : m < rs.length
    · obtain ⟨r, hr⟩ : ∃ r, rs[m]? = some r := ⟨_, List.getElem?_eq_getElem hlt⟩
      have hdr : rs.drop m = r :: rs.drop (m + 1) := by
        obtain ⟨h1, h2⟩ := List.getElem?_eq_some_iff.1 hr
        rw [← h2]; exact List.drop_eq_getElem_cons h1
      obtain ⟨g, hg, c0⟩ : ∃ g, ad = some ⟨g, 0, none⟩ ∧ wr.cell? ⟨g, m, none⟩ = some r.u := by
        rcases HR.out.2.2.2.2.1 with ⟨h, _⟩ | ⟨g, cp, hv, hO⟩
        · rw [hdr] at h; simp at h
        · simp only [Value.slice.injEq] at hv
          refine ⟨g, hv.1, ?_⟩
          have := World.ownsRow.cellAt hO m (by have := HR.out.2.1; simp; omega)
          rw [List.getElem?_map, List.getElem?_append_right (by rw [HR.out.2.1]; exact Nat.le_refl _), HR.out.2.1, Nat.sub_self, hdr] at this
          exact this
      subst hg
      have hru : r.u.cells = #[r.u] := (HR.out.2.2.2.2.2.1 r (by rw [hdr]; simp)).ucells
      have HD : Hid (rs[m]? = some r ∧ rs.drop m = r :: rs.drop (m + 1)) := ⟨hr, hdr⟩
      have hrl : r.es.length ≤ 1048576 := by have := totW_mem hr; omega
      clear hr hdr
      have zm : (m : Int) < (rs.length : Int) := by omega
      go_wp2_with fail
      refine (markK base r b _ (HR.out.2.2.2.2.2.1 r (by rw [HD.out.2]; simp)) hb0 hb1 hrl).mono ?_
      rintro e w1 ⟨R', rfl, hK1, hl1, hm1, hg1⟩
      have HN : Hid (∃ done' : List Rw, done'.length = m + 1 ∧ done'.map shp = (rs.take (m + 1)).map shp ∧ MarkedR a done' ∧ OwnRow w1 base (.slice (some ⟨g, 0, none⟩) rs.length vc) (done' ++ rs.drop (m + 1)) ∧ (∀ r ∈ done' ++ rs.drop (m + 1), OwnK w1 base r) ∧ Chg (KeysOf rs) w w1) := by
        obtain ⟨q1, q2, q3, q4, q5, q6, q7⟩ := HR.out
        have hrm := List.mem_of_getElem? HD.out.1
        have hap : ∀ x ∈ done ++ rs.drop (m + 1), ∀ k, x.k = some k → r.k ≠ some k := by
          intro x hx k hxk hrk
          have hps : (rs.take m ++ r :: rs.drop (m + 1)).Pairwise fun a b => ∀ k, a.k = some k → b.k ≠ some k := by
            have h3 : rs.take m ++ rs.drop m = rs := List.take_append_drop m rs
            rw [HD.out.2] at h3
            rw [h3]; exact HA.out.2.2
          rcases List.mem_append.1 hx with hx | hx
          · obtain ⟨i, hi⟩ := List.getElem?_of_mem hx
            have e1 := congrArg (fun l => l[i]?) q3
            simp only [List.getElem?_map, hi] at e1
            cases h2 : (rs.take m)[i]? with
            | none => rw [h2] at e1; simp at e1
            | some y =>
              rw [h2] at e1
              simp [shp] at e1
              have h4 := (List.pairwise_append.1 hps).2.2 y (List.mem_of_getElem? h2) r (by simp)
              exact h4 k (by rw [← e1.2.1]; exact hxk) hrk
          · have h4 := (List.pairwise_cons.1 (List.pairwise_append.1 hps).2.1).1 x hx
            exact h4 k hrk hxk
        refine ⟨done ++ [⟨r.u, R', r.k⟩], by simp [q2], ?_, ?_, ?_, ?_, ?_⟩
        · rw [List.take_add_one, HD.out.1, List.map_append, List.map_append, q3]
          simp [shp, hl1]
        · intro i x hx
          by_cases hi : i < done.length
          · rw [List.getElem?_append_left hi] at hx
            have := q4 i x hx
            rw [List.take_append_of_le_length (by omega)]
            exact this
          · rw [List.getElem?_append_right (by omega)] at hx
            have h5 : i - done.length = 0 := by
              have := (List.getElem?_eq_some_iff.1 hx).1
              simp at this; omega
            rw [h5] at hx
            simp at hx
            subst hx
            have h6 : i = done.length := by omega
            subst h6
            rw [List.take_append_of_le_length (Nat.le_refl _), List.take_of_length_le (Nat.le_refl _), shp_tot q3, ← q1]
            exact hm1
        · have hsame : (done ++ [Rw.mk r.u R' r.k] ++ rs.drop (m + 1)).map Rw.u = (done ++ rs.drop m).map Rw.u := by rw [HD.out.2]; simp
          refine (q5.kept hg1 (fun g' hg' hne hk' => ?_)).same hsame
          exact row_ne q5 (q6 r (by rw [HD.out.2]; simp)) g' hg' hne hk'
        · intro x hx
          rw [List.append_assoc] at hx
          rcases List.mem_append.1 hx with hx | hx
          · exact (q6 x (List.mem_append_left _ hx)).kept hg1 (fun k hk q => hap x (List.mem_append_left _ hx) k hk q)
          · rcases List.mem_append.1 hx with hx | hx
            · simp at hx
              subst hx
              exact hK1
            · exact (q6 x (by rw [HD.out.2]; exact List.mem_append_right _ (List.mem_cons_of_mem _ hx))).kept hg1 (fun k hk q => hap x (List.mem_append_right _ hx) k hk q)
        · exact q7.trans (Chg.of_grown hg1 (fun k hk => ⟨r, hrm, hk⟩))
      have HB : Hid (b + (r.es.length : Int) * 6 = a + totW (rs.take (m + 1)) * 6) := by
        have h2 := totW_take HD.out.1
        have h3 := HR.out.1
        show b + (r.es.length : Int) * 6 = a + totW (rs.take (m + 1)) * 6
        omega
      clear hK1 hl1 hm1 hg1 c0
      go_wp2_with fail
      go_roundw
      case rel =>
        go_light
        obtain ⟨d', a1, a2, a3, a4, a5, a6⟩ := HN.out
        exact ⟨m + 1, b + r.es.length * 6, d', by omega, by go_num, rfl, HB.out, a1, a2, a3, a4, a5, a6⟩
      case measure => go_light; simp [intOf]; omega
    · have zm : ¬ (m : Int) < (rs.length : Int) := by omega
      have HF : Hid (b = a + totW rs * 6 ∧ done.map shp = rs.map shp ∧ MarkedR a done ∧ OwnRow wr base (.slice ad rs.length vc) done ∧ (∀ r ∈ done, OwnK wr base r) ∧ Chg (KeysOf rs) w wr) := by
        obtain ⟨q1, q2, q3, q4, q5, q6, q7⟩ := HR.out
        rw [List.take_of_length_le (by omega)] at q1 q3
        rw [List.drop_eq_nil_of_le (by omega), List.append_nil] at q5 q6
        exact ⟨q1, q3, q4, q5, q6, q7⟩
      go_wp2_with fail
      go_ret
      exact ⟨by rw [HF.out.1]; rfl, done, HF.out.2.1, HF.out.2.2.2.1, HF.out.2.2.2.2.1, HF.out.2.2.1, HF.out.2.2.2.2.2⟩
end Go.Proofs.Ytlgeffinhbodeae
