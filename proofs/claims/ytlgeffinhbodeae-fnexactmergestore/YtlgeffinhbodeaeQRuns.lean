/-
  Runs in memory, one behind another.
-/
import Derived.Test.YtlgeffinhbodeaeQMark
import Derived.Deep.DeepCutAuto
import Derived.Deep.RegionWith
namespace Go.Proofs.Ytlgeffinhbodeae
open Go.ChangeShapes Go.WideShapes Go.ChangeAt Go.RowKit Go.Deep
set_option linter.unusedVariables false
set_option linter.unusedSimpArgs false

/-- A run: the slice that it holds, and what that reads as. -/
structure Rn where
  u : Value
  es : List Ent
def RunsAt (w : World) (b off : Nat) (rs : List Rn) : Prop := ∀ i r, rs[i]? = some r → w.cell? ⟨b, off + i, none⟩ = some r.u ∧ InEnts w r.u r.es
theorem RunsAt.below {w w' : World} {b off : Nat} {rs : List Rn} (h : RunsAt w b off rs) (hb : Below w.heap.size w w') (hlt : b < w.heap.size) : RunsAt w' b off rs := by
  intro i r hr
  obtain ⟨h1, h2⟩ := h i r hr
  exact ⟨by rw [hb.cell (p := ⟨b, off + i, none⟩) (by exact hlt)]; exact h1, h2.below hb (Nat.le_refl _)⟩
def InRuns (w : World) (v : Value) (rs : List Rn) : Prop :=
  (∃ a cap, v = .slice a 0 cap ∧ rs = []) ∨ ∃ b off cap, v = .slice (some ⟨b, off, none⟩) rs.length cap ∧ RunsAt w b off rs ∧ b < w.heap.size ∧ rs.length ≤ cap ∧ cap ≤ maxLen
theorem InRuns.below {w w' : World} {v : Value} {rs : List Rn} (h : InRuns w v rs) (hb : Below w.heap.size w w') : InRuns w' v rs := by
  rcases h with h | ⟨b, off, cap, hv, hE, hlt, h1, h2⟩
  · exact .inl h
  · exact .inr ⟨b, off, cap, hv, hE.below hb hlt, by have := hb.size; omega, h1, h2⟩
theorem InEnts.ucells {w : World} {v : Value} {es : List Ent} (h : InEnts w v es) : v.cells = #[v] := by
  rcases h with ⟨a, cap, rfl, _⟩ | ⟨b, off, cap, rfl, _⟩ <;> rfl
def okR (rs : List Rn) : Prop := ∀ r ∈ rs, ∀ e ∈ r.es, e.ok
/-- How many entries there are. -/
def tot : List Rn → Nat
  | [] => 0
  | r :: rs => r.es.length + tot rs
theorem tot_append : ∀ (a b : List Rn), tot (a ++ b) = tot a + tot b
  | [], b => by simp [tot]
  | r :: a, b => by simp [tot, tot_append a b]; omega
theorem tot_take {rs : List Rn} {k : Nat} {r : Rn} (h : rs[k]? = some r) : tot (rs.take (k + 1)) = tot (rs.take k) + r.es.length := by
  rw [List.take_add_one, h, tot_append]; simp [tot]
theorem tot_le (rs : List Rn) (k : Nat) : tot (rs.take k) ≤ tot rs := by
  have h := tot_append (rs.take k) (rs.drop k)
  rw [List.take_append_drop] at h
  omega
theorem tot_mem {rs : List Rn} {k : Nat} {r : Rn} (h : rs[k]? = some r) : r.es.length ≤ tot rs := by
  have h1 := tot_take h
  have h2 := tot_le rs (k + 1)
  omega

set_option maxRecDepth 100000 in
theorem runs_of_trod {H : Type} {enc : TypeId × Value → H} {w : World} {base : Nat} {held : Bool} {fuel : Nat} {v : Value} {x : DataW H × List MemPlace}
    (h : DataW.trod enc Try.prog w base (fun _ => true) held fuel 183 [v] = some x) : ∃ rs : List Rn, InRuns w v rs ∧ okR rs := by
  have h1 : Try.prog.cellsOf 258 = 1 := by kernel_rfl
  have h2 : Try.prog.cellsOf 256 = 1 := by kernel_rfl
  rcases open_slice Try.underlying183 h with ⟨hcs, _⟩ | ⟨a, len, cap, m, n, D, Pl, hcs, hba, hl, hm, hmm, _, hel⟩
  · simp only [List.cons.injEq, and_true] at hcs
    exact ⟨[], .inl ⟨none, 0, hcs, rfl⟩, by simp [okR]⟩
  · simp only [List.cons.injEq, and_true] at hcs
    subst hcs
    rw [if_pos rfl] at hmm
    subst hmm
    have hel1 : ∀ i, i < m → ∃ cs', w.cells? base (a.add (i * 1)) 1 = some cs' ∧ DataW.trod enc Try.prog w base (fun _ => true) held n 258 cs' = some (D i, Pl i) := fun i hi => by
      have := hel i hi
      rw [h1] at this
      exact this
    clear hel
    have HM : Hid (m ≤ maxLen) := hm
    clear hm
    by_cases h0 : len = 0
    · subst h0; exact ⟨[], .inl ⟨_, _, rfl, rfl⟩, by simp [okR]⟩
    · obtain ⟨b, off, spot⟩ := a
      have hspot : spot = none := by
        obtain ⟨cs', hc, _⟩ := hel1 0 (by omega)
        obtain ⟨_, hlen, hget⟩ := World.cells?_some hc
        have h1 := hget 0 (by omega)
        have h2 : (w.cell? ((Addr.add ⟨b, off, spot⟩ (0 * 1)).add 0)).isSome = true := by rw [h1]; simp; omega
        obtain ⟨u, hu⟩ := Option.isSome_iff_exists.1 h2
        simpa [Addr.add] using World.cell?_spot hu
      subst hspot
      obtain ⟨rs, hrs, hp⟩ := list_of_forall (P := fun i (r : Rn) => (∀ e ∈ r.es, e.ok) ∧ (w.cell? ⟨b, off + i, none⟩ = some r.u ∧ InEnts w r.u r.es)) len (fun i hi => by
        obtain ⟨cs', hc, ht⟩ := hel1 i (by omega)
        obtain ⟨_, hlen, hget⟩ := World.cells?_some hc
        obtain ⟨y0, n', _, hl', h0'⟩ := trod_struct1 Try.underlying258 ht
        rw [h1] at hl'
        match cs', hl' with
        | [u], _ =>
          simp [h2] at h0'
          obtain ⟨es, he, ok⟩ := ents_of_trod h0'
          refine ⟨⟨u, es⟩, ok, ?_, he⟩
          simpa [Addr.add_mid] using hget 0 (by omega))
      have hlt : b < w.heap.size := by
        obtain ⟨cs', hc, _⟩ := hel1 0 (by omega)
        simpa [Addr.add] using World.cells?_block hc (by omega)
      subst hrs
      refine ⟨rs, .inr ⟨b, off, m, rfl, fun i e he => (hp i e he).2, hlt, hl, HM.out⟩, fun e he => ?_⟩
      obtain ⟨i, hi⟩ := List.getElem?_of_mem he
      exact (hp i e hi).1

set_option maxHeartbeats 1000000 in
theorem szRunS_any (v : Value) (rs : List Rn) (left : Int) (w : World) (h : InRuns w v rs) (hok : okR rs) (h0 : 0 ≤ left) (h1 : left ≤ 2 ^ 40) :
    Calls Try.prog 152 #[v, .int .i64 left] w fun e w' =>
      ∃ x, e = .returned (.int .i64 x) ∧ (x = -1 ∨ (0 ≤ x ∧ x + rs.length + tot rs ≤ left)) ∧ Below w.heap.size w w' := by
  rcases h with ⟨a, cap, rfl, rfl⟩ | ⟨b, off, cap, rfl, hE, hB, hlen, hcap⟩
  · go_enter Try.func152, Try.ntmps152
    go_wp2
    go_loopw [1, 5] (fun l i wr => l = .int .i64 left ∧ i = .int .i64 0 ∧ Below w.heap.size w wr) (fun _ i _ => 0)
    case atStart => exact ⟨rfl, rfl, Below.refl _ _⟩
    case round =>
      obtain ⟨rfl, rfl, hb⟩ := hrel
      go_wp2_with fail
      go_ret
      exact ⟨_, rfl, .inr ⟨h0, by simp [tot]⟩, hb⟩
  · have HE : Hid (RunsAt w b off rs) := hE
    have HO : Hid (okR rs) := hok
    clear hE hok
    unfold maxLen at hcap
    by_cases hle : left < rs.length
    · have hle' : left - rs.length < 0 := by omega
      go_enter Try.func152, Try.ntmps152
      go_wp2
      go_ret
      exact ⟨_, rfl, .inl rfl, Below.refl _ _⟩
    have hle' : 0 ≤ left - rs.length := by omega
    go_enter Try.func152, Try.ntmps152
    go_wp2
    go_loopw [1, 5] (fun l i wr => ∃ (k : Nat) (x : Int), k ≤ rs.length ∧ i = .int .i64 k ∧ l = .int .i64 x ∧ 0 ≤ x ∧ x + rs.length + tot (rs.take k) ≤ left ∧ Below w.heap.size w wr) (fun _ i _ => rs.length - (intOf i).toNat)
    case atStart => exact ⟨0, _, Nat.zero_le _, rfl, rfl, hle', by simp [tot], Below.refl _ _⟩
    case round =>
      obtain ⟨k, x, hk, rfl, rfl, hx0, hx1, hb⟩ := hrel
      have hsz := hb.size
      have HX : Hid (x + rs.length + tot (rs.take k) ≤ left) := hx1
      have hxl : x ≤ left := by omega
      clear hx1
      by_cases hlt : k < rs.length
      · obtain ⟨r, hr⟩ : ∃ r, rs[k]? = some r := ⟨_, List.getElem?_eq_getElem hlt⟩
        obtain ⟨c0, hin⟩ := (HE.out.below hb hB) k r hr
        have HR : Hid (rs[k]? = some r ∧ InEnts wr r.u r.es) := ⟨hr, hin⟩
        clear hr hin
        go_wp2_with fail
        refine (szRun_any r.u r.es _ _ HR.out.2 (HO.out r (List.mem_of_getElem? HR.out.1)) hx0 (by omega)).mono ?_
        rintro e w1 ⟨y, rfl, hy, hb1⟩
        have hb2 := hb.trans (hb1.mono hsz)
        clear c0 hb1
        by_cases hy0 : y < 0
        · clear hy
          go_wp2_with fail
          go_ret
          exact ⟨_, rfl, .inl rfl, hb2⟩
        · have hy1 : 0 ≤ y := by omega
          have HY : Hid (y + rs.length + tot (rs.take (k + 1)) ≤ left) := by
            have h1 := tot_take HR.out.1
            have h2 := HX.out
            show y + rs.length + tot (rs.take (k + 1)) ≤ left
            omega
          clear hy
          go_wp2_with fail
          go_roundw
          case rel => exact ⟨k + 1, y, by omega, by go_num, rfl, hy1, HY.out, hb2⟩
          case measure => simp [intOf]; omega
      · have HY : Hid (x + rs.length + tot rs ≤ left) := by
          have h2 := HX.out
          rw [List.take_of_length_le (by omega)] at h2
          exact h2
        go_wp2
        go_ret
        exact ⟨_, rfl, .inr ⟨hx0, HY.out⟩, hb⟩

/-! ### Runs of the call's own -/

/-- The runs' slices. -/
def usOf (l : List (Nat × List Ent)) : List Value := l.map fun p => .slice (some ⟨p.1, 0, none⟩) p.2.length p.2.length
def rnsOf (l : List (Nat × List Ent)) : List Rn := l.map fun p => ⟨.slice (some ⟨p.1, 0, none⟩) p.2.length p.2.length, p.2⟩
def esOf (rs : List Rn) : List (List Ent) := rs.map Rn.es
/-- Rows of the call's own, in blocks that rise. -/
def OwnRs (w : World) (base : Nat) (l : List (Nat × List Ent)) : Prop := l.Pairwise (fun p q => p.1 < q.1) ∧ ∀ p ∈ l, OwnE w base p.1 p.2.length p.2
/-- The row of the runs itself. -/
def OwnR (w : World) (base g : Nat) (us : List Value) : Prop := w.ownsRow base 30 1 (.slice (some ⟨g, 0, none⟩) us.length us.length) us.length us
theorem OwnR.lt {w : World} {base g : Nat} {us : List Value} (h : OwnR w base g us) : base ≤ g ∧ g < w.heap.size := World.ownsRow.lt h g rfl
theorem OwnR.below {B : Nat} {w w' : World} {base g : Nat} {us : List Value} (h : OwnR w base g us) (hb : Below B w w') (hg : g < B) : OwnR w' base g us := by
  refine ⟨h.1, ?_⟩
  rcases h.2 with hn | ⟨g', cap', cur, hv, h1, h2, rest⟩
  · exact .inl hn
  · simp only [Value.slice.injEq, Option.some.injEq, Addr.mk.injEq, and_true, true_and] at hv
    obtain ⟨rfl, hc⟩ := hv
    exact .inr ⟨g, cap', cur, by rw [hc], h1, by rw [hb.block g hg]; exact h2, rest⟩
theorem OwnR.set {w : World} {base g : Nat} {us : List Value} (h : OwnR w base g us) (k : Nat) (u : Value) : OwnR (w.setCell ⟨g, k, none⟩ u) base g (us.set k u) := by
  have := (World.ownsRow.stored h k u).1
  unfold OwnR
  rw [List.length_set]
  exact this
theorem OwnR.cell {w : World} {base g : Nat} {us : List Value} (h : OwnR w base g us) {k : Nat} {u : Value} (hu : us[k]? = some u) : w.cell? ⟨g, k, none⟩ = some u := by
  have hk : k < us.length := (List.getElem?_eq_some_iff.1 hu).1
  exact (World.ownsRow.cellAt h k (by omega)).trans hu
theorem OwnE.setNe {w : World} {base g cap : Nat} {es : List Ent} (h : OwnE w base g cap es) (g' k : Nat) (u : Value) (hne : g ≠ g') : OwnE (w.setCell ⟨g', k, none⟩ u) base g cap es :=
  World.ownsRow.kept h (grown_set w g' k u) (.inr (fun q => hne (Option.some.inj q)))

theorem Try.infoRun : (Try.prog.info? 30).map (fun i => (i.zero, i.size, i.bytes)) = some (some (.agg #[.slice none 0 0]), 1, 24) := by kernel_rfl
theorem made_runs (n : Nat) : (madeCells #[.slice none 0 0] n).toList = List.replicate n (.slice none 0 0) := by
  apply List.ext_getElem?
  intro j
  by_cases hj : j < n
  · simp [madeCells, hj, Nat.mod_one]
  · simp [madeCells, hj]
theorem usOf_get {l : List (Nat × List Ent)} {i : Nat} {p : Nat × List Ent} (h : l[i]? = some p) : (usOf l)[i]? = some (.slice (some ⟨p.1, 0, none⟩) p.2.length p.2.length) := by
  unfold usOf; rw [List.getElem?_map, h]; rfl
theorem inRuns_own {w : World} {base g : Nat} {l : List (Nat × List Ent)} (h : OwnR w base g (usOf l)) (hr : OwnRs w base l) (hl : l.length ≤ maxLen) (hc : ∀ p ∈ l, p.2.length ≤ maxLen) :
    InRuns w (.slice (some ⟨g, 0, none⟩) l.length l.length) (rnsOf l) := by
  refine .inr ⟨g, 0, l.length, by simp [rnsOf], fun i r hi => ?_, h.lt.2, by simp [rnsOf], hl⟩
  unfold rnsOf at hi
  rw [List.getElem?_map] at hi
  cases hp : l[i]? with
  | none => rw [hp] at hi; cases hi
  | some p =>
    rw [hp] at hi
    simp at hi
    subst hi
    have hm := List.mem_of_getElem? hp
    refine ⟨?_, InEnts.own (hr.2 p hm) (Nat.le_refl _) (hc p hm)⟩
    rw [Nat.zero_add]
    exact h.cell (usOf_get hp)
end Go.Proofs.Ytlgeffinhbodeae
