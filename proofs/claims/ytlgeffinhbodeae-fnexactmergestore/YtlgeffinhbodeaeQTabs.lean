/-
  Tablets in memory, one behind another: those that come in, and those that a call made.
-/
import Derived.Test.YtlgeffinhbodeaeQRuns2
namespace Go.Proofs.Ytlgeffinhbodeae
open Go.ChangeShapes Go.WideShapes Go.ChangeAt Go.RowKit Go.Deep
set_option linter.unusedVariables false
set_option linter.unusedSimpArgs false

/-- A tablet: its first row, the slice of its runs, and what that reads as. -/
structure Tn where
  lo : ByteArray
  u : Value
  rs : List Rn
def TabsAt (w : World) (b off : Nat) (ts : List Tn) : Prop := ∀ i t, ts[i]? = some t → w.cell? ⟨b, off + i * 2, none⟩ = some (.string t.lo) ∧ w.cell? ⟨b, off + i * 2 + 1, none⟩ = some t.u ∧ InRuns w t.u t.rs
theorem TabsAt.below {w w' : World} {b off : Nat} {ts : List Tn} (h : TabsAt w b off ts) (hb : Below w.heap.size w w') (hlt : b < w.heap.size) : TabsAt w' b off ts := by
  intro i t ht
  obtain ⟨h1, h2, h3⟩ := h i t ht
  exact ⟨by rw [hb.cell (p := ⟨b, off + i * 2, none⟩) (by exact hlt)]; exact h1, by rw [hb.cell (p := ⟨b, off + i * 2 + 1, none⟩) (by exact hlt)]; exact h2, h3.below hb⟩
def InTabs (w : World) (v : Value) (ts : List Tn) : Prop :=
  (∃ a cap, v = .slice a 0 cap ∧ ts = []) ∨ ∃ b off cap, v = .slice (some ⟨b, off, none⟩) ts.length cap ∧ TabsAt w b off ts ∧ b < w.heap.size ∧ ts.length ≤ cap ∧ cap ≤ maxLen
theorem InTabs.below {w w' : World} {v : Value} {ts : List Tn} (h : InTabs w v ts) (hb : Below w.heap.size w w') : InTabs w' v ts := by
  rcases h with h | ⟨b, off, cap, hv, hE, hlt, h1, h2⟩
  · exact .inl h
  · exact .inr ⟨b, off, cap, hv, hE.below hb hlt, by have := hb.size; omega, h1, h2⟩
theorem InRuns.ucells {w : World} {v : Value} {rs : List Rn} (h : InRuns w v rs) : v.cells = #[v] := by
  rcases h with ⟨a, cap, rfl, _⟩ | ⟨b, off, cap, rfl, _⟩ <;> rfl
theorem InTabs.ucells {w : World} {v : Value} {ts : List Tn} (h : InTabs w v ts) : v.cells = #[v] := by
  rcases h with ⟨a, cap, rfl, _⟩ | ⟨b, off, cap, rfl, _⟩ <;> rfl
def okT (ts : List Tn) : Prop := ∀ t ∈ ts, t.lo.size ≤ maxLen ∧ okR t.rs
/-- How much a tablet holds. -/
def wt (t : Tn) : Nat := t.lo.size + (t.rs.length + tot t.rs)
def totT : List Tn → Nat
  | [] => 0
  | t :: ts => wt t + totT ts
theorem totT_append : ∀ (a b : List Tn), totT (a ++ b) = totT a + totT b
  | [], b => by simp [totT]
  | r :: a, b => by simp [totT, totT_append a b]; omega
theorem totT_take {ts : List Tn} {k : Nat} {t : Tn} (h : ts[k]? = some t) : totT (ts.take (k + 1)) = totT (ts.take k) + wt t := by
  rw [List.take_add_one, h, totT_append]; simp [totT]
theorem totT_le (ts : List Tn) (k : Nat) : totT (ts.take k) ≤ totT ts := by
  have h := totT_append (ts.take k) (ts.drop k)
  rw [List.take_append_drop] at h
  omega
theorem totT_mem {ts : List Tn} {k : Nat} {t : Tn} (h : ts[k]? = some t) : wt t ≤ totT ts := by
  have h1 := totT_take h
  have h2 := totT_le ts (k + 1)
  omega

set_option maxRecDepth 100000 in
theorem tabs_of_trod {H : Type} {enc : TypeId × Value → H} {w : World} {base : Nat} {held : Bool} {fuel : Nat} {v : Value} {x : DataW H × List MemPlace}
    (h : DataW.trod enc Try.prog w base (fun _ => true) held fuel 60 [v] = some x) : ∃ ts : List Tn, InTabs w v ts ∧ okT ts := by
  have h1 : Try.prog.cellsOf 185 = 2 := by kernel_rfl
  have h2 : Try.prog.cellsOf 183 = 1 := by kernel_rfl
  have h3 : Try.prog.cellsOf 9 = 1 := by kernel_rfl
  rcases open_slice Try.underlying60 h with ⟨hcs, _⟩ | ⟨a, len, cap, m, n, D, Pl, hcs, hba, hl, hm, hmm, _, hel⟩
  · simp only [List.cons.injEq, and_true] at hcs
    exact ⟨[], .inl ⟨none, 0, hcs, rfl⟩, by simp [okT]⟩
  · simp only [List.cons.injEq, and_true] at hcs
    subst hcs
    rw [if_pos rfl] at hmm
    subst hmm
    have hel1 : ∀ i, i < m → ∃ cs', w.cells? base (a.add (i * 2)) 2 = some cs' ∧ DataW.trod enc Try.prog w base (fun _ => true) held n 185 cs' = some (D i, Pl i) := fun i hi => by
      have := hel i hi
      rw [h1] at this
      exact this
    clear hel
    have HM : Hid (m ≤ maxLen) := hm
    clear hm
    by_cases h0 : len = 0
    · subst h0; exact ⟨[], .inl ⟨_, _, rfl, rfl⟩, by simp [okT]⟩
    · obtain ⟨b, off, spot⟩ := a
      have hspot : spot = none := by
        obtain ⟨cs', hc, _⟩ := hel1 0 (by omega)
        obtain ⟨_, hlen, hget⟩ := World.cells?_some hc
        have h1 := hget 0 (by omega)
        have h2 : (w.cell? ((Addr.add ⟨b, off, spot⟩ (0 * 2)).add 0)).isSome = true := by rw [h1]; simp; omega
        obtain ⟨u, hu⟩ := Option.isSome_iff_exists.1 h2
        simpa [Addr.add] using World.cell?_spot hu
      subst hspot
      obtain ⟨ts, hts, hp⟩ := list_of_forall (P := fun i (t : Tn) => (t.lo.size ≤ maxLen ∧ okR t.rs) ∧ (w.cell? ⟨b, off + i * 2, none⟩ = some (.string t.lo) ∧ w.cell? ⟨b, off + i * 2 + 1, none⟩ = some t.u ∧ InRuns w t.u t.rs)) len (fun i hi => by
        obtain ⟨cs', hc, ht⟩ := hel1 i (by omega)
        obtain ⟨_, hlen, hget⟩ := World.cells?_some hc
        obtain ⟨y0, y1, n', _, hl', h0', h1'⟩ := trod_struct2 Try.underlying185 ht
        rw [h1] at hl'
        match cs', hl' with
        | [c0, c1], _ =>
          simp [h2, h3] at h0' h1'
          obtain ⟨lo, e0, _, b0⟩ := DataW.trod_string Try.underlying9 h0'
          simp only [List.cons.injEq, and_true] at e0
          subst e0
          obtain ⟨rs, he, ok⟩ := runs_of_trod h1'
          refine ⟨⟨lo, c1, rs⟩, ⟨b0, ok⟩, ?_, ?_, he⟩
          · simpa [Addr.add_mid] using hget 0 (by omega)
          · simpa [Addr.add_mid] using hget 1 (by omega))
      have hlt : b < w.heap.size := by
        obtain ⟨cs', hc, _⟩ := hel1 0 (by omega)
        simpa [Addr.add] using World.cells?_block hc (by omega)
      subst hts
      refine ⟨ts, .inr ⟨b, off, m, rfl, fun i e he => (hp i e he).2, hlt, hl, HM.out⟩, fun e he => ?_⟩
      obtain ⟨i, hi⟩ := List.getElem?_of_mem he
      exact (hp i e hi).1
set_option maxRecDepth 100000 in
theorem open_store {H : Type} {enc : TypeId × Value → H} {w : World} {base b0 : Nat} {held : Bool} {r : Reach} {v : Value} {d : DataW H} {p : List MemPlace}
    (hv : Value.okWide Try.prog w r b0 62 v) (h : DataW.Trod enc Try.prog w base (fun _ => true) held 62 v d p) :
    ∃ (u : Value) (ts : List Tn), v = .agg #[u] ∧ InTabs w u ts ∧ okT ts := by
  obtain ⟨cs, rfl, hsz⟩ := okWide_struct Try.underlying62 hv
  obtain ⟨fuel, hf⟩ := h
  obtain ⟨y0, n, _, hl, h0⟩ := trod_struct1 Try.underlying62 hf
  have h1 : Try.prog.cellsOf 62 = 1 := by kernel_rfl
  have h2 : Try.prog.cellsOf 60 = 1 := by kernel_rfl
  rw [h1] at hsz
  obtain ⟨l⟩ := cs
  match l, hsz with
  | [u], _ =>
    simp [h2, Value.cells] at h0
    obtain ⟨es, he, ok⟩ := tabs_of_trod h0
    exact ⟨u, es, rfl, he, ok⟩

set_option maxHeartbeats 1000000 in
theorem szTablet_any (t : Tn) (left : Int) (w : World) (h : InRuns w t.u t.rs) (hok : okR t.rs) (hs : t.lo.size ≤ maxLen) (h0 : 0 ≤ left) (h1 : left ≤ 2 ^ 40) :
    Calls Try.prog 113 #[.agg #[.string t.lo, t.u], .int .i64 left] w fun e w' =>
      ∃ x, e = .returned (.int .i64 x) ∧ (x = -1 ∨ (0 ≤ x ∧ x + wt t ≤ left)) ∧ Below w.heap.size w w' := by
  have hu := h.ucells
  have HE : Hid (InRuns w t.u t.rs ∧ okR t.rs) := ⟨h, hok⟩
  unfold maxLen at hs
  clear h hok
  by_cases hle : left - t.lo.size < 0
  · go_enter Try.func113, Try.ntmps113
    go_wp2_with fail
    go_ret
    exact ⟨_, rfl, .inl rfl, (Below.refl _ _).alloc (Nat.le_refl _) _⟩
  have hle' : 0 ≤ left - t.lo.size := by omega
  go_enter Try.func113, Try.ntmps113
  go_wp2_with fail
  refine (szRunS_any t.u t.rs _ _ (HE.out.1.below ((Below.refl _ _).alloc (Nat.le_refl _) _)) HE.out.2 hle' (by omega)).mono ?_
  rintro e w1 ⟨x, rfl, hx, hb1⟩
  have k1 : Below w.heap.size w w1 := ((Below.refl _ _).alloc (Nat.le_refl _) (Obj.cells #[.string t.lo, t.u] 185)).trans (hb1.mono (by simp))
  have HX : Hid (x = -1 ∨ (0 ≤ x ∧ x + wt t ≤ left)) := by
    rcases hx with rfl | ⟨a, b⟩
    · exact .inl rfl
    · exact .inr ⟨a, by unfold wt; omega⟩
  by_cases hx0 : x < 0
  · clear hx
    go_wp2_with fail
    go_ret
    exact ⟨_, rfl, .inl rfl, k1⟩
  · clear hx
    go_wp2_with fail
    go_ret
    exact ⟨_, rfl, HX.out, k1⟩

set_option maxHeartbeats 1000000 in
theorem szTabletS_any (v : Value) (ts : List Tn) (left : Int) (w : World) (h : InTabs w v ts) (hok : okT ts) (h0 : 0 ≤ left) (h1 : left ≤ 2 ^ 40) :
    Calls Try.prog 71 #[v, .int .i64 left] w fun e w' =>
      ∃ x, e = .returned (.int .i64 x) ∧ (x = -1 ∨ (0 ≤ x ∧ x + ts.length + totT ts ≤ left)) ∧ Below w.heap.size w w' := by
  rcases h with ⟨a, cap, rfl, rfl⟩ | ⟨b, off, cap, rfl, hE, hB, hlen, hcap⟩
  · go_enter Try.func71, Try.ntmps71
    go_wp2
    go_loopw [1, 5] (fun l i wr => l = .int .i64 left ∧ i = .int .i64 0 ∧ Below w.heap.size w wr) (fun _ i _ => 0)
    case atStart => exact ⟨rfl, rfl, Below.refl _ _⟩
    case round =>
      obtain ⟨rfl, rfl, hb⟩ := hrel
      go_wp2_with fail
      go_ret
      exact ⟨_, rfl, .inr ⟨h0, by simp [totT]⟩, hb⟩
  · have HE : Hid (TabsAt w b off ts) := hE
    have HO : Hid (okT ts) := hok
    clear hE hok
    unfold maxLen at hcap
    by_cases hle : left < ts.length
    · have hle' : left - ts.length < 0 := by omega
      go_enter Try.func71, Try.ntmps71
      go_wp2
      go_ret
      exact ⟨_, rfl, .inl rfl, Below.refl _ _⟩
    have hle' : 0 ≤ left - ts.length := by omega
    go_enter Try.func71, Try.ntmps71
    go_wp2
    go_loopw [1, 5] (fun l i wr => ∃ (k : Nat) (x : Int), k ≤ ts.length ∧ i = .int .i64 k ∧ l = .int .i64 x ∧ 0 ≤ x ∧ x + ts.length + totT (ts.take k) ≤ left ∧ Below w.heap.size w wr) (fun _ i _ => ts.length - (intOf i).toNat)
    case atStart => exact ⟨0, _, Nat.zero_le _, rfl, rfl, hle', by simp [totT], Below.refl _ _⟩
    case round =>
      obtain ⟨k, x, hk, rfl, rfl, hx0, hx1, hb⟩ := hrel
      have hsz := hb.size
      have HX : Hid (x + ts.length + totT (ts.take k) ≤ left) := hx1
      have hxl : x ≤ left := by omega
      clear hx1
      by_cases hlt : k < ts.length
      · obtain ⟨t, ht⟩ : ∃ t, ts[k]? = some t := ⟨_, List.getElem?_eq_getElem hlt⟩
        obtain ⟨c0, c1, hin⟩ := (HE.out.below hb hB) k t ht
        have HR : Hid (ts[k]? = some t ∧ InRuns wr t.u t.rs) := ⟨ht, hin⟩
        have hok := HO.out t (List.mem_of_getElem? ht)
        have HK : Hid (t.lo.size ≤ maxLen ∧ okR t.rs) := hok
        clear ht hin hok
        go_wp2_with fail
        refine (szTablet_any t _ _ HR.out.2 HK.out.2 HK.out.1 hx0 (by omega)).mono ?_
        rintro e w1 ⟨y, rfl, hy, hb1⟩
        have hb2 := hb.trans (hb1.mono hsz)
        clear c0 c1 hb1
        by_cases hy0 : y < 0
        · clear hy
          go_wp2_with fail
          go_ret
          exact ⟨_, rfl, .inl rfl, hb2⟩
        · have hy1 : 0 ≤ y := by omega
          have HY : Hid (y + ts.length + totT (ts.take (k + 1)) ≤ left) := by
            have h1 := totT_take HR.out.1
            have h2 := HX.out
            show y + ts.length + totT (ts.take (k + 1)) ≤ left
            omega
          clear hy
          go_wp2_with fail
          go_roundw
          case rel => exact ⟨k + 1, y, by omega, by go_num, rfl, hy1, HY.out, hb2⟩
          case measure => simp [intOf]; omega
      · have HY : Hid (x + ts.length + totT ts ≤ left) := by
          have h2 := HX.out
          rw [List.take_of_length_le (by omega)] at h2
          exact h2
        go_wp2
        go_ret
        exact ⟨_, rfl, .inr ⟨hx0, HY.out⟩, hb⟩

set_option maxHeartbeats 400000 in
theorem szStore_any (u : Value) (ts : List Tn) (left : Int) (w : World) (h : InTabs w u ts) (hok : okT ts) (h0 : 0 ≤ left) (h1 : left ≤ 2 ^ 40) :
    Calls Try.prog 25 #[.agg #[u], .int .i64 left] w fun e w' =>
      ∃ x, e = .returned (.int .i64 x) ∧ (x = -1 ∨ (0 ≤ x ∧ x + ts.length + totT ts ≤ left)) ∧ Below w.heap.size w w' := by
  have HE : Hid (InTabs w u ts ∧ okT ts) := ⟨h, hok⟩
  have hu := h.ucells
  clear h hok
  go_enter Try.func25, Try.ntmps25
  go_wp2_with fail
  refine (szTabletS_any u ts left _ (HE.out.1.below ((Below.refl _ _).alloc (Nat.le_refl _) _)) HE.out.2 h0 h1).mono ?_
  rintro e w1 ⟨x, rfl, hx, hb1⟩
  have k1 : Below w.heap.size w w1 := ((Below.refl _ _).alloc (Nat.le_refl _) (Obj.cells #[u] 62)).trans (hb1.mono (by simp))
  have HX : Hid (x = -1 ∨ (0 ≤ x ∧ x + ts.length + totT ts ≤ left)) := hx
  by_cases hx0 : x < 0
  · clear hx
    go_wp2_with fail
    go_ret
    exact ⟨_, rfl, .inl rfl, k1⟩
  · clear hx
    go_wp2_with fail
    go_ret
    exact ⟨_, rfl, HX.out, k1⟩
end Go.Proofs.Ytlgeffinhbodeae
