/-
  Visible cells in memory, one behind another: an entry without its kind.
-/
import Derived.Test.YtodaanmbbgdclabInto
import Derived.Test.YtodaanmbbgdclabMark
import Derived.Deep.DeepCutAuto
import Derived.Deep.RegionWith
namespace Go.Proofs.Ytodaanmbbgdclab
open Go.ChangeShapes Go.WideShapes Go.ChangeAt Go.RowKit Go.Deep
set_option linter.unusedVariables false
set_option linter.unusedSimpArgs false

abbrev Ent.five (e : Ent) : List Value := [.string e.row, .string e.fam, .string e.qual, .int .u64 e.ts, .string e.val]
abbrev Ent.c (e : Ent) : Value := .agg #[.string e.row, .string e.fam, .string e.qual, .int .u64 e.ts, .string e.val]
def cellsC (es : List Ent) : List Value := es.flatMap Ent.five
theorem cellsC_nil : cellsC [] = [] := rfl
theorem cellsC_cons (e : Ent) (es : List Ent) : cellsC (e :: es) = e.five ++ cellsC es := by simp [cellsC]
theorem cellsC_append (es fs : List Ent) : cellsC (es ++ fs) = cellsC es ++ cellsC fs := by simp [cellsC]
theorem length_cellsC (es : List Ent) : (cellsC es).length = es.length * 5 := by
  induction es with
  | nil => rfl
  | cons e es ih => rw [cellsC_cons, List.length_append, ih]; simp; omega
theorem cellsC_get (es : List Ent) : ∀ (k : Nat) (e : Ent), es[k]? = some e → ∀ j, j < 5 → (cellsC es)[k * 5 + j]? = e.five[j]? := by
  induction es with
  | nil => intro k e h; simp at h
  | cons f es ih =>
    intro k e h j hj
    rw [cellsC_cons]
    cases k with
    | zero =>
      simp at h; subst h
      rw [List.getElem?_append_left (by show 0 * 5 + j < 5; omega)]
      simp
    | succ k =>
      simp at h
      rw [List.getElem?_append_right (by show 5 ≤ (k + 1) * 5 + j; omega)]
      have : (k + 1) * 5 + j - f.five.length = k * 5 + j := by show (k + 1) * 5 + j - 5 = _; omega
      rw [this]; exact ih k e h j hj
theorem cellsC_set (es : List Ent) : ∀ (k : Nat) (e e' : Ent) (u : Value) (j : Nat), es[k]? = some e → j < 5 → e'.five = e.five.set j u → (cellsC es).set (k * 5 + j) u = cellsC (es.set k e') := by
  induction es with
  | nil => intro k e e' u j h; simp at h
  | cons f es ih =>
    intro k e e' u j h hj hc
    rw [cellsC_cons]
    cases k with
    | zero =>
      simp at h; subst h
      rw [List.set_append_left _ _ (by show 0 * 5 + j < 5; omega), List.set_cons_zero, cellsC_cons, hc]
      simp
    | succ k =>
      simp at h
      rw [List.set_append_right _ _ (by show 5 ≤ (k + 1) * 5 + j; omega), List.set_cons_succ, cellsC_cons]
      have : (k + 1) * 5 + j - f.five.length = k * 5 + j := by show (k + 1) * 5 + j - 5 = _; omega
      rw [this, ih k e e' u j h hj hc]

/-- The cells 'es' lie at ⟨b, off⟩, five each. -/
def CelsAt (w : World) (b off : Nat) (es : List Ent) : Prop :=
  ∀ i e, es[i]? = some e → w.cell? ⟨b, off + i * 5, none⟩ = some (.string e.row) ∧ w.cell? ⟨b, off + i * 5 + 1, none⟩ = some (.string e.fam) ∧ w.cell? ⟨b, off + i * 5 + 2, none⟩ = some (.string e.qual) ∧
    w.cell? ⟨b, off + i * 5 + 3, none⟩ = some (.int .u64 e.ts) ∧ w.cell? ⟨b, off + i * 5 + 4, none⟩ = some (.string e.val)
theorem CelsAt.below {B : Nat} {w w' : World} {b off : Nat} {es : List Ent} (h : CelsAt w b off es) (hb : Below B w w') (hlt : b < B) : CelsAt w' b off es := by
  intro i e he
  have := h i e he
  refine ⟨?_, ?_, ?_, ?_, ?_⟩
  all_goals rw [hb.cell (by exact hlt)]
  · exact this.1
  · exact this.2.1
  · exact this.2.2.1
  · exact this.2.2.2.1
  · exact this.2.2.2.2

/-- A row of the call's own holds the cells 'es'. -/
def OwnC (w : World) (base g cap : Nat) (es : List Ent) : Prop := w.ownsRow base 58 5 (.slice (some ⟨g, 0, none⟩) es.length cap) es.length (cellsC es)
theorem OwnC.at {w : World} {base g cap : Nat} {es : List Ent} (h : OwnC w base g cap es) : CelsAt w g 0 es := by
  intro i e he
  have hi : i < es.length := (List.getElem?_eq_some_iff.1 he).1
  have c := fun j (hj : j < 5) => (World.ownsRow.cellAt h (i * 5 + j) (by omega)).trans (cellsC_get es i e he j hj)
  refine ⟨?_, ?_, ?_, ?_, ?_⟩
  · simpa using c 0 (by omega)
  · simpa using c 1 (by omega)
  · simpa using c 2 (by omega)
  · simpa using c 3 (by omega)
  · simpa using c 4 (by omega)
theorem OwnC.lt {w : World} {base g cap : Nat} {es : List Ent} (h : OwnC w base g cap es) : base ≤ g ∧ g < w.heap.size := World.ownsRow.lt h g rfl
theorem OwnC.below {B : Nat} {w w' : World} {base g cap : Nat} {es : List Ent} (h : OwnC w base g cap es) (hb : Below B w w') (hg : g < B) : OwnC w' base g cap es := by
  refine ⟨h.1, ?_⟩
  rcases h.2 with hn | ⟨g', cap', cur, hv, h1, h2, rest⟩
  · exact .inl hn
  · simp only [Value.slice.injEq, Option.some.injEq, Addr.mk.injEq, and_true, true_and] at hv
    obtain ⟨rfl, rfl⟩ := hv
    exact .inr ⟨g, cap, cur, rfl, h1, by rw [hb.block g hg]; exact h2, rest⟩
theorem OwnC.set {w : World} {base g cap : Nat} {es : List Ent} (h : OwnC w base g cap es) (k j : Nat) (e e' : Ent) (u : Value) (hk : es[k]? = some e) (hj : j < 5) (hc : e'.five = e.five.set j u) :
    OwnC (w.setCell ⟨g, k * 5 + j, none⟩ u) base g cap (es.set k e') := by
  have := (World.ownsRow.stored h (k * 5 + j) u).1
  rw [cellsC_set es k e e' u j hk hj hc] at this
  unfold OwnC
  rw [List.length_set]
  exact this
theorem OwnC.upd {w : World} {base g cap m j : Nat} {fs : List Ent} {f f' : Ent} {u : Value} (h : OwnC w base g cap (fs.set m f)) (hm : m < fs.length) (hj : j < 5) (hc : f'.five = f.five.set j u) :
    OwnC (w.setCell ⟨g, m * 5 + j, none⟩ u) base g cap (fs.set m f') := by
  have := h.set m j f f' u (by simp [hm]) hj hc
  rwa [List.set_set] at this
theorem OwnC.mono {w : World} {base base' g cap : Nat} {es : List Ent} (h : OwnC w base g cap es) (hb : base' ≤ base) : OwnC w base' g cap es := by
  refine ⟨h.1, ?_⟩
  rcases h.2 with hn | ⟨g', cap', cur, hv, h1, rest⟩
  · exact .inl hn
  · exact .inr ⟨g', cap', cur, hv, Nat.le_trans hb h1, rest⟩
theorem OwnC.kept {w w' : World} {base g cp : Nat} {fs : List Ent} {row : Option Nat} (h : OwnC w base g cp fs) (hg : w.grownBy w' row) (hne : some g ≠ row) : OwnC w' base g cp fs :=
  World.ownsRow.kept h hg (.inr hne)
theorem OwnC.caps {w : World} {base g cp : Nat} {R : List Ent} (h : OwnC w base g cp R) : R.length ≤ cp ∧ cp ≤ maxLen := by
  rcases h.2 with ⟨h0, _⟩ | ⟨g', cap', cur, hv, _, _, hn, hcap, _, _⟩
  · cases h0
  · simp only [Value.slice.injEq, Option.some.injEq, Addr.mk.injEq, and_true, true_and] at hv
    obtain ⟨rfl, rfl⟩ := hv
    exact ⟨hn, hcap⟩
theorem ownC_new (w : World) : OwnC (w.alloc (Obj.cells #[] 58)) w.heap.size w.heap.size 0 [] := World.ownsRow_made w #[] 0 (Nat.le_refl _) (Nat.zero_le _) (by simp)

theorem Try.infoCel : (Try.prog.info? 58).map (fun i => (i.zero, i.size, i.bytes)) = some (some (.agg #[.string ⟨#[]⟩, .string ⟨#[]⟩, .string ⟨#[]⟩, .int .u64 0, .string ⟨#[]⟩]), 5, 72) := by kernel_rfl

theorem cel_new (wx : World) (f : Ent) : CelsAt (wx.alloc (Obj.cells #[.string f.row, .string f.fam, .string f.qual, .int .u64 f.ts, .string f.val] 58)) wx.heap.size 0 [f] := by
  intro j y hy
  obtain rfl : j = 0 := by
    have := (List.getElem?_eq_some_iff.1 hy).1
    simpa using this
  simp at hy
  subst hy
  simp

/-- One cell appended to a row of the call's own. -/
theorem wpList_append_cel {ops : Array Oper} {rest : List Oper} {o : Oper} {a : Act} {Q : Exit → Act → World → Prop} (w : World) (hgd : o.guard = none) (s x : Operand)
    (ho : o.op = .call { callee := .builtin .append, args := #[s, x], argTypes := #[36, 36] })
    (base g cp n blk : Nat) (fs : List Ent) (e : Ent) (hs : a.eval s = .slice (some ⟨g, 0, none⟩) n cp) (hx : a.eval x = .slice (some ⟨blk, 0, none⟩) 1 1) (hn : n = fs.length) (hO : OwnC w base g cp fs)
    (hc : CelsAt w blk 0 [e]) (hlen : fs.length ≤ 2 ^ 30) (hbase : base ≤ w.heap.size)
    (h : ∀ g' cp' w', OwnC w' base g' cp' (fs ++ [e]) → w.grownBy w' (some g) → wpList Try.prog ops Q rest (a.put o.dst (.slice (some ⟨g', 0, none⟩) (n + 1) cp')) w') : wpList Try.prog ops Q (o :: rest) a w := by
  obtain ⟨i, hi, hz0, hz1, hz2⟩ := info_parts Try.infoCel
  subst hn
  obtain ⟨c0, c1, c2, c3, c4⟩ := hc 0 e rfl
  refine wpList_append_own w hgd s x 36 ho base 58 i _ 5 72 Try.underlying36 hi hz0 hz1 hz2 rfl (by decide) (.slice (some ⟨g, 0, none⟩) fs.length cp) fs.length (cellsC fs) hs hO ⟨blk, 0, none⟩ 1 1 (cellsC [e]) hx rfl ?_ ?_ ?_ ?_ hbase ?_
  · intro j u hu
    have hj : j < 5 := by
      have := (List.getElem?_eq_some_iff.1 hu).1
      rw [length_cellsC] at this
      simpa using this
    rw [Addr.add_mid, Nat.zero_add]
    simp only [Nat.zero_mul, Nat.zero_add] at c0 c1 c2 c3 c4
    match j, hj, hu with
    | 0, _, hu => simp [cellsC] at hu; rw [← hu]; exact c0
    | 1, _, hu => simp [cellsC] at hu; rw [← hu]; exact c1
    | 2, _, hu => simp [cellsC] at hu; rw [← hu]; exact c2
    | 3, _, hu => simp [cellsC] at hu; rw [← hu]; exact c3
    | 4, _, hu => simp [cellsC] at hu; rw [← hu]; exact c4
  · intro u hu
    simp [cellsC] at hu
    rcases hu with rfl | rfl | rfl | rfl | rfl <;> rfl
  · unfold maxLen; omega
  · omega
  · intro v' w' hown hgr hnil
    rw [← cellsC_append] at hown
    have hlen' : (fs ++ [e]).length = fs.length + 1 := by simp
    rcases hown.2 with ⟨hv, _⟩ | ⟨g', cap', cur, hv, h1, h2, h3⟩
    · have := (hnil.1 hv).1
      simp at this
    · subst hv
      exact h g' cap' w' (by unfold OwnC; rw [hlen']; exact hown) hgr

set_option maxHeartbeats 400000 in
theorem eqCell_same (a : Ent) (w : World) :
    Calls Try.prog 35 #[a.c, a.c] w fun e w' => e = .returned (.bool true) ∧ Below w.heap.size w w' := by
  unfold Ent.c
  go_enter Try.func35, Try.ntmps35
  go_wp2
  go_ret
  exact ⟨rfl, ((Below.refl _ _).alloc (Nat.le_refl _) _).alloc (by simp) _⟩

set_option maxHeartbeats 1000000 in
theorem eqCellS_same (b off cap b' off' cap' : Nat) (es : List Ent) (w : World) (hE : CelsAt w b off es) (hE' : CelsAt w b' off' es) (hB : b < w.heap.size) (hB' : b' < w.heap.size) (hlen : es.length ≤ maxLen) :
    Calls Try.prog 15 #[.slice (some ⟨b, off, none⟩) es.length cap, .slice (some ⟨b', off', none⟩) es.length cap'] w fun e w' =>
      e = .returned (.bool true) ∧ Below w.heap.size w w' := by
  have HE : Hid (CelsAt w b off es ∧ CelsAt w b' off' es) := ⟨hE, hE'⟩
  clear hE hE'
  unfold maxLen at hlen
  go_enter Try.func15, Try.ntmps15
  go_wp2
  go_loopw [5] (fun i wr => ∃ (k : Nat), k ≤ es.length ∧ i = .int .i64 k ∧ Below w.heap.size w wr) (fun i _ => es.length - (intOf i).toNat)
  case atStart => exact ⟨0, Nat.zero_le _, rfl, Below.refl _ _⟩
  case round =>
    obtain ⟨k, hk, rfl, hb⟩ := hrel
    have hs2 := hb.size
    by_cases hlt : k < es.length
    · obtain ⟨e, he⟩ : ∃ e, es[k]? = some e := ⟨_, List.getElem?_eq_getElem hlt⟩
      obtain ⟨c0, c1, c2, c3, c4⟩ := HE.out.1.below hb hB k e he
      obtain ⟨d0, d1, d2, d3, d4⟩ := HE.out.2.below hb hB' k e he
      clear he
      go_upto_region 6 with fail
      go_cut [26] (fun s wx => s = .bool false ∧ Below w.heap.size w wx)
      case first =>
        have z2 : (k : Int) < (es.length : Int) := by omega
        go_region_with (go_at_call 35; refine (eqCell_same e _).mono ?_; rintro e' w' ⟨rfl, hbb⟩)
        all_goals go_wp2_with fail
        all_goals go_meet
        all_goals exact ⟨rfl, hb.drew.trans (hbb.mono (by simp; omega))⟩
      case rest =>
      obtain ⟨rfl, h3⟩ := hcut
      clear c0 c1 c2 c3 c4 d0 d1 d2 d3 d4
      go_wp2_with fail
      go_roundw
      case rel => exact ⟨k + 1, by omega, by go_num, h3⟩
      case measure => simp [intOf]; omega
    · go_wp2_with fail
      go_ret
      exact ⟨rfl, hb⟩
theorem eqCellS_own {w : World} {base g cp base' g' cp' : Nat} {es : List Ent} (h : OwnC w base g cp es) (h' : OwnC w base' g' cp' es) :
    Calls Try.prog 15 #[.slice (some ⟨g, 0, none⟩) es.length cp, .slice (some ⟨g', 0, none⟩) es.length cp'] w fun e w' => e = .returned (.bool true) ∧ Below w.heap.size w w' :=
  eqCellS_same g 0 cp g' 0 cp' es w h.at h'.at h.lt.2 h'.lt.2 (Nat.le_trans h.caps.1 h.caps.2)
end Go.Proofs.Ytodaanmbbgdclab
