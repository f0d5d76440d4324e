/-
  impl.operandCount, strength, inParens, shapeOf.
-/
import Derived.Test.YthkmecppjhcidacNdV
import Derived.Test.YthkmecppjhcidacNdT
import Derived.Test.YthkmecppjhcidacNdS
namespace Go.Proofs.Ythkmecppjhcidac
open Go.ChangeShapes Go.WideShapes Go.ChangeAt Go.RowKit Go.Deep
set_option linter.unusedVariables false
set_option linter.unusedSimpArgs false
set_option maxRecDepth 100000

set_option maxHeartbeats 1000000 in
theorem operandCount_core (k : Int) (w : World) : Calls Try.prog 73 #[.int .i64 k] w fun e w' => e = .returned (.int .i64 (arity k : Int)) ∧ w' = w := by
  by_cases h14 : k = 14
  · subst h14
    go_enter Try.func73, Try.ntmps73
    go_wp2_with fail
    go_ret
    exact ⟨rfl, rfl⟩
  by_cases h15 : k = 15
  · subst h15
    go_enter Try.func73, Try.ntmps73
    go_wp2_with fail
    go_ret
    exact ⟨rfl, rfl⟩
  by_cases h16 : k = 16
  · subst h16
    go_enter Try.func73, Try.ntmps73
    go_wp2_with fail
    go_ret
    exact ⟨rfl, rfl⟩
  have z14 : (k == 14) = false := by simpa using h14
  have z15 : (k == 15) = false := by simpa using h15
  have z16 : (k == 16) = false := by simpa using h16
  have H : Hid (arity k = 0) := by show arity k = 0; unfold arity; rw [if_neg (by omega), if_neg h16]
  go_enter Try.func73, Try.ntmps73
  go_wp2_with fail
  go_ret
  exact ⟨by rw [H.out]; rfl, rfl⟩
set_option maxHeartbeats 1000000 in
theorem strength_core (k : Int) (w : World) : Calls Try.prog 100 #[.int .i64 k] w fun e w' => e = .returned (.int .i64 (strong k : Int)) ∧ w' = w := by
  by_cases h15 : k = 15
  · subst h15
    go_enter Try.func100, Try.ntmps100
    go_wp2_with fail
    go_ret
    exact ⟨rfl, rfl⟩
  by_cases h14 : k = 14
  · subst h14
    go_enter Try.func100, Try.ntmps100
    go_wp2_with fail
    go_ret
    exact ⟨rfl, rfl⟩
  have z14 : (k == 14) = false := by simpa using h14
  have z15 : (k == 15) = false := by simpa using h15
  have H : Hid (strong k = 3) := by show strong k = 3; unfold strong; rw [if_neg h15, if_neg h14]
  go_enter Try.func100, Try.ntmps100
  go_wp2_with fail
  go_ret
  exact ⟨by rw [H.out]; rfl, rfl⟩
set_option maxHeartbeats 1000000 in
theorem inParens_core (op : Int) (i : Nat) (kid : Int) (w : World) (hop : ¬ op = 16) : Calls Try.prog 75 #[.int .i64 op, .int .i64 (i : Int), .int .i64 kid] w fun e w' => e = .returned (.bool (level op i kid)) ∧ w' = w := by
  by_cases hi : i = 0
  · subst hi
    have HL : Hid (level op 0 kid = decide (strong kid < strong op)) := by
      show level op 0 kid = _
      unfold level; simp [hop]
    clear hop
    go_enter Try.func75, Try.ntmps75
    go_wp2_with (go_at_call 100; refine (strength_core _ _).mono ?_; rintro e' w' ⟨rfl, rfl⟩)
    go_ret
    exact ⟨by rw [HL.out]; rfl, rfl⟩
  · have zi : ((i : Int) == 0) = false := by simpa using hi
    have HL : Hid (level op i kid = decide (strong kid ≤ strong op)) := by
      show level op i kid = _
      unfold level; simp [hop, hi]
    clear hop
    go_enter Try.func75, Try.ntmps75
    go_wp2_with (go_at_call 100; refine (strength_core _ _).mono ?_; rintro e' w' ⟨rfl, rfl⟩)
    go_ret
    exact ⟨by rw [HL.out]; rfl, rfl⟩
abbrev Shape.three (s : Shape) : List Value := [.bool s.valid, .int .i64 s.kind, .int .i64 (s.nest : Int)]
def cellsS (ss : List Shape) : List Value := ss.flatMap Shape.three
theorem length_cellsS (ss : List Shape) : (cellsS ss).length = ss.length * 3 := by
  induction ss with
  | nil => rfl
  | cons e es ih => simp only [cellsS, List.flatMap_cons, List.length_append] at ih ⊢; rw [ih]; simp; omega
theorem cellsS_append (es fs : List Shape) : cellsS (es ++ fs) = cellsS es ++ cellsS fs := by simp [cellsS]
theorem cellsS_get (es : List Shape) : ∀ (k : Nat) (e : Shape), es[k]? = some e → ∀ j, j < 3 → (cellsS es)[k * 3 + j]? = e.three[j]? := by
  induction es with
  | nil => intro k e h; simp at h
  | cons f es ih =>
    intro k e h j hj
    have hc : cellsS (f :: es) = f.three ++ cellsS es := by simp [cellsS]
    rw [hc]
    cases k with
    | zero =>
      simp at h; subst h
      rw [List.getElem?_append_left (by show 0 * 3 + j < 3; omega)]
      simp
    | succ k =>
      simp at h
      rw [List.getElem?_append_right (by show 3 ≤ (k + 1) * 3 + j; omega)]
      have : (k + 1) * 3 + j - f.three.length = k * 3 + j := by show (k + 1) * 3 + j - 3 = _; omega
      rw [this]; exact ih k e h j hj
theorem cellsS_take (es : List Shape) (k : Nat) : cellsS (es.take k) = (cellsS es).take (k * 3) := by
  induction es generalizing k with
  | nil => simp [cellsS]
  | cons f es ih =>
    cases k with
    | zero => simp [cellsS]
    | succ k =>
      have hc : cellsS (f :: es) = f.three ++ cellsS es := by simp [cellsS]
      have hd : cellsS (f :: es.take k) = f.three ++ cellsS (es.take k) := by simp [cellsS]
      have e1 : (k + 1) * 3 = f.three.length + k * 3 := by show (k + 1) * 3 = 3 + k * 3; omega
      rw [List.take_succ_cons, hd, hc, ih, e1, List.take_length_add_append]
/-- Shapes at ⟨b, o⟩. -/
def ShsAt (w : World) (b o : Nat) (ss : List Shape) : Prop := ∀ i s, ss[i]? = some s → w.cell? ⟨b, o + i * 3, none⟩ = some (.bool s.valid) ∧ w.cell? ⟨b, o + i * 3 + 1, none⟩ = some (.int .i64 s.kind) ∧ w.cell? ⟨b, o + i * 3 + 2, none⟩ = some (.int .i64 (s.nest : Int))
theorem ShsAt.below {B : Nat} {w w' : World} {b o : Nat} {ss : List Shape} (h : ShsAt w b o ss) (hb : Below B w w') (hlt : b < B) : ShsAt w' b o ss := by
  intro i e he
  have := h i e he
  refine ⟨?_, ?_, ?_⟩
  all_goals rw [hb.cell (by exact hlt)]
  · exact this.1
  · exact this.2.1
  · exact this.2.2
theorem ShsAt.drop {w : World} {b o : Nat} {ss : List Shape} (h : ShsAt w b o ss) (k : Nat) : ShsAt w b (o + k * 3) (ss.drop k) := by
  intro i s hs
  have := h (k + i) s (by rw [← List.getElem?_drop]; exact hs)
  rw [Nat.add_mul, ← Nat.add_assoc] at this
  exact this
def OwnSh (w : World) (base g cp : Nat) (ss : List Shape) : Prop := w.ownsRow base 81 3 (.slice (some ⟨g, 0, none⟩) ss.length cp) ss.length (cellsS ss)
theorem OwnSh.lt {w : World} {base g cp : Nat} {ss : List Shape} (h : OwnSh w base g cp ss) : base ≤ g ∧ g < w.heap.size := World.ownsRow.lt h g rfl
theorem OwnSh.below {w w' : World} {base g cp : Nat} {ss : List Shape} (h : OwnSh w base g cp ss) (hb : Below w.heap.size w w') : OwnSh w' base g cp ss := own_chg h (Chg.of_below hb) (S := fun _ => False) (fun k q z => z)
theorem OwnSh.at {w : World} {base g cp : Nat} {ss : List Shape} (h : OwnSh w base g cp ss) : ShsAt w g 0 ss := by
  intro i e he
  have hi : i < ss.length := (List.getElem?_eq_some_iff.1 he).1
  have c := fun j (hj : j < 3) => (World.ownsRow.cellAt h (i * 3 + j) (by omega)).trans (cellsS_get ss i e he j hj)
  refine ⟨?_, ?_, ?_⟩
  · simpa using c 0 (by omega)
  · simpa using c 1 (by omega)
  · simpa using c 2 (by omega)
theorem OwnSh.caps {w : World} {base g cp : Nat} {ss : List Shape} (h : OwnSh w base g cp ss) : ss.length ≤ cp ∧ cp ≤ maxLen := by
  rcases h.2 with ⟨h0, _⟩ | ⟨g', cap', cur, hv, _, _, hn, hcap, _, _⟩
  · cases h0
  · simp only [Value.slice.injEq, Option.some.injEq, Addr.mk.injEq, and_true, true_and] at hv
    obtain ⟨rfl, rfl⟩ := hv
    exact ⟨hn, hcap⟩
theorem OwnSh.take {w : World} {base g cp : Nat} {ss : List Shape} (h : OwnSh w base g cp ss) {k : Nat} (hk : k ≤ ss.length) : OwnSh w base g cp (ss.take k) := by
  rcases h.2 with ⟨h0, _⟩ | ⟨g', cap', cur, hv, h1, h2, h3, h4, h5, h6⟩
  · cases h0
  · simp only [Value.slice.injEq, Option.some.injEq, Addr.mk.injEq, and_true, true_and] at hv
    obtain ⟨rfl, rfl⟩ := hv
    have hl : (ss.take k).length = k := by rw [List.length_take]; omega
    refine ⟨by rw [length_cellsS], .inr ⟨g, cp, cur, rfl, h1, h2, by omega, h4, h5, ?_⟩⟩
    rw [hl, cellsS_take, ← h6, List.take_take]
    congr 1
    omega
theorem ownSh_new (w : World) {base : Nat} (hb : base ≤ w.heap.size) : OwnSh (w.alloc (Obj.cells #[] 81)) base w.heap.size 0 [] :=
  World.ownsRow_made w #[] 0 hb (Nat.zero_le _) (by simp)
/-- The state of shapeOf. -/
structure SoJ (w : World) (e : Nd) (WB : Nat) (v : Bool) (a : Nat) (wr : World) : Prop where
  node : BoxAt wr w.heap.size 76 7 w.heap.size e.seven
  res : BoxAt wr w.heap.size 81 3 (w.heap.size + 1) [.bool false, .int .i64 0, .int .i64 0]
  whole : BoxAt wr w.heap.size 81 3 WB [.bool v, .int .i64 e.kind, .int .i64 (a : Int)]
  ne : w.heap.size + 2 ≤ WB
  below : Below w.heap.size w wr
theorem SoJ.move {w : World} {e : Nd} {WB : Nat} {v : Bool} {a : Nat} {wr w' : World} (h : SoJ w e WB v a wr) (hb : Below wr.heap.size wr w') : SoJ w e WB v a w' :=
  ⟨h.node.below hb, h.res.below hb, h.whole.below hb, h.ne, h.below.trans (hb.mono h.below.size)⟩
theorem valid_is (e : Nd) (w : World) (hs : e.s.size ≤ maxLen) (ht : e.t.size ≤ maxLen) : Calls Try.prog 74 #[.agg #[.int .i64 e.kind, .string e.s, .bool e.hi, .string e.t, .int .u64 e.lo, .int .u64 e.up, .int .i64 e.n]] w fun r w' => r = .returned (.bool (goodB e)) ∧ Below w.heap.size w w' := by
  refine (validNode_core e w hs ht).mono ?_
  rintro r w' ⟨b, rfl, hb, hb2⟩
  refine ⟨?_, hb2⟩
  congr 2
  rw [Bool.eq_iff_iff, hb, goodB_iff]
end Go.Proofs.Ythkmecppjhcidac
