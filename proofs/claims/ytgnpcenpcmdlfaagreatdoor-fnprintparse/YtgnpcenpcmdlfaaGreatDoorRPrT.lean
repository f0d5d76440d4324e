/-
  spec.l5Word, l5LeafText.
-/
import Derived.Test.YtgnpcenpcmdlfaaGreatDoorRPrS
import Derived.Test.YtgnpcenpcmdlfaaGreatDoorZkAA
namespace Go.Proofs.YtgnpcenpcmdlfaaGreatDoor
open Go.ChangeShapes Go.WideShapes Go.ChangeAt Go.RowKit Go.Deep
set_option linter.unusedVariables false
set_option linter.unusedSimpArgs false
set_option maxRecDepth 100000

/-- The state of l5LeafText. -/
structure LtJ (w : World) (vs : List Value) (g cp : Nat) (X : List UInt8) (wr : World) : Prop where
  out : WrB wr (w.heap.size + 1) g cp X
  box : BoxAt wr w.heap.size 65 7 w.heap.size vs
  below : Below w.heap.size w wr
theorem LtJ.move {w : World} {vs : List Value} {g cp : Nat} {X : List UInt8} {wr w' : World} (h : LtJ w vs g cp X wr) (hb : Below wr.heap.size wr w') : LtJ w vs g cp X w' :=
  ⟨h.out.below hb, h.box.below hb, h.below.trans (hb.mono h.below.size)⟩
theorem LtJ.app {w : World} {vs : List Value} {g cp g' cp' : Nat} {X X' : List UInt8} {wr w' : World} (h : LtJ w vs g cp X wr) (hW : WrB w' (w.heap.size + 1) g' cp' X') (hgr : wr.grownBy w' (some g)) : LtJ w vs g' cp' X' w' := by
  have hle := h.out.le
  have hC : Chg (fun k => k = g) wr w' := Chg.of_grown hgr (fun k hk => by cases hk; rfl)
  exact ⟨hW, h.box.chg hC (by omega), Chg.below h.below hC h.below.size (fun k q => by omega)⟩
def LtP (X : List UInt8) (w : World) (r : Ending) (w' : World) : Prop := ∃ g cp, r = .returned (.slice (some ⟨g, 0, none⟩) X.length cp) ∧ WrB w' w.heap.size g cp X ∧ Below w.heap.size w w'
theorem LtJ.done {w : World} {vs : List Value} {g cp n : Nat} {X Y : List UInt8} {wr : World} (h : LtJ w vs g cp X wr) (hn : n = X.length) (hY : Y = X) : LtP Y w (.returned (.slice (some ⟨g, 0, none⟩) n cp)) wr := by
  subst hY hn
  exact ⟨g, cp, rfl, h.out.mono (by omega), h.below⟩
set_option maxHeartbeats 1000000 in
theorem l5Word_1 (w : World) : Calls Tryz.prog 87 #[.int .i64 1] w fun e w' => e = .returned (.string ⟨#[112, 97, 115, 115]⟩) ∧ w' = w := by
  go_enter Tryz.func87, Tryz.ntmps87
  go_wp2_with fail
  go_ret
  exact ⟨rfl, rfl⟩
set_option maxHeartbeats 8000000 in
theorem l5LeafText_1 (s : ByteArray) (hi : Bool) (t : ByteArray) (lo up n : Int) (w : World) (hg : GoodN ⟨1, s, hi, t, lo, up, n⟩) (hn : NumN ⟨1, s, hi, t, lo, up, n⟩) :
    Calls Tryz.prog 83 #[.agg #[.int .i64 1, .string s, .bool hi, .string t, .int .u64 lo, .int .u64 up, .int .i64 n]] w (LtP (leafM ⟨1, s, hi, t, lo, up, n⟩) w) := by
  have HG : Hid (GoodN ⟨1, s, hi, t, lo, up, n⟩ ∧ NumN ⟨1, s, hi, t, lo, up, n⟩) := ⟨hg, hn⟩
  have g0 : s.size ≤ 200 := hg.1
  have g1 : t.size ≤ 200 := hg.2.1
  obtain ⟨Y, hY⟩ : ∃ Y, Y = leafM ⟨1, s, hi, t, lo, up, n⟩ := ⟨_, rfl⟩
  rw [← hY]
  have HY0 : Hid (Y = leafM ⟨1, s, hi, t, lo, up, n⟩) := hY
  clear hY hg hn
  obtain ⟨W0, hW0⟩ : ∃ W0 : World, W0 = w.alloc (Obj.cells #[.int .i64 1, .string s, .bool hi, .string t, .int .u64 lo, .int .u64 up, .int .i64 n] 65) := ⟨_, rfl⟩
  have hb0 : Below w.heap.size w W0 := by rw [hW0]; exact (Below.refl _ _).alloc (Nat.le_refl _) _
  have z0 : W0.heap.size = w.heap.size + 1 := by rw [hW0]; simp
  have HB0 : Hid (BoxAt W0 w.heap.size 65 7 w.heap.size [.int .i64 1, .string s, .bool hi, .string t, .int .u64 lo, .int .u64 up, .int .i64 n]) := by
    rw [hW0]; exact boxAt_new w _ (Nat.le_refl _) rfl
  have c0 := HB0.out.cell (j := 0) rfl
  obtain ⟨W1, hW1⟩ : ∃ W1, W1 = Lib.bytesWorld W0 5 ⟨#[112, 97, 115, 115]⟩ := ⟨_, rfl⟩
  obtain ⟨cp1, hcp1⟩ : ∃ cp1, cp1 = grownCap W0 4 0 5 := ⟨_, rfl⟩
  have hcv : Sem.run Tryz.prog (convert 9 22 (.string ⟨#[112, 97, 115, 115]⟩)) W0 = .ok (.slice (some ⟨W0.heap.size, 0, none⟩) 4 cp1) W1 := by
    rw [hW1, hcp1]
    exact Lib.run_convert_string_bytes (P := Tryz.prog) W0 9 22 5 ⟨#[112, 97, 115, 115]⟩ Tryz.underlying9 Tryz.underlying22 Tryz.underlying5
  have HJ1 : Hid (LtJ w [.int .i64 1, .string s, .bool hi, .string t, .int .u64 lo, .int .u64 up, .int .i64 n] W0.heap.size cp1 [112, 97, 115, 115] W1) := by
    have hbb := below_bytes W0 ⟨#[112, 97, 115, 115]⟩
    rw [← hW1] at hbb
    refine ⟨?_, HB0.out.below hbb, hb0.trans (hbb.mono (by omega))⟩
    have h9 := (wrB_bytes W0 ⟨#[112, 97, 115, 115]⟩ (by decide)).mono (base' := w.heap.size + 1) (by omega)
    rw [← hW1] at h9
    rw [hcp1]
    exact h9
  clear hW1 hcp1 hb0
  obtain ⟨G1, hG1⟩ : ∃ G1, G1 = W0.heap.size := ⟨_, rfl⟩
  rw [← hG1] at hcv HJ1
  obtain ⟨X1, hX1⟩ : ∃ X1 : List UInt8, X1 = [112, 97, 115, 115] := ⟨_, rfl⟩
  have HX1 : Hid (X1 = [112, 97, 115, 115]) := hX1
  have x1 : X1.length = 4 := by rw [hX1]; rfl
  rw [← hX1] at HJ1
  clear hX1
  have HN1 : Hid (4 = X1.length) := x1.symm
  have x1' : X1.length ≤ 4 := by omega
  clear x1
  have q0 := HJ1.out.box.cell (j := 0) rfl
  have zs1 := HJ1.out.below.size
  go_enter Tryz.func83, Tryz.ntmps83
  go_upto_region 1 with fail
  rw [← hW0]
  clear hW0
  go_wp2_with fail
  refine (l5Word_1 W0).mono ?_
  rintro r w9 ⟨rfl, hw9⟩
  rw [hw9]
  clear hw9 c0 hG1 z0
  have HY : Hid (Y = X1) := by show _ = _; rw [HY0.out, HX1.out]; simp [leafM, tailM, wordA, bl]
  go_wp2_with fail
  go_ret
  exact HJ1.out.done HN1.out HY.out
set_option maxHeartbeats 1000000 in
theorem l5Word_2 (w : World) : Calls Tryz.prog 87 #[.int .i64 2] w fun e w' => e = .returned (.string ⟨#[98, 108, 111, 99, 107]⟩) ∧ w' = w := by
  go_enter Tryz.func87, Tryz.ntmps87
  go_wp2_with fail
  go_ret
  exact ⟨rfl, rfl⟩
set_option maxHeartbeats 8000000 in
theorem l5LeafText_2 (s : ByteArray) (hi : Bool) (t : ByteArray) (lo up n : Int) (w : World) (hg : GoodN ⟨2, s, hi, t, lo, up, n⟩) (hn : NumN ⟨2, s, hi, t, lo, up, n⟩) :
    Calls Tryz.prog 83 #[.agg #[.int .i64 2, .string s, .bool hi, .string t, .int .u64 lo, .int .u64 up, .int .i64 n]] w (LtP (leafM ⟨2, s, hi, t, lo, up, n⟩) w) := by
  have HG : Hid (GoodN ⟨2, s, hi, t, lo, up, n⟩ ∧ NumN ⟨2, s, hi, t, lo, up, n⟩) := ⟨hg, hn⟩
  have g0 : s.size ≤ 200 := hg.1
  have g1 : t.size ≤ 200 := hg.2.1
  obtain ⟨Y, hY⟩ : ∃ Y, Y = leafM ⟨2, s, hi, t, lo, up, n⟩ := ⟨_, rfl⟩
  rw [← hY]
  have HY0 : Hid (Y = leafM ⟨2, s, hi, t, lo, up, n⟩) := hY
  clear hY hg hn
  obtain ⟨W0, hW0⟩ : ∃ W0 : World, W0 = w.alloc (Obj.cells #[.int .i64 2, .string s, .bool hi, .string t, .int .u64 lo, .int .u64 up, .int .i64 n] 65) := ⟨_, rfl⟩
  have hb0 : Below w.heap.size w W0 := by rw [hW0]; exact (Below.refl _ _).alloc (Nat.le_refl _) _
  have z0 : W0.heap.size = w.heap.size + 1 := by rw [hW0]; simp
  have HB0 : Hid (BoxAt W0 w.heap.size 65 7 w.heap.size [.int .i64 2, .string s, .bool hi, .string t, .int .u64 lo, .int .u64 up, .int .i64 n]) := by
    rw [hW0]; exact boxAt_new w _ (Nat.le_refl _) rfl
  have c0 := HB0.out.cell (j := 0) rfl
  obtain ⟨W1, hW1⟩ : ∃ W1, W1 = Lib.bytesWorld W0 5 ⟨#[98, 108, 111, 99, 107]⟩ := ⟨_, rfl⟩
  obtain ⟨cp1, hcp1⟩ : ∃ cp1, cp1 = grownCap W0 5 0 5 := ⟨_, rfl⟩
  have hcv : Sem.run Tryz.prog (convert 9 22 (.string ⟨#[98, 108, 111, 99, 107]⟩)) W0 = .ok (.slice (some ⟨W0.heap.size, 0, none⟩) 5 cp1) W1 := by
    rw [hW1, hcp1]
    exact Lib.run_convert_string_bytes (P := Tryz.prog) W0 9 22 5 ⟨#[98, 108, 111, 99, 107]⟩ Tryz.underlying9 Tryz.underlying22 Tryz.underlying5
  have HJ1 : Hid (LtJ w [.int .i64 2, .string s, .bool hi, .string t, .int .u64 lo, .int .u64 up, .int .i64 n] W0.heap.size cp1 [98, 108, 111, 99, 107] W1) := by
    have hbb := below_bytes W0 ⟨#[98, 108, 111, 99, 107]⟩
    rw [← hW1] at hbb
    refine ⟨?_, HB0.out.below hbb, hb0.trans (hbb.mono (by omega))⟩
    have h9 := (wrB_bytes W0 ⟨#[98, 108, 111, 99, 107]⟩ (by decide)).mono (base' := w.heap.size + 1) (by omega)
    rw [← hW1] at h9
    rw [hcp1]
    exact h9
  clear hW1 hcp1 hb0
  obtain ⟨G1, hG1⟩ : ∃ G1, G1 = W0.heap.size := ⟨_, rfl⟩
  rw [← hG1] at hcv HJ1
  obtain ⟨X1, hX1⟩ : ∃ X1 : List UInt8, X1 = [98, 108, 111, 99, 107] := ⟨_, rfl⟩
  have HX1 : Hid (X1 = [98, 108, 111, 99, 107]) := hX1
  have x1 : X1.length = 5 := by rw [hX1]; rfl
  rw [← hX1] at HJ1
  clear hX1
  have HN1 : Hid (5 = X1.length) := x1.symm
  have x1' : X1.length ≤ 5 := by omega
  clear x1
  have q0 := HJ1.out.box.cell (j := 0) rfl
  have zs1 := HJ1.out.below.size
  go_enter Tryz.func83, Tryz.ntmps83
  go_upto_region 1 with fail
  rw [← hW0]
  clear hW0
  go_wp2_with fail
  refine (l5Word_2 W0).mono ?_
  rintro r w9 ⟨rfl, hw9⟩
  rw [hw9]
  clear hw9 c0 hG1 z0
  have HY : Hid (Y = X1) := by show _ = _; rw [HY0.out, HX1.out]; simp [leafM, tailM, wordA, bl]
  go_wp2_with fail
  go_ret
  exact HJ1.out.done HN1.out HY.out
set_option maxHeartbeats 1000000 in
theorem l5Word_3 (w : World) : Calls Tryz.prog 87 #[.int .i64 3] w fun e w' => e = .returned (.string ⟨#[115, 116, 114, 105, 112]⟩) ∧ w' = w := by
  go_enter Tryz.func87, Tryz.ntmps87
  go_wp2_with fail
  go_ret
  exact ⟨rfl, rfl⟩
set_option maxHeartbeats 8000000 in
theorem l5LeafText_3 (s : ByteArray) (hi : Bool) (t : ByteArray) (lo up n : Int) (w : World) (hg : GoodN ⟨3, s, hi, t, lo, up, n⟩) (hn : NumN ⟨3, s, hi, t, lo, up, n⟩) :
    Calls Tryz.prog 83 #[.agg #[.int .i64 3, .string s, .bool hi, .string t, .int .u64 lo, .int .u64 up, .int .i64 n]] w (LtP (leafM ⟨3, s, hi, t, lo, up, n⟩) w) := by
  have HG : Hid (GoodN ⟨3, s, hi, t, lo, up, n⟩ ∧ NumN ⟨3, s, hi, t, lo, up, n⟩) := ⟨hg, hn⟩
  have g0 : s.size ≤ 200 := hg.1
  have g1 : t.size ≤ 200 := hg.2.1
  obtain ⟨Y, hY⟩ : ∃ Y, Y = leafM ⟨3, s, hi, t, lo, up, n⟩ := ⟨_, rfl⟩
  rw [← hY]
  have HY0 : Hid (Y = leafM ⟨3, s, hi, t, lo, up, n⟩) := hY
  clear hY hg hn
  obtain ⟨W0, hW0⟩ : ∃ W0 : World, W0 = w.alloc (Obj.cells #[.int .i64 3, .string s, .bool hi, .string t, .int .u64 lo, .int .u64 up, .int .i64 n] 65) := ⟨_, rfl⟩
  have hb0 : Below w.heap.size w W0 := by rw [hW0]; exact (Below.refl _ _).alloc (Nat.le_refl _) _
  have z0 : W0.heap.size = w.heap.size + 1 := by rw [hW0]; simp
  have HB0 : Hid (BoxAt W0 w.heap.size 65 7 w.heap.size [.int .i64 3, .string s, .bool hi, .string t, .int .u64 lo, .int .u64 up, .int .i64 n]) := by
    rw [hW0]; exact boxAt_new w _ (Nat.le_refl _) rfl
  have c0 := HB0.out.cell (j := 0) rfl
  obtain ⟨W1, hW1⟩ : ∃ W1, W1 = Lib.bytesWorld W0 5 ⟨#[115, 116, 114, 105, 112]⟩ := ⟨_, rfl⟩
  obtain ⟨cp1, hcp1⟩ : ∃ cp1, cp1 = grownCap W0 5 0 5 := ⟨_, rfl⟩
  have hcv : Sem.run Tryz.prog (convert 9 22 (.string ⟨#[115, 116, 114, 105, 112]⟩)) W0 = .ok (.slice (some ⟨W0.heap.size, 0, none⟩) 5 cp1) W1 := by
    rw [hW1, hcp1]
    exact Lib.run_convert_string_bytes (P := Tryz.prog) W0 9 22 5 ⟨#[115, 116, 114, 105, 112]⟩ Tryz.underlying9 Tryz.underlying22 Tryz.underlying5
  have HJ1 : Hid (LtJ w [.int .i64 3, .string s, .bool hi, .string t, .int .u64 lo, .int .u64 up, .int .i64 n] W0.heap.size cp1 [115, 116, 114, 105, 112] W1) := by
    have hbb := below_bytes W0 ⟨#[115, 116, 114, 105, 112]⟩
    rw [← hW1] at hbb
    refine ⟨?_, HB0.out.below hbb, hb0.trans (hbb.mono (by omega))⟩
    have h9 := (wrB_bytes W0 ⟨#[115, 116, 114, 105, 112]⟩ (by decide)).mono (base' := w.heap.size + 1) (by omega)
    rw [← hW1] at h9
    rw [hcp1]
    exact h9
  clear hW1 hcp1 hb0
  obtain ⟨G1, hG1⟩ : ∃ G1, G1 = W0.heap.size := ⟨_, rfl⟩
  rw [← hG1] at hcv HJ1
  obtain ⟨X1, hX1⟩ : ∃ X1 : List UInt8, X1 = [115, 116, 114, 105, 112] := ⟨_, rfl⟩
  have HX1 : Hid (X1 = [115, 116, 114, 105, 112]) := hX1
  have x1 : X1.length = 5 := by rw [hX1]; rfl
  rw [← hX1] at HJ1
  clear hX1
  have HN1 : Hid (5 = X1.length) := x1.symm
  have x1' : X1.length ≤ 5 := by omega
  clear x1
  have q0 := HJ1.out.box.cell (j := 0) rfl
  have zs1 := HJ1.out.below.size
  go_enter Tryz.func83, Tryz.ntmps83
  go_upto_region 1 with fail
  rw [← hW0]
  clear hW0
  go_wp2_with fail
  refine (l5Word_3 W0).mono ?_
  rintro r w9 ⟨rfl, hw9⟩
  rw [hw9]
  clear hw9 c0 hG1 z0
  have HY : Hid (Y = X1) := by show _ = _; rw [HY0.out, HX1.out]; simp [leafM, tailM, wordA, bl]
  go_wp2_with fail
  go_ret
  exact HJ1.out.done HN1.out HY.out
set_option maxHeartbeats 1000000 in
theorem l5Word_4 (w : World) : Calls Tryz.prog 87 #[.int .i64 4] w fun e w' => e = .returned (.string ⟨#[114, 111, 119]⟩) ∧ w' = w := by
  go_enter Tryz.func87, Tryz.ntmps87
  go_wp2_with fail
  go_ret
  exact ⟨rfl, rfl⟩
set_option maxHeartbeats 8000000 in
theorem l5LeafText_4 (s : ByteArray) (hi : Bool) (t : ByteArray) (lo up n : Int) (w : World) (hg : GoodN ⟨4, s, hi, t, lo, up, n⟩) (hn : NumN ⟨4, s, hi, t, lo, up, n⟩) :
    Calls Tryz.prog 83 #[.agg #[.int .i64 4, .string s, .bool hi, .string t, .int .u64 lo, .int .u64 up, .int .i64 n]] w (LtP (leafM ⟨4, s, hi, t, lo, up, n⟩) w) := by
  have HG : Hid (GoodN ⟨4, s, hi, t, lo, up, n⟩ ∧ NumN ⟨4, s, hi, t, lo, up, n⟩) := ⟨hg, hn⟩
  have g0 : s.size ≤ 200 := hg.1
  have g1 : t.size ≤ 200 := hg.2.1
  obtain ⟨Y, hY⟩ : ∃ Y, Y = leafM ⟨4, s, hi, t, lo, up, n⟩ := ⟨_, rfl⟩
  rw [← hY]
  have HY0 : Hid (Y = leafM ⟨4, s, hi, t, lo, up, n⟩) := hY
  clear hY hg hn
  obtain ⟨W0, hW0⟩ : ∃ W0 : World, W0 = w.alloc (Obj.cells #[.int .i64 4, .string s, .bool hi, .string t, .int .u64 lo, .int .u64 up, .int .i64 n] 65) := ⟨_, rfl⟩
  have hb0 : Below w.heap.size w W0 := by rw [hW0]; exact (Below.refl _ _).alloc (Nat.le_refl _) _
  have z0 : W0.heap.size = w.heap.size + 1 := by rw [hW0]; simp
  have HB0 : Hid (BoxAt W0 w.heap.size 65 7 w.heap.size [.int .i64 4, .string s, .bool hi, .string t, .int .u64 lo, .int .u64 up, .int .i64 n]) := by
    rw [hW0]; exact boxAt_new w _ (Nat.le_refl _) rfl
  have c0 := HB0.out.cell (j := 0) rfl
  obtain ⟨W1, hW1⟩ : ∃ W1, W1 = Lib.bytesWorld W0 5 ⟨#[114, 111, 119]⟩ := ⟨_, rfl⟩
  obtain ⟨cp1, hcp1⟩ : ∃ cp1, cp1 = grownCap W0 3 0 5 := ⟨_, rfl⟩
  have hcv : Sem.run Tryz.prog (convert 9 22 (.string ⟨#[114, 111, 119]⟩)) W0 = .ok (.slice (some ⟨W0.heap.size, 0, none⟩) 3 cp1) W1 := by
    rw [hW1, hcp1]
    exact Lib.run_convert_string_bytes (P := Tryz.prog) W0 9 22 5 ⟨#[114, 111, 119]⟩ Tryz.underlying9 Tryz.underlying22 Tryz.underlying5
  have HJ1 : Hid (LtJ w [.int .i64 4, .string s, .bool hi, .string t, .int .u64 lo, .int .u64 up, .int .i64 n] W0.heap.size cp1 [114, 111, 119] W1) := by
    have hbb := below_bytes W0 ⟨#[114, 111, 119]⟩
    rw [← hW1] at hbb
    refine ⟨?_, HB0.out.below hbb, hb0.trans (hbb.mono (by omega))⟩
    have h9 := (wrB_bytes W0 ⟨#[114, 111, 119]⟩ (by decide)).mono (base' := w.heap.size + 1) (by omega)
    rw [← hW1] at h9
    rw [hcp1]
    exact h9
  clear hW1 hcp1 hb0
  obtain ⟨G1, hG1⟩ : ∃ G1, G1 = W0.heap.size := ⟨_, rfl⟩
  rw [← hG1] at hcv HJ1
  obtain ⟨X1, hX1⟩ : ∃ X1 : List UInt8, X1 = [114, 111, 119] := ⟨_, rfl⟩
  have HX1 : Hid (X1 = [114, 111, 119]) := hX1
  have x1 : X1.length = 3 := by rw [hX1]; rfl
  rw [← hX1] at HJ1
  clear hX1
  have HN1 : Hid (3 = X1.length) := x1.symm
  have x1' : X1.length ≤ 3 := by omega
  clear x1
  have q0 := HJ1.out.box.cell (j := 0) rfl
  have zs1 := HJ1.out.below.size
  go_enter Tryz.func83, Tryz.ntmps83
  go_upto_region 1 with fail
  rw [← hW0]
  clear hW0
  go_wp2_with fail
  refine (l5Word_4 W0).mono ?_
  rintro r w9 ⟨rfl, hw9⟩
  rw [hw9]
  clear hw9 c0 hG1 z0
  have HY : Hid (Y = X1 ++ [32] ++ quoM (bl s)) := by show _ = _; rw [HY0.out, HX1.out]; simp [leafM, tailM, wordA, bl]
  have hql := quoM_len (bl s); rw [bl_len] at hql
  obtain ⟨QL, hQL⟩ : ∃ QL : List UInt8, QL = quoM (bl s) := ⟨_, rfl⟩
  rw [← hQL] at HY hql
  have HQL : Hid (QL = quoM (bl s)) := hQL
  clear hQL
  have m1a : W1.cell? ⟨w.heap.size, 1, none⟩ = some (.string s) := HJ1.out.box.cell (j := 1) rfl
  have hS : (fun w' : World => w'.cell? ⟨w.heap.size, 1, none⟩ = some (.string s)) W1.drew := m1a
  have HJd : Hid (LtJ w [.int .i64 4, .string s, .bool hi, .string t, .int .u64 lo, .int .u64 up, .int .i64 n] G1 cp1 X1 W1.drew) := HJ1.out.move ((Below.refl _ _).drew)
  have zd : W1.drew.heap.size = W1.heap.size := by simp
  go_upto_region 7 with fail
  refine wp_region_T 7 (fun w' : World => w'.cell? ⟨w.heap.size, 1, none⟩ = some (.string s)) (by kernel_rfl) ?_
  refine anyT_take (i := 0) (v := ?vz40) rfl (by kernel_rfl) (by kernel_rfl) (by kernel_rfl) (by kernel_rfl) (by decide) (fun _ _ _ h => h) (Or.inl ⟨by rfl, ?yz40⟩) hS ?_
  case yz40 => (intro wz hSw; (try dsimp only at hSw); go_simp; (try with_reducible rfl))
  try simp only [Act.put, List.getElem_toArray, List.getElem_cons_zero, List.getElem_cons_succ, List.setIfInBounds_toArray, List.set_cons_zero, List.set_cons_succ]
  refine anyT_take (i := 3) (v := ?vz43) rfl (by kernel_rfl) (by kernel_rfl) (by kernel_rfl) (by kernel_rfl) (by decide) (fun _ _ _ h => h) (Or.inl ⟨by rfl, ?yz43⟩) hS ?_
  case yz43 => (intro wz hSw; (try dsimp only at hSw); go_simp; (try with_reducible rfl))
  try simp only [Act.put, List.getElem_toArray, List.getElem_cons_zero, List.getElem_cons_succ, List.setIfInBounds_toArray, List.set_cons_zero, List.set_cons_succ]
  refine anyT_take (i := 4) (v := ?vz44) rfl (by kernel_rfl) (by kernel_rfl) (by kernel_rfl) (by kernel_rfl) (by decide) (fun _ _ _ h => h) (Or.inl ⟨by rfl, ?yz44⟩) hS ?_
  case yz44 => (intro wz hSw; (try dsimp only at hSw); go_simp; (try with_reducible rfl))
  try simp only [Act.put, List.getElem_toArray, List.getElem_cons_zero, List.getElem_cons_succ, List.setIfInBounds_toArray, List.set_cons_zero, List.set_cons_succ]
  obtain ⟨V1, hV1⟩ : ∃ V1 : World, V1 = (W1.alloc (Obj.cells #[.int .u8 32] 5)).drew := ⟨_, rfl⟩
  have hbV : Below W1.heap.size W1 V1 := by rw [hV1]; exact ((Below.refl _ _).alloc (Nat.le_refl _) _).drew
  have HV1 : Hid (LtJ w [.int .i64 4, .string s, .bool hi, .string t, .int .u64 lo, .int .u64 up, .int .i64 n] G1 cp1 X1 V1 ∧ BysAt V1 W1.heap.size 0 [32] ∧ W1.heap.size < V1.heap.size) := by
    refine ⟨HJ1.out.move hbV, ?_, by rw [hV1]; simp⟩
    rw [hV1]; exact fun i y hy => bys_new W1 _ [32] rfl i y hy
  have zV := HV1.out.1.out.lt
  have yV := HV1.out.1.out.le
  have gV : V1.cell? ⟨w.heap.size, 1, none⟩ = some (.string s) := HV1.out.1.box.cell (j := 1) rfl
  clear hbV
  refine anyT_one (i := 1) (by kernel_rfl) rfl (fun K hK => ?_)
  go_simp
  rw [← hV1]
  clear hV1
  refine hK.out _ _ (.inr gV) ?_
  clear hK
  try simp only [Act.put, List.getElem_toArray, List.getElem_cons_zero, List.getElem_cons_succ, List.setIfInBounds_toArray, List.set_cons_zero, List.set_cons_succ]
  refine anyT_one (i := 2) (by kernel_rfl) rfl (fun K hK => ?_)
  refine step_append_wr _ rfl _ _ rfl (w.heap.size + 1) G1 cp1 3 W1.heap.size 0 1 1 X1 [32] rfl rfl HN1.out rfl HV1.out.1.out HV1.out.2.1 ?hlay ?hbay ?_
  case hlay => first | omega | (show X1.length + 1 ≤ _; omega)
  case hbay => omega
  intro g2a c2a w2a hW2 hgr2 hat2
  have HAa : Hid (LtJ w [.int .i64 4, .string s, .bool hi, .string t, .int .u64 lo, .int .u64 up, .int .i64 n] g2a c2a (X1 ++ [32]) w2a) := HV1.out.1.app hW2 hgr2
  have s2 := hgr2.size
  have ga : w2a.cell? ⟨w.heap.size, 1, none⟩ = some (.string s) := HAa.out.box.cell (j := 1) rfl
  obtain ⟨X2, hX2⟩ : ∃ X2 : List UInt8, X2 = X1 ++ [32] := ⟨_, rfl⟩
  rw [← hX2] at HAa
  have x2 : X2.length = X1.length + 1 := by rw [hX2, List.length_append]; rfl
  have x2b : X2.length ≤ 3 + 1 := by omega
  have HX2 : Hid (X2 = X1 ++ [32]) := hX2
  have HJan : Hid (3 + 1 = X2.length) := by show _ = _; rw [x2, ← HN1.out]
  clear hX2 hW2 hgr2 hat2 x2
  refine hK.out _ _ (.inr ga) ?_
  clear hK
  try simp only [Act.put, List.getElem_toArray, List.getElem_cons_zero, List.getElem_cons_succ, List.setIfInBounds_toArray, List.set_cons_zero, List.set_cons_succ]
  refine anyT_one (i := 5) (by kernel_rfl) rfl (fun K hK => ?_)
  go_simp
  go_at_call 110
  refine (l5Quote_core s w2a (by omega)).mono ?_
  rintro r qwa ⟨qg, qc, rfl, hqW, hqb⟩
  rw [← HQL.out]
  have HJa : Hid (LtJ w [.int .i64 4, .string s, .bool hi, .string t, .int .u64 lo, .int .u64 up, .int .i64 n] g2a c2a X2 qwa ∧ WrB qwa w2a.heap.size qg qc QL ∧ w2a.heap.size ≤ qwa.heap.size) := ⟨HAa.out.move hqb, by first | exact hqW | (rw [HQL.out]; exact hqW), hqb.size⟩
  have HJax : Hid (X2 = X1 ++ [32]) := HX2
  have gq : qwa.cell? ⟨w.heap.size, 1, none⟩ = some (.string s) := HJa.out.1.box.cell (j := 1) rfl
  clear hqb
  refine hK.out _ _ (.inr gq) ?_
  clear hK
  try simp only [Act.put, List.getElem_toArray, List.getElem_cons_zero, List.getElem_cons_succ, List.setIfInBounds_toArray, List.set_cons_zero, List.set_cons_succ]
  refine anyT_one (i := 6) (by kernel_rfl) rfl (fun K hK => ?_)
  refine step_append_wr _ rfl _ _ rfl (w.heap.size + 1) g2a c2a (3 + 1) qg 0 QL.length qc X2 QL rfl rfl HJan.out rfl HJa.out.1.out HJa.out.2.1.at_ ?hlaz ?hbaz ?_
  case hlaz => omega
  case hbaz => have := HJa.out.1.out.lt; have := HJa.out.1.out.le; omega
  intro gza cza wza hWz hgrz hatz
  have HR : Hid (LtP Y w (.returned (.slice (some ⟨gza, 0, none⟩) ((3 + 1) + QL.length) cza)) wza) := (HJa.out.1.app hWz hgrz).done (by rw [List.length_append, ← HJan.out]) (by rw [HY.out, HJax.out])
  have gs : wza.cell? ⟨w.heap.size, 1, none⟩ = some (.string s) := (HJa.out.1.app hWz hgrz).box.cell (j := 1) rfl
  clear hWz hgrz hatz
  refine hK.out _ _ (.inr gs) ?_
  clear hK
  try simp only [Act.put, List.getElem_toArray, List.getElem_cons_zero, List.getElem_cons_succ, List.setIfInBounds_toArray, List.set_cons_zero, List.set_cons_succ]
  refine anyT_one (i := 7) (by kernel_rfl) rfl (fun K hK => ?_)
  go_simp
  refine hK.out _ _ (.inl rfl) ?_
  clear hK gs
  try simp only [Act.put, List.getElem_toArray, List.getElem_cons_zero, List.getElem_cons_succ, List.setIfInBounds_toArray, List.set_cons_zero, List.set_cons_succ]
  refine anyT_done (by kernel_rfl) ?_
  go_wp2_with fail
  go_ret
  exact HR.out
set_option maxHeartbeats 1000000 in
theorem l5Word_5 (w : World) : Calls Tryz.prog 87 #[.int .i64 5] w fun e w' => e = .returned (.string ⟨#[102, 97, 109]⟩) ∧ w' = w := by
  go_enter Tryz.func87, Tryz.ntmps87
  go_wp2_with fail
  go_ret
  exact ⟨rfl, rfl⟩
set_option maxHeartbeats 8000000 in
theorem l5LeafText_5 (s : ByteArray) (hi : Bool) (t : ByteArray) (lo up n : Int) (w : World) (hg : GoodN ⟨5, s, hi, t, lo, up, n⟩) (hn : NumN ⟨5, s, hi, t, lo, up, n⟩) :
    Calls Tryz.prog 83 #[.agg #[.int .i64 5, .string s, .bool hi, .string t, .int .u64 lo, .int .u64 up, .int .i64 n]] w (LtP (leafM ⟨5, s, hi, t, lo, up, n⟩) w) := by
  have HG : Hid (GoodN ⟨5, s, hi, t, lo, up, n⟩ ∧ NumN ⟨5, s, hi, t, lo, up, n⟩) := ⟨hg, hn⟩
  have g0 : s.size ≤ 200 := hg.1
  have g1 : t.size ≤ 200 := hg.2.1
  obtain ⟨Y, hY⟩ : ∃ Y, Y = leafM ⟨5, s, hi, t, lo, up, n⟩ := ⟨_, rfl⟩
  rw [← hY]
  have HY0 : Hid (Y = leafM ⟨5, s, hi, t, lo, up, n⟩) := hY
  clear hY hg hn
  obtain ⟨W0, hW0⟩ : ∃ W0 : World, W0 = w.alloc (Obj.cells #[.int .i64 5, .string s, .bool hi, .string t, .int .u64 lo, .int .u64 up, .int .i64 n] 65) := ⟨_, rfl⟩
  have hb0 : Below w.heap.size w W0 := by rw [hW0]; exact (Below.refl _ _).alloc (Nat.le_refl _) _
  have z0 : W0.heap.size = w.heap.size + 1 := by rw [hW0]; simp
  have HB0 : Hid (BoxAt W0 w.heap.size 65 7 w.heap.size [.int .i64 5, .string s, .bool hi, .string t, .int .u64 lo, .int .u64 up, .int .i64 n]) := by
    rw [hW0]; exact boxAt_new w _ (Nat.le_refl _) rfl
  have c0 := HB0.out.cell (j := 0) rfl
  obtain ⟨W1, hW1⟩ : ∃ W1, W1 = Lib.bytesWorld W0 5 ⟨#[102, 97, 109]⟩ := ⟨_, rfl⟩
  obtain ⟨cp1, hcp1⟩ : ∃ cp1, cp1 = grownCap W0 3 0 5 := ⟨_, rfl⟩
  have hcv : Sem.run Tryz.prog (convert 9 22 (.string ⟨#[102, 97, 109]⟩)) W0 = .ok (.slice (some ⟨W0.heap.size, 0, none⟩) 3 cp1) W1 := by
    rw [hW1, hcp1]
    exact Lib.run_convert_string_bytes (P := Tryz.prog) W0 9 22 5 ⟨#[102, 97, 109]⟩ Tryz.underlying9 Tryz.underlying22 Tryz.underlying5
  have HJ1 : Hid (LtJ w [.int .i64 5, .string s, .bool hi, .string t, .int .u64 lo, .int .u64 up, .int .i64 n] W0.heap.size cp1 [102, 97, 109] W1) := by
    have hbb := below_bytes W0 ⟨#[102, 97, 109]⟩
    rw [← hW1] at hbb
    refine ⟨?_, HB0.out.below hbb, hb0.trans (hbb.mono (by omega))⟩
    have h9 := (wrB_bytes W0 ⟨#[102, 97, 109]⟩ (by decide)).mono (base' := w.heap.size + 1) (by omega)
    rw [← hW1] at h9
    rw [hcp1]
    exact h9
  clear hW1 hcp1 hb0
  obtain ⟨G1, hG1⟩ : ∃ G1, G1 = W0.heap.size := ⟨_, rfl⟩
  rw [← hG1] at hcv HJ1
  obtain ⟨X1, hX1⟩ : ∃ X1 : List UInt8, X1 = [102, 97, 109] := ⟨_, rfl⟩
  have HX1 : Hid (X1 = [102, 97, 109]) := hX1
  have x1 : X1.length = 3 := by rw [hX1]; rfl
  rw [← hX1] at HJ1
  clear hX1
  have HN1 : Hid (3 = X1.length) := x1.symm
  have x1' : X1.length ≤ 3 := by omega
  clear x1
  have q0 := HJ1.out.box.cell (j := 0) rfl
  have zs1 := HJ1.out.below.size
  go_enter Tryz.func83, Tryz.ntmps83
  go_upto_region 1 with fail
  rw [← hW0]
  clear hW0
  go_wp2_with fail
  refine (l5Word_5 W0).mono ?_
  rintro r w9 ⟨rfl, hw9⟩
  rw [hw9]
  clear hw9 c0 hG1 z0
  have HY : Hid (Y = X1 ++ [32] ++ quoM (bl s)) := by show _ = _; rw [HY0.out, HX1.out]; simp [leafM, tailM, wordA, bl]
  have hql := quoM_len (bl s); rw [bl_len] at hql
  obtain ⟨QL, hQL⟩ : ∃ QL : List UInt8, QL = quoM (bl s) := ⟨_, rfl⟩
  rw [← hQL] at HY hql
  have HQL : Hid (QL = quoM (bl s)) := hQL
  clear hQL
  have m1a : W1.cell? ⟨w.heap.size, 1, none⟩ = some (.string s) := HJ1.out.box.cell (j := 1) rfl
  have hS : (fun w' : World => w'.cell? ⟨w.heap.size, 1, none⟩ = some (.string s)) W1.drew := m1a
  have HJd : Hid (LtJ w [.int .i64 5, .string s, .bool hi, .string t, .int .u64 lo, .int .u64 up, .int .i64 n] G1 cp1 X1 W1.drew) := HJ1.out.move ((Below.refl _ _).drew)
  have zd : W1.drew.heap.size = W1.heap.size := by simp
  go_upto_region 7 with fail
  refine wp_region_T 7 (fun w' : World => w'.cell? ⟨w.heap.size, 1, none⟩ = some (.string s)) (by kernel_rfl) ?_
  refine anyT_take (i := 0) (v := ?vz50) rfl (by kernel_rfl) (by kernel_rfl) (by kernel_rfl) (by kernel_rfl) (by decide) (fun _ _ _ h => h) (Or.inl ⟨by rfl, ?yz50⟩) hS ?_
  case yz50 => (intro wz hSw; (try dsimp only at hSw); go_simp; (try with_reducible rfl))
  try simp only [Act.put, List.getElem_toArray, List.getElem_cons_zero, List.getElem_cons_succ, List.setIfInBounds_toArray, List.set_cons_zero, List.set_cons_succ]
  refine anyT_take (i := 3) (v := ?vz53) rfl (by kernel_rfl) (by kernel_rfl) (by kernel_rfl) (by kernel_rfl) (by decide) (fun _ _ _ h => h) (Or.inl ⟨by rfl, ?yz53⟩) hS ?_
  case yz53 => (intro wz hSw; (try dsimp only at hSw); go_simp; (try with_reducible rfl))
  try simp only [Act.put, List.getElem_toArray, List.getElem_cons_zero, List.getElem_cons_succ, List.setIfInBounds_toArray, List.set_cons_zero, List.set_cons_succ]
  refine anyT_take (i := 4) (v := ?vz54) rfl (by kernel_rfl) (by kernel_rfl) (by kernel_rfl) (by kernel_rfl) (by decide) (fun _ _ _ h => h) (Or.inl ⟨by rfl, ?yz54⟩) hS ?_
  case yz54 => (intro wz hSw; (try dsimp only at hSw); go_simp; (try with_reducible rfl))
  try simp only [Act.put, List.getElem_toArray, List.getElem_cons_zero, List.getElem_cons_succ, List.setIfInBounds_toArray, List.set_cons_zero, List.set_cons_succ]
  obtain ⟨V1, hV1⟩ : ∃ V1 : World, V1 = (W1.alloc (Obj.cells #[.int .u8 32] 5)).drew := ⟨_, rfl⟩
  have hbV : Below W1.heap.size W1 V1 := by rw [hV1]; exact ((Below.refl _ _).alloc (Nat.le_refl _) _).drew
  have HV1 : Hid (LtJ w [.int .i64 5, .string s, .bool hi, .string t, .int .u64 lo, .int .u64 up, .int .i64 n] G1 cp1 X1 V1 ∧ BysAt V1 W1.heap.size 0 [32] ∧ W1.heap.size < V1.heap.size) := by
    refine ⟨HJ1.out.move hbV, ?_, by rw [hV1]; simp⟩
    rw [hV1]; exact fun i y hy => bys_new W1 _ [32] rfl i y hy
  have zV := HV1.out.1.out.lt
  have yV := HV1.out.1.out.le
  have gV : V1.cell? ⟨w.heap.size, 1, none⟩ = some (.string s) := HV1.out.1.box.cell (j := 1) rfl
  clear hbV
  refine anyT_one (i := 1) (by kernel_rfl) rfl (fun K hK => ?_)
  go_simp
  rw [← hV1]
  clear hV1
  refine hK.out _ _ (.inr gV) ?_
  clear hK
  try simp only [Act.put, List.getElem_toArray, List.getElem_cons_zero, List.getElem_cons_succ, List.setIfInBounds_toArray, List.set_cons_zero, List.set_cons_succ]
  refine anyT_one (i := 2) (by kernel_rfl) rfl (fun K hK => ?_)
  refine step_append_wr _ rfl _ _ rfl (w.heap.size + 1) G1 cp1 3 W1.heap.size 0 1 1 X1 [32] rfl rfl HN1.out rfl HV1.out.1.out HV1.out.2.1 ?hlay ?hbay ?_
  case hlay => first | omega | (show X1.length + 1 ≤ _; omega)
  case hbay => omega
  intro g2a c2a w2a hW2 hgr2 hat2
  have HAa : Hid (LtJ w [.int .i64 5, .string s, .bool hi, .string t, .int .u64 lo, .int .u64 up, .int .i64 n] g2a c2a (X1 ++ [32]) w2a) := HV1.out.1.app hW2 hgr2
  have s2 := hgr2.size
  have ga : w2a.cell? ⟨w.heap.size, 1, none⟩ = some (.string s) := HAa.out.box.cell (j := 1) rfl
  obtain ⟨X2, hX2⟩ : ∃ X2 : List UInt8, X2 = X1 ++ [32] := ⟨_, rfl⟩
  rw [← hX2] at HAa
  have x2 : X2.length = X1.length + 1 := by rw [hX2, List.length_append]; rfl
  have x2b : X2.length ≤ 3 + 1 := by omega
  have HX2 : Hid (X2 = X1 ++ [32]) := hX2
  have HJan : Hid (3 + 1 = X2.length) := by show _ = _; rw [x2, ← HN1.out]
  clear hX2 hW2 hgr2 hat2 x2
  refine hK.out _ _ (.inr ga) ?_
  clear hK
  try simp only [Act.put, List.getElem_toArray, List.getElem_cons_zero, List.getElem_cons_succ, List.setIfInBounds_toArray, List.set_cons_zero, List.set_cons_succ]
  refine anyT_one (i := 5) (by kernel_rfl) rfl (fun K hK => ?_)
  go_simp
  go_at_call 110
  refine (l5Quote_core s w2a (by omega)).mono ?_
  rintro r qwa ⟨qg, qc, rfl, hqW, hqb⟩
  rw [← HQL.out]
  have HJa : Hid (LtJ w [.int .i64 5, .string s, .bool hi, .string t, .int .u64 lo, .int .u64 up, .int .i64 n] g2a c2a X2 qwa ∧ WrB qwa w2a.heap.size qg qc QL ∧ w2a.heap.size ≤ qwa.heap.size) := ⟨HAa.out.move hqb, by first | exact hqW | (rw [HQL.out]; exact hqW), hqb.size⟩
  have HJax : Hid (X2 = X1 ++ [32]) := HX2
  have gq : qwa.cell? ⟨w.heap.size, 1, none⟩ = some (.string s) := HJa.out.1.box.cell (j := 1) rfl
  clear hqb
  refine hK.out _ _ (.inr gq) ?_
  clear hK
  try simp only [Act.put, List.getElem_toArray, List.getElem_cons_zero, List.getElem_cons_succ, List.setIfInBounds_toArray, List.set_cons_zero, List.set_cons_succ]
  refine anyT_one (i := 6) (by kernel_rfl) rfl (fun K hK => ?_)
  refine step_append_wr _ rfl _ _ rfl (w.heap.size + 1) g2a c2a (3 + 1) qg 0 QL.length qc X2 QL rfl rfl HJan.out rfl HJa.out.1.out HJa.out.2.1.at_ ?hlaz ?hbaz ?_
  case hlaz => omega
  case hbaz => have := HJa.out.1.out.lt; have := HJa.out.1.out.le; omega
  intro gza cza wza hWz hgrz hatz
  have HR : Hid (LtP Y w (.returned (.slice (some ⟨gza, 0, none⟩) ((3 + 1) + QL.length) cza)) wza) := (HJa.out.1.app hWz hgrz).done (by rw [List.length_append, ← HJan.out]) (by rw [HY.out, HJax.out])
  have gs : wza.cell? ⟨w.heap.size, 1, none⟩ = some (.string s) := (HJa.out.1.app hWz hgrz).box.cell (j := 1) rfl
  clear hWz hgrz hatz
  refine hK.out _ _ (.inr gs) ?_
  clear hK
  try simp only [Act.put, List.getElem_toArray, List.getElem_cons_zero, List.getElem_cons_succ, List.setIfInBounds_toArray, List.set_cons_zero, List.set_cons_succ]
  refine anyT_one (i := 7) (by kernel_rfl) rfl (fun K hK => ?_)
  go_simp
  refine hK.out _ _ (.inl rfl) ?_
  clear hK gs
  try simp only [Act.put, List.getElem_toArray, List.getElem_cons_zero, List.getElem_cons_succ, List.setIfInBounds_toArray, List.set_cons_zero, List.set_cons_succ]
  refine anyT_done (by kernel_rfl) ?_
  go_wp2_with fail
  go_ret
  exact HR.out
set_option maxHeartbeats 1000000 in
theorem l5Word_6 (w : World) : Calls Tryz.prog 87 #[.int .i64 6] w fun e w' => e = .returned (.string ⟨#[113, 117, 97, 108]⟩) ∧ w' = w := by
  go_enter Tryz.func87, Tryz.ntmps87
  go_wp2_with fail
  go_ret
  exact ⟨rfl, rfl⟩
set_option maxHeartbeats 8000000 in
theorem l5LeafText_6 (s : ByteArray) (hi : Bool) (t : ByteArray) (lo up n : Int) (w : World) (hg : GoodN ⟨6, s, hi, t, lo, up, n⟩) (hn : NumN ⟨6, s, hi, t, lo, up, n⟩) :
    Calls Tryz.prog 83 #[.agg #[.int .i64 6, .string s, .bool hi, .string t, .int .u64 lo, .int .u64 up, .int .i64 n]] w (LtP (leafM ⟨6, s, hi, t, lo, up, n⟩) w) := by
  have HG : Hid (GoodN ⟨6, s, hi, t, lo, up, n⟩ ∧ NumN ⟨6, s, hi, t, lo, up, n⟩) := ⟨hg, hn⟩
  have g0 : s.size ≤ 200 := hg.1
  have g1 : t.size ≤ 200 := hg.2.1
  obtain ⟨Y, hY⟩ : ∃ Y, Y = leafM ⟨6, s, hi, t, lo, up, n⟩ := ⟨_, rfl⟩
  rw [← hY]
  have HY0 : Hid (Y = leafM ⟨6, s, hi, t, lo, up, n⟩) := hY
  clear hY hg hn
  obtain ⟨W0, hW0⟩ : ∃ W0 : World, W0 = w.alloc (Obj.cells #[.int .i64 6, .string s, .bool hi, .string t, .int .u64 lo, .int .u64 up, .int .i64 n] 65) := ⟨_, rfl⟩
  have hb0 : Below w.heap.size w W0 := by rw [hW0]; exact (Below.refl _ _).alloc (Nat.le_refl _) _
  have z0 : W0.heap.size = w.heap.size + 1 := by rw [hW0]; simp
  have HB0 : Hid (BoxAt W0 w.heap.size 65 7 w.heap.size [.int .i64 6, .string s, .bool hi, .string t, .int .u64 lo, .int .u64 up, .int .i64 n]) := by
    rw [hW0]; exact boxAt_new w _ (Nat.le_refl _) rfl
  have c0 := HB0.out.cell (j := 0) rfl
  obtain ⟨W1, hW1⟩ : ∃ W1, W1 = Lib.bytesWorld W0 5 ⟨#[113, 117, 97, 108]⟩ := ⟨_, rfl⟩
  obtain ⟨cp1, hcp1⟩ : ∃ cp1, cp1 = grownCap W0 4 0 5 := ⟨_, rfl⟩
  have hcv : Sem.run Tryz.prog (convert 9 22 (.string ⟨#[113, 117, 97, 108]⟩)) W0 = .ok (.slice (some ⟨W0.heap.size, 0, none⟩) 4 cp1) W1 := by
    rw [hW1, hcp1]
    exact Lib.run_convert_string_bytes (P := Tryz.prog) W0 9 22 5 ⟨#[113, 117, 97, 108]⟩ Tryz.underlying9 Tryz.underlying22 Tryz.underlying5
  have HJ1 : Hid (LtJ w [.int .i64 6, .string s, .bool hi, .string t, .int .u64 lo, .int .u64 up, .int .i64 n] W0.heap.size cp1 [113, 117, 97, 108] W1) := by
    have hbb := below_bytes W0 ⟨#[113, 117, 97, 108]⟩
    rw [← hW1] at hbb
    refine ⟨?_, HB0.out.below hbb, hb0.trans (hbb.mono (by omega))⟩
    have h9 := (wrB_bytes W0 ⟨#[113, 117, 97, 108]⟩ (by decide)).mono (base' := w.heap.size + 1) (by omega)
    rw [← hW1] at h9
    rw [hcp1]
    exact h9
  clear hW1 hcp1 hb0
  obtain ⟨G1, hG1⟩ : ∃ G1, G1 = W0.heap.size := ⟨_, rfl⟩
  rw [← hG1] at hcv HJ1
  obtain ⟨X1, hX1⟩ : ∃ X1 : List UInt8, X1 = [113, 117, 97, 108] := ⟨_, rfl⟩
  have HX1 : Hid (X1 = [113, 117, 97, 108]) := hX1
  have x1 : X1.length = 4 := by rw [hX1]; rfl
  rw [← hX1] at HJ1
  clear hX1
  have HN1 : Hid (4 = X1.length) := x1.symm
  have x1' : X1.length ≤ 4 := by omega
  clear x1
  have q0 := HJ1.out.box.cell (j := 0) rfl
  have zs1 := HJ1.out.below.size
  go_enter Tryz.func83, Tryz.ntmps83
  go_upto_region 1 with fail
  rw [← hW0]
  clear hW0
  go_wp2_with fail
  refine (l5Word_6 W0).mono ?_
  rintro r w9 ⟨rfl, hw9⟩
  rw [hw9]
  clear hw9 c0 hG1 z0
  have HY : Hid (Y = X1 ++ [32] ++ quoM (bl s)) := by show _ = _; rw [HY0.out, HX1.out]; simp [leafM, tailM, wordA, bl]
  have hql := quoM_len (bl s); rw [bl_len] at hql
  obtain ⟨QL, hQL⟩ : ∃ QL : List UInt8, QL = quoM (bl s) := ⟨_, rfl⟩
  rw [← hQL] at HY hql
  have HQL : Hid (QL = quoM (bl s)) := hQL
  clear hQL
  have m1a : W1.cell? ⟨w.heap.size, 1, none⟩ = some (.string s) := HJ1.out.box.cell (j := 1) rfl
  have hS : (fun w' : World => w'.cell? ⟨w.heap.size, 1, none⟩ = some (.string s)) W1.drew := m1a
  have HJd : Hid (LtJ w [.int .i64 6, .string s, .bool hi, .string t, .int .u64 lo, .int .u64 up, .int .i64 n] G1 cp1 X1 W1.drew) := HJ1.out.move ((Below.refl _ _).drew)
  have zd : W1.drew.heap.size = W1.heap.size := by simp
  go_upto_region 7 with fail
  refine wp_region_T 7 (fun w' : World => w'.cell? ⟨w.heap.size, 1, none⟩ = some (.string s)) (by kernel_rfl) ?_
  refine anyT_take (i := 0) (v := ?vz60) rfl (by kernel_rfl) (by kernel_rfl) (by kernel_rfl) (by kernel_rfl) (by decide) (fun _ _ _ h => h) (Or.inl ⟨by rfl, ?yz60⟩) hS ?_
  case yz60 => (intro wz hSw; (try dsimp only at hSw); go_simp; (try with_reducible rfl))
  try simp only [Act.put, List.getElem_toArray, List.getElem_cons_zero, List.getElem_cons_succ, List.setIfInBounds_toArray, List.set_cons_zero, List.set_cons_succ]
  refine anyT_take (i := 3) (v := ?vz63) rfl (by kernel_rfl) (by kernel_rfl) (by kernel_rfl) (by kernel_rfl) (by decide) (fun _ _ _ h => h) (Or.inl ⟨by rfl, ?yz63⟩) hS ?_
  case yz63 => (intro wz hSw; (try dsimp only at hSw); go_simp; (try with_reducible rfl))
  try simp only [Act.put, List.getElem_toArray, List.getElem_cons_zero, List.getElem_cons_succ, List.setIfInBounds_toArray, List.set_cons_zero, List.set_cons_succ]
  refine anyT_take (i := 4) (v := ?vz64) rfl (by kernel_rfl) (by kernel_rfl) (by kernel_rfl) (by kernel_rfl) (by decide) (fun _ _ _ h => h) (Or.inl ⟨by rfl, ?yz64⟩) hS ?_
  case yz64 => (intro wz hSw; (try dsimp only at hSw); go_simp; (try with_reducible rfl))
  try simp only [Act.put, List.getElem_toArray, List.getElem_cons_zero, List.getElem_cons_succ, List.setIfInBounds_toArray, List.set_cons_zero, List.set_cons_succ]
  obtain ⟨V1, hV1⟩ : ∃ V1 : World, V1 = (W1.alloc (Obj.cells #[.int .u8 32] 5)).drew := ⟨_, rfl⟩
  have hbV : Below W1.heap.size W1 V1 := by rw [hV1]; exact ((Below.refl _ _).alloc (Nat.le_refl _) _).drew
  have HV1 : Hid (LtJ w [.int .i64 6, .string s, .bool hi, .string t, .int .u64 lo, .int .u64 up, .int .i64 n] G1 cp1 X1 V1 ∧ BysAt V1 W1.heap.size 0 [32] ∧ W1.heap.size < V1.heap.size) := by
    refine ⟨HJ1.out.move hbV, ?_, by rw [hV1]; simp⟩
    rw [hV1]; exact fun i y hy => bys_new W1 _ [32] rfl i y hy
  have zV := HV1.out.1.out.lt
  have yV := HV1.out.1.out.le
  have gV : V1.cell? ⟨w.heap.size, 1, none⟩ = some (.string s) := HV1.out.1.box.cell (j := 1) rfl
  clear hbV
  refine anyT_one (i := 1) (by kernel_rfl) rfl (fun K hK => ?_)
  go_simp
  rw [← hV1]
  clear hV1
  refine hK.out _ _ (.inr gV) ?_
  clear hK
  try simp only [Act.put, List.getElem_toArray, List.getElem_cons_zero, List.getElem_cons_succ, List.setIfInBounds_toArray, List.set_cons_zero, List.set_cons_succ]
  refine anyT_one (i := 2) (by kernel_rfl) rfl (fun K hK => ?_)
  refine step_append_wr _ rfl _ _ rfl (w.heap.size + 1) G1 cp1 4 W1.heap.size 0 1 1 X1 [32] rfl rfl HN1.out rfl HV1.out.1.out HV1.out.2.1 ?hlay ?hbay ?_
  case hlay => first | omega | (show X1.length + 1 ≤ _; omega)
  case hbay => omega
  intro g2a c2a w2a hW2 hgr2 hat2
  have HAa : Hid (LtJ w [.int .i64 6, .string s, .bool hi, .string t, .int .u64 lo, .int .u64 up, .int .i64 n] g2a c2a (X1 ++ [32]) w2a) := HV1.out.1.app hW2 hgr2
  have s2 := hgr2.size
  have ga : w2a.cell? ⟨w.heap.size, 1, none⟩ = some (.string s) := HAa.out.box.cell (j := 1) rfl
  obtain ⟨X2, hX2⟩ : ∃ X2 : List UInt8, X2 = X1 ++ [32] := ⟨_, rfl⟩
  rw [← hX2] at HAa
  have x2 : X2.length = X1.length + 1 := by rw [hX2, List.length_append]; rfl
  have x2b : X2.length ≤ 4 + 1 := by omega
  have HX2 : Hid (X2 = X1 ++ [32]) := hX2
  have HJan : Hid (4 + 1 = X2.length) := by show _ = _; rw [x2, ← HN1.out]
  clear hX2 hW2 hgr2 hat2 x2
  refine hK.out _ _ (.inr ga) ?_
  clear hK
  try simp only [Act.put, List.getElem_toArray, List.getElem_cons_zero, List.getElem_cons_succ, List.setIfInBounds_toArray, List.set_cons_zero, List.set_cons_succ]
  refine anyT_one (i := 5) (by kernel_rfl) rfl (fun K hK => ?_)
  go_simp
  go_at_call 110
  refine (l5Quote_core s w2a (by omega)).mono ?_
  rintro r qwa ⟨qg, qc, rfl, hqW, hqb⟩
  rw [← HQL.out]
  have HJa : Hid (LtJ w [.int .i64 6, .string s, .bool hi, .string t, .int .u64 lo, .int .u64 up, .int .i64 n] g2a c2a X2 qwa ∧ WrB qwa w2a.heap.size qg qc QL ∧ w2a.heap.size ≤ qwa.heap.size) := ⟨HAa.out.move hqb, by first | exact hqW | (rw [HQL.out]; exact hqW), hqb.size⟩
  have HJax : Hid (X2 = X1 ++ [32]) := HX2
  have gq : qwa.cell? ⟨w.heap.size, 1, none⟩ = some (.string s) := HJa.out.1.box.cell (j := 1) rfl
  clear hqb
  refine hK.out _ _ (.inr gq) ?_
  clear hK
  try simp only [Act.put, List.getElem_toArray, List.getElem_cons_zero, List.getElem_cons_succ, List.setIfInBounds_toArray, List.set_cons_zero, List.set_cons_succ]
  refine anyT_one (i := 6) (by kernel_rfl) rfl (fun K hK => ?_)
  refine step_append_wr _ rfl _ _ rfl (w.heap.size + 1) g2a c2a (4 + 1) qg 0 QL.length qc X2 QL rfl rfl HJan.out rfl HJa.out.1.out HJa.out.2.1.at_ ?hlaz ?hbaz ?_
  case hlaz => omega
  case hbaz => have := HJa.out.1.out.lt; have := HJa.out.1.out.le; omega
  intro gza cza wza hWz hgrz hatz
  have HR : Hid (LtP Y w (.returned (.slice (some ⟨gza, 0, none⟩) ((4 + 1) + QL.length) cza)) wza) := (HJa.out.1.app hWz hgrz).done (by rw [List.length_append, ← HJan.out]) (by rw [HY.out, HJax.out])
  have gs : wza.cell? ⟨w.heap.size, 1, none⟩ = some (.string s) := (HJa.out.1.app hWz hgrz).box.cell (j := 1) rfl
  clear hWz hgrz hatz
  refine hK.out _ _ (.inr gs) ?_
  clear hK
  try simp only [Act.put, List.getElem_toArray, List.getElem_cons_zero, List.getElem_cons_succ, List.setIfInBounds_toArray, List.set_cons_zero, List.set_cons_succ]
  refine anyT_one (i := 7) (by kernel_rfl) rfl (fun K hK => ?_)
  go_simp
  refine hK.out _ _ (.inl rfl) ?_
  clear hK gs
  try simp only [Act.put, List.getElem_toArray, List.getElem_cons_zero, List.getElem_cons_succ, List.setIfInBounds_toArray, List.set_cons_zero, List.set_cons_succ]
  refine anyT_done (by kernel_rfl) ?_
  go_wp2_with fail
  go_ret
  exact HR.out
set_option maxHeartbeats 1000000 in
theorem l5Word_7 (w : World) : Calls Tryz.prog 87 #[.int .i64 7] w fun e w' => e = .returned (.string ⟨#[118, 97, 108]⟩) ∧ w' = w := by
  go_enter Tryz.func87, Tryz.ntmps87
  go_wp2_with fail
  go_ret
  exact ⟨rfl, rfl⟩
set_option maxHeartbeats 8000000 in
theorem l5LeafText_7 (s : ByteArray) (hi : Bool) (t : ByteArray) (lo up n : Int) (w : World) (hg : GoodN ⟨7, s, hi, t, lo, up, n⟩) (hn : NumN ⟨7, s, hi, t, lo, up, n⟩) :
    Calls Tryz.prog 83 #[.agg #[.int .i64 7, .string s, .bool hi, .string t, .int .u64 lo, .int .u64 up, .int .i64 n]] w (LtP (leafM ⟨7, s, hi, t, lo, up, n⟩) w) := by
  have HG : Hid (GoodN ⟨7, s, hi, t, lo, up, n⟩ ∧ NumN ⟨7, s, hi, t, lo, up, n⟩) := ⟨hg, hn⟩
  have g0 : s.size ≤ 200 := hg.1
  have g1 : t.size ≤ 200 := hg.2.1
  obtain ⟨Y, hY⟩ : ∃ Y, Y = leafM ⟨7, s, hi, t, lo, up, n⟩ := ⟨_, rfl⟩
  rw [← hY]
  have HY0 : Hid (Y = leafM ⟨7, s, hi, t, lo, up, n⟩) := hY
  clear hY hg hn
  obtain ⟨W0, hW0⟩ : ∃ W0 : World, W0 = w.alloc (Obj.cells #[.int .i64 7, .string s, .bool hi, .string t, .int .u64 lo, .int .u64 up, .int .i64 n] 65) := ⟨_, rfl⟩
  have hb0 : Below w.heap.size w W0 := by rw [hW0]; exact (Below.refl _ _).alloc (Nat.le_refl _) _
  have z0 : W0.heap.size = w.heap.size + 1 := by rw [hW0]; simp
  have HB0 : Hid (BoxAt W0 w.heap.size 65 7 w.heap.size [.int .i64 7, .string s, .bool hi, .string t, .int .u64 lo, .int .u64 up, .int .i64 n]) := by
    rw [hW0]; exact boxAt_new w _ (Nat.le_refl _) rfl
  have c0 := HB0.out.cell (j := 0) rfl
  obtain ⟨W1, hW1⟩ : ∃ W1, W1 = Lib.bytesWorld W0 5 ⟨#[118, 97, 108]⟩ := ⟨_, rfl⟩
  obtain ⟨cp1, hcp1⟩ : ∃ cp1, cp1 = grownCap W0 3 0 5 := ⟨_, rfl⟩
  have hcv : Sem.run Tryz.prog (convert 9 22 (.string ⟨#[118, 97, 108]⟩)) W0 = .ok (.slice (some ⟨W0.heap.size, 0, none⟩) 3 cp1) W1 := by
    rw [hW1, hcp1]
    exact Lib.run_convert_string_bytes (P := Tryz.prog) W0 9 22 5 ⟨#[118, 97, 108]⟩ Tryz.underlying9 Tryz.underlying22 Tryz.underlying5
  have HJ1 : Hid (LtJ w [.int .i64 7, .string s, .bool hi, .string t, .int .u64 lo, .int .u64 up, .int .i64 n] W0.heap.size cp1 [118, 97, 108] W1) := by
    have hbb := below_bytes W0 ⟨#[118, 97, 108]⟩
    rw [← hW1] at hbb
    refine ⟨?_, HB0.out.below hbb, hb0.trans (hbb.mono (by omega))⟩
    have h9 := (wrB_bytes W0 ⟨#[118, 97, 108]⟩ (by decide)).mono (base' := w.heap.size + 1) (by omega)
    rw [← hW1] at h9
    rw [hcp1]
    exact h9
  clear hW1 hcp1 hb0
  obtain ⟨G1, hG1⟩ : ∃ G1, G1 = W0.heap.size := ⟨_, rfl⟩
  rw [← hG1] at hcv HJ1
  obtain ⟨X1, hX1⟩ : ∃ X1 : List UInt8, X1 = [118, 97, 108] := ⟨_, rfl⟩
  have HX1 : Hid (X1 = [118, 97, 108]) := hX1
  have x1 : X1.length = 3 := by rw [hX1]; rfl
  rw [← hX1] at HJ1
  clear hX1
  have HN1 : Hid (3 = X1.length) := x1.symm
  have x1' : X1.length ≤ 3 := by omega
  clear x1
  have q0 := HJ1.out.box.cell (j := 0) rfl
  have zs1 := HJ1.out.below.size
  go_enter Tryz.func83, Tryz.ntmps83
  go_upto_region 1 with fail
  rw [← hW0]
  clear hW0
  go_wp2_with fail
  refine (l5Word_7 W0).mono ?_
  rintro r w9 ⟨rfl, hw9⟩
  rw [hw9]
  clear hw9 c0 hG1 z0
  have HY : Hid (Y = X1 ++ [32] ++ quoM (bl s)) := by show _ = _; rw [HY0.out, HX1.out]; simp [leafM, tailM, wordA, bl]
  have hql := quoM_len (bl s); rw [bl_len] at hql
  obtain ⟨QL, hQL⟩ : ∃ QL : List UInt8, QL = quoM (bl s) := ⟨_, rfl⟩
  rw [← hQL] at HY hql
  have HQL : Hid (QL = quoM (bl s)) := hQL
  clear hQL
  have m1a : W1.cell? ⟨w.heap.size, 1, none⟩ = some (.string s) := HJ1.out.box.cell (j := 1) rfl
  have hS : (fun w' : World => w'.cell? ⟨w.heap.size, 1, none⟩ = some (.string s)) W1.drew := m1a
  have HJd : Hid (LtJ w [.int .i64 7, .string s, .bool hi, .string t, .int .u64 lo, .int .u64 up, .int .i64 n] G1 cp1 X1 W1.drew) := HJ1.out.move ((Below.refl _ _).drew)
  have zd : W1.drew.heap.size = W1.heap.size := by simp
  go_upto_region 7 with fail
  refine wp_region_T 7 (fun w' : World => w'.cell? ⟨w.heap.size, 1, none⟩ = some (.string s)) (by kernel_rfl) ?_
  refine anyT_take (i := 0) (v := ?vz70) rfl (by kernel_rfl) (by kernel_rfl) (by kernel_rfl) (by kernel_rfl) (by decide) (fun _ _ _ h => h) (Or.inl ⟨by rfl, ?yz70⟩) hS ?_
  case yz70 => (intro wz hSw; (try dsimp only at hSw); go_simp; (try with_reducible rfl))
  try simp only [Act.put, List.getElem_toArray, List.getElem_cons_zero, List.getElem_cons_succ, List.setIfInBounds_toArray, List.set_cons_zero, List.set_cons_succ]
  refine anyT_take (i := 3) (v := ?vz73) rfl (by kernel_rfl) (by kernel_rfl) (by kernel_rfl) (by kernel_rfl) (by decide) (fun _ _ _ h => h) (Or.inl ⟨by rfl, ?yz73⟩) hS ?_
  case yz73 => (intro wz hSw; (try dsimp only at hSw); go_simp; (try with_reducible rfl))
  try simp only [Act.put, List.getElem_toArray, List.getElem_cons_zero, List.getElem_cons_succ, List.setIfInBounds_toArray, List.set_cons_zero, List.set_cons_succ]
  refine anyT_take (i := 4) (v := ?vz74) rfl (by kernel_rfl) (by kernel_rfl) (by kernel_rfl) (by kernel_rfl) (by decide) (fun _ _ _ h => h) (Or.inl ⟨by rfl, ?yz74⟩) hS ?_
  case yz74 => (intro wz hSw; (try dsimp only at hSw); go_simp; (try with_reducible rfl))
  try simp only [Act.put, List.getElem_toArray, List.getElem_cons_zero, List.getElem_cons_succ, List.setIfInBounds_toArray, List.set_cons_zero, List.set_cons_succ]
  obtain ⟨V1, hV1⟩ : ∃ V1 : World, V1 = (W1.alloc (Obj.cells #[.int .u8 32] 5)).drew := ⟨_, rfl⟩
  have hbV : Below W1.heap.size W1 V1 := by rw [hV1]; exact ((Below.refl _ _).alloc (Nat.le_refl _) _).drew
  have HV1 : Hid (LtJ w [.int .i64 7, .string s, .bool hi, .string t, .int .u64 lo, .int .u64 up, .int .i64 n] G1 cp1 X1 V1 ∧ BysAt V1 W1.heap.size 0 [32] ∧ W1.heap.size < V1.heap.size) := by
    refine ⟨HJ1.out.move hbV, ?_, by rw [hV1]; simp⟩
    rw [hV1]; exact fun i y hy => bys_new W1 _ [32] rfl i y hy
  have zV := HV1.out.1.out.lt
  have yV := HV1.out.1.out.le
  have gV : V1.cell? ⟨w.heap.size, 1, none⟩ = some (.string s) := HV1.out.1.box.cell (j := 1) rfl
  clear hbV
  refine anyT_one (i := 1) (by kernel_rfl) rfl (fun K hK => ?_)
  go_simp
  rw [← hV1]
  clear hV1
  refine hK.out _ _ (.inr gV) ?_
  clear hK
  try simp only [Act.put, List.getElem_toArray, List.getElem_cons_zero, List.getElem_cons_succ, List.setIfInBounds_toArray, List.set_cons_zero, List.set_cons_succ]
  refine anyT_one (i := 2) (by kernel_rfl) rfl (fun K hK => ?_)
  refine step_append_wr _ rfl _ _ rfl (w.heap.size + 1) G1 cp1 3 W1.heap.size 0 1 1 X1 [32] rfl rfl HN1.out rfl HV1.out.1.out HV1.out.2.1 ?hlay ?hbay ?_
  case hlay => first | omega | (show X1.length + 1 ≤ _; omega)
  case hbay => omega
  intro g2a c2a w2a hW2 hgr2 hat2
  have HAa : Hid (LtJ w [.int .i64 7, .string s, .bool hi, .string t, .int .u64 lo, .int .u64 up, .int .i64 n] g2a c2a (X1 ++ [32]) w2a) := HV1.out.1.app hW2 hgr2
  have s2 := hgr2.size
  have ga : w2a.cell? ⟨w.heap.size, 1, none⟩ = some (.string s) := HAa.out.box.cell (j := 1) rfl
  obtain ⟨X2, hX2⟩ : ∃ X2 : List UInt8, X2 = X1 ++ [32] := ⟨_, rfl⟩
  rw [← hX2] at HAa
  have x2 : X2.length = X1.length + 1 := by rw [hX2, List.length_append]; rfl
  have x2b : X2.length ≤ 3 + 1 := by omega
  have HX2 : Hid (X2 = X1 ++ [32]) := hX2
  have HJan : Hid (3 + 1 = X2.length) := by show _ = _; rw [x2, ← HN1.out]
  clear hX2 hW2 hgr2 hat2 x2
  refine hK.out _ _ (.inr ga) ?_
  clear hK
  try simp only [Act.put, List.getElem_toArray, List.getElem_cons_zero, List.getElem_cons_succ, List.setIfInBounds_toArray, List.set_cons_zero, List.set_cons_succ]
  refine anyT_one (i := 5) (by kernel_rfl) rfl (fun K hK => ?_)
  go_simp
  go_at_call 110
  refine (l5Quote_core s w2a (by omega)).mono ?_
  rintro r qwa ⟨qg, qc, rfl, hqW, hqb⟩
  rw [← HQL.out]
  have HJa : Hid (LtJ w [.int .i64 7, .string s, .bool hi, .string t, .int .u64 lo, .int .u64 up, .int .i64 n] g2a c2a X2 qwa ∧ WrB qwa w2a.heap.size qg qc QL ∧ w2a.heap.size ≤ qwa.heap.size) := ⟨HAa.out.move hqb, by first | exact hqW | (rw [HQL.out]; exact hqW), hqb.size⟩
  have HJax : Hid (X2 = X1 ++ [32]) := HX2
  have gq : qwa.cell? ⟨w.heap.size, 1, none⟩ = some (.string s) := HJa.out.1.box.cell (j := 1) rfl
  clear hqb
  refine hK.out _ _ (.inr gq) ?_
  clear hK
  try simp only [Act.put, List.getElem_toArray, List.getElem_cons_zero, List.getElem_cons_succ, List.setIfInBounds_toArray, List.set_cons_zero, List.set_cons_succ]
  refine anyT_one (i := 6) (by kernel_rfl) rfl (fun K hK => ?_)
  refine step_append_wr _ rfl _ _ rfl (w.heap.size + 1) g2a c2a (3 + 1) qg 0 QL.length qc X2 QL rfl rfl HJan.out rfl HJa.out.1.out HJa.out.2.1.at_ ?hlaz ?hbaz ?_
  case hlaz => omega
  case hbaz => have := HJa.out.1.out.lt; have := HJa.out.1.out.le; omega
  intro gza cza wza hWz hgrz hatz
  have HR : Hid (LtP Y w (.returned (.slice (some ⟨gza, 0, none⟩) ((3 + 1) + QL.length) cza)) wza) := (HJa.out.1.app hWz hgrz).done (by rw [List.length_append, ← HJan.out]) (by rw [HY.out, HJax.out])
  have gs : wza.cell? ⟨w.heap.size, 1, none⟩ = some (.string s) := (HJa.out.1.app hWz hgrz).box.cell (j := 1) rfl
  clear hWz hgrz hatz
  refine hK.out _ _ (.inr gs) ?_
  clear hK
  try simp only [Act.put, List.getElem_toArray, List.getElem_cons_zero, List.getElem_cons_succ, List.setIfInBounds_toArray, List.set_cons_zero, List.set_cons_succ]
  refine anyT_one (i := 7) (by kernel_rfl) rfl (fun K hK => ?_)
  go_simp
  refine hK.out _ _ (.inl rfl) ?_
  clear hK gs
  try simp only [Act.put, List.getElem_toArray, List.getElem_cons_zero, List.getElem_cons_succ, List.setIfInBounds_toArray, List.set_cons_zero, List.set_cons_succ]
  refine anyT_done (by kernel_rfl) ?_
  go_wp2_with fail
  go_ret
  exact HR.out
set_option maxHeartbeats 1000000 in
theorem l5Word_8 (w : World) : Calls Tryz.prog 87 #[.int .i64 8] w fun e w' => e = .returned (.string ⟨#[114, 111, 119, 115]⟩) ∧ w' = w := by
  go_enter Tryz.func87, Tryz.ntmps87
  go_wp2_with fail
  go_ret
  exact ⟨rfl, rfl⟩
set_option maxHeartbeats 8000000 in
theorem l5LeafText_8 (s : ByteArray) (hi : Bool) (t : ByteArray) (lo up n : Int) (w : World) (hg : GoodN ⟨8, s, hi, t, lo, up, n⟩) (hn : NumN ⟨8, s, hi, t, lo, up, n⟩) :
    Calls Tryz.prog 83 #[.agg #[.int .i64 8, .string s, .bool hi, .string t, .int .u64 lo, .int .u64 up, .int .i64 n]] w (LtP (leafM ⟨8, s, hi, t, lo, up, n⟩) w) := by
  have HG : Hid (GoodN ⟨8, s, hi, t, lo, up, n⟩ ∧ NumN ⟨8, s, hi, t, lo, up, n⟩) := ⟨hg, hn⟩
  have g0 : s.size ≤ 200 := hg.1
  have g1 : t.size ≤ 200 := hg.2.1
  obtain ⟨Y, hY⟩ : ∃ Y, Y = leafM ⟨8, s, hi, t, lo, up, n⟩ := ⟨_, rfl⟩
  rw [← hY]
  have HY0 : Hid (Y = leafM ⟨8, s, hi, t, lo, up, n⟩) := hY
  clear hY hg hn
  obtain ⟨W0, hW0⟩ : ∃ W0 : World, W0 = w.alloc (Obj.cells #[.int .i64 8, .string s, .bool hi, .string t, .int .u64 lo, .int .u64 up, .int .i64 n] 65) := ⟨_, rfl⟩
  have hb0 : Below w.heap.size w W0 := by rw [hW0]; exact (Below.refl _ _).alloc (Nat.le_refl _) _
  have z0 : W0.heap.size = w.heap.size + 1 := by rw [hW0]; simp
  have HB0 : Hid (BoxAt W0 w.heap.size 65 7 w.heap.size [.int .i64 8, .string s, .bool hi, .string t, .int .u64 lo, .int .u64 up, .int .i64 n]) := by
    rw [hW0]; exact boxAt_new w _ (Nat.le_refl _) rfl
  have c0 := HB0.out.cell (j := 0) rfl
  obtain ⟨W1, hW1⟩ : ∃ W1, W1 = Lib.bytesWorld W0 5 ⟨#[114, 111, 119, 115]⟩ := ⟨_, rfl⟩
  obtain ⟨cp1, hcp1⟩ : ∃ cp1, cp1 = grownCap W0 4 0 5 := ⟨_, rfl⟩
  have hcv : Sem.run Tryz.prog (convert 9 22 (.string ⟨#[114, 111, 119, 115]⟩)) W0 = .ok (.slice (some ⟨W0.heap.size, 0, none⟩) 4 cp1) W1 := by
    rw [hW1, hcp1]
    exact Lib.run_convert_string_bytes (P := Tryz.prog) W0 9 22 5 ⟨#[114, 111, 119, 115]⟩ Tryz.underlying9 Tryz.underlying22 Tryz.underlying5
  have HJ1 : Hid (LtJ w [.int .i64 8, .string s, .bool hi, .string t, .int .u64 lo, .int .u64 up, .int .i64 n] W0.heap.size cp1 [114, 111, 119, 115] W1) := by
    have hbb := below_bytes W0 ⟨#[114, 111, 119, 115]⟩
    rw [← hW1] at hbb
    refine ⟨?_, HB0.out.below hbb, hb0.trans (hbb.mono (by omega))⟩
    have h9 := (wrB_bytes W0 ⟨#[114, 111, 119, 115]⟩ (by decide)).mono (base' := w.heap.size + 1) (by omega)
    rw [← hW1] at h9
    rw [hcp1]
    exact h9
  clear hW1 hcp1 hb0
  obtain ⟨G1, hG1⟩ : ∃ G1, G1 = W0.heap.size := ⟨_, rfl⟩
  rw [← hG1] at hcv HJ1
  obtain ⟨X1, hX1⟩ : ∃ X1 : List UInt8, X1 = [114, 111, 119, 115] := ⟨_, rfl⟩
  have HX1 : Hid (X1 = [114, 111, 119, 115]) := hX1
  have x1 : X1.length = 4 := by rw [hX1]; rfl
  rw [← hX1] at HJ1
  clear hX1
  have HN1 : Hid (4 = X1.length) := x1.symm
  have x1' : X1.length ≤ 4 := by omega
  clear x1
  have q0 := HJ1.out.box.cell (j := 0) rfl
  have zs1 := HJ1.out.below.size
  go_enter Tryz.func83, Tryz.ntmps83
  go_upto_region 1 with fail
  rw [← hW0]
  clear hW0
  go_wp2_with fail
  refine (l5Word_8 W0).mono ?_
  rintro r w9 ⟨rfl, hw9⟩
  rw [hw9]
  clear hw9 c0 hG1 z0
  have hz : lo = 0 ∧ up = 0 ∧ (hi = true → less s t) ∧ (hi = false → t.toList = []) := by
    obtain ⟨⟨_, _, g2, g3⟩, _⟩ := HG.out
    simp only at g2 g3
    refine ⟨by omega, by omega, ?_, fun q => (g2 q).1⟩
    rcases g3 with ⟨q, _⟩ | ⟨_, _, q⟩ | ⟨q, _⟩ | ⟨q, _⟩ | ⟨q, _⟩
    · omega
    · exact q
    · omega
    · omega
    · omega
  obtain ⟨hlo, hup, hls, hlt⟩ := hz
  subst hlo hup
  have HLS : Hid ((hi = true → less s t) ∧ (hi = false → t.toList = [])) := ⟨hls, hlt⟩
  clear hls hlt
  obtain ⟨V1, hV1⟩ : ∃ V1 : World, V1 = W1.alloc (Obj.cells #[.int .u8 32] 5) := ⟨_, rfl⟩
  have hb1 : Below W1.heap.size W1 V1 := by rw [hV1]; exact (Below.refl _ _).alloc (Nat.le_refl _) _
  have HV1 : Hid (LtJ w [.int .i64 8, .string s, .bool hi, .string t, .int .u64 0, .int .u64 0, .int .i64 n] G1 cp1 X1 V1 ∧ BysAt V1 W1.heap.size 0 [32]) := by
    refine ⟨HJ1.out.move hb1, ?_⟩
    rw [hV1]; exact bys_new W1 _ [32] rfl
  have zV1 := HV1.out.1.out.lt
  have yV1 := HV1.out.1.out.le
  clear hb1
  go_wp2_with (at_builtin; (try rw [← hV1]); refine wpList_append_wr _ rfl _ _ rfl (w.heap.size + 1) G1 cp1 4 W1.heap.size 0 1 1 X1 [32] rfl rfl HN1.out rfl HV1.out.1.out HV1.out.2 ?hl ?hb ?_)
  case hl => first | omega | (show X1.length + 1 ≤ _; omega)
  case hb => omega
  intro G2 cp2 W2 hW2 hgr2' hat
  have hgr2 : V1.grownBy W2 (some G1) := by first | exact hgr2' | (rw [hV1]; exact hgr2')
  obtain ⟨X2, hX2⟩ : ∃ X2 : List UInt8, X2 = X1 ++ [32] := ⟨_, rfl⟩
  have HX2 : Hid (X2 = X1 ++ [32]) := hX2
  have x2' : X2.length ≤ 4 + 1 := by rw [hX2, List.length_append]; exact Nat.add_le_add_right x1' _
  have HJ2 : Hid (LtJ w [.int .i64 8, .string s, .bool hi, .string t, .int .u64 0, .int .u64 0, .int .i64 n] G2 cp2 X2 W2) := HV1.out.1.app (by rw [hX2]; exact hW2) hgr2
  have HN2 : Hid (5 = X2.length) := by show _ = _; rw [hX2, List.length_append, ← HN1.out]; rfl
  clear hW2 hgr2 hat hX2
  try clear hgr2'
  try clear hV1
  try clear q0
  have e1 := HJ2.out.box.cell (j := 1) rfl
  by_cases hs : bl s = []
  · have zs : (s.toList == ([] : List UInt8)) = true := by rw [bl_nil.1 hs]; rfl
    have zs2 : s.toList = [] := bl_nil.1 hs
    have HE1 : Hid (endM (bl s) 0 = []) := by show _ = _; unfold endM; rw [if_pos hs, if_pos rfl]
    obtain ⟨V2, hV2⟩ : ∃ V2 : World, V2 = W2.alloc (Obj.cells #[.int .u8 46, .int .u8 46] 5) := ⟨_, rfl⟩
    have hb2 : Below W2.heap.size W2 V2 := by rw [hV2]; exact (Below.refl _ _).alloc (Nat.le_refl _) _
    have HV2 : Hid (LtJ w [.int .i64 8, .string s, .bool hi, .string t, .int .u64 0, .int .u64 0, .int .i64 n] G2 cp2 X2 V2 ∧ BysAt V2 W2.heap.size 0 [46, 46]) := by
      refine ⟨HJ2.out.move hb2, ?_⟩
      rw [hV2]; exact bys_new W2 _ [46, 46] rfl
    have zV2 := HV2.out.1.out.lt
    have yV2 := HV2.out.1.out.le
    clear hb2
    go_wp2_with (at_builtin; (try rw [← hV2]); refine wpList_append_wr _ rfl _ _ rfl (w.heap.size + 1) G2 cp2 5 W2.heap.size 0 2 2 X2 [46, 46] rfl rfl HN2.out rfl HV2.out.1.out HV2.out.2 ?hl ?hb ?_)
    case hl => first | omega | (show X2.length + 2 ≤ _; omega)
    case hb => omega
    intro G3 cp3 W3 hW3 hgr3' hat
    have hgr3 : V2.grownBy W3 (some G2) := by first | exact hgr3' | (rw [hV2]; exact hgr3')
    obtain ⟨X3, hX3⟩ : ∃ X3 : List UInt8, X3 = X2 ++ [46, 46] := ⟨_, rfl⟩
    have HX3 : Hid (X3 = X2 ++ [46, 46]) := hX3
    have x3' : X3.length ≤ X2.length + 2 := by rw [hX3, List.length_append]; exact Nat.le_refl _
    have HJ3 : Hid (LtJ w [.int .i64 8, .string s, .bool hi, .string t, .int .u64 0, .int .u64 0, .int .i64 n] G3 cp3 X3 W3) := HV2.out.1.app (by rw [hX3]; exact hW3) hgr3
    have HN3 : Hid (7 = X3.length) := by show _ = _; rw [hX3, List.length_append, ← HN2.out]; rfl
    clear hW3 hgr3 hat hX3
    try clear hgr3'
    try clear hV2
    try clear q0
    have eh := HJ3.out.box.cell (j := 2) rfl
    cases hi
    case true =>
      have HE2 : Hid (endM (bl t) 0 = quoM (bl t)) := by
        show _ = _
        unfold endM
        rw [if_neg (fun q => ?_)]
        have h9 := HLS.out.1 rfl
        have h8 := bl_nil.1 q
        unfold less at h9
        rw [h8] at h9
        exact absurd h9 (by cases s.toList <;> simp [Op.bytesLess])
      have eu1 := HJ3.out.box.cell (j := 3) rfl
      obtain ⟨QLu1, hQLu1⟩ : ∃ QL : List UInt8, QL = quoM (bl t) := ⟨_, rfl⟩
      have HQLu1 : Hid (QLu1 = quoM (bl t)) := hQLu1
      have hqlu1 : QLu1.length ≤ 900 := by
        rw [hQLu1]
        have := quoM_len (bl t); rw [bl_len] at this; omega
      clear hQLu1
      go_wp2_with fail
      refine (l5Quote_core t W3 (by omega)).mono ?_
      rintro r Qu1 ⟨qgu1, qcu1, rfl, hqW, hqb⟩
      rw [← HQLu1.out]
      obtain ⟨qlu1, hqu1⟩ : ∃ ql, ql = QLu1.length := ⟨_, rfl⟩
      rw [← hqu1]
      have HQu1 : Hid (LtJ w [.int .i64 8, .string s, .bool true, .string t, .int .u64 0, .int .u64 0, .int .i64 n] G3 cp3 X3 Qu1 ∧ WrB Qu1 W3.heap.size qgu1 qcu1 QLu1 ∧ qlu1 = QLu1.length) := ⟨HJ3.out.move hqb, by first | exact hqW | (rw [HQLu1.out]; exact hqW), hqu1⟩
      have zqu1 := HQu1.out.1.out.lt
      have yqu1 := HQu1.out.1.out.le
      clear hqb hqW hqu1 eu1
      go_wp2_with (at_builtin; refine wpList_append_wr _ rfl _ _ rfl (w.heap.size + 1) G3 cp3 7 qgu1 0 qlu1 qcu1 X3 QLu1 rfl rfl HN3.out HQu1.out.2.2 HQu1.out.1.out HQu1.out.2.1.at_ ?hlu1 ?hbu1 ?_)
      case hlu1 => omega
      case hbu1 => omega
      intro G4 cp4 W4 hW4 hgr4 hat
      obtain ⟨X4, hX4⟩ : ∃ X4 : List UInt8, X4 = X3 ++ QLu1 := ⟨_, rfl⟩
      have HX4 : Hid (X4 = X3 ++ QLu1) := hX4
      have x4' : X4.length ≤ X3.length + 900 := by rw [hX4, List.length_append]; omega
      have HJ4 : Hid (LtJ w [.int .i64 8, .string s, .bool true, .string t, .int .u64 0, .int .u64 0, .int .i64 n] G4 cp4 X4 W4) := HQu1.out.1.app (by rw [hX4]; exact hW4) hgr4
      obtain ⟨n4, hn4⟩ : ∃ n4, n4 = X4.length := ⟨_, rfl⟩
      have HN4 : Hid (n4 = X4.length) := hn4
      have he4 : 7 + qlu1 = n4 := by rw [hn4, hX4, List.length_append, ← HN3.out, ← HQu1.out.2.2]
      try rw [he4]
      clear hW4 hgr4 hat hX4 hn4 he4
      have HY : Hid (Y = X4) := by
        show _ = _
        have h1 := HE1.out
        have h2 := HE2.out
        rw [HY0.out, HX4.out, HQLu1.out, HX3.out, HX2.out, HX1.out]
        simp only [leafM, tailM]
        rw [h1, h2]
        simp [wordA, bl]
      go_wp2_with fail
      go_ret
      exact HJ4.out.done HN4.out HY.out
    case false =>
      have HE2 : Hid (endM (bl t) 0 = []) := by show _ = _; unfold endM; rw [if_pos (bl_nil.2 (HLS.out.2 rfl)), if_pos rfl]
      have HY : Hid (Y = X3) := by
        show _ = _
        have h1 := HE1.out
        have h2 := HE2.out
        rw [HY0.out, HX3.out, HX2.out, HX1.out]
        simp only [leafM, tailM]
        rw [h1, h2]
        simp [wordA, bl]
      go_wp2_with fail
      go_ret
      exact HJ3.out.done HN3.out HY.out
  · have zs : (s.toList == ([] : List UInt8)) = false := by rw [beq_eq_false_iff_ne]; exact fun q => hs (bl_nil.2 q)
    have zs2 : ¬ s.toList = [] := fun q => hs (bl_nil.2 q)
    have HE1 : Hid (endM (bl s) 0 = quoM (bl s)) := by show _ = _; unfold endM; rw [if_neg hs]
    have es1 := HJ2.out.box.cell (j := 1) rfl
    obtain ⟨QLs1, hQLs1⟩ : ∃ QL : List UInt8, QL = quoM (bl s) := ⟨_, rfl⟩
    have HQLs1 : Hid (QLs1 = quoM (bl s)) := hQLs1
    have hqls1 : QLs1.length ≤ 900 := by
      rw [hQLs1]
      have := quoM_len (bl s); rw [bl_len] at this; omega
    clear hQLs1
    go_wp2_with fail
    refine (l5Quote_core s W2 (by omega)).mono ?_
    rintro r Qs1 ⟨qgs1, qcs1, rfl, hqW, hqb⟩
    rw [← HQLs1.out]
    obtain ⟨qls1, hqs1⟩ : ∃ ql, ql = QLs1.length := ⟨_, rfl⟩
    rw [← hqs1]
    have HQs1 : Hid (LtJ w [.int .i64 8, .string s, .bool hi, .string t, .int .u64 0, .int .u64 0, .int .i64 n] G2 cp2 X2 Qs1 ∧ WrB Qs1 W2.heap.size qgs1 qcs1 QLs1 ∧ qls1 = QLs1.length) := ⟨HJ2.out.move hqb, by first | exact hqW | (rw [HQLs1.out]; exact hqW), hqs1⟩
    have zqs1 := HQs1.out.1.out.lt
    have yqs1 := HQs1.out.1.out.le
    clear hqb hqW hqs1 es1
    go_wp2_with (at_builtin; refine wpList_append_wr _ rfl _ _ rfl (w.heap.size + 1) G2 cp2 5 qgs1 0 qls1 qcs1 X2 QLs1 rfl rfl HN2.out HQs1.out.2.2 HQs1.out.1.out HQs1.out.2.1.at_ ?hls1 ?hbs1 ?_)
    case hls1 => omega
    case hbs1 => omega
    intro G3 cp3 W3 hW3 hgr3 hat
    obtain ⟨X3, hX3⟩ : ∃ X3 : List UInt8, X3 = X2 ++ QLs1 := ⟨_, rfl⟩
    have HX3 : Hid (X3 = X2 ++ QLs1) := hX3
    have x3' : X3.length ≤ X2.length + 900 := by rw [hX3, List.length_append]; omega
    have HJ3 : Hid (LtJ w [.int .i64 8, .string s, .bool hi, .string t, .int .u64 0, .int .u64 0, .int .i64 n] G3 cp3 X3 W3) := HQs1.out.1.app (by rw [hX3]; exact hW3) hgr3
    obtain ⟨n3, hn3⟩ : ∃ n3, n3 = X3.length := ⟨_, rfl⟩
    have HN3 : Hid (n3 = X3.length) := hn3
    have he3 : 5 + qls1 = n3 := by rw [hn3, hX3, List.length_append, ← HN2.out, ← HQs1.out.2.2]
    try rw [he3]
    clear hW3 hgr3 hat hX3 hn3 he3
    obtain ⟨V3, hV3⟩ : ∃ V3 : World, V3 = W3.alloc (Obj.cells #[.int .u8 46, .int .u8 46] 5) := ⟨_, rfl⟩
    have hb3 : Below W3.heap.size W3 V3 := by rw [hV3]; exact (Below.refl _ _).alloc (Nat.le_refl _) _
    have HV3 : Hid (LtJ w [.int .i64 8, .string s, .bool hi, .string t, .int .u64 0, .int .u64 0, .int .i64 n] G3 cp3 X3 V3 ∧ BysAt V3 W3.heap.size 0 [46, 46]) := by
      refine ⟨HJ3.out.move hb3, ?_⟩
      rw [hV3]; exact bys_new W3 _ [46, 46] rfl
    have zV3 := HV3.out.1.out.lt
    have yV3 := HV3.out.1.out.le
    clear hb3
    go_wp2_with (at_builtin; (try rw [← hV3]); refine wpList_append_wr _ rfl _ _ rfl (w.heap.size + 1) G3 cp3 n3 W3.heap.size 0 2 2 X3 [46, 46] rfl rfl HN3.out rfl HV3.out.1.out HV3.out.2 ?hl ?hb ?_)
    case hl => first | omega | (show X3.length + 2 ≤ _; omega)
    case hb => omega
    intro G4 cp4 W4 hW4 hgr4' hat
    have hgr4 : V3.grownBy W4 (some G3) := by first | exact hgr4' | (rw [hV3]; exact hgr4')
    obtain ⟨X4, hX4⟩ : ∃ X4 : List UInt8, X4 = X3 ++ [46, 46] := ⟨_, rfl⟩
    have HX4 : Hid (X4 = X3 ++ [46, 46]) := hX4
    have x4' : X4.length ≤ X3.length + 2 := by rw [hX4, List.length_append]; exact Nat.le_refl _
    have HJ4 : Hid (LtJ w [.int .i64 8, .string s, .bool hi, .string t, .int .u64 0, .int .u64 0, .int .i64 n] G4 cp4 X4 W4) := HV3.out.1.app (by rw [hX4]; exact hW4) hgr4
    obtain ⟨n4, hn4⟩ : ∃ n4, n4 = X4.length := ⟨_, rfl⟩
    have HN4 : Hid (n4 = X4.length) := hn4
    have he4 : n3 + 2 = n4 := by rw [hn4, hX4, List.length_append, ← HN3.out]; rfl
    try rw [he4]
    clear hn4 he4
    clear hW4 hgr4 hat hX4
    try clear hgr4'
    try clear hV3
    try clear q0
    have eh := HJ4.out.box.cell (j := 2) rfl
    cases hi
    case true =>
      have HE2 : Hid (endM (bl t) 0 = quoM (bl t)) := by
        show _ = _
        unfold endM
        rw [if_neg (fun q => ?_)]
        have h9 := HLS.out.1 rfl
        have h8 := bl_nil.1 q
        unfold less at h9
        rw [h8] at h9
        exact absurd h9 (by cases s.toList <;> simp [Op.bytesLess])
      have eu2 := HJ4.out.box.cell (j := 3) rfl
      obtain ⟨QLu2, hQLu2⟩ : ∃ QL : List UInt8, QL = quoM (bl t) := ⟨_, rfl⟩
      have HQLu2 : Hid (QLu2 = quoM (bl t)) := hQLu2
      have hqlu2 : QLu2.length ≤ 900 := by
        rw [hQLu2]
        have := quoM_len (bl t); rw [bl_len] at this; omega
      clear hQLu2
      go_wp2_with fail
      refine (l5Quote_core t W4 (by omega)).mono ?_
      rintro r Qu2 ⟨qgu2, qcu2, rfl, hqW, hqb⟩
      rw [← HQLu2.out]
      obtain ⟨qlu2, hqu2⟩ : ∃ ql, ql = QLu2.length := ⟨_, rfl⟩
      rw [← hqu2]
      have HQu2 : Hid (LtJ w [.int .i64 8, .string s, .bool true, .string t, .int .u64 0, .int .u64 0, .int .i64 n] G4 cp4 X4 Qu2 ∧ WrB Qu2 W4.heap.size qgu2 qcu2 QLu2 ∧ qlu2 = QLu2.length) := ⟨HJ4.out.move hqb, by first | exact hqW | (rw [HQLu2.out]; exact hqW), hqu2⟩
      have zqu2 := HQu2.out.1.out.lt
      have yqu2 := HQu2.out.1.out.le
      clear hqb hqW hqu2 eu2
      go_wp2_with (at_builtin; refine wpList_append_wr _ rfl _ _ rfl (w.heap.size + 1) G4 cp4 n4 qgu2 0 qlu2 qcu2 X4 QLu2 rfl rfl HN4.out HQu2.out.2.2 HQu2.out.1.out HQu2.out.2.1.at_ ?hlu2 ?hbu2 ?_)
      case hlu2 => omega
      case hbu2 => omega
      intro G5 cp5 W5 hW5 hgr5 hat
      obtain ⟨X5, hX5⟩ : ∃ X5 : List UInt8, X5 = X4 ++ QLu2 := ⟨_, rfl⟩
      have HX5 : Hid (X5 = X4 ++ QLu2) := hX5
      have x5' : X5.length ≤ X4.length + 900 := by rw [hX5, List.length_append]; omega
      have HJ5 : Hid (LtJ w [.int .i64 8, .string s, .bool true, .string t, .int .u64 0, .int .u64 0, .int .i64 n] G5 cp5 X5 W5) := HQu2.out.1.app (by rw [hX5]; exact hW5) hgr5
      obtain ⟨n5, hn5⟩ : ∃ n5, n5 = X5.length := ⟨_, rfl⟩
      have HN5 : Hid (n5 = X5.length) := hn5
      have he5 : n4 + qlu2 = n5 := by rw [hn5, hX5, List.length_append, ← HN4.out, ← HQu2.out.2.2]
      try rw [he5]
      clear hW5 hgr5 hat hX5 hn5 he5
      have HY : Hid (Y = X5) := by
        show _ = _
        have h1 := HE1.out
        have h2 := HE2.out
        rw [HY0.out, HX5.out, HQLu2.out, HX4.out, HX3.out, HQLs1.out, HX2.out, HX1.out]
        simp only [leafM, tailM]
        rw [h1, h2]
        simp [wordA, bl]
      go_wp2_with fail
      go_ret
      exact HJ5.out.done HN5.out HY.out
    case false =>
      have HE2 : Hid (endM (bl t) 0 = []) := by show _ = _; unfold endM; rw [if_pos (bl_nil.2 (HLS.out.2 rfl)), if_pos rfl]
      have HY : Hid (Y = X4) := by
        show _ = _
        have h1 := HE1.out
        have h2 := HE2.out
        rw [HY0.out, HX4.out, HX3.out, HQLs1.out, HX2.out, HX1.out]
        simp only [leafM, tailM]
        rw [h1, h2]
        simp [wordA, bl]
      go_wp2_with fail
      go_ret
      exact HJ4.out.done HN4.out HY.out
set_option maxHeartbeats 1000000 in
theorem l5Word_9 (w : World) : Calls Tryz.prog 87 #[.int .i64 9] w fun e w' => e = .returned (.string ⟨#[113, 117, 97, 108, 115]⟩) ∧ w' = w := by
  go_enter Tryz.func87, Tryz.ntmps87
  go_wp2_with fail
  go_ret
  exact ⟨rfl, rfl⟩
set_option maxHeartbeats 8000000 in
theorem l5LeafText_9 (s : ByteArray) (hi : Bool) (t : ByteArray) (lo up n : Int) (w : World) (hg : GoodN ⟨9, s, hi, t, lo, up, n⟩) (hn : NumN ⟨9, s, hi, t, lo, up, n⟩) :
    Calls Tryz.prog 83 #[.agg #[.int .i64 9, .string s, .bool hi, .string t, .int .u64 lo, .int .u64 up, .int .i64 n]] w (LtP (leafM ⟨9, s, hi, t, lo, up, n⟩) w) := by
  have HG : Hid (GoodN ⟨9, s, hi, t, lo, up, n⟩ ∧ NumN ⟨9, s, hi, t, lo, up, n⟩) := ⟨hg, hn⟩
  have g0 : s.size ≤ 200 := hg.1
  have g1 : t.size ≤ 200 := hg.2.1
  obtain ⟨Y, hY⟩ : ∃ Y, Y = leafM ⟨9, s, hi, t, lo, up, n⟩ := ⟨_, rfl⟩
  rw [← hY]
  have HY0 : Hid (Y = leafM ⟨9, s, hi, t, lo, up, n⟩) := hY
  clear hY hg hn
  obtain ⟨W0, hW0⟩ : ∃ W0 : World, W0 = w.alloc (Obj.cells #[.int .i64 9, .string s, .bool hi, .string t, .int .u64 lo, .int .u64 up, .int .i64 n] 65) := ⟨_, rfl⟩
  have hb0 : Below w.heap.size w W0 := by rw [hW0]; exact (Below.refl _ _).alloc (Nat.le_refl _) _
  have z0 : W0.heap.size = w.heap.size + 1 := by rw [hW0]; simp
  have HB0 : Hid (BoxAt W0 w.heap.size 65 7 w.heap.size [.int .i64 9, .string s, .bool hi, .string t, .int .u64 lo, .int .u64 up, .int .i64 n]) := by
    rw [hW0]; exact boxAt_new w _ (Nat.le_refl _) rfl
  have c0 := HB0.out.cell (j := 0) rfl
  obtain ⟨W1, hW1⟩ : ∃ W1, W1 = Lib.bytesWorld W0 5 ⟨#[113, 117, 97, 108, 115]⟩ := ⟨_, rfl⟩
  obtain ⟨cp1, hcp1⟩ : ∃ cp1, cp1 = grownCap W0 5 0 5 := ⟨_, rfl⟩
  have hcv : Sem.run Tryz.prog (convert 9 22 (.string ⟨#[113, 117, 97, 108, 115]⟩)) W0 = .ok (.slice (some ⟨W0.heap.size, 0, none⟩) 5 cp1) W1 := by
    rw [hW1, hcp1]
    exact Lib.run_convert_string_bytes (P := Tryz.prog) W0 9 22 5 ⟨#[113, 117, 97, 108, 115]⟩ Tryz.underlying9 Tryz.underlying22 Tryz.underlying5
  have HJ1 : Hid (LtJ w [.int .i64 9, .string s, .bool hi, .string t, .int .u64 lo, .int .u64 up, .int .i64 n] W0.heap.size cp1 [113, 117, 97, 108, 115] W1) := by
    have hbb := below_bytes W0 ⟨#[113, 117, 97, 108, 115]⟩
    rw [← hW1] at hbb
    refine ⟨?_, HB0.out.below hbb, hb0.trans (hbb.mono (by omega))⟩
    have h9 := (wrB_bytes W0 ⟨#[113, 117, 97, 108, 115]⟩ (by decide)).mono (base' := w.heap.size + 1) (by omega)
    rw [← hW1] at h9
    rw [hcp1]
    exact h9
  clear hW1 hcp1 hb0
  obtain ⟨G1, hG1⟩ : ∃ G1, G1 = W0.heap.size := ⟨_, rfl⟩
  rw [← hG1] at hcv HJ1
  obtain ⟨X1, hX1⟩ : ∃ X1 : List UInt8, X1 = [113, 117, 97, 108, 115] := ⟨_, rfl⟩
  have HX1 : Hid (X1 = [113, 117, 97, 108, 115]) := hX1
  have x1 : X1.length = 5 := by rw [hX1]; rfl
  rw [← hX1] at HJ1
  clear hX1
  have HN1 : Hid (5 = X1.length) := x1.symm
  have x1' : X1.length ≤ 5 := by omega
  clear x1
  have q0 := HJ1.out.box.cell (j := 0) rfl
  have zs1 := HJ1.out.below.size
  go_enter Tryz.func83, Tryz.ntmps83
  go_upto_region 1 with fail
  rw [← hW0]
  clear hW0
  go_wp2_with fail
  refine (l5Word_9 W0).mono ?_
  rintro r w9 ⟨rfl, hw9⟩
  rw [hw9]
  clear hw9 c0 hG1 z0
  have hz : lo = 0 ∧ up = 0 ∧ (hi = true → less s t) ∧ (hi = false → t.toList = []) := by
    obtain ⟨⟨_, _, g2, g3⟩, _⟩ := HG.out
    simp only at g2 g3
    refine ⟨by omega, by omega, ?_, fun q => (g2 q).1⟩
    rcases g3 with ⟨q, _⟩ | ⟨_, _, q⟩ | ⟨q, _⟩ | ⟨q, _⟩ | ⟨q, _⟩
    · omega
    · exact q
    · omega
    · omega
    · omega
  obtain ⟨hlo, hup, hls, hlt⟩ := hz
  subst hlo hup
  have HLS : Hid ((hi = true → less s t) ∧ (hi = false → t.toList = [])) := ⟨hls, hlt⟩
  clear hls hlt
  obtain ⟨V1, hV1⟩ : ∃ V1 : World, V1 = W1.alloc (Obj.cells #[.int .u8 32] 5) := ⟨_, rfl⟩
  have hb1 : Below W1.heap.size W1 V1 := by rw [hV1]; exact (Below.refl _ _).alloc (Nat.le_refl _) _
  have HV1 : Hid (LtJ w [.int .i64 9, .string s, .bool hi, .string t, .int .u64 0, .int .u64 0, .int .i64 n] G1 cp1 X1 V1 ∧ BysAt V1 W1.heap.size 0 [32]) := by
    refine ⟨HJ1.out.move hb1, ?_⟩
    rw [hV1]; exact bys_new W1 _ [32] rfl
  have zV1 := HV1.out.1.out.lt
  have yV1 := HV1.out.1.out.le
  clear hb1
  go_wp2_with (at_builtin; (try rw [← hV1]); refine wpList_append_wr _ rfl _ _ rfl (w.heap.size + 1) G1 cp1 5 W1.heap.size 0 1 1 X1 [32] rfl rfl HN1.out rfl HV1.out.1.out HV1.out.2 ?hl ?hb ?_)
  case hl => first | omega | (show X1.length + 1 ≤ _; omega)
  case hb => omega
  intro G2 cp2 W2 hW2 hgr2' hat
  have hgr2 : V1.grownBy W2 (some G1) := by first | exact hgr2' | (rw [hV1]; exact hgr2')
  obtain ⟨X2, hX2⟩ : ∃ X2 : List UInt8, X2 = X1 ++ [32] := ⟨_, rfl⟩
  have HX2 : Hid (X2 = X1 ++ [32]) := hX2
  have x2' : X2.length ≤ 5 + 1 := by rw [hX2, List.length_append]; exact Nat.add_le_add_right x1' _
  have HJ2 : Hid (LtJ w [.int .i64 9, .string s, .bool hi, .string t, .int .u64 0, .int .u64 0, .int .i64 n] G2 cp2 X2 W2) := HV1.out.1.app (by rw [hX2]; exact hW2) hgr2
  have HN2 : Hid (6 = X2.length) := by show _ = _; rw [hX2, List.length_append, ← HN1.out]; rfl
  clear hW2 hgr2 hat hX2
  try clear hgr2'
  try clear hV1
  try clear q0
  have e1 := HJ2.out.box.cell (j := 1) rfl
  by_cases hs : bl s = []
  · have zs : (s.toList == ([] : List UInt8)) = true := by rw [bl_nil.1 hs]; rfl
    have zs2 : s.toList = [] := bl_nil.1 hs
    have HE1 : Hid (endM (bl s) 0 = []) := by show _ = _; unfold endM; rw [if_pos hs, if_pos rfl]
    obtain ⟨V2, hV2⟩ : ∃ V2 : World, V2 = W2.alloc (Obj.cells #[.int .u8 46, .int .u8 46] 5) := ⟨_, rfl⟩
    have hb2 : Below W2.heap.size W2 V2 := by rw [hV2]; exact (Below.refl _ _).alloc (Nat.le_refl _) _
    have HV2 : Hid (LtJ w [.int .i64 9, .string s, .bool hi, .string t, .int .u64 0, .int .u64 0, .int .i64 n] G2 cp2 X2 V2 ∧ BysAt V2 W2.heap.size 0 [46, 46]) := by
      refine ⟨HJ2.out.move hb2, ?_⟩
      rw [hV2]; exact bys_new W2 _ [46, 46] rfl
    have zV2 := HV2.out.1.out.lt
    have yV2 := HV2.out.1.out.le
    clear hb2
    go_wp2_with (at_builtin; (try rw [← hV2]); refine wpList_append_wr _ rfl _ _ rfl (w.heap.size + 1) G2 cp2 6 W2.heap.size 0 2 2 X2 [46, 46] rfl rfl HN2.out rfl HV2.out.1.out HV2.out.2 ?hl ?hb ?_)
    case hl => first | omega | (show X2.length + 2 ≤ _; omega)
    case hb => omega
    intro G3 cp3 W3 hW3 hgr3' hat
    have hgr3 : V2.grownBy W3 (some G2) := by first | exact hgr3' | (rw [hV2]; exact hgr3')
    obtain ⟨X3, hX3⟩ : ∃ X3 : List UInt8, X3 = X2 ++ [46, 46] := ⟨_, rfl⟩
    have HX3 : Hid (X3 = X2 ++ [46, 46]) := hX3
    have x3' : X3.length ≤ X2.length + 2 := by rw [hX3, List.length_append]; exact Nat.le_refl _
    have HJ3 : Hid (LtJ w [.int .i64 9, .string s, .bool hi, .string t, .int .u64 0, .int .u64 0, .int .i64 n] G3 cp3 X3 W3) := HV2.out.1.app (by rw [hX3]; exact hW3) hgr3
    have HN3 : Hid (8 = X3.length) := by show _ = _; rw [hX3, List.length_append, ← HN2.out]; rfl
    clear hW3 hgr3 hat hX3
    try clear hgr3'
    try clear hV2
    try clear q0
    have eh := HJ3.out.box.cell (j := 2) rfl
    cases hi
    case true =>
      have HE2 : Hid (endM (bl t) 0 = quoM (bl t)) := by
        show _ = _
        unfold endM
        rw [if_neg (fun q => ?_)]
        have h9 := HLS.out.1 rfl
        have h8 := bl_nil.1 q
        unfold less at h9
        rw [h8] at h9
        exact absurd h9 (by cases s.toList <;> simp [Op.bytesLess])
      have eu1 := HJ3.out.box.cell (j := 3) rfl
      obtain ⟨QLu1, hQLu1⟩ : ∃ QL : List UInt8, QL = quoM (bl t) := ⟨_, rfl⟩
      have HQLu1 : Hid (QLu1 = quoM (bl t)) := hQLu1
      have hqlu1 : QLu1.length ≤ 900 := by
        rw [hQLu1]
        have := quoM_len (bl t); rw [bl_len] at this; omega
      clear hQLu1
      go_wp2_with fail
      refine (l5Quote_core t W3 (by omega)).mono ?_
      rintro r Qu1 ⟨qgu1, qcu1, rfl, hqW, hqb⟩
      rw [← HQLu1.out]
      obtain ⟨qlu1, hqu1⟩ : ∃ ql, ql = QLu1.length := ⟨_, rfl⟩
      rw [← hqu1]
      have HQu1 : Hid (LtJ w [.int .i64 9, .string s, .bool true, .string t, .int .u64 0, .int .u64 0, .int .i64 n] G3 cp3 X3 Qu1 ∧ WrB Qu1 W3.heap.size qgu1 qcu1 QLu1 ∧ qlu1 = QLu1.length) := ⟨HJ3.out.move hqb, by first | exact hqW | (rw [HQLu1.out]; exact hqW), hqu1⟩
      have zqu1 := HQu1.out.1.out.lt
      have yqu1 := HQu1.out.1.out.le
      clear hqb hqW hqu1 eu1
      go_wp2_with (at_builtin; refine wpList_append_wr _ rfl _ _ rfl (w.heap.size + 1) G3 cp3 8 qgu1 0 qlu1 qcu1 X3 QLu1 rfl rfl HN3.out HQu1.out.2.2 HQu1.out.1.out HQu1.out.2.1.at_ ?hlu1 ?hbu1 ?_)
      case hlu1 => omega
      case hbu1 => omega
      intro G4 cp4 W4 hW4 hgr4 hat
      obtain ⟨X4, hX4⟩ : ∃ X4 : List UInt8, X4 = X3 ++ QLu1 := ⟨_, rfl⟩
      have HX4 : Hid (X4 = X3 ++ QLu1) := hX4
      have x4' : X4.length ≤ X3.length + 900 := by rw [hX4, List.length_append]; omega
      have HJ4 : Hid (LtJ w [.int .i64 9, .string s, .bool true, .string t, .int .u64 0, .int .u64 0, .int .i64 n] G4 cp4 X4 W4) := HQu1.out.1.app (by rw [hX4]; exact hW4) hgr4
      obtain ⟨n4, hn4⟩ : ∃ n4, n4 = X4.length := ⟨_, rfl⟩
      have HN4 : Hid (n4 = X4.length) := hn4
      have he4 : 8 + qlu1 = n4 := by rw [hn4, hX4, List.length_append, ← HN3.out, ← HQu1.out.2.2]
      try rw [he4]
      clear hW4 hgr4 hat hX4 hn4 he4
      have HY : Hid (Y = X4) := by
        show _ = _
        have h1 := HE1.out
        have h2 := HE2.out
        rw [HY0.out, HX4.out, HQLu1.out, HX3.out, HX2.out, HX1.out]
        simp only [leafM, tailM]
        rw [h1, h2]
        simp [wordA, bl]
      go_wp2_with fail
      go_ret
      exact HJ4.out.done HN4.out HY.out
    case false =>
      have HE2 : Hid (endM (bl t) 0 = []) := by show _ = _; unfold endM; rw [if_pos (bl_nil.2 (HLS.out.2 rfl)), if_pos rfl]
      have HY : Hid (Y = X3) := by
        show _ = _
        have h1 := HE1.out
        have h2 := HE2.out
        rw [HY0.out, HX3.out, HX2.out, HX1.out]
        simp only [leafM, tailM]
        rw [h1, h2]
        simp [wordA, bl]
      go_wp2_with fail
      go_ret
      exact HJ3.out.done HN3.out HY.out
  · have zs : (s.toList == ([] : List UInt8)) = false := by rw [beq_eq_false_iff_ne]; exact fun q => hs (bl_nil.2 q)
    have zs2 : ¬ s.toList = [] := fun q => hs (bl_nil.2 q)
    have HE1 : Hid (endM (bl s) 0 = quoM (bl s)) := by show _ = _; unfold endM; rw [if_neg hs]
    have es1 := HJ2.out.box.cell (j := 1) rfl
    obtain ⟨QLs1, hQLs1⟩ : ∃ QL : List UInt8, QL = quoM (bl s) := ⟨_, rfl⟩
    have HQLs1 : Hid (QLs1 = quoM (bl s)) := hQLs1
    have hqls1 : QLs1.length ≤ 900 := by
      rw [hQLs1]
      have := quoM_len (bl s); rw [bl_len] at this; omega
    clear hQLs1
    go_wp2_with fail
    refine (l5Quote_core s W2 (by omega)).mono ?_
    rintro r Qs1 ⟨qgs1, qcs1, rfl, hqW, hqb⟩
    rw [← HQLs1.out]
    obtain ⟨qls1, hqs1⟩ : ∃ ql, ql = QLs1.length := ⟨_, rfl⟩
    rw [← hqs1]
    have HQs1 : Hid (LtJ w [.int .i64 9, .string s, .bool hi, .string t, .int .u64 0, .int .u64 0, .int .i64 n] G2 cp2 X2 Qs1 ∧ WrB Qs1 W2.heap.size qgs1 qcs1 QLs1 ∧ qls1 = QLs1.length) := ⟨HJ2.out.move hqb, by first | exact hqW | (rw [HQLs1.out]; exact hqW), hqs1⟩
    have zqs1 := HQs1.out.1.out.lt
    have yqs1 := HQs1.out.1.out.le
    clear hqb hqW hqs1 es1
    go_wp2_with (at_builtin; refine wpList_append_wr _ rfl _ _ rfl (w.heap.size + 1) G2 cp2 6 qgs1 0 qls1 qcs1 X2 QLs1 rfl rfl HN2.out HQs1.out.2.2 HQs1.out.1.out HQs1.out.2.1.at_ ?hls1 ?hbs1 ?_)
    case hls1 => omega
    case hbs1 => omega
    intro G3 cp3 W3 hW3 hgr3 hat
    obtain ⟨X3, hX3⟩ : ∃ X3 : List UInt8, X3 = X2 ++ QLs1 := ⟨_, rfl⟩
    have HX3 : Hid (X3 = X2 ++ QLs1) := hX3
    have x3' : X3.length ≤ X2.length + 900 := by rw [hX3, List.length_append]; omega
    have HJ3 : Hid (LtJ w [.int .i64 9, .string s, .bool hi, .string t, .int .u64 0, .int .u64 0, .int .i64 n] G3 cp3 X3 W3) := HQs1.out.1.app (by rw [hX3]; exact hW3) hgr3
    obtain ⟨n3, hn3⟩ : ∃ n3, n3 = X3.length := ⟨_, rfl⟩
    have HN3 : Hid (n3 = X3.length) := hn3
    have he3 : 6 + qls1 = n3 := by rw [hn3, hX3, List.length_append, ← HN2.out, ← HQs1.out.2.2]
    try rw [he3]
    clear hW3 hgr3 hat hX3 hn3 he3
    obtain ⟨V3, hV3⟩ : ∃ V3 : World, V3 = W3.alloc (Obj.cells #[.int .u8 46, .int .u8 46] 5) := ⟨_, rfl⟩
    have hb3 : Below W3.heap.size W3 V3 := by rw [hV3]; exact (Below.refl _ _).alloc (Nat.le_refl _) _
    have HV3 : Hid (LtJ w [.int .i64 9, .string s, .bool hi, .string t, .int .u64 0, .int .u64 0, .int .i64 n] G3 cp3 X3 V3 ∧ BysAt V3 W3.heap.size 0 [46, 46]) := by
      refine ⟨HJ3.out.move hb3, ?_⟩
      rw [hV3]; exact bys_new W3 _ [46, 46] rfl
    have zV3 := HV3.out.1.out.lt
    have yV3 := HV3.out.1.out.le
    clear hb3
    go_wp2_with (at_builtin; (try rw [← hV3]); refine wpList_append_wr _ rfl _ _ rfl (w.heap.size + 1) G3 cp3 n3 W3.heap.size 0 2 2 X3 [46, 46] rfl rfl HN3.out rfl HV3.out.1.out HV3.out.2 ?hl ?hb ?_)
    case hl => first | omega | (show X3.length + 2 ≤ _; omega)
    case hb => omega
    intro G4 cp4 W4 hW4 hgr4' hat
    have hgr4 : V3.grownBy W4 (some G3) := by first | exact hgr4' | (rw [hV3]; exact hgr4')
    obtain ⟨X4, hX4⟩ : ∃ X4 : List UInt8, X4 = X3 ++ [46, 46] := ⟨_, rfl⟩
    have HX4 : Hid (X4 = X3 ++ [46, 46]) := hX4
    have x4' : X4.length ≤ X3.length + 2 := by rw [hX4, List.length_append]; exact Nat.le_refl _
    have HJ4 : Hid (LtJ w [.int .i64 9, .string s, .bool hi, .string t, .int .u64 0, .int .u64 0, .int .i64 n] G4 cp4 X4 W4) := HV3.out.1.app (by rw [hX4]; exact hW4) hgr4
    obtain ⟨n4, hn4⟩ : ∃ n4, n4 = X4.length := ⟨_, rfl⟩
    have HN4 : Hid (n4 = X4.length) := hn4
    have he4 : n3 + 2 = n4 := by rw [hn4, hX4, List.length_append, ← HN3.out]; rfl
    try rw [he4]
    clear hn4 he4
    clear hW4 hgr4 hat hX4
    try clear hgr4'
    try clear hV3
    try clear q0
    have eh := HJ4.out.box.cell (j := 2) rfl
    cases hi
    case true =>
      have HE2 : Hid (endM (bl t) 0 = quoM (bl t)) := by
        show _ = _
        unfold endM
        rw [if_neg (fun q => ?_)]
        have h9 := HLS.out.1 rfl
        have h8 := bl_nil.1 q
        unfold less at h9
        rw [h8] at h9
        exact absurd h9 (by cases s.toList <;> simp [Op.bytesLess])
      have eu2 := HJ4.out.box.cell (j := 3) rfl
      obtain ⟨QLu2, hQLu2⟩ : ∃ QL : List UInt8, QL = quoM (bl t) := ⟨_, rfl⟩
      have HQLu2 : Hid (QLu2 = quoM (bl t)) := hQLu2
      have hqlu2 : QLu2.length ≤ 900 := by
        rw [hQLu2]
        have := quoM_len (bl t); rw [bl_len] at this; omega
      clear hQLu2
      go_wp2_with fail
      refine (l5Quote_core t W4 (by omega)).mono ?_
      rintro r Qu2 ⟨qgu2, qcu2, rfl, hqW, hqb⟩
      rw [← HQLu2.out]
      obtain ⟨qlu2, hqu2⟩ : ∃ ql, ql = QLu2.length := ⟨_, rfl⟩
      rw [← hqu2]
      have HQu2 : Hid (LtJ w [.int .i64 9, .string s, .bool true, .string t, .int .u64 0, .int .u64 0, .int .i64 n] G4 cp4 X4 Qu2 ∧ WrB Qu2 W4.heap.size qgu2 qcu2 QLu2 ∧ qlu2 = QLu2.length) := ⟨HJ4.out.move hqb, by first | exact hqW | (rw [HQLu2.out]; exact hqW), hqu2⟩
      have zqu2 := HQu2.out.1.out.lt
      have yqu2 := HQu2.out.1.out.le
      clear hqb hqW hqu2 eu2
      go_wp2_with (at_builtin; refine wpList_append_wr _ rfl _ _ rfl (w.heap.size + 1) G4 cp4 n4 qgu2 0 qlu2 qcu2 X4 QLu2 rfl rfl HN4.out HQu2.out.2.2 HQu2.out.1.out HQu2.out.2.1.at_ ?hlu2 ?hbu2 ?_)
      case hlu2 => omega
      case hbu2 => omega
      intro G5 cp5 W5 hW5 hgr5 hat
      obtain ⟨X5, hX5⟩ : ∃ X5 : List UInt8, X5 = X4 ++ QLu2 := ⟨_, rfl⟩
      have HX5 : Hid (X5 = X4 ++ QLu2) := hX5
      have x5' : X5.length ≤ X4.length + 900 := by rw [hX5, List.length_append]; omega
      have HJ5 : Hid (LtJ w [.int .i64 9, .string s, .bool true, .string t, .int .u64 0, .int .u64 0, .int .i64 n] G5 cp5 X5 W5) := HQu2.out.1.app (by rw [hX5]; exact hW5) hgr5
      obtain ⟨n5, hn5⟩ : ∃ n5, n5 = X5.length := ⟨_, rfl⟩
      have HN5 : Hid (n5 = X5.length) := hn5
      have he5 : n4 + qlu2 = n5 := by rw [hn5, hX5, List.length_append, ← HN4.out, ← HQu2.out.2.2]
      try rw [he5]
      clear hW5 hgr5 hat hX5 hn5 he5
      have HY : Hid (Y = X5) := by
        show _ = _
        have h1 := HE1.out
        have h2 := HE2.out
        rw [HY0.out, HX5.out, HQLu2.out, HX4.out, HX3.out, HQLs1.out, HX2.out, HX1.out]
        simp only [leafM, tailM]
        rw [h1, h2]
        simp [wordA, bl]
      go_wp2_with fail
      go_ret
      exact HJ5.out.done HN5.out HY.out
    case false =>
      have HE2 : Hid (endM (bl t) 0 = []) := by show _ = _; unfold endM; rw [if_pos (bl_nil.2 (HLS.out.2 rfl)), if_pos rfl]
      have HY : Hid (Y = X4) := by
        show _ = _
        have h1 := HE1.out
        have h2 := HE2.out
        rw [HY0.out, HX4.out, HX3.out, HQLs1.out, HX2.out, HX1.out]
        simp only [leafM, tailM]
        rw [h1, h2]
        simp [wordA, bl]
      go_wp2_with fail
      go_ret
      exact HJ4.out.done HN4.out HY.out
set_option maxHeartbeats 1000000 in
theorem l5Word_10 (w : World) : Calls Tryz.prog 87 #[.int .i64 10] w fun e w' => e = .returned (.string ⟨#[116, 115]⟩) ∧ w' = w := by
  go_enter Tryz.func87, Tryz.ntmps87
  go_wp2_with fail
  go_ret
  exact ⟨rfl, rfl⟩
set_option maxHeartbeats 8000000 in
theorem l5LeafText_10 (s : ByteArray) (hi : Bool) (t : ByteArray) (lo up n : Int) (w : World) (hg : GoodN ⟨10, s, hi, t, lo, up, n⟩) (hn : NumN ⟨10, s, hi, t, lo, up, n⟩) :
    Calls Tryz.prog 83 #[.agg #[.int .i64 10, .string s, .bool hi, .string t, .int .u64 lo, .int .u64 up, .int .i64 n]] w (LtP (leafM ⟨10, s, hi, t, lo, up, n⟩) w) := by
  have HG : Hid (GoodN ⟨10, s, hi, t, lo, up, n⟩ ∧ NumN ⟨10, s, hi, t, lo, up, n⟩) := ⟨hg, hn⟩
  have g0 : s.size ≤ 200 := hg.1
  have g1 : t.size ≤ 200 := hg.2.1
  obtain ⟨Y, hY⟩ : ∃ Y, Y = leafM ⟨10, s, hi, t, lo, up, n⟩ := ⟨_, rfl⟩
  rw [← hY]
  have HY0 : Hid (Y = leafM ⟨10, s, hi, t, lo, up, n⟩) := hY
  clear hY hg hn
  obtain ⟨W0, hW0⟩ : ∃ W0 : World, W0 = w.alloc (Obj.cells #[.int .i64 10, .string s, .bool hi, .string t, .int .u64 lo, .int .u64 up, .int .i64 n] 65) := ⟨_, rfl⟩
  have hb0 : Below w.heap.size w W0 := by rw [hW0]; exact (Below.refl _ _).alloc (Nat.le_refl _) _
  have z0 : W0.heap.size = w.heap.size + 1 := by rw [hW0]; simp
  have HB0 : Hid (BoxAt W0 w.heap.size 65 7 w.heap.size [.int .i64 10, .string s, .bool hi, .string t, .int .u64 lo, .int .u64 up, .int .i64 n]) := by
    rw [hW0]; exact boxAt_new w _ (Nat.le_refl _) rfl
  have c0 := HB0.out.cell (j := 0) rfl
  obtain ⟨W1, hW1⟩ : ∃ W1, W1 = Lib.bytesWorld W0 5 ⟨#[116, 115]⟩ := ⟨_, rfl⟩
  obtain ⟨cp1, hcp1⟩ : ∃ cp1, cp1 = grownCap W0 2 0 5 := ⟨_, rfl⟩
  have hcv : Sem.run Tryz.prog (convert 9 22 (.string ⟨#[116, 115]⟩)) W0 = .ok (.slice (some ⟨W0.heap.size, 0, none⟩) 2 cp1) W1 := by
    rw [hW1, hcp1]
    exact Lib.run_convert_string_bytes (P := Tryz.prog) W0 9 22 5 ⟨#[116, 115]⟩ Tryz.underlying9 Tryz.underlying22 Tryz.underlying5
  have HJ1 : Hid (LtJ w [.int .i64 10, .string s, .bool hi, .string t, .int .u64 lo, .int .u64 up, .int .i64 n] W0.heap.size cp1 [116, 115] W1) := by
    have hbb := below_bytes W0 ⟨#[116, 115]⟩
    rw [← hW1] at hbb
    refine ⟨?_, HB0.out.below hbb, hb0.trans (hbb.mono (by omega))⟩
    have h9 := (wrB_bytes W0 ⟨#[116, 115]⟩ (by decide)).mono (base' := w.heap.size + 1) (by omega)
    rw [← hW1] at h9
    rw [hcp1]
    exact h9
  clear hW1 hcp1 hb0
  obtain ⟨G1, hG1⟩ : ∃ G1, G1 = W0.heap.size := ⟨_, rfl⟩
  rw [← hG1] at hcv HJ1
  obtain ⟨X1, hX1⟩ : ∃ X1 : List UInt8, X1 = [116, 115] := ⟨_, rfl⟩
  have HX1 : Hid (X1 = [116, 115]) := hX1
  have x1 : X1.length = 2 := by rw [hX1]; rfl
  rw [← hX1] at HJ1
  clear hX1
  have HN1 : Hid (2 = X1.length) := x1.symm
  have x1' : X1.length ≤ 2 := by omega
  clear x1
  have q0 := HJ1.out.box.cell (j := 0) rfl
  have zs1 := HJ1.out.below.size
  go_enter Tryz.func83, Tryz.ntmps83
  go_upto_region 1 with fail
  rw [← hW0]
  clear hW0
  go_wp2_with fail
  refine (l5Word_10 W0).mono ?_
  rintro r w9 ⟨rfl, hw9⟩
  rw [hw9]
  clear hw9 c0 hG1 z0
  have hz : s.toList = [] ∧ t.toList = [] ∧ (hi = true → lo < up) ∧ (hi = false → up = 0) := by
    obtain ⟨⟨_, _, g2, g3⟩, _⟩ := HG.out
    simp only at g2 g3
    rcases g3 with ⟨q, _⟩ | ⟨q, _⟩ | ⟨_, q, q2⟩ | ⟨q, _⟩ | ⟨q, _⟩
    · omega
    · omega
    · exact ⟨q.1, q.2.1, q2, fun z => (g2 z).2⟩
    · omega
    · omega
  have hz2 := HG.out.2
  obtain ⟨l0, l1, u0, u1⟩ := hz2
  simp only at l0 l1 u0 u1
  obtain ⟨lm, rfl⟩ := Int.eq_ofNat_of_zero_le l0
  obtain ⟨um, rfl⟩ := Int.eq_ofNat_of_zero_le u0
  have HLS : Hid (bl s = [] ∧ bl t = [] ∧ (hi = true → (lm : Int) < um) ∧ (hi = false → (um : Int) = 0)) := ⟨bl_nil.2 hz.1, bl_nil.2 hz.2.1, hz.2.2⟩
  have lm1 : lm < 2 ^ 64 := by omega
  have um1 : um < 2 ^ 64 := by omega
  clear hz l0 l1 u0 u1
  obtain ⟨V1, hV1⟩ : ∃ V1 : World, V1 = W1.alloc (Obj.cells #[.int .u8 32] 5) := ⟨_, rfl⟩
  have hb1 : Below W1.heap.size W1 V1 := by rw [hV1]; exact (Below.refl _ _).alloc (Nat.le_refl _) _
  have HV1 : Hid (LtJ w [.int .i64 10, .string s, .bool hi, .string t, .int .u64 (lm : Int), .int .u64 (um : Int), .int .i64 n] G1 cp1 X1 V1 ∧ BysAt V1 W1.heap.size 0 [32]) := by
    refine ⟨HJ1.out.move hb1, ?_⟩
    rw [hV1]; exact bys_new W1 _ [32] rfl
  have zV1 := HV1.out.1.out.lt
  have yV1 := HV1.out.1.out.le
  clear hb1
  go_wp2_with (at_builtin; (try rw [← hV1]); refine wpList_append_wr _ rfl _ _ rfl (w.heap.size + 1) G1 cp1 2 W1.heap.size 0 1 1 X1 [32] rfl rfl HN1.out rfl HV1.out.1.out HV1.out.2 ?hl ?hb ?_)
  case hl => first | omega | (show X1.length + 1 ≤ _; omega)
  case hb => omega
  intro G2 cp2 W2 hW2 hgr2' hat
  have hgr2 : V1.grownBy W2 (some G1) := by first | exact hgr2' | (rw [hV1]; exact hgr2')
  obtain ⟨X2, hX2⟩ : ∃ X2 : List UInt8, X2 = X1 ++ [32] := ⟨_, rfl⟩
  have HX2 : Hid (X2 = X1 ++ [32]) := hX2
  have x2' : X2.length ≤ 2 + 1 := by rw [hX2, List.length_append]; exact Nat.add_le_add_right x1' _
  have HJ2 : Hid (LtJ w [.int .i64 10, .string s, .bool hi, .string t, .int .u64 (lm : Int), .int .u64 (um : Int), .int .i64 n] G2 cp2 X2 W2) := HV1.out.1.app (by rw [hX2]; exact hW2) hgr2
  have HN2 : Hid (3 = X2.length) := by show _ = _; rw [hX2, List.length_append, ← HN1.out]; rfl
  clear hW2 hgr2 hat hX2
  try clear hgr2'
  try clear hV1
  try clear q0
  have e1 := HJ2.out.box.cell (j := 4) rfl
  by_cases hs : lm = 0
  · subst hs
    have HE1 : Hid (endM (bl s) ((0 : Nat) : Int) = []) := by show _ = _; unfold endM; rw [if_pos HLS.out.1]; rfl
    obtain ⟨V2, hV2⟩ : ∃ V2 : World, V2 = W2.alloc (Obj.cells #[.int .u8 46, .int .u8 46] 5) := ⟨_, rfl⟩
    have hb2 : Below W2.heap.size W2 V2 := by rw [hV2]; exact (Below.refl _ _).alloc (Nat.le_refl _) _
    have HV2 : Hid (LtJ w [.int .i64 10, .string s, .bool hi, .string t, .int .u64 ((0 : Nat) : Int), .int .u64 (um : Int), .int .i64 n] G2 cp2 X2 V2 ∧ BysAt V2 W2.heap.size 0 [46, 46]) := by
      refine ⟨HJ2.out.move hb2, ?_⟩
      rw [hV2]; exact bys_new W2 _ [46, 46] rfl
    have zV2 := HV2.out.1.out.lt
    have yV2 := HV2.out.1.out.le
    clear hb2
    go_wp2_with (at_builtin; (try rw [← hV2]); refine wpList_append_wr _ rfl _ _ rfl (w.heap.size + 1) G2 cp2 3 W2.heap.size 0 2 2 X2 [46, 46] rfl rfl HN2.out rfl HV2.out.1.out HV2.out.2 ?hl ?hb ?_)
    case hl => first | omega | (show X2.length + 2 ≤ _; omega)
    case hb => omega
    intro G3 cp3 W3 hW3 hgr3' hat
    have hgr3 : V2.grownBy W3 (some G2) := by first | exact hgr3' | (rw [hV2]; exact hgr3')
    obtain ⟨X3, hX3⟩ : ∃ X3 : List UInt8, X3 = X2 ++ [46, 46] := ⟨_, rfl⟩
    have HX3 : Hid (X3 = X2 ++ [46, 46]) := hX3
    have x3' : X3.length ≤ X2.length + 2 := by rw [hX3, List.length_append]; exact Nat.le_refl _
    have HJ3 : Hid (LtJ w [.int .i64 10, .string s, .bool hi, .string t, .int .u64 ((0 : Nat) : Int), .int .u64 (um : Int), .int .i64 n] G3 cp3 X3 W3) := HV2.out.1.app (by rw [hX3]; exact hW3) hgr3
    have HN3 : Hid (5 = X3.length) := by show _ = _; rw [hX3, List.length_append, ← HN2.out]; rfl
    clear hW3 hgr3 hat hX3
    try clear hgr3'
    try clear hV2
    try clear q0
    have eh := HJ3.out.box.cell (j := 2) rfl
    cases hi
    case true =>
      have HE2 : Hid (endM (bl t) (um : Int) = Lib.decDigits um) := by
        show _ = _
        have h9 := HLS.out.2.2.1 rfl
        unfold endM; rw [if_pos HLS.out.2.1, if_neg (by omega), Int.toNat_natCast]
      have eu1 := HJ3.out.box.cell (j := 5) rfl
      obtain ⟨QLu1, hQLu1⟩ : ∃ QL : List UInt8, QL = Lib.decDigits um := ⟨_, rfl⟩
      have HQLu1 : Hid (QLu1 = Lib.decDigits um) := hQLu1
      have hqlu1 : QLu1.length ≤ 900 := by
        rw [hQLu1]
        have := dec64_len (n := um) (by omega); omega
      clear hQLu1
      go_wp2_with fail
      refine (l5Digits_all um W3 (by omega)).mono ?_
      rintro r Qu1 ⟨qgu1, qcu1, rfl, hqW, hqb⟩
      rw [← HQLu1.out]
      obtain ⟨qlu1, hqu1⟩ : ∃ ql, ql = QLu1.length := ⟨_, rfl⟩
      rw [← hqu1]
      have HQu1 : Hid (LtJ w [.int .i64 10, .string s, .bool true, .string t, .int .u64 ((0 : Nat) : Int), .int .u64 (um : Int), .int .i64 n] G3 cp3 X3 Qu1 ∧ WrB Qu1 W3.heap.size qgu1 qcu1 QLu1 ∧ qlu1 = QLu1.length) := ⟨HJ3.out.move hqb, by first | exact hqW.wr | (rw [HQLu1.out]; exact hqW.wr), hqu1⟩
      have zqu1 := HQu1.out.1.out.lt
      have yqu1 := HQu1.out.1.out.le
      clear hqb hqW hqu1 eu1
      go_wp2_with (at_builtin; refine wpList_append_wr _ rfl _ _ rfl (w.heap.size + 1) G3 cp3 5 qgu1 0 qlu1 qcu1 X3 QLu1 rfl rfl HN3.out HQu1.out.2.2 HQu1.out.1.out HQu1.out.2.1.at_ ?hlu1 ?hbu1 ?_)
      case hlu1 => omega
      case hbu1 => omega
      intro G4 cp4 W4 hW4 hgr4 hat
      obtain ⟨X4, hX4⟩ : ∃ X4 : List UInt8, X4 = X3 ++ QLu1 := ⟨_, rfl⟩
      have HX4 : Hid (X4 = X3 ++ QLu1) := hX4
      have x4' : X4.length ≤ X3.length + 900 := by rw [hX4, List.length_append]; omega
      have HJ4 : Hid (LtJ w [.int .i64 10, .string s, .bool true, .string t, .int .u64 ((0 : Nat) : Int), .int .u64 (um : Int), .int .i64 n] G4 cp4 X4 W4) := HQu1.out.1.app (by rw [hX4]; exact hW4) hgr4
      obtain ⟨n4, hn4⟩ : ∃ n4, n4 = X4.length := ⟨_, rfl⟩
      have HN4 : Hid (n4 = X4.length) := hn4
      have he4 : 5 + qlu1 = n4 := by rw [hn4, hX4, List.length_append, ← HN3.out, ← HQu1.out.2.2]
      try rw [he4]
      clear hW4 hgr4 hat hX4 hn4 he4
      have HY : Hid (Y = X4) := by
        show _ = _
        have h1 := HE1.out
        have h2 := HE2.out
        rw [HY0.out, HX4.out, HQLu1.out, HX3.out, HX2.out, HX1.out]
        simp only [leafM, tailM]
        rw [h1, h2]
        simp [wordA, bl]
      go_wp2_with fail
      go_ret
      exact HJ4.out.done HN4.out HY.out
    case false =>
      have HE2 : Hid (endM (bl t) (um : Int) = []) := by show _ = _; unfold endM; rw [if_pos HLS.out.2.1, if_pos (HLS.out.2.2.2 rfl)]
      have HY : Hid (Y = X3) := by
        show _ = _
        have h1 := HE1.out
        have h2 := HE2.out
        rw [HY0.out, HX3.out, HX2.out, HX1.out]
        simp only [leafM, tailM]
        rw [h1, h2]
        simp [wordA, bl]
      go_wp2_with fail
      go_ret
      exact HJ3.out.done HN3.out HY.out
  · have zs : ((lm : Int) == 0) = false := by rw [beq_eq_false_iff_ne]; omega
    have HE1 : Hid (endM (bl s) (lm : Int) = Lib.decDigits lm) := by show _ = _; unfold endM; rw [if_pos HLS.out.1, if_neg (by omega), Int.toNat_natCast]
    have es1 := HJ2.out.box.cell (j := 4) rfl
    obtain ⟨QLs1, hQLs1⟩ : ∃ QL : List UInt8, QL = Lib.decDigits lm := ⟨_, rfl⟩
    have HQLs1 : Hid (QLs1 = Lib.decDigits lm) := hQLs1
    have hqls1 : QLs1.length ≤ 900 := by
      rw [hQLs1]
      have := dec64_len (n := lm) (by omega); omega
    clear hQLs1
    go_wp2_with fail
    refine (l5Digits_all lm W2 (by omega)).mono ?_
    rintro r Qs1 ⟨qgs1, qcs1, rfl, hqW, hqb⟩
    rw [← HQLs1.out]
    obtain ⟨qls1, hqs1⟩ : ∃ ql, ql = QLs1.length := ⟨_, rfl⟩
    rw [← hqs1]
    have HQs1 : Hid (LtJ w [.int .i64 10, .string s, .bool hi, .string t, .int .u64 (lm : Int), .int .u64 (um : Int), .int .i64 n] G2 cp2 X2 Qs1 ∧ WrB Qs1 W2.heap.size qgs1 qcs1 QLs1 ∧ qls1 = QLs1.length) := ⟨HJ2.out.move hqb, by first | exact hqW.wr | (rw [HQLs1.out]; exact hqW.wr), hqs1⟩
    have zqs1 := HQs1.out.1.out.lt
    have yqs1 := HQs1.out.1.out.le
    clear hqb hqW hqs1 es1
    go_wp2_with (at_builtin; refine wpList_append_wr _ rfl _ _ rfl (w.heap.size + 1) G2 cp2 3 qgs1 0 qls1 qcs1 X2 QLs1 rfl rfl HN2.out HQs1.out.2.2 HQs1.out.1.out HQs1.out.2.1.at_ ?hls1 ?hbs1 ?_)
    case hls1 => omega
    case hbs1 => omega
    intro G3 cp3 W3 hW3 hgr3 hat
    obtain ⟨X3, hX3⟩ : ∃ X3 : List UInt8, X3 = X2 ++ QLs1 := ⟨_, rfl⟩
    have HX3 : Hid (X3 = X2 ++ QLs1) := hX3
    have x3' : X3.length ≤ X2.length + 900 := by rw [hX3, List.length_append]; omega
    have HJ3 : Hid (LtJ w [.int .i64 10, .string s, .bool hi, .string t, .int .u64 (lm : Int), .int .u64 (um : Int), .int .i64 n] G3 cp3 X3 W3) := HQs1.out.1.app (by rw [hX3]; exact hW3) hgr3
    obtain ⟨n3, hn3⟩ : ∃ n3, n3 = X3.length := ⟨_, rfl⟩
    have HN3 : Hid (n3 = X3.length) := hn3
    have he3 : 3 + qls1 = n3 := by rw [hn3, hX3, List.length_append, ← HN2.out, ← HQs1.out.2.2]
    try rw [he3]
    clear hW3 hgr3 hat hX3 hn3 he3
    obtain ⟨V3, hV3⟩ : ∃ V3 : World, V3 = W3.alloc (Obj.cells #[.int .u8 46, .int .u8 46] 5) := ⟨_, rfl⟩
    have hb3 : Below W3.heap.size W3 V3 := by rw [hV3]; exact (Below.refl _ _).alloc (Nat.le_refl _) _
    have HV3 : Hid (LtJ w [.int .i64 10, .string s, .bool hi, .string t, .int .u64 (lm : Int), .int .u64 (um : Int), .int .i64 n] G3 cp3 X3 V3 ∧ BysAt V3 W3.heap.size 0 [46, 46]) := by
      refine ⟨HJ3.out.move hb3, ?_⟩
      rw [hV3]; exact bys_new W3 _ [46, 46] rfl
    have zV3 := HV3.out.1.out.lt
    have yV3 := HV3.out.1.out.le
    clear hb3
    go_wp2_with (at_builtin; (try rw [← hV3]); refine wpList_append_wr _ rfl _ _ rfl (w.heap.size + 1) G3 cp3 n3 W3.heap.size 0 2 2 X3 [46, 46] rfl rfl HN3.out rfl HV3.out.1.out HV3.out.2 ?hl ?hb ?_)
    case hl => first | omega | (show X3.length + 2 ≤ _; omega)
    case hb => omega
    intro G4 cp4 W4 hW4 hgr4' hat
    have hgr4 : V3.grownBy W4 (some G3) := by first | exact hgr4' | (rw [hV3]; exact hgr4')
    obtain ⟨X4, hX4⟩ : ∃ X4 : List UInt8, X4 = X3 ++ [46, 46] := ⟨_, rfl⟩
    have HX4 : Hid (X4 = X3 ++ [46, 46]) := hX4
    have x4' : X4.length ≤ X3.length + 2 := by rw [hX4, List.length_append]; exact Nat.le_refl _
    have HJ4 : Hid (LtJ w [.int .i64 10, .string s, .bool hi, .string t, .int .u64 (lm : Int), .int .u64 (um : Int), .int .i64 n] G4 cp4 X4 W4) := HV3.out.1.app (by rw [hX4]; exact hW4) hgr4
    obtain ⟨n4, hn4⟩ : ∃ n4, n4 = X4.length := ⟨_, rfl⟩
    have HN4 : Hid (n4 = X4.length) := hn4
    have he4 : n3 + 2 = n4 := by rw [hn4, hX4, List.length_append, ← HN3.out]; rfl
    try rw [he4]
    clear hn4 he4
    clear hW4 hgr4 hat hX4
    try clear hgr4'
    try clear hV3
    try clear q0
    have eh := HJ4.out.box.cell (j := 2) rfl
    cases hi
    case true =>
      have HE2 : Hid (endM (bl t) (um : Int) = Lib.decDigits um) := by
        show _ = _
        have h9 := HLS.out.2.2.1 rfl
        unfold endM; rw [if_pos HLS.out.2.1, if_neg (by omega), Int.toNat_natCast]
      have eu2 := HJ4.out.box.cell (j := 5) rfl
      obtain ⟨QLu2, hQLu2⟩ : ∃ QL : List UInt8, QL = Lib.decDigits um := ⟨_, rfl⟩
      have HQLu2 : Hid (QLu2 = Lib.decDigits um) := hQLu2
      have hqlu2 : QLu2.length ≤ 900 := by
        rw [hQLu2]
        have := dec64_len (n := um) (by omega); omega
      clear hQLu2
      go_wp2_with fail
      refine (l5Digits_all um W4 (by omega)).mono ?_
      rintro r Qu2 ⟨qgu2, qcu2, rfl, hqW, hqb⟩
      rw [← HQLu2.out]
      obtain ⟨qlu2, hqu2⟩ : ∃ ql, ql = QLu2.length := ⟨_, rfl⟩
      rw [← hqu2]
      have HQu2 : Hid (LtJ w [.int .i64 10, .string s, .bool true, .string t, .int .u64 (lm : Int), .int .u64 (um : Int), .int .i64 n] G4 cp4 X4 Qu2 ∧ WrB Qu2 W4.heap.size qgu2 qcu2 QLu2 ∧ qlu2 = QLu2.length) := ⟨HJ4.out.move hqb, by first | exact hqW.wr | (rw [HQLu2.out]; exact hqW.wr), hqu2⟩
      have zqu2 := HQu2.out.1.out.lt
      have yqu2 := HQu2.out.1.out.le
      clear hqb hqW hqu2 eu2
      go_wp2_with (at_builtin; refine wpList_append_wr _ rfl _ _ rfl (w.heap.size + 1) G4 cp4 n4 qgu2 0 qlu2 qcu2 X4 QLu2 rfl rfl HN4.out HQu2.out.2.2 HQu2.out.1.out HQu2.out.2.1.at_ ?hlu2 ?hbu2 ?_)
      case hlu2 => omega
      case hbu2 => omega
      intro G5 cp5 W5 hW5 hgr5 hat
      obtain ⟨X5, hX5⟩ : ∃ X5 : List UInt8, X5 = X4 ++ QLu2 := ⟨_, rfl⟩
      have HX5 : Hid (X5 = X4 ++ QLu2) := hX5
      have x5' : X5.length ≤ X4.length + 900 := by rw [hX5, List.length_append]; omega
      have HJ5 : Hid (LtJ w [.int .i64 10, .string s, .bool true, .string t, .int .u64 (lm : Int), .int .u64 (um : Int), .int .i64 n] G5 cp5 X5 W5) := HQu2.out.1.app (by rw [hX5]; exact hW5) hgr5
      obtain ⟨n5, hn5⟩ : ∃ n5, n5 = X5.length := ⟨_, rfl⟩
      have HN5 : Hid (n5 = X5.length) := hn5
      have he5 : n4 + qlu2 = n5 := by rw [hn5, hX5, List.length_append, ← HN4.out, ← HQu2.out.2.2]
      try rw [he5]
      clear hW5 hgr5 hat hX5 hn5 he5
      have HY : Hid (Y = X5) := by
        show _ = _
        have h1 := HE1.out
        have h2 := HE2.out
        rw [HY0.out, HX5.out, HQLu2.out, HX4.out, HX3.out, HQLs1.out, HX2.out, HX1.out]
        simp only [leafM, tailM]
        rw [h1, h2]
        simp [wordA, bl]
      go_wp2_with fail
      go_ret
      exact HJ5.out.done HN5.out HY.out
    case false =>
      have HE2 : Hid (endM (bl t) (um : Int) = []) := by show _ = _; unfold endM; rw [if_pos HLS.out.2.1, if_pos (HLS.out.2.2.2 rfl)]
      have HY : Hid (Y = X4) := by
        show _ = _
        have h1 := HE1.out
        have h2 := HE2.out
        rw [HY0.out, HX4.out, HX3.out, HQLs1.out, HX2.out, HX1.out]
        simp only [leafM, tailM]
        rw [h1, h2]
        simp [wordA, bl]
      go_wp2_with fail
      go_ret
      exact HJ4.out.done HN4.out HY.out
set_option maxHeartbeats 1000000 in
theorem l5Word_11 (w : World) : Calls Tryz.prog 87 #[.int .i64 11] w fun e w' => e = .returned (.string ⟨#[118, 101, 114, 115, 105, 111, 110, 115]⟩) ∧ w' = w := by
  go_enter Tryz.func87, Tryz.ntmps87
  go_wp2_with fail
  go_ret
  exact ⟨rfl, rfl⟩
set_option maxHeartbeats 8000000 in
theorem l5LeafText_11 (s : ByteArray) (hi : Bool) (t : ByteArray) (lo up n : Int) (w : World) (hg : GoodN ⟨11, s, hi, t, lo, up, n⟩) (hn : NumN ⟨11, s, hi, t, lo, up, n⟩) :
    Calls Tryz.prog 83 #[.agg #[.int .i64 11, .string s, .bool hi, .string t, .int .u64 lo, .int .u64 up, .int .i64 n]] w (LtP (leafM ⟨11, s, hi, t, lo, up, n⟩) w) := by
  have HG : Hid (GoodN ⟨11, s, hi, t, lo, up, n⟩ ∧ NumN ⟨11, s, hi, t, lo, up, n⟩) := ⟨hg, hn⟩
  have g0 : s.size ≤ 200 := hg.1
  have g1 : t.size ≤ 200 := hg.2.1
  obtain ⟨Y, hY⟩ : ∃ Y, Y = leafM ⟨11, s, hi, t, lo, up, n⟩ := ⟨_, rfl⟩
  rw [← hY]
  have HY0 : Hid (Y = leafM ⟨11, s, hi, t, lo, up, n⟩) := hY
  clear hY hg hn
  obtain ⟨W0, hW0⟩ : ∃ W0 : World, W0 = w.alloc (Obj.cells #[.int .i64 11, .string s, .bool hi, .string t, .int .u64 lo, .int .u64 up, .int .i64 n] 65) := ⟨_, rfl⟩
  have hb0 : Below w.heap.size w W0 := by rw [hW0]; exact (Below.refl _ _).alloc (Nat.le_refl _) _
  have z0 : W0.heap.size = w.heap.size + 1 := by rw [hW0]; simp
  have HB0 : Hid (BoxAt W0 w.heap.size 65 7 w.heap.size [.int .i64 11, .string s, .bool hi, .string t, .int .u64 lo, .int .u64 up, .int .i64 n]) := by
    rw [hW0]; exact boxAt_new w _ (Nat.le_refl _) rfl
  have c0 := HB0.out.cell (j := 0) rfl
  obtain ⟨W1, hW1⟩ : ∃ W1, W1 = Lib.bytesWorld W0 5 ⟨#[118, 101, 114, 115, 105, 111, 110, 115]⟩ := ⟨_, rfl⟩
  obtain ⟨cp1, hcp1⟩ : ∃ cp1, cp1 = grownCap W0 8 0 5 := ⟨_, rfl⟩
  have hcv : Sem.run Tryz.prog (convert 9 22 (.string ⟨#[118, 101, 114, 115, 105, 111, 110, 115]⟩)) W0 = .ok (.slice (some ⟨W0.heap.size, 0, none⟩) 8 cp1) W1 := by
    rw [hW1, hcp1]
    exact Lib.run_convert_string_bytes (P := Tryz.prog) W0 9 22 5 ⟨#[118, 101, 114, 115, 105, 111, 110, 115]⟩ Tryz.underlying9 Tryz.underlying22 Tryz.underlying5
  have HJ1 : Hid (LtJ w [.int .i64 11, .string s, .bool hi, .string t, .int .u64 lo, .int .u64 up, .int .i64 n] W0.heap.size cp1 [118, 101, 114, 115, 105, 111, 110, 115] W1) := by
    have hbb := below_bytes W0 ⟨#[118, 101, 114, 115, 105, 111, 110, 115]⟩
    rw [← hW1] at hbb
    refine ⟨?_, HB0.out.below hbb, hb0.trans (hbb.mono (by omega))⟩
    have h9 := (wrB_bytes W0 ⟨#[118, 101, 114, 115, 105, 111, 110, 115]⟩ (by decide)).mono (base' := w.heap.size + 1) (by omega)
    rw [← hW1] at h9
    rw [hcp1]
    exact h9
  clear hW1 hcp1 hb0
  obtain ⟨G1, hG1⟩ : ∃ G1, G1 = W0.heap.size := ⟨_, rfl⟩
  rw [← hG1] at hcv HJ1
  obtain ⟨X1, hX1⟩ : ∃ X1 : List UInt8, X1 = [118, 101, 114, 115, 105, 111, 110, 115] := ⟨_, rfl⟩
  have HX1 : Hid (X1 = [118, 101, 114, 115, 105, 111, 110, 115]) := hX1
  have x1 : X1.length = 8 := by rw [hX1]; rfl
  rw [← hX1] at HJ1
  clear hX1
  have HN1 : Hid (8 = X1.length) := x1.symm
  have x1' : X1.length ≤ 8 := by omega
  clear x1
  have q0 := HJ1.out.box.cell (j := 0) rfl
  have zs1 := HJ1.out.below.size
  go_enter Tryz.func83, Tryz.ntmps83
  go_upto_region 1 with fail
  rw [← hW0]
  clear hW0
  go_wp2_with fail
  refine (l5Word_11 W0).mono ?_
  rintro r w9 ⟨rfl, hw9⟩
  rw [hw9]
  clear hw9 c0 hG1 z0
  have hn1 : 1 ≤ n ∧ n ≤ 1000 := by
    obtain ⟨⟨_, _, _, g3⟩, _⟩ := HG.out
    simp only at g3
    omega
  obtain ⟨m, rfl⟩ := Int.eq_ofNat_of_zero_le (show 0 ≤ n by omega)
  have HY : Hid (Y = X1 ++ [32] ++ Lib.decDigits m) := by show _ = _; rw [HY0.out, HX1.out]; simp [leafM, tailM, wordA, bl]
  have hql := dec64_len (n := m) (by omega)
  obtain ⟨QL, hQL⟩ : ∃ QL : List UInt8, QL = Lib.decDigits m := ⟨_, rfl⟩
  rw [← hQL] at HY hql
  have HQL : Hid (QL = Lib.decDigits m) := hQL
  clear hQL
  have m1a : W1.cell? ⟨w.heap.size, 6, none⟩ = some (.int .i64 (m : Int)) := HJ1.out.box.cell (j := 6) rfl
  have hS : (fun w' : World => w'.cell? ⟨w.heap.size, 6, none⟩ = some (.int .i64 (m : Int))) W1.drew := m1a
  have HJd : Hid (LtJ w [.int .i64 11, .string s, .bool hi, .string t, .int .u64 lo, .int .u64 up, .int .i64 (m : Int)] G1 cp1 X1 W1.drew) := HJ1.out.move ((Below.refl _ _).drew)
  have zd : W1.drew.heap.size = W1.heap.size := by simp
  go_upto_region 26 with fail
  refine wp_region_T 8 (fun w' : World => w'.cell? ⟨w.heap.size, 6, none⟩ = some (.int .i64 (m : Int))) (by kernel_rfl) ?_
  refine anyT_take (i := 0) (v := ?vz110) rfl (by kernel_rfl) (by kernel_rfl) (by kernel_rfl) (by kernel_rfl) (by decide) (fun _ _ _ h => h) (Or.inl ⟨by rfl, ?yz110⟩) hS ?_
  case yz110 => (intro wz hSw; (try dsimp only at hSw); go_simp; (try with_reducible rfl))
  try simp only [Act.put, List.getElem_toArray, List.getElem_cons_zero, List.getElem_cons_succ, List.setIfInBounds_toArray, List.set_cons_zero, List.set_cons_succ]
  refine anyT_take (i := 3) (v := ?vz113) rfl (by kernel_rfl) (by kernel_rfl) (by kernel_rfl) (by kernel_rfl) (by decide) (fun _ _ _ h => h) (Or.inl ⟨by rfl, ?yz113⟩) hS ?_
  case yz113 => (intro wz hSw; (try dsimp only at hSw); go_simp; (try with_reducible rfl))
  try simp only [Act.put, List.getElem_toArray, List.getElem_cons_zero, List.getElem_cons_succ, List.setIfInBounds_toArray, List.set_cons_zero, List.set_cons_succ]
  refine anyT_take (i := 4) (v := ?vz114) rfl (by kernel_rfl) (by kernel_rfl) (by kernel_rfl) (by kernel_rfl) (by decide) (fun _ _ _ h => h) (Or.inl ⟨by rfl, ?yz114⟩) hS ?_
  case yz114 => (intro wz hSw; (try dsimp only at hSw); go_simp; (try with_reducible rfl))
  try simp only [Act.put, List.getElem_toArray, List.getElem_cons_zero, List.getElem_cons_succ, List.setIfInBounds_toArray, List.set_cons_zero, List.set_cons_succ]
  refine anyT_take (i := 5) (v := .int .u64 (m : Int)) rfl (by kernel_rfl) (by kernel_rfl) (by kernel_rfl) (by kernel_rfl) (by decide) (fun _ _ _ h => h) (Or.inl ⟨by rfl, ?yz115⟩) hS ?_
  case yz115 => (intro wz hSw; (try dsimp only at hSw); go_simp; first | done | rfl | (rw [IntKind.wrap_u64]; omega) | (congr 3; rw [IntKind.wrap_u64]; omega) | (trace_state; omega))
  try simp only [Act.put, List.getElem_toArray, List.getElem_cons_zero, List.getElem_cons_succ, List.setIfInBounds_toArray, List.set_cons_zero, List.set_cons_succ]
  obtain ⟨V1, hV1⟩ : ∃ V1 : World, V1 = (W1.alloc (Obj.cells #[.int .u8 32] 5)).drew := ⟨_, rfl⟩
  have hbV : Below W1.heap.size W1 V1 := by rw [hV1]; exact ((Below.refl _ _).alloc (Nat.le_refl _) _).drew
  have HV1 : Hid (LtJ w [.int .i64 11, .string s, .bool hi, .string t, .int .u64 lo, .int .u64 up, .int .i64 (m : Int)] G1 cp1 X1 V1 ∧ BysAt V1 W1.heap.size 0 [32] ∧ W1.heap.size < V1.heap.size) := by
    refine ⟨HJ1.out.move hbV, ?_, by rw [hV1]; simp⟩
    rw [hV1]; exact fun i y hy => bys_new W1 _ [32] rfl i y hy
  have zV := HV1.out.1.out.lt
  have yV := HV1.out.1.out.le
  have gV : V1.cell? ⟨w.heap.size, 6, none⟩ = some (.int .i64 (m : Int)) := HV1.out.1.box.cell (j := 6) rfl
  clear hbV
  refine anyT_one (i := 1) (by kernel_rfl) rfl (fun K hK => ?_)
  go_simp
  rw [← hV1]
  clear hV1
  refine hK.out _ _ (.inr gV) ?_
  clear hK
  try simp only [Act.put, List.getElem_toArray, List.getElem_cons_zero, List.getElem_cons_succ, List.setIfInBounds_toArray, List.set_cons_zero, List.set_cons_succ]
  refine anyT_one (i := 2) (by kernel_rfl) rfl (fun K hK => ?_)
  refine step_append_wr _ rfl _ _ rfl (w.heap.size + 1) G1 cp1 8 W1.heap.size 0 1 1 X1 [32] rfl rfl HN1.out rfl HV1.out.1.out HV1.out.2.1 ?hlay ?hbay ?_
  case hlay => first | omega | (show X1.length + 1 ≤ _; omega)
  case hbay => omega
  intro g2a c2a w2a hW2 hgr2 hat2
  have HAa : Hid (LtJ w [.int .i64 11, .string s, .bool hi, .string t, .int .u64 lo, .int .u64 up, .int .i64 (m : Int)] g2a c2a (X1 ++ [32]) w2a) := HV1.out.1.app hW2 hgr2
  have s2 := hgr2.size
  have ga : w2a.cell? ⟨w.heap.size, 6, none⟩ = some (.int .i64 (m : Int)) := HAa.out.box.cell (j := 6) rfl
  obtain ⟨X2, hX2⟩ : ∃ X2 : List UInt8, X2 = X1 ++ [32] := ⟨_, rfl⟩
  rw [← hX2] at HAa
  have x2 : X2.length = X1.length + 1 := by rw [hX2, List.length_append]; rfl
  have x2b : X2.length ≤ 8 + 1 := by omega
  have HX2 : Hid (X2 = X1 ++ [32]) := hX2
  have HJan : Hid (8 + 1 = X2.length) := by show _ = _; rw [x2, ← HN1.out]
  clear hX2 hW2 hgr2 hat2 x2
  refine hK.out _ _ (.inr ga) ?_
  clear hK
  try simp only [Act.put, List.getElem_toArray, List.getElem_cons_zero, List.getElem_cons_succ, List.setIfInBounds_toArray, List.set_cons_zero, List.set_cons_succ]
  refine anyT_one (i := 6) (by kernel_rfl) rfl (fun K hK => ?_)
  go_simp
  go_at_call 111
  refine (l5Digits_all m w2a (by omega)).mono ?_
  rintro r qwa ⟨qg, qc, rfl, hqO, hqb⟩
  rw [← HQL.out]
  have HJa : Hid (LtJ w [.int .i64 11, .string s, .bool hi, .string t, .int .u64 lo, .int .u64 up, .int .i64 (m : Int)] g2a c2a X2 qwa ∧ WrB qwa w2a.heap.size qg qc QL ∧ w2a.heap.size ≤ qwa.heap.size) := ⟨HAa.out.move hqb, by first | exact hqO.wr | (rw [HQL.out]; exact hqO.wr), hqb.size⟩
  have HJax : Hid (X2 = X1 ++ [32]) := HX2
  have gq : qwa.cell? ⟨w.heap.size, 6, none⟩ = some (.int .i64 (m : Int)) := HJa.out.1.box.cell (j := 6) rfl
  clear hqb
  refine hK.out _ _ (.inr gq) ?_
  clear hK
  try simp only [Act.put, List.getElem_toArray, List.getElem_cons_zero, List.getElem_cons_succ, List.setIfInBounds_toArray, List.set_cons_zero, List.set_cons_succ]
  refine anyT_one (i := 7) (by kernel_rfl) rfl (fun K hK => ?_)
  refine step_append_wr _ rfl _ _ rfl (w.heap.size + 1) g2a c2a (8 + 1) qg 0 QL.length qc X2 QL rfl rfl HJan.out rfl HJa.out.1.out HJa.out.2.1.at_ ?hlaz ?hbaz ?_
  case hlaz => omega
  case hbaz => have := HJa.out.1.out.lt; have := HJa.out.1.out.le; omega
  intro gza cza wza hWz hgrz hatz
  have HR : Hid (LtP Y w (.returned (.slice (some ⟨gza, 0, none⟩) ((8 + 1) + QL.length) cza)) wza) := (HJa.out.1.app hWz hgrz).done (by rw [List.length_append, ← HJan.out]) (by rw [HY.out, HJax.out])
  have gs : wza.cell? ⟨w.heap.size, 6, none⟩ = some (.int .i64 (m : Int)) := (HJa.out.1.app hWz hgrz).box.cell (j := 6) rfl
  clear hWz hgrz hatz
  refine hK.out _ _ (.inr gs) ?_
  clear hK
  try simp only [Act.put, List.getElem_toArray, List.getElem_cons_zero, List.getElem_cons_succ, List.setIfInBounds_toArray, List.set_cons_zero, List.set_cons_succ]
  refine anyT_one (i := 8) (by kernel_rfl) rfl (fun K hK => ?_)
  go_simp
  refine hK.out _ _ (.inl rfl) ?_
  clear hK gs
  try simp only [Act.put, List.getElem_toArray, List.getElem_cons_zero, List.getElem_cons_succ, List.setIfInBounds_toArray, List.set_cons_zero, List.set_cons_succ]
  refine anyT_done (by kernel_rfl) ?_
  go_wp2_with fail
  go_ret
  exact HR.out
set_option maxHeartbeats 1000000 in
theorem l5Word_12 (w : World) : Calls Tryz.prog 87 #[.int .i64 12] w fun e w' => e = .returned (.string ⟨#[99, 101, 108, 108, 115]⟩) ∧ w' = w := by
  go_enter Tryz.func87, Tryz.ntmps87
  go_wp2_with fail
  go_ret
  exact ⟨rfl, rfl⟩
set_option maxHeartbeats 8000000 in
theorem l5LeafText_12 (s : ByteArray) (hi : Bool) (t : ByteArray) (lo up n : Int) (w : World) (hg : GoodN ⟨12, s, hi, t, lo, up, n⟩) (hn : NumN ⟨12, s, hi, t, lo, up, n⟩) :
    Calls Tryz.prog 83 #[.agg #[.int .i64 12, .string s, .bool hi, .string t, .int .u64 lo, .int .u64 up, .int .i64 n]] w (LtP (leafM ⟨12, s, hi, t, lo, up, n⟩) w) := by
  have HG : Hid (GoodN ⟨12, s, hi, t, lo, up, n⟩ ∧ NumN ⟨12, s, hi, t, lo, up, n⟩) := ⟨hg, hn⟩
  have g0 : s.size ≤ 200 := hg.1
  have g1 : t.size ≤ 200 := hg.2.1
  obtain ⟨Y, hY⟩ : ∃ Y, Y = leafM ⟨12, s, hi, t, lo, up, n⟩ := ⟨_, rfl⟩
  rw [← hY]
  have HY0 : Hid (Y = leafM ⟨12, s, hi, t, lo, up, n⟩) := hY
  clear hY hg hn
  obtain ⟨W0, hW0⟩ : ∃ W0 : World, W0 = w.alloc (Obj.cells #[.int .i64 12, .string s, .bool hi, .string t, .int .u64 lo, .int .u64 up, .int .i64 n] 65) := ⟨_, rfl⟩
  have hb0 : Below w.heap.size w W0 := by rw [hW0]; exact (Below.refl _ _).alloc (Nat.le_refl _) _
  have z0 : W0.heap.size = w.heap.size + 1 := by rw [hW0]; simp
  have HB0 : Hid (BoxAt W0 w.heap.size 65 7 w.heap.size [.int .i64 12, .string s, .bool hi, .string t, .int .u64 lo, .int .u64 up, .int .i64 n]) := by
    rw [hW0]; exact boxAt_new w _ (Nat.le_refl _) rfl
  have c0 := HB0.out.cell (j := 0) rfl
  obtain ⟨W1, hW1⟩ : ∃ W1, W1 = Lib.bytesWorld W0 5 ⟨#[99, 101, 108, 108, 115]⟩ := ⟨_, rfl⟩
  obtain ⟨cp1, hcp1⟩ : ∃ cp1, cp1 = grownCap W0 5 0 5 := ⟨_, rfl⟩
  have hcv : Sem.run Tryz.prog (convert 9 22 (.string ⟨#[99, 101, 108, 108, 115]⟩)) W0 = .ok (.slice (some ⟨W0.heap.size, 0, none⟩) 5 cp1) W1 := by
    rw [hW1, hcp1]
    exact Lib.run_convert_string_bytes (P := Tryz.prog) W0 9 22 5 ⟨#[99, 101, 108, 108, 115]⟩ Tryz.underlying9 Tryz.underlying22 Tryz.underlying5
  have HJ1 : Hid (LtJ w [.int .i64 12, .string s, .bool hi, .string t, .int .u64 lo, .int .u64 up, .int .i64 n] W0.heap.size cp1 [99, 101, 108, 108, 115] W1) := by
    have hbb := below_bytes W0 ⟨#[99, 101, 108, 108, 115]⟩
    rw [← hW1] at hbb
    refine ⟨?_, HB0.out.below hbb, hb0.trans (hbb.mono (by omega))⟩
    have h9 := (wrB_bytes W0 ⟨#[99, 101, 108, 108, 115]⟩ (by decide)).mono (base' := w.heap.size + 1) (by omega)
    rw [← hW1] at h9
    rw [hcp1]
    exact h9
  clear hW1 hcp1 hb0
  obtain ⟨G1, hG1⟩ : ∃ G1, G1 = W0.heap.size := ⟨_, rfl⟩
  rw [← hG1] at hcv HJ1
  obtain ⟨X1, hX1⟩ : ∃ X1 : List UInt8, X1 = [99, 101, 108, 108, 115] := ⟨_, rfl⟩
  have HX1 : Hid (X1 = [99, 101, 108, 108, 115]) := hX1
  have x1 : X1.length = 5 := by rw [hX1]; rfl
  rw [← hX1] at HJ1
  clear hX1
  have HN1 : Hid (5 = X1.length) := x1.symm
  have x1' : X1.length ≤ 5 := by omega
  clear x1
  have q0 := HJ1.out.box.cell (j := 0) rfl
  have zs1 := HJ1.out.below.size
  go_enter Tryz.func83, Tryz.ntmps83
  go_upto_region 1 with fail
  rw [← hW0]
  clear hW0
  go_wp2_with fail
  refine (l5Word_12 W0).mono ?_
  rintro r w9 ⟨rfl, hw9⟩
  rw [hw9]
  clear hw9 c0 hG1 z0
  have hn1 : 1 ≤ n ∧ n ≤ 1000 := by
    obtain ⟨⟨_, _, _, g3⟩, _⟩ := HG.out
    simp only at g3
    omega
  obtain ⟨m, rfl⟩ := Int.eq_ofNat_of_zero_le (show 0 ≤ n by omega)
  have HY : Hid (Y = X1 ++ [32] ++ Lib.decDigits m) := by show _ = _; rw [HY0.out, HX1.out]; simp [leafM, tailM, wordA, bl]
  have hql := dec64_len (n := m) (by omega)
  obtain ⟨QL, hQL⟩ : ∃ QL : List UInt8, QL = Lib.decDigits m := ⟨_, rfl⟩
  rw [← hQL] at HY hql
  have HQL : Hid (QL = Lib.decDigits m) := hQL
  clear hQL
  have m1a : W1.cell? ⟨w.heap.size, 6, none⟩ = some (.int .i64 (m : Int)) := HJ1.out.box.cell (j := 6) rfl
  have hS : (fun w' : World => w'.cell? ⟨w.heap.size, 6, none⟩ = some (.int .i64 (m : Int))) W1.drew := m1a
  have HJd : Hid (LtJ w [.int .i64 12, .string s, .bool hi, .string t, .int .u64 lo, .int .u64 up, .int .i64 (m : Int)] G1 cp1 X1 W1.drew) := HJ1.out.move ((Below.refl _ _).drew)
  have zd : W1.drew.heap.size = W1.heap.size := by simp
  go_upto_region 26 with fail
  refine wp_region_T 8 (fun w' : World => w'.cell? ⟨w.heap.size, 6, none⟩ = some (.int .i64 (m : Int))) (by kernel_rfl) ?_
  refine anyT_take (i := 0) (v := ?vz120) rfl (by kernel_rfl) (by kernel_rfl) (by kernel_rfl) (by kernel_rfl) (by decide) (fun _ _ _ h => h) (Or.inl ⟨by rfl, ?yz120⟩) hS ?_
  case yz120 => (intro wz hSw; (try dsimp only at hSw); go_simp; (try with_reducible rfl))
  try simp only [Act.put, List.getElem_toArray, List.getElem_cons_zero, List.getElem_cons_succ, List.setIfInBounds_toArray, List.set_cons_zero, List.set_cons_succ]
  refine anyT_take (i := 3) (v := ?vz123) rfl (by kernel_rfl) (by kernel_rfl) (by kernel_rfl) (by kernel_rfl) (by decide) (fun _ _ _ h => h) (Or.inl ⟨by rfl, ?yz123⟩) hS ?_
  case yz123 => (intro wz hSw; (try dsimp only at hSw); go_simp; (try with_reducible rfl))
  try simp only [Act.put, List.getElem_toArray, List.getElem_cons_zero, List.getElem_cons_succ, List.setIfInBounds_toArray, List.set_cons_zero, List.set_cons_succ]
  refine anyT_take (i := 4) (v := ?vz124) rfl (by kernel_rfl) (by kernel_rfl) (by kernel_rfl) (by kernel_rfl) (by decide) (fun _ _ _ h => h) (Or.inl ⟨by rfl, ?yz124⟩) hS ?_
  case yz124 => (intro wz hSw; (try dsimp only at hSw); go_simp; (try with_reducible rfl))
  try simp only [Act.put, List.getElem_toArray, List.getElem_cons_zero, List.getElem_cons_succ, List.setIfInBounds_toArray, List.set_cons_zero, List.set_cons_succ]
  refine anyT_take (i := 5) (v := .int .u64 (m : Int)) rfl (by kernel_rfl) (by kernel_rfl) (by kernel_rfl) (by kernel_rfl) (by decide) (fun _ _ _ h => h) (Or.inl ⟨by rfl, ?yz125⟩) hS ?_
  case yz125 => (intro wz hSw; (try dsimp only at hSw); go_simp; first | done | rfl | (rw [IntKind.wrap_u64]; omega) | (congr 3; rw [IntKind.wrap_u64]; omega) | (trace_state; omega))
  try simp only [Act.put, List.getElem_toArray, List.getElem_cons_zero, List.getElem_cons_succ, List.setIfInBounds_toArray, List.set_cons_zero, List.set_cons_succ]
  obtain ⟨V1, hV1⟩ : ∃ V1 : World, V1 = (W1.alloc (Obj.cells #[.int .u8 32] 5)).drew := ⟨_, rfl⟩
  have hbV : Below W1.heap.size W1 V1 := by rw [hV1]; exact ((Below.refl _ _).alloc (Nat.le_refl _) _).drew
  have HV1 : Hid (LtJ w [.int .i64 12, .string s, .bool hi, .string t, .int .u64 lo, .int .u64 up, .int .i64 (m : Int)] G1 cp1 X1 V1 ∧ BysAt V1 W1.heap.size 0 [32] ∧ W1.heap.size < V1.heap.size) := by
    refine ⟨HJ1.out.move hbV, ?_, by rw [hV1]; simp⟩
    rw [hV1]; exact fun i y hy => bys_new W1 _ [32] rfl i y hy
  have zV := HV1.out.1.out.lt
  have yV := HV1.out.1.out.le
  have gV : V1.cell? ⟨w.heap.size, 6, none⟩ = some (.int .i64 (m : Int)) := HV1.out.1.box.cell (j := 6) rfl
  clear hbV
  refine anyT_one (i := 1) (by kernel_rfl) rfl (fun K hK => ?_)
  go_simp
  rw [← hV1]
  clear hV1
  refine hK.out _ _ (.inr gV) ?_
  clear hK
  try simp only [Act.put, List.getElem_toArray, List.getElem_cons_zero, List.getElem_cons_succ, List.setIfInBounds_toArray, List.set_cons_zero, List.set_cons_succ]
  refine anyT_one (i := 2) (by kernel_rfl) rfl (fun K hK => ?_)
  refine step_append_wr _ rfl _ _ rfl (w.heap.size + 1) G1 cp1 5 W1.heap.size 0 1 1 X1 [32] rfl rfl HN1.out rfl HV1.out.1.out HV1.out.2.1 ?hlay ?hbay ?_
  case hlay => first | omega | (show X1.length + 1 ≤ _; omega)
  case hbay => omega
  intro g2a c2a w2a hW2 hgr2 hat2
  have HAa : Hid (LtJ w [.int .i64 12, .string s, .bool hi, .string t, .int .u64 lo, .int .u64 up, .int .i64 (m : Int)] g2a c2a (X1 ++ [32]) w2a) := HV1.out.1.app hW2 hgr2
  have s2 := hgr2.size
  have ga : w2a.cell? ⟨w.heap.size, 6, none⟩ = some (.int .i64 (m : Int)) := HAa.out.box.cell (j := 6) rfl
  obtain ⟨X2, hX2⟩ : ∃ X2 : List UInt8, X2 = X1 ++ [32] := ⟨_, rfl⟩
  rw [← hX2] at HAa
  have x2 : X2.length = X1.length + 1 := by rw [hX2, List.length_append]; rfl
  have x2b : X2.length ≤ 5 + 1 := by omega
  have HX2 : Hid (X2 = X1 ++ [32]) := hX2
  have HJan : Hid (5 + 1 = X2.length) := by show _ = _; rw [x2, ← HN1.out]
  clear hX2 hW2 hgr2 hat2 x2
  refine hK.out _ _ (.inr ga) ?_
  clear hK
  try simp only [Act.put, List.getElem_toArray, List.getElem_cons_zero, List.getElem_cons_succ, List.setIfInBounds_toArray, List.set_cons_zero, List.set_cons_succ]
  refine anyT_one (i := 6) (by kernel_rfl) rfl (fun K hK => ?_)
  go_simp
  go_at_call 111
  refine (l5Digits_all m w2a (by omega)).mono ?_
  rintro r qwa ⟨qg, qc, rfl, hqO, hqb⟩
  rw [← HQL.out]
  have HJa : Hid (LtJ w [.int .i64 12, .string s, .bool hi, .string t, .int .u64 lo, .int .u64 up, .int .i64 (m : Int)] g2a c2a X2 qwa ∧ WrB qwa w2a.heap.size qg qc QL ∧ w2a.heap.size ≤ qwa.heap.size) := ⟨HAa.out.move hqb, by first | exact hqO.wr | (rw [HQL.out]; exact hqO.wr), hqb.size⟩
  have HJax : Hid (X2 = X1 ++ [32]) := HX2
  have gq : qwa.cell? ⟨w.heap.size, 6, none⟩ = some (.int .i64 (m : Int)) := HJa.out.1.box.cell (j := 6) rfl
  clear hqb
  refine hK.out _ _ (.inr gq) ?_
  clear hK
  try simp only [Act.put, List.getElem_toArray, List.getElem_cons_zero, List.getElem_cons_succ, List.setIfInBounds_toArray, List.set_cons_zero, List.set_cons_succ]
  refine anyT_one (i := 7) (by kernel_rfl) rfl (fun K hK => ?_)
  refine step_append_wr _ rfl _ _ rfl (w.heap.size + 1) g2a c2a (5 + 1) qg 0 QL.length qc X2 QL rfl rfl HJan.out rfl HJa.out.1.out HJa.out.2.1.at_ ?hlaz ?hbaz ?_
  case hlaz => omega
  case hbaz => have := HJa.out.1.out.lt; have := HJa.out.1.out.le; omega
  intro gza cza wza hWz hgrz hatz
  have HR : Hid (LtP Y w (.returned (.slice (some ⟨gza, 0, none⟩) ((5 + 1) + QL.length) cza)) wza) := (HJa.out.1.app hWz hgrz).done (by rw [List.length_append, ← HJan.out]) (by rw [HY.out, HJax.out])
  have gs : wza.cell? ⟨w.heap.size, 6, none⟩ = some (.int .i64 (m : Int)) := (HJa.out.1.app hWz hgrz).box.cell (j := 6) rfl
  clear hWz hgrz hatz
  refine hK.out _ _ (.inr gs) ?_
  clear hK
  try simp only [Act.put, List.getElem_toArray, List.getElem_cons_zero, List.getElem_cons_succ, List.setIfInBounds_toArray, List.set_cons_zero, List.set_cons_succ]
  refine anyT_one (i := 8) (by kernel_rfl) rfl (fun K hK => ?_)
  go_simp
  refine hK.out _ _ (.inl rfl) ?_
  clear hK gs
  try simp only [Act.put, List.getElem_toArray, List.getElem_cons_zero, List.getElem_cons_succ, List.setIfInBounds_toArray, List.set_cons_zero, List.set_cons_succ]
  refine anyT_done (by kernel_rfl) ?_
  go_wp2_with fail
  go_ret
  exact HR.out
set_option maxHeartbeats 1000000 in
theorem l5Word_13 (w : World) : Calls Tryz.prog 87 #[.int .i64 13] w fun e w' => e = .returned (.string ⟨#[115, 107, 105, 112]⟩) ∧ w' = w := by
  go_enter Tryz.func87, Tryz.ntmps87
  go_wp2_with fail
  go_ret
  exact ⟨rfl, rfl⟩
set_option maxHeartbeats 8000000 in
theorem l5LeafText_13 (s : ByteArray) (hi : Bool) (t : ByteArray) (lo up n : Int) (w : World) (hg : GoodN ⟨13, s, hi, t, lo, up, n⟩) (hn : NumN ⟨13, s, hi, t, lo, up, n⟩) :
    Calls Tryz.prog 83 #[.agg #[.int .i64 13, .string s, .bool hi, .string t, .int .u64 lo, .int .u64 up, .int .i64 n]] w (LtP (leafM ⟨13, s, hi, t, lo, up, n⟩) w) := by
  have HG : Hid (GoodN ⟨13, s, hi, t, lo, up, n⟩ ∧ NumN ⟨13, s, hi, t, lo, up, n⟩) := ⟨hg, hn⟩
  have g0 : s.size ≤ 200 := hg.1
  have g1 : t.size ≤ 200 := hg.2.1
  obtain ⟨Y, hY⟩ : ∃ Y, Y = leafM ⟨13, s, hi, t, lo, up, n⟩ := ⟨_, rfl⟩
  rw [← hY]
  have HY0 : Hid (Y = leafM ⟨13, s, hi, t, lo, up, n⟩) := hY
  clear hY hg hn
  obtain ⟨W0, hW0⟩ : ∃ W0 : World, W0 = w.alloc (Obj.cells #[.int .i64 13, .string s, .bool hi, .string t, .int .u64 lo, .int .u64 up, .int .i64 n] 65) := ⟨_, rfl⟩
  have hb0 : Below w.heap.size w W0 := by rw [hW0]; exact (Below.refl _ _).alloc (Nat.le_refl _) _
  have z0 : W0.heap.size = w.heap.size + 1 := by rw [hW0]; simp
  have HB0 : Hid (BoxAt W0 w.heap.size 65 7 w.heap.size [.int .i64 13, .string s, .bool hi, .string t, .int .u64 lo, .int .u64 up, .int .i64 n]) := by
    rw [hW0]; exact boxAt_new w _ (Nat.le_refl _) rfl
  have c0 := HB0.out.cell (j := 0) rfl
  obtain ⟨W1, hW1⟩ : ∃ W1, W1 = Lib.bytesWorld W0 5 ⟨#[115, 107, 105, 112]⟩ := ⟨_, rfl⟩
  obtain ⟨cp1, hcp1⟩ : ∃ cp1, cp1 = grownCap W0 4 0 5 := ⟨_, rfl⟩
  have hcv : Sem.run Tryz.prog (convert 9 22 (.string ⟨#[115, 107, 105, 112]⟩)) W0 = .ok (.slice (some ⟨W0.heap.size, 0, none⟩) 4 cp1) W1 := by
    rw [hW1, hcp1]
    exact Lib.run_convert_string_bytes (P := Tryz.prog) W0 9 22 5 ⟨#[115, 107, 105, 112]⟩ Tryz.underlying9 Tryz.underlying22 Tryz.underlying5
  have HJ1 : Hid (LtJ w [.int .i64 13, .string s, .bool hi, .string t, .int .u64 lo, .int .u64 up, .int .i64 n] W0.heap.size cp1 [115, 107, 105, 112] W1) := by
    have hbb := below_bytes W0 ⟨#[115, 107, 105, 112]⟩
    rw [← hW1] at hbb
    refine ⟨?_, HB0.out.below hbb, hb0.trans (hbb.mono (by omega))⟩
    have h9 := (wrB_bytes W0 ⟨#[115, 107, 105, 112]⟩ (by decide)).mono (base' := w.heap.size + 1) (by omega)
    rw [← hW1] at h9
    rw [hcp1]
    exact h9
  clear hW1 hcp1 hb0
  obtain ⟨G1, hG1⟩ : ∃ G1, G1 = W0.heap.size := ⟨_, rfl⟩
  rw [← hG1] at hcv HJ1
  obtain ⟨X1, hX1⟩ : ∃ X1 : List UInt8, X1 = [115, 107, 105, 112] := ⟨_, rfl⟩
  have HX1 : Hid (X1 = [115, 107, 105, 112]) := hX1
  have x1 : X1.length = 4 := by rw [hX1]; rfl
  rw [← hX1] at HJ1
  clear hX1
  have HN1 : Hid (4 = X1.length) := x1.symm
  have x1' : X1.length ≤ 4 := by omega
  clear x1
  have q0 := HJ1.out.box.cell (j := 0) rfl
  have zs1 := HJ1.out.below.size
  go_enter Tryz.func83, Tryz.ntmps83
  go_upto_region 1 with fail
  rw [← hW0]
  clear hW0
  go_wp2_with fail
  refine (l5Word_13 W0).mono ?_
  rintro r w9 ⟨rfl, hw9⟩
  rw [hw9]
  clear hw9 c0 hG1 z0
  have hn1 : 1 ≤ n ∧ n ≤ 1000 := by
    obtain ⟨⟨_, _, _, g3⟩, _⟩ := HG.out
    simp only at g3
    omega
  obtain ⟨m, rfl⟩ := Int.eq_ofNat_of_zero_le (show 0 ≤ n by omega)
  have HY : Hid (Y = X1 ++ [32] ++ Lib.decDigits m) := by show _ = _; rw [HY0.out, HX1.out]; simp [leafM, tailM, wordA, bl]
  have hql := dec64_len (n := m) (by omega)
  obtain ⟨QL, hQL⟩ : ∃ QL : List UInt8, QL = Lib.decDigits m := ⟨_, rfl⟩
  rw [← hQL] at HY hql
  have HQL : Hid (QL = Lib.decDigits m) := hQL
  clear hQL
  have m1a : W1.cell? ⟨w.heap.size, 6, none⟩ = some (.int .i64 (m : Int)) := HJ1.out.box.cell (j := 6) rfl
  have hS : (fun w' : World => w'.cell? ⟨w.heap.size, 6, none⟩ = some (.int .i64 (m : Int))) W1.drew := m1a
  have HJd : Hid (LtJ w [.int .i64 13, .string s, .bool hi, .string t, .int .u64 lo, .int .u64 up, .int .i64 (m : Int)] G1 cp1 X1 W1.drew) := HJ1.out.move ((Below.refl _ _).drew)
  have zd : W1.drew.heap.size = W1.heap.size := by simp
  go_upto_region 26 with fail
  refine wp_region_T 8 (fun w' : World => w'.cell? ⟨w.heap.size, 6, none⟩ = some (.int .i64 (m : Int))) (by kernel_rfl) ?_
  refine anyT_take (i := 0) (v := ?vz130) rfl (by kernel_rfl) (by kernel_rfl) (by kernel_rfl) (by kernel_rfl) (by decide) (fun _ _ _ h => h) (Or.inl ⟨by rfl, ?yz130⟩) hS ?_
  case yz130 => (intro wz hSw; (try dsimp only at hSw); go_simp; (try with_reducible rfl))
  try simp only [Act.put, List.getElem_toArray, List.getElem_cons_zero, List.getElem_cons_succ, List.setIfInBounds_toArray, List.set_cons_zero, List.set_cons_succ]
  refine anyT_take (i := 3) (v := ?vz133) rfl (by kernel_rfl) (by kernel_rfl) (by kernel_rfl) (by kernel_rfl) (by decide) (fun _ _ _ h => h) (Or.inl ⟨by rfl, ?yz133⟩) hS ?_
  case yz133 => (intro wz hSw; (try dsimp only at hSw); go_simp; (try with_reducible rfl))
  try simp only [Act.put, List.getElem_toArray, List.getElem_cons_zero, List.getElem_cons_succ, List.setIfInBounds_toArray, List.set_cons_zero, List.set_cons_succ]
  refine anyT_take (i := 4) (v := ?vz134) rfl (by kernel_rfl) (by kernel_rfl) (by kernel_rfl) (by kernel_rfl) (by decide) (fun _ _ _ h => h) (Or.inl ⟨by rfl, ?yz134⟩) hS ?_
  case yz134 => (intro wz hSw; (try dsimp only at hSw); go_simp; (try with_reducible rfl))
  try simp only [Act.put, List.getElem_toArray, List.getElem_cons_zero, List.getElem_cons_succ, List.setIfInBounds_toArray, List.set_cons_zero, List.set_cons_succ]
  refine anyT_take (i := 5) (v := .int .u64 (m : Int)) rfl (by kernel_rfl) (by kernel_rfl) (by kernel_rfl) (by kernel_rfl) (by decide) (fun _ _ _ h => h) (Or.inl ⟨by rfl, ?yz135⟩) hS ?_
  case yz135 => (intro wz hSw; (try dsimp only at hSw); go_simp; first | done | rfl | (rw [IntKind.wrap_u64]; omega) | (congr 3; rw [IntKind.wrap_u64]; omega) | (trace_state; omega))
  try simp only [Act.put, List.getElem_toArray, List.getElem_cons_zero, List.getElem_cons_succ, List.setIfInBounds_toArray, List.set_cons_zero, List.set_cons_succ]
  obtain ⟨V1, hV1⟩ : ∃ V1 : World, V1 = (W1.alloc (Obj.cells #[.int .u8 32] 5)).drew := ⟨_, rfl⟩
  have hbV : Below W1.heap.size W1 V1 := by rw [hV1]; exact ((Below.refl _ _).alloc (Nat.le_refl _) _).drew
  have HV1 : Hid (LtJ w [.int .i64 13, .string s, .bool hi, .string t, .int .u64 lo, .int .u64 up, .int .i64 (m : Int)] G1 cp1 X1 V1 ∧ BysAt V1 W1.heap.size 0 [32] ∧ W1.heap.size < V1.heap.size) := by
    refine ⟨HJ1.out.move hbV, ?_, by rw [hV1]; simp⟩
    rw [hV1]; exact fun i y hy => bys_new W1 _ [32] rfl i y hy
  have zV := HV1.out.1.out.lt
  have yV := HV1.out.1.out.le
  have gV : V1.cell? ⟨w.heap.size, 6, none⟩ = some (.int .i64 (m : Int)) := HV1.out.1.box.cell (j := 6) rfl
  clear hbV
  refine anyT_one (i := 1) (by kernel_rfl) rfl (fun K hK => ?_)
  go_simp
  rw [← hV1]
  clear hV1
  refine hK.out _ _ (.inr gV) ?_
  clear hK
  try simp only [Act.put, List.getElem_toArray, List.getElem_cons_zero, List.getElem_cons_succ, List.setIfInBounds_toArray, List.set_cons_zero, List.set_cons_succ]
  refine anyT_one (i := 2) (by kernel_rfl) rfl (fun K hK => ?_)
  refine step_append_wr _ rfl _ _ rfl (w.heap.size + 1) G1 cp1 4 W1.heap.size 0 1 1 X1 [32] rfl rfl HN1.out rfl HV1.out.1.out HV1.out.2.1 ?hlay ?hbay ?_
  case hlay => first | omega | (show X1.length + 1 ≤ _; omega)
  case hbay => omega
  intro g2a c2a w2a hW2 hgr2 hat2
  have HAa : Hid (LtJ w [.int .i64 13, .string s, .bool hi, .string t, .int .u64 lo, .int .u64 up, .int .i64 (m : Int)] g2a c2a (X1 ++ [32]) w2a) := HV1.out.1.app hW2 hgr2
  have s2 := hgr2.size
  have ga : w2a.cell? ⟨w.heap.size, 6, none⟩ = some (.int .i64 (m : Int)) := HAa.out.box.cell (j := 6) rfl
  obtain ⟨X2, hX2⟩ : ∃ X2 : List UInt8, X2 = X1 ++ [32] := ⟨_, rfl⟩
  rw [← hX2] at HAa
  have x2 : X2.length = X1.length + 1 := by rw [hX2, List.length_append]; rfl
  have x2b : X2.length ≤ 4 + 1 := by omega
  have HX2 : Hid (X2 = X1 ++ [32]) := hX2
  have HJan : Hid (4 + 1 = X2.length) := by show _ = _; rw [x2, ← HN1.out]
  clear hX2 hW2 hgr2 hat2 x2
  refine hK.out _ _ (.inr ga) ?_
  clear hK
  try simp only [Act.put, List.getElem_toArray, List.getElem_cons_zero, List.getElem_cons_succ, List.setIfInBounds_toArray, List.set_cons_zero, List.set_cons_succ]
  refine anyT_one (i := 6) (by kernel_rfl) rfl (fun K hK => ?_)
  go_simp
  go_at_call 111
  refine (l5Digits_all m w2a (by omega)).mono ?_
  rintro r qwa ⟨qg, qc, rfl, hqO, hqb⟩
  rw [← HQL.out]
  have HJa : Hid (LtJ w [.int .i64 13, .string s, .bool hi, .string t, .int .u64 lo, .int .u64 up, .int .i64 (m : Int)] g2a c2a X2 qwa ∧ WrB qwa w2a.heap.size qg qc QL ∧ w2a.heap.size ≤ qwa.heap.size) := ⟨HAa.out.move hqb, by first | exact hqO.wr | (rw [HQL.out]; exact hqO.wr), hqb.size⟩
  have HJax : Hid (X2 = X1 ++ [32]) := HX2
  have gq : qwa.cell? ⟨w.heap.size, 6, none⟩ = some (.int .i64 (m : Int)) := HJa.out.1.box.cell (j := 6) rfl
  clear hqb
  refine hK.out _ _ (.inr gq) ?_
  clear hK
  try simp only [Act.put, List.getElem_toArray, List.getElem_cons_zero, List.getElem_cons_succ, List.setIfInBounds_toArray, List.set_cons_zero, List.set_cons_succ]
  refine anyT_one (i := 7) (by kernel_rfl) rfl (fun K hK => ?_)
  refine step_append_wr _ rfl _ _ rfl (w.heap.size + 1) g2a c2a (4 + 1) qg 0 QL.length qc X2 QL rfl rfl HJan.out rfl HJa.out.1.out HJa.out.2.1.at_ ?hlaz ?hbaz ?_
  case hlaz => omega
  case hbaz => have := HJa.out.1.out.lt; have := HJa.out.1.out.le; omega
  intro gza cza wza hWz hgrz hatz
  have HR : Hid (LtP Y w (.returned (.slice (some ⟨gza, 0, none⟩) ((4 + 1) + QL.length) cza)) wza) := (HJa.out.1.app hWz hgrz).done (by rw [List.length_append, ← HJan.out]) (by rw [HY.out, HJax.out])
  have gs : wza.cell? ⟨w.heap.size, 6, none⟩ = some (.int .i64 (m : Int)) := (HJa.out.1.app hWz hgrz).box.cell (j := 6) rfl
  clear hWz hgrz hatz
  refine hK.out _ _ (.inr gs) ?_
  clear hK
  try simp only [Act.put, List.getElem_toArray, List.getElem_cons_zero, List.getElem_cons_succ, List.setIfInBounds_toArray, List.set_cons_zero, List.set_cons_succ]
  refine anyT_one (i := 8) (by kernel_rfl) rfl (fun K hK => ?_)
  go_simp
  refine hK.out _ _ (.inl rfl) ?_
  clear hK gs
  try simp only [Act.put, List.getElem_toArray, List.getElem_cons_zero, List.getElem_cons_succ, List.setIfInBounds_toArray, List.set_cons_zero, List.set_cons_succ]
  refine anyT_done (by kernel_rfl) ?_
  go_wp2_with fail
  go_ret
  exact HR.out
theorem l5LeafText_core (e : Nd) (w : World) (hg : GoodN e) (hn : NumN e) (hk : arity e.kind = 0) : Calls Tryz.prog 83 #[e.v] w (LtP (leafM e) w) := by
  obtain ⟨kind, s, hi, t, lo, up, n⟩ := e
  have h13 : kind = 1 ∨ kind = 2 ∨ kind = 3 ∨ kind = 4 ∨ kind = 5 ∨ kind = 6 ∨ kind = 7 ∨ kind = 8 ∨ kind = 9 ∨ kind = 10 ∨ kind = 11 ∨ kind = 12 ∨ kind = 13 := by
    obtain ⟨_, _, _, h⟩ := hg
    simp only at h hk
    unfold arity at hk
    by_cases q14 : kind = 14 ∨ kind = 15
    · rw [if_pos q14] at hk; cases hk
    · by_cases q16 : kind = 16
      · rw [if_neg q14, if_pos q16] at hk; cases hk
      · omega
  rcases h13 with rfl | rfl | rfl | rfl | rfl | rfl | rfl | rfl | rfl | rfl | rfl | rfl | rfl
  · exact l5LeafText_1 s hi t lo up n w hg hn
  · exact l5LeafText_2 s hi t lo up n w hg hn
  · exact l5LeafText_3 s hi t lo up n w hg hn
  · exact l5LeafText_4 s hi t lo up n w hg hn
  · exact l5LeafText_5 s hi t lo up n w hg hn
  · exact l5LeafText_6 s hi t lo up n w hg hn
  · exact l5LeafText_7 s hi t lo up n w hg hn
  · exact l5LeafText_8 s hi t lo up n w hg hn
  · exact l5LeafText_9 s hi t lo up n w hg hn
  · exact l5LeafText_10 s hi t lo up n w hg hn
  · exact l5LeafText_11 s hi t lo up n w hg hn
  · exact l5LeafText_12 s hi t lo up n w hg hn
  · exact l5LeafText_13 s hi t lo up n w hg hn
end Go.Proofs.YtgnpcenpcmdlfaaGreatDoor
