/-
  impl.appendLeaf.
-/
import Derived.Test.YtgnpcenpcmdlfaaGreatDoorZkAJ
namespace Go.Proofs.YtgnpcenpcmdlfaaGreatDoor
open Go.ChangeShapes Go.WideShapes Go.ChangeAt Go.RowKit Go.Deep
set_option linter.unusedVariables false
set_option linter.unusedSimpArgs false
set_option maxRecDepth 100000

theorem leaf_len (k : Nat) : (wordG k).size ≤ 8 := by
  have h := wordA_len (k : Int)
  rw [bl_len] at h
  unfold wordG
  split
  · decide
  · split
    · decide
    · split
      · decide
      · exact h
set_option maxHeartbeats 4000000 in
theorem appendLeaf_1 (base : Nat) (v : Value) (l : List UInt8) (s : ByteArray) (hi : Bool) (t : ByteArray) (lo up n : Int) (w : World) (hg : GoodN ⟨1, s, hi, t, lo, up, n⟩) (hn : NumN ⟨1, s, hi, t, lo, up, n⟩) (hO : OwnS w base v l) (hl : l.length ≤ 1000) (hb : base ≤ w.heap.size) (hG : Gl w) (hB : 7 ≤ base) :
    Calls Tryz.prog 76 #[v, .agg #[.int .i64 1, .string s, .bool hi, .string t, .int .u64 lo, .int .u64 up, .int .i64 n]] w (AppP base (l ++ leafM ⟨1, s, hi, t, lo, up, n⟩) w) := by
  have HG : Hid (GoodN ⟨1, s, hi, t, lo, up, n⟩) := hg
  obtain ⟨g0, g1, _, _⟩ := hg
  simp only at g0 g1
  obtain ⟨W0, hW0⟩ : ∃ W0 : World, W0 = w.alloc (Obj.cells #[.int .i64 1, .string s, .bool hi, .string t, .int .u64 lo, .int .u64 up, .int .i64 n] 65) := ⟨_, rfl⟩
  have hb0 : Below w.heap.size w W0 := by rw [hW0]; exact (Below.refl _ _).alloc (Nat.le_refl _) _
  have s0 := hb0.size
  have HW0 : Hid (OwnS W0 base v l ∧ Fr base w W0 ∧ Gl W0 ∧ BoxAt W0 w.heap.size 65 7 w.heap.size [.int .i64 1, .string s, .bool hi, .string t, .int .u64 lo, .int .u64 up, .int .i64 n]) := by
    refine ⟨hO.below hb0, (Fr.refl _ _).step hb0 hb, hG.on hb0 (by omega), ?_⟩
    rw [hW0]; exact boxAt_new w _ (Nat.le_refl _) rfl
  have c0 := HW0.out.2.2.2.cell (j := 0) rfl
  have gw : W0.cell? ⟨0, 1, none⟩ = some (.string ⟨#[112, 97, 115, 115]⟩) := HW0.out.2.2.1.words 1 (by omega)
  clear hb0 hO hG
  go_enter Tryz.func76, Tryz.ntmps76
  go_upto_region 1 with fail
  rw [← hW0]
  clear hW0
  go_wp2_with (at_builtin; refine wpList_append_st _ rfl _ _ rfl base v l ⟨#[112, 97, 115, 115]⟩ rfl rfl HW0.out.1 ?hl ?hb ?_)
  case hl => first | omega | (show l.length + 4 ≤ _; omega)
  case hb => omega
  intro v1 w1 hO1 hgr1
  have hgr2 : W0.grownBy w1 v.ownBlock := hgr1
  obtain ⟨X1, hX1⟩ : ∃ X1 : List UInt8, X1 = l ++ [112, 97, 115, 115] := ⟨_, rfl⟩
  have hO1' : OwnS w1 base v1 X1 := by rw [hX1]; exact hO1
  have x1 : X1.length ≤ l.length + 4 := by rw [hX1, List.length_append]; exact Nat.le_refl _
  have HX1 : Hid (X1 = l ++ [112, 97, 115, 115]) := hX1
  clear hX1
  have hF1 := HW0.out.1.nextF HW0.out.2.1 (by omega) hgr2
  have HW1 : Hid (OwnS w1 base v1 X1 ∧ Fr base w w1 ∧ Gl w1 ∧ BoxAt w1 w.heap.size 65 7 w.heap.size [.int .i64 1, .string s, .bool hi, .string t, .int .u64 lo, .int .u64 up, .int .i64 n]) := by
    have hF01 : Fr base W0 w1 := HW0.out.1.nextF (Fr.refl _ _) (by omega) hgr2
    exact ⟨hO1', hF1, HW0.out.2.2.1.on hF01.below hB, hF01.box HW0.out.2.2.2 (by decide)⟩
  have s1 := hgr2.size
  clear hO1 hO1' hgr1 hgr2 c0 gw hF1
  have c0 := HW1.out.2.2.2.cell (j := 0) rfl
  have HL : Hid (l ++ leafM ⟨1, s, hi, t, lo, up, n⟩ = X1) := by show _ = _; rw [HX1.out]; simp [leafM, tailM, wordA, bl]
  go_wp2_with fail
  go_ret
  exact ⟨v1, rfl, by rw [HL.out]; exact HW1.out.1, HW1.out.2.1⟩
set_option maxHeartbeats 4000000 in
theorem appendLeaf_2 (base : Nat) (v : Value) (l : List UInt8) (s : ByteArray) (hi : Bool) (t : ByteArray) (lo up n : Int) (w : World) (hg : GoodN ⟨2, s, hi, t, lo, up, n⟩) (hn : NumN ⟨2, s, hi, t, lo, up, n⟩) (hO : OwnS w base v l) (hl : l.length ≤ 1000) (hb : base ≤ w.heap.size) (hG : Gl w) (hB : 7 ≤ base) :
    Calls Tryz.prog 76 #[v, .agg #[.int .i64 2, .string s, .bool hi, .string t, .int .u64 lo, .int .u64 up, .int .i64 n]] w (AppP base (l ++ leafM ⟨2, s, hi, t, lo, up, n⟩) w) := by
  have HG : Hid (GoodN ⟨2, s, hi, t, lo, up, n⟩) := hg
  obtain ⟨g0, g1, _, _⟩ := hg
  simp only at g0 g1
  obtain ⟨W0, hW0⟩ : ∃ W0 : World, W0 = w.alloc (Obj.cells #[.int .i64 2, .string s, .bool hi, .string t, .int .u64 lo, .int .u64 up, .int .i64 n] 65) := ⟨_, rfl⟩
  have hb0 : Below w.heap.size w W0 := by rw [hW0]; exact (Below.refl _ _).alloc (Nat.le_refl _) _
  have s0 := hb0.size
  have HW0 : Hid (OwnS W0 base v l ∧ Fr base w W0 ∧ Gl W0 ∧ BoxAt W0 w.heap.size 65 7 w.heap.size [.int .i64 2, .string s, .bool hi, .string t, .int .u64 lo, .int .u64 up, .int .i64 n]) := by
    refine ⟨hO.below hb0, (Fr.refl _ _).step hb0 hb, hG.on hb0 (by omega), ?_⟩
    rw [hW0]; exact boxAt_new w _ (Nat.le_refl _) rfl
  have c0 := HW0.out.2.2.2.cell (j := 0) rfl
  have gw : W0.cell? ⟨0, 2, none⟩ = some (.string ⟨#[98, 108, 111, 99, 107]⟩) := HW0.out.2.2.1.words 2 (by omega)
  clear hb0 hO hG
  go_enter Tryz.func76, Tryz.ntmps76
  go_upto_region 1 with fail
  rw [← hW0]
  clear hW0
  go_wp2_with (at_builtin; refine wpList_append_st _ rfl _ _ rfl base v l ⟨#[98, 108, 111, 99, 107]⟩ rfl rfl HW0.out.1 ?hl ?hb ?_)
  case hl => first | omega | (show l.length + 5 ≤ _; omega)
  case hb => omega
  intro v1 w1 hO1 hgr1
  have hgr2 : W0.grownBy w1 v.ownBlock := hgr1
  obtain ⟨X1, hX1⟩ : ∃ X1 : List UInt8, X1 = l ++ [98, 108, 111, 99, 107] := ⟨_, rfl⟩
  have hO1' : OwnS w1 base v1 X1 := by rw [hX1]; exact hO1
  have x1 : X1.length ≤ l.length + 5 := by rw [hX1, List.length_append]; exact Nat.le_refl _
  have HX1 : Hid (X1 = l ++ [98, 108, 111, 99, 107]) := hX1
  clear hX1
  have hF1 := HW0.out.1.nextF HW0.out.2.1 (by omega) hgr2
  have HW1 : Hid (OwnS w1 base v1 X1 ∧ Fr base w w1 ∧ Gl w1 ∧ BoxAt w1 w.heap.size 65 7 w.heap.size [.int .i64 2, .string s, .bool hi, .string t, .int .u64 lo, .int .u64 up, .int .i64 n]) := by
    have hF01 : Fr base W0 w1 := HW0.out.1.nextF (Fr.refl _ _) (by omega) hgr2
    exact ⟨hO1', hF1, HW0.out.2.2.1.on hF01.below hB, hF01.box HW0.out.2.2.2 (by decide)⟩
  have s1 := hgr2.size
  clear hO1 hO1' hgr1 hgr2 c0 gw hF1
  have c0 := HW1.out.2.2.2.cell (j := 0) rfl
  have HL : Hid (l ++ leafM ⟨2, s, hi, t, lo, up, n⟩ = X1) := by show _ = _; rw [HX1.out]; simp [leafM, tailM, wordA, bl]
  go_wp2_with fail
  go_ret
  exact ⟨v1, rfl, by rw [HL.out]; exact HW1.out.1, HW1.out.2.1⟩
set_option maxHeartbeats 4000000 in
theorem appendLeaf_3 (base : Nat) (v : Value) (l : List UInt8) (s : ByteArray) (hi : Bool) (t : ByteArray) (lo up n : Int) (w : World) (hg : GoodN ⟨3, s, hi, t, lo, up, n⟩) (hn : NumN ⟨3, s, hi, t, lo, up, n⟩) (hO : OwnS w base v l) (hl : l.length ≤ 1000) (hb : base ≤ w.heap.size) (hG : Gl w) (hB : 7 ≤ base) :
    Calls Tryz.prog 76 #[v, .agg #[.int .i64 3, .string s, .bool hi, .string t, .int .u64 lo, .int .u64 up, .int .i64 n]] w (AppP base (l ++ leafM ⟨3, s, hi, t, lo, up, n⟩) w) := by
  have HG : Hid (GoodN ⟨3, s, hi, t, lo, up, n⟩) := hg
  obtain ⟨g0, g1, _, _⟩ := hg
  simp only at g0 g1
  obtain ⟨W0, hW0⟩ : ∃ W0 : World, W0 = w.alloc (Obj.cells #[.int .i64 3, .string s, .bool hi, .string t, .int .u64 lo, .int .u64 up, .int .i64 n] 65) := ⟨_, rfl⟩
  have hb0 : Below w.heap.size w W0 := by rw [hW0]; exact (Below.refl _ _).alloc (Nat.le_refl _) _
  have s0 := hb0.size
  have HW0 : Hid (OwnS W0 base v l ∧ Fr base w W0 ∧ Gl W0 ∧ BoxAt W0 w.heap.size 65 7 w.heap.size [.int .i64 3, .string s, .bool hi, .string t, .int .u64 lo, .int .u64 up, .int .i64 n]) := by
    refine ⟨hO.below hb0, (Fr.refl _ _).step hb0 hb, hG.on hb0 (by omega), ?_⟩
    rw [hW0]; exact boxAt_new w _ (Nat.le_refl _) rfl
  have c0 := HW0.out.2.2.2.cell (j := 0) rfl
  have gw : W0.cell? ⟨0, 3, none⟩ = some (.string ⟨#[115, 116, 114, 105, 112]⟩) := HW0.out.2.2.1.words 3 (by omega)
  clear hb0 hO hG
  go_enter Tryz.func76, Tryz.ntmps76
  go_upto_region 1 with fail
  rw [← hW0]
  clear hW0
  go_wp2_with (at_builtin; refine wpList_append_st _ rfl _ _ rfl base v l ⟨#[115, 116, 114, 105, 112]⟩ rfl rfl HW0.out.1 ?hl ?hb ?_)
  case hl => first | omega | (show l.length + 5 ≤ _; omega)
  case hb => omega
  intro v1 w1 hO1 hgr1
  have hgr2 : W0.grownBy w1 v.ownBlock := hgr1
  obtain ⟨X1, hX1⟩ : ∃ X1 : List UInt8, X1 = l ++ [115, 116, 114, 105, 112] := ⟨_, rfl⟩
  have hO1' : OwnS w1 base v1 X1 := by rw [hX1]; exact hO1
  have x1 : X1.length ≤ l.length + 5 := by rw [hX1, List.length_append]; exact Nat.le_refl _
  have HX1 : Hid (X1 = l ++ [115, 116, 114, 105, 112]) := hX1
  clear hX1
  have hF1 := HW0.out.1.nextF HW0.out.2.1 (by omega) hgr2
  have HW1 : Hid (OwnS w1 base v1 X1 ∧ Fr base w w1 ∧ Gl w1 ∧ BoxAt w1 w.heap.size 65 7 w.heap.size [.int .i64 3, .string s, .bool hi, .string t, .int .u64 lo, .int .u64 up, .int .i64 n]) := by
    have hF01 : Fr base W0 w1 := HW0.out.1.nextF (Fr.refl _ _) (by omega) hgr2
    exact ⟨hO1', hF1, HW0.out.2.2.1.on hF01.below hB, hF01.box HW0.out.2.2.2 (by decide)⟩
  have s1 := hgr2.size
  clear hO1 hO1' hgr1 hgr2 c0 gw hF1
  have c0 := HW1.out.2.2.2.cell (j := 0) rfl
  have HL : Hid (l ++ leafM ⟨3, s, hi, t, lo, up, n⟩ = X1) := by show _ = _; rw [HX1.out]; simp [leafM, tailM, wordA, bl]
  go_wp2_with fail
  go_ret
  exact ⟨v1, rfl, by rw [HL.out]; exact HW1.out.1, HW1.out.2.1⟩
set_option maxHeartbeats 4000000 in
theorem appendLeaf_4 (base : Nat) (v : Value) (l : List UInt8) (s : ByteArray) (hi : Bool) (t : ByteArray) (lo up n : Int) (w : World) (hg : GoodN ⟨4, s, hi, t, lo, up, n⟩) (hn : NumN ⟨4, s, hi, t, lo, up, n⟩) (hO : OwnS w base v l) (hl : l.length ≤ 1000) (hb : base ≤ w.heap.size) (hG : Gl w) (hB : 7 ≤ base) :
    Calls Tryz.prog 76 #[v, .agg #[.int .i64 4, .string s, .bool hi, .string t, .int .u64 lo, .int .u64 up, .int .i64 n]] w (AppP base (l ++ leafM ⟨4, s, hi, t, lo, up, n⟩) w) := by
  have HG : Hid (GoodN ⟨4, s, hi, t, lo, up, n⟩) := hg
  obtain ⟨g0, g1, _, _⟩ := hg
  simp only at g0 g1
  obtain ⟨W0, hW0⟩ : ∃ W0 : World, W0 = w.alloc (Obj.cells #[.int .i64 4, .string s, .bool hi, .string t, .int .u64 lo, .int .u64 up, .int .i64 n] 65) := ⟨_, rfl⟩
  have hb0 : Below w.heap.size w W0 := by rw [hW0]; exact (Below.refl _ _).alloc (Nat.le_refl _) _
  have s0 := hb0.size
  have HW0 : Hid (OwnS W0 base v l ∧ Fr base w W0 ∧ Gl W0 ∧ BoxAt W0 w.heap.size 65 7 w.heap.size [.int .i64 4, .string s, .bool hi, .string t, .int .u64 lo, .int .u64 up, .int .i64 n]) := by
    refine ⟨hO.below hb0, (Fr.refl _ _).step hb0 hb, hG.on hb0 (by omega), ?_⟩
    rw [hW0]; exact boxAt_new w _ (Nat.le_refl _) rfl
  have c0 := HW0.out.2.2.2.cell (j := 0) rfl
  have gw : W0.cell? ⟨0, 4, none⟩ = some (.string ⟨#[114, 111, 119]⟩) := HW0.out.2.2.1.words 4 (by omega)
  clear hb0 hO hG
  go_enter Tryz.func76, Tryz.ntmps76
  go_upto_region 1 with fail
  rw [← hW0]
  clear hW0
  go_wp2_with (at_builtin; refine wpList_append_st _ rfl _ _ rfl base v l ⟨#[114, 111, 119]⟩ rfl rfl HW0.out.1 ?hl ?hb ?_)
  case hl => first | omega | (show l.length + 3 ≤ _; omega)
  case hb => omega
  intro v1 w1 hO1 hgr1
  have hgr2 : W0.grownBy w1 v.ownBlock := hgr1
  obtain ⟨X1, hX1⟩ : ∃ X1 : List UInt8, X1 = l ++ [114, 111, 119] := ⟨_, rfl⟩
  have hO1' : OwnS w1 base v1 X1 := by rw [hX1]; exact hO1
  have x1 : X1.length ≤ l.length + 3 := by rw [hX1, List.length_append]; exact Nat.le_refl _
  have HX1 : Hid (X1 = l ++ [114, 111, 119]) := hX1
  clear hX1
  have hF1 := HW0.out.1.nextF HW0.out.2.1 (by omega) hgr2
  have HW1 : Hid (OwnS w1 base v1 X1 ∧ Fr base w w1 ∧ Gl w1 ∧ BoxAt w1 w.heap.size 65 7 w.heap.size [.int .i64 4, .string s, .bool hi, .string t, .int .u64 lo, .int .u64 up, .int .i64 n]) := by
    have hF01 : Fr base W0 w1 := HW0.out.1.nextF (Fr.refl _ _) (by omega) hgr2
    exact ⟨hO1', hF1, HW0.out.2.2.1.on hF01.below hB, hF01.box HW0.out.2.2.2 (by decide)⟩
  have s1 := hgr2.size
  clear hO1 hO1' hgr1 hgr2 c0 gw hF1
  have c0 := HW1.out.2.2.2.cell (j := 0) rfl
  obtain ⟨W1, hW1⟩ : ∃ W1 : World, W1 = w1.alloc (Obj.cells #[.int .u8 32] 5) := ⟨_, rfl⟩
  have hb1 : Below w1.heap.size w1 W1 := by rw [hW1]; exact (Below.refl _ _).alloc (Nat.le_refl _) _
  have t1 := hb1.size
  have HV1 : Hid (OwnS W1 base v1 X1 ∧ Fr base w W1 ∧ BysAt W1 w1.heap.size 0 [32] ∧ Gl W1 ∧ BoxAt W1 w.heap.size 65 7 w.heap.size [.int .i64 4, .string s, .bool hi, .string t, .int .u64 lo, .int .u64 up, .int .i64 n]) := by
    refine ⟨HW1.out.1.below hb1, HW1.out.2.1.step hb1 (by omega), ?_, HW1.out.2.2.1.on hb1 (by omega), HW1.out.2.2.2.below hb1⟩
    rw [hW1]; exact bys_new w1 _ [32] rfl
  clear hb1
  go_wp2_with (at_builtin; (try rw [← hW1]); refine wpList_append_ys _ rfl _ _ rfl base w1.heap.size 0 1 1 v1 X1 [32] rfl rfl rfl HV1.out.1 HV1.out.2.2.1 ?hl ?hb ?_)
  case hl => first | omega | (show X1.length + 1 ≤ _; omega)
  case hb => omega
  intro v2 w2 hO2 hgr2
  have hgr2 : W1.grownBy w2 v1.ownBlock := by first | exact hgr2 | (rw [hW1]; exact hgr2)
  obtain ⟨X2, hX2⟩ : ∃ X2 : List UInt8, X2 = X1 ++ [32] := ⟨_, rfl⟩
  have hO' : OwnS w2 base v2 X2 := by rw [hX2]; exact hO2
  have x2 : X2.length ≤ X1.length + 1 := by rw [hX2, List.length_append]; exact Nat.le_refl _
  have HX2 : Hid (X2 = X1 ++ [32]) := hX2
  clear hX2
  have HW2 : Hid (OwnS w2 base v2 X2 ∧ Fr base w w2 ∧ Gl w2 ∧ BoxAt w2 w.heap.size 65 7 w.heap.size [.int .i64 4, .string s, .bool hi, .string t, .int .u64 lo, .int .u64 up, .int .i64 n]) := by
    have hF01 : Fr base W1 w2 := HV1.out.1.nextF (Fr.refl _ _) (by omega) hgr2
    exact ⟨hO', HV1.out.2.1.trans hF01, HV1.out.2.2.2.1.on hF01.below hB, hF01.box HV1.out.2.2.2.2 (by decide)⟩
  have s2 := hgr2.size
  clear hO2 hO' hgr2
  try clear hgr2
  try clear hW1
  try clear c0
  have HL : Hid (l ++ leafM ⟨4, s, hi, t, lo, up, n⟩ = X2 ++ quoM (bl s)) := by show _ = _; rw [HX2.out, HX1.out]; simp [leafM, tailM, wordA, bl]
  have e1 := HW2.out.2.2.2.cell (j := 1) rfl
  go_wp2_with fail
  refine (appendQuoted_core base v2 X2 s w2 HW2.out.1 (by omega) (by omega) (by omega)).mono ?_
  rintro e w9 ⟨v9, rfl, hO9, hF9⟩
  have HR : Hid (AppP base (l ++ leafM ⟨4, s, hi, t, lo, up, n⟩) w (.returned v9) w9) := ⟨v9, rfl, by rw [HL.out]; exact hO9, HW2.out.2.1.trans hF9⟩
  clear hO9 hF9
  go_wp2_with fail
  go_ret
  exact HR.out
set_option maxHeartbeats 4000000 in
theorem appendLeaf_5 (base : Nat) (v : Value) (l : List UInt8) (s : ByteArray) (hi : Bool) (t : ByteArray) (lo up n : Int) (w : World) (hg : GoodN ⟨5, s, hi, t, lo, up, n⟩) (hn : NumN ⟨5, s, hi, t, lo, up, n⟩) (hO : OwnS w base v l) (hl : l.length ≤ 1000) (hb : base ≤ w.heap.size) (hG : Gl w) (hB : 7 ≤ base) :
    Calls Tryz.prog 76 #[v, .agg #[.int .i64 5, .string s, .bool hi, .string t, .int .u64 lo, .int .u64 up, .int .i64 n]] w (AppP base (l ++ leafM ⟨5, s, hi, t, lo, up, n⟩) w) := by
  have HG : Hid (GoodN ⟨5, s, hi, t, lo, up, n⟩) := hg
  obtain ⟨g0, g1, _, _⟩ := hg
  simp only at g0 g1
  obtain ⟨W0, hW0⟩ : ∃ W0 : World, W0 = w.alloc (Obj.cells #[.int .i64 5, .string s, .bool hi, .string t, .int .u64 lo, .int .u64 up, .int .i64 n] 65) := ⟨_, rfl⟩
  have hb0 : Below w.heap.size w W0 := by rw [hW0]; exact (Below.refl _ _).alloc (Nat.le_refl _) _
  have s0 := hb0.size
  have HW0 : Hid (OwnS W0 base v l ∧ Fr base w W0 ∧ Gl W0 ∧ BoxAt W0 w.heap.size 65 7 w.heap.size [.int .i64 5, .string s, .bool hi, .string t, .int .u64 lo, .int .u64 up, .int .i64 n]) := by
    refine ⟨hO.below hb0, (Fr.refl _ _).step hb0 hb, hG.on hb0 (by omega), ?_⟩
    rw [hW0]; exact boxAt_new w _ (Nat.le_refl _) rfl
  have c0 := HW0.out.2.2.2.cell (j := 0) rfl
  have gw : W0.cell? ⟨0, 5, none⟩ = some (.string ⟨#[102, 97, 109]⟩) := HW0.out.2.2.1.words 5 (by omega)
  clear hb0 hO hG
  go_enter Tryz.func76, Tryz.ntmps76
  go_upto_region 1 with fail
  rw [← hW0]
  clear hW0
  go_wp2_with (at_builtin; refine wpList_append_st _ rfl _ _ rfl base v l ⟨#[102, 97, 109]⟩ rfl rfl HW0.out.1 ?hl ?hb ?_)
  case hl => first | omega | (show l.length + 3 ≤ _; omega)
  case hb => omega
  intro v1 w1 hO1 hgr1
  have hgr2 : W0.grownBy w1 v.ownBlock := hgr1
  obtain ⟨X1, hX1⟩ : ∃ X1 : List UInt8, X1 = l ++ [102, 97, 109] := ⟨_, rfl⟩
  have hO1' : OwnS w1 base v1 X1 := by rw [hX1]; exact hO1
  have x1 : X1.length ≤ l.length + 3 := by rw [hX1, List.length_append]; exact Nat.le_refl _
  have HX1 : Hid (X1 = l ++ [102, 97, 109]) := hX1
  clear hX1
  have hF1 := HW0.out.1.nextF HW0.out.2.1 (by omega) hgr2
  have HW1 : Hid (OwnS w1 base v1 X1 ∧ Fr base w w1 ∧ Gl w1 ∧ BoxAt w1 w.heap.size 65 7 w.heap.size [.int .i64 5, .string s, .bool hi, .string t, .int .u64 lo, .int .u64 up, .int .i64 n]) := by
    have hF01 : Fr base W0 w1 := HW0.out.1.nextF (Fr.refl _ _) (by omega) hgr2
    exact ⟨hO1', hF1, HW0.out.2.2.1.on hF01.below hB, hF01.box HW0.out.2.2.2 (by decide)⟩
  have s1 := hgr2.size
  clear hO1 hO1' hgr1 hgr2 c0 gw hF1
  have c0 := HW1.out.2.2.2.cell (j := 0) rfl
  obtain ⟨W1, hW1⟩ : ∃ W1 : World, W1 = w1.alloc (Obj.cells #[.int .u8 32] 5) := ⟨_, rfl⟩
  have hb1 : Below w1.heap.size w1 W1 := by rw [hW1]; exact (Below.refl _ _).alloc (Nat.le_refl _) _
  have t1 := hb1.size
  have HV1 : Hid (OwnS W1 base v1 X1 ∧ Fr base w W1 ∧ BysAt W1 w1.heap.size 0 [32] ∧ Gl W1 ∧ BoxAt W1 w.heap.size 65 7 w.heap.size [.int .i64 5, .string s, .bool hi, .string t, .int .u64 lo, .int .u64 up, .int .i64 n]) := by
    refine ⟨HW1.out.1.below hb1, HW1.out.2.1.step hb1 (by omega), ?_, HW1.out.2.2.1.on hb1 (by omega), HW1.out.2.2.2.below hb1⟩
    rw [hW1]; exact bys_new w1 _ [32] rfl
  clear hb1
  go_wp2_with (at_builtin; (try rw [← hW1]); refine wpList_append_ys _ rfl _ _ rfl base w1.heap.size 0 1 1 v1 X1 [32] rfl rfl rfl HV1.out.1 HV1.out.2.2.1 ?hl ?hb ?_)
  case hl => first | omega | (show X1.length + 1 ≤ _; omega)
  case hb => omega
  intro v2 w2 hO2 hgr2
  have hgr2 : W1.grownBy w2 v1.ownBlock := by first | exact hgr2 | (rw [hW1]; exact hgr2)
  obtain ⟨X2, hX2⟩ : ∃ X2 : List UInt8, X2 = X1 ++ [32] := ⟨_, rfl⟩
  have hO' : OwnS w2 base v2 X2 := by rw [hX2]; exact hO2
  have x2 : X2.length ≤ X1.length + 1 := by rw [hX2, List.length_append]; exact Nat.le_refl _
  have HX2 : Hid (X2 = X1 ++ [32]) := hX2
  clear hX2
  have HW2 : Hid (OwnS w2 base v2 X2 ∧ Fr base w w2 ∧ Gl w2 ∧ BoxAt w2 w.heap.size 65 7 w.heap.size [.int .i64 5, .string s, .bool hi, .string t, .int .u64 lo, .int .u64 up, .int .i64 n]) := by
    have hF01 : Fr base W1 w2 := HV1.out.1.nextF (Fr.refl _ _) (by omega) hgr2
    exact ⟨hO', HV1.out.2.1.trans hF01, HV1.out.2.2.2.1.on hF01.below hB, hF01.box HV1.out.2.2.2.2 (by decide)⟩
  have s2 := hgr2.size
  clear hO2 hO' hgr2
  try clear hgr2
  try clear hW1
  try clear c0
  have HL : Hid (l ++ leafM ⟨5, s, hi, t, lo, up, n⟩ = X2 ++ quoM (bl s)) := by show _ = _; rw [HX2.out, HX1.out]; simp [leafM, tailM, wordA, bl]
  have e1 := HW2.out.2.2.2.cell (j := 1) rfl
  go_wp2_with fail
  refine (appendQuoted_core base v2 X2 s w2 HW2.out.1 (by omega) (by omega) (by omega)).mono ?_
  rintro e w9 ⟨v9, rfl, hO9, hF9⟩
  have HR : Hid (AppP base (l ++ leafM ⟨5, s, hi, t, lo, up, n⟩) w (.returned v9) w9) := ⟨v9, rfl, by rw [HL.out]; exact hO9, HW2.out.2.1.trans hF9⟩
  clear hO9 hF9
  go_wp2_with fail
  go_ret
  exact HR.out
set_option maxHeartbeats 4000000 in
theorem appendLeaf_6 (base : Nat) (v : Value) (l : List UInt8) (s : ByteArray) (hi : Bool) (t : ByteArray) (lo up n : Int) (w : World) (hg : GoodN ⟨6, s, hi, t, lo, up, n⟩) (hn : NumN ⟨6, s, hi, t, lo, up, n⟩) (hO : OwnS w base v l) (hl : l.length ≤ 1000) (hb : base ≤ w.heap.size) (hG : Gl w) (hB : 7 ≤ base) :
    Calls Tryz.prog 76 #[v, .agg #[.int .i64 6, .string s, .bool hi, .string t, .int .u64 lo, .int .u64 up, .int .i64 n]] w (AppP base (l ++ leafM ⟨6, s, hi, t, lo, up, n⟩) w) := by
  have HG : Hid (GoodN ⟨6, s, hi, t, lo, up, n⟩) := hg
  obtain ⟨g0, g1, _, _⟩ := hg
  simp only at g0 g1
  obtain ⟨W0, hW0⟩ : ∃ W0 : World, W0 = w.alloc (Obj.cells #[.int .i64 6, .string s, .bool hi, .string t, .int .u64 lo, .int .u64 up, .int .i64 n] 65) := ⟨_, rfl⟩
  have hb0 : Below w.heap.size w W0 := by rw [hW0]; exact (Below.refl _ _).alloc (Nat.le_refl _) _
  have s0 := hb0.size
  have HW0 : Hid (OwnS W0 base v l ∧ Fr base w W0 ∧ Gl W0 ∧ BoxAt W0 w.heap.size 65 7 w.heap.size [.int .i64 6, .string s, .bool hi, .string t, .int .u64 lo, .int .u64 up, .int .i64 n]) := by
    refine ⟨hO.below hb0, (Fr.refl _ _).step hb0 hb, hG.on hb0 (by omega), ?_⟩
    rw [hW0]; exact boxAt_new w _ (Nat.le_refl _) rfl
  have c0 := HW0.out.2.2.2.cell (j := 0) rfl
  have gw : W0.cell? ⟨0, 6, none⟩ = some (.string ⟨#[113, 117, 97, 108]⟩) := HW0.out.2.2.1.words 6 (by omega)
  clear hb0 hO hG
  go_enter Tryz.func76, Tryz.ntmps76
  go_upto_region 1 with fail
  rw [← hW0]
  clear hW0
  go_wp2_with (at_builtin; refine wpList_append_st _ rfl _ _ rfl base v l ⟨#[113, 117, 97, 108]⟩ rfl rfl HW0.out.1 ?hl ?hb ?_)
  case hl => first | omega | (show l.length + 4 ≤ _; omega)
  case hb => omega
  intro v1 w1 hO1 hgr1
  have hgr2 : W0.grownBy w1 v.ownBlock := hgr1
  obtain ⟨X1, hX1⟩ : ∃ X1 : List UInt8, X1 = l ++ [113, 117, 97, 108] := ⟨_, rfl⟩
  have hO1' : OwnS w1 base v1 X1 := by rw [hX1]; exact hO1
  have x1 : X1.length ≤ l.length + 4 := by rw [hX1, List.length_append]; exact Nat.le_refl _
  have HX1 : Hid (X1 = l ++ [113, 117, 97, 108]) := hX1
  clear hX1
  have hF1 := HW0.out.1.nextF HW0.out.2.1 (by omega) hgr2
  have HW1 : Hid (OwnS w1 base v1 X1 ∧ Fr base w w1 ∧ Gl w1 ∧ BoxAt w1 w.heap.size 65 7 w.heap.size [.int .i64 6, .string s, .bool hi, .string t, .int .u64 lo, .int .u64 up, .int .i64 n]) := by
    have hF01 : Fr base W0 w1 := HW0.out.1.nextF (Fr.refl _ _) (by omega) hgr2
    exact ⟨hO1', hF1, HW0.out.2.2.1.on hF01.below hB, hF01.box HW0.out.2.2.2 (by decide)⟩
  have s1 := hgr2.size
  clear hO1 hO1' hgr1 hgr2 c0 gw hF1
  have c0 := HW1.out.2.2.2.cell (j := 0) rfl
  obtain ⟨W1, hW1⟩ : ∃ W1 : World, W1 = w1.alloc (Obj.cells #[.int .u8 32] 5) := ⟨_, rfl⟩
  have hb1 : Below w1.heap.size w1 W1 := by rw [hW1]; exact (Below.refl _ _).alloc (Nat.le_refl _) _
  have t1 := hb1.size
  have HV1 : Hid (OwnS W1 base v1 X1 ∧ Fr base w W1 ∧ BysAt W1 w1.heap.size 0 [32] ∧ Gl W1 ∧ BoxAt W1 w.heap.size 65 7 w.heap.size [.int .i64 6, .string s, .bool hi, .string t, .int .u64 lo, .int .u64 up, .int .i64 n]) := by
    refine ⟨HW1.out.1.below hb1, HW1.out.2.1.step hb1 (by omega), ?_, HW1.out.2.2.1.on hb1 (by omega), HW1.out.2.2.2.below hb1⟩
    rw [hW1]; exact bys_new w1 _ [32] rfl
  clear hb1
  go_wp2_with (at_builtin; (try rw [← hW1]); refine wpList_append_ys _ rfl _ _ rfl base w1.heap.size 0 1 1 v1 X1 [32] rfl rfl rfl HV1.out.1 HV1.out.2.2.1 ?hl ?hb ?_)
  case hl => first | omega | (show X1.length + 1 ≤ _; omega)
  case hb => omega
  intro v2 w2 hO2 hgr2
  have hgr2 : W1.grownBy w2 v1.ownBlock := by first | exact hgr2 | (rw [hW1]; exact hgr2)
  obtain ⟨X2, hX2⟩ : ∃ X2 : List UInt8, X2 = X1 ++ [32] := ⟨_, rfl⟩
  have hO' : OwnS w2 base v2 X2 := by rw [hX2]; exact hO2
  have x2 : X2.length ≤ X1.length + 1 := by rw [hX2, List.length_append]; exact Nat.le_refl _
  have HX2 : Hid (X2 = X1 ++ [32]) := hX2
  clear hX2
  have HW2 : Hid (OwnS w2 base v2 X2 ∧ Fr base w w2 ∧ Gl w2 ∧ BoxAt w2 w.heap.size 65 7 w.heap.size [.int .i64 6, .string s, .bool hi, .string t, .int .u64 lo, .int .u64 up, .int .i64 n]) := by
    have hF01 : Fr base W1 w2 := HV1.out.1.nextF (Fr.refl _ _) (by omega) hgr2
    exact ⟨hO', HV1.out.2.1.trans hF01, HV1.out.2.2.2.1.on hF01.below hB, hF01.box HV1.out.2.2.2.2 (by decide)⟩
  have s2 := hgr2.size
  clear hO2 hO' hgr2
  try clear hgr2
  try clear hW1
  try clear c0
  have HL : Hid (l ++ leafM ⟨6, s, hi, t, lo, up, n⟩ = X2 ++ quoM (bl s)) := by show _ = _; rw [HX2.out, HX1.out]; simp [leafM, tailM, wordA, bl]
  have e1 := HW2.out.2.2.2.cell (j := 1) rfl
  go_wp2_with fail
  refine (appendQuoted_core base v2 X2 s w2 HW2.out.1 (by omega) (by omega) (by omega)).mono ?_
  rintro e w9 ⟨v9, rfl, hO9, hF9⟩
  have HR : Hid (AppP base (l ++ leafM ⟨6, s, hi, t, lo, up, n⟩) w (.returned v9) w9) := ⟨v9, rfl, by rw [HL.out]; exact hO9, HW2.out.2.1.trans hF9⟩
  clear hO9 hF9
  go_wp2_with fail
  go_ret
  exact HR.out
set_option maxHeartbeats 4000000 in
theorem appendLeaf_7 (base : Nat) (v : Value) (l : List UInt8) (s : ByteArray) (hi : Bool) (t : ByteArray) (lo up n : Int) (w : World) (hg : GoodN ⟨7, s, hi, t, lo, up, n⟩) (hn : NumN ⟨7, s, hi, t, lo, up, n⟩) (hO : OwnS w base v l) (hl : l.length ≤ 1000) (hb : base ≤ w.heap.size) (hG : Gl w) (hB : 7 ≤ base) :
    Calls Tryz.prog 76 #[v, .agg #[.int .i64 7, .string s, .bool hi, .string t, .int .u64 lo, .int .u64 up, .int .i64 n]] w (AppP base (l ++ leafM ⟨7, s, hi, t, lo, up, n⟩) w) := by
  have HG : Hid (GoodN ⟨7, s, hi, t, lo, up, n⟩) := hg
  obtain ⟨g0, g1, _, _⟩ := hg
  simp only at g0 g1
  obtain ⟨W0, hW0⟩ : ∃ W0 : World, W0 = w.alloc (Obj.cells #[.int .i64 7, .string s, .bool hi, .string t, .int .u64 lo, .int .u64 up, .int .i64 n] 65) := ⟨_, rfl⟩
  have hb0 : Below w.heap.size w W0 := by rw [hW0]; exact (Below.refl _ _).alloc (Nat.le_refl _) _
  have s0 := hb0.size
  have HW0 : Hid (OwnS W0 base v l ∧ Fr base w W0 ∧ Gl W0 ∧ BoxAt W0 w.heap.size 65 7 w.heap.size [.int .i64 7, .string s, .bool hi, .string t, .int .u64 lo, .int .u64 up, .int .i64 n]) := by
    refine ⟨hO.below hb0, (Fr.refl _ _).step hb0 hb, hG.on hb0 (by omega), ?_⟩
    rw [hW0]; exact boxAt_new w _ (Nat.le_refl _) rfl
  have c0 := HW0.out.2.2.2.cell (j := 0) rfl
  have gw : W0.cell? ⟨0, 7, none⟩ = some (.string ⟨#[118, 97, 108]⟩) := HW0.out.2.2.1.words 7 (by omega)
  clear hb0 hO hG
  go_enter Tryz.func76, Tryz.ntmps76
  go_upto_region 1 with fail
  rw [← hW0]
  clear hW0
  go_wp2_with (at_builtin; refine wpList_append_st _ rfl _ _ rfl base v l ⟨#[118, 97, 108]⟩ rfl rfl HW0.out.1 ?hl ?hb ?_)
  case hl => first | omega | (show l.length + 3 ≤ _; omega)
  case hb => omega
  intro v1 w1 hO1 hgr1
  have hgr2 : W0.grownBy w1 v.ownBlock := hgr1
  obtain ⟨X1, hX1⟩ : ∃ X1 : List UInt8, X1 = l ++ [118, 97, 108] := ⟨_, rfl⟩
  have hO1' : OwnS w1 base v1 X1 := by rw [hX1]; exact hO1
  have x1 : X1.length ≤ l.length + 3 := by rw [hX1, List.length_append]; exact Nat.le_refl _
  have HX1 : Hid (X1 = l ++ [118, 97, 108]) := hX1
  clear hX1
  have hF1 := HW0.out.1.nextF HW0.out.2.1 (by omega) hgr2
  have HW1 : Hid (OwnS w1 base v1 X1 ∧ Fr base w w1 ∧ Gl w1 ∧ BoxAt w1 w.heap.size 65 7 w.heap.size [.int .i64 7, .string s, .bool hi, .string t, .int .u64 lo, .int .u64 up, .int .i64 n]) := by
    have hF01 : Fr base W0 w1 := HW0.out.1.nextF (Fr.refl _ _) (by omega) hgr2
    exact ⟨hO1', hF1, HW0.out.2.2.1.on hF01.below hB, hF01.box HW0.out.2.2.2 (by decide)⟩
  have s1 := hgr2.size
  clear hO1 hO1' hgr1 hgr2 c0 gw hF1
  have c0 := HW1.out.2.2.2.cell (j := 0) rfl
  obtain ⟨W1, hW1⟩ : ∃ W1 : World, W1 = w1.alloc (Obj.cells #[.int .u8 32] 5) := ⟨_, rfl⟩
  have hb1 : Below w1.heap.size w1 W1 := by rw [hW1]; exact (Below.refl _ _).alloc (Nat.le_refl _) _
  have t1 := hb1.size
  have HV1 : Hid (OwnS W1 base v1 X1 ∧ Fr base w W1 ∧ BysAt W1 w1.heap.size 0 [32] ∧ Gl W1 ∧ BoxAt W1 w.heap.size 65 7 w.heap.size [.int .i64 7, .string s, .bool hi, .string t, .int .u64 lo, .int .u64 up, .int .i64 n]) := by
    refine ⟨HW1.out.1.below hb1, HW1.out.2.1.step hb1 (by omega), ?_, HW1.out.2.2.1.on hb1 (by omega), HW1.out.2.2.2.below hb1⟩
    rw [hW1]; exact bys_new w1 _ [32] rfl
  clear hb1
  go_wp2_with (at_builtin; (try rw [← hW1]); refine wpList_append_ys _ rfl _ _ rfl base w1.heap.size 0 1 1 v1 X1 [32] rfl rfl rfl HV1.out.1 HV1.out.2.2.1 ?hl ?hb ?_)
  case hl => first | omega | (show X1.length + 1 ≤ _; omega)
  case hb => omega
  intro v2 w2 hO2 hgr2
  have hgr2 : W1.grownBy w2 v1.ownBlock := by first | exact hgr2 | (rw [hW1]; exact hgr2)
  obtain ⟨X2, hX2⟩ : ∃ X2 : List UInt8, X2 = X1 ++ [32] := ⟨_, rfl⟩
  have hO' : OwnS w2 base v2 X2 := by rw [hX2]; exact hO2
  have x2 : X2.length ≤ X1.length + 1 := by rw [hX2, List.length_append]; exact Nat.le_refl _
  have HX2 : Hid (X2 = X1 ++ [32]) := hX2
  clear hX2
  have HW2 : Hid (OwnS w2 base v2 X2 ∧ Fr base w w2 ∧ Gl w2 ∧ BoxAt w2 w.heap.size 65 7 w.heap.size [.int .i64 7, .string s, .bool hi, .string t, .int .u64 lo, .int .u64 up, .int .i64 n]) := by
    have hF01 : Fr base W1 w2 := HV1.out.1.nextF (Fr.refl _ _) (by omega) hgr2
    exact ⟨hO', HV1.out.2.1.trans hF01, HV1.out.2.2.2.1.on hF01.below hB, hF01.box HV1.out.2.2.2.2 (by decide)⟩
  have s2 := hgr2.size
  clear hO2 hO' hgr2
  try clear hgr2
  try clear hW1
  try clear c0
  have HL : Hid (l ++ leafM ⟨7, s, hi, t, lo, up, n⟩ = X2 ++ quoM (bl s)) := by show _ = _; rw [HX2.out, HX1.out]; simp [leafM, tailM, wordA, bl]
  have e1 := HW2.out.2.2.2.cell (j := 1) rfl
  go_wp2_with fail
  refine (appendQuoted_core base v2 X2 s w2 HW2.out.1 (by omega) (by omega) (by omega)).mono ?_
  rintro e w9 ⟨v9, rfl, hO9, hF9⟩
  have HR : Hid (AppP base (l ++ leafM ⟨7, s, hi, t, lo, up, n⟩) w (.returned v9) w9) := ⟨v9, rfl, by rw [HL.out]; exact hO9, HW2.out.2.1.trans hF9⟩
  clear hO9 hF9
  go_wp2_with fail
  go_ret
  exact HR.out
set_option maxHeartbeats 4000000 in
theorem appendLeaf_8 (base : Nat) (v : Value) (l : List UInt8) (s : ByteArray) (hi : Bool) (t : ByteArray) (lo up n : Int) (w : World) (hg : GoodN ⟨8, s, hi, t, lo, up, n⟩) (hn : NumN ⟨8, s, hi, t, lo, up, n⟩) (hO : OwnS w base v l) (hl : l.length ≤ 1000) (hb : base ≤ w.heap.size) (hG : Gl w) (hB : 7 ≤ base) :
    Calls Tryz.prog 76 #[v, .agg #[.int .i64 8, .string s, .bool hi, .string t, .int .u64 lo, .int .u64 up, .int .i64 n]] w (AppP base (l ++ leafM ⟨8, s, hi, t, lo, up, n⟩) w) := by
  have HG : Hid (GoodN ⟨8, s, hi, t, lo, up, n⟩) := hg
  obtain ⟨g0, g1, _, _⟩ := hg
  simp only at g0 g1
  obtain ⟨W0, hW0⟩ : ∃ W0 : World, W0 = w.alloc (Obj.cells #[.int .i64 8, .string s, .bool hi, .string t, .int .u64 lo, .int .u64 up, .int .i64 n] 65) := ⟨_, rfl⟩
  have hb0 : Below w.heap.size w W0 := by rw [hW0]; exact (Below.refl _ _).alloc (Nat.le_refl _) _
  have s0 := hb0.size
  have HW0 : Hid (OwnS W0 base v l ∧ Fr base w W0 ∧ Gl W0 ∧ BoxAt W0 w.heap.size 65 7 w.heap.size [.int .i64 8, .string s, .bool hi, .string t, .int .u64 lo, .int .u64 up, .int .i64 n]) := by
    refine ⟨hO.below hb0, (Fr.refl _ _).step hb0 hb, hG.on hb0 (by omega), ?_⟩
    rw [hW0]; exact boxAt_new w _ (Nat.le_refl _) rfl
  have c0 := HW0.out.2.2.2.cell (j := 0) rfl
  have gw : W0.cell? ⟨0, 8, none⟩ = some (.string ⟨#[114, 111, 119, 115]⟩) := HW0.out.2.2.1.words 8 (by omega)
  clear hb0 hO hG
  go_enter Tryz.func76, Tryz.ntmps76
  go_upto_region 1 with fail
  rw [← hW0]
  clear hW0
  go_wp2_with (at_builtin; refine wpList_append_st _ rfl _ _ rfl base v l ⟨#[114, 111, 119, 115]⟩ rfl rfl HW0.out.1 ?hl ?hb ?_)
  case hl => first | omega | (show l.length + 4 ≤ _; omega)
  case hb => omega
  intro v1 w1 hO1 hgr1
  have hgr2 : W0.grownBy w1 v.ownBlock := hgr1
  obtain ⟨X1, hX1⟩ : ∃ X1 : List UInt8, X1 = l ++ [114, 111, 119, 115] := ⟨_, rfl⟩
  have hO1' : OwnS w1 base v1 X1 := by rw [hX1]; exact hO1
  have x1 : X1.length ≤ l.length + 4 := by rw [hX1, List.length_append]; exact Nat.le_refl _
  have HX1 : Hid (X1 = l ++ [114, 111, 119, 115]) := hX1
  clear hX1
  have hF1 := HW0.out.1.nextF HW0.out.2.1 (by omega) hgr2
  have HW1 : Hid (OwnS w1 base v1 X1 ∧ Fr base w w1 ∧ Gl w1 ∧ BoxAt w1 w.heap.size 65 7 w.heap.size [.int .i64 8, .string s, .bool hi, .string t, .int .u64 lo, .int .u64 up, .int .i64 n]) := by
    have hF01 : Fr base W0 w1 := HW0.out.1.nextF (Fr.refl _ _) (by omega) hgr2
    exact ⟨hO1', hF1, HW0.out.2.2.1.on hF01.below hB, hF01.box HW0.out.2.2.2 (by decide)⟩
  have s1 := hgr2.size
  clear hO1 hO1' hgr1 hgr2 c0 gw hF1
  have c0 := HW1.out.2.2.2.cell (j := 0) rfl
  obtain ⟨W1, hW1⟩ : ∃ W1 : World, W1 = w1.alloc (Obj.cells #[.int .u8 32] 5) := ⟨_, rfl⟩
  have hb1 : Below w1.heap.size w1 W1 := by rw [hW1]; exact (Below.refl _ _).alloc (Nat.le_refl _) _
  have t1 := hb1.size
  have HV1 : Hid (OwnS W1 base v1 X1 ∧ Fr base w W1 ∧ BysAt W1 w1.heap.size 0 [32] ∧ Gl W1 ∧ BoxAt W1 w.heap.size 65 7 w.heap.size [.int .i64 8, .string s, .bool hi, .string t, .int .u64 lo, .int .u64 up, .int .i64 n]) := by
    refine ⟨HW1.out.1.below hb1, HW1.out.2.1.step hb1 (by omega), ?_, HW1.out.2.2.1.on hb1 (by omega), HW1.out.2.2.2.below hb1⟩
    rw [hW1]; exact bys_new w1 _ [32] rfl
  clear hb1
  go_wp2_with (at_builtin; (try rw [← hW1]); refine wpList_append_ys _ rfl _ _ rfl base w1.heap.size 0 1 1 v1 X1 [32] rfl rfl rfl HV1.out.1 HV1.out.2.2.1 ?hl ?hb ?_)
  case hl => first | omega | (show X1.length + 1 ≤ _; omega)
  case hb => omega
  intro v2 w2 hO2 hgr2
  have hgr2 : W1.grownBy w2 v1.ownBlock := by first | exact hgr2 | (rw [hW1]; exact hgr2)
  obtain ⟨X2, hX2⟩ : ∃ X2 : List UInt8, X2 = X1 ++ [32] := ⟨_, rfl⟩
  have hO' : OwnS w2 base v2 X2 := by rw [hX2]; exact hO2
  have x2 : X2.length ≤ X1.length + 1 := by rw [hX2, List.length_append]; exact Nat.le_refl _
  have HX2 : Hid (X2 = X1 ++ [32]) := hX2
  clear hX2
  have HW2 : Hid (OwnS w2 base v2 X2 ∧ Fr base w w2 ∧ Gl w2 ∧ BoxAt w2 w.heap.size 65 7 w.heap.size [.int .i64 8, .string s, .bool hi, .string t, .int .u64 lo, .int .u64 up, .int .i64 n]) := by
    have hF01 : Fr base W1 w2 := HV1.out.1.nextF (Fr.refl _ _) (by omega) hgr2
    exact ⟨hO', HV1.out.2.1.trans hF01, HV1.out.2.2.2.1.on hF01.below hB, hF01.box HV1.out.2.2.2.2 (by decide)⟩
  have s2 := hgr2.size
  clear hO2 hO' hgr2
  try clear hgr2
  try clear hW1
  try clear c0
  have n0 := hn.lo0
  have n1 := hn.lo1
  have n2 := hn.up0
  have n3 := hn.up1
  simp only at n0 n1 n2 n3
  have e1 := HW2.out.2.2.2.cell (j := 1) rfl
  have e4 := HW2.out.2.2.2.cell (j := 4) rfl
  have hln := endM_len (t := bl s) (n := lo) (by rw [bl_len]; exact g0) n0 n1
  go_wp2_with fail
  refine (appendEnd_core base v2 X2 s lo w2 HW2.out.1 (by omega) (by omega) n0 n1 (by omega) HW2.out.2.2.1).mono ?_
  rintro e w3 ⟨v3, rfl, hO3, hF3⟩
  have s3 := hF3.below.size
  obtain ⟨X3, hX3⟩ : ∃ X3 : List UInt8, X3 = X2 ++ endM (bl s) lo := ⟨_, rfl⟩
  have hO' : OwnS w3 base v3 X3 := by rw [hX3]; exact hO3
  have x3 : X3.length ≤ X2.length + 802 := by rw [hX3, List.length_append]; omega
  have HX3 : Hid (X3 = X2 ++ endM (bl s) lo) := hX3
  clear hX3
  have HW3 : Hid (OwnS w3 base v3 X3 ∧ Fr base w w3 ∧ Gl w3 ∧ BoxAt w3 w.heap.size 65 7 w.heap.size [.int .i64 8, .string s, .bool hi, .string t, .int .u64 lo, .int .u64 up, .int .i64 n]) := ⟨hO', HW2.out.2.1.trans hF3, HW2.out.2.2.1.on hF3.below hB, hF3.box HW2.out.2.2.2 (by decide)⟩
  clear hO3 hO' hF3 e1 e4
  go_wp2_with (at_builtin; refine wpList_append_st _ rfl _ _ rfl base v3 X3 ⟨#[46, 46]⟩ rfl rfl HW3.out.1 ?hl ?hb ?_)
  case hl => first | omega | (show X3.length + 2 ≤ _; omega)
  case hb => omega
  intro v4 w4 hO4 hgr2
  obtain ⟨X4, hX4⟩ : ∃ X4 : List UInt8, X4 = X3 ++ [46, 46] := ⟨_, rfl⟩
  have hO' : OwnS w4 base v4 X4 := by rw [hX4]; exact hO4
  have x4 : X4.length ≤ X3.length + 2 := by rw [hX4, List.length_append]; exact Nat.le_refl _
  have HX4 : Hid (X4 = X3 ++ [46, 46]) := hX4
  clear hX4
  have HW4 : Hid (OwnS w4 base v4 X4 ∧ Fr base w w4 ∧ Gl w4 ∧ BoxAt w4 w.heap.size 65 7 w.heap.size [.int .i64 8, .string s, .bool hi, .string t, .int .u64 lo, .int .u64 up, .int .i64 n]) := by
    have hF01 : Fr base w3 w4 := HW3.out.1.nextF (Fr.refl _ _) (by omega) hgr2
    exact ⟨hO', HW3.out.2.1.trans hF01, HW3.out.2.2.1.on hF01.below hB, hF01.box HW3.out.2.2.2 (by decide)⟩
  have s4 := hgr2.size
  clear hO4 hO' hgr2
  have HL : Hid (l ++ leafM ⟨8, s, hi, t, lo, up, n⟩ = X4 ++ endM (bl t) up) := by show _ = _; rw [HX4.out, HX3.out, HX2.out, HX1.out]; simp [leafM, tailM, wordA, bl]
  have e3 := HW4.out.2.2.2.cell (j := 3) rfl
  have e5 := HW4.out.2.2.2.cell (j := 5) rfl
  go_wp2_with fail
  refine (appendEnd_core base v4 X4 t up w4 HW4.out.1 (by omega) (by omega) n2 n3 (by omega) HW4.out.2.2.1).mono ?_
  rintro e w9 ⟨v9, rfl, hO9, hF9⟩
  have HR : Hid (AppP base (l ++ leafM ⟨8, s, hi, t, lo, up, n⟩) w (.returned v9) w9) := ⟨v9, rfl, by rw [HL.out]; exact hO9, HW4.out.2.1.trans hF9⟩
  clear hO9 hF9
  go_wp2_with fail
  go_ret
  exact HR.out
set_option maxHeartbeats 4000000 in
theorem appendLeaf_9 (base : Nat) (v : Value) (l : List UInt8) (s : ByteArray) (hi : Bool) (t : ByteArray) (lo up n : Int) (w : World) (hg : GoodN ⟨9, s, hi, t, lo, up, n⟩) (hn : NumN ⟨9, s, hi, t, lo, up, n⟩) (hO : OwnS w base v l) (hl : l.length ≤ 1000) (hb : base ≤ w.heap.size) (hG : Gl w) (hB : 7 ≤ base) :
    Calls Tryz.prog 76 #[v, .agg #[.int .i64 9, .string s, .bool hi, .string t, .int .u64 lo, .int .u64 up, .int .i64 n]] w (AppP base (l ++ leafM ⟨9, s, hi, t, lo, up, n⟩) w) := by
  have HG : Hid (GoodN ⟨9, s, hi, t, lo, up, n⟩) := hg
  obtain ⟨g0, g1, _, _⟩ := hg
  simp only at g0 g1
  obtain ⟨W0, hW0⟩ : ∃ W0 : World, W0 = w.alloc (Obj.cells #[.int .i64 9, .string s, .bool hi, .string t, .int .u64 lo, .int .u64 up, .int .i64 n] 65) := ⟨_, rfl⟩
  have hb0 : Below w.heap.size w W0 := by rw [hW0]; exact (Below.refl _ _).alloc (Nat.le_refl _) _
  have s0 := hb0.size
  have HW0 : Hid (OwnS W0 base v l ∧ Fr base w W0 ∧ Gl W0 ∧ BoxAt W0 w.heap.size 65 7 w.heap.size [.int .i64 9, .string s, .bool hi, .string t, .int .u64 lo, .int .u64 up, .int .i64 n]) := by
    refine ⟨hO.below hb0, (Fr.refl _ _).step hb0 hb, hG.on hb0 (by omega), ?_⟩
    rw [hW0]; exact boxAt_new w _ (Nat.le_refl _) rfl
  have c0 := HW0.out.2.2.2.cell (j := 0) rfl
  have gw : W0.cell? ⟨0, 9, none⟩ = some (.string ⟨#[113, 117, 97, 108, 115]⟩) := HW0.out.2.2.1.words 9 (by omega)
  clear hb0 hO hG
  go_enter Tryz.func76, Tryz.ntmps76
  go_upto_region 1 with fail
  rw [← hW0]
  clear hW0
  go_wp2_with (at_builtin; refine wpList_append_st _ rfl _ _ rfl base v l ⟨#[113, 117, 97, 108, 115]⟩ rfl rfl HW0.out.1 ?hl ?hb ?_)
  case hl => first | omega | (show l.length + 5 ≤ _; omega)
  case hb => omega
  intro v1 w1 hO1 hgr1
  have hgr2 : W0.grownBy w1 v.ownBlock := hgr1
  obtain ⟨X1, hX1⟩ : ∃ X1 : List UInt8, X1 = l ++ [113, 117, 97, 108, 115] := ⟨_, rfl⟩
  have hO1' : OwnS w1 base v1 X1 := by rw [hX1]; exact hO1
  have x1 : X1.length ≤ l.length + 5 := by rw [hX1, List.length_append]; exact Nat.le_refl _
  have HX1 : Hid (X1 = l ++ [113, 117, 97, 108, 115]) := hX1
  clear hX1
  have hF1 := HW0.out.1.nextF HW0.out.2.1 (by omega) hgr2
  have HW1 : Hid (OwnS w1 base v1 X1 ∧ Fr base w w1 ∧ Gl w1 ∧ BoxAt w1 w.heap.size 65 7 w.heap.size [.int .i64 9, .string s, .bool hi, .string t, .int .u64 lo, .int .u64 up, .int .i64 n]) := by
    have hF01 : Fr base W0 w1 := HW0.out.1.nextF (Fr.refl _ _) (by omega) hgr2
    exact ⟨hO1', hF1, HW0.out.2.2.1.on hF01.below hB, hF01.box HW0.out.2.2.2 (by decide)⟩
  have s1 := hgr2.size
  clear hO1 hO1' hgr1 hgr2 c0 gw hF1
  have c0 := HW1.out.2.2.2.cell (j := 0) rfl
  obtain ⟨W1, hW1⟩ : ∃ W1 : World, W1 = w1.alloc (Obj.cells #[.int .u8 32] 5) := ⟨_, rfl⟩
  have hb1 : Below w1.heap.size w1 W1 := by rw [hW1]; exact (Below.refl _ _).alloc (Nat.le_refl _) _
  have t1 := hb1.size
  have HV1 : Hid (OwnS W1 base v1 X1 ∧ Fr base w W1 ∧ BysAt W1 w1.heap.size 0 [32] ∧ Gl W1 ∧ BoxAt W1 w.heap.size 65 7 w.heap.size [.int .i64 9, .string s, .bool hi, .string t, .int .u64 lo, .int .u64 up, .int .i64 n]) := by
    refine ⟨HW1.out.1.below hb1, HW1.out.2.1.step hb1 (by omega), ?_, HW1.out.2.2.1.on hb1 (by omega), HW1.out.2.2.2.below hb1⟩
    rw [hW1]; exact bys_new w1 _ [32] rfl
  clear hb1
  go_wp2_with (at_builtin; (try rw [← hW1]); refine wpList_append_ys _ rfl _ _ rfl base w1.heap.size 0 1 1 v1 X1 [32] rfl rfl rfl HV1.out.1 HV1.out.2.2.1 ?hl ?hb ?_)
  case hl => first | omega | (show X1.length + 1 ≤ _; omega)
  case hb => omega
  intro v2 w2 hO2 hgr2
  have hgr2 : W1.grownBy w2 v1.ownBlock := by first | exact hgr2 | (rw [hW1]; exact hgr2)
  obtain ⟨X2, hX2⟩ : ∃ X2 : List UInt8, X2 = X1 ++ [32] := ⟨_, rfl⟩
  have hO' : OwnS w2 base v2 X2 := by rw [hX2]; exact hO2
  have x2 : X2.length ≤ X1.length + 1 := by rw [hX2, List.length_append]; exact Nat.le_refl _
  have HX2 : Hid (X2 = X1 ++ [32]) := hX2
  clear hX2
  have HW2 : Hid (OwnS w2 base v2 X2 ∧ Fr base w w2 ∧ Gl w2 ∧ BoxAt w2 w.heap.size 65 7 w.heap.size [.int .i64 9, .string s, .bool hi, .string t, .int .u64 lo, .int .u64 up, .int .i64 n]) := by
    have hF01 : Fr base W1 w2 := HV1.out.1.nextF (Fr.refl _ _) (by omega) hgr2
    exact ⟨hO', HV1.out.2.1.trans hF01, HV1.out.2.2.2.1.on hF01.below hB, hF01.box HV1.out.2.2.2.2 (by decide)⟩
  have s2 := hgr2.size
  clear hO2 hO' hgr2
  try clear hgr2
  try clear hW1
  try clear c0
  have n0 := hn.lo0
  have n1 := hn.lo1
  have n2 := hn.up0
  have n3 := hn.up1
  simp only at n0 n1 n2 n3
  have e1 := HW2.out.2.2.2.cell (j := 1) rfl
  have e4 := HW2.out.2.2.2.cell (j := 4) rfl
  have hln := endM_len (t := bl s) (n := lo) (by rw [bl_len]; exact g0) n0 n1
  go_wp2_with fail
  refine (appendEnd_core base v2 X2 s lo w2 HW2.out.1 (by omega) (by omega) n0 n1 (by omega) HW2.out.2.2.1).mono ?_
  rintro e w3 ⟨v3, rfl, hO3, hF3⟩
  have s3 := hF3.below.size
  obtain ⟨X3, hX3⟩ : ∃ X3 : List UInt8, X3 = X2 ++ endM (bl s) lo := ⟨_, rfl⟩
  have hO' : OwnS w3 base v3 X3 := by rw [hX3]; exact hO3
  have x3 : X3.length ≤ X2.length + 802 := by rw [hX3, List.length_append]; omega
  have HX3 : Hid (X3 = X2 ++ endM (bl s) lo) := hX3
  clear hX3
  have HW3 : Hid (OwnS w3 base v3 X3 ∧ Fr base w w3 ∧ Gl w3 ∧ BoxAt w3 w.heap.size 65 7 w.heap.size [.int .i64 9, .string s, .bool hi, .string t, .int .u64 lo, .int .u64 up, .int .i64 n]) := ⟨hO', HW2.out.2.1.trans hF3, HW2.out.2.2.1.on hF3.below hB, hF3.box HW2.out.2.2.2 (by decide)⟩
  clear hO3 hO' hF3 e1 e4
  go_wp2_with (at_builtin; refine wpList_append_st _ rfl _ _ rfl base v3 X3 ⟨#[46, 46]⟩ rfl rfl HW3.out.1 ?hl ?hb ?_)
  case hl => first | omega | (show X3.length + 2 ≤ _; omega)
  case hb => omega
  intro v4 w4 hO4 hgr2
  obtain ⟨X4, hX4⟩ : ∃ X4 : List UInt8, X4 = X3 ++ [46, 46] := ⟨_, rfl⟩
  have hO' : OwnS w4 base v4 X4 := by rw [hX4]; exact hO4
  have x4 : X4.length ≤ X3.length + 2 := by rw [hX4, List.length_append]; exact Nat.le_refl _
  have HX4 : Hid (X4 = X3 ++ [46, 46]) := hX4
  clear hX4
  have HW4 : Hid (OwnS w4 base v4 X4 ∧ Fr base w w4 ∧ Gl w4 ∧ BoxAt w4 w.heap.size 65 7 w.heap.size [.int .i64 9, .string s, .bool hi, .string t, .int .u64 lo, .int .u64 up, .int .i64 n]) := by
    have hF01 : Fr base w3 w4 := HW3.out.1.nextF (Fr.refl _ _) (by omega) hgr2
    exact ⟨hO', HW3.out.2.1.trans hF01, HW3.out.2.2.1.on hF01.below hB, hF01.box HW3.out.2.2.2 (by decide)⟩
  have s4 := hgr2.size
  clear hO4 hO' hgr2
  have HL : Hid (l ++ leafM ⟨9, s, hi, t, lo, up, n⟩ = X4 ++ endM (bl t) up) := by show _ = _; rw [HX4.out, HX3.out, HX2.out, HX1.out]; simp [leafM, tailM, wordA, bl]
  have e3 := HW4.out.2.2.2.cell (j := 3) rfl
  have e5 := HW4.out.2.2.2.cell (j := 5) rfl
  go_wp2_with fail
  refine (appendEnd_core base v4 X4 t up w4 HW4.out.1 (by omega) (by omega) n2 n3 (by omega) HW4.out.2.2.1).mono ?_
  rintro e w9 ⟨v9, rfl, hO9, hF9⟩
  have HR : Hid (AppP base (l ++ leafM ⟨9, s, hi, t, lo, up, n⟩) w (.returned v9) w9) := ⟨v9, rfl, by rw [HL.out]; exact hO9, HW4.out.2.1.trans hF9⟩
  clear hO9 hF9
  go_wp2_with fail
  go_ret
  exact HR.out
set_option maxHeartbeats 4000000 in
theorem appendLeaf_10 (base : Nat) (v : Value) (l : List UInt8) (s : ByteArray) (hi : Bool) (t : ByteArray) (lo up n : Int) (w : World) (hg : GoodN ⟨10, s, hi, t, lo, up, n⟩) (hn : NumN ⟨10, s, hi, t, lo, up, n⟩) (hO : OwnS w base v l) (hl : l.length ≤ 1000) (hb : base ≤ w.heap.size) (hG : Gl w) (hB : 7 ≤ base) :
    Calls Tryz.prog 76 #[v, .agg #[.int .i64 10, .string s, .bool hi, .string t, .int .u64 lo, .int .u64 up, .int .i64 n]] w (AppP base (l ++ leafM ⟨10, s, hi, t, lo, up, n⟩) w) := by
  have HG : Hid (GoodN ⟨10, s, hi, t, lo, up, n⟩) := hg
  obtain ⟨g0, g1, _, _⟩ := hg
  simp only at g0 g1
  obtain ⟨W0, hW0⟩ : ∃ W0 : World, W0 = w.alloc (Obj.cells #[.int .i64 10, .string s, .bool hi, .string t, .int .u64 lo, .int .u64 up, .int .i64 n] 65) := ⟨_, rfl⟩
  have hb0 : Below w.heap.size w W0 := by rw [hW0]; exact (Below.refl _ _).alloc (Nat.le_refl _) _
  have s0 := hb0.size
  have HW0 : Hid (OwnS W0 base v l ∧ Fr base w W0 ∧ Gl W0 ∧ BoxAt W0 w.heap.size 65 7 w.heap.size [.int .i64 10, .string s, .bool hi, .string t, .int .u64 lo, .int .u64 up, .int .i64 n]) := by
    refine ⟨hO.below hb0, (Fr.refl _ _).step hb0 hb, hG.on hb0 (by omega), ?_⟩
    rw [hW0]; exact boxAt_new w _ (Nat.le_refl _) rfl
  have c0 := HW0.out.2.2.2.cell (j := 0) rfl
  have gw : W0.cell? ⟨0, 10, none⟩ = some (.string ⟨#[116, 115]⟩) := HW0.out.2.2.1.words 10 (by omega)
  clear hb0 hO hG
  go_enter Tryz.func76, Tryz.ntmps76
  go_upto_region 1 with fail
  rw [← hW0]
  clear hW0
  go_wp2_with (at_builtin; refine wpList_append_st _ rfl _ _ rfl base v l ⟨#[116, 115]⟩ rfl rfl HW0.out.1 ?hl ?hb ?_)
  case hl => first | omega | (show l.length + 2 ≤ _; omega)
  case hb => omega
  intro v1 w1 hO1 hgr1
  have hgr2 : W0.grownBy w1 v.ownBlock := hgr1
  obtain ⟨X1, hX1⟩ : ∃ X1 : List UInt8, X1 = l ++ [116, 115] := ⟨_, rfl⟩
  have hO1' : OwnS w1 base v1 X1 := by rw [hX1]; exact hO1
  have x1 : X1.length ≤ l.length + 2 := by rw [hX1, List.length_append]; exact Nat.le_refl _
  have HX1 : Hid (X1 = l ++ [116, 115]) := hX1
  clear hX1
  have hF1 := HW0.out.1.nextF HW0.out.2.1 (by omega) hgr2
  have HW1 : Hid (OwnS w1 base v1 X1 ∧ Fr base w w1 ∧ Gl w1 ∧ BoxAt w1 w.heap.size 65 7 w.heap.size [.int .i64 10, .string s, .bool hi, .string t, .int .u64 lo, .int .u64 up, .int .i64 n]) := by
    have hF01 : Fr base W0 w1 := HW0.out.1.nextF (Fr.refl _ _) (by omega) hgr2
    exact ⟨hO1', hF1, HW0.out.2.2.1.on hF01.below hB, hF01.box HW0.out.2.2.2 (by decide)⟩
  have s1 := hgr2.size
  clear hO1 hO1' hgr1 hgr2 c0 gw hF1
  have c0 := HW1.out.2.2.2.cell (j := 0) rfl
  obtain ⟨W1, hW1⟩ : ∃ W1 : World, W1 = w1.alloc (Obj.cells #[.int .u8 32] 5) := ⟨_, rfl⟩
  have hb1 : Below w1.heap.size w1 W1 := by rw [hW1]; exact (Below.refl _ _).alloc (Nat.le_refl _) _
  have t1 := hb1.size
  have HV1 : Hid (OwnS W1 base v1 X1 ∧ Fr base w W1 ∧ BysAt W1 w1.heap.size 0 [32] ∧ Gl W1 ∧ BoxAt W1 w.heap.size 65 7 w.heap.size [.int .i64 10, .string s, .bool hi, .string t, .int .u64 lo, .int .u64 up, .int .i64 n]) := by
    refine ⟨HW1.out.1.below hb1, HW1.out.2.1.step hb1 (by omega), ?_, HW1.out.2.2.1.on hb1 (by omega), HW1.out.2.2.2.below hb1⟩
    rw [hW1]; exact bys_new w1 _ [32] rfl
  clear hb1
  go_wp2_with (at_builtin; (try rw [← hW1]); refine wpList_append_ys _ rfl _ _ rfl base w1.heap.size 0 1 1 v1 X1 [32] rfl rfl rfl HV1.out.1 HV1.out.2.2.1 ?hl ?hb ?_)
  case hl => first | omega | (show X1.length + 1 ≤ _; omega)
  case hb => omega
  intro v2 w2 hO2 hgr2
  have hgr2 : W1.grownBy w2 v1.ownBlock := by first | exact hgr2 | (rw [hW1]; exact hgr2)
  obtain ⟨X2, hX2⟩ : ∃ X2 : List UInt8, X2 = X1 ++ [32] := ⟨_, rfl⟩
  have hO' : OwnS w2 base v2 X2 := by rw [hX2]; exact hO2
  have x2 : X2.length ≤ X1.length + 1 := by rw [hX2, List.length_append]; exact Nat.le_refl _
  have HX2 : Hid (X2 = X1 ++ [32]) := hX2
  clear hX2
  have HW2 : Hid (OwnS w2 base v2 X2 ∧ Fr base w w2 ∧ Gl w2 ∧ BoxAt w2 w.heap.size 65 7 w.heap.size [.int .i64 10, .string s, .bool hi, .string t, .int .u64 lo, .int .u64 up, .int .i64 n]) := by
    have hF01 : Fr base W1 w2 := HV1.out.1.nextF (Fr.refl _ _) (by omega) hgr2
    exact ⟨hO', HV1.out.2.1.trans hF01, HV1.out.2.2.2.1.on hF01.below hB, hF01.box HV1.out.2.2.2.2 (by decide)⟩
  have s2 := hgr2.size
  clear hO2 hO' hgr2
  try clear hgr2
  try clear hW1
  try clear c0
  have n0 := hn.lo0
  have n1 := hn.lo1
  have n2 := hn.up0
  have n3 := hn.up1
  simp only at n0 n1 n2 n3
  have e1 := HW2.out.2.2.2.cell (j := 1) rfl
  have e4 := HW2.out.2.2.2.cell (j := 4) rfl
  have hln := endM_len (t := bl s) (n := lo) (by rw [bl_len]; exact g0) n0 n1
  go_wp2_with fail
  refine (appendEnd_core base v2 X2 s lo w2 HW2.out.1 (by omega) (by omega) n0 n1 (by omega) HW2.out.2.2.1).mono ?_
  rintro e w3 ⟨v3, rfl, hO3, hF3⟩
  have s3 := hF3.below.size
  obtain ⟨X3, hX3⟩ : ∃ X3 : List UInt8, X3 = X2 ++ endM (bl s) lo := ⟨_, rfl⟩
  have hO' : OwnS w3 base v3 X3 := by rw [hX3]; exact hO3
  have x3 : X3.length ≤ X2.length + 802 := by rw [hX3, List.length_append]; omega
  have HX3 : Hid (X3 = X2 ++ endM (bl s) lo) := hX3
  clear hX3
  have HW3 : Hid (OwnS w3 base v3 X3 ∧ Fr base w w3 ∧ Gl w3 ∧ BoxAt w3 w.heap.size 65 7 w.heap.size [.int .i64 10, .string s, .bool hi, .string t, .int .u64 lo, .int .u64 up, .int .i64 n]) := ⟨hO', HW2.out.2.1.trans hF3, HW2.out.2.2.1.on hF3.below hB, hF3.box HW2.out.2.2.2 (by decide)⟩
  clear hO3 hO' hF3 e1 e4
  go_wp2_with (at_builtin; refine wpList_append_st _ rfl _ _ rfl base v3 X3 ⟨#[46, 46]⟩ rfl rfl HW3.out.1 ?hl ?hb ?_)
  case hl => first | omega | (show X3.length + 2 ≤ _; omega)
  case hb => omega
  intro v4 w4 hO4 hgr2
  obtain ⟨X4, hX4⟩ : ∃ X4 : List UInt8, X4 = X3 ++ [46, 46] := ⟨_, rfl⟩
  have hO' : OwnS w4 base v4 X4 := by rw [hX4]; exact hO4
  have x4 : X4.length ≤ X3.length + 2 := by rw [hX4, List.length_append]; exact Nat.le_refl _
  have HX4 : Hid (X4 = X3 ++ [46, 46]) := hX4
  clear hX4
  have HW4 : Hid (OwnS w4 base v4 X4 ∧ Fr base w w4 ∧ Gl w4 ∧ BoxAt w4 w.heap.size 65 7 w.heap.size [.int .i64 10, .string s, .bool hi, .string t, .int .u64 lo, .int .u64 up, .int .i64 n]) := by
    have hF01 : Fr base w3 w4 := HW3.out.1.nextF (Fr.refl _ _) (by omega) hgr2
    exact ⟨hO', HW3.out.2.1.trans hF01, HW3.out.2.2.1.on hF01.below hB, hF01.box HW3.out.2.2.2 (by decide)⟩
  have s4 := hgr2.size
  clear hO4 hO' hgr2
  have HL : Hid (l ++ leafM ⟨10, s, hi, t, lo, up, n⟩ = X4 ++ endM (bl t) up) := by show _ = _; rw [HX4.out, HX3.out, HX2.out, HX1.out]; simp [leafM, tailM, wordA, bl]
  have e3 := HW4.out.2.2.2.cell (j := 3) rfl
  have e5 := HW4.out.2.2.2.cell (j := 5) rfl
  go_wp2_with fail
  refine (appendEnd_core base v4 X4 t up w4 HW4.out.1 (by omega) (by omega) n2 n3 (by omega) HW4.out.2.2.1).mono ?_
  rintro e w9 ⟨v9, rfl, hO9, hF9⟩
  have HR : Hid (AppP base (l ++ leafM ⟨10, s, hi, t, lo, up, n⟩) w (.returned v9) w9) := ⟨v9, rfl, by rw [HL.out]; exact hO9, HW4.out.2.1.trans hF9⟩
  clear hO9 hF9
  go_wp2_with fail
  go_ret
  exact HR.out
set_option maxHeartbeats 4000000 in
theorem appendLeaf_11 (base : Nat) (v : Value) (l : List UInt8) (s : ByteArray) (hi : Bool) (t : ByteArray) (lo up n : Int) (w : World) (hg : GoodN ⟨11, s, hi, t, lo, up, n⟩) (hn : NumN ⟨11, s, hi, t, lo, up, n⟩) (hO : OwnS w base v l) (hl : l.length ≤ 1000) (hb : base ≤ w.heap.size) (hG : Gl w) (hB : 7 ≤ base) :
    Calls Tryz.prog 76 #[v, .agg #[.int .i64 11, .string s, .bool hi, .string t, .int .u64 lo, .int .u64 up, .int .i64 n]] w (AppP base (l ++ leafM ⟨11, s, hi, t, lo, up, n⟩) w) := by
  have HG : Hid (GoodN ⟨11, s, hi, t, lo, up, n⟩) := hg
  obtain ⟨g0, g1, _, _⟩ := hg
  simp only at g0 g1
  obtain ⟨W0, hW0⟩ : ∃ W0 : World, W0 = w.alloc (Obj.cells #[.int .i64 11, .string s, .bool hi, .string t, .int .u64 lo, .int .u64 up, .int .i64 n] 65) := ⟨_, rfl⟩
  have hb0 : Below w.heap.size w W0 := by rw [hW0]; exact (Below.refl _ _).alloc (Nat.le_refl _) _
  have s0 := hb0.size
  have HW0 : Hid (OwnS W0 base v l ∧ Fr base w W0 ∧ Gl W0 ∧ BoxAt W0 w.heap.size 65 7 w.heap.size [.int .i64 11, .string s, .bool hi, .string t, .int .u64 lo, .int .u64 up, .int .i64 n]) := by
    refine ⟨hO.below hb0, (Fr.refl _ _).step hb0 hb, hG.on hb0 (by omega), ?_⟩
    rw [hW0]; exact boxAt_new w _ (Nat.le_refl _) rfl
  have c0 := HW0.out.2.2.2.cell (j := 0) rfl
  have gw : W0.cell? ⟨0, 11, none⟩ = some (.string ⟨#[118, 101, 114, 115, 105, 111, 110, 115]⟩) := HW0.out.2.2.1.words 11 (by omega)
  clear hb0 hO hG
  go_enter Tryz.func76, Tryz.ntmps76
  go_upto_region 1 with fail
  rw [← hW0]
  clear hW0
  go_wp2_with (at_builtin; refine wpList_append_st _ rfl _ _ rfl base v l ⟨#[118, 101, 114, 115, 105, 111, 110, 115]⟩ rfl rfl HW0.out.1 ?hl ?hb ?_)
  case hl => first | omega | (show l.length + 8 ≤ _; omega)
  case hb => omega
  intro v1 w1 hO1 hgr1
  have hgr2 : W0.grownBy w1 v.ownBlock := hgr1
  obtain ⟨X1, hX1⟩ : ∃ X1 : List UInt8, X1 = l ++ [118, 101, 114, 115, 105, 111, 110, 115] := ⟨_, rfl⟩
  have hO1' : OwnS w1 base v1 X1 := by rw [hX1]; exact hO1
  have x1 : X1.length ≤ l.length + 8 := by rw [hX1, List.length_append]; exact Nat.le_refl _
  have HX1 : Hid (X1 = l ++ [118, 101, 114, 115, 105, 111, 110, 115]) := hX1
  clear hX1
  have hF1 := HW0.out.1.nextF HW0.out.2.1 (by omega) hgr2
  have HW1 : Hid (OwnS w1 base v1 X1 ∧ Fr base w w1 ∧ Gl w1 ∧ BoxAt w1 w.heap.size 65 7 w.heap.size [.int .i64 11, .string s, .bool hi, .string t, .int .u64 lo, .int .u64 up, .int .i64 n]) := by
    have hF01 : Fr base W0 w1 := HW0.out.1.nextF (Fr.refl _ _) (by omega) hgr2
    exact ⟨hO1', hF1, HW0.out.2.2.1.on hF01.below hB, hF01.box HW0.out.2.2.2 (by decide)⟩
  have s1 := hgr2.size
  clear hO1 hO1' hgr1 hgr2 c0 gw hF1
  have c0 := HW1.out.2.2.2.cell (j := 0) rfl
  obtain ⟨W1, hW1⟩ : ∃ W1 : World, W1 = w1.alloc (Obj.cells #[.int .u8 32] 5) := ⟨_, rfl⟩
  have hb1 : Below w1.heap.size w1 W1 := by rw [hW1]; exact (Below.refl _ _).alloc (Nat.le_refl _) _
  have t1 := hb1.size
  have HV1 : Hid (OwnS W1 base v1 X1 ∧ Fr base w W1 ∧ BysAt W1 w1.heap.size 0 [32] ∧ Gl W1 ∧ BoxAt W1 w.heap.size 65 7 w.heap.size [.int .i64 11, .string s, .bool hi, .string t, .int .u64 lo, .int .u64 up, .int .i64 n]) := by
    refine ⟨HW1.out.1.below hb1, HW1.out.2.1.step hb1 (by omega), ?_, HW1.out.2.2.1.on hb1 (by omega), HW1.out.2.2.2.below hb1⟩
    rw [hW1]; exact bys_new w1 _ [32] rfl
  clear hb1
  go_wp2_with (at_builtin; (try rw [← hW1]); refine wpList_append_ys _ rfl _ _ rfl base w1.heap.size 0 1 1 v1 X1 [32] rfl rfl rfl HV1.out.1 HV1.out.2.2.1 ?hl ?hb ?_)
  case hl => first | omega | (show X1.length + 1 ≤ _; omega)
  case hb => omega
  intro v2 w2 hO2 hgr2
  have hgr2 : W1.grownBy w2 v1.ownBlock := by first | exact hgr2 | (rw [hW1]; exact hgr2)
  obtain ⟨X2, hX2⟩ : ∃ X2 : List UInt8, X2 = X1 ++ [32] := ⟨_, rfl⟩
  have hO' : OwnS w2 base v2 X2 := by rw [hX2]; exact hO2
  have x2 : X2.length ≤ X1.length + 1 := by rw [hX2, List.length_append]; exact Nat.le_refl _
  have HX2 : Hid (X2 = X1 ++ [32]) := hX2
  clear hX2
  have HW2 : Hid (OwnS w2 base v2 X2 ∧ Fr base w w2 ∧ Gl w2 ∧ BoxAt w2 w.heap.size 65 7 w.heap.size [.int .i64 11, .string s, .bool hi, .string t, .int .u64 lo, .int .u64 up, .int .i64 n]) := by
    have hF01 : Fr base W1 w2 := HV1.out.1.nextF (Fr.refl _ _) (by omega) hgr2
    exact ⟨hO', HV1.out.2.1.trans hF01, HV1.out.2.2.2.1.on hF01.below hB, hF01.box HV1.out.2.2.2.2 (by decide)⟩
  have s2 := hgr2.size
  clear hO2 hO' hgr2
  try clear hgr2
  try clear hW1
  try clear c0
  have hn1 : 1 ≤ n ∧ n ≤ 1000 := by
    obtain ⟨_, _, _, g3⟩ := HG.out
    simp only at g3
    omega
  obtain ⟨m, rfl⟩ := Int.eq_ofNat_of_zero_le (show 0 ≤ n by omega)
  have HL : Hid (l ++ leafM ⟨11, s, hi, t, lo, up, (m : Int)⟩ = X2 ++ Lib.decDigits m) := by show _ = _; rw [HX2.out, HX1.out]; simp [leafM, tailM, wordA, bl]
  have e6 := HW2.out.2.2.2.cell (j := 6) rfl
  go_wp2_with fail
  refine (appendInt_core base v2 X2 m w2 HW2.out.1 (by omega) (by omega) (by omega) HW2.out.2.2.1 hB).mono ?_
  rintro e w9 ⟨v9, rfl, hO9, hF9⟩
  have HR : Hid (AppP base (l ++ leafM ⟨11, s, hi, t, lo, up, (m : Int)⟩) w (.returned v9) w9) := ⟨v9, rfl, by rw [HL.out]; exact hO9, HW2.out.2.1.trans hF9⟩
  clear hO9 hF9
  go_wp2_with fail
  go_ret
  exact HR.out
set_option maxHeartbeats 4000000 in
theorem appendLeaf_12 (base : Nat) (v : Value) (l : List UInt8) (s : ByteArray) (hi : Bool) (t : ByteArray) (lo up n : Int) (w : World) (hg : GoodN ⟨12, s, hi, t, lo, up, n⟩) (hn : NumN ⟨12, s, hi, t, lo, up, n⟩) (hO : OwnS w base v l) (hl : l.length ≤ 1000) (hb : base ≤ w.heap.size) (hG : Gl w) (hB : 7 ≤ base) :
    Calls Tryz.prog 76 #[v, .agg #[.int .i64 12, .string s, .bool hi, .string t, .int .u64 lo, .int .u64 up, .int .i64 n]] w (AppP base (l ++ leafM ⟨12, s, hi, t, lo, up, n⟩) w) := by
  have HG : Hid (GoodN ⟨12, s, hi, t, lo, up, n⟩) := hg
  obtain ⟨g0, g1, _, _⟩ := hg
  simp only at g0 g1
  obtain ⟨W0, hW0⟩ : ∃ W0 : World, W0 = w.alloc (Obj.cells #[.int .i64 12, .string s, .bool hi, .string t, .int .u64 lo, .int .u64 up, .int .i64 n] 65) := ⟨_, rfl⟩
  have hb0 : Below w.heap.size w W0 := by rw [hW0]; exact (Below.refl _ _).alloc (Nat.le_refl _) _
  have s0 := hb0.size
  have HW0 : Hid (OwnS W0 base v l ∧ Fr base w W0 ∧ Gl W0 ∧ BoxAt W0 w.heap.size 65 7 w.heap.size [.int .i64 12, .string s, .bool hi, .string t, .int .u64 lo, .int .u64 up, .int .i64 n]) := by
    refine ⟨hO.below hb0, (Fr.refl _ _).step hb0 hb, hG.on hb0 (by omega), ?_⟩
    rw [hW0]; exact boxAt_new w _ (Nat.le_refl _) rfl
  have c0 := HW0.out.2.2.2.cell (j := 0) rfl
  have gw : W0.cell? ⟨0, 12, none⟩ = some (.string ⟨#[99, 101, 108, 108, 115]⟩) := HW0.out.2.2.1.words 12 (by omega)
  clear hb0 hO hG
  go_enter Tryz.func76, Tryz.ntmps76
  go_upto_region 1 with fail
  rw [← hW0]
  clear hW0
  go_wp2_with (at_builtin; refine wpList_append_st _ rfl _ _ rfl base v l ⟨#[99, 101, 108, 108, 115]⟩ rfl rfl HW0.out.1 ?hl ?hb ?_)
  case hl => first | omega | (show l.length + 5 ≤ _; omega)
  case hb => omega
  intro v1 w1 hO1 hgr1
  have hgr2 : W0.grownBy w1 v.ownBlock := hgr1
  obtain ⟨X1, hX1⟩ : ∃ X1 : List UInt8, X1 = l ++ [99, 101, 108, 108, 115] := ⟨_, rfl⟩
  have hO1' : OwnS w1 base v1 X1 := by rw [hX1]; exact hO1
  have x1 : X1.length ≤ l.length + 5 := by rw [hX1, List.length_append]; exact Nat.le_refl _
  have HX1 : Hid (X1 = l ++ [99, 101, 108, 108, 115]) := hX1
  clear hX1
  have hF1 := HW0.out.1.nextF HW0.out.2.1 (by omega) hgr2
  have HW1 : Hid (OwnS w1 base v1 X1 ∧ Fr base w w1 ∧ Gl w1 ∧ BoxAt w1 w.heap.size 65 7 w.heap.size [.int .i64 12, .string s, .bool hi, .string t, .int .u64 lo, .int .u64 up, .int .i64 n]) := by
    have hF01 : Fr base W0 w1 := HW0.out.1.nextF (Fr.refl _ _) (by omega) hgr2
    exact ⟨hO1', hF1, HW0.out.2.2.1.on hF01.below hB, hF01.box HW0.out.2.2.2 (by decide)⟩
  have s1 := hgr2.size
  clear hO1 hO1' hgr1 hgr2 c0 gw hF1
  have c0 := HW1.out.2.2.2.cell (j := 0) rfl
  obtain ⟨W1, hW1⟩ : ∃ W1 : World, W1 = w1.alloc (Obj.cells #[.int .u8 32] 5) := ⟨_, rfl⟩
  have hb1 : Below w1.heap.size w1 W1 := by rw [hW1]; exact (Below.refl _ _).alloc (Nat.le_refl _) _
  have t1 := hb1.size
  have HV1 : Hid (OwnS W1 base v1 X1 ∧ Fr base w W1 ∧ BysAt W1 w1.heap.size 0 [32] ∧ Gl W1 ∧ BoxAt W1 w.heap.size 65 7 w.heap.size [.int .i64 12, .string s, .bool hi, .string t, .int .u64 lo, .int .u64 up, .int .i64 n]) := by
    refine ⟨HW1.out.1.below hb1, HW1.out.2.1.step hb1 (by omega), ?_, HW1.out.2.2.1.on hb1 (by omega), HW1.out.2.2.2.below hb1⟩
    rw [hW1]; exact bys_new w1 _ [32] rfl
  clear hb1
  go_wp2_with (at_builtin; (try rw [← hW1]); refine wpList_append_ys _ rfl _ _ rfl base w1.heap.size 0 1 1 v1 X1 [32] rfl rfl rfl HV1.out.1 HV1.out.2.2.1 ?hl ?hb ?_)
  case hl => first | omega | (show X1.length + 1 ≤ _; omega)
  case hb => omega
  intro v2 w2 hO2 hgr2
  have hgr2 : W1.grownBy w2 v1.ownBlock := by first | exact hgr2 | (rw [hW1]; exact hgr2)
  obtain ⟨X2, hX2⟩ : ∃ X2 : List UInt8, X2 = X1 ++ [32] := ⟨_, rfl⟩
  have hO' : OwnS w2 base v2 X2 := by rw [hX2]; exact hO2
  have x2 : X2.length ≤ X1.length + 1 := by rw [hX2, List.length_append]; exact Nat.le_refl _
  have HX2 : Hid (X2 = X1 ++ [32]) := hX2
  clear hX2
  have HW2 : Hid (OwnS w2 base v2 X2 ∧ Fr base w w2 ∧ Gl w2 ∧ BoxAt w2 w.heap.size 65 7 w.heap.size [.int .i64 12, .string s, .bool hi, .string t, .int .u64 lo, .int .u64 up, .int .i64 n]) := by
    have hF01 : Fr base W1 w2 := HV1.out.1.nextF (Fr.refl _ _) (by omega) hgr2
    exact ⟨hO', HV1.out.2.1.trans hF01, HV1.out.2.2.2.1.on hF01.below hB, hF01.box HV1.out.2.2.2.2 (by decide)⟩
  have s2 := hgr2.size
  clear hO2 hO' hgr2
  try clear hgr2
  try clear hW1
  try clear c0
  have hn1 : 1 ≤ n ∧ n ≤ 1000 := by
    obtain ⟨_, _, _, g3⟩ := HG.out
    simp only at g3
    omega
  obtain ⟨m, rfl⟩ := Int.eq_ofNat_of_zero_le (show 0 ≤ n by omega)
  have HL : Hid (l ++ leafM ⟨12, s, hi, t, lo, up, (m : Int)⟩ = X2 ++ Lib.decDigits m) := by show _ = _; rw [HX2.out, HX1.out]; simp [leafM, tailM, wordA, bl]
  have e6 := HW2.out.2.2.2.cell (j := 6) rfl
  go_wp2_with fail
  refine (appendInt_core base v2 X2 m w2 HW2.out.1 (by omega) (by omega) (by omega) HW2.out.2.2.1 hB).mono ?_
  rintro e w9 ⟨v9, rfl, hO9, hF9⟩
  have HR : Hid (AppP base (l ++ leafM ⟨12, s, hi, t, lo, up, (m : Int)⟩) w (.returned v9) w9) := ⟨v9, rfl, by rw [HL.out]; exact hO9, HW2.out.2.1.trans hF9⟩
  clear hO9 hF9
  go_wp2_with fail
  go_ret
  exact HR.out
set_option maxHeartbeats 4000000 in
theorem appendLeaf_13 (base : Nat) (v : Value) (l : List UInt8) (s : ByteArray) (hi : Bool) (t : ByteArray) (lo up n : Int) (w : World) (hg : GoodN ⟨13, s, hi, t, lo, up, n⟩) (hn : NumN ⟨13, s, hi, t, lo, up, n⟩) (hO : OwnS w base v l) (hl : l.length ≤ 1000) (hb : base ≤ w.heap.size) (hG : Gl w) (hB : 7 ≤ base) :
    Calls Tryz.prog 76 #[v, .agg #[.int .i64 13, .string s, .bool hi, .string t, .int .u64 lo, .int .u64 up, .int .i64 n]] w (AppP base (l ++ leafM ⟨13, s, hi, t, lo, up, n⟩) w) := by
  have HG : Hid (GoodN ⟨13, s, hi, t, lo, up, n⟩) := hg
  obtain ⟨g0, g1, _, _⟩ := hg
  simp only at g0 g1
  obtain ⟨W0, hW0⟩ : ∃ W0 : World, W0 = w.alloc (Obj.cells #[.int .i64 13, .string s, .bool hi, .string t, .int .u64 lo, .int .u64 up, .int .i64 n] 65) := ⟨_, rfl⟩
  have hb0 : Below w.heap.size w W0 := by rw [hW0]; exact (Below.refl _ _).alloc (Nat.le_refl _) _
  have s0 := hb0.size
  have HW0 : Hid (OwnS W0 base v l ∧ Fr base w W0 ∧ Gl W0 ∧ BoxAt W0 w.heap.size 65 7 w.heap.size [.int .i64 13, .string s, .bool hi, .string t, .int .u64 lo, .int .u64 up, .int .i64 n]) := by
    refine ⟨hO.below hb0, (Fr.refl _ _).step hb0 hb, hG.on hb0 (by omega), ?_⟩
    rw [hW0]; exact boxAt_new w _ (Nat.le_refl _) rfl
  have c0 := HW0.out.2.2.2.cell (j := 0) rfl
  have gw : W0.cell? ⟨0, 13, none⟩ = some (.string ⟨#[115, 107, 105, 112]⟩) := HW0.out.2.2.1.words 13 (by omega)
  clear hb0 hO hG
  go_enter Tryz.func76, Tryz.ntmps76
  go_upto_region 1 with fail
  rw [← hW0]
  clear hW0
  go_wp2_with (at_builtin; refine wpList_append_st _ rfl _ _ rfl base v l ⟨#[115, 107, 105, 112]⟩ rfl rfl HW0.out.1 ?hl ?hb ?_)
  case hl => first | omega | (show l.length + 4 ≤ _; omega)
  case hb => omega
  intro v1 w1 hO1 hgr1
  have hgr2 : W0.grownBy w1 v.ownBlock := hgr1
  obtain ⟨X1, hX1⟩ : ∃ X1 : List UInt8, X1 = l ++ [115, 107, 105, 112] := ⟨_, rfl⟩
  have hO1' : OwnS w1 base v1 X1 := by rw [hX1]; exact hO1
  have x1 : X1.length ≤ l.length + 4 := by rw [hX1, List.length_append]; exact Nat.le_refl _
  have HX1 : Hid (X1 = l ++ [115, 107, 105, 112]) := hX1
  clear hX1
  have hF1 := HW0.out.1.nextF HW0.out.2.1 (by omega) hgr2
  have HW1 : Hid (OwnS w1 base v1 X1 ∧ Fr base w w1 ∧ Gl w1 ∧ BoxAt w1 w.heap.size 65 7 w.heap.size [.int .i64 13, .string s, .bool hi, .string t, .int .u64 lo, .int .u64 up, .int .i64 n]) := by
    have hF01 : Fr base W0 w1 := HW0.out.1.nextF (Fr.refl _ _) (by omega) hgr2
    exact ⟨hO1', hF1, HW0.out.2.2.1.on hF01.below hB, hF01.box HW0.out.2.2.2 (by decide)⟩
  have s1 := hgr2.size
  clear hO1 hO1' hgr1 hgr2 c0 gw hF1
  have c0 := HW1.out.2.2.2.cell (j := 0) rfl
  obtain ⟨W1, hW1⟩ : ∃ W1 : World, W1 = w1.alloc (Obj.cells #[.int .u8 32] 5) := ⟨_, rfl⟩
  have hb1 : Below w1.heap.size w1 W1 := by rw [hW1]; exact (Below.refl _ _).alloc (Nat.le_refl _) _
  have t1 := hb1.size
  have HV1 : Hid (OwnS W1 base v1 X1 ∧ Fr base w W1 ∧ BysAt W1 w1.heap.size 0 [32] ∧ Gl W1 ∧ BoxAt W1 w.heap.size 65 7 w.heap.size [.int .i64 13, .string s, .bool hi, .string t, .int .u64 lo, .int .u64 up, .int .i64 n]) := by
    refine ⟨HW1.out.1.below hb1, HW1.out.2.1.step hb1 (by omega), ?_, HW1.out.2.2.1.on hb1 (by omega), HW1.out.2.2.2.below hb1⟩
    rw [hW1]; exact bys_new w1 _ [32] rfl
  clear hb1
  go_wp2_with (at_builtin; (try rw [← hW1]); refine wpList_append_ys _ rfl _ _ rfl base w1.heap.size 0 1 1 v1 X1 [32] rfl rfl rfl HV1.out.1 HV1.out.2.2.1 ?hl ?hb ?_)
  case hl => first | omega | (show X1.length + 1 ≤ _; omega)
  case hb => omega
  intro v2 w2 hO2 hgr2
  have hgr2 : W1.grownBy w2 v1.ownBlock := by first | exact hgr2 | (rw [hW1]; exact hgr2)
  obtain ⟨X2, hX2⟩ : ∃ X2 : List UInt8, X2 = X1 ++ [32] := ⟨_, rfl⟩
  have hO' : OwnS w2 base v2 X2 := by rw [hX2]; exact hO2
  have x2 : X2.length ≤ X1.length + 1 := by rw [hX2, List.length_append]; exact Nat.le_refl _
  have HX2 : Hid (X2 = X1 ++ [32]) := hX2
  clear hX2
  have HW2 : Hid (OwnS w2 base v2 X2 ∧ Fr base w w2 ∧ Gl w2 ∧ BoxAt w2 w.heap.size 65 7 w.heap.size [.int .i64 13, .string s, .bool hi, .string t, .int .u64 lo, .int .u64 up, .int .i64 n]) := by
    have hF01 : Fr base W1 w2 := HV1.out.1.nextF (Fr.refl _ _) (by omega) hgr2
    exact ⟨hO', HV1.out.2.1.trans hF01, HV1.out.2.2.2.1.on hF01.below hB, hF01.box HV1.out.2.2.2.2 (by decide)⟩
  have s2 := hgr2.size
  clear hO2 hO' hgr2
  try clear hgr2
  try clear hW1
  try clear c0
  have hn1 : 1 ≤ n ∧ n ≤ 1000 := by
    obtain ⟨_, _, _, g3⟩ := HG.out
    simp only at g3
    omega
  obtain ⟨m, rfl⟩ := Int.eq_ofNat_of_zero_le (show 0 ≤ n by omega)
  have HL : Hid (l ++ leafM ⟨13, s, hi, t, lo, up, (m : Int)⟩ = X2 ++ Lib.decDigits m) := by show _ = _; rw [HX2.out, HX1.out]; simp [leafM, tailM, wordA, bl]
  have e6 := HW2.out.2.2.2.cell (j := 6) rfl
  go_wp2_with fail
  refine (appendInt_core base v2 X2 m w2 HW2.out.1 (by omega) (by omega) (by omega) HW2.out.2.2.1 hB).mono ?_
  rintro e w9 ⟨v9, rfl, hO9, hF9⟩
  have HR : Hid (AppP base (l ++ leafM ⟨13, s, hi, t, lo, up, (m : Int)⟩) w (.returned v9) w9) := ⟨v9, rfl, by rw [HL.out]; exact hO9, HW2.out.2.1.trans hF9⟩
  clear hO9 hF9
  go_wp2_with fail
  go_ret
  exact HR.out
theorem appendLeaf_core (base : Nat) (v : Value) (l : List UInt8) (e : Nd) (w : World) (hg : GoodN e) (hn : NumN e) (hk : arity e.kind = 0) (hO : OwnS w base v l) (hl : l.length ≤ 1000) (hb : base ≤ w.heap.size) (hG : Gl w) (hB : 7 ≤ base) :
    Calls Tryz.prog 76 #[v, e.v] w (AppP base (l ++ leafM e) w) := by
  obtain ⟨kind, s, hi, t, lo, up, n⟩ := e
  have h13 : kind = 1 ∨ kind = 2 ∨ kind = 3 ∨ kind = 4 ∨ kind = 5 ∨ kind = 6 ∨ kind = 7 ∨ kind = 8 ∨ kind = 9 ∨ kind = 10 ∨ kind = 11 ∨ kind = 12 ∨ kind = 13 := by
    obtain ⟨_, _, _, h⟩ := hg
    simp only at h hk
    unfold arity at hk
    by_cases q14 : kind = 14 ∨ kind = 15
    · rw [if_pos q14] at hk; cases hk
    · by_cases q16 : kind = 16
      · rw [if_neg q14, if_pos q16] at hk; cases hk
      · omega
  rcases h13 with rfl | rfl | rfl | rfl | rfl | rfl | rfl | rfl | rfl | rfl | rfl | rfl | rfl
  · exact appendLeaf_1 base v l s hi t lo up n w hg hn hO hl hb hG hB
  · exact appendLeaf_2 base v l s hi t lo up n w hg hn hO hl hb hG hB
  · exact appendLeaf_3 base v l s hi t lo up n w hg hn hO hl hb hG hB
  · exact appendLeaf_4 base v l s hi t lo up n w hg hn hO hl hb hG hB
  · exact appendLeaf_5 base v l s hi t lo up n w hg hn hO hl hb hG hB
  · exact appendLeaf_6 base v l s hi t lo up n w hg hn hO hl hb hG hB
  · exact appendLeaf_7 base v l s hi t lo up n w hg hn hO hl hb hG hB
  · exact appendLeaf_8 base v l s hi t lo up n w hg hn hO hl hb hG hB
  · exact appendLeaf_9 base v l s hi t lo up n w hg hn hO hl hb hG hB
  · exact appendLeaf_10 base v l s hi t lo up n w hg hn hO hl hb hG hB
  · exact appendLeaf_11 base v l s hi t lo up n w hg hn hO hl hb hG hB
  · exact appendLeaf_12 base v l s hi t lo up n w hg hn hO hl hb hG hB
  · exact appendLeaf_13 base v l s hi t lo up n w hg hn hO hl hb hG hB
end Go.Proofs.YtgnpcenpcmdlfaaGreatDoor
