import Derived.Lib.SlBytesRow
import Derived.Deep.DeepCutAuto
import Derived.Deep.QuietTactic
import Derived.BigQuiet
import Derived.Test.YtnncedndlhfdkabDoorPkAB
import Derived.Test.YtnncedndlhfdkabDoorPkAA
/-
  spec.l2GetStr, spec.l2GetFixed.
-/
namespace Go.Proofs.YtnncedndlhfdkabDoor
open Go.ChangeShapes Go.WideShapes Go.ChangeAt Go.RowKit Go.Deep
set_option linter.unusedVariables false
set_option linter.unusedSimpArgs false
set_option maxRecDepth 100000

theorem bytes_of_bys {w : World} {b off : Nat} {xs : List UInt8} (h : BysAt w b off xs) : Lib.Bytes w b off ⟨xs.toArray⟩ := by
  intro i hi
  have hi' : i < xs.length := by
    have h2 : (⟨xs.toArray⟩ : ByteArray).size = xs.length := by show xs.toArray.size = _; simp
    omega
  rw [h i xs[i] (List.getElem?_eq_getElem hi')]
  rfl
/-- A string read. -/
def GotStr (xs : List UInt8) (i : Nat) (bad : Bool) (i' : Nat) (bad' : Bool) (s : ByteArray) : Prop :=
  i' ≤ xs.length ∧ s.size ≤ xs.length ∧ ((bad' = true ∧ (rd xs i bad).bind getStr = none) ∨ (bad' = false ∧ (rd xs i bad).bind getStr = some (bl s, xs.drop i')))
def StrPost (w : World) (b off cap : Nat) (xs : List UInt8) (i : Nat) (bad : Bool) (r : Ending) (w' : World) : Prop :=
  ∃ (i' : Nat) (bad' : Bool) (s : ByteArray), r = .returned (.tuple #[rdV b off cap xs.length i' bad', .string s]) ∧ GotStr xs i bad i' bad' s ∧ Below w.heap.size w w'
theorem gotStr_bad {xs : List UInt8} {i : Nat} {bad : Bool} {i1 n : Nat} (h : GotNum xs i bad i1 true n) : (rd xs i bad).bind getStr = none := by
  rcases h.2.2 with ⟨_, q⟩ | ⟨q, _⟩
  · cases hr : rd xs i bad with
    | none => rfl
    | some ys =>
      rw [hr] at q
      simp only [Option.bind_some] at q ⊢
      unfold getStr
      rw [q]
  · cases q
theorem gotStr_of {xs : List UInt8} {i : Nat} {bad : Bool} {i1 n : Nat} (h : GotNum xs i bad i1 false n) : (rd xs i bad).bind getStr = if n ≤ (xs.drop i1).length then some ((xs.drop i1).take n, (xs.drop i1).drop n) else none := by
  rcases h.2.2 with ⟨q, _⟩ | ⟨_, q⟩
  · cases q
  · cases hr : rd xs i bad with
    | none => rw [hr] at q; cases q
    | some ys =>
      rw [hr] at q
      simp only [Option.bind_some] at q ⊢
      unfold getStr
      rw [q]

set_option maxHeartbeats 8000000 in
theorem l2GetStr_core (b off cap : Nat) (xs : List UInt8) (i : Nat) (bad : Bool) (w : World) (hx : BysAt w b off xs) (hb : b < w.heap.size) (hlen : xs.length ≤ 2 ^ 30) (hcap : xs.length ≤ cap) (hi : i ≤ xs.length) :
    Calls Tryd.prog 22 #[rdV b off cap xs.length i bad] w fun r w' => StrPost w b off cap xs i bad r w' := by
  obtain ⟨W, hW⟩ : ∃ W : World, W = (w.alloc (Obj.cells #[.slice (some ⟨b, off, none⟩) xs.length cap, .int .i64 (i : Int), .bool bad] 59)).alloc (Obj.cells #[.slice none 0 0, .int .i64 0, .bool false] 59) := ⟨_, rfl⟩
  have hbW : Below w.heap.size w W := by rw [hW]; exact ((Below.refl _ _).alloc (Nat.le_refl _) _).alloc (by simp) _
  have hzW : W.heap.size = w.heap.size + 2 := by rw [hW]; simp
  have HBx : Hid (BoxAt W w.heap.size 59 3 w.heap.size [.slice (some ⟨b, off, none⟩) xs.length cap, .int .i64 (i : Int), .bool bad] ∧ BoxAt W w.heap.size 59 3 (w.heap.size + 1) [.slice none 0 0, .int .i64 0, .bool false]) := by
    rw [hW]
    refine ⟨(boxAt_new w _ (Nat.le_refl _) rfl).below ((Below.refl _ _).alloc (Nat.le_refl _) _), ?_⟩
    have := boxAt_new (w.alloc (Obj.cells #[.slice (some ⟨b, off, none⟩) xs.length cap, .int .i64 (i : Int), .bool bad] 59)) (base := w.heap.size) (t := 59) (sz := 3) #[.slice none 0 0, .int .i64 0, .bool false] (by simp) rfl
    simpa using this
  have HX : Hid (BysAt w b off xs ∧ BysAt W b off xs) := ⟨hx, hx.below hbW hb⟩
  clear hx
  go_enter Tryd.func22, Tryd.ntmps22
  go_upto_region 2 with fail
  rw [← hW]
  clear hW
  have q0 := HBx.out.1.cell (j := 0) rfl
  have q1 := HBx.out.1.cell (j := 1) rfl
  have q2 := HBx.out.1.cell (j := 2) rfl
  go_wp2_with fail
  clear q0 q1 q2
  refine (l2GetNum_core b off cap xs i bad W HX.out.2 (by omega) hlen hi).mono ?_
  rintro r w1 ⟨i1, bad1, n, rfl, hGN, hb1⟩
  have s1 := hb1.size
  have hi1 := hGN.1
  have hn1 := hGN.2.1
  have HGN : Hid (GotNum xs i bad i1 bad1 n) := hGN
  have HB1 : Hid (BoxAt w1 w.heap.size 59 3 w.heap.size [.slice (some ⟨b, off, none⟩) xs.length cap, .int .i64 (i : Int), .bool bad] ∧ BoxAt w1 w.heap.size 59 3 (w.heap.size + 1) [.slice none 0 0, .int .i64 0, .bool false]) := ⟨HBx.out.1.below hb1, HBx.out.2.below hb1⟩
  have k1 : Below w.heap.size w w1 := hbW.trans (hb1.mono (by omega))
  have HX1 : Hid (BysAt w1 b off xs) := HX.out.2.below hb1 (by omega)
  clear hGN hb1
  have f0 := HB1.out.1.frozen 0
  have f1 := HB1.out.1.frozen 1
  have f2 := HB1.out.1.frozen 2
  have q0 := HB1.out.1.cell (j := 0) rfl
  have q1 := HB1.out.1.cell (j := 1) rfl
  have q2 := HB1.out.1.cell (j := 2) rfl
  obtain ⟨W2, hW2⟩ : ∃ W2 : World, W2 = set3 w1 w.heap.size (.slice (some ⟨b, off, none⟩) xs.length cap) (.int .i64 (i1 : Int)) (.bool bad1) := ⟨_, rfl⟩
  have HB2 : Hid (BoxAt W2 w.heap.size 59 3 w.heap.size [.slice (some ⟨b, off, none⟩) xs.length cap, .int .i64 (i1 : Int), .bool bad1] ∧ BoxAt W2 w.heap.size 59 3 (w.heap.size + 1) [.slice none 0 0, .int .i64 0, .bool false]) := by
    rw [hW2]; exact ⟨HB1.out.1.set3 _ _ _, HB1.out.2.beside3 (by omega) _ _ _⟩
  have k2 : Below w.heap.size w W2 := by rw [hW2]; exact below_set3 k1 (Nat.le_refl _) _ _ _
  unfold set3 at hW2
  go_upto_region 3 with fail
  rw [← hW2]
  clear hW2 f0 f1 f2 q0 q1 q2
  have q0 := HB2.out.1.cell (j := 0) rfl
  have q1 := HB2.out.1.cell (j := 1) rfl
  have q2 := HB2.out.1.cell (j := 2) rfl
  have f1 := HB2.out.1.frozen 1
  have f2 := HB2.out.1.frozen 2
  have hbadcase : ∀ (W3 : World), W3 = W2.setCell ⟨w.heap.size, 2, none⟩ (.bool true) → (BoxAt W3 w.heap.size 59 3 w.heap.size [.slice (some ⟨b, off, none⟩) xs.length cap, .int .i64 (i1 : Int), .bool true] ∧ BoxAt W3 w.heap.size 59 3 (w.heap.size + 1) [.slice none 0 0, .int .i64 0, .bool false]) ∧ Below w.heap.size w W3 := by
    intro W3 h
    rw [h]
    exact ⟨⟨HB2.out.1.set 2 (.bool true), HB2.out.2.beside (by omega) _ _⟩, below_set k2 (Nat.le_refl _) _ _⟩
  have HBC : Hid (∀ (W3 : World), W3 = W2.setCell ⟨w.heap.size, 2, none⟩ (.bool true) → (BoxAt W3 w.heap.size 59 3 w.heap.size [.slice (some ⟨b, off, none⟩) xs.length cap, .int .i64 (i1 : Int), .bool true] ∧ BoxAt W3 w.heap.size 59 3 (w.heap.size + 1) [.slice none 0 0, .int .i64 0, .bool false]) ∧ Below w.heap.size w W3) := hbadcase
  clear hbadcase
  by_cases hbd : bad1 = true ∨ xs.length - i1 < n
  · have HN : Hid ((rd xs i bad).bind getStr = none) := by
      show (rd xs i bad).bind getStr = none
      cases bad1 with
      | true => exact gotStr_bad HGN.out
      | false =>
        rw [gotStr_of HGN.out, if_neg]
        rw [List.length_drop]
        rcases hbd with h | h
        · cases h
        · omega
    obtain ⟨W3, hW3⟩ : ∃ W3 : World, W3 = W2.setCell ⟨w.heap.size, 2, none⟩ (.bool true) := ⟨_, rfl⟩
    obtain ⟨hB3, k3⟩ := HBC.out W3 hW3
    have HB3 : Hid (BoxAt W3 w.heap.size 59 3 w.heap.size [.slice (some ⟨b, off, none⟩) xs.length cap, .int .i64 (i1 : Int), .bool true] ∧ BoxAt W3 w.heap.size 59 3 (w.heap.size + 1) [.slice none 0 0, .int .i64 0, .bool false]) := hB3
    clear hB3
    cases bad1 with
    | true =>
      go_upto_region 5 with fail
      rw [← hW3]
      clear hW3 q0 q1 q2 f1 f2
      have f0 := HB3.out.2.frozen 0
      have f1 := HB3.out.2.frozen 1
      have f2 := HB3.out.2.frozen 2
      have l0 := HB3.out.2.cell (j := 0) rfl
      have l1 := HB3.out.2.cell (j := 1) rfl
      have l2 := HB3.out.2.cell (j := 2) rfl
      have q0 := HB3.out.1.cell (j := 0) rfl
      have q1 := HB3.out.1.cell (j := 1) rfl
      have q2 := HB3.out.1.cell (j := 2) rfl
      obtain ⟨W4, hW4⟩ : ∃ W4 : World, W4 = set3 W3 (w.heap.size + 1) (.slice (some ⟨b, off, none⟩) xs.length cap) (.int .i64 (i1 : Int)) (.bool true) := ⟨_, rfl⟩
      have hB4 : BoxAt W4 w.heap.size 59 3 (w.heap.size + 1) [.slice (some ⟨b, off, none⟩) xs.length cap, .int .i64 (i1 : Int), .bool true] := by rw [hW4]; exact HB3.out.2.set3 _ _ _
      have k4 : Below w.heap.size w W4 := by rw [hW4]; exact below_set3 k3 (by omega) _ _ _
      have p0 := hB4.cell (j := 0) rfl
      have p1 := hB4.cell (j := 1) rfl
      have p2 := hB4.cell (j := 2) rfl
      unfold set3 at hW4
      go_wp2_with fail
      rw [← hW4]
      exact bodyPost_ret (v := .tuple #[rdV b off cap xs.length i1 true, .string ⟨#[]⟩]) (by simp [results, Tryd.results22, go_sem, p0, p1, p2]) rfl ⟨i1, true, ⟨#[]⟩, rfl, ⟨hi1, Nat.zero_le _, .inl ⟨rfl, HN.out⟩⟩, k4⟩
    | false =>
      have z1 : (xs.length : Int) - (i1 : Int) < (n : Int) := by
        rcases hbd with h | h
        · cases h
        · omega
      go_upto_region 5 with fail
      rw [← hW3]
      clear hW3 q0 q1 q2 f1 f2
      have f0 := HB3.out.2.frozen 0
      have f1 := HB3.out.2.frozen 1
      have f2 := HB3.out.2.frozen 2
      have l0 := HB3.out.2.cell (j := 0) rfl
      have l1 := HB3.out.2.cell (j := 1) rfl
      have l2 := HB3.out.2.cell (j := 2) rfl
      have q0 := HB3.out.1.cell (j := 0) rfl
      have q1 := HB3.out.1.cell (j := 1) rfl
      have q2 := HB3.out.1.cell (j := 2) rfl
      obtain ⟨W4, hW4⟩ : ∃ W4 : World, W4 = set3 W3 (w.heap.size + 1) (.slice (some ⟨b, off, none⟩) xs.length cap) (.int .i64 (i1 : Int)) (.bool true) := ⟨_, rfl⟩
      have hB4 : BoxAt W4 w.heap.size 59 3 (w.heap.size + 1) [.slice (some ⟨b, off, none⟩) xs.length cap, .int .i64 (i1 : Int), .bool true] := by rw [hW4]; exact HB3.out.2.set3 _ _ _
      have k4 : Below w.heap.size w W4 := by rw [hW4]; exact below_set3 k3 (by omega) _ _ _
      have p0 := hB4.cell (j := 0) rfl
      have p1 := hB4.cell (j := 1) rfl
      have p2 := hB4.cell (j := 2) rfl
      unfold set3 at hW4
      go_wp2_with fail
      rw [← hW4]
      exact bodyPost_ret (v := .tuple #[rdV b off cap xs.length i1 true, .string ⟨#[]⟩]) (by simp [results, Tryd.results22, go_sem, p0, p1, p2]) rfl ⟨i1, true, ⟨#[]⟩, rfl, ⟨hi1, Nat.zero_le _, .inl ⟨rfl, HN.out⟩⟩, k4⟩
  · have hb1 : bad1 = false := by
      cases bad1 with
      | true => exact absurd (.inl rfl) hbd
      | false => rfl
    subst hb1
    have hnl : n ≤ xs.length - i1 := by
      rcases Nat.lt_or_ge (xs.length - i1) n with h | h
      · exact absurd (.inr h) hbd
      · exact h
    have z1 : ¬ (xs.length : Int) - (i1 : Int) < (n : Int) := by omega
    clear hbd HBC
    have HGs : Hid ((rd xs i bad).bind getStr = some ((xs.drop i1).take n, xs.drop (i1 + n))) := by
      show (rd xs i bad).bind getStr = _
      rw [gotStr_of HGN.out, if_pos (by rw [List.length_drop]; exact hnl), List.drop_drop]
    have HBy : Hid (Lib.Bytes W2 b off ⟨xs.toArray⟩) := bytes_of_bys (fun j x hj => by rw [k2.cell (p := ⟨b, off + j, none⟩) hb]; exact HX.out.1 j x hj)
    have hsz : (⟨xs.toArray⟩ : ByteArray).size = xs.length := by show xs.toArray.size = _; simp
    obtain ⟨W3, hW3⟩ : ∃ W3 : World, W3 = W2.setCell ⟨w.heap.size, 1, none⟩ (.int .i64 ((i1 : Int) + (n : Int))) := ⟨_, rfl⟩
    have HB3 : Hid (BoxAt W3 w.heap.size 59 3 w.heap.size [.slice (some ⟨b, off, none⟩) xs.length cap, .int .i64 ((i1 : Int) + (n : Int)), .bool false] ∧ BoxAt W3 w.heap.size 59 3 (w.heap.size + 1) [.slice none 0 0, .int .i64 0, .bool false]) := by
      rw [hW3]; exact ⟨HB2.out.1.set 1 _, HB2.out.2.beside (by omega) _ _⟩
    have k3 : Below w.heap.size w W3 := by rw [hW3]; exact below_set k2 (Nat.le_refl _) _ _
    have z2 : (i1 : Int) + (n : Int) ≤ (cap : Int) := by omega
    have z3 : (i1 : Int) ≤ (i1 : Int) + (n : Int) := by omega
    by_cases hci : cap = i1
    · obtain rfl : n = 0 := by omega
      have hcv := Lib.run_convert_window (P := Tryd.prog) W2 22 5 9 Tryd.underlying22 Tryd.underlying5 Tryd.underlying9 b off ⟨xs.toArray⟩ HBy.out 0 0 0 (by omega)
      rw [Nat.add_zero, Nat.zero_add] at hcv
      obtain ⟨st, hstd⟩ : ∃ st : ByteArray, st = (⟨xs.toArray⟩ : ByteArray).extract 0 0 := ⟨_, rfl⟩
      have hst : st.size ≤ xs.length := by rw [hstd, ByteArray.size_extract]; omega
      have HSt : Hid ((rd xs i bad).bind getStr = some (bl st, xs.drop (i1 + 0))) := by
        show (rd xs i bad).bind getStr = _
        rw [HGs.out]
        have : bl st = [] := List.length_eq_zero_iff.1 (by rw [bl_len, hstd, ByteArray.size_extract]; omega)
        rw [this]; rfl
      rw [← hstd] at hcv
      subst hci
      clear hstd HB3 hW3 k3
      obtain ⟨W5, hW5⟩ : ∃ W5 : World, W5 = W2.setCell ⟨w.heap.size, 1, none⟩ (.int .i64 (cap : Int)) := ⟨_, rfl⟩
      have HB5 : Hid (BoxAt W5 w.heap.size 59 3 w.heap.size [.slice (some ⟨b, off, none⟩) xs.length cap, .int .i64 (cap : Int), .bool false] ∧ BoxAt W5 w.heap.size 59 3 (w.heap.size + 1) [.slice none 0 0, .int .i64 0, .bool false]) := by
        rw [hW5]; exact ⟨HB2.out.1.set 1 _, HB2.out.2.beside (by omega) _ _⟩
      have k5 : Below w.heap.size w W5 := by rw [hW5]; exact below_set k2 (Nat.le_refl _) _ _
      go_upto_region 8 with fail
      rw [← hW5]
      clear hW5 q0 q1 q2 f1 f2 hcv
      have f0 := HB5.out.2.frozen 0
      have g1 := HB5.out.2.frozen 1
      have g2 := HB5.out.2.frozen 2
      have l0 := HB5.out.2.cell (j := 0) rfl
      have l1 := HB5.out.2.cell (j := 1) rfl
      have l2 := HB5.out.2.cell (j := 2) rfl
      have q0 := HB5.out.1.cell (j := 0) rfl
      have q1 := HB5.out.1.cell (j := 1) rfl
      have q2 := HB5.out.1.cell (j := 2) rfl
      obtain ⟨W4, hW4⟩ : ∃ W4 : World, W4 = set3 W5 (w.heap.size + 1) (.slice (some ⟨b, off, none⟩) xs.length cap) (.int .i64 (cap : Int)) (.bool false) := ⟨_, rfl⟩
      have hB4 : BoxAt W4 w.heap.size 59 3 (w.heap.size + 1) [.slice (some ⟨b, off, none⟩) xs.length cap, .int .i64 (cap : Int), .bool false] := by rw [hW4]; exact HB5.out.2.set3 _ _ _
      have k4 : Below w.heap.size w W4 := by rw [hW4]; exact below_set3 k5 (by omega) _ _ _
      have p0 := hB4.cell (j := 0) rfl
      have p1 := hB4.cell (j := 1) rfl
      have p2 := hB4.cell (j := 2) rfl
      unfold set3 at hW4
      go_wp2_with fail
      rw [← hW4]
      exact bodyPost_ret (v := .tuple #[rdV b off cap xs.length cap false, .string st]) (by simp [results, Tryd.results22, go_sem, p0, p1, p2]) rfl ⟨cap, false, st, rfl, ⟨hi1, hst, .inr ⟨rfl, HSt.out⟩⟩, k4⟩
    · have hcv := Lib.run_convert_window (P := Tryd.prog) W2 22 5 9 Tryd.underlying22 Tryd.underlying5 Tryd.underlying9 b off ⟨xs.toArray⟩ HBy.out i1 n (cap - i1) (by omega)
      obtain ⟨st, hstd⟩ : ∃ st : ByteArray, st = (⟨xs.toArray⟩ : ByteArray).extract i1 (i1 + n) := ⟨_, rfl⟩
      have hst : st.size ≤ xs.length := by rw [hstd, ByteArray.size_extract]; omega
      have HSt : Hid ((rd xs i bad).bind getStr = some (bl st, xs.drop (i1 + n))) := by
        show (rd xs i bad).bind getStr = _
        rw [HGs.out]
        have : bl st = (xs.drop i1).take n := by rw [hstd]; show ((⟨xs.toArray⟩ : ByteArray).extract i1 (i1 + n)).data.toList = _; rw [Lib.extract_data, Nat.add_sub_cancel_left]
        rw [this]
      rw [← hstd] at hcv
      clear hstd hsz
      go_upto_region 8 with fail
      rw [← hW3]
      clear hW3 q0 q1 q2 f1 f2 hcv
      have f0 := HB3.out.2.frozen 0
      have g1 := HB3.out.2.frozen 1
      have g2 := HB3.out.2.frozen 2
      have l0 := HB3.out.2.cell (j := 0) rfl
      have l1 := HB3.out.2.cell (j := 1) rfl
      have l2 := HB3.out.2.cell (j := 2) rfl
      have q0 := HB3.out.1.cell (j := 0) rfl
      have q1 := HB3.out.1.cell (j := 1) rfl
      have q2 := HB3.out.1.cell (j := 2) rfl
      obtain ⟨W4, hW4⟩ : ∃ W4 : World, W4 = set3 W3 (w.heap.size + 1) (.slice (some ⟨b, off, none⟩) xs.length cap) (.int .i64 ((i1 : Int) + (n : Int))) (.bool false) := ⟨_, rfl⟩
      have hB4 : BoxAt W4 w.heap.size 59 3 (w.heap.size + 1) [.slice (some ⟨b, off, none⟩) xs.length cap, .int .i64 ((i1 : Int) + (n : Int)), .bool false] := by rw [hW4]; exact HB3.out.2.set3 _ _ _
      have k4 : Below w.heap.size w W4 := by rw [hW4]; exact below_set3 k3 (by omega) _ _ _
      have p0 := hB4.cell (j := 0) rfl
      have p1 := hB4.cell (j := 1) rfl
      have p2 := hB4.cell (j := 2) rfl
      unfold set3 at hW4
      go_wp2_with fail
      rw [← hW4]
      exact bodyPost_ret (v := .tuple #[rdV b off cap xs.length (i1 + n) false, .string st]) (by simp [results, Tryd.results22, go_sem, p0, p1, p2]) rfl ⟨i1 + n, false, st, rfl, ⟨by omega, hst, .inr ⟨rfl, HSt.out⟩⟩, k4⟩

theorem below_drewN {B : Nat} {a w : World} (h : Below B a w) (q : Nat) : Below B a (w.drewN q) := by
  induction q with
  | zero => exact h
  | succ q ih => exact ih.drew
set_option maxHeartbeats 4000000 in
theorem l2GetFixed_core (b off cap : Nat) (xs : List UInt8) (i : Nat) (w : World) (hx : BysAt w b off xs) (hlen : xs.length ≤ 2 ^ 30) (hi : i + 4 ≤ xs.length) :
    Calls Tryd.prog 19 #[.slice (some ⟨b, off, none⟩) xs.length cap, .int .i64 (i : Int)] w fun r w' => r = .returned (.int .u32 (fixAt xs i : Int)) ∧ Below w.heap.size w w' := by
  have g : ∀ j, j < xs.length → w.cell? ⟨b, off + j, none⟩ = some (.int .u8 ((xs.getD j 0).toNat : Int)) := by
    intro j hj
    rw [hx j xs[j] (List.getElem?_eq_getElem hj), List.getD_eq_getElem?_getD, List.getElem?_eq_getElem hj]
    rfl
  have c0 := g i (by omega)
  have c1 := g (i + 1) (by omega)
  have c2 := g (i + 2) (by omega)
  have c3 := g (i + 3) (by omega)
  have HF : Hid (fixAt xs i = (xs.getD i 0).toNat + 256 * (xs.getD (i + 1) 0).toNat + 65536 * (xs.getD (i + 2) 0).toNat + 16777216 * (xs.getD (i + 3) 0).toNat) := rfl
  have b0 := u8lt (xs.getD i 0)
  have b1 := u8lt (xs.getD (i + 1) 0)
  have b2 := u8lt (xs.getD (i + 2) 0)
  have b3 := u8lt (xs.getD (i + 3) 0)
  obtain ⟨y0, hy0⟩ : ∃ y : Nat, (xs.getD i 0).toNat = y := ⟨_, rfl⟩
  obtain ⟨y1, hy1⟩ : ∃ y : Nat, (xs.getD (i + 1) 0).toNat = y := ⟨_, rfl⟩
  obtain ⟨y2, hy2⟩ : ∃ y : Nat, (xs.getD (i + 2) 0).toNat = y := ⟨_, rfl⟩
  obtain ⟨y3, hy3⟩ : ∃ y : Nat, (xs.getD (i + 3) 0).toNat = y := ⟨_, rfl⟩
  rw [hy0] at c0 b0 HF
  rw [hy1] at c1 b1 HF
  rw [hy2] at c2 b2 HF
  rw [hy3] at c3 b3 HF
  clear hy0 hy1 hy2 hy3 g hx
  rw [HF.out]
  clear HF
  obtain ⟨j1, hj1⟩ : ∃ j : Nat, j = i + 1 := ⟨_, rfl⟩
  obtain ⟨j2, hj2⟩ : ∃ j : Nat, j = i + 2 := ⟨_, rfl⟩
  obtain ⟨j3, hj3⟩ : ∃ j : Nat, j = i + 3 := ⟨_, rfl⟩
  rw [← hj1] at c1
  rw [← hj2] at c2
  rw [← hj3] at c3
  have e1 : (i : Int) + 1 = (j1 : Int) := by omega
  have e2 : (i : Int) + 2 = (j2 : Int) := by omega
  have e3 : (i : Int) + 3 = (j3 : Int) := by omega
  obtain ⟨N, hN⟩ : ∃ N : Nat, xs.length = N := ⟨_, rfl⟩
  rw [hN] at hi hlen ⊢
  clear hN
  go_enter Tryd.func19, Tryd.ntmps19
  go_upto_region 1 with fail
  have z0 : (i : Int) < (N : Int) := by omega
  have z1 : (j1 : Int) < (N : Int) := by omega
  have z2 : (j2 : Int) < (N : Int) := by omega
  have z3 : (j3 : Int) < (N : Int) := by omega
  clear hj1 hj2 hj3
  go_quiet (fail)
  go_wp2_with fail
  go_ret
  refine ⟨?_, ?_⟩
  · show Ending.returned (Value.int .u32 ((y0 : Int) + 256 * (y1 : Int) + 65536 * (y2 : Int) + 16777216 * (y3 : Int))) = _
    congr 2
  · exact below_drewN (Below.refl _ _) _
end Go.Proofs.YtnncedndlhfdkabDoor

/-
  The file of blocks (mathematics).
-/
namespace Go.Proofs.YtnncedndlhfdkabDoor
set_option linter.unusedVariables false
set_option linter.unusedSimpArgs false

/-- The first row of a block. -/
def row0 : List Ent → List UInt8
  | [] => []
  | e :: _ => bl e.row
def sumOf (xs : List UInt8) : List UInt8 := fixed (crc xs).toNat
theorem sumOf_len (xs : List UInt8) : (sumOf xs).length = 4 := rfl
def fblock (es : List Ent) : List UInt8 := body [] es ++ sumOf (body [] es)
def fblocks (bs : List (List Ent)) : List UInt8 := bs.flatMap fblock
def fone (es : List Ent) : List UInt8 := num (body [] es).length ++ num es.length ++ strB (row0 es)
def fones (bs : List (List Ent)) : List UInt8 := bs.flatMap fone
def findex (bs : List (List Ent)) : List UInt8 := num bs.length ++ fones bs
def headB : List UInt8 := [82, 85, 78, 49]
def fileM (bs : List (List Ent)) : List UInt8 := headB ++ fblocks bs ++ findex bs ++ sumOf (findex bs) ++ fixed (findex bs).length
theorem fblocks_snoc (bs : List (List Ent)) (es : List Ent) : fblocks (bs ++ [es]) = fblocks bs ++ body [] es ++ sumOf (body [] es) := by
  simp [fblocks, fblock]
theorem fones_snoc (bs : List (List Ent)) (es : List Ent) : fones (bs ++ [es]) = fones bs ++ num (body [] es).length ++ num es.length ++ strB (row0 es) := by
  simp [fones, fone]
/-- What a block may be. -/
structure OkB (es : List Ent) : Prop where
  vld : ∀ e ∈ es, e.vld = true
  ok : ∀ e ∈ es, e.ok
  ne : 0 < es.length
theorem OkB.ts {es : List Ent} (h : OkB es) : ∀ e ∈ es, e.ts.toNat < 2 ^ 64 := fun e he => by have := wf_u64 (h.ok e he).ts; omega
theorem row0_len {es : List Ent} (h : OkB es) : (row0 es).length ≤ 64 := by
  cases es with
  | nil => simp [row0]
  | cons e es => have := vld_parts (h.vld e (by simp)); simp only [row0, bl_len]; omega
theorem fblocks_len : ∀ (bs : List (List Ent)), (∀ es ∈ bs, OkB es) → (fblocks bs).length ≤ 500 * bs.flatten.length + 4 * bs.length
  | [], _ => by simp [fblocks]
  | es :: bs, h => by
    have h1 := body_len es [] (h es (by simp)).vld (h es (by simp)).ts
    have h2 := fblocks_len bs (fun x hx => h x (by simp [hx]))
    simp only [fblocks, List.flatMap_cons, List.length_append, fblock, sumOf_len, List.flatten_cons, List.length_cons] at h2 ⊢
    omega
theorem fone_len {es : List Ent} (h : OkB es) (hl : es.length ≤ 10000) : (fone es).length ≤ 100 := by
  have h1 := body_len es [] h.vld h.ts
  have l1 := num_len64 (n := (body [] es).length) (by omega)
  have l2 := num_len64 (n := es.length) (by omega)
  have l3 := row0_len h
  have l4 := strB_len (s := row0 es) (by omega)
  simp only [fone, List.length_append]
  omega
theorem fones_len : ∀ (bs : List (List Ent)), (∀ es ∈ bs, OkB es) → bs.flatten.length ≤ 10000 → (fones bs).length ≤ 100 * bs.length
  | [], _, _ => by simp [fones]
  | es :: bs, h, hl => by
    simp only [List.flatten_cons, List.length_append] at hl
    have h1 := fone_len (h es (by simp)) (by omega)
    have h2 := fones_len bs (fun x hx => h x (by simp [hx])) (by omega)
    simp only [fones, List.flatMap_cons, List.length_append, List.length_cons] at h2 ⊢
    omega
theorem flatten_take (bs : List (List Ent)) (k : Nat) : (bs.take k).flatten.length ≤ bs.flatten.length := by
  have : bs.flatten = (bs.take k).flatten ++ (bs.drop k).flatten := by rw [← List.flatten_append, List.take_append_drop]
  rw [this, List.length_append]
  omega
theorem flatten_mem {bs : List (List Ent)} {es : List Ent} (h : es ∈ bs) : es.length ≤ bs.flatten.length := by
  obtain ⟨s, t, rfl⟩ := List.append_of_mem h
  simp
  omega
theorem blocks_many : ∀ (bs : List (List Ent)), (∀ es ∈ bs, OkB es) → bs.length ≤ bs.flatten.length
  | [], _ => by simp
  | es :: bs, h => by
    have h1 := (h es (by simp)).ne
    have h2 := blocks_many bs (fun x hx => h x (by simp [hx]))
    simp only [List.flatten_cons, List.length_append, List.length_cons]
    omega
end Go.Proofs.YtnncedndlhfdkabDoor

/-
  The index of a file, read (mathematics).
-/
namespace Go.Proofs.YtnncedndlhfdkabDoor
set_option linter.unusedVariables false
set_option linter.unusedSimpArgs false

/-- The string of bytes. -/
def ba (l : List UInt8) : ByteArray := ⟨l.toArray⟩
theorem bl_ba (l : List UInt8) : bl (ba l) = l := by simp [bl, ba]
theorem ba_bl (s : ByteArray) : ba (bl s) = s := by
  apply ByteArray.ext
  simp [bl, ba]
/-- One block of the index. -/
structure Blk where
  fr : Nat
  til : Nat
  count : Nat
  row : ByteArray
def oneBlk (n lim p : Nat) (t : List UInt8) : Option (Blk × Nat × List UInt8) :=
  match getNum t with
  | none => none
  | some (size, t1) =>
    match getNum t1 with
    | none => none
    | some (count, t2) =>
      match getStr t2 with
      | none => none
      | some (row, t3) => if count < 1 ∨ 1000 < count ∨ n < size ∨ lim < p + size + 4 then none else some (⟨p, p + size, count, ba row⟩, p + size + 4, t3)
def getBlks (n lim : Nat) : Nat → Nat → List UInt8 → Option (List Blk × Nat × List UInt8)
  | 0, p, t => some ([], p, t)
  | k + 1, p, t =>
    match oneBlk n lim p t with
    | none => none
    | some (b, p1, t1) =>
      match getBlks n lim k p1 t1 with
      | none => none
      | some (l, p2, t2) => some (b :: l, p2, t2)
def pre (l : List Blk) (o : Option (List Blk × Nat × List UInt8)) : Option (List Blk × Nat × List UInt8) :=
  match o with
  | none => none
  | some (l', p, t) => some (l ++ l', p, t)
theorem pre_nil (o : Option (List Blk × Nat × List UInt8)) : pre [] o = o := by
  cases o with
  | none => rfl
  | some q => obtain ⟨l, p, t⟩ := q; rfl
/-- The blocks read so far and what follows. -/
def BlksTo (n lim K : Nat) (t0 : List UInt8) (k : Nat) (l : List Blk) (p : Nat) (t : List UInt8) : Prop := k ≤ K ∧ l.length = k ∧ getBlks n lim K 4 t0 = pre l (getBlks n lim (K - k) p t)
theorem blksTo_zero (n lim K : Nat) (t0 : List UInt8) : BlksTo n lim K t0 0 [] 4 t0 := ⟨Nat.zero_le _, rfl, by rw [pre_nil]; rfl⟩
theorem BlksTo.more {n lim K : Nat} {t0 : List UInt8} {k : Nat} {l : List Blk} {p : Nat} {t : List UInt8} (h : BlksTo n lim K t0 k l p t) (hk : k < K) {b : Blk} {p1 : Nat} {t1 : List UInt8} (ho : oneBlk n lim p t = some (b, p1, t1)) : BlksTo n lim K t0 (k + 1) (l ++ [b]) p1 t1 := by
  refine ⟨hk, by rw [List.length_append, h.2.1]; rfl, ?_⟩
  rw [h.2.2, show K - k = (K - (k + 1)) + 1 by omega, getBlks, ho]
  simp only []
  cases getBlks n lim (K - (k + 1)) p1 t1 with
  | none => rfl
  | some q => obtain ⟨l', p', t'⟩ := q; simp [pre]
theorem BlksTo.stop {n lim K : Nat} {t0 : List UInt8} {k : Nat} {l : List Blk} {p : Nat} {t : List UInt8} (h : BlksTo n lim K t0 k l p t) (hk : k < K) (ho : oneBlk n lim p t = none) : getBlks n lim K 4 t0 = none := by
  rw [h.2.2, show K - k = (K - (k + 1)) + 1 by omega, getBlks, ho]
  rfl
theorem BlksTo.done {n lim K : Nat} {t0 : List UInt8} {l : List Blk} {p : Nat} {t : List UInt8} (h : BlksTo n lim K t0 K l p t) : getBlks n lim K 4 t0 = some (l, p, t) := by
  rw [h.2.2, Nat.sub_self]
  simp [getBlks, pre]
def idxEnd (lim : Nat) (o : Option (List Blk × Nat × List UInt8)) : Int × List Blk :=
  match o with
  | none => (1, [])
  | some (l, p, t') => if t' ≠ [] ∨ p ≠ lim then (1, []) else (0, l)
/-- What l2Index answers. -/
def idxBody (n lim : Nat) (ix : List UInt8) : Int × List Blk :=
  match getNum ix with
  | none => (1, [])
  | some (k, t) => if 10000 < k then (1, []) else idxEnd lim (getBlks n lim k 4 t)
def idxM (b : List UInt8) : Int × List Blk :=
  if b.length < 13 ∨ b.take 4 ≠ headB then (1, []) else
  if b.length < fixAt b (b.length - 4) + 12 then (1, []) else
  if (crc ((b.drop (b.length - 8 - fixAt b (b.length - 4))).take (fixAt b (b.length - 4)))).toNat ≠ fixAt b (b.length - 8) then (2, []) else
  idxBody b.length (b.length - 8 - fixAt b (b.length - 4)) ((b.drop (b.length - 8 - fixAt b (b.length - 4))).take (fixAt b (b.length - 4)))
/-- Blocks of an index lie within the file. -/
def Blk.in (n : Nat) (b : Blk) : Prop := 4 ≤ b.fr ∧ b.fr ≤ b.til ∧ b.til + 4 ≤ n ∧ 1 ≤ b.count ∧ b.count ≤ 1000
theorem oneBlk_in {n lim p : Nat} {t : List UInt8} {b : Blk} {p1 : Nat} {t1 : List UInt8} (h : oneBlk n lim p t = some (b, p1, t1)) (hp : 4 ≤ p) : b.in lim ∧ p ≤ p1 ∧ p1 ≤ lim := by
  unfold oneBlk at h
  cases h1 : getNum t with
  | none => rw [h1] at h; cases h
  | some q =>
    obtain ⟨size, u1⟩ := q
    rw [h1] at h
    simp only [] at h
    cases h2 : getNum u1 with
    | none => rw [h2] at h; cases h
    | some q =>
      obtain ⟨count, u2⟩ := q
      rw [h2] at h
      simp only [] at h
      cases h3 : getStr u2 with
      | none => rw [h3] at h; cases h
      | some q =>
        obtain ⟨row, u3⟩ := q
        rw [h3] at h
        simp only [] at h
        split at h
        · cases h
        · simp only [Option.some.injEq, Prod.mk.injEq] at h
          obtain ⟨rfl, rfl, rfl⟩ := h
          refine ⟨⟨hp, ?_, ?_, ?_, ?_⟩, ?_, ?_⟩ <;> (try simp only []) <;> omega
theorem getBlks_in {n lim : Nat} : ∀ (k p : Nat) (t : List UInt8) (l : List Blk) (p1 : Nat) (t1 : List UInt8), getBlks n lim k p t = some (l, p1, t1) → 4 ≤ p → (∀ b ∈ l, b.in lim) ∧ l.length = k
  | 0, p, t, l, p1, t1, h, hp => by
    simp only [getBlks, Option.some.injEq, Prod.mk.injEq] at h
    obtain ⟨rfl, _, _⟩ := h
    exact ⟨fun b hb => by simp at hb, rfl⟩
  | k + 1, p, t, l, p1, t1, h, hp => by
    rw [getBlks] at h
    cases ho : oneBlk n lim p t with
    | none => rw [ho] at h; cases h
    | some q =>
      obtain ⟨b, p2, t2⟩ := q
      rw [ho] at h
      simp only [] at h
      obtain ⟨hb, hp2, _⟩ := oneBlk_in ho hp
      cases hg : getBlks n lim k p2 t2 with
      | none => rw [hg] at h; cases h
      | some q =>
        obtain ⟨l', p3, t3⟩ := q
        rw [hg] at h
        simp only [Option.some.injEq, Prod.mk.injEq] at h
        obtain ⟨rfl, _, _⟩ := h
        obtain ⟨h1, h2⟩ := getBlks_in k p2 t2 l' p3 t3 hg (by omega)
        refine ⟨fun x hx => ?_, by simp [h2]⟩
        rcases List.mem_cons.1 hx with rfl | hx
        · exact hb
        · exact h1 x hx
theorem idxM_in (b : List UInt8) : ∀ k ∈ (idxM b).2, k.in b.length := by
  intro k hk
  unfold idxM at hk
  split at hk
  · simp at hk
  split at hk
  · simp at hk
  split at hk
  · simp at hk
  unfold idxBody at hk
  split at hk
  · simp at hk
  · split at hk
    · simp at hk
    · unfold idxEnd at hk
      split at hk
      · simp at hk
      · next heq =>
        split at hk
        · simp at hk
        · obtain ⟨h1, h2, h3, h4, h5⟩ := (getBlks_in _ _ _ _ _ _ heq (Nat.le_refl _)).1 k hk
          exact ⟨h1, h2, by omega, h4, h5⟩
end Go.Proofs.YtnncedndlhfdkabDoor

/-
  The entries of a block, read (mathematics).
-/
namespace Go.Proofs.YtnncedndlhfdkabDoor
set_option linter.unusedVariables false
set_option linter.unusedSimpArgs false

def getEnt (before t : List UInt8) : Option (Ent × List UInt8) :=
  match getNum t with
  | none => none
  | some (n, t1) =>
    match getStr t1 with
    | none => none
    | some (rest, t2) =>
      if before.length < n then none else
      match getStr t2 with
      | none => none
      | some (fam, t3) =>
        match getStr t3 with
        | none => none
        | some (qual, t4) =>
          match getNum t4 with
          | none => none
          | some (ts, t5) =>
            match getNum t5 with
            | none => none
            | some (kind, t6) =>
              match getStr t6 with
              | none => none
              | some (val, t7) =>
                if 2 < kind ∨ ¬ shared before (before.take n ++ rest) = n ∨ (⟨ba (before.take n ++ rest), ba fam, ba qual, (ts : Int), (kind : Int), ba val⟩ : Ent).vld = false then none
                else some (⟨ba (before.take n ++ rest), ba fam, ba qual, (ts : Int), (kind : Int), ba val⟩, t7)
def getEnts : Nat → List UInt8 → List UInt8 → Option (List Ent × List UInt8)
  | 0, _, t => some ([], t)
  | k + 1, b, t =>
    match getEnt b t with
    | none => none
    | some (e, t1) =>
      match getEnts k (bl e.row) t1 with
      | none => none
      | some (l, t2) => some (e :: l, t2)
def preE (l : List Ent) (o : Option (List Ent × List UInt8)) : Option (List Ent × List UInt8) :=
  match o with
  | none => none
  | some (l', t) => some (l ++ l', t)
theorem preE_nil (o : Option (List Ent × List UInt8)) : preE [] o = o := by
  cases o with
  | none => rfl
  | some q => obtain ⟨l, t⟩ := q; rfl
/-- The entries read so far and what follows. -/
def EntsTo (K : Nat) (t0 : List UInt8) (k : Nat) (l : List Ent) (bf t : List UInt8) : Prop := k ≤ K ∧ l.length = k ∧ bf = lastRow [] l ∧ getEnts K [] t0 = preE l (getEnts (K - k) bf t)
theorem entsTo_zero (K : Nat) (t0 : List UInt8) : EntsTo K t0 0 [] [] t0 := ⟨Nat.zero_le _, rfl, rfl, by rw [preE_nil]; rfl⟩
theorem EntsTo.more {K : Nat} {t0 : List UInt8} {k : Nat} {l : List Ent} {bf t : List UInt8} (h : EntsTo K t0 k l bf t) (hk : k < K) {e : Ent} {t1 : List UInt8} (ho : getEnt bf t = some (e, t1)) : EntsTo K t0 (k + 1) (l ++ [e]) (bl e.row) t1 := by
  refine ⟨hk, by rw [List.length_append, h.2.1]; rfl, (lastRow_snoc _ _ _).symm, ?_⟩
  rw [h.2.2.2, show K - k = (K - (k + 1)) + 1 by omega, getEnts, ho]
  simp only []
  cases getEnts (K - (k + 1)) (bl e.row) t1 with
  | none => rfl
  | some q => obtain ⟨l', t'⟩ := q; simp [preE]
theorem EntsTo.stop {K : Nat} {t0 : List UInt8} {k : Nat} {l : List Ent} {bf t : List UInt8} (h : EntsTo K t0 k l bf t) (hk : k < K) (ho : getEnt bf t = none) : getEnts K [] t0 = none := by
  rw [h.2.2.2, show K - k = (K - (k + 1)) + 1 by omega, getEnts, ho]
  rfl
theorem EntsTo.done {K : Nat} {t0 : List UInt8} {l : List Ent} {bf t : List UInt8} (h : EntsTo K t0 K l bf t) : getEnts K [] t0 = some (l, t) := by
  rw [h.2.2.2, Nat.sub_self]
  simp [getEnts, preE]
/-- What is read fits its types. -/
theorem getEnt_ok {b t : List UInt8} {e : Ent} {t1 : List UInt8} (h : getEnt b t = some (e, t1)) : e.vld = true := by
  unfold getEnt at h
  repeat (split at h; · cases h)
  simp only [Option.some.injEq, Prod.mk.injEq] at h
  obtain ⟨rfl, rfl⟩ := h
  next hc =>
  rw [not_or, not_or] at hc
  simpa using hc.2.2
theorem getEnt_ent {b : List UInt8} {e : Ent} (hv : e.vld = true) (hok : e.ok) (t : List UInt8) : getEnt b (entB b e ++ t) = some (e, t) := by
  obtain ⟨v1, v2, v3, v4, v5, v6, v7, v8⟩ := vld_parts hv
  have hts := wf_u64 hok.ts
  have hs := shared_le b (bl e.row)
  have hs2 := hs.2
  rw [bl_len] at hs2
  have hrow : b.take (shared b (bl e.row)) ++ (bl e.row).drop (shared b (bl e.row)) = bl e.row := by rw [shared_take, List.take_append_drop]
  have e1 : ((e.ts.toNat : Nat) : Int) = e.ts := Int.toNat_of_nonneg hts.1
  have e2 : ((e.kind.toNat : Nat) : Int) = e.kind := Int.toNat_of_nonneg v7
  have he : (⟨ba (bl e.row), ba (bl e.fam), ba (bl e.qual), ((e.ts.toNat : Nat) : Int), ((e.kind.toNat : Nat) : Int), ba (bl e.val)⟩ : Ent) = e := by rw [ba_bl, ba_bl, ba_bl, ba_bl, e1, e2]
  unfold entB getEnt
  simp only [List.append_assoc]
  rw [getNum_num (by omega)]
  simp only []
  rw [getStr_str (by rw [List.length_drop, bl_len]; omega)]
  simp only []
  rw [if_neg (by omega), getStr_str (by rw [bl_len]; omega)]
  simp only []
  rw [getStr_str (by rw [bl_len]; omega)]
  simp only []
  rw [getNum_num (by omega)]
  simp only []
  rw [getNum_num (by omega)]
  simp only []
  rw [getStr_str (by rw [bl_len]; omega)]
  simp only []
  rw [hrow, he, if_neg]
  rintro (h | h | h)
  · omega
  · exact h rfl
  · rw [hv] at h; cases h
theorem getEnts_body : ∀ (es : List Ent) (b t : List UInt8), (∀ e ∈ es, e.vld = true) → (∀ e ∈ es, e.ok) → getEnts es.length b (body b es ++ t) = some (es, t)
  | [], b, t, _, _ => by simp [getEnts, body]
  | e :: es, b, t, hv, hok => by
    rw [List.length_cons, getEnts, body, List.append_assoc, getEnt_ent (hv e (by simp)) (hok e (by simp))]
    simp only []
    rw [getEnts_body es (bl e.row) t (fun x hx => hv x (by simp [hx])) (fun x hx => hok x (by simp [hx]))]
/-- What l2Entries answers. -/
def entEnd (row : List UInt8) (o : Option (List Ent × List UInt8)) : Int × List Ent :=
  match o with
  | none => (3, [])
  | some (es, t) => if t ≠ [] ∨ row0 es ≠ row then (3, []) else (0, es)
def blkM (b : List UInt8) (k : Blk) : Int × List Ent :=
  if (crc ((b.drop k.fr).take (k.til - k.fr))).toNat ≠ fixAt b k.til then (2, []) else entEnd (bl k.row) (getEnts k.count [] ((b.drop k.fr).take (k.til - k.fr)))
/-- The blocks one behind the other, up to the first error. -/
def decBlks (b : List UInt8) : List Blk → Int × List Ent
  | [] => (0, [])
  | k :: ks => if (blkM b k).1 ≠ 0 then ((blkM b k).1, []) else if (decBlks b ks).1 ≠ 0 then ((decBlks b ks).1, []) else (0, (blkM b k).2 ++ (decBlks b ks).2)
open Classical in
noncomputable def decM (b : List UInt8) : Int × List Ent :=
  if (idxM b).1 ≠ 0 then ((idxM b).1, []) else if (decBlks b (idxM b).2).1 ≠ 0 then ((decBlks b (idxM b).2).1, []) else if GoodR (decBlks b (idxM b).2).2 then (0, (decBlks b (idxM b).2).2) else (3, [])
end Go.Proofs.YtnncedndlhfdkabDoor

/-
  (*impl.byteReader).text, row.
-/
namespace Go.Proofs.YtnncedndlhfdkabDoor
open Go.ChangeShapes Go.WideShapes Go.ChangeAt Go.RowKit Go.Deep
set_option linter.unusedVariables false
set_option linter.unusedSimpArgs false
set_option maxRecDepth 100000

/-- What reading a text leaves. -/
def StrP (w : World) (base g b : Nat) (xs : List UInt8) (code : Int) (e : Ending) (w' : World) : Prop :=
  Chg (fun k => k = g) w w' ∧ ((∃ (s : ByteArray) (t : List UInt8), getStr xs = some (bl s, t) ∧ e = .returned (.string s) ∧ s.size + t.length ≤ xs.length ∧ RdE w' base g b t code) ∨ (getStr xs = none ∧ e = Corr code))
set_option maxHeartbeats 2000000 in
theorem text_core (base g b : Nat) (xs : List UInt8) (code : Int) (w : World) (h : RdE w base g b xs code) :
    Calls Tryd.prog 39 #[.pointer (some ⟨g, 0, none⟩)] w fun e w' => StrP w base g b xs code e w' := by
  have HR : Hid (RdE w base g b xs code) := h
  clear h
  go_enter Tryd.func39, Tryd.ntmps39
  go_wp2_with fail
  refine (number_core base g b xs code _ HR.out).mono ?_
  rintro e w1 ⟨hC1, (⟨n, t, hn, rfl, hn2, ht, hR1⟩ | ⟨hn, rfl⟩)⟩
  · obtain ⟨off, cap, hA⟩ := hR1
    have HA : Hid (RdAt w1 base g b off cap t code) := hA
    have HG : Hid (getNum xs = some (n, t) ∧ t.length ≤ xs.length ∧ n < 2 ^ 64) := ⟨hn, ht, hn2⟩
    have HC1 : Hid (Chg (fun k => k = g) w w1) := hC1
    clear hn hA hC1 hn2 ht
    by_cases hle : n ≤ t.length
    · obtain ⟨s, hsd⟩ : ∃ s : ByteArray, s = (⟨t.toArray⟩ : ByteArray).extract 0 (0 + n) := ⟨_, rfl⟩
      have hbs : bl s = t.take n := by
        rw [hsd]
        show ((⟨t.toArray⟩ : ByteArray).extract 0 (0 + n)).data.toList = _
        rw [Lib.extract_data, Nat.add_sub_cancel_left]
        rfl
      have HG2 : Hid (getStr xs = some (bl s, t.drop n) ∧ s.size + (t.drop n).length ≤ xs.length) := by
        have h1 : s.size = (t.take n).length := by rw [← hbs, bl_len]
        refine ⟨?_, ?_⟩
        · show getStr xs = _
          unfold getStr
          rw [HG.out.1, hbs]
          simp only []
          rw [if_pos hle]
        · rw [h1, List.length_take, List.length_drop]; have := HG.out.2.1; omega
      have hsz : (⟨t.toArray⟩ : ByteArray).size = t.length := by show t.toArray.size = _; simp
      go_wp2_with fail
      refine (take_ok base g b off cap n t code _ HA.out hle).mono ?_
      rintro e w2 ⟨rfl, hA2, hC2⟩
      have hcv := Lib.run_convert_window (P := Tryd.prog) w2 22 5 9 Tryd.underlying22 Tryd.underlying5 Tryd.underlying9 b off ⟨t.toArray⟩ (bytes_of_bys (HA.out.bys.chgR hC2 HA.out.lt HA.out.ne)) 0 n cap (by omega)
      rw [← hsd, Nat.add_zero] at hcv
      have HW : Hid (Chg (fun k => k = g) w w2 ∧ RdAt w2 base g b (off + n) (cap - n) (t.drop n) code) := ⟨HC1.out.trans hC2, hA2⟩
      clear hsd hbs hsz hA2 hC2
      go_wp2_with fail
      go_ret
      exact ⟨HW.out.1, .inl ⟨s, t.drop n, HG2.out.1, rfl, HG2.out.2, ⟨_, _, HW.out.2⟩⟩⟩
    · have HG2 : Hid (getStr xs = none) := by
        show getStr xs = _
        unfold getStr
        rw [HG.out.1]
        simp only []
        rw [if_neg hle]
      go_wp2_with fail
      refine (take_bad base g b off cap n t code _ HA.out (by omega) HG.out.2.2).mono ?_
      rintro e w2 ⟨rfl, hB2⟩
      exact ⟨rfl, HC1.out.trans (Chg.of_below hB2), .inr ⟨HG2.out, rfl⟩⟩
  · have HG2 : Hid (getStr xs = none) := by
      show getStr xs = _
      unfold getStr
      rw [hn]
    exact ⟨rfl, hC1, .inr ⟨HG2.out, rfl⟩⟩

theorem text_ok (base g b : Nat) (xs : List UInt8) (code : Int) (w : World) (h : RdE w base g b xs code) (s : ByteArray) (t : List UInt8) (hs : getStr xs = some (bl s, t)) :
    Calls Tryd.prog 39 #[.pointer (some ⟨g, 0, none⟩)] w fun e w' => e = .returned (.string s) ∧ s.size + t.length ≤ xs.length ∧ RdE w' base g b t code ∧ Chg (fun k => k = g) w w' := by
  refine (text_core base g b xs code w h).mono ?_
  rintro e w' ⟨hC, (⟨s', t', h1, rfl, h2, h3⟩ | ⟨h1, _⟩)⟩
  · rw [hs] at h1
    simp only [Option.some.injEq, Prod.mk.injEq] at h1
    obtain ⟨h4, rfl⟩ := h1
    have : s = s' := by rw [← ba_bl s, ← ba_bl s', h4]
    subst this
    exact ⟨rfl, h2, h3, hC⟩
  · rw [hs] at h1; cases h1
theorem text_bad (base g b : Nat) (xs : List UInt8) (code : Int) (w : World) (h : RdE w base g b xs code) (hs : getStr xs = none) :
    Calls Tryd.prog 39 #[.pointer (some ⟨g, 0, none⟩)] w fun e w' => e = Corr code ∧ Chg (fun k => k = g) w w' := by
  refine (text_core base g b xs code w h).mono ?_
  rintro e w' ⟨hC, (⟨s', t', h1, rfl, h2, h3⟩ | ⟨_, h1⟩)⟩
  · rw [hs] at h1; cases h1
  · exact ⟨h1, hC⟩
/-- A region in which a text cannot be read. -/
theorem wp_region_text {id : Nat} {Q : Exit → Act → World → Prop} {a : Act} {w : World} {l : List Oper} (n : Nat) (d s : Tmp) (g : Nat) (code : Int) {tys : Array TypeId} {ty : TypeId} {pos : String} {aft : Array Edge}
    (ho : l = l.take n ++ ⟨some d, .call { callee := .value (.func 39), args := #[.tmp s], argTypes := tys }, ty, pos, aft, none⟩ :: l.drop (n + 1))
    (hB : ∀ m, Region.lexB .any (l.take n ++ (⟨some d, .call { callee := .value (.func 39), args := #[.tmp s], argTypes := tys }, ty, pos, aft, none⟩ :: l.drop (n + 1)).map (fk m)).toArray = true)
    (hB2 : waitsB (l.take n) ⟨some d, .call { callee := .value (.func 39), args := #[.tmp s], argTypes := tys }, ty, pos, aft, none⟩ (l.drop (n + 1)) d [s] = true)
    (hc : ∀ w', Below w.heap.size w w' → Calls Tryd.prog 39 #[.pointer (some ⟨g, 0, none⟩)] w' fun e w'' => e = Corr code ∧ ∀ a' : Act, a'.defers = a.defers → Q (.panic [{ v := corrV code, recovered := false }]) a' w'')
    (h : ∀ m, wpQuiet Tryd.prog (l.take n ++ (⟨some d, .call { callee := .value (.func 39), args := #[.tmp s], argTypes := tys }, ty, pos, aft, none⟩ :: l.drop (n + 1)).map (fk m)).toArray (fun w' => ∃ n : Out w, w' = n.u) (fun a' => a'.tmps.getD d undef = m ∧ ∀ p ∈ [(s, Value.pointer (some ⟨g, 0, none⟩))], a'.tmps.getD p.1 undef = p.2) (l.take n ++ (⟨some d, .call { callee := .value (.func 39), args := #[.tmp s], argTypes := tys }, ty, pos, aft, none⟩ :: l.drop (n + 1)).map (fk m)) a) :
    (Code.region id l.toArray true).wp Tryd.prog Q a w := by
  refine wp_region_dies (C := fun w' => ∃ n : Out w, w' = n.u) (l.take n) _ (l.drop (n + 1)) d [(s, .pointer (some ⟨g, 0, none⟩))] l ho (by kernel_rfl) hB hB2 rfl rfl ⟨⟨_, (Below.refl _ _).drew⟩, rfl⟩ h ?_
  rintro a' w' K ⟨n, rfl⟩ hd hp
  have h1 : a'.tmps.getD s undef = .pointer (some ⟨g, 0, none⟩) := hp (s, _) (by simp)
  unfold Oper.wp
  have hrun : (execOp a'.eval ⟨some d, .call { callee := .value (.func 39), args := #[.tmp s], argTypes := tys }, ty, pos, aft, none⟩).run Tryd.prog n.u = .ok (.enter 39 #[.pointer (some ⟨g, 0, none⟩)]) n.u := by
    have h2 : a'.tmps[s]?.getD undef = .pointer (some ⟨g, 0, none⟩) := by rw [← Array.getD_eq_getD_getElem?]; exact h1
    simp [execOp, h2, go_sem, Act.eval, Tryd.func39]
  rw [hrun, Oper.upon_enter]
  refine (hc n.u n.out).mono ?_
  rintro e w'' ⟨rfl, hq⟩
  exact hq a' hd

/-- A Row read. -/
def getRow (before xs : List UInt8) : Option (List UInt8 × List UInt8) :=
  match getNum xs with
  | none => none
  | some (n, t1) =>
    if before.length < n then none else
    match getStr t1 with
    | none => none
    | some (rest, t2) => if shared before (before.take n ++ rest) = n then some (before.take n ++ rest, t2) else none
def RowP (w : World) (base g b : Nat) (bf : ByteArray) (xs : List UInt8) (code : Int) (e : Ending) (w' : World) : Prop :=
  Chg (fun k => k = g) w w' ∧ ((∃ (s : ByteArray) (t : List UInt8), getRow (bl bf) xs = some (bl s, t) ∧ e = .returned (.string s) ∧ s.size + t.length ≤ bf.size + xs.length ∧ t.length ≤ xs.length ∧ RdE w' base g b t code) ∨ (getRow (bl bf) xs = none ∧ e = Corr code))
set_option maxHeartbeats 2000000 in
theorem rdRow_core (base g b : Nat) (bf : ByteArray) (xs : List UInt8) (code : Int) (w : World) (h : RdE w base g b xs code) (hbf : bf.size ≤ 2 ^ 31) (hxs : xs.length ≤ 2 ^ 30) :
    Calls Tryd.prog 40 #[.pointer (some ⟨g, 0, none⟩), .string bf] w fun e w' => RowP w base g b bf xs code e w' := by
  have HR : Hid (RdE w base g b xs code) := h
  clear h
  go_enter Tryd.func40, Tryd.ntmps40
  go_wp2_with fail
  refine (number_core base g b xs code _ HR.out).mono ?_
  rintro e w1 ⟨hC1, (⟨n, t, hn, rfl, hn2, ht, hR1⟩ | ⟨hn, rfl⟩)⟩
  · have HG : Hid (getNum xs = some (n, t) ∧ t.length ≤ xs.length ∧ n < 2 ^ 64) := ⟨hn, ht, hn2⟩
    have HC1 : Hid (Chg (fun k => k = g) w w1) := hC1
    obtain ⟨off, cap, hA⟩ := hR1
    have HA : Hid (RdAt w1 base g b off cap t code) := hA
    have c1 := hA.box.cell (j := 1) rfl
    clear hn hA hC1 hn2 ht
    by_cases hle : n ≤ bf.size
    · have z1 : (n : Int) ≤ (bf.size : Int) := by omega
      have z2 : (bf.size : Int) ≤ 2147483648 := by omega
      go_wp2_with (go_at_call 26; refine (demand_yes _ _).mono ?_; rintro e w3 ⟨rfl, rfl⟩)
      clear c1
      cases hg : getStr t with
      | none =>
        have HG2 : Hid (getRow (bl bf) xs = none ∧ getStr t = none) := by
          refine ⟨?_, hg⟩
          show getRow (bl bf) xs = none
          unfold getRow
          rw [HG.out.1]
          simp only []
          rw [if_neg (by rw [bl_len]; omega), hg]
        clear hg
        refine wp_region_text 4 23 22 g code rfl (fun m => by kernel_rfl) (by kernel_rfl) ?q ?_
        case q =>
          intro w' hb
          refine (text_bad base g b t code w' ⟨_, _, HA.out.chg (S := fun _ => False) (Chg.of_below hb) (fun q => q) (fun q => q)⟩ HG2.out.2).mono ?_
          rintro e w'' ⟨rfl, hC⟩
          exact ⟨rfl, fun a' hd => ⟨hd, HC1.out.trans ((Chg.of_below hb).trans hC), .inr ⟨HG2.out.1, rfl⟩⟩⟩
        intro m
        dsimp only [List.take, List.drop, List.map, fk, List.cons_append, List.nil_append]
        repeat (go_big_quiet_step (rfl))
        refine wpQuiet_nil ?_
        exact ⟨rfl, slots1 rfl⟩
      | some p =>
        obtain ⟨rl, t2⟩ := p
        obtain ⟨rest, hrest⟩ : ∃ rest : ByteArray, rest = ba rl := ⟨_, rfl⟩
        have HG2 : Hid (getStr t = some (bl rest, t2)) := by rw [hrest, bl_ba]; exact hg
        clear hg hrest
        have HE : Hid (∀ w', w' = w3.drew → RdE w' base g b t code) := fun w' hw' => by
          rw [hw']
          exact ⟨_, _, HA.out.chg (S := fun _ => False) (Chg.of_below (Below.refl _ _).drew) (fun q => q) (fun q => q)⟩
        have hrs : rest.size ≤ 1073741824 := by
          obtain ⟨_, h2⟩ := getStr_iff.1 HG2.out
          have h3 : (bl rest).length ≤ t.length := by rw [h2]; unfold strB; simp; omega
          rw [bl_len] at h3
          have := HG.out.2.1
          omega
        have hbs : bf.size ≤ 2147483648 := by omega
        go_region_with (go_at_call 39; refine (text_ok base g b t code _ (HE.out _ rfl) rest t2 HG2.out).mono ?_; rintro e w4 ⟨rfl, hsz, hR4, hC4⟩)
        obtain ⟨rw', hrw⟩ : ∃ s : ByteArray, s = bf.extract 0 n ++ rest := ⟨_, rfl⟩
        have hRow : bl rw' = (bl bf).take n ++ bl rest := by
          rw [hrw]
          show (bf.extract 0 n ++ rest).data.toList = _
          rw [ByteArray.data_append, Array.toList_append, Lib.extract_data]
          simp
        have hrsz : rw'.size = n + rest.size := by
          rw [← bl_len, hRow, List.length_append, bl_len, List.length_take, bl_len]
          omega
        obtain ⟨sh, hsh⟩ : ∃ sh, sh = shared (bl bf) (bl rw') := ⟨_, rfl⟩
        have HG3 : Hid (getRow (bl bf) xs = if sh = n then some (bl rw', t2) else none) := by
          show getRow (bl bf) xs = _
          unfold getRow
          rw [HG.out.1]
          simp only []
          rw [if_neg (by rw [bl_len]; omega), HG2.out]
          simp only []
          rw [← hRow, hsh]
        have HS : Hid (∀ w', Calls Tryd.prog 45 #[.string bf, .string rw'] w' fun e w'' => e = .returned (.int .i64 (sh : Int)) ∧ Below w'.heap.size w' w'') := fun w' => by
          rw [hsh]
          exact implShared_core bf rw' w' (by unfold maxLen; omega) (by unfold maxLen; omega)
        obtain ⟨off4, cap4, hA4⟩ := hR4
        have HA4 : Hid (RdAt w4 base g b off4 cap4 t2 code ∧ Chg (fun k => k = g) w w4 ∧ rw'.size + t2.length ≤ bf.size + xs.length ∧ t2.length ≤ xs.length) := by
          have := HG.out.2.1
          exact ⟨hA4, (HC1.out.trans (Chg.of_below (Below.refl _ _).drew)).trans hC4, by omega, by omega⟩
        have c1 := hA4.box.cell (j := 1) rfl
        have glt := hA4.box.lt.2
        have e1 : ∀ n : Out w4, n.u.cell? ⟨g, 1, none⟩ = some (.int .i64 code) := fun n => (n.out.cell (p := ⟨g, 1, none⟩) glt).trans c1
        have hn9 : (n : Int) ≤ 2147483648 := by omega
        rw [← hrw]
        clear hrw hRow hsh hA4 hC4 hsz c1 glt hrsz hrs hbs HE HG2
        simp only [List.getElem_toArray, List.getElem_cons_succ, List.getElem_cons_zero, Act.put, List.setIfInBounds_toArray, List.set_cons_succ, List.set_cons_zero]
        go_upto_region 4 with fail
        by_cases hsn : sh = n
        · subst hsn
          refine wp_region_out (by kernel_rfl) (by kernel_rfl) ?_
          repeat (go_big_quiet_step ((first | rfl | (go_at_call 45; exact Calls.out_of (HS.out _)) | (go_at_call 26; exact Calls.out_of ((demand_yes _ _).mono fun e w' ⟨he, hw⟩ => ⟨he, hw ▸ Below.refl _ _⟩)))))
          refine wpQuiet_nil ?_
          rintro wy ⟨⟨wx, hby⟩, rfl⟩
          go_wp2_with fail
          go_ret
          have h3 := HG3.out
          rw [if_pos trivial] at h3
          have hc := HA4.out.2.1.trans (Chg.of_below hby)
          exact ⟨hc, .inl ⟨rw', t2, h3, rfl, HA4.out.2.2.1, HA4.out.2.2.2, ⟨_, _, HA4.out.1.chg (S := fun _ => False) (Chg.of_below hby) (fun q => q) (fun q => q)⟩⟩⟩
        · have h3 := HG3.out
          rw [if_neg hsn] at h3
          have HF : Hid (getRow (bl bf) xs = none) := h3
          have z9 : ¬ (sh : Int) = (n : Int) := by omega
          clear h3 HG3 hsn
          refine wp_region_demand 35 30 (.tmp 34) code [(30, .bool false), (34, .int .i64 code)] rfl (fun m => by kernel_rfl) (by kernel_rfl) (fun a' h => ⟨h (30, _) (by simp), h (34, _) (by simp)⟩) ?q ?_
          case q => exact fun a' w' hb hd => ⟨hd, HA4.out.2.1.trans (Chg.of_below hb), .inr ⟨HF.out, rfl⟩⟩
          intro m
          dsimp only [List.dropLast, fk, List.cons_append, List.nil_append]
          repeat (go_big_quiet_step ((first | rfl | (go_at_call 45; exact Calls.out_of (HS.out _)))))
          refine wpQuiet_nil ?_
          exact ⟨rfl, slots2 (congrArg Value.bool (beq_eq_false_iff_ne.2 z9)) rfl⟩
    · have z1 : ¬ (n : Int) ≤ (bf.size : Int) := by omega
      have z2 : (bf.size : Int) ≤ 2147483648 := by omega
      have HG2 : Hid (getRow (bl bf) xs = none) := by
        show getRow (bl bf) xs = none
        unfold getRow
        rw [HG.out.1]
        simp only []
        rw [if_pos (by rw [bl_len]; omega)]
      go_wp2_with (go_at_call 26; refine (demand_no _ _).mono ?_; rintro e w3 ⟨rfl, rfl⟩)
      exact ⟨rfl, HC1.out, .inr ⟨HG2.out, rfl⟩⟩
  · have HG2 : Hid (getRow (bl bf) xs = none) := by
      show getRow (bl bf) xs = none
      unfold getRow
      rw [hn]
    exact ⟨rfl, hC1, .inr ⟨HG2.out, rfl⟩⟩
end Go.Proofs.YtnncedndlhfdkabDoor

/-
  An entry read in the program's order (mathematics).
-/
namespace Go.Proofs.YtnncedndlhfdkabDoor
set_option linter.unusedVariables false
set_option linter.unusedSimpArgs false

def eT5 (row fam qual : List UInt8) (ts kind : Nat) (t6 : List UInt8) : Option (Ent × List UInt8) :=
  match getStr t6 with
  | none => none
  | some (val, t7) => if 2 < kind ∨ (⟨ba row, ba fam, ba qual, (ts : Int), (kind : Int), ba val⟩ : Ent).vld = false then none else some (⟨ba row, ba fam, ba qual, (ts : Int), (kind : Int), ba val⟩, t7)
def eT4 (row fam qual : List UInt8) (ts : Nat) (t5 : List UInt8) : Option (Ent × List UInt8) :=
  match getNum t5 with
  | none => none
  | some (kind, t6) => eT5 row fam qual ts kind t6
def eT3 (row fam qual t4 : List UInt8) : Option (Ent × List UInt8) :=
  match getNum t4 with
  | none => none
  | some (ts, t5) => eT4 row fam qual ts t5
def eT2 (row fam t3 : List UInt8) : Option (Ent × List UInt8) :=
  match getStr t3 with
  | none => none
  | some (qual, t4) => eT3 row fam qual t4
def eT1 (row t2 : List UInt8) : Option (Ent × List UInt8) :=
  match getStr t2 with
  | none => none
  | some (fam, t3) => eT2 row fam t3
theorem getEnt_row (b xs : List UInt8) : getEnt b xs = match getRow b xs with | none => none | some (row, t) => eT1 row t := by
  unfold getRow getEnt
  cases getNum xs with
  | none => rfl
  | some p =>
    obtain ⟨n, t1⟩ := p
    simp only []
    cases getStr t1 with
    | none =>
      simp only []
      by_cases h : b.length < n
      · rw [if_pos h]
      · rw [if_neg h]
    | some q =>
      obtain ⟨rest, t2⟩ := q
      simp only []
      by_cases h : b.length < n
      · rw [if_pos h, if_pos h]
      · rw [if_neg h, if_neg h]
        by_cases hs : shared b (b.take n ++ rest) = n
        · rw [if_pos hs]
          simp only [hs, not_true_eq_false, false_or]
          unfold eT1
          cases getStr t2 with
          | none => rfl
          | some q1 =>
            obtain ⟨fam, t3⟩ := q1
            simp only [eT2]
            cases getStr t3 with
            | none => rfl
            | some q2 =>
              obtain ⟨qual, t4⟩ := q2
              simp only [eT3]
              cases getNum t4 with
              | none => rfl
              | some q3 =>
                obtain ⟨ts, t5⟩ := q3
                simp only [eT4]
                cases getNum t5 with
                | none => rfl
                | some q4 =>
                  obtain ⟨kind, t6⟩ := q4
                  simp only [eT5]
                  all_goals (cases getStr t6 <;> rfl)
        · rw [if_neg hs]
          simp only [hs, not_false_eq_true, true_or, or_true, if_true]
          cases getStr t2 with
          | none => rfl
          | some q1 =>
            simp only []
            cases getStr q1.2 with
            | none => rfl
            | some q2 =>
              simp only []
              cases getNum q2.2 with
              | none => rfl
              | some q3 =>
                simp only []
                cases getNum q3.2 with
                | none => rfl
                | some q4 =>
                  simp only []
                  cases getStr q4.2 <;> rfl
theorem vE_kind {r f q v : ByteArray} {k : Int} (h : k < 0 ∨ 2 < k) : vE r f q k v = false := by
  unfold vE
  simp
  omega
end Go.Proofs.YtnncedndlhfdkabDoor

/-
  spec.l1Into: an entry laid into an ordered list.
-/
namespace Go.Proofs.YtnncedndlhfdkabDoor
open Go.ChangeShapes Go.WideShapes Go.ChangeAt Go.RowKit Go.Deep
set_option linter.unusedVariables false

/-- One entry appended to a row of the call's own. -/
theorem wpList_append_ent {ops : Array Oper} {rest : List Oper} {o : Oper} {a : Act} {Q : Exit → Act → World → Prop} (w : World) (hgd : o.guard = none) (s x : Operand)
    (ho : o.op = .call { callee := .builtin .append, args := #[s, x], argTypes := #[38, 38] })
    (base g cp n blk : Nat) (fs : List Ent) (e : Ent) (hs : a.eval s = .slice (some ⟨g, 0, none⟩) n cp) (hx : a.eval x = .slice (some ⟨blk, 0, none⟩) 1 1) (hn : n = fs.length) (hO : OwnE w base g cp fs)
    (hc : EntsAt w blk 0 [e]) (hlen : fs.length ≤ 2 ^ 30) (hbase : base ≤ w.heap.size)
    (h : ∀ g' cp' w', OwnE w' base g' cp' (fs ++ [e]) → w.grownBy w' (some g) → wpList Tryd.prog ops Q rest (a.put o.dst (.slice (some ⟨g', 0, none⟩) (n + 1) cp')) w') : wpList Tryd.prog ops Q (o :: rest) a w := by
  obtain ⟨i, hi, hz0, hz1, hz2⟩ := info_parts Tryd.infoEnt
  subst hn
  obtain ⟨c0, c1, c2, c3, c4, c5⟩ := hc 0 e rfl
  refine wpList_append_own w hgd s x 38 ho base 25 i _ 6 80 Tryd.underlying38 hi hz0 hz1 hz2 rfl (by decide) (.slice (some ⟨g, 0, none⟩) fs.length cp) fs.length (cellsE fs) hs hO ⟨blk, 0, none⟩ 1 1 (cellsE [e]) hx rfl ?_ ?_ ?_ ?_ hbase ?_
  · intro j u hu
    have hj : j < 6 := by
      have := (List.getElem?_eq_some_iff.1 hu).1
      rw [length_cellsE] at this
      simpa using this
    rw [Addr.add_mid, Nat.zero_add]
    simp only [Nat.zero_mul, Nat.zero_add] at c0 c1 c2 c3 c4 c5
    match j, hj, hu with
    | 0, _, hu => simp [cellsE] at hu; rw [← hu]; exact c0
    | 1, _, hu => simp [cellsE] at hu; rw [← hu]; exact c1
    | 2, _, hu => simp [cellsE] at hu; rw [← hu]; exact c2
    | 3, _, hu => simp [cellsE] at hu; rw [← hu]; exact c3
    | 4, _, hu => simp [cellsE] at hu; rw [← hu]; exact c4
    | 5, _, hu => simp [cellsE] at hu; rw [← hu]; exact c5
  · intro u hu
    simp [cellsE] at hu
    rcases hu with rfl | rfl | rfl | rfl | rfl | rfl <;> rfl
  · unfold maxLen; omega
  · omega
  · intro v' w' hown hgr hnil
    rw [← cellsE_append] at hown
    have hlen' : (fs ++ [e]).length = fs.length + 1 := by simp
    rcases hown.2 with ⟨hv, _⟩ | ⟨g', cap', cur, hv, h1, h2, h3⟩
    · have := (hnil.1 hv).1
      simp at this
    · subst hv
      exact h g' cap' w' (by unfold OwnE; rw [hlen']; exact hown) hgr

/-- An entry laid into an ordered list, in the place of one with the same key. -/
def intoG (e : Ent) : List Ent → Bool → List Ent
  | [], done => if done then [] else [e]
  | x :: r, done =>
    if keyCmp x e = -1 then x :: intoG e r done
    else if keyCmp x e = 0 then (if done then intoG e r true else e :: intoG e r true)
    else (if done then x :: intoG e r true else e :: x :: intoG e r true)
def into (L : List Ent) (e : Ent) : List Ent := intoG e L false

theorem length_intoG (e : Ent) : ∀ (L : List Ent) (d : Bool), (intoG e L d).length ≤ L.length + 1
  | [], d => by unfold intoG; split <;> simp
  | x :: r, d => by
    have h1 := length_intoG e r d
    have h2 := length_intoG e r true
    have h3 : ∀ (L : List Ent), (intoG e L true).length ≤ L.length := by
      intro L
      induction L with
      | nil => simp [intoG]
      | cons y s ih =>
        unfold intoG
        split
        · simp; omega
        · split
          · simp; omega
          · simp; omega
    have h4 := h3 r
    unfold intoG
    split
    · simp; omega
    · split
      · split <;> simp <;> omega
      · split <;> simp <;> omega

end Go.Proofs.YtnncedndlhfdkabDoor

/-
  The order of keys is a strict order; ordered lists with the same members are one.
-/
namespace Go.Proofs.YtnncedndlhfdkabDoor
set_option linter.unusedVariables false

theorem cmpB_zero : ∀ a b : List UInt8, Lib.compareBytes a b = 0 ↔ a = b
  | [], [] => by simp [Lib.compareBytes]
  | [], _ :: _ => by simp [Lib.compareBytes]
  | _ :: _, [] => by simp [Lib.compareBytes]
  | a :: x, b :: y => by
    unfold Lib.compareBytes
    by_cases h1 : a < b
    · rw [if_pos h1]
      constructor
      · intro h; cases h
      · intro h
        simp at h
        rw [h.1] at h1
        simp at h1
    · rw [if_neg h1]
      by_cases h2 : b < a
      · rw [if_pos h2]
        constructor
        · intro h; cases h
        · intro h
          simp at h
          rw [h.1] at h2
          simp at h2
      · rw [if_neg h2, cmpB_zero x y]
        have hab : a = b := by
          rw [UInt8.lt_iff_toNat_lt] at h1 h2
          exact UInt8.toNat_inj.1 (by omega)
        simp [hab]
theorem cmpB_neg : ∀ a b : List UInt8, Lib.compareBytes b a = -Lib.compareBytes a b
  | [], [] => by simp [Lib.compareBytes]
  | [], _ :: _ => by simp [Lib.compareBytes]
  | _ :: _, [] => by simp [Lib.compareBytes]
  | a :: x, b :: y => by
    unfold Lib.compareBytes
    have := cmpB_neg x y
    simp only [UInt8.lt_iff_toNat_lt]
    by_cases h1 : a.toNat < b.toNat
    · have h2 : ¬ b.toNat < a.toNat := by omega
      simp [h1, h2]
    · by_cases h2 : b.toNat < a.toNat
      · simp [h1, h2]
      · simp [h1, h2, this]
theorem cmpB_trans : ∀ a b c : List UInt8, Lib.compareBytes a b = -1 → Lib.compareBytes b c = -1 → Lib.compareBytes a c = -1
  | [], [], _ => by simp [Lib.compareBytes]
  | [], _ :: _, [] => by simp [Lib.compareBytes]
  | [], _ :: _, _ :: _ => by simp [Lib.compareBytes]
  | _ :: _, [], _ => by simp [Lib.compareBytes]
  | _ :: _, _ :: _, [] => by simp [Lib.compareBytes]
  | a :: x, b :: y, c :: z => by
    have ih := cmpB_trans x y z
    unfold Lib.compareBytes
    simp only [UInt8.lt_iff_toNat_lt]
    intro h1 h2
    by_cases h3 : a.toNat < c.toNat
    · simp [h3]
    · by_cases p1 : a.toNat < b.toNat
      · by_cases p2 : b.toNat < c.toNat
        · omega
        · by_cases p3 : c.toNat < b.toNat
          · simp [p2, p3] at h2
          · omega
      · by_cases p2 : b.toNat < a.toNat
        · simp [p1, p2] at h1
        · by_cases q1 : b.toNat < c.toNat
          · omega
          · by_cases q2 : c.toNat < b.toNat
            · simp [q1, q2] at h2
            · simp [p1, p2] at h1
              simp [q1, q2] at h2
              have r1 : ¬ c.toNat < a.toNat := by omega
              simp [h3, r1]
              exact ih h1 h2

theorem cB_zero {a b : ByteArray} : cB a b = 0 ↔ a = b := by
  unfold cB
  rw [cmpB_zero]
  constructor
  · intro h; cases a; cases b; simp at h; simpa using h
  · intro h; rw [h]
theorem cB_neg (a b : ByteArray) : cB b a = -cB a b := cmpB_neg _ _
theorem cB_trans {a b c : ByteArray} (h : cB a b = -1) (k : cB b c = -1) : cB a c = -1 := cmpB_trans _ _ _ h k

theorem tsCmp_neg (a b : Int) : tsCmp b a = -tsCmp a b := by
  unfold tsCmp; repeat' split
  all_goals omega
theorem kindCmp_neg (a b : Int) : kindCmp b a = -kindCmp a b := by
  unfold kindCmp; repeat' split
  all_goals omega
theorem firstOf_neg (a b : Int) : firstOf (-a) (-b) = -firstOf a b := by
  unfold firstOf
  by_cases h : a = 0
  · simp [h]
  · simp [h]
theorem keyCmp_neg (a b : Ent) : keyCmp b a = -keyCmp a b := by
  unfold keyCmp
  rw [cB_neg a.row b.row, cB_neg a.fam b.fam, cB_neg a.qual b.qual, kindCmp_neg a.kind b.kind, tsCmp_neg a.ts b.ts, firstOf_neg, firstOf_neg, firstOf_neg, firstOf_neg]

/-- 'firstOf' of two three-valued comparisons that are each an order. -/
theorem firstOf_trans {a b c a' b' c' : Int} (h0 : a = 0 → b = 0 → c = 0) (h1 : a = -1 → b = -1 → c = -1) (h2 : a = -1 → b = 0 → c = -1) (h3 : a = 0 → b = -1 → c = -1)
    (ta : tri a) (tb : tri b) (k : a' = -1 → b' = -1 → c' = -1) (x : firstOf a a' = -1) (y : firstOf b b' = -1) : firstOf c c' = -1 := by
  unfold firstOf at *
  unfold tri at *
  by_cases ha : a = 0
  · rw [if_pos ha] at x
    by_cases hb : b = 0
    · rw [if_pos hb] at y
      rw [if_pos (h0 ha hb)]; exact k x y
    · rw [if_neg hb] at y
      have := h3 ha y
      rw [if_neg (by omega)]; exact this
  · rw [if_neg ha] at x
    by_cases hb : b = 0
    · have := h2 x hb
      rw [if_neg (by omega)]; exact this
    · rw [if_neg hb] at y
      have := h1 x y
      rw [if_neg (by omega)]; exact this
theorem cB_pack (a b c : ByteArray) : (cB a b = 0 → cB b c = 0 → cB a c = 0) ∧ (cB a b = -1 → cB b c = -1 → cB a c = -1) ∧ (cB a b = -1 → cB b c = 0 → cB a c = -1) ∧ (cB a b = 0 → cB b c = -1 → cB a c = -1) := by
  refine ⟨fun h k => ?_, fun h k => cB_trans h k, fun h k => ?_, fun h k => ?_⟩
  · rw [cB_zero] at *; rw [h, k]
  · rw [cB_zero] at k; rw [← k]; exact h
  · rw [cB_zero] at h; rw [h]; exact k
theorem keyCmp_trans {a b c : Ent} (h : keyCmp a b = -1) (k : keyCmp b c = -1) : keyCmp a c = -1 := by
  obtain ⟨r0, r1, r2, r3⟩ := cB_pack a.row b.row c.row
  obtain ⟨f0, f1, f2, f3⟩ := cB_pack a.fam b.fam c.fam
  obtain ⟨q0, q1, q2, q3⟩ := cB_pack a.qual b.qual c.qual
  refine firstOf_trans r0 r1 r2 r3 (cB_vals _ _) (cB_vals _ _) (fun h k => ?_) h k
  refine firstOf_trans f0 f1 f2 f3 (cB_vals _ _) (cB_vals _ _) (fun h k => ?_) h k
  refine firstOf_trans q0 q1 q2 q3 (cB_vals _ _) (cB_vals _ _) (fun h k => ?_) h k
  refine firstOf_trans ?_ ?_ ?_ ?_ (tri_kind _ _) (tri_kind _ _) (fun h k => ?_) h k
  · unfold kindCmp; (repeat' split) <;> omega
  · unfold kindCmp; (repeat' split) <;> omega
  · unfold kindCmp; (repeat' split) <;> omega
  · unfold kindCmp; (repeat' split) <;> omega
  · unfold tsCmp at *
    (repeat' split at h) <;> (repeat' split at k) <;> (repeat' split) <;> omega
theorem keyCmp_self (a : Ent) : keyCmp a a = 0 := by
  have := keyCmp_neg a a
  omega

/-- Ordered, no key twice. -/
def Ord (l : List Ent) : Prop := l.Pairwise fun a b => keyCmp a b = -1
theorem ord_ext : ∀ {l m : List Ent}, Ord l → Ord m → (∀ x, x ∈ l ↔ x ∈ m) → l = m
  | [], [], _, _, _ => rfl
  | [], b :: m, _, _, h => by have := (h b).2 (by simp); simp at this
  | a :: l, [], _, _, h => by have := (h a).1 (by simp); simp at this
  | a :: l, b :: m, hl, hm, h => by
    have hl' := List.pairwise_cons.1 hl
    have hm' := List.pairwise_cons.1 hm
    have hab : a = b := by
      rcases List.mem_cons.1 ((h a).1 (by simp)) with e | e
      · exact e
      · rcases List.mem_cons.1 ((h b).2 (by simp)) with e' | e'
        · exact e'.symm
        · have h1 := hm'.1 a e
          have h2 := hl'.1 b e'
          have := keyCmp_neg a b
          omega
    subst hab
    congr 1
    refine ord_ext hl'.2 hm'.2 (fun x => ⟨fun hx => ?_, fun hx => ?_⟩)
    · rcases List.mem_cons.1 ((h x).1 (List.mem_cons_of_mem _ hx)) with e | e
      · subst e
        have := hl'.1 x hx
        rw [keyCmp_self] at this
        omega
      · exact e
    · rcases List.mem_cons.1 ((h x).2 (List.mem_cons_of_mem _ hx)) with e | e
      · subst e
        have := hm'.1 x hx
        rw [keyCmp_self] at this
        omega
      · exact e

theorem firstOf_zero {a b : Int} : firstOf a b = 0 ↔ a = 0 ∧ b = 0 := by
  unfold firstOf
  by_cases h : a = 0
  · simp [h]
  · simp [h]
theorem kindCmp_zero {a b : Int} : kindCmp a b = 0 ↔ (a = 2 ↔ b = 2) := by
  unfold kindCmp
  by_cases h : a = 2 <;> by_cases k : b = 2 <;> simp [h, k]
theorem tsCmp_zero {a b : Int} : tsCmp a b = 0 ↔ a = b := by
  unfold tsCmp
  (repeat' split) <;> omega
theorem keyCmp_zero {a b : Ent} : keyCmp a b = 0 ↔ a.row = b.row ∧ a.fam = b.fam ∧ a.qual = b.qual ∧ (a.kind = 2 ↔ b.kind = 2) ∧ a.ts = b.ts := by
  unfold keyCmp
  rw [firstOf_zero, firstOf_zero, firstOf_zero, firstOf_zero, cB_zero, cB_zero, cB_zero, kindCmp_zero, tsCmp_zero]
theorem kindCmp_congr {a b c : Int} (h : a = 2 ↔ b = 2) : kindCmp a c = kindCmp b c := by
  unfold kindCmp
  by_cases k : a = 2
  · rw [if_pos k, if_pos (h.1 k)]
  · rw [if_neg k, if_neg (fun x => k (h.2 x))]
theorem keyCmp_congr {a b c : Ent} (h : keyCmp a b = 0) : keyCmp a c = keyCmp b c := by
  obtain ⟨h1, h2, h3, h4, h5⟩ := keyCmp_zero.1 h
  unfold keyCmp
  rw [h1, h2, h3, h5, kindCmp_congr h4]

theorem intoG_true (e : Ent) : ∀ L : List Ent, (∀ x ∈ L, keyCmp e x = -1) → intoG e L true = L
  | [], _ => rfl
  | x :: r, h => by
    have h1 := h x (by simp)
    have h2 := keyCmp_neg e x
    have h3 : keyCmp x e = 1 := by omega
    unfold intoG
    rw [if_neg (by omega), if_neg (by omega), if_pos rfl, intoG_true e r (fun y hy => h y (List.mem_cons_of_mem _ hy))]
theorem into_spec (e : Ent) : ∀ L : List Ent, Ord L → Ord (intoG e L false) ∧ ∀ x, x ∈ intoG e L false ↔ x = e ∨ (x ∈ L ∧ keyCmp x e ≠ 0)
  | [], _ => ⟨by simp [intoG, Ord], fun x => by simp [intoG]⟩
  | x :: r, h => by
    have h' := List.pairwise_cons.1 h
    obtain ⟨ih1, ih2⟩ := into_spec e r h'.2
    rcases keyCmp_vals x e with hc | hc | hc
    · have e1 : intoG e (x :: r) false = x :: intoG e r false := by simp [intoG, hc]
      rw [e1]
      refine ⟨List.pairwise_cons.2 ⟨fun y hy => ?_, ih1⟩, fun y => ?_⟩
      · rcases (ih2 y).1 hy with rfl | ⟨hy, _⟩
        · exact hc
        · exact h'.1 y hy
      · rw [List.mem_cons, ih2, List.mem_cons]
        constructor
        · rintro (rfl | rfl | ⟨h1, h2⟩)
          · exact .inr ⟨.inl rfl, by omega⟩
          · exact .inl rfl
          · exact .inr ⟨.inr h1, h2⟩
        · rintro (rfl | ⟨rfl | h1, h2⟩)
          · exact .inr (.inl rfl)
          · exact .inl rfl
          · exact .inr (.inr ⟨h1, h2⟩)
    · have hr : ∀ y ∈ r, keyCmp e y = -1 := fun y hy => by rw [← keyCmp_congr hc]; exact h'.1 y hy
      have e1 : intoG e (x :: r) false = e :: r := by
        simp [intoG, hc, intoG_true e r hr]
      rw [e1]
      refine ⟨List.pairwise_cons.2 ⟨hr, h'.2⟩, fun y => ?_⟩
      rw [List.mem_cons, List.mem_cons]
      constructor
      · rintro (rfl | h1)
        · exact .inl rfl
        · have h2 := hr y h1
          have h3 := keyCmp_neg e y
          exact .inr ⟨.inr h1, by omega⟩
      · rintro (rfl | ⟨rfl | h1, h2⟩)
        · exact .inl rfl
        · exact absurd hc h2
        · exact .inr h1
    · have hx : keyCmp e x = -1 := by
        have := keyCmp_neg x e
        omega
      have hr : ∀ y ∈ r, keyCmp e y = -1 := fun y hy => keyCmp_trans hx (h'.1 y hy)
      have e1 : intoG e (x :: r) false = e :: x :: r := by
        simp [intoG, hc, intoG_true e r hr]
      rw [e1]
      refine ⟨List.pairwise_cons.2 ⟨fun y hy => ?_, h⟩, fun y => ?_⟩
      · rcases List.mem_cons.1 hy with rfl | hy
        · exact hx
        · exact hr y hy
      · rw [List.mem_cons]
        constructor
        · rintro (rfl | h1)
          · exact .inl rfl
          · refine .inr ⟨h1, ?_⟩
            have h3 := keyCmp_neg e y
            rcases List.mem_cons.1 h1 with rfl | h1
            · omega
            · have := hr y h1
              omega
        · rintro (rfl | ⟨h1, _⟩)
          · exact .inl rfl
          · exact .inr h1
end Go.Proofs.YtnncedndlhfdkabDoor

/-
  spec.l2Index.
-/
namespace Go.Proofs.YtnncedndlhfdkabDoor
open Go.ChangeShapes Go.WideShapes Go.ChangeAt Go.RowKit Go.Deep
set_option linter.unusedVariables false
set_option linter.unusedSimpArgs false
set_option maxRecDepth 100000

abbrev Blk.four (b : Blk) : List Value := [.int .i64 (b.fr : Int), .int .i64 (b.til : Int), .int .i64 (b.count : Int), .string b.row]
def cellsL (l : List Blk) : List Value := l.flatMap Blk.four
theorem cellsL_append (l k : List Blk) : cellsL (l ++ k) = cellsL l ++ cellsL k := by simp [cellsL]
theorem length_cellsL (l : List Blk) : (cellsL l).length = l.length * 4 := by
  induction l with
  | nil => rfl
  | cons e l ih => rw [show cellsL (e :: l) = e.four ++ cellsL l by simp [cellsL], List.length_append, ih]; simp; omega
theorem cellsL_get (l : List Blk) : ∀ (k : Nat) (e : Blk), l[k]? = some e → ∀ j, j < 4 → (cellsL l)[k * 4 + j]? = e.four[j]? := by
  induction l with
  | nil => intro k e h; simp at h
  | cons f l ih =>
    intro k e h j hj
    rw [show cellsL (f :: l) = f.four ++ cellsL l by simp [cellsL]]
    cases k with
    | zero =>
      simp at h; subst h
      rw [List.getElem?_append_left (by show 0 * 4 + j < 4; omega)]
      simp
    | succ k =>
      simp at h
      rw [List.getElem?_append_right (by show 4 ≤ (k + 1) * 4 + j; omega)]
      have : (k + 1) * 4 + j - f.four.length = k * 4 + j := by show (k + 1) * 4 + j - 4 = _; omega
      rw [this]; exact ih k e h j hj
/-- A row of blocks of the index, of the call's own. -/
def OwnI (w : World) (base g cp : Nat) (l : List Blk) : Prop := w.ownsRow base 37 4 (.slice (some ⟨g, 0, none⟩) l.length cp) l.length (cellsL l)
theorem OwnI.lt {w : World} {base g cp : Nat} {l : List Blk} (h : OwnI w base g cp l) : base ≤ g ∧ g < w.heap.size := World.ownsRow.lt h g rfl
theorem OwnI.chg {S : Nat → Prop} {w w' : World} {base g cp : Nat} {l : List Blk} (h : OwnI w base g cp l) (hc : Chg S w w') (hn : ¬ S g) : OwnI w' base g cp l := own_chg h hc (fun k q => by simp [Value.ownBlock] at q; subst q; exact hn)
theorem OwnI.below {w w' : World} {base g cp : Nat} {l : List Blk} (h : OwnI w base g cp l) (hb : Below w.heap.size w w') : OwnI w' base g cp l := h.chg (Chg.of_below hb) (S := fun _ => False) (fun q => q)
theorem OwnI.mono {w : World} {base base' g cp : Nat} {l : List Blk} (h : OwnI w base g cp l) (hb : base' ≤ base) : OwnI w base' g cp l := by
  refine ⟨h.1, ?_⟩
  rcases h.2 with hn | ⟨g', cap', cur, hv, h1, rest⟩
  · exact .inl hn
  · exact .inr ⟨g', cap', cur, hv, Nat.le_trans hb h1, rest⟩
theorem OwnI.at {w : World} {base g cp : Nat} {l : List Blk} (h : OwnI w base g cp l) {k : Nat} {e : Blk} (he : l[k]? = some e) :
    w.cell? ⟨g, k * 4, none⟩ = some (.int .i64 (e.fr : Int)) ∧ w.cell? ⟨g, k * 4 + 1, none⟩ = some (.int .i64 (e.til : Int)) ∧ w.cell? ⟨g, k * 4 + 2, none⟩ = some (.int .i64 (e.count : Int)) ∧ w.cell? ⟨g, k * 4 + 3, none⟩ = some (.string e.row) := by
  have hi : k < l.length := (List.getElem?_eq_some_iff.1 he).1
  have c := fun j (hj : j < 4) => (World.ownsRow.cellAt h (k * 4 + j) (by omega)).trans (cellsL_get l k e he j hj)
  refine ⟨?_, ?_, ?_, ?_⟩
  · simpa using c 0 (by omega)
  · simpa using c 1 (by omega)
  · simpa using c 2 (by omega)
  · simpa using c 3 (by omega)
theorem ownI_new (w : World) {base : Nat} (hb : base ≤ w.heap.size) : OwnI (w.alloc (Obj.cells #[] 37)) base w.heap.size 0 [] :=
  World.ownsRow_made w #[] 0 hb (Nat.zero_le _) (by simp)
theorem Tryd.infoBlk : (Tryd.prog.info? 37).map (fun i => (i.zero, i.size, i.bytes)) = some (some (.agg #[.int .i64 0, .int .i64 0, .int .i64 0, .string ⟨#[]⟩]), 4, 40) := by kernel_rfl
theorem wpList_append_blk {ops : Array Oper} {rest : List Oper} {o : Oper} {a : Act} {Q : Exit → Act → World → Prop} (w : World) (hgd : o.guard = none) (s x : Operand)
    (ho : o.op = .call { callee := .builtin .append, args := #[s, x], argTypes := #[33, 33] })
    (base g cp n blk : Nat) (l : List Blk) (e : Blk) (hs : a.eval s = .slice (some ⟨g, 0, none⟩) n cp) (hx : a.eval x = .slice (some ⟨blk, 0, none⟩) 1 1) (hn : n = l.length) (hO : OwnI w base g cp l)
    (hc : ∀ j u, e.four[j]? = some u → w.cell? ⟨blk, j, none⟩ = some u) (hlen : l.length ≤ 2 ^ 30) (hbase : base ≤ w.heap.size)
    (h : ∀ g' cp' w', OwnI w' base g' cp' (l ++ [e]) → w.grownBy w' (some g) → (g' = g ∨ g' = w.heap.size) → wpList Tryd.prog ops Q rest (a.put o.dst (.slice (some ⟨g', 0, none⟩) (n + 1) cp')) w') : wpList Tryd.prog ops Q (o :: rest) a w := by
  obtain ⟨i, hi, hz0, hz1, hz2⟩ := info_parts Tryd.infoBlk
  subst hn
  have he : cellsL [e] = e.four := by simp [cellsL]
  refine wpList_append_own_at w hgd s x 33 ho base 37 i _ 4 40 Tryd.underlying33 hi hz0 hz1 hz2 rfl (by decide) (.slice (some ⟨g, 0, none⟩) l.length cp) l.length (cellsL l) hs hO ⟨blk, 0, none⟩ 1 1 (cellsL [e]) hx rfl ?_ ?_ ?_ ?_ hbase ?_
  · intro j u hu
    rw [he] at hu
    rw [Addr.add_mid, Nat.zero_add]
    exact hc j u hu
  · intro u hu
    rw [he] at hu
    simp at hu
    rcases hu with rfl | rfl | rfl | rfl <;> rfl
  · unfold maxLen; omega
  · omega
  · intro v' w' hO' hgr hnil hat
    rcases hO'.2 with ⟨h0, _⟩ | ⟨g', cap', cur, hv, _, _, hn, hcap, _, _⟩
    · have := (hnil.1 h0).1
      cases this
    · subst hv
      refine h g' cap' w' ?_ hgr ?_
      · unfold OwnI
        rw [List.length_append, cellsL_append]
        exact hO'
      · simp [Value.ownBlock] at hat
        exact hat
theorem gotNum_bad {xs : List UInt8} {i : Nat} {bad : Bool} {i1 n : Nat} (h : GotNum xs i bad i1 false n) : bad = false ∧ getNum (xs.drop i) = some (n, xs.drop i1) := by
  rcases h.2.2 with ⟨q, _⟩ | ⟨_, q⟩
  · cases q
  · cases bad with
    | true => cases q
    | false => exact ⟨rfl, q⟩
theorem gotNum_none {xs : List UInt8} {i i1 n : Nat} (h : GotNum xs i false i1 true n) : getNum (xs.drop i) = none := by
  rcases h.2.2 with ⟨_, q⟩ | ⟨q, _⟩
  · exact q
  · cases q
theorem gotStr_good {xs : List UInt8} {i : Nat} {bad : Bool} {i1 : Nat} {s : ByteArray} (h : GotStr xs i bad i1 false s) : bad = false ∧ getStr (xs.drop i) = some (bl s, xs.drop i1) := by
  rcases h.2.2 with ⟨q, _⟩ | ⟨_, q⟩
  · cases q
  · cases bad with
    | true => cases q
    | false => exact ⟨rfl, q⟩
theorem gotStr_none {xs : List UInt8} {i i1 : Nat} {s : ByteArray} (h : GotStr xs i false i1 true s) : getStr (xs.drop i) = none := by
  rcases h.2.2 with ⟨_, q⟩ | ⟨q, _⟩
  · exact q
  · cases q
/-- Three fields of a block, read one behind the other. -/
theorem oneBlk_read {xs : List UInt8} {i i1 i2 i3 n lim p size count : Nat} {b1 b2 b3 : Bool} {row : ByteArray} (h1 : GotNum xs i false i1 b1 size) (h2 : GotNum xs i1 b1 i2 b2 count) (h3 : GotStr xs i2 b2 i3 b3 row) :
    (b3 = true → oneBlk n lim p (xs.drop i) = none) ∧ (b3 = false → oneBlk n lim p (xs.drop i) = if count < 1 ∨ 1000 < count ∨ n < size ∨ lim < p + size + 4 then none else some (⟨p, p + size, count, row⟩, p + size + 4, xs.drop i3)) := by
  constructor
  · rintro rfl
    unfold oneBlk
    cases b1 with
    | true => rw [gotNum_none h1]
    | false =>
      rw [(gotNum_bad h1).2]
      simp only []
      cases b2 with
      | true => rw [gotNum_none h2]
      | false =>
        rw [(gotNum_bad h2).2]
        simp only []
        rw [gotStr_none h3]
  · rintro rfl
    obtain ⟨rfl, q3⟩ := gotStr_good h3
    obtain ⟨rfl, q2⟩ := gotNum_bad h2
    obtain ⟨_, q1⟩ := gotNum_bad h1
    unfold oneBlk
    rw [q1]
    simp only []
    rw [q2]
    simp only []
    rw [q3]
    simp only []
    rw [ba_bl]
end Go.Proofs.YtnncedndlhfdkabDoor

/-
  spec.l1Stands, spec.l1GoodWrites.
-/
namespace Go.Proofs.YtnncedndlhfdkabDoor
open Go.ChangeShapes Go.WideShapes Go.ChangeAt Go.RowKit Go.Deep
set_option linter.unusedVariables false

/-- Does the later write 'v' do away with 'e'? -/
def kills (v e : Ent) : Bool := sameCol v e && (if (v.kind == 2) = true then decide (e.ts ≤ v.ts) else (v.ts == e.ts))
/-- No write behind place 'i' does away with the one there. -/
def Stands (ws : List Ent) (i : Nat) : Prop := ∀ j v e, i < j → ws[j]? = some v → ws[i]? = some e → kills v e = false
def StandsTo (ws : List Ent) (i k : Nat) : Prop := ∀ j v e, i < j → j < k → ws[j]? = some v → ws[i]? = some e → kills v e = false
theorem standsTo_succ {ws : List Ent} {i k : Nat} {v e : Ent} (h : StandsTo ws i k) (hv : ws[k]? = some v) (he : ws[i]? = some e) (hk : kills v e = false) : StandsTo ws i (k + 1) := by
  intro j v' e' h1 h2 h3 h4
  by_cases hj : j = k
  · subst hj
    rw [hv] at h3; rw [he] at h4
    simp at h3 h4
    subst h3 h4
    exact hk
  · exact h j v' e' h1 (by omega) h3 h4

end Go.Proofs.YtnncedndlhfdkabDoor

/-
  What a run keeps of a list of writes, as a property; it determines the run.
-/
namespace Go.Proofs.YtnncedndlhfdkabDoor
set_option linter.unusedVariables false

theorem toList_inj {a b : ByteArray} (h : a.toList = b.toList) : a = b := by
  rw [ByteArray.toList_eq, ByteArray.toList_eq] at h
  cases a; cases b
  simp at h
  simpa using h
theorem sameCol_iff {a b : Ent} : sameCol a b = true ↔ a.row = b.row ∧ a.fam = b.fam ∧ a.qual = b.qual := by
  unfold sameCol
  simp only [Bool.and_eq_true, beq_iff_eq]
  constructor
  · rintro ⟨h1, h2, h3⟩; exact ⟨toList_inj h1, toList_inj h2, toList_inj h3⟩
  · rintro ⟨h1, h2, h3⟩; rw [h1, h2, h3]; exact ⟨rfl, rfl, rfl⟩
theorem size_zero_eq {a b : ByteArray} (h : a.size = 0) (k : b.size = 0) : a = b := by
  obtain ⟨⟨l⟩⟩ := a
  obtain ⟨⟨m⟩⟩ := b
  cases l with
  | nil => cases m with
    | nil => rfl
    | cons y m => simp [ByteArray.size] at k
  | cons x l => simp [ByteArray.size] at h
theorem vld_val {e : Ent} (h : e.vld = true) (k : e.kind = 2) : e.val.size = 0 := by
  unfold Ent.vld vE at h
  have := of_decide_eq_true h
  omega

/-- No delete of the same column has a larger timestamp. -/
def Largest (ws : List Ent) (e : Ent) : Prop := ∀ v ∈ ws, v.kind = 2 → sameCol v e = true → v.ts ≤ e.ts
def Keep (ws : List Ent) (i : Nat) (e : Ent) : Prop := (¬ e.kind = 2 ∧ Stands ws i) ∨ (e.kind = 2 ∧ Largest ws e)
def KeepTo (ws : List Ent) (k : Nat) (x : Ent) : Prop := ∃ i, i < k ∧ ws[i]? = some x ∧ Keep ws i x
/-- 'R' is what the first 'k' writes leave in the run of 'ws'. -/
def Kept (ws : List Ent) (k : Nat) (R : List Ent) : Prop := Ord R ∧ (∀ x, x ∈ R ↔ KeepTo ws k x)

theorem keep_uniq {ws : List Ent} (hv : ∀ x ∈ ws, x.vld = true) {i k : Nat} {x e : Ent} (hik : i < k) (hx : ws[i]? = some x) (he : ws[k]? = some e) (kx : Keep ws i x) (ke : Keep ws k e) (hz : keyCmp x e = 0) : x = e := by
  obtain ⟨h1, h2, h3, h4, h5⟩ := keyCmp_zero.1 hz
  rcases kx with ⟨hn, hs⟩ | ⟨h2k, _⟩
  · have := hs k e x hik he hx
    unfold kills at this
    rw [sameCol_iff.2 ⟨h1.symm, h2.symm, h3.symm⟩] at this
    have hn' : (e.kind == 2) = false := by simp; exact fun q => hn (h4.2 q)
    rw [hn', if_neg (by simp), h5] at this
    simp at this
  · have h2e := h4.1 h2k
    have v1 := vld_val (hv x (List.mem_of_getElem? hx)) h2k
    have v2 := vld_val (hv e (List.mem_of_getElem? he)) h2e
    obtain ⟨r, f, q, t, kk, v⟩ := x
    obtain ⟨r', f', q', t', kk', v'⟩ := e
    simp only at *
    subst h1 h2 h3 h5 h2k h2e
    rw [size_zero_eq v1 v2]

theorem kept_zero (ws : List Ent) : Kept ws 0 [] := ⟨List.Pairwise.nil, fun x => ⟨fun h => by simp at h, fun ⟨i, hi, _⟩ => by omega⟩⟩
theorem kept_skip {ws : List Ent} {k : Nat} {e : Ent} {R : List Ent} (h : Kept ws k R) (he : ws[k]? = some e) (hk : ¬ Keep ws k e) : Kept ws (k + 1) R := by
  refine ⟨h.1, fun x => (h.2 x).trans ⟨fun ⟨i, hi, h1, h2⟩ => ⟨i, by omega, h1, h2⟩, fun ⟨i, hi, h1, h2⟩ => ?_⟩⟩
  by_cases hik : i = k
  · subst hik
    rw [he] at h1
    simp at h1
    subst h1
    exact absurd h2 hk
  · exact ⟨i, by omega, h1, h2⟩
theorem kept_step {ws : List Ent} (hv : ∀ x ∈ ws, x.vld = true) {k : Nat} {e : Ent} {R : List Ent} (h : Kept ws k R) (he : ws[k]? = some e) (hk : Keep ws k e) : Kept ws (k + 1) (into R e) := by
  obtain ⟨h1, h2⟩ := into_spec e R h.1
  refine ⟨h1, fun x => (h2 x).trans ⟨?_, ?_⟩⟩
  · rintro (rfl | ⟨hx, _⟩)
    · exact ⟨k, by omega, he, hk⟩
    · obtain ⟨i, hi, a, b⟩ := (h.2 x).1 hx
      exact ⟨i, by omega, a, b⟩
  · rintro ⟨i, hi, a, b⟩
    by_cases hik : i = k
    · subst hik
      rw [he] at a
      simp at a
      exact .inl a.symm
    · by_cases hz : keyCmp x e = 0
      · exact .inl (keep_uniq hv (by omega) a he b hk hz)
      · exact .inr ⟨(h.2 x).2 ⟨i, by omega, a, b⟩, hz⟩
theorem kept_uniq {ws : List Ent} {k : Nat} {R S : List Ent} (h : Kept ws k R) (g : Kept ws k S) : R = S :=
  ord_ext h.1 g.1 (fun x => (h.2 x).trans (g.2 x).symm)
theorem length_into (L : List Ent) (e : Ent) : (into L e).length ≤ L.length + 1 := length_intoG e L false
end Go.Proofs.YtnncedndlhfdkabDoor

