import Derived.Lib.SlBytesRow
import Derived.BigQuiet
import Derived.Test.YtgnpcenpcmdlfaaGreatDoorZkAM
import Derived.Test.YtgnpcenpcmdlfaaGreatDoorZkAH
import Derived.Test.YtgnpcenpcmdlfaaGreatDoorRPrS
import Derived.Test.YtgnpcenpcmdlfaaGreatDoorZkAC
/-
  spec's words: l5Word, l5LeafKind, l5Known; l5Hex, l5Num.
-/
namespace Go.Proofs.YtgnpcenpcmdlfaaGreatDoor
open Go.ChangeShapes Go.WideShapes Go.ChangeAt Go.RowKit Go.Deep
set_option linter.unusedVariables false
set_option linter.unusedSimpArgs false
set_option maxRecDepth 100000

set_option maxHeartbeats 1000000 in
theorem pWord_1 (w : World) : Calls Tryz.prog 87 #[.int .i64 1] w fun e w' => e = .returned (.string (wordA 1)) ∧ w' = w := by
  go_enter Tryz.func87, Tryz.ntmps87
  go_wp2_with fail
  go_ret
  exact ⟨rfl, rfl⟩
set_option maxHeartbeats 1000000 in
theorem pWord_2 (w : World) : Calls Tryz.prog 87 #[.int .i64 2] w fun e w' => e = .returned (.string (wordA 2)) ∧ w' = w := by
  go_enter Tryz.func87, Tryz.ntmps87
  go_wp2_with fail
  go_ret
  exact ⟨rfl, rfl⟩
set_option maxHeartbeats 1000000 in
theorem pWord_3 (w : World) : Calls Tryz.prog 87 #[.int .i64 3] w fun e w' => e = .returned (.string (wordA 3)) ∧ w' = w := by
  go_enter Tryz.func87, Tryz.ntmps87
  go_wp2_with fail
  go_ret
  exact ⟨rfl, rfl⟩
set_option maxHeartbeats 1000000 in
theorem pWord_4 (w : World) : Calls Tryz.prog 87 #[.int .i64 4] w fun e w' => e = .returned (.string (wordA 4)) ∧ w' = w := by
  go_enter Tryz.func87, Tryz.ntmps87
  go_wp2_with fail
  go_ret
  exact ⟨rfl, rfl⟩
set_option maxHeartbeats 1000000 in
theorem pWord_5 (w : World) : Calls Tryz.prog 87 #[.int .i64 5] w fun e w' => e = .returned (.string (wordA 5)) ∧ w' = w := by
  go_enter Tryz.func87, Tryz.ntmps87
  go_wp2_with fail
  go_ret
  exact ⟨rfl, rfl⟩
set_option maxHeartbeats 1000000 in
theorem pWord_6 (w : World) : Calls Tryz.prog 87 #[.int .i64 6] w fun e w' => e = .returned (.string (wordA 6)) ∧ w' = w := by
  go_enter Tryz.func87, Tryz.ntmps87
  go_wp2_with fail
  go_ret
  exact ⟨rfl, rfl⟩
set_option maxHeartbeats 1000000 in
theorem pWord_7 (w : World) : Calls Tryz.prog 87 #[.int .i64 7] w fun e w' => e = .returned (.string (wordA 7)) ∧ w' = w := by
  go_enter Tryz.func87, Tryz.ntmps87
  go_wp2_with fail
  go_ret
  exact ⟨rfl, rfl⟩
set_option maxHeartbeats 1000000 in
theorem pWord_8 (w : World) : Calls Tryz.prog 87 #[.int .i64 8] w fun e w' => e = .returned (.string (wordA 8)) ∧ w' = w := by
  go_enter Tryz.func87, Tryz.ntmps87
  go_wp2_with fail
  go_ret
  exact ⟨rfl, rfl⟩
set_option maxHeartbeats 1000000 in
theorem pWord_9 (w : World) : Calls Tryz.prog 87 #[.int .i64 9] w fun e w' => e = .returned (.string (wordA 9)) ∧ w' = w := by
  go_enter Tryz.func87, Tryz.ntmps87
  go_wp2_with fail
  go_ret
  exact ⟨rfl, rfl⟩
set_option maxHeartbeats 1000000 in
theorem pWord_10 (w : World) : Calls Tryz.prog 87 #[.int .i64 10] w fun e w' => e = .returned (.string (wordA 10)) ∧ w' = w := by
  go_enter Tryz.func87, Tryz.ntmps87
  go_wp2_with fail
  go_ret
  exact ⟨rfl, rfl⟩
set_option maxHeartbeats 1000000 in
theorem pWord_11 (w : World) : Calls Tryz.prog 87 #[.int .i64 11] w fun e w' => e = .returned (.string (wordA 11)) ∧ w' = w := by
  go_enter Tryz.func87, Tryz.ntmps87
  go_wp2_with fail
  go_ret
  exact ⟨rfl, rfl⟩
set_option maxHeartbeats 1000000 in
theorem pWord_12 (w : World) : Calls Tryz.prog 87 #[.int .i64 12] w fun e w' => e = .returned (.string (wordA 12)) ∧ w' = w := by
  go_enter Tryz.func87, Tryz.ntmps87
  go_wp2_with fail
  go_ret
  exact ⟨rfl, rfl⟩
set_option maxHeartbeats 1000000 in
theorem pWord_13 (w : World) : Calls Tryz.prog 87 #[.int .i64 13] w fun e w' => e = .returned (.string (wordA 13)) ∧ w' = w := by
  go_enter Tryz.func87, Tryz.ntmps87
  go_wp2_with fail
  go_ret
  exact ⟨rfl, rfl⟩
theorem pWord_all (k : Int) (w : World) (h1 : 1 ≤ k) (h2 : k ≤ 13) : Calls Tryz.prog 87 #[.int .i64 k] w fun e w' => e = .returned (.string (wordA k)) ∧ w' = w := by
  rcases cases13 h1 h2 with rfl | rfl | rfl | rfl | rfl | rfl | rfl | rfl | rfl | rfl | rfl | rfl | rfl
  · exact pWord_1 w
  · exact pWord_2 w
  · exact pWord_3 w
  · exact pWord_4 w
  · exact pWord_5 w
  · exact pWord_6 w
  · exact pWord_7 w
  · exact pWord_8 w
  · exact pWord_9 w
  · exact pWord_10 w
  · exact pWord_11 w
  · exact pWord_12 w
  · exact pWord_13 w
def LkP (l : ByteArray) (w : World) (e : Ending) (w' : World) : Prop := ∃ k : Int, e = .returned (.int .i64 k) ∧ w' = w ∧ ((1 ≤ k ∧ k ≤ 13 ∧ bl (wordA k) = bl l) ∨ (k = 0 ∧ ∀ j : Int, 1 ≤ j → j ≤ 13 → ¬ bl (wordA j) = bl l))
set_option maxHeartbeats 2000000 in
theorem leafKind_core (l : ByteArray) (w : World) : Calls Tryz.prog 50 #[.string l] w (LkP l w) := by
  go_enter Tryz.func50, Tryz.ntmps50
  go_wp2_with fail
  go_loopw [3] (fun kv wr => ∃ (j : Int), kv = .int .i64 j ∧ 1 ≤ j ∧ j ≤ 14 ∧ (∀ i : Int, 1 ≤ i → i < j → ¬ bl (wordA i) = bl l) ∧ wr = w) (fun kv _ => 14 - (intOf kv).toNat)
  case atStart => exact ⟨1, rfl, by omega, by omega, fun i _ _ => by omega, rfl⟩
  case round =>
    obtain ⟨j, rfl, h1, h2, hJ, rfl⟩ := hrel
    have HJ : Hid (∀ i : Int, 1 ≤ i → i < j → ¬ bl (wordA i) = bl l) := hJ
    clear hJ
    by_cases h13 : j ≤ 13
    · go_wp2_with fail
      refine (pWord_all j _ h1 h13).mono ?_
      rintro e w1 ⟨rfl, hw1⟩
      rw [hw1]
      clear hw1
      by_cases he : bl (wordA j) = bl l
      · have zt : ((wordA j).toList == l.toList) = true := by rw [ByteArray.toList_eq, ByteArray.toList_eq]; exact beq_iff_eq.2 he
        go_wp2_with fail
        go_ret
        exact ⟨j, rfl, rfl, .inl ⟨h1, h13, he⟩⟩
      · have zt : ((wordA j).toList == l.toList) = false := by rw [ByteArray.toList_eq, ByteArray.toList_eq]; exact beq_eq_false_iff_ne.2 he
        go_wp2_with fail
        go_roundw
        case rel => exact ⟨j + 1, by go_num, by omega, by omega, fun i hi hij => by
          by_cases q : i < j
          · exact HJ.out i hi q
          · rw [show i = j by omega]; exact he, by first | rfl | trivial⟩
        case measure => simp [intOf]; omega
    · go_wp2_with fail
      go_ret
      exact ⟨0, rfl, rfl, .inr ⟨rfl, fun i hi hij => HJ.out i hi (by omega)⟩⟩
set_option maxHeartbeats 2000000 in
theorem known_core (l : ByteArray) (w : World) : Calls Tryz.prog 52 #[.string l] w fun e w' => ∃ b, e = .returned (.bool b) ∧ w' = w ∧ (b = true ↔ ∃ k, kwF (bl l) = some k) := by
  go_enter Tryz.func52, Tryz.ntmps52
  go_wp2_with fail
  refine (leafKind_core l _).mono ?_
  rintro e w1 ⟨k, rfl, hw1, hk⟩
  rw [hw1]
  clear hw1
  rcases hk with ⟨h1, h2, h3⟩ | ⟨rfl, h2⟩
  · have zk : (0 : Int) < k := by omega
    have H3 : Hid (kwF (bl l) = some k) := kwF_word (.inl ⟨h1, h2, h3⟩)
    clear h3
    go_wp2_with fail
    go_ret
    exact ⟨_, rfl, rfl, by simp [H3.out]⟩
  · have H2 : Hid (∀ j : Int, 1 ≤ j → j ≤ 13 → ¬ bl (wordA j) = bl l) := h2
    clear h2
    by_cases hi : bl l = [105, 102]
    · have zi : (l.toList == [105, 102]) = true := by rw [ByteArray.toList_eq]; exact beq_iff_eq.2 hi
      have H3 : Hid (kwF (bl l) = some 16) := kwF_word (.inr ⟨rfl, hi⟩)
      clear hi
      go_wp2_with fail
      go_ret
      exact ⟨_, rfl, rfl, by simp [H3.out, zi]⟩
    · have zi : (l.toList == [105, 102]) = false := by rw [ByteArray.toList_eq]; exact beq_eq_false_iff_ne.2 hi
      have H3 : Hid (∀ k, ¬ kwF (bl l) = some k) := fun k q => by
        rcases kwF_some q with ⟨a, b, c⟩ | ⟨_, b⟩
        · exact H2.out k a b c
        · exact hi b
      clear hi
      go_wp2_with fail
      go_ret
      exact ⟨_, rfl, rfl, by simp [H3.out, zi]⟩
end Go.Proofs.YtgnpcenpcmdlfaaGreatDoor

/-
  spec.l5Hex, spec.l5Num; strings made of a window of bytes.
-/
namespace Go.Proofs.YtgnpcenpcmdlfaaGreatDoor
open Go.ChangeShapes Go.WideShapes Go.ChangeAt Go.RowKit Go.Deep
set_option linter.unusedVariables false
set_option linter.unusedSimpArgs false
set_option maxRecDepth 100000

abbrev strL (l : List UInt8) : ByteArray := ⟨l.toArray⟩
theorem bl_strL (l : List UInt8) : bl (strL l) = l := by simp [strL]
theorem strL_bl (s : ByteArray) : strL (bl s) = s := by cases s; simp [strL]
theorem bysL_bytes {w : World} {b off : Nat} {xs : List UInt8} (h : BysAt w b off xs) : Lib.Bytes w b off (strL xs) := by
  intro i hi
  have hi' : i < xs.length := by have : (strL xs).size = xs.length := (by show xs.toArray.size = _; simp); omega
  have h1 := h i xs[i] (List.getElem?_eq_getElem hi')
  rw [h1]
  rfl
theorem conv_win {w : World} {b off : Nat} {xs : List UInt8} (h : BysAt w b off xs) (i m c : Nat) (hm : i + m ≤ xs.length) :
    (convert 22 9 (.slice (some ⟨b, off + i, none⟩) m c)).run Tryz.prog w = .ok (.string (strL ((xs.drop i).take m))) w := by
  have hsz : (strL xs).size = xs.length := by show xs.toArray.size = _; simp
  have h1 := Lib.run_convert_window (P := Tryz.prog) w 22 5 9 Tryz.underlying22 Tryz.underlying5 Tryz.underlying9 b off (strL xs) (bysL_bytes h) i m c (by omega)
  rw [h1]
  have h2 : (strL xs).extract i (i + m) = strL ((xs.drop i).take m) := by
    rw [← strL_bl ((strL xs).extract i (i + m))]
    congr 1
    show ((strL xs).extract i (i + m)).data.toList = _
    rw [Lib.extract_data, Nat.add_sub_cancel_left]
  rw [h2]
def hexI (b : UInt8) : Int := match hexV b with
  | some v => (v : Int)
  | none => -1
set_option maxHeartbeats 1000000 in
theorem l5Hex_core (x : UInt8) (w : World) : Calls Tryz.prog 88 #[.int .u8 (x.toNat : Int)] w fun e w' => e = .returned (.int .i64 (hexI x)) ∧ w' = w := by
  have hx : x.toNat < 256 := x.toNat_lt
  obtain ⟨n, hn⟩ : ∃ n, n = x.toNat := ⟨_, rfl⟩
  have HX : Hid (hexI x = if 48 ≤ n ∧ n ≤ 57 then ((n - 48 : Nat) : Int) else if 97 ≤ n ∧ n ≤ 102 then ((n - 87 : Nat) : Int) else -1) := by
    show hexI x = _
    rw [hn]
    unfold hexI hexV
    by_cases h1 : 48 ≤ x.toNat ∧ x.toNat ≤ 57
    · rw [if_pos h1, if_pos h1]
    · rw [if_neg h1, if_neg h1]
      by_cases h2 : 97 ≤ x.toNat ∧ x.toNat ≤ 102
      · rw [if_pos h2, if_pos h2]
      · rw [if_neg h2, if_neg h2]
  rw [← hn] at hx ⊢
  clear hn
  by_cases h1 : 48 ≤ n
  · have z1 : (48 : Int) ≤ (n : Int) := by omega
    by_cases h2 : n ≤ 57
    · have z2 : (n : Int) ≤ 57 := by omega
      have HE : Hid (hexI x = (n : Int) - 48) := by show _ = _; rw [HX.out, if_pos ⟨h1, h2⟩]; omega
      go_enter Tryz.func88, Tryz.ntmps88
      go_wp2_with fail
      go_ret
      exact ⟨by rw [HE.out]; rfl, rfl⟩
    · have z2 : ¬ (n : Int) ≤ 57 := by omega
      by_cases h3 : 97 ≤ n
      · have z3 : (97 : Int) ≤ (n : Int) := by omega
        by_cases h4 : n ≤ 102
        · have z4 : (n : Int) ≤ 102 := by omega
          have HE : Hid (hexI x = (n : Int) - 97 + 10) := by show _ = _; rw [HX.out, if_neg (by omega), if_pos ⟨h3, h4⟩]; omega
          go_enter Tryz.func88, Tryz.ntmps88
          go_wp2_with fail
          go_ret
          exact ⟨by rw [HE.out]; rfl, rfl⟩
        · have z4 : ¬ (n : Int) ≤ 102 := by omega
          go_enter Tryz.func88, Tryz.ntmps88
          go_wp2_with fail
          go_ret
          exact ⟨by rw [HX.out, if_neg (by omega), if_neg (by omega)]; rfl, rfl⟩
      · have z3 : ¬ (97 : Int) ≤ (n : Int) := by omega
        go_enter Tryz.func88, Tryz.ntmps88
        go_wp2_with fail
        go_ret
        exact ⟨by rw [HX.out, if_neg (by omega), if_neg (by omega)]; rfl, rfl⟩
  · have z1 : ¬ (48 : Int) ≤ (n : Int) := by omega
    have z3 : ¬ (97 : Int) ≤ (n : Int) := by omega
    go_enter Tryz.func88, Tryz.ntmps88
    go_wp2_with fail
    go_ret
    exact ⟨by rw [HX.out, if_neg (by omega), if_neg (by omega)]; rfl, rfl⟩
theorem decV_snoc (l : List UInt8) (b : UInt8) : decV (l ++ [b]) = 10 * decV l + (b.toNat - 48) := by simp [decV]
theorem foldl_dec_le : ∀ (l : List UInt8) (n : Nat), n ≤ l.foldl (fun n b => 10 * n + (b.toNat - 48)) n
  | [], n => Nat.le_refl _
  | b :: l, n => by rw [List.foldl_cons]; exact Nat.le_trans (by omega) (foldl_dec_le l _)
theorem decV_take (l : List UInt8) (k : Nat) : decV (l.take k) ≤ decV l := by
  conv => rhs; rw [← List.take_append_drop k l]
  unfold decV
  rw [List.foldl_append]
  exact foldl_dec_le _ _
def DgP (d : List UInt8) (w : World) (e : Ending) (w' : World) : Prop := w' = w ∧ ((∃ v, numM d = some v ∧ e = .returned (.tuple #[.bool true, .int .u64 (v : Int)])) ∨ (numM d = none ∧ e = .returned (.tuple #[.bool false, .int .u64 0])))
set_option maxHeartbeats 4000000 in
theorem digNum_core (b off c : Nat) (d : List UInt8) (w : World) (h : BysAt w b off d) (hb : b < w.heap.size) (hd : ∀ x ∈ d, isDig x = true) (h0 : 0 < d.length) (hl : d.length ≤ 100000) :
    Calls Tryz.prog 53 #[.slice (some ⟨b, off, none⟩) d.length c] w (DgP d w) := by
  have HD : Hid (BysAt w b off d ∧ (∀ x ∈ d, isDig x = true)) := ⟨h, hd⟩
  obtain ⟨n, hn⟩ : ∃ n, n = d.length := ⟨_, rfl⟩
  have HN : Hid (n = d.length) := hn
  rw [← hn] at h0 hl ⊢
  obtain ⟨x0, hx0⟩ : ∃ x, d[0]? = some x := ⟨_, List.getElem?_eq_getElem (by omega)⟩
  have c0 := h 0 x0 hx0
  simp only [Nat.add_zero] at c0
  have hh : d.head? = some x0 := by rw [← hx0]; cases d <;> rfl
  have z0 : ((n : Int) == 0) = false := by have : ¬ (n : Int) = 0 := (by omega); simpa using this
  have body : ¬ (1 < n ∧ x0.toNat = 48) → Hid (¬ (1 < d.length ∧ d.head? = some 48)) := fun q => by
    show ¬ _
    rw [← hn, hh]
    rintro ⟨a, e⟩
    exact q ⟨a, by cases e; rfl⟩
  have bad : (1 < n ∧ x0.toNat = 48) → Hid (numM d = none) := fun q => by
    show _ = _
    unfold numM
    rw [if_pos]
    refine ⟨by omega, ?_⟩
    rw [hh]
    congr 1
    exact UInt8.toNat_inj.1 q.2
  clear hn h hd hx0 hh
  have loop : Hid (¬ (1 < d.length ∧ d.head? = some 48)) → True := fun _ => trivial
  by_cases h1 : 1 < n
  · have z1 : (1 : Int) < (n : Int) := by omega
    by_cases h48 : x0.toNat = 48
    · have z2 : ((x0.toNat : Int) == 48) = true := by have : (x0.toNat : Int) = 48 := (by omega); simpa using this
      have HB := bad ⟨h1, h48⟩
      clear bad body loop
      go_enter Tryz.func53, Tryz.ntmps53
      go_wp2_with fail
      exact bodyPost_ret (v := .tuple #[.bool false, .int .u64 0]) (by simp [results, Tryz.results53, go_sem]) rfl ⟨rfl, .inr ⟨HB.out, rfl⟩⟩
    · have z2 : ((x0.toNat : Int) == 48) = false := by have : ¬ (x0.toNat : Int) = 48 := (by omega); simpa using this
      have HB := body (fun q => h48 q.2)
      clear bad body loop
      go_enter Tryz.func53, Tryz.ntmps53
      go_wp2_with fail
      clear c0 z0 z1 z2
      go_loopw [4, 5] (fun nv iv wr => ∃ (i v : Nat), iv = .int .i64 (i : Int) ∧ nv = .int .u64 (v : Int) ∧ i ≤ n ∧ v < 18446744073709551616 ∧ v = decV (d.take i) ∧ wr = w) (fun _ iv _ => n - (intOf iv).toNat)
      case atStart => exact ⟨0, 0, rfl, rfl, Nat.zero_le _, by omega, rfl, rfl⟩
      case round =>
        obtain ⟨i, v, rfl, rfl, hi, hv, hV, rfl⟩ := hrel
        have HV : Hid (v = decV (d.take i)) := hV
        clear hV
        by_cases hin : i < n
        · have zi : (i : Int) < (n : Int) := by omega
          obtain ⟨x, hx⟩ : ∃ x, d[i]? = some x := ⟨_, List.getElem?_eq_getElem (by have := HN.out; omega)⟩
          have cx := HD.out.1 i x hx
          have hdx : isDig x = true := HD.out.2 x (List.mem_of_getElem? hx)
          have hdx2 : 48 ≤ x.toNat ∧ x.toNat ≤ 57 := by unfold isDig at hdx; simpa using hdx
          obtain ⟨m, hm⟩ : ∃ m, m = x.toNat := ⟨_, rfl⟩
          have HS : Hid (decV (d.take (i + 1)) = 10 * v + (m - 48)) := by
            show _ = _
            rw [List.take_add_one, hx, Option.toList, decV_snoc, HV.out, hm]
          unfold ub at cx
          rw [← hm] at cx hdx2
          have y1 : ¬ (m : Int) < 48 := by omega
          have y2 : ¬ (57 : Int) < (m : Int) := by omega
          clear hx hdx hm
          by_cases hov : 18446744073709551615 < 10 * v + (m - 48)
          · have y3 : (18446744073709551615 - ((m : Int) - 48)).tdiv 10 < (v : Int) := by rw [Int.tdiv_eq_ediv_of_nonneg (by omega)]; omega
            have HO : Hid (numM d = none) := by
              show _ = _
              unfold numM
              rw [if_neg HB.out, if_neg]
              have h9 := decV_take d (i + 1)
              have h8 := HS.out
              omega
            go_wp2_with fail
            exact bodyPost_ret (v := .tuple #[.bool false, .int .u64 0]) (by simp [results, Tryz.results53, go_sem]) rfl ⟨rfl, .inr ⟨HO.out, rfl⟩⟩
          · have y3 : ¬ (18446744073709551615 - ((m : Int) - 48)).tdiv 10 < (v : Int) := by rw [Int.tdiv_eq_ediv_of_nonneg (by omega)]; omega
            go_wp2_with fail
            go_roundw
            case rel => exact ⟨i + 1, 10 * v + (m - 48), by go_num, by go_num, by omega, by omega, HS.out.symm, by first | rfl | trivial⟩
            case measure => simp [intOf]; omega
        · have zi : ¬ (i : Int) < (n : Int) := by omega
          have HO : Hid (numM d = some v) := by
            show _ = _
            have h9 := HV.out
            rw [List.take_of_length_le (by have := HN.out; omega)] at h9
            unfold numM
            rw [if_neg HB.out, if_pos (by omega), h9]
          go_wp2_with fail
          exact bodyPost_ret (v := .tuple #[.bool true, .int .u64 (v : Int)]) (by simp [results, Tryz.results53, go_sem]) rfl ⟨rfl, .inl ⟨v, HO.out, rfl⟩⟩
  · have z1 : ¬ (1 : Int) < (n : Int) := by omega
    have HB := body (fun q => h1 q.1)
    clear bad body loop
    go_enter Tryz.func53, Tryz.ntmps53
    go_wp2_with fail
    clear c0 z0 z1
    go_loopw [4, 5] (fun nv iv wr => ∃ (i v : Nat), iv = .int .i64 (i : Int) ∧ nv = .int .u64 (v : Int) ∧ i ≤ n ∧ v < 18446744073709551616 ∧ v = decV (d.take i) ∧ wr = w) (fun _ iv _ => n - (intOf iv).toNat)
    case atStart => exact ⟨0, 0, rfl, rfl, Nat.zero_le _, by omega, rfl, rfl⟩
    case round =>
      obtain ⟨i, v, rfl, rfl, hi, hv, hV, rfl⟩ := hrel
      have HV : Hid (v = decV (d.take i)) := hV
      clear hV
      by_cases hin : i < n
      · have zi : (i : Int) < (n : Int) := by omega
        obtain ⟨x, hx⟩ : ∃ x, d[i]? = some x := ⟨_, List.getElem?_eq_getElem (by have := HN.out; omega)⟩
        have cx := HD.out.1 i x hx
        have hdx : isDig x = true := HD.out.2 x (List.mem_of_getElem? hx)
        have hdx2 : 48 ≤ x.toNat ∧ x.toNat ≤ 57 := by unfold isDig at hdx; simpa using hdx
        obtain ⟨m, hm⟩ : ∃ m, m = x.toNat := ⟨_, rfl⟩
        have HS : Hid (decV (d.take (i + 1)) = 10 * v + (m - 48)) := by
          show _ = _
          rw [List.take_add_one, hx, Option.toList, decV_snoc, HV.out, hm]
        unfold ub at cx
        rw [← hm] at cx hdx2
        have y1 : ¬ (m : Int) < 48 := by omega
        have y2 : ¬ (57 : Int) < (m : Int) := by omega
        clear hx hdx hm
        by_cases hov : 18446744073709551615 < 10 * v + (m - 48)
        · have y3 : (18446744073709551615 - ((m : Int) - 48)).tdiv 10 < (v : Int) := by rw [Int.tdiv_eq_ediv_of_nonneg (by omega)]; omega
          have HO : Hid (numM d = none) := by
            show _ = _
            unfold numM
            rw [if_neg HB.out, if_neg]
            have h9 := decV_take d (i + 1)
            have h8 := HS.out
            omega
          go_wp2_with fail
          exact bodyPost_ret (v := .tuple #[.bool false, .int .u64 0]) (by simp [results, Tryz.results53, go_sem]) rfl ⟨rfl, .inr ⟨HO.out, rfl⟩⟩
        · have y3 : ¬ (18446744073709551615 - ((m : Int) - 48)).tdiv 10 < (v : Int) := by rw [Int.tdiv_eq_ediv_of_nonneg (by omega)]; omega
          go_wp2_with fail
          go_roundw
          case rel => exact ⟨i + 1, 10 * v + (m - 48), by go_num, by go_num, by omega, by omega, HS.out.symm, by first | rfl | trivial⟩
          case measure => simp [intOf]; omega
      · have zi : ¬ (i : Int) < (n : Int) := by omega
        have HO : Hid (numM d = some v) := by
          show _ = _
          have h9 := HV.out
          rw [List.take_of_length_le (by have := HN.out; omega)] at h9
          unfold numM
          rw [if_neg HB.out, if_pos (by omega), h9]
        go_wp2_with fail
        exact bodyPost_ret (v := .tuple #[.bool true, .int .u64 (v : Int)]) (by simp [results, Tryz.results53, go_sem]) rfl ⟨rfl, .inl ⟨v, HO.out, rfl⟩⟩
end Go.Proofs.YtgnpcenpcmdlfaaGreatDoor

/-
  What stands between quotes, step by step.
-/
namespace Go.Proofs.YtgnpcenpcmdlfaaGreatDoor
set_option linter.unusedVariables false
set_option linter.unusedSimpArgs false

theorem str_nil : strM [] = none := by unfold strM; rfl
theorem str_quo (r : List UInt8) : strM (34 :: r) = some ([], 1) := by unfold strM; rw [if_pos rfl]
theorem str_pla {b : UInt8} {r : List UInt8} (h1 : ¬ b = 34) (h2 : ¬ b = 92) (h3 : isPla b = true) : strM (b :: r) = (strM r).map (fun x => (b :: x.1, x.2 + 1)) := by
  conv => lhs; unfold strM
  rw [if_neg h1, if_neg h2, if_pos h3]
theorem str_not {b : UInt8} {r : List UInt8} (h1 : ¬ b = 34) (h2 : ¬ b = 92) (h3 : ¬ isPla b = true) : strM (b :: r) = none := by
  conv => lhs; unfold strM
  rw [if_neg h1, if_neg h2, if_neg h3]
theorem str_one : strM [92] = none := by decide
theorem str_esc {c : UInt8} {r : List UInt8} (h : c = 34 ∨ c = 92) : strM (92 :: c :: r) = (strM r).map (fun x => (c :: x.1, x.2 + 2)) := by
  conv => lhs; unfold strM
  rw [if_neg (by decide), if_pos rfl]
  dsimp only
  rw [if_pos h]
theorem str_odd {c : UInt8} {r : List UInt8} (h : ¬ (c = 34 ∨ c = 92)) (h2 : ¬ c = 120) : strM (92 :: c :: r) = none := by
  conv => lhs; unfold strM
  rw [if_neg (by decide), if_pos rfl]
  dsimp only
  rw [if_neg h, if_neg h2]
theorem str_x (r : List UInt8) : strM (92 :: 120 :: r) = (match r with
          | h :: l :: r3 => (match hexV h, hexV l with
            | some x, some y => (strM r3).map (fun z => (UInt8.ofNat (16 * x + y) :: z.1, z.2 + 4))
            | _, _ => none)
          | _ => none) := by
  conv => lhs; unfold strM
  rw [if_neg (by decide), if_pos rfl]
  dsimp only
  rw [if_neg (by decide), if_pos rfl]
  cases r with
  | nil => rfl
  | cons h r => cases r with
    | nil => rfl
    | cons l r => dsimp only; cases hexV h <;> cases hexV l <;> rfl
theorem str_hex {h l : UInt8} {r : List UInt8} {x y : Nat} (h1 : hexV h = some x) (h2 : hexV l = some y) : strM (92 :: 120 :: h :: l :: r) = (strM r).map (fun z => (UInt8.ofNat (16 * x + y) :: z.1, z.2 + 4)) := by
  rw [str_x]
  dsimp only
  rw [h1, h2]
theorem str_nohex {h l : UInt8} {r : List UInt8} (h1 : hexV h = none ∨ hexV l = none) : strM (92 :: 120 :: h :: l :: r) = none := by
  rw [str_x]
  dsimp only
  rcases h1 with q | q
  · rw [q]
  · rw [q]; cases hexV h <;> rfl
theorem str_short {r : List UInt8} (h : r.length < 2) : strM (92 :: 120 :: r) = none := by
  rw [str_x]
  match r, h with
  | [], _ => rfl
  | [a], _ => rfl
theorem dropT_cons {t : List UInt8} {j : Nat} {x : UInt8} (h : t[j]? = some x) : t.drop j = x :: t.drop (j + 1) := by
  have hj := (List.getElem?_eq_some_iff.1 h).1
  rw [List.drop_eq_getElem_cons hj, show t[j] = x from Option.some.inj ((List.getElem?_eq_getElem hj).symm.trans h)]
/-- What has been read ahead of place j, and what is to come. -/
def QuS (t : List UInt8) (i j : Nat) (X : List UInt8) : Prop := i + 1 ≤ j ∧ strM (t.drop (i + 1)) = (strM (t.drop j)).map (fun z => (X ++ z.1, z.2 + (j - (i + 1))))
theorem QuS.start (t : List UInt8) (i : Nat) : QuS t i (i + 1) [] := by
  refine ⟨Nat.le_refl _, ?_⟩
  cases strM (t.drop (i + 1)) with
  | none => rfl
  | some z => simp
theorem QuS.next {t : List UInt8} {i j k : Nat} {X : List UInt8} {b : UInt8} (h : QuS t i j X) (hs : strM (t.drop j) = (strM (t.drop (j + k))).map (fun z => (b :: z.1, z.2 + k))) : QuS t i (j + k) (X ++ [b]) := by
  refine ⟨by have := h.1; omega, ?_⟩
  rw [h.2, hs, Option.map_map]
  congr 1
  funext z
  have := h.1
  simp
  omega
theorem QuS.none {t : List UInt8} {i j : Nat} {X : List UInt8} (h : QuS t i j X) (hs : strM (t.drop j) = none) : strM (t.drop (i + 1)) = none := by rw [h.2, hs]; rfl
theorem QuS.done {t : List UInt8} {i j : Nat} {X : List UInt8} (h : QuS t i j X) (hs : t[j]? = some 34) : strM (t.drop (i + 1)) = some (X, j + 1 - (i + 1)) := by
  rw [h.2, dropT_cons hs, str_quo]
  have := h.1
  simp
  omega
theorem isPla_iff (b : UInt8) : isPla b = true ↔ 32 ≤ b.toNat ∧ b.toNat ≤ 126 := by unfold isPla; simp
theorem u8_ne {a b : UInt8} (h : ¬ a.toNat = b.toNat) : ¬ a = b := fun q => h (by rw [q])
theorem hexV_lt {b : UInt8} {x : Nat} (h : hexV b = some x) : x < 16 := by
  unfold hexV at h
  split at h
  · cases h; omega
  · split at h
    · cases h; omega
    · cases h
theorem hexI_some {b : UInt8} {x : Nat} (h : hexV b = some x) : hexI b = (x : Int) := by unfold hexI; rw [h]
theorem hexI_none {b : UInt8} (h : hexV b = none) : hexI b = -1 := by unfold hexI; rw [h]
end Go.Proofs.YtgnpcenpcmdlfaaGreatDoor

/-
  spec.l5Quoted.
-/
namespace Go.Proofs.YtgnpcenpcmdlfaaGreatDoor
open Go.ChangeShapes Go.WideShapes Go.ChangeAt Go.RowKit Go.Deep
set_option linter.unusedVariables false
set_option linter.unusedSimpArgs false
set_option maxRecDepth 100000

/-- A string read, not too long. -/
def quF (l : List UInt8) : Option (List UInt8 × Nat) := match strM l with
  | some (c, n) => if c.length ≤ 200 then some (c, n) else none
  | none => none
def QuoP (t : List UInt8) (i : Nat) (w : World) (e : Ending) (w' : World) : Prop := ∃ (ok : Bool) (s : ByteArray) (k : Int), e = .returned (.tuple #[.bool ok, .string s, .int .i64 k]) ∧ Hid (Below w.heap.size w w') ∧ ((ok = true ∧ ∃ c n, quF (t.drop (i + 1)) = some (c, n) ∧ s = strL c ∧ k = ((i + 1 + n : Nat) : Int)) ∨ (ok = false ∧ quF (t.drop (i + 1)) = none))
theorem quF_none {l : List UInt8} (h : strM l = none) : quF l = none := by unfold quF; rw [h]
theorem quF_long {l c : List UInt8} {n : Nat} (h : strM l = some (c, n)) (hc : ¬ c.length ≤ 200) : quF l = none := by unfold quF; rw [h]; exact if_neg hc
theorem quF_some {l c : List UInt8} {n : Nat} (h : strM l = some (c, n)) (hc : c.length ≤ 200) : quF l = some (c, n) := by unfold quF; rw [h]; exact if_pos hc
theorem wrap64 {x : Int} (h1 : -9223372036854775808 ≤ x) (h2 : x ≤ 9223372036854775807) : IntKind.i64.wrap x = x := by
  simp only [IntKind.wrap, IntKind.bits, IntKind.signed, Bool.true_and]
  split <;> simp_all <;> omega
set_option maxHeartbeats 16000000 in
theorem l5Quoted_core (b off cap : Nat) (t : List UInt8) (i : Nat) (w : World) (h : BysAt w b off t) (hb : b < w.heap.size) (hi : i < t.length) (hl : t.length ≤ 100000) :
    Calls Tryz.prog 54 #[.slice (some ⟨b, off, none⟩) t.length cap, .int .i64 (i : Int)] w (QuoP t i w) := by
  have HT : Hid (BysAt w b off t) := h
  obtain ⟨n, hn⟩ : ∃ n, n = t.length := ⟨_, rfl⟩
  have HN : Hid (n = t.length) := hn
  rw [← hn] at hi hl ⊢
  clear hn h
  obtain ⟨W0, hW0⟩ : ∃ W0 : World, W0 = w.alloc (Obj.cells #[] 5) := ⟨_, rfl⟩
  have HW0 : Hid (WrB W0 w.heap.size w.heap.size 0 [] ∧ Below w.heap.size w W0) := by
    rw [hW0]; exact ⟨(ownY_new w (Nat.le_refl _)).wr, (Below.refl _ _).alloc (Nat.le_refl _) _⟩
  go_enter Tryz.func54, Tryz.ntmps54
  go_upto_region 2 with fail
  rw [← hW0]
  clear hW0
  go_wp2_with fail
  go_loopw [7, 8] (fun ov jv wr => ∃ (j m g cp : Nat) (X : List UInt8), jv = .int .i64 (j : Int) ∧ j ≤ n ∧ m ≤ j ∧ ov = .slice (some ⟨g, 0, none⟩) m cp ∧ m = X.length ∧ QuS t i j X ∧ WrB wr w.heap.size g cp X ∧ Below w.heap.size w wr) (fun _ jv _ => n - (intOf jv).toNat)
  case atStart => exact ⟨i + 1, 0, w.heap.size, 0, [], by first | rfl | go_num, by omega, by omega, rfl, rfl, QuS.start t i, HW0.out.1, HW0.out.2⟩
  case round =>
    clear HW0
    obtain ⟨j, m, g, cp, X, rfl, hj, hmj, rfl, hm, hQ, hW, hbe⟩ := hrel
    have HJ : Hid (m = X.length ∧ QuS t i j X ∧ WrB wr w.heap.size g cp X ∧ Below w.heap.size w wr) := ⟨hm, hQ, hW, hbe⟩
    have hgl := hW.lt
    have hge := hW.le
    have sr := hbe.size
    have hij : i + 1 ≤ j := hQ.1
    obtain ⟨st, hst⟩ : ∃ st, st = strL X := ⟨_, rfl⟩
    have HSt : Hid (st = strL X ∧ ∀ wz, BysAt wz g 0 X → (convert 22 9 (.slice (some ⟨g, 0, none⟩) m cp)).run Tryz.prog wz = .ok (.string st) wz) := ⟨hst, fun wz hz => by
      have h9 := conv_win hz 0 m cp (by omega)
      rw [hst, h9, hm]; simp⟩
    clear hm hQ hW hbe hst
    have hw1 : IntKind.i64.wrap ((j : Int) + 1) = (j : Int) + 1 := wrap64 (by omega) (by omega)
    by_cases hjn : j < n
    case neg =>
      have zj : ¬ (j : Int) < (n : Int) := by omega
      obtain rfl : j = n := by omega
      have HE : Hid (quF (t.drop (i + 1)) = none) := quF_none (HJ.out.2.1.none (by rw [HN.out, List.drop_length, str_nil]))
      go_upto_region 16 with fail
      have hS0 : (fun w' : World => BysAt w' g 0 X) wr.drew := HJ.out.2.2.1.at_
      refine wp_region_T 99 (fun w' : World => BysAt w' g 0 X) (by kernel_rfl) ?_
      refine anyT_takeN (i := 0) (v := ?vqax0) rfl (by kernel_rfl) (by kernel_rfl) (by kernel_rfl) (by rfl) (fun _ _ _ h => h) (Or.inl ⟨by rfl, ?yqax0⟩) hS0 ?_
      case yqax0 => (intro wz hSw; go_simp; (try with_reducible rfl))
      try simp only [Act.put, List.getElem_toArray, List.getElem_cons_zero, List.getElem_cons_succ, List.setIfInBounds_toArray, List.set_cons_zero, List.set_cons_succ]
      refine anyT_takeN (i := 1) (v := ?vqax1) rfl (by kernel_rfl) (by kernel_rfl) (by kernel_rfl) (by rfl) (fun _ _ _ h => h) (Or.inl ⟨by rfl, ?yqax1⟩) hS0 ?_
      case yqax1 => (intro wz hSw; go_simp; (try with_reducible rfl))
      try simp only [Act.put, List.getElem_toArray, List.getElem_cons_zero, List.getElem_cons_succ, List.setIfInBounds_toArray, List.set_cons_zero, List.set_cons_succ]
      refine anyT_takeN (i := 2) (v := ?vqax2) rfl (by kernel_rfl) (by kernel_rfl) (by kernel_rfl) (by rfl) (fun _ _ _ h => h) (Or.inl ⟨by rfl, ?yqax2⟩) hS0 ?_
      case yqax2 => (intro wz hSw; go_simp; (try with_reducible rfl))
      try simp only [Act.put, List.getElem_toArray, List.getElem_cons_zero, List.getElem_cons_succ, List.setIfInBounds_toArray, List.set_cons_zero, List.set_cons_succ]
      refine anyT_takeN (i := 3) (v := .bool false) rfl (by kernel_rfl) (by kernel_rfl) (by kernel_rfl) (by rfl) (fun _ _ _ h => h) (Or.inl ⟨by rfl, ?yqax3⟩) hS0 ?_
      case yqax3 => (intro wz hSw; go_simp; (try with_reducible rfl))
      try simp only [Act.put, List.getElem_toArray, List.getElem_cons_zero, List.getElem_cons_succ, List.setIfInBounds_toArray, List.set_cons_zero, List.set_cons_succ]
      refine anyT_takeN (i := 4) (v := ?vqax4) rfl (by kernel_rfl) (by kernel_rfl) (by kernel_rfl) (by rfl) (fun _ _ _ h => h) (Or.inl ⟨by rfl, ?yqax4⟩) hS0 ?_
      case yqax4 => (intro wz hSw; go_simp; (try with_reducible rfl))
      try simp only [Act.put, List.getElem_toArray, List.getElem_cons_zero, List.getElem_cons_succ, List.setIfInBounds_toArray, List.set_cons_zero, List.set_cons_succ]
      refine anyT_takeN (i := 5) (v := undef) rfl (by kernel_rfl) (by kernel_rfl) (by kernel_rfl) (by rfl) (fun _ _ _ h => h) (Or.inr ⟨by rfl, rfl⟩) hS0 ?_
      try simp only [Act.put, List.getElem_toArray, List.getElem_cons_zero, List.getElem_cons_succ, List.setIfInBounds_toArray, List.set_cons_zero, List.set_cons_succ]
      refine anyT_takeN (i := 6) (v := undef) rfl (by kernel_rfl) (by kernel_rfl) (by kernel_rfl) (by rfl) (fun _ _ _ h => h) (Or.inr ⟨by rfl, rfl⟩) hS0 ?_
      try simp only [Act.put, List.getElem_toArray, List.getElem_cons_zero, List.getElem_cons_succ, List.setIfInBounds_toArray, List.set_cons_zero, List.set_cons_succ]
      refine anyT_takeN (i := 7) (v := undef) rfl (by kernel_rfl) (by kernel_rfl) (by kernel_rfl) (by rfl) (fun _ _ _ h => h) (Or.inr ⟨by rfl, rfl⟩) hS0 ?_
      try simp only [Act.put, List.getElem_toArray, List.getElem_cons_zero, List.getElem_cons_succ, List.setIfInBounds_toArray, List.set_cons_zero, List.set_cons_succ]
      refine anyT_takeN (i := 8) (v := ?vqax8) rfl (by kernel_rfl) (by kernel_rfl) (by kernel_rfl) (by rfl) (fun _ _ _ h => h) (Or.inl ⟨by rfl, ?yqax8⟩) hS0 ?_
      case yqax8 => (intro wz hSw; go_simp; (try with_reducible rfl))
      try simp only [Act.put, List.getElem_toArray, List.getElem_cons_zero, List.getElem_cons_succ, List.setIfInBounds_toArray, List.set_cons_zero, List.set_cons_succ]
      refine anyT_takeN (i := 9) (v := ?vqax9) rfl (by kernel_rfl) (by kernel_rfl) (by kernel_rfl) (by rfl) (fun _ _ _ h => h) (Or.inl ⟨by rfl, ?yqax9⟩) hS0 ?_
      case yqax9 => (intro wz hSw; go_simp; (try with_reducible rfl))
      try simp only [Act.put, List.getElem_toArray, List.getElem_cons_zero, List.getElem_cons_succ, List.setIfInBounds_toArray, List.set_cons_zero, List.set_cons_succ]
      refine anyT_takeN (i := 10) (v := .string st) rfl (by kernel_rfl) (by kernel_rfl) (by kernel_rfl) (by rfl) (fun _ _ _ h => h) (Or.inl ⟨by rfl, ?yqax10⟩) hS0 ?_
      case yqax10 => (intro wz hSw; have hcv := HSt.out.2 wz hSw; go_simp; (try with_reducible rfl))
      try simp only [Act.put, List.getElem_toArray, List.getElem_cons_zero, List.getElem_cons_succ, List.setIfInBounds_toArray, List.set_cons_zero, List.set_cons_succ]
      refine anyT_takeN (i := 11) (v := ?vqax11) rfl (by kernel_rfl) (by kernel_rfl) (by kernel_rfl) (by rfl) (fun _ _ _ h => h) (Or.inl ⟨by rfl, ?yqax11⟩) hS0 ?_
      case yqax11 => (intro wz hSw; go_simp; (try with_reducible rfl))
      try simp only [Act.put, List.getElem_toArray, List.getElem_cons_zero, List.getElem_cons_succ, List.setIfInBounds_toArray, List.set_cons_zero, List.set_cons_succ]
      refine anyT_takeN (i := 12) (v := .int .i64 ((j : Int) + 1)) rfl (by kernel_rfl) (by kernel_rfl) (by kernel_rfl) (by rfl) (fun _ _ _ h => h) (Or.inl ⟨by rfl, ?yqax12⟩) hS0 ?_
      case yqax12 => (intro wz hSw; go_simp; (try with_reducible rfl); (try go_num))
      try simp only [Act.put, List.getElem_toArray, List.getElem_cons_zero, List.getElem_cons_succ, List.setIfInBounds_toArray, List.set_cons_zero, List.set_cons_succ]
      refine anyT_takeN (i := 13) (v := ?vqax13) rfl (by kernel_rfl) (by kernel_rfl) (by kernel_rfl) (by rfl) (fun _ _ _ h => h) (Or.inl ⟨by rfl, ?yqax13⟩) hS0 ?_
      case yqax13 => (intro wz hSw; go_simp; (try with_reducible rfl))
      try simp only [Act.put, List.getElem_toArray, List.getElem_cons_zero, List.getElem_cons_succ, List.setIfInBounds_toArray, List.set_cons_zero, List.set_cons_succ]
      refine anyT_takeN (i := 14) (v := ?vqax14) rfl (by kernel_rfl) (by kernel_rfl) (by kernel_rfl) (by rfl) (fun _ _ _ h => h) (Or.inl ⟨by rfl, ?yqax14⟩) hS0 ?_
      case yqax14 => (intro wz hSw; go_simp; (try with_reducible rfl))
      try simp only [Act.put, List.getElem_toArray, List.getElem_cons_zero, List.getElem_cons_succ, List.setIfInBounds_toArray, List.set_cons_zero, List.set_cons_succ]
      refine anyT_takeN (i := 15) (v := ?vqax15) rfl (by kernel_rfl) (by kernel_rfl) (by kernel_rfl) (by rfl) (fun _ _ _ h => h) (Or.inl ⟨by rfl, ?yqax15⟩) hS0 ?_
      case yqax15 => (intro wz hSw; go_simp; (try with_reducible rfl))
      try simp only [Act.put, List.getElem_toArray, List.getElem_cons_zero, List.getElem_cons_succ, List.setIfInBounds_toArray, List.set_cons_zero, List.set_cons_succ]
      refine anyT_done (by kernel_rfl) ?_
      go_wp2_with fail
      exact bodyPost_ret (v := .tuple #[.bool false, .string st, .int .i64 ((j : Int) + 1)]) (by simp [results, Tryz.results54, go_sem]) rfl ⟨false, _, _, rfl, by first | exact HJ.out.2.2.2 | exact HJ.out.2.2.2.drew, .inr ⟨rfl, HE.out⟩⟩
    case pos =>
    have zj : (j : Int) < (n : Int) := by omega
    obtain ⟨x, hx⟩ : ∃ x, t[j]? = some x := ⟨_, List.getElem?_eq_getElem (by have := HN.out; omega)⟩
    have HC : Hid (∀ k y, t[k]? = some y → wr.cell? ⟨b, off + k, none⟩ = some (.int .u8 (y.toNat : Int))) := fun k y hk => by
      rw [HJ.out.2.2.2.cell (p := ⟨b, off + k, none⟩) hb]; exact HT.out k y hk
    have cx := HC.out j x hx
    have HX : Hid (t[j]? = some x) := hx
    clear hx
    by_cases h34 : x.toNat = 34
    · have z34 : ((x.toNat : Int) != 34) = false := by have : (x.toNat : Int) = 34 := (by omega); simp [this]
      obtain rfl : x = 34 := UInt8.toNat_inj.1 h34
      have HS : Hid (strM (t.drop (i + 1)) = some (X, j + 1 - (i + 1))) := HJ.out.2.1.done HX.out
      by_cases h200 : m ≤ 200
      · have z200 : (m : Int) ≤ 200 := by omega
        have HE : Hid (quF (t.drop (i + 1)) = some (X, j + 1 - (i + 1))) := quF_some HS.out (by rw [← HJ.out.1]; exact h200)
        go_upto_region 16 with fail
        have hS0 : (fun w' : World => BysAt w' g 0 X) wr.drew := HJ.out.2.2.1.at_
        refine wp_region_T 99 (fun w' : World => BysAt w' g 0 X) (by kernel_rfl) ?_
        refine anyT_takeN (i := 0) (v := ?vqbx0) rfl (by kernel_rfl) (by kernel_rfl) (by kernel_rfl) (by rfl) (fun _ _ _ h => h) (Or.inl ⟨by rfl, ?yqbx0⟩) hS0 ?_
        case yqbx0 => (intro wz hSw; go_simp; (try with_reducible rfl))
        try simp only [Act.put, List.getElem_toArray, List.getElem_cons_zero, List.getElem_cons_succ, List.setIfInBounds_toArray, List.set_cons_zero, List.set_cons_succ]
        refine anyT_takeN (i := 1) (v := ?vqbx1) rfl (by kernel_rfl) (by kernel_rfl) (by kernel_rfl) (by rfl) (fun _ _ _ h => h) (Or.inl ⟨by rfl, ?yqbx1⟩) hS0 ?_
        case yqbx1 => (intro wz hSw; go_simp; (try with_reducible rfl))
        try simp only [Act.put, List.getElem_toArray, List.getElem_cons_zero, List.getElem_cons_succ, List.setIfInBounds_toArray, List.set_cons_zero, List.set_cons_succ]
        refine anyT_takeN (i := 2) (v := ?vqbx2) rfl (by kernel_rfl) (by kernel_rfl) (by kernel_rfl) (by rfl) (fun _ _ _ h => h) (Or.inl ⟨by rfl, ?yqbx2⟩) hS0 ?_
        case yqbx2 => (intro wz hSw; go_simp; (try with_reducible rfl))
        try simp only [Act.put, List.getElem_toArray, List.getElem_cons_zero, List.getElem_cons_succ, List.setIfInBounds_toArray, List.set_cons_zero, List.set_cons_succ]
        refine anyT_takeN (i := 3) (v := .bool true) rfl (by kernel_rfl) (by kernel_rfl) (by kernel_rfl) (by rfl) (fun _ _ _ h => h) (Or.inl ⟨by rfl, ?yqbx3⟩) hS0 ?_
        case yqbx3 => (intro wz hSw; go_simp; (try with_reducible rfl))
        try simp only [Act.put, List.getElem_toArray, List.getElem_cons_zero, List.getElem_cons_succ, List.setIfInBounds_toArray, List.set_cons_zero, List.set_cons_succ]
        refine anyT_takeN (i := 4) (v := ?vqbx4) rfl (by kernel_rfl) (by kernel_rfl) (by kernel_rfl) (by rfl) (fun _ _ _ h => h) (Or.inl ⟨by rfl, ?yqbx4⟩) hS0 ?_
        case yqbx4 => (intro wz hSw; go_simp; (try with_reducible rfl))
        try simp only [Act.put, List.getElem_toArray, List.getElem_cons_zero, List.getElem_cons_succ, List.setIfInBounds_toArray, List.set_cons_zero, List.set_cons_succ]
        refine anyT_takeN (i := 5) (v := ?vqbx5) rfl (by kernel_rfl) (by kernel_rfl) (by kernel_rfl) (by rfl) (fun _ _ _ h => h) (Or.inl ⟨by rfl, ?yqbx5⟩) hS0 ?_
        case yqbx5 => (intro wz hSw; go_simp; (try with_reducible rfl))
        try simp only [Act.put, List.getElem_toArray, List.getElem_cons_zero, List.getElem_cons_succ, List.setIfInBounds_toArray, List.set_cons_zero, List.set_cons_succ]
        refine anyT_takeN (i := 6) (v := ?vqbx6) rfl (by kernel_rfl) (by kernel_rfl) (by kernel_rfl) (by rfl) (fun _ _ _ h => h) (Or.inl ⟨by rfl, ?yqbx6⟩) hS0 ?_
        case yqbx6 => (intro wz hSw; go_simp; (try with_reducible rfl))
        try simp only [Act.put, List.getElem_toArray, List.getElem_cons_zero, List.getElem_cons_succ, List.setIfInBounds_toArray, List.set_cons_zero, List.set_cons_succ]
        refine anyT_takeN (i := 7) (v := .bool true) rfl (by kernel_rfl) (by kernel_rfl) (by kernel_rfl) (by rfl) (fun _ _ _ h => h) (Or.inl ⟨by rfl, ?yqbx7⟩) hS0 ?_
        case yqbx7 => (intro wz hSw; go_simp; (try with_reducible rfl))
        try simp only [Act.put, List.getElem_toArray, List.getElem_cons_zero, List.getElem_cons_succ, List.setIfInBounds_toArray, List.set_cons_zero, List.set_cons_succ]
        refine anyT_takeN (i := 8) (v := ?vqbx8) rfl (by kernel_rfl) (by kernel_rfl) (by kernel_rfl) (by rfl) (fun _ _ _ h => h) (Or.inl ⟨by rfl, ?yqbx8⟩) hS0 ?_
        case yqbx8 => (intro wz hSw; go_simp; (try with_reducible rfl))
        try simp only [Act.put, List.getElem_toArray, List.getElem_cons_zero, List.getElem_cons_succ, List.setIfInBounds_toArray, List.set_cons_zero, List.set_cons_succ]
        refine anyT_takeN (i := 9) (v := ?vqbx9) rfl (by kernel_rfl) (by kernel_rfl) (by kernel_rfl) (by rfl) (fun _ _ _ h => h) (Or.inl ⟨by rfl, ?yqbx9⟩) hS0 ?_
        case yqbx9 => (intro wz hSw; go_simp; (try with_reducible rfl))
        try simp only [Act.put, List.getElem_toArray, List.getElem_cons_zero, List.getElem_cons_succ, List.setIfInBounds_toArray, List.set_cons_zero, List.set_cons_succ]
        refine anyT_takeN (i := 10) (v := .string st) rfl (by kernel_rfl) (by kernel_rfl) (by kernel_rfl) (by rfl) (fun _ _ _ h => h) (Or.inl ⟨by rfl, ?yqbx10⟩) hS0 ?_
        case yqbx10 => (intro wz hSw; have hcv := HSt.out.2 wz hSw; go_simp; (try with_reducible rfl))
        try simp only [Act.put, List.getElem_toArray, List.getElem_cons_zero, List.getElem_cons_succ, List.setIfInBounds_toArray, List.set_cons_zero, List.set_cons_succ]
        refine anyT_takeN (i := 11) (v := ?vqbx11) rfl (by kernel_rfl) (by kernel_rfl) (by kernel_rfl) (by rfl) (fun _ _ _ h => h) (Or.inl ⟨by rfl, ?yqbx11⟩) hS0 ?_
        case yqbx11 => (intro wz hSw; go_simp; (try with_reducible rfl))
        try simp only [Act.put, List.getElem_toArray, List.getElem_cons_zero, List.getElem_cons_succ, List.setIfInBounds_toArray, List.set_cons_zero, List.set_cons_succ]
        refine anyT_takeN (i := 12) (v := .int .i64 ((j : Int) + 1)) rfl (by kernel_rfl) (by kernel_rfl) (by kernel_rfl) (by rfl) (fun _ _ _ h => h) (Or.inl ⟨by rfl, ?yqbx12⟩) hS0 ?_
        case yqbx12 => (intro wz hSw; go_simp; (try with_reducible rfl); (try go_num))
        try simp only [Act.put, List.getElem_toArray, List.getElem_cons_zero, List.getElem_cons_succ, List.setIfInBounds_toArray, List.set_cons_zero, List.set_cons_succ]
        refine anyT_takeN (i := 13) (v := ?vqbx13) rfl (by kernel_rfl) (by kernel_rfl) (by kernel_rfl) (by rfl) (fun _ _ _ h => h) (Or.inl ⟨by rfl, ?yqbx13⟩) hS0 ?_
        case yqbx13 => (intro wz hSw; go_simp; (try with_reducible rfl))
        try simp only [Act.put, List.getElem_toArray, List.getElem_cons_zero, List.getElem_cons_succ, List.setIfInBounds_toArray, List.set_cons_zero, List.set_cons_succ]
        refine anyT_takeN (i := 14) (v := ?vqbx14) rfl (by kernel_rfl) (by kernel_rfl) (by kernel_rfl) (by rfl) (fun _ _ _ h => h) (Or.inl ⟨by rfl, ?yqbx14⟩) hS0 ?_
        case yqbx14 => (intro wz hSw; go_simp; (try with_reducible rfl))
        try simp only [Act.put, List.getElem_toArray, List.getElem_cons_zero, List.getElem_cons_succ, List.setIfInBounds_toArray, List.set_cons_zero, List.set_cons_succ]
        refine anyT_takeN (i := 15) (v := ?vqbx15) rfl (by kernel_rfl) (by kernel_rfl) (by kernel_rfl) (by rfl) (fun _ _ _ h => h) (Or.inl ⟨by rfl, ?yqbx15⟩) hS0 ?_
        case yqbx15 => (intro wz hSw; go_simp; (try with_reducible rfl))
        try simp only [Act.put, List.getElem_toArray, List.getElem_cons_zero, List.getElem_cons_succ, List.setIfInBounds_toArray, List.set_cons_zero, List.set_cons_succ]
        refine anyT_done (by kernel_rfl) ?_
        go_wp2_with fail
        exact bodyPost_ret (v := .tuple #[.bool true, .string st, .int .i64 ((j : Int) + 1)]) (by simp [results, Tryz.results54, go_sem]) rfl ⟨true, _, _, rfl, by first | exact HJ.out.2.2.2 | exact HJ.out.2.2.2.drew, .inl ⟨rfl, X, _, HE.out, HSt.out.1, by omega⟩⟩
      · have z200 : ¬ (m : Int) ≤ 200 := by omega
        have HE : Hid (quF (t.drop (i + 1)) = none) := quF_long HS.out (by rw [← HJ.out.1]; exact h200)
        go_upto_region 16 with fail
        have hS0 : (fun w' : World => BysAt w' g 0 X) wr.drew := HJ.out.2.2.1.at_
        refine wp_region_T 99 (fun w' : World => BysAt w' g 0 X) (by kernel_rfl) ?_
        refine anyT_takeN (i := 0) (v := ?vqcx0) rfl (by kernel_rfl) (by kernel_rfl) (by kernel_rfl) (by rfl) (fun _ _ _ h => h) (Or.inl ⟨by rfl, ?yqcx0⟩) hS0 ?_
        case yqcx0 => (intro wz hSw; go_simp; (try with_reducible rfl))
        try simp only [Act.put, List.getElem_toArray, List.getElem_cons_zero, List.getElem_cons_succ, List.setIfInBounds_toArray, List.set_cons_zero, List.set_cons_succ]
        refine anyT_takeN (i := 1) (v := ?vqcx1) rfl (by kernel_rfl) (by kernel_rfl) (by kernel_rfl) (by rfl) (fun _ _ _ h => h) (Or.inl ⟨by rfl, ?yqcx1⟩) hS0 ?_
        case yqcx1 => (intro wz hSw; go_simp; (try with_reducible rfl))
        try simp only [Act.put, List.getElem_toArray, List.getElem_cons_zero, List.getElem_cons_succ, List.setIfInBounds_toArray, List.set_cons_zero, List.set_cons_succ]
        refine anyT_takeN (i := 2) (v := ?vqcx2) rfl (by kernel_rfl) (by kernel_rfl) (by kernel_rfl) (by rfl) (fun _ _ _ h => h) (Or.inl ⟨by rfl, ?yqcx2⟩) hS0 ?_
        case yqcx2 => (intro wz hSw; go_simp; (try with_reducible rfl))
        try simp only [Act.put, List.getElem_toArray, List.getElem_cons_zero, List.getElem_cons_succ, List.setIfInBounds_toArray, List.set_cons_zero, List.set_cons_succ]
        refine anyT_takeN (i := 3) (v := .bool true) rfl (by kernel_rfl) (by kernel_rfl) (by kernel_rfl) (by rfl) (fun _ _ _ h => h) (Or.inl ⟨by rfl, ?yqcx3⟩) hS0 ?_
        case yqcx3 => (intro wz hSw; go_simp; (try with_reducible rfl))
        try simp only [Act.put, List.getElem_toArray, List.getElem_cons_zero, List.getElem_cons_succ, List.setIfInBounds_toArray, List.set_cons_zero, List.set_cons_succ]
        refine anyT_takeN (i := 4) (v := ?vqcx4) rfl (by kernel_rfl) (by kernel_rfl) (by kernel_rfl) (by rfl) (fun _ _ _ h => h) (Or.inl ⟨by rfl, ?yqcx4⟩) hS0 ?_
        case yqcx4 => (intro wz hSw; go_simp; (try with_reducible rfl))
        try simp only [Act.put, List.getElem_toArray, List.getElem_cons_zero, List.getElem_cons_succ, List.setIfInBounds_toArray, List.set_cons_zero, List.set_cons_succ]
        refine anyT_takeN (i := 5) (v := ?vqcx5) rfl (by kernel_rfl) (by kernel_rfl) (by kernel_rfl) (by rfl) (fun _ _ _ h => h) (Or.inl ⟨by rfl, ?yqcx5⟩) hS0 ?_
        case yqcx5 => (intro wz hSw; go_simp; (try with_reducible rfl))
        try simp only [Act.put, List.getElem_toArray, List.getElem_cons_zero, List.getElem_cons_succ, List.setIfInBounds_toArray, List.set_cons_zero, List.set_cons_succ]
        refine anyT_takeN (i := 6) (v := ?vqcx6) rfl (by kernel_rfl) (by kernel_rfl) (by kernel_rfl) (by rfl) (fun _ _ _ h => h) (Or.inl ⟨by rfl, ?yqcx6⟩) hS0 ?_
        case yqcx6 => (intro wz hSw; go_simp; (try with_reducible rfl))
        try simp only [Act.put, List.getElem_toArray, List.getElem_cons_zero, List.getElem_cons_succ, List.setIfInBounds_toArray, List.set_cons_zero, List.set_cons_succ]
        refine anyT_takeN (i := 7) (v := .bool false) rfl (by kernel_rfl) (by kernel_rfl) (by kernel_rfl) (by rfl) (fun _ _ _ h => h) (Or.inl ⟨by rfl, ?yqcx7⟩) hS0 ?_
        case yqcx7 => (intro wz hSw; go_simp; (try with_reducible rfl))
        try simp only [Act.put, List.getElem_toArray, List.getElem_cons_zero, List.getElem_cons_succ, List.setIfInBounds_toArray, List.set_cons_zero, List.set_cons_succ]
        refine anyT_takeN (i := 8) (v := ?vqcx8) rfl (by kernel_rfl) (by kernel_rfl) (by kernel_rfl) (by rfl) (fun _ _ _ h => h) (Or.inl ⟨by rfl, ?yqcx8⟩) hS0 ?_
        case yqcx8 => (intro wz hSw; go_simp; (try with_reducible rfl))
        try simp only [Act.put, List.getElem_toArray, List.getElem_cons_zero, List.getElem_cons_succ, List.setIfInBounds_toArray, List.set_cons_zero, List.set_cons_succ]
        refine anyT_takeN (i := 9) (v := ?vqcx9) rfl (by kernel_rfl) (by kernel_rfl) (by kernel_rfl) (by rfl) (fun _ _ _ h => h) (Or.inl ⟨by rfl, ?yqcx9⟩) hS0 ?_
        case yqcx9 => (intro wz hSw; go_simp; (try with_reducible rfl))
        try simp only [Act.put, List.getElem_toArray, List.getElem_cons_zero, List.getElem_cons_succ, List.setIfInBounds_toArray, List.set_cons_zero, List.set_cons_succ]
        refine anyT_takeN (i := 10) (v := .string st) rfl (by kernel_rfl) (by kernel_rfl) (by kernel_rfl) (by rfl) (fun _ _ _ h => h) (Or.inl ⟨by rfl, ?yqcx10⟩) hS0 ?_
        case yqcx10 => (intro wz hSw; have hcv := HSt.out.2 wz hSw; go_simp; (try with_reducible rfl))
        try simp only [Act.put, List.getElem_toArray, List.getElem_cons_zero, List.getElem_cons_succ, List.setIfInBounds_toArray, List.set_cons_zero, List.set_cons_succ]
        refine anyT_takeN (i := 11) (v := ?vqcx11) rfl (by kernel_rfl) (by kernel_rfl) (by kernel_rfl) (by rfl) (fun _ _ _ h => h) (Or.inl ⟨by rfl, ?yqcx11⟩) hS0 ?_
        case yqcx11 => (intro wz hSw; go_simp; (try with_reducible rfl))
        try simp only [Act.put, List.getElem_toArray, List.getElem_cons_zero, List.getElem_cons_succ, List.setIfInBounds_toArray, List.set_cons_zero, List.set_cons_succ]
        refine anyT_takeN (i := 12) (v := .int .i64 ((j : Int) + 1)) rfl (by kernel_rfl) (by kernel_rfl) (by kernel_rfl) (by rfl) (fun _ _ _ h => h) (Or.inl ⟨by rfl, ?yqcx12⟩) hS0 ?_
        case yqcx12 => (intro wz hSw; go_simp; (try with_reducible rfl); (try go_num))
        try simp only [Act.put, List.getElem_toArray, List.getElem_cons_zero, List.getElem_cons_succ, List.setIfInBounds_toArray, List.set_cons_zero, List.set_cons_succ]
        refine anyT_takeN (i := 13) (v := ?vqcx13) rfl (by kernel_rfl) (by kernel_rfl) (by kernel_rfl) (by rfl) (fun _ _ _ h => h) (Or.inl ⟨by rfl, ?yqcx13⟩) hS0 ?_
        case yqcx13 => (intro wz hSw; go_simp; (try with_reducible rfl))
        try simp only [Act.put, List.getElem_toArray, List.getElem_cons_zero, List.getElem_cons_succ, List.setIfInBounds_toArray, List.set_cons_zero, List.set_cons_succ]
        refine anyT_takeN (i := 14) (v := ?vqcx14) rfl (by kernel_rfl) (by kernel_rfl) (by kernel_rfl) (by rfl) (fun _ _ _ h => h) (Or.inl ⟨by rfl, ?yqcx14⟩) hS0 ?_
        case yqcx14 => (intro wz hSw; go_simp; (try with_reducible rfl))
        try simp only [Act.put, List.getElem_toArray, List.getElem_cons_zero, List.getElem_cons_succ, List.setIfInBounds_toArray, List.set_cons_zero, List.set_cons_succ]
        refine anyT_takeN (i := 15) (v := ?vqcx15) rfl (by kernel_rfl) (by kernel_rfl) (by kernel_rfl) (by rfl) (fun _ _ _ h => h) (Or.inl ⟨by rfl, ?yqcx15⟩) hS0 ?_
        case yqcx15 => (intro wz hSw; go_simp; (try with_reducible rfl))
        try simp only [Act.put, List.getElem_toArray, List.getElem_cons_zero, List.getElem_cons_succ, List.setIfInBounds_toArray, List.set_cons_zero, List.set_cons_succ]
        refine anyT_done (by kernel_rfl) ?_
        go_wp2_with fail
        exact bodyPost_ret (v := .tuple #[.bool false, .string st, .int .i64 ((j : Int) + 1)]) (by simp [results, Tryz.results54, go_sem]) rfl ⟨false, _, _, rfl, by first | exact HJ.out.2.2.2 | exact HJ.out.2.2.2.drew, .inr ⟨rfl, HE.out⟩⟩
    have z34 : ((x.toNat : Int) != 34) = true := by have : ¬ (x.toNat : Int) = 34 := (by omega); simp [this]
    have hx8 : x.toNat < 256 := x.toNat_lt
    have ret : ∀ (k : Int), quF (t.drop (i + 1)) = none → Hid (QuoP t i w (.returned (.tuple #[.bool false, .string ⟨#[]⟩, .int .i64 k])) wr) := fun k hk => ⟨false, _, _, rfl, HJ.out.2.2.2, .inr ⟨rfl, hk⟩⟩
    by_cases h32 : x.toNat < 32
    · have z32 : (x.toNat : Int) < 32 := by omega
      have HR := ret (j : Int) (quF_none (HJ.out.2.1.none (by rw [dropT_cons HX.out]; exact str_not (u8_ne (by show ¬ x.toNat = 34; omega)) (u8_ne (by show ¬ x.toNat = 92; omega)) (by rw [isPla_iff]; omega))))
      clear ret
      go_wp2_with fail
      exact bodyPost_ret (v := .tuple #[.bool false, .string ⟨#[]⟩, .int .i64 (j : Int)]) (by simp [results, Tryz.results54, go_sem]) rfl HR.out
    have z32 : ¬ (x.toNat : Int) < 32 := by omega
    by_cases h126 : 126 < x.toNat
    · have z126 : (126 : Int) < (x.toNat : Int) := by omega
      have HR := ret (j : Int) (quF_none (HJ.out.2.1.none (by rw [dropT_cons HX.out]; exact str_not (u8_ne (by show ¬ x.toNat = 34; omega)) (u8_ne (by show ¬ x.toNat = 92; omega)) (by rw [isPla_iff]; omega))))
      clear ret
      go_wp2_with fail
      exact bodyPost_ret (v := .tuple #[.bool false, .string ⟨#[]⟩, .int .i64 (j : Int)]) (by simp [results, Tryz.results54, go_sem]) rfl HR.out
    have z126 : ¬ (126 : Int) < (x.toNat : Int) := by omega
    by_cases h92 : x.toNat = 92
    case neg =>
      have z92 : ((x.toNat : Int) != 92) = true := by have : ¬ (x.toNat : Int) = 92 := (by omega); simp [this]
      have HQ : Hid (QuS t i (j + 1) (X ++ [x])) := HJ.out.2.1.next (k := 1) (by rw [dropT_cons HX.out]; exact str_pla (u8_ne (by show ¬ x.toNat = 34; omega)) (u8_ne (by show ¬ x.toNat = 92; omega)) (by rw [isPla_iff]; omega))
      obtain ⟨W2, hW2⟩ : ∃ W2 : World, W2 = wr.alloc (Obj.cells #[.int .u8 (x.toNat : Int)] 5) := ⟨_, rfl⟩
      have hb2 : Below wr.heap.size wr W2 := by rw [hW2]; exact (Below.refl _ _).alloc (Nat.le_refl _) _
      have s2 := hb2.size
      have HW2 : Hid (WrB W2 w.heap.size g cp X ∧ Below w.heap.size w W2 ∧ BysAt W2 wr.heap.size 0 [x]) := by
        refine ⟨HJ.out.2.2.1.below hb2, HJ.out.2.2.2.trans (hb2.mono sr), ?_⟩
        rw [hW2]; exact bys_new wr _ [x] rfl
      clear hb2 ret
      go_wp2_with (at_builtin; (try rw [← hW2]); refine wpList_append_wr _ rfl _ _ rfl w.heap.size g cp m wr.heap.size 0 1 1 X [x] rfl rfl HJ.out.1 rfl HW2.out.1 HW2.out.2.2 ?hl ?hb ?_)
      case hl => first | omega | (rw [← HJ.out.1]; first | (show m + 1 ≤ _; omega) | omega)
      case hb => omega
      intro g' cp' w' hW' hgr hat
      have hgr2 : W2.grownBy w' (some g) := by first | exact hgr | (rw [hW2]; exact hgr)
      have HR : Hid (WrB w' w.heap.size g' cp' (X ++ [x]) ∧ Below w.heap.size w w' ∧ m + 1 = (X ++ [x]).length) := ⟨hW', WrB.next HW2.out.2.1 (by omega) hge hgr2, by rw [List.length_append, ← HJ.out.1]; rfl⟩
      clear hW' hgr hgr2 hat hW2
      go_wp2_with fail
      go_roundw
      case rel => exact ⟨j + 1, m + 1, g', cp', X ++ [x], by go_num, by omega, by omega, rfl, HR.out.2.2, HQ.out, HR.out.1, HR.out.2.1⟩
      case measure => simp [intOf]; omega
    case pos =>
    have z92 : ((x.toNat : Int) != 92) = false := by have : (x.toNat : Int) = 92 := (by omega); simp [this]
    obtain rfl : x = 92 := UInt8.toNat_inj.1 h92
    clear h34 h32 h126 h92 hx8
    by_cases h1 : j + 1 < n
    case neg =>
      have z1 : ¬ (j : Int) + 1 < (n : Int) := by omega
      have z3 : ¬ (j : Int) + 3 < (n : Int) := by omega
      have HR := ret (j : Int) (quF_none (HJ.out.2.1.none (by
        rw [dropT_cons HX.out, List.drop_eq_nil_of_le (by have := HN.out; omega)]; exact str_one)))
      clear ret
      go_wp2_with fail
      exact bodyPost_ret (v := .tuple #[.bool false, .string ⟨#[]⟩, .int .i64 (j : Int)]) (by simp [results, Tryz.results54, go_sem]) rfl HR.out
    case pos =>
    have z1 : (j : Int) + 1 < (n : Int) := by omega
    obtain ⟨y, hy⟩ : ∃ y, t[j + 1]? = some y := ⟨_, List.getElem?_eq_getElem (by have := HN.out; omega)⟩
    have HY : Hid (t[j + 1]? = some y) := hy
    have cy := HC.out (j + 1) y hy
    have hy8 : y.toNat < 256 := y.toNat_lt
    clear hy
    by_cases hq : y.toNat = 34
    case pos =>
      have zq : ((y.toNat : Int) == 34) = true := by have : (y.toNat : Int) = 34 := (by omega); simp [this]
      have HQ : Hid (QuS t i (j + 2) (X ++ [y])) := HJ.out.2.1.next (k := 2) (by rw [dropT_cons HX.out, dropT_cons HY.out]; exact str_esc (.inl (UInt8.toNat_inj.1 hq)))
      clear hq
      obtain ⟨W2, hW2⟩ : ∃ W2 : World, W2 = wr.alloc (Obj.cells #[.int .u8 (y.toNat : Int)] 5) := ⟨_, rfl⟩
      have hb2 : Below wr.heap.size wr W2 := by rw [hW2]; exact (Below.refl _ _).alloc (Nat.le_refl _) _
      have s2 := hb2.size
      have HW2 : Hid (WrB W2 w.heap.size g cp X ∧ Below w.heap.size w W2 ∧ BysAt W2 wr.heap.size 0 [y]) := by
        refine ⟨HJ.out.2.2.1.below hb2, HJ.out.2.2.2.trans (hb2.mono sr), ?_⟩
        rw [hW2]; exact bys_new wr _ [y] rfl
      clear hb2 ret
      go_wp2_with (at_builtin; (try rw [← hW2]); refine wpList_append_wr _ rfl _ _ rfl w.heap.size g cp m wr.heap.size 0 1 1 X [y] rfl rfl HJ.out.1 rfl HW2.out.1 HW2.out.2.2 ?hl ?hb ?_)
      case hl => first | omega | (rw [← HJ.out.1]; first | (show m + 1 ≤ _; omega) | omega)
      case hb => omega
      intro g' cp' w' hW' hgr hat
      have hgr2 : W2.grownBy w' (some g) := by first | exact hgr | (rw [hW2]; exact hgr)
      have HR : Hid (WrB w' w.heap.size g' cp' (X ++ [y]) ∧ Below w.heap.size w w' ∧ m + 1 = (X ++ [y]).length) := ⟨hW', WrB.next HW2.out.2.1 (by omega) hge hgr2, by rw [List.length_append, ← HJ.out.1]; rfl⟩
      clear hW' hgr hgr2 hat hW2
      go_wp2_with fail
      go_roundw
      case rel => exact ⟨j + 2, m + 1, g', cp', X ++ [y], by go_num, by omega, by omega, rfl, HR.out.2.2, HQ.out, HR.out.1, HR.out.2.1⟩
      case measure => simp [intOf]; omega
    case neg =>
    have zq : ((y.toNat : Int) == 34) = false := by have : ¬ (y.toNat : Int) = 34 := (by omega); simp [this]
    by_cases hq2 : y.toNat = 92
    case pos =>
      have zq2 : ((y.toNat : Int) == 92) = true := by have : (y.toNat : Int) = 92 := (by omega); simp [this]
      have HQ : Hid (QuS t i (j + 2) (X ++ [y])) := HJ.out.2.1.next (k := 2) (by rw [dropT_cons HX.out, dropT_cons HY.out]; exact str_esc (.inr (UInt8.toNat_inj.1 hq2)))
      clear hq hq2
      obtain ⟨W2, hW2⟩ : ∃ W2 : World, W2 = wr.alloc (Obj.cells #[.int .u8 (y.toNat : Int)] 5) := ⟨_, rfl⟩
      have hb2 : Below wr.heap.size wr W2 := by rw [hW2]; exact (Below.refl _ _).alloc (Nat.le_refl _) _
      have s2 := hb2.size
      have HW2 : Hid (WrB W2 w.heap.size g cp X ∧ Below w.heap.size w W2 ∧ BysAt W2 wr.heap.size 0 [y]) := by
        refine ⟨HJ.out.2.2.1.below hb2, HJ.out.2.2.2.trans (hb2.mono sr), ?_⟩
        rw [hW2]; exact bys_new wr _ [y] rfl
      clear hb2 ret
      go_wp2_with (at_builtin; (try rw [← hW2]); refine wpList_append_wr _ rfl _ _ rfl w.heap.size g cp m wr.heap.size 0 1 1 X [y] rfl rfl HJ.out.1 rfl HW2.out.1 HW2.out.2.2 ?hl ?hb ?_)
      case hl => first | omega | (rw [← HJ.out.1]; first | (show m + 1 ≤ _; omega) | omega)
      case hb => omega
      intro g' cp' w' hW' hgr hat
      have hgr2 : W2.grownBy w' (some g) := by first | exact hgr | (rw [hW2]; exact hgr)
      have HR : Hid (WrB w' w.heap.size g' cp' (X ++ [y]) ∧ Below w.heap.size w w' ∧ m + 1 = (X ++ [y]).length) := ⟨hW', WrB.next HW2.out.2.1 (by omega) hge hgr2, by rw [List.length_append, ← HJ.out.1]; rfl⟩
      clear hW' hgr hgr2 hat hW2
      go_wp2_with fail
      go_roundw
      case rel => exact ⟨j + 2, m + 1, g', cp', X ++ [y], by go_num, by omega, by omega, rfl, HR.out.2.2, HQ.out, HR.out.1, HR.out.2.1⟩
      case measure => simp [intOf]; omega
    case neg =>
    have zq2 : ((y.toNat : Int) == 92) = false := by have : ¬ (y.toNat : Int) = 92 := (by omega); simp [this]
    have hno : ¬ (y = 34 ∨ y = 92) := fun q => by rcases q with q | q <;> subst q <;> first | exact hq rfl | exact hq2 rfl
    by_cases h3 : j + 3 < n
    case neg =>
      have z3 : ¬ (j : Int) + 3 < (n : Int) := by omega
      have HR := ret (j : Int) (quF_none (HJ.out.2.1.none (by
        rw [dropT_cons HX.out, dropT_cons HY.out]
        by_cases q : y = 120
        · rw [q]; exact str_short (by rw [List.length_drop]; have := HN.out; omega)
        · exact str_odd hno q)))
      clear ret
      go_wp2_with fail
      exact bodyPost_ret (v := .tuple #[.bool false, .string ⟨#[]⟩, .int .i64 (j : Int)]) (by simp [results, Tryz.results54, go_sem]) rfl HR.out
    case pos =>
    have z3 : (j : Int) + 3 < (n : Int) := by omega
    by_cases h120 : y.toNat = 120
    case neg =>
      have z120 : ((y.toNat : Int) == 120) = false := by have : ¬ (y.toNat : Int) = 120 := (by omega); simp [this]
      have HR := ret (j : Int) (quF_none (HJ.out.2.1.none (by
        rw [dropT_cons HX.out, dropT_cons HY.out]
        exact str_odd hno (fun q => h120 (by rw [q]; rfl)))))
      clear ret
      go_wp2_with fail
      exact bodyPost_ret (v := .tuple #[.bool false, .string ⟨#[]⟩, .int .i64 (j : Int)]) (by simp [results, Tryz.results54, go_sem]) rfl HR.out
    case pos =>
    have z120 : ((y.toNat : Int) == 120) = true := by have : (y.toNat : Int) = 120 := (by omega); simp [this]
    obtain rfl : y = 120 := UInt8.toNat_inj.1 h120
    clear hq hq2 hno h120 hy8
    obtain ⟨u, hu⟩ : ∃ u, t[j + 2]? = some u := ⟨_, List.getElem?_eq_getElem (by have := HN.out; omega)⟩
    obtain ⟨v, hv⟩ : ∃ v, t[j + 3]? = some v := ⟨_, List.getElem?_eq_getElem (by have := HN.out; omega)⟩
    have HU : Hid (t[j + 2]? = some u ∧ t[j + 3]? = some v) := ⟨hu, hv⟩
    have cu := HC.out (j + 2) u hu
    have cw := HC.out (j + 3) v hv
    clear hu hv
    cases hxu : hexV u with
    | none =>
      have z5 : ¬ (0 : Int) ≤ hexI u := by rw [hexI_none hxu]; omega
      have HR := ret (j : Int) (quF_none (HJ.out.2.1.none (by
        rw [dropT_cons HX.out, dropT_cons HY.out, dropT_cons HU.out.1, dropT_cons HU.out.2]
        exact str_nohex (.inl hxu))))
      clear ret
      go_wp2_with (go_at_call 88; refine (l5Hex_core u _).mono ?_; rintro e w1 ⟨rfl, hw1⟩; rw [hw1]; clear hw1)
      exact bodyPost_ret (v := .tuple #[.bool false, .string ⟨#[]⟩, .int .i64 (j : Int)]) (by simp [results, Tryz.results54, go_sem]) rfl HR.out
    | some p =>
      have z5 : (0 : Int) ≤ hexI u := by rw [hexI_some hxu]; omega
      cases hxv : hexV v with
      | none =>
        have z6 : ¬ (0 : Int) ≤ hexI v := by rw [hexI_none hxv]; omega
        have HR := ret (j : Int) (quF_none (HJ.out.2.1.none (by
          rw [dropT_cons HX.out, dropT_cons HY.out, dropT_cons HU.out.1, dropT_cons HU.out.2]
          exact str_nohex (.inr hxv))))
        clear ret
        go_wp2_with (go_at_call 88; refine (l5Hex_core _ _).mono ?_; rintro e w1 ⟨rfl, hw1⟩; rw [hw1]; clear hw1)
        exact bodyPost_ret (v := .tuple #[.bool false, .string ⟨#[]⟩, .int .i64 (j : Int)]) (by simp [results, Tryz.results54, go_sem]) rfl HR.out
      | some q =>
        clear ret
        have hpl := hexV_lt hxu
        have hql := hexV_lt hxv
        obtain ⟨z, hz⟩ : ∃ z : UInt8, z = UInt8.ofNat (16 * p + q) := ⟨_, rfl⟩
        have hzn : z.toNat = 16 * p + q := by rw [hz, UInt8.toNat_ofNat']; omega
        have HQ : Hid (QuS t i (j + 4) (X ++ [z])) := HJ.out.2.1.next (k := 4) (by
          rw [dropT_cons HX.out, dropT_cons HY.out, dropT_cons HU.out.1, dropT_cons HU.out.2, hz]
          exact str_hex hxu hxv)
        have HZ : Hid (IntKind.u8.wrap (16 * hexI u + hexI v) = (z.toNat : Int)) := by
          show _ = _
          rw [hexI_some hxu, hexI_some hxv, hzn]
          simp only [IntKind.wrap, IntKind.bits, IntKind.signed, Bool.false_and, Bool.false_eq_true, if_false]
          omega
        have z6 : (0 : Int) ≤ hexI v := by rw [hexI_some hxv]; omega
        have z7 : hexI u < 16 := by rw [hexI_some hxu]; omega
        have z8 : hexI v < 16 := by rw [hexI_some hxv]; omega
        clear hxu hxv hz hpl hql hzn
        have hw2 : IntKind.i64.wrap ((j : Int) + 2) = (j : Int) + 2 := wrap64 (by omega) (by omega)
        have hw3 : IntKind.i64.wrap ((j : Int) + 3) = (j : Int) + 3 := wrap64 (by omega) (by omega)
        have hi2 : (0 : Int) ≤ (j : Int) + 2 := by omega
        have hi3 : (0 : Int) ≤ (j : Int) + 3 := by omega
        have hi4 : (j : Int) + 2 < (n : Int) := by omega
        have hi5 : ((j : Int) + 2).toNat = j + 2 := by omega
        have hi6 : ((j : Int) + 3).toNat = j + 3 := by omega
        have hw4 : IntKind.i64.wrap (16 * hexI u) = 16 * hexI u := wrap64 (by omega) (by omega)
        have hw5 : IntKind.i64.wrap (16 * hexI u + hexI v) = 16 * hexI u + hexI v := wrap64 (by omega) (by omega)
        have HI : Hid ((0 : Int) ≤ (j : Int) + 2) := hi2
        go_upto_region 13 with (go_at_call 88; refine (l5Hex_core _ _).mono ?_; rintro e w1 ⟨rfl, hw1⟩; rw [hw1]; clear hw1)
        have hS0 : (fun w' : World => w'.cell? ⟨b, off + (j + 2), none⟩ = some (.int .u8 (u.toNat : Int)) ∧ w'.cell? ⟨b, off + (j + 3), none⟩ = some (.int .u8 (v.toNat : Int))) wr.drew := ⟨cu, cw⟩
        refine wp_region_T 99 (fun w' : World => w'.cell? ⟨b, off + (j + 2), none⟩ = some (.int .u8 (u.toNat : Int)) ∧ w'.cell? ⟨b, off + (j + 3), none⟩ = some (.int .u8 (v.toNat : Int))) (by kernel_rfl) ?_
        refine anyT_takeN (i := 0) (v := ?vqh0) rfl (by kernel_rfl) (by kernel_rfl) (by kernel_rfl) (by rfl) (fun _ _ _ h => h) (Or.inl ⟨by rfl, ?yqh0⟩) hS0 ?_
        case yqh0 => (intro wz hSw; obtain ⟨hz0, hz1⟩ := hSw; go_simp; (try with_reducible rfl))
        try simp only [Act.put, List.getElem_toArray, List.getElem_cons_zero, List.getElem_cons_succ, List.setIfInBounds_toArray, List.set_cons_zero, List.set_cons_succ]
        refine anyT_takeN (i := 1) (v := ?vqh1) rfl (by kernel_rfl) (by kernel_rfl) (by kernel_rfl) (by rfl) (fun _ _ _ h => h) (Or.inl ⟨by rfl, ?yqh1⟩) hS0 ?_
        case yqh1 => (intro wz hSw; obtain ⟨hz0, hz1⟩ := hSw; go_simp; (try with_reducible rfl))
        try simp only [Act.put, List.getElem_toArray, List.getElem_cons_zero, List.getElem_cons_succ, List.setIfInBounds_toArray, List.set_cons_zero, List.set_cons_succ]
        refine anyT_takeN (i := 2) (v := ?vqh2) rfl (by kernel_rfl) (by kernel_rfl) (by kernel_rfl) (by rfl) (fun _ _ _ h => h) (Or.inl ⟨by rfl, ?yqh2⟩) hS0 ?_
        case yqh2 => (intro wz hSw; obtain ⟨hz0, hz1⟩ := hSw; go_simp; (try with_reducible rfl))
        try simp only [Act.put, List.getElem_toArray, List.getElem_cons_zero, List.getElem_cons_succ, List.setIfInBounds_toArray, List.set_cons_zero, List.set_cons_succ]
        refine anyT_takeN (i := 3) (v := .int .i64 ((j : Int) + 2)) rfl (by kernel_rfl) (by kernel_rfl) (by kernel_rfl) (by rfl) (fun _ _ _ h => h) (Or.inl ⟨by rfl, ?yqh3⟩) hS0 ?_
        case yqh3 => (intro wz hSw; obtain ⟨hz0, hz1⟩ := hSw; go_simp; (try with_reducible rfl); (try go_num))
        try simp only [Act.put, List.getElem_toArray, List.getElem_cons_zero, List.getElem_cons_succ, List.setIfInBounds_toArray, List.set_cons_zero, List.set_cons_succ]
        refine anyT_takeN (i := 8) (v := ?vqh8) rfl (by kernel_rfl) (by kernel_rfl) (by kernel_rfl) (by rfl) (fun _ _ _ h => h) (Or.inl ⟨by rfl, ?yqh8⟩) hS0 ?_
        case yqh8 => (intro wz hSw; obtain ⟨hz0, hz1⟩ := hSw; go_simp; (try with_reducible rfl))
        try simp only [Act.put, List.getElem_toArray, List.getElem_cons_zero, List.getElem_cons_succ, List.setIfInBounds_toArray, List.set_cons_zero, List.set_cons_succ]
        refine anyT_takeN (i := 9) (v := ?vqh9) rfl (by kernel_rfl) (by kernel_rfl) (by kernel_rfl) (by rfl) (fun _ _ _ h => h) (Or.inl ⟨by rfl, ?yqh9⟩) hS0 ?_
        case yqh9 => (intro wz hSw; obtain ⟨hz0, hz1⟩ := hSw; go_simp; (try with_reducible rfl))
        try simp only [Act.put, List.getElem_toArray, List.getElem_cons_zero, List.getElem_cons_succ, List.setIfInBounds_toArray, List.set_cons_zero, List.set_cons_succ]
        refine anyT_takeN (i := 10) (v := .int .i64 ((j : Int) + 3)) rfl (by kernel_rfl) (by kernel_rfl) (by kernel_rfl) (by rfl) (fun _ _ _ h => h) (Or.inl ⟨by rfl, ?yqh10⟩) hS0 ?_
        case yqh10 => (intro wz hSw; obtain ⟨hz0, hz1⟩ := hSw; go_simp; (try with_reducible rfl); (try go_num))
        try simp only [Act.put, List.getElem_toArray, List.getElem_cons_zero, List.getElem_cons_succ, List.setIfInBounds_toArray, List.set_cons_zero, List.set_cons_succ]
        refine anyT_takeN (i := 4) (v := ?vqh4) rfl (by kernel_rfl) (by kernel_rfl) (by kernel_rfl) (by rfl) (fun _ _ _ h => h) (Or.inl ⟨by rfl, ?yqh4⟩) hS0 ?_
        case yqh4 => (intro wz hSw; obtain ⟨hz0, hz1⟩ := hSw; go_simp; (try with_reducible rfl))
        try simp only [Act.put, List.getElem_toArray, List.getElem_cons_zero, List.getElem_cons_succ, List.setIfInBounds_toArray, List.set_cons_zero, List.set_cons_succ]
        refine anyT_takeN (i := 5) (v := ?vqh5) rfl (by kernel_rfl) (by kernel_rfl) (by kernel_rfl) (by rfl) (fun _ _ _ h => h) (Or.inl ⟨by rfl, ?yqh5⟩) hS0 ?_
        case yqh5 => (intro wz hSw; obtain ⟨hz0, hz1⟩ := hSw; go_simp; (try with_reducible rfl))
        try simp only [Act.put, List.getElem_toArray, List.getElem_cons_zero, List.getElem_cons_succ, List.setIfInBounds_toArray, List.set_cons_zero, List.set_cons_succ]
        refine anyT_takeN (i := 11) (v := ?vqh11) rfl (by kernel_rfl) (by kernel_rfl) (by kernel_rfl) (by rfl) (fun _ _ _ h => h) (Or.inl ⟨by rfl, ?yqh11⟩) hS0 ?_
        case yqh11 => (intro wz hSw; obtain ⟨hz0, hz1⟩ := hSw; go_simp; (try with_reducible rfl))
        try simp only [Act.put, List.getElem_toArray, List.getElem_cons_zero, List.getElem_cons_succ, List.setIfInBounds_toArray, List.set_cons_zero, List.set_cons_succ]
        refine anyT_takeN (i := 12) (v := ?vqh12) rfl (by kernel_rfl) (by kernel_rfl) (by kernel_rfl) (by rfl) (fun _ _ _ h => h) (Or.inl ⟨by rfl, ?yqh12⟩) hS0 ?_
        case yqh12 => (intro wz hSw; obtain ⟨hz0, hz1⟩ := hSw; go_simp; (try with_reducible rfl))
        try simp only [Act.put, List.getElem_toArray, List.getElem_cons_zero, List.getElem_cons_succ, List.setIfInBounds_toArray, List.set_cons_zero, List.set_cons_succ]
        refine anyT_one (i := 6) (by kernel_rfl) rfl (fun K hK => ?_)
        go_simp
        go_at_call 88
        refine (l5Hex_core _ _).mono ?_
        rintro e w1 ⟨rfl, hw1⟩
        rw [hw1]
        clear hw1
        refine hK.out _ _ (.inr hS0) ?_
        clear hK
        try simp only [Act.put, List.getElem_toArray, List.getElem_cons_zero, List.getElem_cons_succ, List.setIfInBounds_toArray, List.set_cons_zero, List.set_cons_succ]
        refine anyT_takeN (i := 7) (v := .int .i64 (16 * hexI u)) rfl (by kernel_rfl) (by kernel_rfl) (by kernel_rfl) (by rfl) (fun _ _ _ h => h) (Or.inl ⟨by rfl, ?yqh7⟩) hS0 ?_
        case yqh7 => (intro wz hSw; obtain ⟨hz0, hz1⟩ := hSw; go_simp; (try with_reducible rfl); (try go_num))
        try simp only [Act.put, List.getElem_toArray, List.getElem_cons_zero, List.getElem_cons_succ, List.setIfInBounds_toArray, List.set_cons_zero, List.set_cons_succ]
        refine anyT_one (i := 13) (by kernel_rfl) rfl (fun K hK => ?_)
        go_simp
        go_at_call 88
        refine (l5Hex_core _ _).mono ?_
        rintro e w1 ⟨rfl, hw1⟩
        rw [hw1]
        clear hw1
        refine hK.out _ _ (.inr hS0) ?_
        clear hK
        try simp only [Act.put, List.getElem_toArray, List.getElem_cons_zero, List.getElem_cons_succ, List.setIfInBounds_toArray, List.set_cons_zero, List.set_cons_succ]
        refine anyT_takeN (i := 14) (v := .int .i64 (16 * hexI u + hexI v)) rfl (by kernel_rfl) (by kernel_rfl) (by kernel_rfl) (by rfl) (fun _ _ _ h => h) (Or.inl ⟨by rfl, ?yqh14⟩) hS0 ?_
        case yqh14 => (intro wz hSw; obtain ⟨hz0, hz1⟩ := hSw; go_simp; (try with_reducible rfl); (try go_num))
        try simp only [Act.put, List.getElem_toArray, List.getElem_cons_zero, List.getElem_cons_succ, List.setIfInBounds_toArray, List.set_cons_zero, List.set_cons_succ]
        refine anyT_takeN (i := 15) (v := .int .u8 (z.toNat : Int)) rfl (by kernel_rfl) (by kernel_rfl) (by kernel_rfl) (by rfl) (fun _ _ _ h => h) (Or.inl ⟨by rfl, ?yqh15⟩) hS0 ?_
        case yqh15 => (intro wz hSw; obtain ⟨hz0, hz1⟩ := hSw; go_simp; (try simp only [HZ.out]); (try with_reducible rfl); (try omega))
        try simp only [Act.put, List.getElem_toArray, List.getElem_cons_zero, List.getElem_cons_succ, List.setIfInBounds_toArray, List.set_cons_zero, List.set_cons_succ]
        obtain ⟨W2, hW2⟩ : ∃ W2 : World, W2 = wr.drew.alloc (Obj.cells #[.int .u8 (z.toNat : Int)] 5) := ⟨_, rfl⟩
        have hbd : Below wr.heap.size wr wr.drew := (Below.refl _ _).drew
        have hb2 : Below wr.drew.heap.size wr.drew W2 := by rw [hW2]; exact (Below.refl _ _).alloc (Nat.le_refl _) _
        have HW2 : Hid (WrB W2 w.heap.size g cp X ∧ Below w.heap.size w W2 ∧ BysAt W2 wr.drew.heap.size 0 [z]) := by
          refine ⟨(HJ.out.2.2.1.below hbd).below hb2, (HJ.out.2.2.2.trans (hbd.mono sr)).trans (hb2.mono sr), ?_⟩
          rw [hW2]; exact bys_new wr.drew _ [z] rfl
        have hS2 : (fun w' : World => w'.cell? ⟨b, off + (j + 2), none⟩ = some (.int .u8 (u.toNat : Int)) ∧ w'.cell? ⟨b, off + (j + 3), none⟩ = some (.int .u8 (v.toNat : Int))) W2 := ⟨by rw [hb2.cell (p := ⟨b, off + (j + 2), none⟩) (by show b < wr.heap.size; omega)]; exact cu, by rw [hb2.cell (p := ⟨b, off + (j + 3), none⟩) (by show b < wr.heap.size; omega)]; exact cw⟩
        have s2 := hb2.size
        clear hbd hb2
        refine anyT_one (i := 16) (by kernel_rfl) rfl (fun K hK => ?_)
        go_simp
        rw [show (wr.alloc (Obj.cells #[.int .u8 (z.toNat : Int)] 5)).drew = W2 from by rw [hW2]; rfl]
        refine hK.out _ _ (.inr hS2) ?_
        clear hK
        try simp only [Act.put, List.getElem_toArray, List.getElem_cons_zero, List.getElem_cons_succ, List.setIfInBounds_toArray, List.set_cons_zero, List.set_cons_succ]
        refine anyT_one (i := 17) (by kernel_rfl) rfl (fun K hK => ?_)
        refine step_append_wr W2 rfl _ _ rfl w.heap.size g cp m wr.heap.size 0 1 1 X [z] rfl rfl HJ.out.1 rfl HW2.out.1 HW2.out.2.2 (by rw [← HJ.out.1]; show m + 1 ≤ _; omega) (by have : wr.drew.heap.size = wr.heap.size := rfl; omega) (fun g' cp' w' hW' hgr hat => ?_)
        have HR : Hid (WrB w' w.heap.size g' cp' (X ++ [z]) ∧ Below w.heap.size w w' ∧ m + 1 = (X ++ [z]).length) := ⟨hW', WrB.next HW2.out.2.1 (by have : wr.drew.heap.size = wr.heap.size := rfl; omega) hge hgr, by rw [List.length_append, ← HJ.out.1]; rfl⟩
        have hc3 : Chg (fun k => k = g) W2 w' := Chg.of_grown hgr (fun k hk => by cases hk; rfl)
        have hbW : b < W2.heap.size := by have : wr.drew.heap.size = wr.heap.size := rfl; omega
        have hS3 : (fun w' : World => w'.cell? ⟨b, off + (j + 2), none⟩ = some (.int .u8 (u.toNat : Int)) ∧ w'.cell? ⟨b, off + (j + 3), none⟩ = some (.int .u8 (v.toNat : Int))) w' := ⟨by rw [hc3.cell (p := ⟨b, off + (j + 2), none⟩) hbW (by show ¬ b = g; omega)]; exact hS2.1, by rw [hc3.cell (p := ⟨b, off + (j + 3), none⟩) hbW (by show ¬ b = g; omega)]; exact hS2.2⟩
        refine hK.out _ _ (.inr hS3) ?_
        clear hK hW' hgr hat hW2 hc3
        try simp only [Act.put, List.getElem_toArray, List.getElem_cons_zero, List.getElem_cons_succ, List.setIfInBounds_toArray, List.set_cons_zero, List.set_cons_succ]
        refine anyT_takeN (i := 18) (v := ?vqh18) rfl (by kernel_rfl) (by kernel_rfl) (by kernel_rfl) (by rfl) (fun _ _ _ h => h) (Or.inl ⟨by rfl, ?yqh18⟩) hS3 ?_
        case yqh18 => (intro wz hSw; obtain ⟨hz0, hz1⟩ := hSw; go_simp; (try with_reducible rfl))
        try simp only [Act.put, List.getElem_toArray, List.getElem_cons_zero, List.getElem_cons_succ, List.setIfInBounds_toArray, List.set_cons_zero, List.set_cons_succ]
        refine anyT_done (by kernel_rfl) ?_
        go_wp2_with fail
        go_roundw
        case rel => exact ⟨j + 4, m + 1, g', cp', X ++ [z], by go_num, by omega, by omega, rfl, HR.out.2.2, HQ.out, HR.out.1, HR.out.2.1⟩
        case measure => simp [intOf]; omega
end Go.Proofs.YtgnpcenpcmdlfaaGreatDoor

/-
  A token read at a place of a text, without memory.
-/
namespace Go.Proofs.YtgnpcenpcmdlfaaGreatDoor
open Go.ChangeShapes Go.WideShapes Go.ChangeAt Go.RowKit Go.Deep
set_option linter.unusedVariables false
set_option linter.unusedSimpArgs false

theorem tw_eq (p : UInt8 → Bool) : ∀ (l : List UInt8) (k : Nat), k ≤ l.length → (∀ j x, j < k → l[j]? = some x → p x = true) → (∀ x, l[k]? = some x → p x = false) → l.takeWhile p = l.take k
  | l, 0, _, _, h => by
    cases l with
    | nil => rfl
    | cons x l => rw [List.takeWhile_cons, if_neg (by rw [h x rfl]; simp)]; rfl
  | [], k + 1, hk, _, _ => by simp at hk
  | x :: l, k + 1, hk, ha, hz => by
    rw [List.takeWhile_cons, if_pos (ha 0 x (by omega) rfl), List.take_succ_cons, tw_eq p l k (by simpa using hk) (fun j y hj hy => ha (j + 1) y (by omega) (by simpa using hy)) (fun y hy => hz y (by simpa using hy))]
/-- The bytes from i up to j are such bytes, and no more. -/
theorem tw_at {t : List UInt8} {p : UInt8 → Bool} {i j : Nat} (hij : i ≤ j) (hj : j ≤ t.length) (ha : ∀ k x, i ≤ k → k < j → t[k]? = some x → p x = true) (hz : ∀ x, t[j]? = some x → p x = false) : (t.drop i).takeWhile p = (t.drop i).take (j - i) :=
  tw_eq p _ _ (by rw [List.length_drop]; omega) (fun k x hk hx => ha (i + k) x (by omega) (by omega) (by rw [List.getElem?_drop] at hx; exact hx)) (fun x hx => hz x (by rw [List.getElem?_drop, Nat.add_sub_cancel' hij] at hx; exact hx))
theorem isLet_iff (b : UInt8) : isLet b = true ↔ 97 ≤ b.toNat ∧ b.toNat ≤ 122 := by unfold isLet; simp
theorem isDig_iff (b : UInt8) : isDig b = true ↔ 48 ≤ b.toNat ∧ b.toNat ≤ 57 := by unfold isDig; simp
theorem tok_let {t : List UInt8} {i : Nat} {x : UInt8} (hx : t[i]? = some x) (h : isLet x = true) : tokF (t.drop i) = (kwF ((t.drop i).takeWhile isLet)).map (fun k => (.word k, ((t.drop i).takeWhile isLet).length)) := by
  rw [dropT_cons hx]; conv => lhs; unfold tokF
  dsimp only
  rw [if_pos h]
theorem tok_dig {t : List UInt8} {i : Nat} {x : UInt8} (hx : t[i]? = some x) (h0 : ¬ isLet x = true) (h : isDig x = true) : tokF (t.drop i) = (numM ((t.drop i).takeWhile isDig)).map (fun (n : Nat) => (TkK.num (n : Int), ((t.drop i).takeWhile isDig).length)) := by
  rw [dropT_cons hx]; conv => lhs; unfold tokF
  dsimp only
  rw [if_neg h0, if_pos h]
  cases numM ((x :: t.drop (i + 1)).takeWhile isDig) <;> rfl
theorem tok_str {t : List UInt8} {i : Nat} (hx : t[i]? = some 34) : tokF (t.drop i) = (quF (t.drop (i + 1))).map (fun z => (.str (strL z.1), z.2 + 1)) := by
  rw [dropT_cons hx]; conv => lhs; unfold tokF
  dsimp only
  rw [if_neg (by decide), if_neg (by decide), if_pos rfl]
  unfold quF
  cases strM (t.drop (i + 1)) with
  | none => rfl
  | some z =>
    obtain ⟨c, n⟩ := z
    dsimp only
    split <;> rfl
theorem tok_rest {t : List UInt8} {i : Nat} {x : UInt8} (hx : t[i]? = some x) (h0 : ¬ isLet x = true) (h1 : ¬ isDig x = true) (h2 : ¬ x = 34) : tokF (t.drop i) = if x = 46 ∧ t[i + 1]? = some 46 then some (.sign 46, 2) else if x = 40 ∨ x = 41 ∨ x = 44 ∨ x = 62 ∨ x = 124 then some (.sign x, 1) else none := by
  rw [dropT_cons hx]; conv => lhs; unfold tokF
  dsimp only
  rw [if_neg h0, if_neg h1, if_neg h2]
  have : (t.drop (i + 1)).head? = t[i + 1]? := by rw [List.head?_drop]
  rw [this]
theorem wordT_of {l : List UInt8} {k : Int} (h : kwF l = some k) : wordT k = strL l := by
  rcases kwF_some h with ⟨h1, h2, rfl⟩ | ⟨rfl, rfl⟩
  · unfold wordT; rw [if_neg (by omega)]
  · rfl
end Go.Proofs.YtgnpcenpcmdlfaaGreatDoor

