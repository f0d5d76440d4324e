import Derived.Deep.CutBlock
import Derived.BigQuiet
import Derived.Test.YtgnpcenpcmdlfaaGreatDoorZkAN
import Derived.Test.YtgnpcenpcmdlfaaGreatDoorZkAB
import Derived.Test.YtgnpcenpcmdlfaaGreatDoorZkAC
import Derived.Test.YtgnpcenpcmdlfaaGreatDoorRPul
/-
  (*impl.filterScanner): demand, run; isLetter, isDigit.
-/
namespace Go.Proofs.YtgnpcenpcmdlfaaGreatDoor
open Go.ChangeShapes Go.WideShapes Go.ChangeAt Go.RowKit Go.Deep
set_option linter.unusedVariables false
set_option linter.unusedSimpArgs false
set_option maxRecDepth 100000

/-- The parser in memory, its scanner at byte i of the text. -/
abbrev FsAt (w : World) (base g b off n cap i : Nat) (vs : List Value) : Prop := BoxAt w base 54 10 g (.slice (some ⟨b, off, none⟩) n cap :: .int .i64 (i : Int) :: vs)
theorem FsAt.move {w : World} {base g b off n cap i : Nat} {vs : List Value} (h : FsAt w base g b off n cap i vs) (j : Nat) (u : Value) (hu : u = .int .i64 (j : Int)) : FsAt (w.setCell ⟨g, 1, none⟩ u) base g b off n cap j vs := by
  subst hu
  exact BoxAt.set h 1 (.int .i64 (j : Int))
set_option maxHeartbeats 1000000 in
theorem sdem_yes (v : Value) (w : World) : Calls Tryz.prog 62 #[v, .bool true] w fun e w' => e = .returned (.tuple #[]) ∧ w' = w := by
  go_enter Tryz.func62, Tryz.ntmps62
  go_wp2_with fail
  go_end0
  exact ⟨rfl, rfl⟩
set_option maxHeartbeats 1000000 in
theorem sdem_no {base g b off n cap i : Nat} {vs : List Value} {w : World} (h : FsAt w base g b off n cap i vs) : Calls Tryz.prog 62 #[.pointer (some ⟨g, 0, none⟩), .bool false] w fun e w' => e = Pf 2 i ∧ w' = w := by
  have c1 := h.cell (j := 1) rfl
  clear h
  go_enter Tryz.func62, Tryz.ntmps62
  go_wp2_with fail
  exact ⟨rfl, rfl, rfl⟩
theorem sdem_core (c : Bool) {base g b off n cap i : Nat} {vs : List Value} {w : World} (h : FsAt w base g b off n cap i vs) : Calls Tryz.prog 62 #[.pointer (some ⟨g, 0, none⟩), .bool c] w fun e w' => w' = w ∧ ((c = true ∧ e = .returned (.tuple #[])) ∨ (c = false ∧ e = Pf 2 i)) := by
  cases c with
  | true => exact (sdem_yes _ w).mono fun e w' ⟨he, hw⟩ => ⟨hw, .inl ⟨rfl, he⟩⟩
  | false => exact (sdem_no h).mono fun e w' ⟨he, hw⟩ => ⟨hw, .inr ⟨rfl, he⟩⟩
set_option maxHeartbeats 1000000 in
theorem isLetter_core (x : UInt8) (w : World) : Calls Tryz.prog 55 #[.int .u8 (x.toNat : Int)] w fun e w' => e = .returned (.bool (isLet x)) ∧ w' = w := by
  have hx : x.toNat < 256 := x.toNat_lt
  obtain ⟨n, hn⟩ : ∃ n, n = x.toNat := ⟨_, rfl⟩
  have HP : Hid (isLet x = decide (97 ≤ n ∧ n ≤ 122)) := by show _ = _; rw [hn]; rfl
  rw [← hn] at hx ⊢
  clear hn
  by_cases h1 : 97 ≤ n
  · have z1 : (97 : Int) ≤ (n : Int) := by omega
    by_cases h2 : n ≤ 122
    · have z2 : (n : Int) ≤ 122 := by omega
      go_enter Tryz.func55, Tryz.ntmps55
      go_wp2_with fail
      go_ret
      exact ⟨by rw [HP.out, decide_eq_true (⟨h1, h2⟩ : 97 ≤ n ∧ n ≤ 122)]; rfl, rfl⟩
    · have z2 : ¬ (n : Int) ≤ 122 := by omega
      go_enter Tryz.func55, Tryz.ntmps55
      go_wp2_with fail
      go_ret
      exact ⟨by rw [HP.out, decide_eq_false (fun q : 97 ≤ n ∧ n ≤ 122 => h2 q.2)]; rfl, rfl⟩
  · have z1 : ¬ (97 : Int) ≤ (n : Int) := by omega
    go_enter Tryz.func55, Tryz.ntmps55
    go_wp2_with fail
    go_ret
    exact ⟨by rw [HP.out, decide_eq_false (fun q : 97 ≤ n ∧ n ≤ 122 => h1 q.1)]; rfl, rfl⟩
set_option maxHeartbeats 1000000 in
theorem isDigit_core (x : UInt8) (w : World) : Calls Tryz.prog 57 #[.int .u8 (x.toNat : Int)] w fun e w' => e = .returned (.bool (isDig x)) ∧ w' = w := by
  have hx : x.toNat < 256 := x.toNat_lt
  obtain ⟨n, hn⟩ : ∃ n, n = x.toNat := ⟨_, rfl⟩
  have HP : Hid (isDig x = decide (48 ≤ n ∧ n ≤ 57)) := by show _ = _; rw [hn]; rfl
  rw [← hn] at hx ⊢
  clear hn
  by_cases h1 : 48 ≤ n
  · have z1 : (48 : Int) ≤ (n : Int) := by omega
    by_cases h2 : n ≤ 57
    · have z2 : (n : Int) ≤ 57 := by omega
      go_enter Tryz.func57, Tryz.ntmps57
      go_wp2_with fail
      go_ret
      exact ⟨by rw [HP.out, decide_eq_true (⟨h1, h2⟩ : 48 ≤ n ∧ n ≤ 57)]; rfl, rfl⟩
    · have z2 : ¬ (n : Int) ≤ 57 := by omega
      go_enter Tryz.func57, Tryz.ntmps57
      go_wp2_with fail
      go_ret
      exact ⟨by rw [HP.out, decide_eq_false (fun q : 48 ≤ n ∧ n ≤ 57 => h2 q.2)]; rfl, rfl⟩
  · have z1 : ¬ (48 : Int) ≤ (n : Int) := by omega
    go_enter Tryz.func57, Tryz.ntmps57
    go_wp2_with fail
    go_ret
    exact ⟨by rw [HP.out, decide_eq_false (fun q : 48 ≤ n ∧ n ≤ 57 => h1 q.1)]; rfl, rfl⟩
set_option maxHeartbeats 1000000 in
theorem isPlainB_core (x : UInt8) (w : World) : Calls Tryz.prog 92 #[.int .u8 (x.toNat : Int)] w fun e w' => e = .returned (.bool (isPla x)) ∧ w' = w := by
  have hx : x.toNat < 256 := x.toNat_lt
  obtain ⟨n, hn⟩ : ∃ n, n = x.toNat := ⟨_, rfl⟩
  have HP : Hid (isPla x = decide (32 ≤ n ∧ n ≤ 126)) := by show _ = _; rw [hn]; rfl
  rw [← hn] at hx ⊢
  clear hn
  by_cases h1 : 32 ≤ n
  · have z1 : (32 : Int) ≤ (n : Int) := by omega
    by_cases h2 : n ≤ 126
    · have z2 : (n : Int) ≤ 126 := by omega
      go_enter Tryz.func92, Tryz.ntmps92
      go_wp2_with fail
      go_ret
      exact ⟨by rw [HP.out, decide_eq_true (⟨h1, h2⟩ : 32 ≤ n ∧ n ≤ 126)]; rfl, rfl⟩
    · have z2 : ¬ (n : Int) ≤ 126 := by omega
      go_enter Tryz.func92, Tryz.ntmps92
      go_wp2_with fail
      go_ret
      exact ⟨by rw [HP.out, decide_eq_false (fun q : 32 ≤ n ∧ n ≤ 126 => h2 q.2)]; rfl, rfl⟩
  · have z1 : ¬ (32 : Int) ≤ (n : Int) := by omega
    go_enter Tryz.func92, Tryz.ntmps92
    go_wp2_with fail
    go_ret
    exact ⟨by rw [HP.out, decide_eq_false (fun q : 32 ≤ n ∧ n ≤ 126 => h1 q.1)]; rfl, rfl⟩
set_option maxHeartbeats 8000000 in
theorem run_let {base g b off n cap i : Nat} {vs : List Value} {w : World} {t : List UInt8} (h : FsAt w base g b off n cap i vs) (hT : BysAt w b off t) (hn : n = t.length) (hl : n ≤ 100000) (hc : n ≤ cap) (hcm : cap ≤ maxLen) (hi : i < n) :
    Calls Tryz.prog 89 #[.pointer (some ⟨g, 0, none⟩), .func (Fn.func 55) #[] #[]] w fun e w' => e = .returned (.string (strL ((t.drop i).takeWhile isLet))) ∧ Below w.heap.size w w' := by
  have HT : Hid (FsAt w base g b off n cap i vs ∧ BysAt w b off t) := ⟨h, hT⟩
  have HN : Hid (n = t.length) := hn
  have hgl := h.lt.2
  have c0 := h.cell (j := 0) rfl
  have c1 := h.cell (j := 1) rfl
  unfold maxLen at hcm
  clear h hT hn
  go_enter Tryz.func89, Tryz.ntmps89
  go_wp2_with fail
  go_loopw [5] (fun jv wr => ∃ (j : Nat), jv = .int .i64 (j : Int) ∧ i ≤ j ∧ j ≤ n ∧ (∀ k y, i ≤ k → k < j → t[k]? = some y → isLet y = true) ∧ wr = w) (fun jv _ => n - (intOf jv).toNat)
  case atStart => exact ⟨i, rfl, Nat.le_refl _, by omega, fun k y h1 h2 => by omega, rfl⟩
  case round =>
    obtain ⟨j, rfl, hij, hjn, hA0, hwx⟩ := hrel
    rw [hwx]
    clear hwx
    have HA0 : Hid (∀ k y, i ≤ k → k < j → t[k]? = some y → isLet y = true) := hA0
    clear hA0
    have fin : (∀ z, t[j]? = some z → isLet z = false) → Hid ((t.drop i).takeWhile isLet = (t.drop i).take (j - i)) := fun hz => tw_at hij (by have := HN.out; omega) HA0.out hz
    by_cases hj : j < n
    · have zj : (j : Int) < (n : Int) := by omega
      obtain ⟨y, hy⟩ : ∃ y, t[j]? = some y := ⟨_, List.getElem?_eq_getElem (by have := HN.out; omega)⟩
      have cy : w.cell? ⟨b, off + j, none⟩ = some (.int .u8 (y.toNat : Int)) := HT.out.2 j y hy
      cases hp : isLet y
      case true =>
        have HY : Hid (∀ k z, i ≤ k → k < j + 1 → t[k]? = some z → isLet z = true) := fun k z h1 h2 h3 => by
          by_cases q : k < j
          · exact HA0.out k z h1 q h3
          · obtain rfl : k = j := by omega
            rw [hy] at h3
            cases h3
            exact hp
        have HC : Hid (Calls Tryz.prog 55 #[.int .u8 (y.toNat : Int)] w fun e w' => e = .returned (.bool true) ∧ w' = w) := by rw [← hp]; exact isLetter_core y w
        clear hy hp fin
        go_wp2_with fail
        refine HC.out.mono ?_
        rintro e w1 ⟨rfl, hw1⟩
        rw [hw1]
        clear hw1
        go_wp2_with fail
        go_roundw
        case rel => exact ⟨j + 1, by go_num, by omega, by omega, HY.out, by first | rfl | trivial⟩
        case measure => simp [intOf]; omega
      case false =>
        have HW0 := fin (fun z hz => by rw [hy] at hz; cases hz; exact hp)
        have HC : Hid (Calls Tryz.prog 55 #[.int .u8 (y.toNat : Int)] w fun e w' => e = .returned (.bool false) ∧ w' = w) := by rw [← hp]; exact isLetter_core y w
        clear hy hp fin
        obtain ⟨wd, hwd⟩ : ∃ wd, wd = (t.drop i).take (j - i) := ⟨_, rfl⟩
        have HW : Hid ((t.drop i).take (j - i) = wd) := hwd.symm
        have HWF : Hid ((t.drop i).takeWhile isLet = wd) := HW0.out.trans hwd.symm
        clear hwd HW0
        go_wp2_with fail
        refine HC.out.mono ?_
        rintro e w1 ⟨rfl, hw1⟩
        rw [hw1]
        clear hw1
        go_upto_region 4 with fail
        have hci : ¬ cap = i := by omega
        have zij : (i : Int) ≤ (j : Int) := by omega
        have zjc : (j : Int) ≤ (cap : Int) := by omega
        have hS0 : (fun w' : World => w'.cell? ⟨g, 0, none⟩ = some (.slice (some ⟨b, off, none⟩) n cap) ∧ w'.cell? ⟨g, 1, none⟩ = some (.int .i64 (i : Int)) ∧ BysAt w' b off t) w.drew := ⟨c0, c1, HT.out.2⟩
        refine wp_region_T 99 (fun w' : World => w'.cell? ⟨g, 0, none⟩ = some (.slice (some ⟨b, off, none⟩) n cap) ∧ w'.cell? ⟨g, 1, none⟩ = some (.int .i64 (i : Int)) ∧ BysAt w' b off t) (by kernel_rfl) ?_
        refine anyT_takeN (i := 0) (v := ?vrletx0) rfl (by kernel_rfl) (by kernel_rfl) (by kernel_rfl) (by rfl) (fun _ _ _ h => h) (Or.inl ⟨by rfl, ?yrletx0⟩) hS0 ?_
        case yrletx0 => (intro wz hSw; obtain ⟨hz0, hz1, hz2⟩ := hSw; go_simp; (try with_reducible rfl))
        try simp only [Act.put, List.getElem_toArray, List.getElem_cons_zero, List.getElem_cons_succ, List.setIfInBounds_toArray, List.set_cons_zero, List.set_cons_succ]
        refine anyT_takeN (i := 1) (v := ?vrletx1) rfl (by kernel_rfl) (by kernel_rfl) (by kernel_rfl) (by rfl) (fun _ _ _ h => h) (Or.inl ⟨by rfl, ?yrletx1⟩) hS0 ?_
        case yrletx1 => (intro wz hSw; obtain ⟨hz0, hz1, hz2⟩ := hSw; go_simp; (try with_reducible rfl))
        try simp only [Act.put, List.getElem_toArray, List.getElem_cons_zero, List.getElem_cons_succ, List.setIfInBounds_toArray, List.set_cons_zero, List.set_cons_succ]
        refine anyT_takeN (i := 2) (v := ?vrletx2) rfl (by kernel_rfl) (by kernel_rfl) (by kernel_rfl) (by rfl) (fun _ _ _ h => h) (Or.inl ⟨by rfl, ?yrletx2⟩) hS0 ?_
        case yrletx2 => (intro wz hSw; obtain ⟨hz0, hz1, hz2⟩ := hSw; go_simp; (try with_reducible rfl))
        try simp only [Act.put, List.getElem_toArray, List.getElem_cons_zero, List.getElem_cons_succ, List.setIfInBounds_toArray, List.set_cons_zero, List.set_cons_succ]
        refine anyT_takeN (i := 3) (v := ?vrletx3) rfl (by kernel_rfl) (by kernel_rfl) (by kernel_rfl) (by rfl) (fun _ _ _ h => h) (Or.inl ⟨by rfl, ?yrletx3⟩) hS0 ?_
        case yrletx3 => (intro wz hSw; obtain ⟨hz0, hz1, hz2⟩ := hSw; go_simp; (try with_reducible rfl))
        try simp only [Act.put, List.getElem_toArray, List.getElem_cons_zero, List.getElem_cons_succ, List.setIfInBounds_toArray, List.set_cons_zero, List.set_cons_succ]
        refine anyT_takeN (i := 4) (v := ?vrletx4) rfl (by kernel_rfl) (by kernel_rfl) (by kernel_rfl) (by rfl) (fun _ _ _ h => h) (Or.inl ⟨by rfl, ?yrletx4⟩) hS0 ?_
        case yrletx4 => (intro wz hSw; obtain ⟨hz0, hz1, hz2⟩ := hSw; go_simp; (try with_reducible rfl))
        try simp only [Act.put, List.getElem_toArray, List.getElem_cons_zero, List.getElem_cons_succ, List.setIfInBounds_toArray, List.set_cons_zero, List.set_cons_succ]
        refine anyT_takeN (i := 5) (v := ?vrletx5) rfl (by kernel_rfl) (by kernel_rfl) (by kernel_rfl) (by rfl) (fun _ _ _ h => h) (Or.inl ⟨by rfl, ?yrletx5⟩) hS0 ?_
        case yrletx5 => (intro wz hSw; obtain ⟨hz0, hz1, hz2⟩ := hSw; go_simp; (try with_reducible rfl))
        try simp only [Act.put, List.getElem_toArray, List.getElem_cons_zero, List.getElem_cons_succ, List.setIfInBounds_toArray, List.set_cons_zero, List.set_cons_succ]
        refine anyT_takeN (i := 6) (v := ?vrletx6) rfl (by kernel_rfl) (by kernel_rfl) (by kernel_rfl) (by rfl) (fun _ _ _ h => h) (Or.inl ⟨by rfl, ?yrletx6⟩) hS0 ?_
        case yrletx6 => (intro wz hSw; obtain ⟨hz0, hz1, hz2⟩ := hSw; go_simp; (try with_reducible rfl))
        try simp only [Act.put, List.getElem_toArray, List.getElem_cons_zero, List.getElem_cons_succ, List.setIfInBounds_toArray, List.set_cons_zero, List.set_cons_succ]
        refine anyT_takeN (i := 7) (v := ?vrletx7) rfl (by kernel_rfl) (by kernel_rfl) (by kernel_rfl) (by rfl) (fun _ _ _ h => h) (Or.inl ⟨by rfl, ?yrletx7⟩) hS0 ?_
        case yrletx7 => (intro wz hSw; obtain ⟨hz0, hz1, hz2⟩ := hSw; go_simp; (try with_reducible rfl))
        try simp only [Act.put, List.getElem_toArray, List.getElem_cons_zero, List.getElem_cons_succ, List.setIfInBounds_toArray, List.set_cons_zero, List.set_cons_succ]
        refine anyT_takeN (i := 8) (v := ?vrletx8) rfl (by kernel_rfl) (by kernel_rfl) (by kernel_rfl) (by rfl) (fun _ _ _ h => h) (Or.inl ⟨by rfl, ?yrletx8⟩) hS0 ?_
        case yrletx8 => (intro wz hSw; obtain ⟨hz0, hz1, hz2⟩ := hSw; go_simp; (try with_reducible rfl))
        try simp only [Act.put, List.getElem_toArray, List.getElem_cons_zero, List.getElem_cons_succ, List.setIfInBounds_toArray, List.set_cons_zero, List.set_cons_succ]
        refine anyT_takeN (i := 9) (v := .slice (some ⟨b, off + i, none⟩) (j - i) (cap - i)) rfl (by kernel_rfl) (by kernel_rfl) (by kernel_rfl) (by rfl) (fun _ _ _ h => h) (Or.inl ⟨by rfl, ?yrletx9⟩) hS0 ?_
        case yrletx9 => (intro wz hSw; obtain ⟨hz0, hz1, hz2⟩ := hSw; go_simp; (try with_reducible rfl))
        try simp only [Act.put, List.getElem_toArray, List.getElem_cons_zero, List.getElem_cons_succ, List.setIfInBounds_toArray, List.set_cons_zero, List.set_cons_succ]
        refine anyT_takeN (i := 10) (v := .string (strL wd)) rfl (by kernel_rfl) (by kernel_rfl) (by kernel_rfl) (by rfl) (fun _ _ _ h => h) (Or.inl ⟨by rfl, ?yrletx10⟩) hS0 ?_
        case yrletx10 => (intro wz hSw; obtain ⟨hz0, hz1, hz2⟩ := hSw; have hcv := conv_win hz2 i (j - i) (cap - i) (by have := HN.out; omega); rw [HW.out] at hcv; go_simp; (try with_reducible rfl))
        try simp only [Act.put, List.getElem_toArray, List.getElem_cons_zero, List.getElem_cons_succ, List.setIfInBounds_toArray, List.set_cons_zero, List.set_cons_succ]
        refine anyT_takeN (i := 11) (v := ?vrletx11) rfl (by kernel_rfl) (by kernel_rfl) (by kernel_rfl) (by rfl) (fun _ _ _ h => h) (Or.inl ⟨by rfl, ?yrletx11⟩) hS0 ?_
        case yrletx11 => (intro wz hSw; obtain ⟨hz0, hz1, hz2⟩ := hSw; go_simp; (try with_reducible rfl))
        try simp only [Act.put, List.getElem_toArray, List.getElem_cons_zero, List.getElem_cons_succ, List.setIfInBounds_toArray, List.set_cons_zero, List.set_cons_succ]
        refine anyT_done (by kernel_rfl) ?_
        go_wp2_with fail
        go_ret
        exact ⟨by rw [HWF.out]; rfl, (Below.refl _ _).drew⟩
    · have zj : ¬ (j : Int) < (n : Int) := by omega
      have HW0 := fin (fun z hz => by rw [List.getElem?_eq_none (by have := HN.out; omega)] at hz; cases hz)
      clear fin
      obtain ⟨wd, hwd⟩ : ∃ wd, wd = (t.drop i).take (j - i) := ⟨_, rfl⟩
      have HW : Hid ((t.drop i).take (j - i) = wd) := hwd.symm
      have HWF : Hid ((t.drop i).takeWhile isLet = wd) := HW0.out.trans hwd.symm
      clear hwd HW0
      go_upto_region 4 with fail
      have hci : ¬ cap = i := by omega
      have zij : (i : Int) ≤ (j : Int) := by omega
      have zjc : (j : Int) ≤ (cap : Int) := by omega
      have hS0 : (fun w' : World => w'.cell? ⟨g, 0, none⟩ = some (.slice (some ⟨b, off, none⟩) n cap) ∧ w'.cell? ⟨g, 1, none⟩ = some (.int .i64 (i : Int)) ∧ BysAt w' b off t) w.drew := ⟨c0, c1, HT.out.2⟩
      refine wp_region_T 99 (fun w' : World => w'.cell? ⟨g, 0, none⟩ = some (.slice (some ⟨b, off, none⟩) n cap) ∧ w'.cell? ⟨g, 1, none⟩ = some (.int .i64 (i : Int)) ∧ BysAt w' b off t) (by kernel_rfl) ?_
      refine anyT_takeN (i := 0) (v := ?vzletx0) rfl (by kernel_rfl) (by kernel_rfl) (by kernel_rfl) (by rfl) (fun _ _ _ h => h) (Or.inl ⟨by rfl, ?yzletx0⟩) hS0 ?_
      case yzletx0 => (intro wz hSw; obtain ⟨hz0, hz1, hz2⟩ := hSw; go_simp; (try with_reducible rfl))
      try simp only [Act.put, List.getElem_toArray, List.getElem_cons_zero, List.getElem_cons_succ, List.setIfInBounds_toArray, List.set_cons_zero, List.set_cons_succ]
      refine anyT_takeN (i := 1) (v := ?vzletx1) rfl (by kernel_rfl) (by kernel_rfl) (by kernel_rfl) (by rfl) (fun _ _ _ h => h) (Or.inl ⟨by rfl, ?yzletx1⟩) hS0 ?_
      case yzletx1 => (intro wz hSw; obtain ⟨hz0, hz1, hz2⟩ := hSw; go_simp; (try with_reducible rfl))
      try simp only [Act.put, List.getElem_toArray, List.getElem_cons_zero, List.getElem_cons_succ, List.setIfInBounds_toArray, List.set_cons_zero, List.set_cons_succ]
      refine anyT_takeN (i := 2) (v := ?vzletx2) rfl (by kernel_rfl) (by kernel_rfl) (by kernel_rfl) (by rfl) (fun _ _ _ h => h) (Or.inl ⟨by rfl, ?yzletx2⟩) hS0 ?_
      case yzletx2 => (intro wz hSw; obtain ⟨hz0, hz1, hz2⟩ := hSw; go_simp; (try with_reducible rfl))
      try simp only [Act.put, List.getElem_toArray, List.getElem_cons_zero, List.getElem_cons_succ, List.setIfInBounds_toArray, List.set_cons_zero, List.set_cons_succ]
      refine anyT_takeN (i := 3) (v := ?vzletx3) rfl (by kernel_rfl) (by kernel_rfl) (by kernel_rfl) (by rfl) (fun _ _ _ h => h) (Or.inl ⟨by rfl, ?yzletx3⟩) hS0 ?_
      case yzletx3 => (intro wz hSw; obtain ⟨hz0, hz1, hz2⟩ := hSw; go_simp; (try with_reducible rfl))
      try simp only [Act.put, List.getElem_toArray, List.getElem_cons_zero, List.getElem_cons_succ, List.setIfInBounds_toArray, List.set_cons_zero, List.set_cons_succ]
      refine anyT_takeN (i := 4) (v := ?vzletx4) rfl (by kernel_rfl) (by kernel_rfl) (by kernel_rfl) (by rfl) (fun _ _ _ h => h) (Or.inl ⟨by rfl, ?yzletx4⟩) hS0 ?_
      case yzletx4 => (intro wz hSw; obtain ⟨hz0, hz1, hz2⟩ := hSw; go_simp; (try with_reducible rfl))
      try simp only [Act.put, List.getElem_toArray, List.getElem_cons_zero, List.getElem_cons_succ, List.setIfInBounds_toArray, List.set_cons_zero, List.set_cons_succ]
      refine anyT_takeN (i := 5) (v := ?vzletx5) rfl (by kernel_rfl) (by kernel_rfl) (by kernel_rfl) (by rfl) (fun _ _ _ h => h) (Or.inl ⟨by rfl, ?yzletx5⟩) hS0 ?_
      case yzletx5 => (intro wz hSw; obtain ⟨hz0, hz1, hz2⟩ := hSw; go_simp; (try with_reducible rfl))
      try simp only [Act.put, List.getElem_toArray, List.getElem_cons_zero, List.getElem_cons_succ, List.setIfInBounds_toArray, List.set_cons_zero, List.set_cons_succ]
      refine anyT_takeN (i := 6) (v := ?vzletx6) rfl (by kernel_rfl) (by kernel_rfl) (by kernel_rfl) (by rfl) (fun _ _ _ h => h) (Or.inl ⟨by rfl, ?yzletx6⟩) hS0 ?_
      case yzletx6 => (intro wz hSw; obtain ⟨hz0, hz1, hz2⟩ := hSw; go_simp; (try with_reducible rfl))
      try simp only [Act.put, List.getElem_toArray, List.getElem_cons_zero, List.getElem_cons_succ, List.setIfInBounds_toArray, List.set_cons_zero, List.set_cons_succ]
      refine anyT_takeN (i := 7) (v := ?vzletx7) rfl (by kernel_rfl) (by kernel_rfl) (by kernel_rfl) (by rfl) (fun _ _ _ h => h) (Or.inl ⟨by rfl, ?yzletx7⟩) hS0 ?_
      case yzletx7 => (intro wz hSw; obtain ⟨hz0, hz1, hz2⟩ := hSw; go_simp; (try with_reducible rfl))
      try simp only [Act.put, List.getElem_toArray, List.getElem_cons_zero, List.getElem_cons_succ, List.setIfInBounds_toArray, List.set_cons_zero, List.set_cons_succ]
      refine anyT_takeN (i := 8) (v := ?vzletx8) rfl (by kernel_rfl) (by kernel_rfl) (by kernel_rfl) (by rfl) (fun _ _ _ h => h) (Or.inl ⟨by rfl, ?yzletx8⟩) hS0 ?_
      case yzletx8 => (intro wz hSw; obtain ⟨hz0, hz1, hz2⟩ := hSw; go_simp; (try with_reducible rfl))
      try simp only [Act.put, List.getElem_toArray, List.getElem_cons_zero, List.getElem_cons_succ, List.setIfInBounds_toArray, List.set_cons_zero, List.set_cons_succ]
      refine anyT_takeN (i := 9) (v := .slice (some ⟨b, off + i, none⟩) (j - i) (cap - i)) rfl (by kernel_rfl) (by kernel_rfl) (by kernel_rfl) (by rfl) (fun _ _ _ h => h) (Or.inl ⟨by rfl, ?yzletx9⟩) hS0 ?_
      case yzletx9 => (intro wz hSw; obtain ⟨hz0, hz1, hz2⟩ := hSw; go_simp; (try with_reducible rfl))
      try simp only [Act.put, List.getElem_toArray, List.getElem_cons_zero, List.getElem_cons_succ, List.setIfInBounds_toArray, List.set_cons_zero, List.set_cons_succ]
      refine anyT_takeN (i := 10) (v := .string (strL wd)) rfl (by kernel_rfl) (by kernel_rfl) (by kernel_rfl) (by rfl) (fun _ _ _ h => h) (Or.inl ⟨by rfl, ?yzletx10⟩) hS0 ?_
      case yzletx10 => (intro wz hSw; obtain ⟨hz0, hz1, hz2⟩ := hSw; have hcv := conv_win hz2 i (j - i) (cap - i) (by have := HN.out; omega); rw [HW.out] at hcv; go_simp; (try with_reducible rfl))
      try simp only [Act.put, List.getElem_toArray, List.getElem_cons_zero, List.getElem_cons_succ, List.setIfInBounds_toArray, List.set_cons_zero, List.set_cons_succ]
      refine anyT_takeN (i := 11) (v := ?vzletx11) rfl (by kernel_rfl) (by kernel_rfl) (by kernel_rfl) (by rfl) (fun _ _ _ h => h) (Or.inl ⟨by rfl, ?yzletx11⟩) hS0 ?_
      case yzletx11 => (intro wz hSw; obtain ⟨hz0, hz1, hz2⟩ := hSw; go_simp; (try with_reducible rfl))
      try simp only [Act.put, List.getElem_toArray, List.getElem_cons_zero, List.getElem_cons_succ, List.setIfInBounds_toArray, List.set_cons_zero, List.set_cons_succ]
      refine anyT_done (by kernel_rfl) ?_
      go_wp2_with fail
      go_ret
      exact ⟨by rw [HWF.out]; rfl, (Below.refl _ _).drew⟩
set_option maxHeartbeats 8000000 in
theorem run_dig {base g b off n cap i : Nat} {vs : List Value} {w : World} {t : List UInt8} (h : FsAt w base g b off n cap i vs) (hT : BysAt w b off t) (hn : n = t.length) (hl : n ≤ 100000) (hc : n ≤ cap) (hcm : cap ≤ maxLen) (hi : i < n) :
    Calls Tryz.prog 89 #[.pointer (some ⟨g, 0, none⟩), .func (Fn.func 57) #[] #[]] w fun e w' => e = .returned (.string (strL ((t.drop i).takeWhile isDig))) ∧ Below w.heap.size w w' := by
  have HT : Hid (FsAt w base g b off n cap i vs ∧ BysAt w b off t) := ⟨h, hT⟩
  have HN : Hid (n = t.length) := hn
  have hgl := h.lt.2
  have c0 := h.cell (j := 0) rfl
  have c1 := h.cell (j := 1) rfl
  unfold maxLen at hcm
  clear h hT hn
  go_enter Tryz.func89, Tryz.ntmps89
  go_wp2_with fail
  go_loopw [5] (fun jv wr => ∃ (j : Nat), jv = .int .i64 (j : Int) ∧ i ≤ j ∧ j ≤ n ∧ (∀ k y, i ≤ k → k < j → t[k]? = some y → isDig y = true) ∧ wr = w) (fun jv _ => n - (intOf jv).toNat)
  case atStart => exact ⟨i, rfl, Nat.le_refl _, by omega, fun k y h1 h2 => by omega, rfl⟩
  case round =>
    obtain ⟨j, rfl, hij, hjn, hA0, hwx⟩ := hrel
    rw [hwx]
    clear hwx
    have HA0 : Hid (∀ k y, i ≤ k → k < j → t[k]? = some y → isDig y = true) := hA0
    clear hA0
    have fin : (∀ z, t[j]? = some z → isDig z = false) → Hid ((t.drop i).takeWhile isDig = (t.drop i).take (j - i)) := fun hz => tw_at hij (by have := HN.out; omega) HA0.out hz
    by_cases hj : j < n
    · have zj : (j : Int) < (n : Int) := by omega
      obtain ⟨y, hy⟩ : ∃ y, t[j]? = some y := ⟨_, List.getElem?_eq_getElem (by have := HN.out; omega)⟩
      have cy : w.cell? ⟨b, off + j, none⟩ = some (.int .u8 (y.toNat : Int)) := HT.out.2 j y hy
      cases hp : isDig y
      case true =>
        have HY : Hid (∀ k z, i ≤ k → k < j + 1 → t[k]? = some z → isDig z = true) := fun k z h1 h2 h3 => by
          by_cases q : k < j
          · exact HA0.out k z h1 q h3
          · obtain rfl : k = j := by omega
            rw [hy] at h3
            cases h3
            exact hp
        have HC : Hid (Calls Tryz.prog 57 #[.int .u8 (y.toNat : Int)] w fun e w' => e = .returned (.bool true) ∧ w' = w) := by rw [← hp]; exact isDigit_core y w
        clear hy hp fin
        go_wp2_with fail
        refine HC.out.mono ?_
        rintro e w1 ⟨rfl, hw1⟩
        rw [hw1]
        clear hw1
        go_wp2_with fail
        go_roundw
        case rel => exact ⟨j + 1, by go_num, by omega, by omega, HY.out, by first | rfl | trivial⟩
        case measure => simp [intOf]; omega
      case false =>
        have HW0 := fin (fun z hz => by rw [hy] at hz; cases hz; exact hp)
        have HC : Hid (Calls Tryz.prog 57 #[.int .u8 (y.toNat : Int)] w fun e w' => e = .returned (.bool false) ∧ w' = w) := by rw [← hp]; exact isDigit_core y w
        clear hy hp fin
        obtain ⟨wd, hwd⟩ : ∃ wd, wd = (t.drop i).take (j - i) := ⟨_, rfl⟩
        have HW : Hid ((t.drop i).take (j - i) = wd) := hwd.symm
        have HWF : Hid ((t.drop i).takeWhile isDig = wd) := HW0.out.trans hwd.symm
        clear hwd HW0
        go_wp2_with fail
        refine HC.out.mono ?_
        rintro e w1 ⟨rfl, hw1⟩
        rw [hw1]
        clear hw1
        go_upto_region 4 with fail
        have hci : ¬ cap = i := by omega
        have zij : (i : Int) ≤ (j : Int) := by omega
        have zjc : (j : Int) ≤ (cap : Int) := by omega
        have hS0 : (fun w' : World => w'.cell? ⟨g, 0, none⟩ = some (.slice (some ⟨b, off, none⟩) n cap) ∧ w'.cell? ⟨g, 1, none⟩ = some (.int .i64 (i : Int)) ∧ BysAt w' b off t) w.drew := ⟨c0, c1, HT.out.2⟩
        refine wp_region_T 99 (fun w' : World => w'.cell? ⟨g, 0, none⟩ = some (.slice (some ⟨b, off, none⟩) n cap) ∧ w'.cell? ⟨g, 1, none⟩ = some (.int .i64 (i : Int)) ∧ BysAt w' b off t) (by kernel_rfl) ?_
        refine anyT_takeN (i := 0) (v := ?vrdigx0) rfl (by kernel_rfl) (by kernel_rfl) (by kernel_rfl) (by rfl) (fun _ _ _ h => h) (Or.inl ⟨by rfl, ?yrdigx0⟩) hS0 ?_
        case yrdigx0 => (intro wz hSw; obtain ⟨hz0, hz1, hz2⟩ := hSw; go_simp; (try with_reducible rfl))
        try simp only [Act.put, List.getElem_toArray, List.getElem_cons_zero, List.getElem_cons_succ, List.setIfInBounds_toArray, List.set_cons_zero, List.set_cons_succ]
        refine anyT_takeN (i := 1) (v := ?vrdigx1) rfl (by kernel_rfl) (by kernel_rfl) (by kernel_rfl) (by rfl) (fun _ _ _ h => h) (Or.inl ⟨by rfl, ?yrdigx1⟩) hS0 ?_
        case yrdigx1 => (intro wz hSw; obtain ⟨hz0, hz1, hz2⟩ := hSw; go_simp; (try with_reducible rfl))
        try simp only [Act.put, List.getElem_toArray, List.getElem_cons_zero, List.getElem_cons_succ, List.setIfInBounds_toArray, List.set_cons_zero, List.set_cons_succ]
        refine anyT_takeN (i := 2) (v := ?vrdigx2) rfl (by kernel_rfl) (by kernel_rfl) (by kernel_rfl) (by rfl) (fun _ _ _ h => h) (Or.inl ⟨by rfl, ?yrdigx2⟩) hS0 ?_
        case yrdigx2 => (intro wz hSw; obtain ⟨hz0, hz1, hz2⟩ := hSw; go_simp; (try with_reducible rfl))
        try simp only [Act.put, List.getElem_toArray, List.getElem_cons_zero, List.getElem_cons_succ, List.setIfInBounds_toArray, List.set_cons_zero, List.set_cons_succ]
        refine anyT_takeN (i := 3) (v := ?vrdigx3) rfl (by kernel_rfl) (by kernel_rfl) (by kernel_rfl) (by rfl) (fun _ _ _ h => h) (Or.inl ⟨by rfl, ?yrdigx3⟩) hS0 ?_
        case yrdigx3 => (intro wz hSw; obtain ⟨hz0, hz1, hz2⟩ := hSw; go_simp; (try with_reducible rfl))
        try simp only [Act.put, List.getElem_toArray, List.getElem_cons_zero, List.getElem_cons_succ, List.setIfInBounds_toArray, List.set_cons_zero, List.set_cons_succ]
        refine anyT_takeN (i := 4) (v := ?vrdigx4) rfl (by kernel_rfl) (by kernel_rfl) (by kernel_rfl) (by rfl) (fun _ _ _ h => h) (Or.inl ⟨by rfl, ?yrdigx4⟩) hS0 ?_
        case yrdigx4 => (intro wz hSw; obtain ⟨hz0, hz1, hz2⟩ := hSw; go_simp; (try with_reducible rfl))
        try simp only [Act.put, List.getElem_toArray, List.getElem_cons_zero, List.getElem_cons_succ, List.setIfInBounds_toArray, List.set_cons_zero, List.set_cons_succ]
        refine anyT_takeN (i := 5) (v := ?vrdigx5) rfl (by kernel_rfl) (by kernel_rfl) (by kernel_rfl) (by rfl) (fun _ _ _ h => h) (Or.inl ⟨by rfl, ?yrdigx5⟩) hS0 ?_
        case yrdigx5 => (intro wz hSw; obtain ⟨hz0, hz1, hz2⟩ := hSw; go_simp; (try with_reducible rfl))
        try simp only [Act.put, List.getElem_toArray, List.getElem_cons_zero, List.getElem_cons_succ, List.setIfInBounds_toArray, List.set_cons_zero, List.set_cons_succ]
        refine anyT_takeN (i := 6) (v := ?vrdigx6) rfl (by kernel_rfl) (by kernel_rfl) (by kernel_rfl) (by rfl) (fun _ _ _ h => h) (Or.inl ⟨by rfl, ?yrdigx6⟩) hS0 ?_
        case yrdigx6 => (intro wz hSw; obtain ⟨hz0, hz1, hz2⟩ := hSw; go_simp; (try with_reducible rfl))
        try simp only [Act.put, List.getElem_toArray, List.getElem_cons_zero, List.getElem_cons_succ, List.setIfInBounds_toArray, List.set_cons_zero, List.set_cons_succ]
        refine anyT_takeN (i := 7) (v := ?vrdigx7) rfl (by kernel_rfl) (by kernel_rfl) (by kernel_rfl) (by rfl) (fun _ _ _ h => h) (Or.inl ⟨by rfl, ?yrdigx7⟩) hS0 ?_
        case yrdigx7 => (intro wz hSw; obtain ⟨hz0, hz1, hz2⟩ := hSw; go_simp; (try with_reducible rfl))
        try simp only [Act.put, List.getElem_toArray, List.getElem_cons_zero, List.getElem_cons_succ, List.setIfInBounds_toArray, List.set_cons_zero, List.set_cons_succ]
        refine anyT_takeN (i := 8) (v := ?vrdigx8) rfl (by kernel_rfl) (by kernel_rfl) (by kernel_rfl) (by rfl) (fun _ _ _ h => h) (Or.inl ⟨by rfl, ?yrdigx8⟩) hS0 ?_
        case yrdigx8 => (intro wz hSw; obtain ⟨hz0, hz1, hz2⟩ := hSw; go_simp; (try with_reducible rfl))
        try simp only [Act.put, List.getElem_toArray, List.getElem_cons_zero, List.getElem_cons_succ, List.setIfInBounds_toArray, List.set_cons_zero, List.set_cons_succ]
        refine anyT_takeN (i := 9) (v := .slice (some ⟨b, off + i, none⟩) (j - i) (cap - i)) rfl (by kernel_rfl) (by kernel_rfl) (by kernel_rfl) (by rfl) (fun _ _ _ h => h) (Or.inl ⟨by rfl, ?yrdigx9⟩) hS0 ?_
        case yrdigx9 => (intro wz hSw; obtain ⟨hz0, hz1, hz2⟩ := hSw; go_simp; (try with_reducible rfl))
        try simp only [Act.put, List.getElem_toArray, List.getElem_cons_zero, List.getElem_cons_succ, List.setIfInBounds_toArray, List.set_cons_zero, List.set_cons_succ]
        refine anyT_takeN (i := 10) (v := .string (strL wd)) rfl (by kernel_rfl) (by kernel_rfl) (by kernel_rfl) (by rfl) (fun _ _ _ h => h) (Or.inl ⟨by rfl, ?yrdigx10⟩) hS0 ?_
        case yrdigx10 => (intro wz hSw; obtain ⟨hz0, hz1, hz2⟩ := hSw; have hcv := conv_win hz2 i (j - i) (cap - i) (by have := HN.out; omega); rw [HW.out] at hcv; go_simp; (try with_reducible rfl))
        try simp only [Act.put, List.getElem_toArray, List.getElem_cons_zero, List.getElem_cons_succ, List.setIfInBounds_toArray, List.set_cons_zero, List.set_cons_succ]
        refine anyT_takeN (i := 11) (v := ?vrdigx11) rfl (by kernel_rfl) (by kernel_rfl) (by kernel_rfl) (by rfl) (fun _ _ _ h => h) (Or.inl ⟨by rfl, ?yrdigx11⟩) hS0 ?_
        case yrdigx11 => (intro wz hSw; obtain ⟨hz0, hz1, hz2⟩ := hSw; go_simp; (try with_reducible rfl))
        try simp only [Act.put, List.getElem_toArray, List.getElem_cons_zero, List.getElem_cons_succ, List.setIfInBounds_toArray, List.set_cons_zero, List.set_cons_succ]
        refine anyT_done (by kernel_rfl) ?_
        go_wp2_with fail
        go_ret
        exact ⟨by rw [HWF.out]; rfl, (Below.refl _ _).drew⟩
    · have zj : ¬ (j : Int) < (n : Int) := by omega
      have HW0 := fin (fun z hz => by rw [List.getElem?_eq_none (by have := HN.out; omega)] at hz; cases hz)
      clear fin
      obtain ⟨wd, hwd⟩ : ∃ wd, wd = (t.drop i).take (j - i) := ⟨_, rfl⟩
      have HW : Hid ((t.drop i).take (j - i) = wd) := hwd.symm
      have HWF : Hid ((t.drop i).takeWhile isDig = wd) := HW0.out.trans hwd.symm
      clear hwd HW0
      go_upto_region 4 with fail
      have hci : ¬ cap = i := by omega
      have zij : (i : Int) ≤ (j : Int) := by omega
      have zjc : (j : Int) ≤ (cap : Int) := by omega
      have hS0 : (fun w' : World => w'.cell? ⟨g, 0, none⟩ = some (.slice (some ⟨b, off, none⟩) n cap) ∧ w'.cell? ⟨g, 1, none⟩ = some (.int .i64 (i : Int)) ∧ BysAt w' b off t) w.drew := ⟨c0, c1, HT.out.2⟩
      refine wp_region_T 99 (fun w' : World => w'.cell? ⟨g, 0, none⟩ = some (.slice (some ⟨b, off, none⟩) n cap) ∧ w'.cell? ⟨g, 1, none⟩ = some (.int .i64 (i : Int)) ∧ BysAt w' b off t) (by kernel_rfl) ?_
      refine anyT_takeN (i := 0) (v := ?vzdigx0) rfl (by kernel_rfl) (by kernel_rfl) (by kernel_rfl) (by rfl) (fun _ _ _ h => h) (Or.inl ⟨by rfl, ?yzdigx0⟩) hS0 ?_
      case yzdigx0 => (intro wz hSw; obtain ⟨hz0, hz1, hz2⟩ := hSw; go_simp; (try with_reducible rfl))
      try simp only [Act.put, List.getElem_toArray, List.getElem_cons_zero, List.getElem_cons_succ, List.setIfInBounds_toArray, List.set_cons_zero, List.set_cons_succ]
      refine anyT_takeN (i := 1) (v := ?vzdigx1) rfl (by kernel_rfl) (by kernel_rfl) (by kernel_rfl) (by rfl) (fun _ _ _ h => h) (Or.inl ⟨by rfl, ?yzdigx1⟩) hS0 ?_
      case yzdigx1 => (intro wz hSw; obtain ⟨hz0, hz1, hz2⟩ := hSw; go_simp; (try with_reducible rfl))
      try simp only [Act.put, List.getElem_toArray, List.getElem_cons_zero, List.getElem_cons_succ, List.setIfInBounds_toArray, List.set_cons_zero, List.set_cons_succ]
      refine anyT_takeN (i := 2) (v := ?vzdigx2) rfl (by kernel_rfl) (by kernel_rfl) (by kernel_rfl) (by rfl) (fun _ _ _ h => h) (Or.inl ⟨by rfl, ?yzdigx2⟩) hS0 ?_
      case yzdigx2 => (intro wz hSw; obtain ⟨hz0, hz1, hz2⟩ := hSw; go_simp; (try with_reducible rfl))
      try simp only [Act.put, List.getElem_toArray, List.getElem_cons_zero, List.getElem_cons_succ, List.setIfInBounds_toArray, List.set_cons_zero, List.set_cons_succ]
      refine anyT_takeN (i := 3) (v := ?vzdigx3) rfl (by kernel_rfl) (by kernel_rfl) (by kernel_rfl) (by rfl) (fun _ _ _ h => h) (Or.inl ⟨by rfl, ?yzdigx3⟩) hS0 ?_
      case yzdigx3 => (intro wz hSw; obtain ⟨hz0, hz1, hz2⟩ := hSw; go_simp; (try with_reducible rfl))
      try simp only [Act.put, List.getElem_toArray, List.getElem_cons_zero, List.getElem_cons_succ, List.setIfInBounds_toArray, List.set_cons_zero, List.set_cons_succ]
      refine anyT_takeN (i := 4) (v := ?vzdigx4) rfl (by kernel_rfl) (by kernel_rfl) (by kernel_rfl) (by rfl) (fun _ _ _ h => h) (Or.inl ⟨by rfl, ?yzdigx4⟩) hS0 ?_
      case yzdigx4 => (intro wz hSw; obtain ⟨hz0, hz1, hz2⟩ := hSw; go_simp; (try with_reducible rfl))
      try simp only [Act.put, List.getElem_toArray, List.getElem_cons_zero, List.getElem_cons_succ, List.setIfInBounds_toArray, List.set_cons_zero, List.set_cons_succ]
      refine anyT_takeN (i := 5) (v := ?vzdigx5) rfl (by kernel_rfl) (by kernel_rfl) (by kernel_rfl) (by rfl) (fun _ _ _ h => h) (Or.inl ⟨by rfl, ?yzdigx5⟩) hS0 ?_
      case yzdigx5 => (intro wz hSw; obtain ⟨hz0, hz1, hz2⟩ := hSw; go_simp; (try with_reducible rfl))
      try simp only [Act.put, List.getElem_toArray, List.getElem_cons_zero, List.getElem_cons_succ, List.setIfInBounds_toArray, List.set_cons_zero, List.set_cons_succ]
      refine anyT_takeN (i := 6) (v := ?vzdigx6) rfl (by kernel_rfl) (by kernel_rfl) (by kernel_rfl) (by rfl) (fun _ _ _ h => h) (Or.inl ⟨by rfl, ?yzdigx6⟩) hS0 ?_
      case yzdigx6 => (intro wz hSw; obtain ⟨hz0, hz1, hz2⟩ := hSw; go_simp; (try with_reducible rfl))
      try simp only [Act.put, List.getElem_toArray, List.getElem_cons_zero, List.getElem_cons_succ, List.setIfInBounds_toArray, List.set_cons_zero, List.set_cons_succ]
      refine anyT_takeN (i := 7) (v := ?vzdigx7) rfl (by kernel_rfl) (by kernel_rfl) (by kernel_rfl) (by rfl) (fun _ _ _ h => h) (Or.inl ⟨by rfl, ?yzdigx7⟩) hS0 ?_
      case yzdigx7 => (intro wz hSw; obtain ⟨hz0, hz1, hz2⟩ := hSw; go_simp; (try with_reducible rfl))
      try simp only [Act.put, List.getElem_toArray, List.getElem_cons_zero, List.getElem_cons_succ, List.setIfInBounds_toArray, List.set_cons_zero, List.set_cons_succ]
      refine anyT_takeN (i := 8) (v := ?vzdigx8) rfl (by kernel_rfl) (by kernel_rfl) (by kernel_rfl) (by rfl) (fun _ _ _ h => h) (Or.inl ⟨by rfl, ?yzdigx8⟩) hS0 ?_
      case yzdigx8 => (intro wz hSw; obtain ⟨hz0, hz1, hz2⟩ := hSw; go_simp; (try with_reducible rfl))
      try simp only [Act.put, List.getElem_toArray, List.getElem_cons_zero, List.getElem_cons_succ, List.setIfInBounds_toArray, List.set_cons_zero, List.set_cons_succ]
      refine anyT_takeN (i := 9) (v := .slice (some ⟨b, off + i, none⟩) (j - i) (cap - i)) rfl (by kernel_rfl) (by kernel_rfl) (by kernel_rfl) (by rfl) (fun _ _ _ h => h) (Or.inl ⟨by rfl, ?yzdigx9⟩) hS0 ?_
      case yzdigx9 => (intro wz hSw; obtain ⟨hz0, hz1, hz2⟩ := hSw; go_simp; (try with_reducible rfl))
      try simp only [Act.put, List.getElem_toArray, List.getElem_cons_zero, List.getElem_cons_succ, List.setIfInBounds_toArray, List.set_cons_zero, List.set_cons_succ]
      refine anyT_takeN (i := 10) (v := .string (strL wd)) rfl (by kernel_rfl) (by kernel_rfl) (by kernel_rfl) (by rfl) (fun _ _ _ h => h) (Or.inl ⟨by rfl, ?yzdigx10⟩) hS0 ?_
      case yzdigx10 => (intro wz hSw; obtain ⟨hz0, hz1, hz2⟩ := hSw; have hcv := conv_win hz2 i (j - i) (cap - i) (by have := HN.out; omega); rw [HW.out] at hcv; go_simp; (try with_reducible rfl))
      try simp only [Act.put, List.getElem_toArray, List.getElem_cons_zero, List.getElem_cons_succ, List.setIfInBounds_toArray, List.set_cons_zero, List.set_cons_succ]
      refine anyT_takeN (i := 11) (v := ?vzdigx11) rfl (by kernel_rfl) (by kernel_rfl) (by kernel_rfl) (by rfl) (fun _ _ _ h => h) (Or.inl ⟨by rfl, ?yzdigx11⟩) hS0 ?_
      case yzdigx11 => (intro wz hSw; obtain ⟨hz0, hz1, hz2⟩ := hSw; go_simp; (try with_reducible rfl))
      try simp only [Act.put, List.getElem_toArray, List.getElem_cons_zero, List.getElem_cons_succ, List.setIfInBounds_toArray, List.set_cons_zero, List.set_cons_succ]
      refine anyT_done (by kernel_rfl) ?_
      go_wp2_with fail
      go_ret
      exact ⟨by rw [HWF.out]; rfl, (Below.refl _ _).drew⟩
end Go.Proofs.YtgnpcenpcmdlfaaGreatDoor

/-
  (*impl.filterScanner).word.
-/
namespace Go.Proofs.YtgnpcenpcmdlfaaGreatDoor
open Go.ChangeShapes Go.WideShapes Go.ChangeAt Go.RowKit Go.Deep
set_option linter.unusedVariables false
set_option linter.unusedSimpArgs false
set_option maxRecDepth 100000

/-- The words by kind, as the program has them. -/
def nodeW (k : Nat) : ByteArray := if k = 14 then ⟨#[62]⟩ else if k = 15 then ⟨#[124]⟩ else if k = 16 then ⟨#[105, 102]⟩ else wordA k
def WdsAt (w : World) : Prop := ∀ k : Nat, k ≤ 16 → w.cell? ⟨0, k, none⟩ = some (.string (nodeW k))
theorem WdsAt.chg {S : Nat → Prop} {w w' : World} (h : WdsAt w) (hc : Chg S w w') (hn : ¬ S 0) : WdsAt w' := fun k hk => by
  have h1 := h k hk
  have hlt : 0 < w.heap.size := by
    unfold World.cell? at h1
    by_cases q : 0 < w.heap.size
    · exact q
    · rw [Array.getElem?_eq_none (by show w.heap.size ≤ 0; omega)] at h1; simp at h1
  rw [hc.cell (p := ⟨0, k, none⟩) hlt hn]
  exact h1
def nodeA : Array Value := #[.string ⟨#[]⟩, .string ⟨#[112, 97, 115, 115]⟩, .string ⟨#[98, 108, 111, 99, 107]⟩, .string ⟨#[115, 116, 114, 105, 112]⟩, .string ⟨#[114, 111, 119]⟩, .string ⟨#[102, 97, 109]⟩, .string ⟨#[113, 117, 97, 108]⟩, .string ⟨#[118, 97, 108]⟩, .string ⟨#[114, 111, 119, 115]⟩, .string ⟨#[113, 117, 97, 108, 115]⟩, .string ⟨#[116, 115]⟩, .string ⟨#[118, 101, 114, 115, 105, 111, 110, 115]⟩, .string ⟨#[99, 101, 108, 108, 115]⟩, .string ⟨#[115, 107, 105, 112]⟩, .string ⟨#[62]⟩, .string ⟨#[124]⟩, .string ⟨#[105, 102]⟩]
theorem nodeA_get : ∀ k : Nat, k < 17 → nodeA[k]? = some (.string (nodeW k)) := by
  intro k hk
  have : k = 0 ∨ k = 1 ∨ k = 2 ∨ k = 3 ∨ k = 4 ∨ k = 5 ∨ k = 6 ∨ k = 7 ∨ k = 8 ∨ k = 9 ∨ k = 10 ∨ k = 11 ∨ k = 12 ∨ k = 13 ∨ k = 14 ∨ k = 15 ∨ k = 16 := by omega
  rcases this with rfl | rfl | rfl | rfl | rfl | rfl | rfl | rfl | rfl | rfl | rfl | rfl | rfl | rfl | rfl | rfl | rfl <;> rfl
theorem nodeA_run (w : World) : ∀ k : Nat, k < 17 → (Instr.index 119 (.agg nodeA) (.int .i64 (k : Int))).run Tryz.prog w = .ok (.string (nodeW k)) w := by
  intro k hk
  have : k = 0 ∨ k = 1 ∨ k = 2 ∨ k = 3 ∨ k = 4 ∨ k = 5 ∨ k = 6 ∨ k = 7 ∨ k = 8 ∨ k = 9 ∨ k = 10 ∨ k = 11 ∨ k = 12 ∨ k = 13 ∨ k = 14 ∨ k = 15 ∨ k = 16 := by omega
  rcases this with rfl | rfl | rfl | rfl | rfl | rfl | rfl | rfl | rfl | rfl | rfl | rfl | rfl | rfl | rfl | rfl | rfl <;> rfl
/-- Letters are no sign and not nothing: the word's kind. -/
theorem nodeW_kw {l : List UInt8} (hne : l ≠ []) (hl : ∀ x ∈ l, isLet x = true) {k : Nat} (hk : k ≤ 16) (h : bl (nodeW k) = l) : kwF l = some (k : Int) := by
  refine kwF_word ?_
  by_cases h0 : k = 0
  · subst h0; exact absurd h.symm hne
  by_cases h14 : k = 14
  · subst h14
    rw [← h] at hl
    have := hl 62 (by decide)
    exact absurd this (by decide)
  by_cases h15 : k = 15
  · subst h15
    rw [← h] at hl
    have := hl 124 (by decide)
    exact absurd this (by decide)
  by_cases h16 : k = 16
  · subst h16
    exact .inr ⟨rfl, h.symm⟩
  refine .inl ⟨by omega, by omega, ?_⟩
  unfold nodeW at h
  rw [if_neg h14, if_neg h15, if_neg h16] at h
  exact h
theorem nodeW_none {l : List UInt8} (h : ∀ k : Nat, k ≤ 16 → ¬ bl (nodeW k) = l) : kwF l = none := by
  cases hq : kwF l with
  | none => rfl
  | some k =>
    exfalso
    rcases kwF_some hq with ⟨h1, h2, h3⟩ | ⟨rfl, rfl⟩
    · refine h k.toNat (by omega) ?_
      unfold nodeW
      rw [if_neg (by omega), if_neg (by omega), if_neg (by omega), show ((k.toNat : Nat) : Int) = k by omega]
      exact h3
    · exact h 16 (by omega) rfl
def WrdP (base g b off n cap i : Nat) (vs : List Value) (wd : List UInt8) (w : World) (e : Ending) (w' : World) : Prop := Hid (Chg (fun k => k = g) w w') ∧ ((∃ k : Int, kwF wd = some k ∧ e = .returned (.int .i64 k) ∧ FsAt w' base g b off n cap (i + wd.length) vs) ∨ (kwF wd = none ∧ e = Pf 2 i))
set_option maxHeartbeats 8000000 in
theorem word_core {base g b off n cap i : Nat} {vs : List Value} {w : World} {t : List UInt8} (h : FsAt w base g b off n cap i vs) (hT : BysAt w b off t) (hn : n = t.length) (hl : n ≤ 100000) (hc : n ≤ cap) (hcm : cap ≤ maxLen) (hi : i < n) (hx : ∀ x, t[i]? = some x → isLet x = true) (hW : WdsAt w) :
    Calls Tryz.prog 56 #[.pointer (some ⟨g, 0, none⟩)] w (WrdP base g b off n cap i vs ((t.drop i).takeWhile isLet) w) := by
  obtain ⟨wd, hwd⟩ : ∃ wd, wd = (t.drop i).takeWhile isLet := ⟨_, rfl⟩
  have hne : wd ≠ [] := by
    obtain ⟨x, hxx⟩ : ∃ x, t[i]? = some x := ⟨_, List.getElem?_eq_getElem (by omega)⟩
    rw [hwd, dropT_cons hxx, List.takeWhile_cons, if_pos (hx x hxx)]; simp
  have hlt : ∀ x ∈ wd, isLet x = true := fun x hm => by
    rw [hwd] at hm
    exact List.all_eq_true.1 (List.all_takeWhile (p := isLet) (l := t.drop i)) x hm
  have hwl : wd.length ≤ n := by
    rw [hwd, hn]
    exact Nat.le_trans (takeWhile_len _ _) (by rw [List.length_drop]; omega)
  have HR : Hid (Calls Tryz.prog 89 #[.pointer (some ⟨g, 0, none⟩), .func (Fn.func 55) #[] #[]] w fun e w' => e = .returned (.string (strL wd)) ∧ Below w.heap.size w w') := by
    rw [hwd]; exact run_let h hT hn hl hc hcm hi
  rw [← hwd]
  have H0 : Hid (FsAt w base g b off n cap i vs ∧ WdsAt w ∧ wd ≠ [] ∧ (∀ x ∈ wd, isLet x = true)) := ⟨h, hW, hne, hlt⟩
  obtain ⟨sw, hsw⟩ : ∃ sw, sw = strL wd := ⟨_, rfl⟩
  have HSW : Hid (bl sw = wd ∧ sw.size = wd.length) := ⟨by rw [hsw], by rw [hsw]; show wd.toArray.size = _; simp⟩
  rw [← hsw] at HR
  have hsl : sw.size ≤ n := by rw [HSW.out.2]; exact hwl
  clear hsw hwl
  clear h hT hn hx hW hne hlt hwd hc hcm
  go_enter Tryz.func56, Tryz.ntmps56
  go_wp2_with fail
  refine HR.out.mono ?_
  rintro e w1 ⟨rfl, hb1⟩
  have H1 : Hid (FsAt w1 base g b off n cap i vs ∧ Chg (fun k => k = g) w w1) := ⟨BoxAt.below H0.out.1 hb1, Chg.of_below hb1⟩
  have hW1 : WdsAt w1 := H0.out.2.1.chg (S := fun _ => False) (Chg.of_below hb1) (fun q => q)
  have d0 : w1.cell? ⟨0, 0, none⟩ = some (.string ⟨#[]⟩) := hW1 0 (by omega)
  have d1 : w1.cell? ⟨0, 1, none⟩ = some (.string ⟨#[112, 97, 115, 115]⟩) := hW1 1 (by omega)
  have d2 : w1.cell? ⟨0, 2, none⟩ = some (.string ⟨#[98, 108, 111, 99, 107]⟩) := hW1 2 (by omega)
  have d3 : w1.cell? ⟨0, 3, none⟩ = some (.string ⟨#[115, 116, 114, 105, 112]⟩) := hW1 3 (by omega)
  have d4 : w1.cell? ⟨0, 4, none⟩ = some (.string ⟨#[114, 111, 119]⟩) := hW1 4 (by omega)
  have d5 : w1.cell? ⟨0, 5, none⟩ = some (.string ⟨#[102, 97, 109]⟩) := hW1 5 (by omega)
  have d6 : w1.cell? ⟨0, 6, none⟩ = some (.string ⟨#[113, 117, 97, 108]⟩) := hW1 6 (by omega)
  have d7 : w1.cell? ⟨0, 7, none⟩ = some (.string ⟨#[118, 97, 108]⟩) := hW1 7 (by omega)
  have d8 : w1.cell? ⟨0, 8, none⟩ = some (.string ⟨#[114, 111, 119, 115]⟩) := hW1 8 (by omega)
  have d9 : w1.cell? ⟨0, 9, none⟩ = some (.string ⟨#[113, 117, 97, 108, 115]⟩) := hW1 9 (by omega)
  have d10 : w1.cell? ⟨0, 10, none⟩ = some (.string ⟨#[116, 115]⟩) := hW1 10 (by omega)
  have d11 : w1.cell? ⟨0, 11, none⟩ = some (.string ⟨#[118, 101, 114, 115, 105, 111, 110, 115]⟩) := hW1 11 (by omega)
  have d12 : w1.cell? ⟨0, 12, none⟩ = some (.string ⟨#[99, 101, 108, 108, 115]⟩) := hW1 12 (by omega)
  have d13 : w1.cell? ⟨0, 13, none⟩ = some (.string ⟨#[115, 107, 105, 112]⟩) := hW1 13 (by omega)
  have d14 : w1.cell? ⟨0, 14, none⟩ = some (.string ⟨#[62]⟩) := hW1 14 (by omega)
  have d15 : w1.cell? ⟨0, 15, none⟩ = some (.string ⟨#[124]⟩) := hW1 15 (by omega)
  have d16 : w1.cell? ⟨0, 16, none⟩ = some (.string ⟨#[105, 102]⟩) := hW1 16 (by omega)
  have c1 := H1.out.1.cell (j := 1) rfl
  have f1 := H1.out.1.frozen 1
  clear hb1 hW1 HR
  go_upto_block 0 with fail
  have harr : Value.agg #[.string ⟨#[]⟩, .string ⟨#[112, 97, 115, 115]⟩, .string ⟨#[98, 108, 111, 99, 107]⟩, .string ⟨#[115, 116, 114, 105, 112]⟩, .string ⟨#[114, 111, 119]⟩, .string ⟨#[102, 97, 109]⟩, .string ⟨#[113, 117, 97, 108]⟩, .string ⟨#[118, 97, 108]⟩, .string ⟨#[114, 111, 119, 115]⟩, .string ⟨#[113, 117, 97, 108, 115]⟩, .string ⟨#[116, 115]⟩, .string ⟨#[118, 101, 114, 115, 105, 111, 110, 115]⟩, .string ⟨#[99, 101, 108, 108, 115]⟩, .string ⟨#[115, 107, 105, 112]⟩, .string ⟨#[62]⟩, .string ⟨#[124]⟩, .string ⟨#[105, 102]⟩] = .agg nodeA := rfl
  rw [harr]
  clear d0 d1 d2 d3 d4 d5 d6 d7 d8 d9 d10 d11 d12 d13 d14 d15 d16 harr
  obtain ⟨A, hA⟩ : ∃ A, A = nodeA := ⟨_, rfl⟩
  have HA : Hid (∀ k : Nat, k < 17 → (Instr.index 119 (.agg A) (.int .i64 (k : Int))).run Tryz.prog w1 = .ok (.string (nodeW k)) w1) := by rw [hA]; exact nodeA_run w1
  rw [← hA]
  clear hA
  go_wp2_with fail
  go_loopw [4, 5, 9] (fun _ _ kv wr => ∃ (k : Nat), kv = .int .i64 (k : Int) ∧ k ≤ 17 ∧ (∀ j : Nat, j < k → ¬ bl (nodeW j) = wd) ∧ wr = w1) (fun _ _ kv _ => 17 - (intOf kv).toNat)
  case atStart => exact ⟨0, rfl, by omega, fun j hj => by omega, rfl⟩
  case round =>
    obtain ⟨k, rfl, hk, hJ, hwx⟩ := hrel
    rw [hwx]
    clear hwx
    have HJ : Hid (∀ j : Nat, j < k → ¬ bl (nodeW j) = wd) := hJ
    clear hJ
    by_cases hk17 : k < 17
    · have zk : (k : Int) < 17 := by omega
      have hg := HA.out k hk17
      by_cases he : bl (nodeW k) = wd
      · have zt : (sw.toList == (nodeW k).toList) = true := by rw [ByteArray.toList_eq, ByteArray.toList_eq]; exact beq_iff_eq.2 (HSW.out.1.trans he.symm)
        have HE : Hid (kwF wd = some (k : Int)) := nodeW_kw H0.out.2.2.1 H0.out.2.2.2 (by omega) he
        clear he
        have zw : IntKind.i64.wrap ((i : Int) + (sw.size : Int)) = (i : Int) + (sw.size : Int) := wrap64 (by omega) (by omega)
        have HF : Hid (FsAt (w1.setCell ⟨g, 1, none⟩ (.int .i64 ((i : Int) + (sw.size : Int)))) base g b off n cap (i + wd.length) vs ∧ Chg (fun k => k = g) w (w1.setCell ⟨g, 1, none⟩ (.int .i64 ((i : Int) + (sw.size : Int))))) := ⟨by have h9 := H1.out.1.move (i + wd.length) (.int .i64 ((i : Int) + (sw.size : Int))) (by rw [HSW.out.2]; congr 1); exact h9, H1.out.2.trans (Chg.of_set _ _ _ _ rfl)⟩
        go_wp2_with fail
        go_ret
        exact ⟨HF.out.2, .inl ⟨(k : Int), HE.out, rfl, HF.out.1⟩⟩
      · have zt : (sw.toList == (nodeW k).toList) = false := by rw [ByteArray.toList_eq, ByteArray.toList_eq]; exact beq_eq_false_iff_ne.2 (fun q => he (q.symm.trans HSW.out.1))
        go_wp2_with fail
        go_roundw
        case rel => exact ⟨k + 1, by go_num, by omega, fun j hj => by
          by_cases q : j < k
          · exact HJ.out j q
          · rw [show j = k by omega]; exact he, by first | rfl | trivial⟩
        case measure => simp [intOf]; omega
    · have zk : ¬ (k : Int) < 17 := by omega
      have HE : Hid (kwF wd = none) := nodeW_none (fun j hj => HJ.out j (by omega))
      go_wp2_with fail
      refine (sdem_no H1.out.1).mono ?_
      rintro e w2 ⟨rfl, hw2⟩
      rw [hw2]
      clear hw2
      exact ⟨rfl, H1.out.2, .inr ⟨HE.out, rfl⟩⟩
end Go.Proofs.YtgnpcenpcmdlfaaGreatDoor

/-
  impl.numOf, (*impl.filterScanner).num: strconv.ParseUint at digits.
-/

namespace Go.Proofs.YtgnpcenpcmdlfaaGreatDoor
open Go.ChangeShapes Go.WideShapes Go.ChangeAt Go.RowKit Go.Deep Go.Shelf
set_option linter.unusedVariables false
set_option linter.unusedSimpArgs false
set_option maxRecDepth 100000

/-- The variable strconv.ErrRange holds an error. -/
def ErrAt (w : World) : Prop := ∃ ev, w.cell? ⟨3, 0, none⟩ = some ev ∧ (ev = .nilIface ∨ ∃ te pe, ev = .iface te pe)
theorem ErrAt.chg {S : Nat → Prop} {w w' : World} (h : ErrAt w) (hc : Chg S w w') (hn : ¬ S 3) : ErrAt w' := by
  obtain ⟨ev, h1, h2⟩ := h
  have hlt : 3 < w.heap.size := by
    unfold World.cell? at h1
    by_cases q : 3 < w.heap.size
    · exact q
    · rw [Array.getElem?_eq_none (by show w.heap.size ≤ 3; omega)] at h1; simp at h1
  exact ⟨ev, (hc.cell (p := ⟨3, 0, none⟩) hlt hn).trans h1, h2⟩
theorem parse_dig : ∀ (l : List UInt8) (n : Nat), (∀ x ∈ l, isDig x = true) → n ≤ 18446744073709551615 → Lib.parseUintM 18446744073709551615 n l = if l.foldl (fun n b => 10 * n + (b.toNat - 48)) n ≤ 18446744073709551615 then .ok (l.foldl (fun n b => 10 * n + (b.toNat - 48)) n) else .range
  | [], n, _, hn => by unfold Lib.parseUintM; simp [hn]
  | c :: l, n, hd, hn => by
    have hc := (isDig_iff c).1 (hd c (by simp))
    have hle := foldl_dec_le l (10 * n + (c.toNat - 48))
    rw [List.foldl_cons]
    unfold Lib.parseUintM
    rw [if_pos hc]
    by_cases h1 : 1844674407370955162 ≤ n
    · rw [if_pos h1, if_neg (by omega)]
    · rw [if_neg h1]
      by_cases h2 : 18446744073709551615 < n * 10 + (c.toNat - 48)
      · rw [if_pos h2, if_neg (by omega)]
      · rw [if_neg h2, show n * 10 + (c.toNat - 48) = 10 * n + (c.toNat - 48) by omega]
        exact parse_dig l _ (fun x hx => hd x (by simp [hx])) (by omega)
theorem parse_num {s : ByteArray} {d : List UInt8} (hs : s.data.toList = d) (hd : ∀ x ∈ d, isDig x = true) (hne : d ≠ []) : Lib.parseUintB 64 s.data.toList = if decV d < 2 ^ 64 then .ok (decV d) else .range := by
  rw [hs]
  unfold Lib.parseUintB
  rw [if_neg hne, show 2 ^ 64 - 1 = 18446744073709551615 by decide, parse_dig d 0 hd (by omega)]
  show (if decV d ≤ _ then Lib.NumEnd.ok (decV d) else _) = _
  by_cases h : decV d < 2 ^ 64
  · rw [if_pos h, if_pos (by omega)]
  · rw [if_neg h, if_neg (by omega)]
def NoP (d : List UInt8) (w : World) (e : Ending) (w' : World) : Prop := Hid (Below w.heap.size w w') ∧ ((∃ v : Nat, numM d = some v ∧ e = .returned (.tuple #[.int .u64 (v : Int), .bool true])) ∨ (numM d = none ∧ ∃ x : Int, e = .returned (.tuple #[.int .u64 x, .bool false])))
set_option maxHeartbeats 4000000 in
theorem numOf_core (s : ByteArray) (d : List UInt8) (w : World) (hs : s.data.toList = d) (hd : ∀ x ∈ d, isDig x = true) (hne : d ≠ []) (hl : d.length ≤ 100000) (hE : ErrAt w) : Calls Tryz.prog 90 #[.string s] w (NoP d w) := by
  have hsz : s.size = d.length := by rw [← hs]; simp
  have HP : Hid (Lib.parseUintB 64 s.data.toList = if decV d < 2 ^ 64 then .ok (decV d) else .range) := parse_num hs hd hne
  have h0 : 0 < d.length := by cases d <;> simp_all
  obtain ⟨x, hx⟩ : ∃ x, d[0]? = some x := ⟨_, List.getElem?_eq_getElem h0⟩
  have hh : d.head? = some x := by rw [← hx]; cases d <;> rfl
  have h0s : 0 < s.size := by omega
  have gx : s[0]'h0s = x := by
    have := hx
    rw [← hs] at this
    exact (sb_get (s := s) (i := 0) this).2
  have HM : Hid ((1 < s.size ∧ x.toNat = 48 → numM d = none) ∧ (¬ (1 < s.size ∧ x.toNat = 48) → numM d = if decV d < 2 ^ 64 then some (decV d) else none)) := by
    refine ⟨fun q => ?_, fun q => ?_⟩
    · unfold numM
      rw [if_pos ⟨by omega, by rw [hh]; congr 1; exact UInt8.toNat_inj.1 q.2⟩]
    · unfold numM
      rw [if_neg (fun z => q ⟨by omega, by rw [hh] at z; cases z.2; rfl⟩)]
  have HC : Hid (∀ wx, ErrAt wx → Calls Tryz.prog 112 #[.string s, .int .i64 10, .int .i64 64] wx fun e w' => Below wx.heap.size wx w' ∧ ((decV d < 2 ^ 64 ∧ e = .returned (.tuple #[.int .u64 (decV d : Int), .nilIface])) ∨ (¬ decV d < 2 ^ 64 ∧ ∃ N : Nat, e = .returned (.tuple #[.int .u64 18446744073709551615, .iface 176 (.pointer (some ⟨N, 0, none⟩))])))) := fun wx hx => by
    by_cases hv : decV d < 2 ^ 64
    · have h9 := Any.strconv_ParseUint_10_at64_ok Tryz.laysPu s (by omega) (decV d) (by rw [HP.out, if_pos hv]) wx
      refine h9.mono ?_
      rintro e w' ⟨rfl, hw⟩
      refine ⟨?_, .inl ⟨hv, rfl⟩⟩
      rcases hw with rfl | rfl
      · exact Below.refl _ _
      · exact Lib.bytesWorld_below _ _ _
    · obtain ⟨ev, e1, e2⟩ := hx
      have h9 := Any.strconv_ParseUint_10_at64_range Tryz.laysPu s (by omega) (by rw [HP.out, if_neg hv]) ev wx e1 e2
      refine h9.mono ?_
      rintro e w' ⟨N, rfl, _, _, hb⟩
      exact ⟨hb, .inr ⟨hv, N, rfl⟩⟩
  obtain ⟨v, hv⟩ : ∃ v, v = decV d := ⟨_, rfl⟩
  rw [← hv] at HM HC
  have HEr : Hid (ErrAt w) := hE
  clear hs hd hne h0 hx hh HP hE hv
  obtain ⟨m, hm⟩ : ∃ m, m = s.size := ⟨_, rfl⟩
  by_cases h1 : 1 < s.size
  · have z1 : (1 : Int) < (s.size : Int) := by omega
    by_cases h48 : x.toNat = 48
    · have z48 : ((x.toNat : Int) == 48) = true := by have : (x.toNat : Int) = 48 := (by omega); simp [this]
      have HN : Hid (numM d = none) := HM.out.1 ⟨h1, h48⟩
      clear h48 hm
      go_enter Tryz.func90, Tryz.ntmps90
      go_wp2_with fail
      exact bodyPost_ret (v := .tuple #[.int .u64 0, .bool false]) (by simp [results, Tryz.results90, go_sem]) rfl ⟨Below.refl _ _, .inr ⟨HN.out, 0, rfl⟩⟩
    · have z48 : ((x.toNat : Int) == 48) = false := by have : ¬ (x.toNat : Int) = 48 := (by omega); simp [this]
      have HN : Hid (numM d = if v < 2 ^ 64 then some v else none) := HM.out.2 (fun q => h48 q.2)
      clear h48 hm
      go_enter Tryz.func90, Tryz.ntmps90
      go_wp2_with fail
      refine (HC.out w HEr.out).mono ?_
      rintro e w1 ⟨hb1, (⟨hv, rfl⟩ | ⟨hv, N, rfl⟩)⟩
      · have HB1 : Hid (Below w.heap.size w w1 ∧ numM d = some v) := ⟨hb1, by rw [HN.out, if_pos hv]⟩
        clear hb1 HC hv
        go_wp2_with fail
        go_quiet (fail)
        go_wp2_with fail
        exact bodyPost_ret (v := .tuple #[.int .u64 (v : Int), .bool true]) (by simp [results, Tryz.results90, go_sem]) rfl ⟨by first | exact HB1.out.1 | exact HB1.out.1.trans ((below_drewN (Below.refl _ _) _).mono HB1.out.1.size), .inl ⟨v, HB1.out.2, rfl⟩⟩
      · have HB1 : Hid (Below w.heap.size w w1 ∧ numM d = none) := ⟨hb1, by rw [HN.out, if_neg hv]⟩
        clear hb1 HC hv
        go_wp2_with fail
        go_quiet (fail)
        go_wp2_with fail
        exact bodyPost_ret (v := .tuple #[.int .u64 18446744073709551615, .bool false]) (by simp [results, Tryz.results90, go_sem]) rfl ⟨by first | exact HB1.out.1 | exact HB1.out.1.trans ((below_drewN (Below.refl _ _) _).mono HB1.out.1.size), .inr ⟨HB1.out.2, _, rfl⟩⟩
  · have z1 : ¬ (1 : Int) < (s.size : Int) := by omega
    have HN : Hid (numM d = if v < 2 ^ 64 then some v else none) := HM.out.2 (fun q => h1 q.1)
    clear hm
    go_enter Tryz.func90, Tryz.ntmps90
    go_wp2_with fail
    refine (HC.out w HEr.out).mono ?_
    rintro e w1 ⟨hb1, (⟨hv, rfl⟩ | ⟨hv, N, rfl⟩)⟩
    · have HB1 : Hid (Below w.heap.size w w1 ∧ numM d = some v) := ⟨hb1, by rw [HN.out, if_pos hv]⟩
      clear hb1 HC hv
      go_wp2_with fail
      go_quiet (fail)
      go_wp2_with fail
      exact bodyPost_ret (v := .tuple #[.int .u64 (v : Int), .bool true]) (by simp [results, Tryz.results90, go_sem]) rfl ⟨by first | exact HB1.out.1 | exact HB1.out.1.trans ((below_drewN (Below.refl _ _) _).mono HB1.out.1.size), .inl ⟨v, HB1.out.2, rfl⟩⟩
    · have HB1 : Hid (Below w.heap.size w w1 ∧ numM d = none) := ⟨hb1, by rw [HN.out, if_neg hv]⟩
      clear hb1 HC hv
      go_wp2_with fail
      go_quiet (fail)
      go_wp2_with fail
      exact bodyPost_ret (v := .tuple #[.int .u64 18446744073709551615, .bool false]) (by simp [results, Tryz.results90, go_sem]) rfl ⟨by first | exact HB1.out.1 | exact HB1.out.1.trans ((below_drewN (Below.refl _ _) _).mono HB1.out.1.size), .inr ⟨HB1.out.2, _, rfl⟩⟩
def NmbP (base g b off n cap i : Nat) (vs : List Value) (wd : List UInt8) (w : World) (e : Ending) (w' : World) : Prop := Hid (Chg (fun k => k = g) w w') ∧ ((∃ v : Nat, numM wd = some v ∧ e = .returned (.int .u64 (v : Int)) ∧ FsAt w' base g b off n cap (i + wd.length) vs) ∨ (numM wd = none ∧ e = Pf 2 i))
set_option maxHeartbeats 8000000 in
theorem num_core {base g b off n cap i : Nat} {vs : List Value} {w : World} {t : List UInt8} (h : FsAt w base g b off n cap i vs) (hT : BysAt w b off t) (hn : n = t.length) (hl : n ≤ 100000) (hc : n ≤ cap) (hcm : cap ≤ maxLen) (hi : i < n) (hx : ∀ x, t[i]? = some x → isDig x = true) (hE : ErrAt w) :
    Calls Tryz.prog 58 #[.pointer (some ⟨g, 0, none⟩)] w (NmbP base g b off n cap i vs ((t.drop i).takeWhile isDig) w) := by
  obtain ⟨wd, hwd⟩ : ∃ wd, wd = (t.drop i).takeWhile isDig := ⟨_, rfl⟩
  have hne : wd ≠ [] := by
    obtain ⟨x, hxx⟩ : ∃ x, t[i]? = some x := ⟨_, List.getElem?_eq_getElem (by omega)⟩
    rw [hwd, dropT_cons hxx, List.takeWhile_cons, if_pos (hx x hxx)]; simp
  have hlt : ∀ x ∈ wd, isDig x = true := fun x hm => by
    rw [hwd] at hm
    exact List.all_eq_true.1 (List.all_takeWhile (p := isDig) (l := t.drop i)) x hm
  have hwl : wd.length ≤ n := by
    rw [hwd, hn]
    exact Nat.le_trans (takeWhile_len _ _) (by rw [List.length_drop]; omega)
  have HR : Hid (Calls Tryz.prog 89 #[.pointer (some ⟨g, 0, none⟩), .func (Fn.func 57) #[] #[]] w fun e w' => e = .returned (.string (strL wd)) ∧ Below w.heap.size w w') := by
    rw [hwd]; exact run_dig h hT hn hl hc hcm hi
  rw [← hwd]
  have H0 : Hid (FsAt w base g b off n cap i vs) := h
  obtain ⟨sw, hsw⟩ : ∃ sw, sw = strL wd := ⟨_, rfl⟩
  have HSW : Hid (sw.size = wd.length) := by show _ = _; rw [hsw]; show wd.toArray.size = _; simp
  have HNu : Hid (∀ wx, Below w.heap.size w wx → Calls Tryz.prog 90 #[.string sw] wx (NoP wd wx)) := fun wx hb => numOf_core sw wd wx (by rw [hsw]) hlt hne (by omega) (hE.chg (S := fun _ => False) (Chg.of_below hb) (fun q => q))
  rw [← hsw] at HR
  have hsl : sw.size ≤ n := by rw [HSW.out]; exact hwl
  clear h hT hn hx hE hne hlt hwd hc hcm hsw hwl
  go_enter Tryz.func58, Tryz.ntmps58
  go_wp2_with fail
  refine HR.out.mono ?_
  rintro e w1 ⟨rfl, hb1⟩
  have HB1 : Hid (Below w.heap.size w w1) := hb1
  clear hb1 HR
  go_wp2_with fail
  refine (HNu.out w1 HB1.out).mono ?_
  rintro e w2 ⟨Hb2, (⟨v, hv, rfl⟩ | ⟨hv, x, rfl⟩)⟩
  · have H2 : Hid (FsAt w2 base g b off n cap i vs ∧ Chg (fun k => k = g) w w2 ∧ numM wd = some v) := ⟨BoxAt.below H0.out (HB1.out.trans (Hb2.out.mono HB1.out.size)), Chg.of_below (HB1.out.trans (Hb2.out.mono HB1.out.size)), hv⟩
    have c1 := H2.out.1.cell (j := 1) rfl
    have f1 := H2.out.1.frozen 1
    clear hv HNu
    have zw : IntKind.i64.wrap ((i : Int) + (sw.size : Int)) = (i : Int) + (sw.size : Int) := wrap64 (by omega) (by omega)
    have HF : Hid (FsAt (w2.setCell ⟨g, 1, none⟩ (.int .i64 ((i : Int) + (sw.size : Int)))) base g b off n cap (i + wd.length) vs ∧ Chg (fun k => k = g) w (w2.setCell ⟨g, 1, none⟩ (.int .i64 ((i : Int) + (sw.size : Int))))) := ⟨by have h9 := H2.out.1.move (i + wd.length) (.int .i64 ((i : Int) + (sw.size : Int))) (by rw [HSW.out]; congr 1); exact h9, H2.out.2.1.trans (Chg.of_set _ _ _ _ rfl)⟩
    go_wp2_with fail
    refine (sdem_yes _ w2).mono ?_
    rintro e w3 ⟨rfl, hw3⟩
    rw [hw3]
    clear hw3
    go_wp2_with fail
    go_ret
    exact ⟨HF.out.2, .inl ⟨v, H2.out.2.2, rfl, HF.out.1⟩⟩
  · have H2 : Hid (FsAt w2 base g b off n cap i vs ∧ Chg (fun k => k = g) w w2 ∧ numM wd = none) := ⟨BoxAt.below H0.out (HB1.out.trans (Hb2.out.mono HB1.out.size)), Chg.of_below (HB1.out.trans (Hb2.out.mono HB1.out.size)), hv⟩
    clear hv HNu
    go_wp2_with fail
    refine (sdem_no H2.out.1).mono ?_
    rintro e w3 ⟨rfl, hw3⟩
    rw [hw3]
    clear hw3
    exact ⟨rfl, H2.out.2.1, .inr ⟨H2.out.2.2, rfl⟩⟩
end Go.Proofs.YtgnpcenpcmdlfaaGreatDoor

/-
  (*impl.filterScanner).escape.
-/
namespace Go.Proofs.YtgnpcenpcmdlfaaGreatDoor
open Go.ChangeShapes Go.WideShapes Go.ChangeAt Go.RowKit Go.Deep
set_option linter.unusedVariables false
set_option linter.unusedSimpArgs false
set_option maxRecDepth 100000

def hexS : ByteArray := ⟨#[48, 49, 50, 51, 52, 53, 54, 55, 56, 57, 97, 98, 99, 100, 101, 102]⟩
theorem idx_hexF : ∀ n : Fin 256, Lib.indexByte [48, 49, 50, 51, 52, 53, 54, 55, 56, 57, 97, 98, 99, 100, 101, 102] (UInt8.ofNat n.val) = hexI (UInt8.ofNat n.val) := by decide
theorem idx_hex (c : UInt8) : Lib.indexByte (sb hexS) c = hexI c := by
  have h := idx_hexF ⟨c.toNat, c.toNat_lt⟩
  have e : UInt8.ofNat c.toNat = c := by simp
  rw [show UInt8.ofNat (⟨c.toNat, c.toNat_lt⟩ : Fin 256).val = c from e] at h
  exact h
/-- A piece that begins with a backslash. -/
def escM (l : List UInt8) : Option (UInt8 × Nat) := match l with
  | _ :: c :: r => if c = 34 ∨ c = 92 then some (c, 2) else if c = 120 then (match r with
      | h :: q :: _ => (match hexV h, hexV q with
        | some x, some y => some (UInt8.ofNat (16 * x + y), 4)
        | _, _ => none)
      | _ => none) else none
  | _ => none
theorem str_escM (l : List UInt8) : strM (92 :: l) = (match escM (92 :: l) with
    | some (b, k) => (strM ((92 :: l).drop k)).map (fun z => (b :: z.1, z.2 + k))
    | none => none) := by
  cases l with
  | nil => rfl
  | cons c r =>
    by_cases h : c = 34 ∨ c = 92
    · rw [str_esc h]
      have : escM (92 :: c :: r) = some (c, 2) := by unfold escM; dsimp only; rw [if_pos h]
      rw [this]; rfl
    · by_cases hx : c = 120
      · subst hx
        rw [str_x]
        match r with
        | [] => rfl
        | [a] => rfl
        | a :: e :: r =>
          have he : escM (92 :: 120 :: a :: e :: r) = (match hexV a, hexV e with
            | some x, some y => some (UInt8.ofNat (16 * x + y), 4)
            | _, _ => none) := by unfold escM; dsimp only; rw [if_neg (by decide), if_pos rfl]
          rw [he]
          dsimp only
          cases hexV a <;> cases hexV e <;> rfl
      · rw [str_odd h hx]
        have : escM (92 :: c :: r) = none := by unfold escM; dsimp only; rw [if_neg h, if_neg hx]
        rw [this]
theorem esc_x (r : List UInt8) : escM (92 :: 120 :: r) = (match r with
      | h :: q :: _ => (match hexV h, hexV q with
        | some x, some y => some (UInt8.ofNat (16 * x + y), 4)
        | _, _ => none)
      | _ => none) := by unfold escM; dsimp only; rw [if_neg (by decide), if_pos rfl]
theorem esc_short {r : List UInt8} (h : r.length < 2) : escM (92 :: 120 :: r) = none := by
  rw [esc_x]
  match r, h with
  | [], _ => rfl
  | [a], _ => rfl
theorem esc_nohex {u v : UInt8} {r : List UInt8} (h : hexV u = none ∨ hexV v = none) : escM (92 :: 120 :: u :: v :: r) = none := by
  rw [esc_x]
  dsimp only
  rcases h with q | q
  · rw [q]
  · rw [q]; cases hexV u <;> rfl
theorem esc_hex {u v : UInt8} {r : List UInt8} {p q : Nat} (h1 : hexV u = some p) (h2 : hexV v = some q) : escM (92 :: 120 :: u :: v :: r) = some (UInt8.ofNat (16 * p + q), 4) := by
  rw [esc_x]
  dsimp only
  rw [h1, h2]
def EscP (l : List UInt8) (i : Nat) (w : World) (e : Ending) (w' : World) : Prop := w' = w ∧ ((∃ (x : UInt8) (k : Nat), escM l = some (x, k) ∧ e = .returned (.tuple #[.int .u8 (x.toNat : Int), .int .i64 (k : Int)])) ∨ (escM l = none ∧ e = Pf 2 i))
theorem or16F : ∀ p q : Fin 16, bits .or .i64 ((p.val : Int) * 16) (q.val : Int) = ((16 * p.val + q.val : Nat) : Int) := by decide
theorem or16 {p q : Nat} (hp : p < 16) (hq : q < 16) : bits .or .i64 ((p : Int) * 16) (q : Int) = ((16 * p + q : Nat) : Int) := or16F ⟨p, hp⟩ ⟨q, hq⟩
set_option maxHeartbeats 8000000 in
theorem escape_core {base g b off n cap i : Nat} {vs : List Value} {w : World} {l : List UInt8} (h : FsAt w base g b off n cap i vs) (o c : Nat) (hT : BysAt w b o (92 :: l)) (hl : l.length ≤ 100000) :
    Calls Tryz.prog 91 #[.pointer (some ⟨g, 0, none⟩), .slice (some ⟨b, o, none⟩) (l.length + 1) c] w (EscP (92 :: l) i w) := by
  have HF : Hid (FsAt w base g b off n cap i vs) := h
  have HT : Hid (BysAt w b o (92 :: l)) := hT
  clear h hT
  cases l with
  | nil =>
    go_enter Tryz.func91, Tryz.ntmps91
    go_wp2_with fail
    refine (sdem_no HF.out).mono ?_
    rintro e w2 ⟨rfl, hw2⟩
    rw [hw2]
    clear hw2
    exact ⟨rfl, rfl, .inr ⟨rfl, rfl⟩⟩
  | cons y r =>
    have cy : w.cell? ⟨b, o + 1, none⟩ = some (.int .u8 (y.toNat : Int)) := HT.out 1 y rfl
    obtain ⟨m, hm⟩ : ∃ m, m = r.length := ⟨_, rfl⟩
    have HM : Hid (m = r.length) := hm
    rw [List.length_cons, ← hm] at hl ⊢
    clear hm
    have z2 : (2 : Int) ≤ (m : Int) + 1 + 1 := by omega
    have hy8 : y.toNat < 256 := y.toNat_lt
    by_cases h34 : y.toNat = 34
    · have z34 : ((y.toNat : Int) == 34) = true := by have : (y.toNat : Int) = 34 := (by omega); simp [this]
      have HE : Hid (escM (92 :: y :: r) = some (y, 2)) := by show _ = _; unfold escM; dsimp only; rw [if_pos (.inl (UInt8.toNat_inj.1 h34))]
      clear h34
      go_enter Tryz.func91, Tryz.ntmps91
      go_wp2_with (go_at_call 62; refine (sdem_yes _ w).mono ?_; rintro e w2 ⟨rfl, hw2⟩; rw [hw2]; clear hw2)
      exact bodyPost_ret (v := .tuple #[.int .u8 (y.toNat : Int), .int .i64 2]) (by simp [results, Tryz.results91, go_sem]) rfl ⟨rfl, .inl ⟨y, 2, HE.out, rfl⟩⟩
    have z34 : ((y.toNat : Int) == 34) = false := by have : ¬ (y.toNat : Int) = 34 := (by omega); simp [this]
    by_cases h92 : y.toNat = 92
    · have z92 : ((y.toNat : Int) == 92) = true := by have : (y.toNat : Int) = 92 := (by omega); simp [this]
      have HE : Hid (escM (92 :: y :: r) = some (y, 2)) := by show _ = _; unfold escM; dsimp only; rw [if_pos (.inr (UInt8.toNat_inj.1 h92))]
      clear h34 h92
      go_enter Tryz.func91, Tryz.ntmps91
      go_wp2_with (go_at_call 62; refine (sdem_yes _ w).mono ?_; rintro e w2 ⟨rfl, hw2⟩; rw [hw2]; clear hw2)
      exact bodyPost_ret (v := .tuple #[.int .u8 (y.toNat : Int), .int .i64 2]) (by simp [results, Tryz.results91, go_sem]) rfl ⟨rfl, .inl ⟨y, 2, HE.out, rfl⟩⟩
    have z92 : ((y.toNat : Int) == 92) = false := by have : ¬ (y.toNat : Int) = 92 := (by omega); simp [this]
    have hno : ¬ (y = 34 ∨ y = 92) := fun q => by rcases q with q | q <;> subst q <;> first | exact h34 rfl | exact h92 rfl
    by_cases h120 : y.toNat = 120
    case neg =>
      have z120 : ((y.toNat : Int) == 120) = false := by have : ¬ (y.toNat : Int) = 120 := (by omega); simp [this]
      have HE : Hid (escM (92 :: y :: r) = none) := by show _ = _; unfold escM; dsimp only; rw [if_neg hno, if_neg (fun q => h120 (by rw [q]; rfl))]
      clear h34 h92 h120 hno
      go_enter Tryz.func91, Tryz.ntmps91
      go_wp2_with fail
      refine (sdem_yes _ w).mono ?_
      rintro e w2 ⟨rfl, hw2⟩
      rw [hw2]
      clear hw2
      go_wp2_with fail
      refine (sdem_no HF.out).mono ?_
      rintro e w2 ⟨rfl, hw2⟩
      rw [hw2]
      clear hw2
      exact ⟨rfl, rfl, .inr ⟨HE.out, rfl⟩⟩
    case pos =>
    have z120 : ((y.toNat : Int) == 120) = true := by have : (y.toNat : Int) = 120 := (by omega); simp [this]
    have hy120 : y = 120 := UInt8.toNat_inj.1 h120
    have HX : Hid (y = 120) := hy120
    clear h34 h92 h120 hno hy120
    by_cases h4 : m < 2
    · have z4 : decide ((4 : Int) ≤ (m : Int) + 1 + 1) = false := decide_eq_false (by omega)
      have z4b : (m : Int) + 1 + 1 < 4 := by omega
      have HE : Hid (escM (92 :: y :: r) = none) := by show _ = _; rw [HX.out]; exact esc_short (by rw [← HM.out]; exact h4)
      go_enter Tryz.func91, Tryz.ntmps91
      go_wp2_with fail
      refine (sdem_yes _ w).mono ?_
      rintro e w2 ⟨rfl, hw2⟩
      rw [hw2]
      clear hw2
      go_wp2_with fail
      refine (sdem_no HF.out).mono ?_
      rintro e w2 ⟨rfl, hw2⟩
      rw [hw2]
      clear hw2
      exact ⟨rfl, rfl, .inr ⟨HE.out, rfl⟩⟩
    have z4 : (4 : Int) ≤ (m : Int) + 1 + 1 := by omega
    obtain ⟨u, v, r2, rfl⟩ : ∃ u v r2, r = u :: v :: r2 := by
      match r, HM.out with
      | [], q => simp at q; omega
      | [a], q => simp at q; omega
      | a :: e :: r, _ => exact ⟨a, e, r, rfl⟩
    have cu : w.cell? ⟨b, o + 2, none⟩ = some (.int .u8 (u.toNat : Int)) := HT.out 2 u rfl
    have cv : w.cell? ⟨b, o + 3, none⟩ = some (.int .u8 (v.toNat : Int)) := HT.out 3 v rfl
    have y2 : (2 : Int) < (m : Int) + 1 + 1 := by omega
    have y3 : (3 : Int) < (m : Int) + 1 + 1 := by omega
    have HCu : Hid (∀ z : UInt8, Calls Tryz.prog 61 #[.string ⟨#[48, 49, 50, 51, 52, 53, 54, 55, 56, 57, 97, 98, 99, 100, 101, 102]⟩, .int .u8 (z.toNat : Int)] w fun e w' => e = .returned (.int .i64 (hexI z)) ∧ w' = w) := fun z => by
      have h9 := stringsIndexByte_any hexS z w
      rw [idx_hex] at h9
      exact h9
    cases hxu : hexV u with
    | none =>
      have z5 : ¬ (0 : Int) ≤ hexI u := by rw [hexI_none hxu]; omega
      have HE : Hid (escM (92 :: y :: u :: v :: r2) = none) := by show _ = _; rw [HX.out]; exact esc_nohex (.inl hxu)
      go_enter Tryz.func91, Tryz.ntmps91
      go_wp2_with fail
      refine (sdem_yes _ w).mono ?_
      rintro e w2 ⟨rfl, hw2⟩
      rw [hw2]
      clear hw2
      go_wp2_with fail
      refine (sdem_yes _ w).mono ?_
      rintro e w2 ⟨rfl, hw2⟩
      rw [hw2]
      clear hw2
      go_wp2_with fail
      refine (HCu.out u).mono ?_
      rintro e w2 ⟨rfl, hw2⟩
      rw [hw2]
      clear hw2
      go_wp2_with fail
      refine (HCu.out v).mono ?_
      rintro e w2 ⟨rfl, hw2⟩
      rw [hw2]
      clear hw2
      go_wp2_with fail
      refine (sdem_no HF.out).mono ?_
      rintro e w2 ⟨rfl, hw2⟩
      rw [hw2]
      clear hw2
      exact ⟨rfl, rfl, .inr ⟨HE.out, rfl⟩⟩
    | some p =>
      have z5 : (0 : Int) ≤ hexI u := by rw [hexI_some hxu]; omega
      cases hxv : hexV v with
      | none =>
        have z6b : decide ((0 : Int) ≤ hexI v) = false := decide_eq_false (by rw [hexI_none hxv]; omega)
        have HE : Hid (escM (92 :: y :: u :: v :: r2) = none) := by show _ = _; rw [HX.out]; exact esc_nohex (.inr hxv)
        go_enter Tryz.func91, Tryz.ntmps91
        go_wp2_with fail
        refine (sdem_yes _ w).mono ?_
        rintro e w2 ⟨rfl, hw2⟩
        rw [hw2]
        clear hw2
        go_wp2_with fail
        refine (sdem_yes _ w).mono ?_
        rintro e w2 ⟨rfl, hw2⟩
        rw [hw2]
        clear hw2
        go_wp2_with fail
        refine (HCu.out u).mono ?_
        rintro e w2 ⟨rfl, hw2⟩
        rw [hw2]
        clear hw2
        go_wp2_with fail
        refine (HCu.out v).mono ?_
        rintro e w2 ⟨rfl, hw2⟩
        rw [hw2]
        clear hw2
        go_wp2_with fail
        refine (sdem_no HF.out).mono ?_
        rintro e w2 ⟨rfl, hw2⟩
        rw [hw2]
        clear hw2
        exact ⟨rfl, rfl, .inr ⟨HE.out, rfl⟩⟩
      | some q =>
        have z6 : (0 : Int) ≤ hexI v := by rw [hexI_some hxv]; omega
        have hpl := hexV_lt hxu
        have hql := hexV_lt hxv
        obtain ⟨z, hz⟩ : ∃ z : UInt8, z = UInt8.ofNat (16 * p + q) := ⟨_, rfl⟩
        have hzn : z.toNat = 16 * p + q := by rw [hz, UInt8.toNat_ofNat']; omega
        have HE : Hid (escM (92 :: y :: u :: v :: r2) = some (z, 4)) := by show _ = _; rw [HX.out, hz]; exact esc_hex hxu hxv
        have HZ : Hid (bits .or .i64 (hexI u * 16) (hexI v) = (z.toNat : Int)) := by show _ = _; rw [hexI_some hxu, hexI_some hxv, or16 hpl hql, hzn]
        have z7 : hexI u < 16 := by rw [hexI_some hxu]; omega
        have z8 : hexI v < 16 := by rw [hexI_some hxv]; omega
        clear hz hzn hpl hql hxu hxv
        go_enter Tryz.func91, Tryz.ntmps91
        go_wp2_with fail
        refine (sdem_yes _ w).mono ?_
        rintro e w2 ⟨rfl, hw2⟩
        rw [hw2]
        clear hw2
        go_wp2_with fail
        refine (sdem_yes _ w).mono ?_
        rintro e w2 ⟨rfl, hw2⟩
        rw [hw2]
        clear hw2
        go_wp2_with fail
        refine (HCu.out u).mono ?_
        rintro e w2 ⟨rfl, hw2⟩
        rw [hw2]
        clear hw2
        go_wp2_with fail
        refine (HCu.out v).mono ?_
        rintro e w2 ⟨rfl, hw2⟩
        rw [hw2]
        clear hw2
        go_wp2_with fail
        refine (sdem_yes _ w).mono ?_
        rintro e w2 ⟨rfl, hw2⟩
        rw [hw2]
        clear hw2
        have hz256 : z.toNat < 256 := z.toNat_lt
        have hw16 : IntKind.i64.wrap (hexI u * 16) = hexI u * 16 := wrap64 (by omega) (by omega)
        have HZ2 := HZ.out
        have hzz : (z.toNat : Int) % 256 = (z.toNat : Int) := by omega
        go_wp2_with fail
        exact bodyPost_ret (v := .tuple #[.int .u8 (z.toNat : Int), .int .i64 4]) (by simp [results, Tryz.results91, go_sem]) rfl ⟨rfl, .inl ⟨z, 4, HE.out, rfl⟩⟩
end Go.Proofs.YtgnpcenpcmdlfaaGreatDoor

