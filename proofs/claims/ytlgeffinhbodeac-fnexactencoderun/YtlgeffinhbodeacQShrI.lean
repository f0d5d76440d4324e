/-
  impl.sharedBytes.
-/
import Derived.Test.YtlgeffinhbodeacQBysB
namespace Go.Proofs.Ytlgeffinhbodeac
open Go.ChangeShapes Go.WideShapes Go.ChangeAt Go.RowKit Go.Deep
set_option linter.unusedVariables false
set_option linter.unusedSimpArgs false
set_option maxRecDepth 100000

set_option maxHeartbeats 1000000 in
theorem implShared_core (s t : ByteArray) (w : World) (hs : s.size ≤ maxLen) (ht : t.size ≤ maxLen) :
    Calls Try.prog 98 #[.string s, .string t] w fun e w' => e = .returned (.int .i64 (shared (bl s) (bl t) : Int)) ∧ Below w.heap.size w w' := by
  unfold maxLen at hs ht
  go_enter Try.func98, Try.ntmps98
  go_wp2_with fail
  go_loopw [5] (fun i wr => ∃ (k : Nat), k ≤ s.size ∧ k ≤ t.size ∧ i = .int .i64 k ∧ (bl s).take k = (bl t).take k ∧ Below w.heap.size w wr) (fun i _ => s.size - (intOf i).toNat)
  case atStart => exact ⟨0, Nat.zero_le _, Nat.zero_le _, rfl, rfl, Below.refl _ _⟩
  case round =>
    obtain ⟨k, hk1, hk2, rfl, htk, hb⟩ := hrel
    have HT : Hid ((bl s).take k = (bl t).take k) := htk
    clear htk
    by_cases h1 : k < s.size
    · by_cases h2 : k < t.size
      · obtain ⟨x, hx⟩ : ∃ x, (bl s)[k]? = some x := ⟨_, List.getElem?_eq_getElem (by rw [bl_len]; exact h1)⟩
        obtain ⟨y, hy⟩ : ∃ y, (bl t)[k]? = some y := ⟨_, List.getElem?_eq_getElem (by rw [bl_len]; exact h2)⟩
        have gx : s[k] = x := by
          have := hx
          rw [List.getElem?_eq_getElem (by rw [bl_len]; exact h1)] at this
          exact Option.some.inj this
        have gy : t[k] = y := by
          have := hy
          rw [List.getElem?_eq_getElem (by rw [bl_len]; exact h2)] at this
          exact Option.some.inj this
        have z1 : (k : Int) < (s.size : Int) := by omega
        have z2 : (k : Int) < (t.size : Int) := by omega
        have HX : Hid ((bl s)[k]? = some x ∧ (bl t)[k]? = some y) := ⟨hx, hy⟩
        clear hx hy
        by_cases hxy : x = y
        · subst hxy
          have HS : Hid ((bl s).take (k + 1) = (bl t).take (k + 1)) := by
            show (bl s).take (k + 1) = (bl t).take (k + 1)
            rw [List.take_add_one, List.take_add_one, HT.out, HX.out.1, HX.out.2]
          go_upto_region 2 with fail
          go_cut [24] (fun v wx => v = .bool true ∧ Below w.heap.size w wx)
          case first =>
            go_region
            all_goals go_wp2_with fail
            all_goals go_meet
            all_goals exact ⟨by simp, hb.drew⟩
          case rest =>
          obtain ⟨rfl, hbc⟩ := hcut
          go_wp2_with fail
          go_roundw
          case rel => exact ⟨k + 1, by omega, by omega, by go_num, HS.out, hbc⟩
          case measure => simp [intOf]; omega
        · have HS : Hid (shared (bl s) (bl t) = k) := by
            refine shared_iff _ _ k (by rw [bl_len]; exact hk1) (by rw [bl_len]; exact hk2) HT.out (.inr (.inr ?_))
            rw [HX.out.1, HX.out.2]
            exact fun q => hxy (Option.some.inj q)
          have hne : ¬ x.toNat = y.toNat := fun q => hxy (UInt8.toNat_inj.1 q)
          go_upto_region 2 with fail
          go_cut [24] (fun v wx => v = .bool false ∧ Below w.heap.size w wx)
          case first =>
            go_region
            all_goals go_wp2_with fail
            all_goals go_meet
            all_goals exact ⟨by simp; omega, hb.drew⟩
          case rest =>
          obtain ⟨rfl, hbc⟩ := hcut
          go_wp2_with fail
          go_ret
          exact ⟨by rw [HS.out]; rfl, hbc⟩
      · have HS : Hid (shared (bl s) (bl t) = k) := shared_iff _ _ k (by rw [bl_len]; exact hk1) (by rw [bl_len]; exact hk2) HT.out (.inr (.inl (by rw [bl_len]; omega)))
        have z1 : (k : Int) < (s.size : Int) := by omega
        have z2 : ¬ (k : Int) < (t.size : Int) := by omega
        go_upto_region 2 with fail
        go_cut [24] (fun v wx => v = .bool false ∧ Below w.heap.size w wx)
        case first =>
          go_region
          all_goals go_wp2_with fail
          all_goals go_meet
          all_goals exact ⟨rfl, hb.drew⟩
        case rest =>
        obtain ⟨rfl, hbc⟩ := hcut
        go_wp2_with fail
        go_ret
        exact ⟨by rw [HS.out]; rfl, hbc⟩
    · have HS : Hid (shared (bl s) (bl t) = k) := shared_iff _ _ k (by rw [bl_len]; exact hk1) (by rw [bl_len]; exact hk2) HT.out (.inl (by rw [bl_len]; omega))
      have z1 : ¬ (k : Int) < (s.size : Int) := by omega
      go_upto_region 2 with fail
      go_cut [24] (fun v wx => v = .bool false ∧ Below w.heap.size w wx)
      case first =>
        go_region
        all_goals go_wp2_with fail
        all_goals go_meet
        all_goals exact ⟨rfl, hb.drew⟩
      case rest =>
      obtain ⟨rfl, hbc⟩ := hcut
      go_wp2_with fail
      go_ret
      exact ⟨by rw [HS.out]; rfl, hbc⟩
end Go.Proofs.Ytlgeffinhbodeac
