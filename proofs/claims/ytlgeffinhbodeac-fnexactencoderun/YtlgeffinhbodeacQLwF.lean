/-
  laws' eqFileRes, markFileRes, heldFileRes, markByteS.
-/
import Derived.Test.YtlgeffinhbodeacQOwnU
import Derived.Test.YtlgeffinhbodeacQOpenB
namespace Go.Proofs.Ytlgeffinhbodeac
open Go.ChangeShapes Go.WideShapes Go.ChangeAt Go.RowKit Go.Deep
set_option linter.unusedVariables false
set_option linter.unusedSimpArgs false
set_option maxRecDepth 100000

theorem OwnU.slice {w : World} {base : Nat} {u : Value} {R : List Ent} (h : OwnU w base u R) : ∃ a n c, u = .slice a n c := by
  rcases h with ⟨rfl, _⟩ | ⟨g, cp, rfl, _⟩
  · exact ⟨_, _, _, rfl⟩
  · exact ⟨_, _, _, rfl⟩
theorem OwnU.below {w w' : World} {base : Nat} {u : Value} {R : List Ent} (h : OwnU w base u R) (hb : Below w.heap.size w w') : OwnU w' base u R := h.kept (grown_of_below hb none) (fun g q => by cases q)
set_option maxHeartbeats 1000000 in
theorem markByteS_own (base g cp : Nat) (xs : List UInt8) (w : World) (h : OwnY w base g cp xs) (hn : xs.length ≤ 1048576) :
    Calls Try.prog 28 #[.slice (some ⟨g, 0, none⟩) xs.length cp, .int .i64 1] w fun e w' => e = .returned (.int .i64 (1 + xs.length)) ∧ w.grownBy w' (some g) := by
  have HO : Hid (OwnY w base g cp xs) := h
  clear h
  go_enter Try.func28, Try.ntmps28
  go_wp2_with fail
  go_loopw [1, 5] (fun c i wr => ∃ (k : Nat) (ys : List UInt8), k ≤ xs.length ∧ c = .int .i64 (1 + (k : Int)) ∧ i = .int .i64 k ∧ ys.length = xs.length ∧ OwnY wr base g cp ys ∧ w.grownBy wr (some g)) (fun _ i _ => xs.length - (intOf i).toNat)
  case atStart => exact ⟨0, xs, Nat.zero_le _, rfl, rfl, rfl, HO.out, grown_of_below (Below.refl _ _) _⟩
  case round =>
    obtain ⟨k, ys, hk, rfl, rfl, hyl, hY, hG⟩ := hrel
    have HY : Hid (OwnY wr base g cp ys ∧ w.grownBy wr (some g) ∧ ys.length = xs.length) := ⟨hY, hG, hyl⟩
    clear hY hG hyl
    by_cases hlt : k < xs.length
    · obtain ⟨y, hy⟩ : ∃ y, ys[k]? = some y := ⟨_, List.getElem?_eq_getElem (by rw [HY.out.2.2]; exact hlt)⟩
      have d0 := HY.out.1.at k y hy
      rw [Nat.zero_add] at d0
      have fz : wr.frozen? ⟨g, k, none⟩ = false := World.ownsRow.frozenAt HY.out.1 k
      have z : (k : Int) < (xs.length : Int) := by omega
      obtain ⟨x, hx⟩ : ∃ x : UInt8, x = UInt8.ofNat (1 + k) := ⟨_, rfl⟩
      have hv : IntKind.u8.wrap (1 + (k : Int)) = (x.toNat : Int) := by
        rw [hx, UInt8.toNat_ofNat']
        simp only [IntKind.wrap, IntKind.bits, IntKind.signed, Bool.false_and, Bool.false_eq_true, if_false]
        omega
      have HN : Hid (OwnY (wr.setCell ⟨g, k, none⟩ (ub x)) base g cp (ys.set k x) ∧ w.grownBy (wr.setCell ⟨g, k, none⟩ (ub x)) (some g)) := ⟨HY.out.1.set k x, HY.out.2.1.trans (grown_set wr g k (ub x))⟩
      clear hy hx
      go_wp2_with fail
      exact ⟨⟨k + 1, ys.set k x, by omega, by (first | rfl | (congr 1 <;> omega)), by go_num, by rw [List.length_set]; exact HY.out.2.2, HN.out.1, HN.out.2⟩, by simp [intOf]; omega⟩
    · have z : ¬ (k : Int) < (xs.length : Int) := by omega
      obtain rfl : k = xs.length := by omega
      go_wp2_with fail
      go_ret
      exact ⟨rfl, HY.out.2.1⟩
end Go.Proofs.Ytlgeffinhbodeac
