/-
  laws.toByteS, laws.eqByteS.
-/
import Derived.Test.YtlgeffinhbodeacQBysA
import Derived.OwnWalk
import Derived.Deep.DeepCutAuto
namespace Go.Proofs.Ytlgeffinhbodeac
open Go.ChangeShapes Go.WideShapes Go.ChangeAt Go.RowKit Go.Deep
set_option linter.unusedVariables false
set_option linter.unusedSimpArgs false
set_option maxRecDepth 100000

theorem OwnY.set {w : World} {base g cp : Nat} {xs : List UInt8} (h : OwnY w base g cp xs) (k : Nat) (x : UInt8) : OwnY (w.setCell ⟨g, k, none⟩ (ub x)) base g cp (xs.set k x) := by
  have := (World.ownsRow.stored h k (ub x)).1
  unfold OwnY
  rw [List.length_set, List.map_set]
  exact this
set_option maxHeartbeats 1000000 in
theorem eqByteS_same (b off cap b' off' cap' : Nat) (xs : List UInt8) (w : World) (h : BysAt w b off xs) (h' : BysAt w b' off' xs) (hb : b < w.heap.size) (hb' : b' < w.heap.size) (hlen : xs.length ≤ maxLen) :
    Calls Try.prog 25 #[.slice (some ⟨b, off, none⟩) xs.length cap, .slice (some ⟨b', off', none⟩) xs.length cap'] w fun e w' => e = .returned (.bool true) ∧ Below w.heap.size w w' := by
  have HE : Hid (BysAt w b off xs ∧ BysAt w b' off' xs) := ⟨h, h'⟩
  clear h h'
  unfold maxLen at hlen
  go_enter Try.func25, Try.ntmps25
  go_wp2_with fail
  go_loopw [5] (fun i wr => ∃ (k : Nat), k ≤ xs.length ∧ i = .int .i64 k ∧ Below w.heap.size w wr) (fun i _ => xs.length - (intOf i).toNat)
  case atStart => exact ⟨0, Nat.zero_le _, rfl, Below.refl _ _⟩
  case round =>
    obtain ⟨k, hk, rfl, hbr⟩ := hrel
    by_cases hlt : k < xs.length
    · obtain ⟨x, hx⟩ : ∃ x, xs[k]? = some x := ⟨_, List.getElem?_eq_getElem hlt⟩
      have c0 := (HE.out.1.below hbr hb) k x hx
      have c1 := (HE.out.2.below hbr hb') k x hx
      have z : (k : Int) < (xs.length : Int) := by omega
      clear hx
      go_upto_region 6 with fail
      go_cut [25] (fun s wx => s = .bool false ∧ Below w.heap.size w wx)
      case first =>
        go_region
        all_goals go_wp2_with fail
        all_goals go_meet
        all_goals exact ⟨by simp, hbr.drew⟩
      case rest =>
      obtain ⟨rfl, h3⟩ := hcut
      clear c0 c1
      go_wp2_with fail
      go_roundw
      case rel => exact ⟨k + 1, by omega, by go_num, h3⟩
      case measure => simp [intOf]; omega
    · have z : ¬ (k : Int) < (xs.length : Int) := by omega
      go_wp2_with fail
      go_ret
      exact ⟨rfl, hbr⟩

theorem made_zeroY (n : Nat) : (madeCells #[.int .u8 0] n).toList = (List.replicate n (0 : UInt8)).map ub := by
  apply List.ext_getElem?
  intro j
  by_cases hj : j < n
  · rw [List.getElem?_map, List.getElem?_replicate, if_pos hj]
    simp [madeCells, hj, Nat.mod_one]
  · rw [List.getElem?_map, List.getElem?_replicate, if_neg hj]
    simp [madeCells, hj]
end Go.Proofs.Ytlgeffinhbodeac
