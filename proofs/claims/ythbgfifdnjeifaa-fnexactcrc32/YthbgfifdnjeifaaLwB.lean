/-
  laws.toByteS, laws.eqByteS.
-/
import Derived.Test.YthbgfifdnjeifaaBysA
import Derived.OwnWalk
import Derived.Deep.DeepCutAuto
namespace Go.Proofs.Ythbgfifdnjeifaa
open Go.ChangeShapes Go.WideShapes Go.ChangeAt Go.RowKit Go.Deep
set_option linter.unusedVariables false
set_option linter.unusedSimpArgs false
set_option maxRecDepth 100000

theorem OwnY.set {w : World} {base g cp : Nat} {xs : List UInt8} (h : OwnY w base g cp xs) (k : Nat) (x : UInt8) : OwnY (w.setCell ⟨g, k, none⟩ (ub x)) base g cp (xs.set k x) := by
  have := (World.ownsRow.stored h k (ub x)).1
  unfold OwnY
  rw [List.length_set, List.map_set]
  exact this
set_option maxHeartbeats 1000000 in
theorem eqByteS_same (b off cap b' off' cap' : Nat) (xs : List UInt8) (w : World) (h : BysAt w b off xs) (h' : BysAt w b' off' xs) (hb : b < w.heap.size) (hb' : b' < w.heap.size) (hlen : xs.length ≤ maxLen) :
    Calls Try.prog 14 #[.slice (some ⟨b, off, none⟩) xs.length cap, .slice (some ⟨b', off', none⟩) xs.length cap'] w fun e w' => e = .returned (.bool true) ∧ Below w.heap.size w w' := by
  have HE : Hid (BysAt w b off xs ∧ BysAt w b' off' xs) := ⟨h, h'⟩
  clear h h'
  unfold maxLen at hlen
  go_enter Try.func14, Try.ntmps14
  go_wp2_with fail
  go_loopw [5] (fun i wr => ∃ (k : Nat), k ≤ xs.length ∧ i = .int .i64 k ∧ Below w.heap.size w wr) (fun i _ => xs.length - (intOf i).toNat)
  case atStart => exact ⟨0, Nat.zero_le _, rfl, Below.refl _ _⟩
  case round =>
    obtain ⟨k, hk, rfl, hbr⟩ := hrel
    by_cases hlt : k < xs.length
    · obtain ⟨x, hx⟩ : ∃ x, xs[k]? = some x := ⟨_, List.getElem?_eq_getElem hlt⟩
      have c0 := (HE.out.1.below hbr hb) k x hx
      have c1 := (HE.out.2.below hbr hb') k x hx
      have z : (k : Int) < (xs.length : Int) := by omega
      clear hx
      go_upto_region 6 with fail
      go_cut [25] (fun s wx => s = .bool false ∧ Below w.heap.size w wx)
      case first =>
        go_region
        all_goals go_wp2_with fail
        all_goals go_meet
        all_goals exact ⟨by simp, hbr.drew⟩
      case rest =>
      obtain ⟨rfl, h3⟩ := hcut
      clear c0 c1
      go_wp2_with fail
      go_roundw
      case rel => exact ⟨k + 1, by omega, by go_num, h3⟩
      case measure => simp [intOf]; omega
    · have z : ¬ (k : Int) < (xs.length : Int) := by omega
      go_wp2_with fail
      go_ret
      exact ⟨rfl, hbr⟩

theorem made_zeroY (n : Nat) : (madeCells #[.int .u8 0] n).toList = (List.replicate n (0 : UInt8)).map ub := by
  apply List.ext_getElem?
  intro j
  by_cases hj : j < n
  · rw [List.getElem?_map, List.getElem?_replicate, if_pos hj]
    simp [madeCells, hj, Nat.mod_one]
  · rw [List.getElem?_map, List.getElem?_replicate, if_neg hj]
    simp [madeCells, hj]
set_option maxHeartbeats 1000000 in
theorem toByteS_core (b off cap : Nat) (xs : List UInt8) (w : World) (h : BysAt w b off xs) (hb : b < w.heap.size) (h1 : xs.length ≤ 1048576) :
    Calls Try.prog 12 #[.slice (some ⟨b, off, none⟩) xs.length cap] w fun e w' =>
      ∃ g, e = .returned (.slice (some ⟨g, 0, none⟩) xs.length xs.length) ∧ OwnY w' w.heap.size g xs.length xs ∧ Below w.heap.size w w' := by
  have HE : Hid (BysAt w b off xs) := h
  clear h
  obtain ⟨i, hi, hz0, hz1, hz2⟩ := info_parts Try.infoByte
  have HI : Hid (Try.prog.info? 5 = some i ∧ i.zero = some (.int .u8 0) ∧ i.size = 1 ∧ i.bytes = 1) := ⟨hi, hz0, hz1, hz2⟩
  clear hi hz0 hz1 hz2
  go_enter Try.func12, Try.ntmps12
  go_wp2_with (at_make; refine wpList_make_full _ rfl _ _ 30 rfl w.heap.size 5 i _ 1 Try.underlying30 HI.out.1 HI.out.2.1 HI.out.2.2.1 _ _ _ _ xs.length rfl rfl ?_ ?_ ?hb ?hm ?hs ?_)
  case hb => rw [HI.out.2.2.2]; omega
  case hm => unfold maxLen; omega
  case hs => exact Nat.le_refl _
  · rfl
  · rfl
  intro w1 hown hgrow
  rw [made_zeroY] at hown
  have hown1 : OwnY w1 w.heap.size w.heap.size xs.length (List.replicate xs.length 0) := by
    unfold OwnY; rw [List.length_replicate]; exact hown
  have HW : Hid (OwnY w1 w.heap.size w.heap.size xs.length (List.replicate xs.length 0)) := hown1
  have hb1 : Below w.heap.size w w1 := (Below.refl _ _).grown hgrow (Nat.le_refl _) (fun k hk => by cases hk)
  clear hown hown1 hgrow
  go_wp2_with fail
  go_loopw [4] (fun i wr => ∃ (k : Nat) (ys : List UInt8), k ≤ xs.length ∧ i = .int .i64 k ∧ ys.length = xs.length ∧ ys.take k = xs.take k ∧ OwnY wr w.heap.size w.heap.size xs.length ys ∧ Below w.heap.size w wr) (fun i _ => xs.length - (intOf i).toNat)
  case atStart => exact ⟨0, _, Nat.zero_le _, rfl, List.length_replicate .., rfl, HW.out, hb1⟩
  case round =>
    obtain ⟨k, ys, hk, rfl, hfl, hft, hO, hbr⟩ := hrel
    have HO : Hid (ys.length = xs.length ∧ ys.take k = xs.take k ∧ OwnY wr w.heap.size w.heap.size xs.length ys) := ⟨hfl, hft, hO⟩
    clear hfl hft hO
    by_cases hlt : k < xs.length
    · obtain ⟨x, hx⟩ : ∃ x, xs[k]? = some x := ⟨_, List.getElem?_eq_getElem hlt⟩
      obtain ⟨y, hy⟩ : ∃ y, ys[k]? = some y := ⟨_, List.getElem?_eq_getElem (by rw [HO.out.1]; exact hlt)⟩
      have c0 := (HE.out.below hbr hb) k x hx
      have d0 := HO.out.2.2.at k y hy
      rw [Nat.zero_add] at d0
      have fz : wr.frozen? ⟨w.heap.size, k, none⟩ = false := World.ownsRow.frozenAt HO.out.2.2 k
      have z : (k : Int) < (xs.length : Int) := by omega
      have HN : Hid (OwnY (wr.setCell ⟨w.heap.size, k, none⟩ (ub x)) w.heap.size w.heap.size xs.length (ys.set k x) ∧ (ys.set k x).take (k + 1) = xs.take (k + 1)) := by
        refine ⟨HO.out.2.2.set k x, ?_⟩
        have hk2 : k < ys.length := by rw [HO.out.1]; exact hlt
        rw [List.take_add_one, List.take_add_one, List.take_set_of_le (Nat.le_refl _), HO.out.2.1, hx, List.getElem?_set_self hk2]
      have hbn : Below w.heap.size w (wr.setCell ⟨w.heap.size, k, none⟩ (ub x)) := hbr.setCell (p := ⟨w.heap.size, k, none⟩) (Nat.le_refl _) _
      clear hx hy
      go_wp2_with fail
      go_roundw
      case rel => exact ⟨k + 1, ys.set k x, by omega, by go_num, by rw [List.length_set]; exact HO.out.1, HN.out.2, HN.out.1, hbn⟩
      case measure => simp [intOf]; omega
    · have z : ¬ (k : Int) < (xs.length : Int) := by omega
      have HF : Hid (ys = xs) := by
        have h2 := HO.out.2.1
        have h3 := HO.out.1
        rw [List.take_of_length_le (by omega), List.take_of_length_le (by omega)] at h2
        exact h2
      go_wp2_with fail
      go_ret
      exact ⟨w.heap.size, rfl, by rw [← HF.out]; rw [HF.out]; have := HO.out.2.2; rw [HF.out] at this; exact this, hbr⟩
end Go.Proofs.Ythbgfifdnjeifaa
