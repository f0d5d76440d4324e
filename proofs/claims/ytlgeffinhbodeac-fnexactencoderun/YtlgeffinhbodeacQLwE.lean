/-
  The laws' marks of bytes, laid and looked for; how long a file of a run is.
-/
import Derived.Test.YtlgeffinhbodeacQLwF
import Derived.Test.YtlgeffinhbodeacPkB
namespace Go.Proofs.Ytlgeffinhbodeac
open Go.ChangeShapes Go.WideShapes Go.ChangeAt Go.RowKit Go.Deep
set_option linter.unusedVariables false
set_option maxRecDepth 100000

theorem encOf_len {es : List Ent} {per : Int} {xs : List UInt8} (h : EncOf es per xs) (hok : ∀ e ∈ es, e.ok) : xs.length ≤ 20000000 := by
  by_cases hg : GoodR es ∧ 1 ≤ per ∧ per ≤ 1000
  · have hx := h.1 hg
    have h1 : ∀ c ∈ chunks per.toNat es, OkB c := chunks_ok hg.1.1.2 hok
    have h2 : (chunks per.toNat es).flatten.length ≤ 10000 := by rw [chunks_flatten _ _ es (Nat.le_refl _)]; exact hg.1.1.1
    have h3 := blocks_many _ h1
    have h4 := fblocks_len _ h1
    have h5 := fones_len _ h1 h2
    have h6 := num_len64 (n := (chunks per.toNat es).length) (by omega)
    rw [hx]
    unfold fileM findex
    have h7 : headB.length = 4 := rfl
    have h8 : ∀ l, (sumOf l).length = 4 := sumOf_len
    have h9 : ∀ n, (fixed n).length = 4 := fun _ => rfl
    simp only [List.length_append, h7, h8, h9]
    omega
  · rw [h.2 hg]; simp

/-- The bytes from 'k' on are marks. -/
def MarkY (ys : List UInt8) (n : Nat) : Prop := ∀ i y, i < n → ys[i]? = some y → IntKind.u8.wrap (1 + (i : Int)) = (y.toNat : Int)

set_option maxHeartbeats 1000000 in
theorem markByteS_all (base g cp : Nat) (xs : List UInt8) (w : World) (h : OwnY w base g cp xs) (hn : xs.length ≤ 20000000) :
    Calls Try.prog 28 #[.slice (some ⟨g, 0, none⟩) xs.length cp, .int .i64 1] w fun e w' => e = .returned (.int .i64 (1 + xs.length)) ∧ w.grownBy w' (some g) ∧ ∃ ys, ys.length = xs.length ∧ OwnY w' base g cp ys ∧ MarkY ys ys.length := by
  have HO : Hid (OwnY w base g cp xs) := h
  clear h
  go_enter Try.func28, Try.ntmps28
  go_wp2_with fail
  go_loopw [1, 5] (fun c i wr => ∃ (k : Nat) (ys : List UInt8), k ≤ xs.length ∧ c = .int .i64 (1 + (k : Int)) ∧ i = .int .i64 k ∧ ys.length = xs.length ∧ OwnY wr base g cp ys ∧ w.grownBy wr (some g) ∧ MarkY ys k) (fun _ i _ => xs.length - (intOf i).toNat)
  case atStart => exact ⟨0, xs, Nat.zero_le _, rfl, rfl, rfl, HO.out, grown_of_below (Below.refl _ _) _, fun i y q => absurd q (Nat.not_lt_zero _)⟩
  case round =>
    obtain ⟨k, ys, hk, rfl, rfl, hyl, hY, hG, hMk⟩ := hrel
    have HY : Hid (OwnY wr base g cp ys ∧ w.grownBy wr (some g) ∧ ys.length = xs.length ∧ MarkY ys k) := ⟨hY, hG, hyl, hMk⟩
    clear hY hG hyl hMk
    by_cases hlt : k < xs.length
    · obtain ⟨y, hy⟩ : ∃ y, ys[k]? = some y := ⟨_, List.getElem?_eq_getElem (by rw [HY.out.2.2.1]; exact hlt)⟩
      have d0 := HY.out.1.at k y hy
      rw [Nat.zero_add] at d0
      have fz : wr.frozen? ⟨g, k, none⟩ = false := World.ownsRow.frozenAt HY.out.1 k
      have z : (k : Int) < (xs.length : Int) := by omega
      obtain ⟨x, hx⟩ : ∃ x : UInt8, x = UInt8.ofNat (1 + k) := ⟨_, rfl⟩
      have hv : IntKind.u8.wrap (1 + (k : Int)) = (x.toNat : Int) := by
        rw [hx, UInt8.toNat_ofNat']
        simp only [IntKind.wrap, IntKind.bits, IntKind.signed, Bool.false_and, Bool.false_eq_true, if_false]
        omega
      have HN : Hid (OwnY (wr.setCell ⟨g, k, none⟩ (ub x)) base g cp (ys.set k x) ∧ w.grownBy (wr.setCell ⟨g, k, none⟩ (ub x)) (some g) ∧ MarkY (ys.set k x) (k + 1)) := by
        refine ⟨HY.out.1.set k x, HY.out.2.1.trans (grown_set wr g k (ub x)), ?_⟩
        intro i y' hi hy'
        by_cases hik : i = k
        · subst hik
          rw [List.getElem?_set_self (by rw [HY.out.2.2.1]; exact hlt)] at hy'
          cases hy'
          exact hv
        · rw [List.getElem?_set_ne (fun q => hik q.symm)] at hy'
          exact HY.out.2.2.2 i y' (by omega) hy'
      clear hy hx
      go_wp2_with fail
      exact ⟨⟨k + 1, ys.set k x, by omega, by (first | rfl | (congr 1 <;> omega)), by go_num, by rw [List.length_set]; exact HY.out.2.2.1, HN.out.1, HN.out.2.1, HN.out.2.2⟩, by simp [intOf]; omega⟩
    · have z : ¬ (k : Int) < (xs.length : Int) := by omega
      obtain rfl : k = xs.length := by omega
      go_wp2_with fail
      go_ret
      exact ⟨rfl, HY.out.2.1, ys, HY.out.2.2.1, HY.out.1, by rw [HY.out.2.2.1]; exact HY.out.2.2.2⟩

set_option maxHeartbeats 1000000 in
theorem heldByteS_own (base g cp m : Nat) (ys : List UInt8) (w : World) (h : OwnY w base g cp ys) (hm : MarkY ys ys.length) (hl : ys.length = m) (hn : m ≤ 20000000) :
    Calls Try.prog 29 #[.slice (some ⟨g, 0, none⟩) m cp, .int .i64 1] w fun e w' => e = .returned (.int .i64 (1 + m)) ∧ Below w.heap.size w w' := by
  have HO : Hid (OwnY w base g cp ys ∧ MarkY ys ys.length ∧ ys.length = m) := ⟨h, hm, hl⟩
  clear h hm hl
  go_enter Try.func29, Try.ntmps29
  go_wp2_with fail
  go_loopw [1, 5] (fun c i wr => ∃ (k : Nat), k ≤ m ∧ c = .int .i64 (1 + (k : Int)) ∧ i = .int .i64 k ∧ Below w.heap.size w wr) (fun _ i _ => m - (intOf i).toNat)
  case atStart => exact ⟨0, Nat.zero_le _, rfl, rfl, Below.refl _ _⟩
  case round =>
    obtain ⟨k, hk, rfl, rfl, hB⟩ := hrel
    have HB : Hid (Below w.heap.size w wr) := hB
    by_cases hlt : k < m
    · obtain ⟨y, hy⟩ : ∃ y, ys[k]? = some y := ⟨_, List.getElem?_eq_getElem (by rw [HO.out.2.2]; exact hlt)⟩
      have d0 := (HO.out.1.below hB).at k y hy
      rw [Nat.zero_add] at d0
      have z : (k : Int) < (m : Int) := by omega
      have hv := HO.out.2.1 k y (by rw [HO.out.2.2]; exact hlt) hy
      clear hy hB
      go_wp2_with fail
      exact ⟨⟨k + 1, by omega, by (first | rfl | (congr 1 <;> omega)), by go_num, by have := HB.out; exact this⟩, by simp [intOf]; omega⟩
    · have z : ¬ (k : Int) < (m : Int) := by omega
      obtain rfl : k = m := by omega
      clear hB
      go_wp2_with fail
      go_ret
      exact ⟨rfl, HB.out⟩
end Go.Proofs.Ytlgeffinhbodeac
