/-
  The iterator of slices.Chunk over entries.
-/
import Derived.Test.YtlgeffinhbodeacQChM
import Derived.RangeFuncNested
import Derived.RangeFuncBound
import Derived.RangeFuncCalls
import Derived.RangeFuncLeaves
import Derived.Shelf.Abstract
import Derived.Shelf.RegionOpen
import Derived.WalkKit
import Derived.OwnWalkIn
import Derived.TacticsInMore
import Derived.LoopNIn
import Derived.LoopIn
namespace Go.Proofs.Ytlgeffinhbodeac
open Go.ChangeShapes Go.WideShapes Go.ChangeAt Go.RowKit Go.Deep Go.Shelf
set_option linter.unusedVariables false
set_option linter.unusedSimpArgs false
set_option maxRecDepth 100000
attribute [local go_sem] Oper.semAt_some

def chunkV (b off n p k : Nat) : Value := .slice (some ⟨b, off + k * p * 6, none⟩) (min p (n - k * p)) (min p (n - k * p))
/-- The two boxes of the iterator lie as they lay. -/
def Kc (Bs Bn : Nat) (W W' : World) : Prop := W'.cell? ⟨Bs, 0, none⟩ = W.cell? ⟨Bs, 0, none⟩ ∧ W'.cell? ⟨Bn, 0, none⟩ = W.cell? ⟨Bn, 0, none⟩
theorem Kc.refl (Bs Bn : Nat) (W : World) : Kc Bs Bn W W := ⟨rfl, rfl⟩
theorem Kc.trans {Bs Bn : Nat} {A B C : World} (h : Kc Bs Bn A B) (k : Kc Bs Bn B C) : Kc Bs Bn A C := ⟨k.1.trans h.1, k.2.trans h.2⟩
theorem Kc.drew (Bs Bn : Nat) (W : World) : Kc Bs Bn W W.drew := ⟨by simp, by simp⟩
set_option maxHeartbeats 4000000 in
/-- slices.Chunk's closure, for every loop body that keeps its two boxes. -/
theorem chunk_in (F : Fence) (m : Nat) (hF : F.fn 97) (hro : F.round = none) (hm : 1 ≤ m) (l Bs Bn b off n cap p : Nat) (hp1 : 1 ≤ p) (hp2 : p ≤ 1000) (hn : n ≤ 10000) (hcap : n ≤ cap)
    (J Jx : List (Ck n p) → World → Prop)
    (hY : ∀ pre x W, J pre W → pre.length < (n + p - 1) / p → YieldAt F (m - 1) Try.prog l #[chunkV b off n p x.1] W fun e W' =>
      (e = .returned (.bool true) ∧ J (pre ++ [x]) W' ∧ Kc Bs Bn W W') ∨ (e = .returned (.bool false) ∧ Jx (pre ++ [x]) W'))
    (hJd : ∀ pre W, J pre W → J pre W.drew) (W : World) (hBs : W.cell? ⟨Bs, 0, none⟩ = some (.slice (some ⟨b, off, none⟩) n cap)) (hBn : W.cell? ⟨Bn, 0, none⟩ = some (.int .i64 (p : Int))) (h0 : J [] W) :
    CallsIn F m Try.prog 97 #[.func (.yield l) #[] #[], .pointer (some ⟨Bs, 0, none⟩), .pointer (some ⟨Bn, 0, none⟩)] W fun e W' => (∃ v, e = .returned v) ∧
      ((∃ ys, (∃ k, n ≤ k * p ∧ ys = cks n p k) ∧ J ys W') ∨ (∃ pre, Jx pre W')) := by
  refine callsIn_of_wp Try.func97 rfl hF ?_ hro
  simp only [Try.ntmps97, List.size_toArray, List.length_cons, List.length_nil, Nat.reduceAdd, Nat.reduceSub, Array.replicate_succ, Array.replicate_zero, List.push_toArray, List.append_toArray, List.nil_append, List.cons_append]
  gi_wp2
  gi_loopw [4] (fun iv wr => ∃ k i : Nat, i = k * p ∧ i ≤ n + 1000 ∧ iv = .int .i64 (i : Int) ∧ J (cks n p k) wr ∧ Kc Bs Bn W wr)
    (fun iv _ => n - (intOf iv).toNat)
  case atStart => exact ⟨0, 0, by simp, by omega, rfl, h0, Kc.refl _ _ _⟩
  case round =>
    obtain ⟨k, i, hik, hin, rfl, hJs, hnx⟩ := hrel
    have c1 := hnx.1.trans hBs
    have c2 := hnx.2.trans hBn
    have HK : Hid (i = k * p) := hik
    by_cases hlt : i < n
    · have hkn : k * p < n := by omega
      obtain ⟨fn, tmps, assign, body, hy, hR⟩ := hY _ ⟨k, hkn⟩ wr.drew (hJd _ _ hJs) (by have h1 := cks_len n p k; have h2 : k + 1 ≤ (n + p - 1) / p := (Nat.le_div_iff_mul_le hp1).2 (by rw [Nat.add_mul]; omega); omega)
      simp only [chunkV] at hy
      rw [← hik] at hy
      have hsu := cks_succ hkn
      have HSu : Hid (cks n p (k + 1) = cks n p k ++ [⟨k, hkn⟩]) := hsu
      clear hik hsu
      have zi : (i : Int) < (n : Int) := by omega
      have z1 : (i : Int) ≤ (n : Int) := by omega
      have z2 : (n : Int) ≤ (cap : Int) := by omega
      have hci : ¬ cap = i := by omega
      obtain ⟨q, hq⟩ : ∃ q, q = min p (n - i) := ⟨_, rfl⟩
      have hq1 : 1 ≤ q := by omega
      have hq2 : i + q ≤ n := by omega
      have zq1 : min (p : Int) ((n - i : Nat) : Int) = (q : Int) := by omega
      have zq2 : min (p : Int) ((n : Int) - (i : Int)) = (q : Int) := by omega
      rw [← hq] at hy
      have HQ : Hid (q = min p (n - i)) := hq
      clear hq
      gi_wp2
      gi_region
      all_goals gi_wp2
      all_goals refine hR.mono ?_
      all_goals rintro e W3 (⟨rfl, hJ3, hk3⟩ | ⟨rfl, hJx3⟩)
      all_goals first
        | (have hK3 : Hid (J (cks n p (k + 1)) W3 ∧ Kc Bs Bn W W3) := ⟨(by rw [HSu.out]; exact hJ3), hnx.trans ((Kc.drew Bs Bn wr).trans hk3)⟩
           have c3 := hK3.out.2.2.trans hBn
           clear hJ3 hk3 hR hy
           gi_wp2
           go_roundw
           case rel => exact ⟨k + 1, i + p, by rw [Nat.add_mul, Nat.one_mul, HK.out], by omega, by go_num, hK3.out.1, hK3.out.2⟩
           case measure => simp [intOf]; omega)
        | (gi_wp2
           refine bodyPost_ret (results_none rfl _ _ _) rfl ?_
           exact ⟨⟨_, rfl⟩, .inr ⟨_, hJx3⟩⟩)
    · have zi : ¬ (i : Int) < (n : Int) := by omega
      gi_wp2
      go_end0
      exact ⟨⟨_, rfl⟩, .inl ⟨_, ⟨k, by have := HK.out; omega, rfl⟩, hJs⟩⟩
theorem grown_drewC (w : World) (row : Option Nat) : w.grownBy w.drew row := ⟨rfl, rfl, rfl, Nat.le_refl _, fun _ _ _ => rfl⟩
theorem chunk_stops (F : Fence) (m : Nat) (hF : F.fn 97) (hro : F.round = none) (hm : 1 ≤ m) (Bs Bn b off n cap p : Nat) (hp1 : 1 ≤ p) (hp2 : p ≤ 1000) (hn : n ≤ 10000) (hcap : n ≤ cap) (w : World) (hBs0 : Bs < w.heap.size) (hBn0 : Bn < w.heap.size)
    (hBs : w.cell? ⟨Bs, 0, none⟩ = some (.slice (some ⟨b, off, none⟩) n cap)) (hBn : w.cell? ⟨Bn, 0, none⟩ = some (.int .i64 (p : Int))) :
    SeqStopsK F m Try.prog 97 #[.pointer (some ⟨Bs, 0, none⟩), .pointer (some ⟨Bn, 0, none⟩)] (fun x : Ck n p => #[chunkV b off n p x.1]) (Kc Bs Bn) (fun ys => ∃ k, n ≤ k * p ∧ ys = cks n p k) (fun _ => True) ((n + p - 1) / p) w := fun l J Jx W hW hJ _ hY h0 => by
  refine (chunk_in F m hF hro hm l Bs Bn b off n cap p hp1 hp2 hn hcap J Jx hY (fun pre V hv => hJ pre V _ none hv (grown_drewC V none) (fun r e => by cases e)) W ((hW.cell (p := ⟨Bs, 0, none⟩) hBs0).trans hBs) ((hW.cell (p := ⟨Bn, 0, none⟩) hBn0).trans hBn) h0).mono ?_
  rintro e W' ⟨he, (⟨ys, hy, hj⟩ | ⟨pre, hj⟩)⟩
  · exact ⟨he, .inl ⟨ys, hy, hj⟩⟩
  · exact ⟨he, .inr ⟨pre, trivial, hj⟩⟩
set_option maxHeartbeats 1000000 in
theorem chunk_made (F : Fence) (m : Nat) (hF : F.fn 58) (hro : F.round = none) (a : Option Addr) (len cap p : Nat) (hp1 : 1 ≤ p) (hp2 : p ≤ 1000) (w : World) :
    CallsIn F m Try.prog 58 #[.slice a len cap, .int .i64 (p : Int)] w fun e w' => e = .returned (.func (.func 97) #[] #[.pointer (some ⟨w.heap.size, 0, none⟩), .pointer (some ⟨w.heap.size + 1, 0, none⟩)]) ∧ w' = (w.alloc (.cells #[.slice a len cap] 26)).alloc (.cells #[.int .i64 (p : Int)] 3) := by
  have zp : ¬ (p : Int) < 1 := by omega
  refine callsIn_of_wp Try.func58 rfl hF ?_ hro
  simp only [Try.ntmps58, List.size_toArray, List.length_cons, List.length_nil, Nat.reduceAdd, Nat.reduceSub, Array.replicate_succ, Array.replicate_zero, List.push_toArray, List.append_toArray, List.nil_append, List.cons_append]
  gi_wp2
  go_ret
  exact ⟨rfl, rfl⟩
end Go.Proofs.Ytlgeffinhbodeac
