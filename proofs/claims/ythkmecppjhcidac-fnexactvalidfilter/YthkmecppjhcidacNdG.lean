/-
  Single nodes: impl.validNode, spec.l5GoodNode.
-/
import Derived.Test.YthkmecppjhcidacNdR
import Derived.Test.YthkmecppjhcidacSpE
import Derived.Test.YthkmecppjhcidacPl
namespace Go.Proofs.Ythkmecppjhcidac
open Go.ChangeShapes Go.WideShapes Go.ChangeAt Go.RowKit Go.Deep
set_option linter.unusedVariables false
set_option linter.unusedSimpArgs false
set_option maxRecDepth 100000

abbrev less (a b : ByteArray) : Prop := Op.bytesLess a.toList b.toList = true
theorem ndEq_run (k : Int) (s : ByteArray) (h : Bool) (t : ByteArray) (l u n k' : Int) (s' : ByteArray) (h' : Bool) (t' : ByteArray) (l' u' n' : Int) (wx : World) :
    (binOp .eql 76 (.agg #[.int .i64 k, .string s, .bool h, .string t, .int .u64 l, .int .u64 u, .int .i64 n]) (.agg #[.int .i64 k', .string s', .bool h', .string t', .int .u64 l', .int .u64 u', .int .i64 n'])).run Try.prog wx = .ok (.bool (decide (k = k' ∧ s.toList = s'.toList ∧ h = h' ∧ t.toList = t'.toList ∧ l = l' ∧ u = u' ∧ n = n'))) wx := by
  go_simp
  repeat' split
  all_goals simp_all
set_option maxHeartbeats 1000000 in
theorem bareS_core (e : Nd) (w : World) : Calls Try.prog 66 #[e.v, .bool true, .bool false, .bool false, .bool false, .bool false] w fun r w' => ∃ b, r = .returned (.bool b) ∧ (b = true ↔ e.hi = false ∧ e.t.toList = [] ∧ e.lo = 0 ∧ e.up = 0 ∧ e.n = 0) ∧ Below w.heap.size w w' := by
  go_enter Try.func66, Try.ntmps66
  go_wp2_with fail
  all_goals go_ret
  all_goals exact ⟨_, rfl, by simp_all, (Below.refl _ _).alloc (Nat.le_refl _) _⟩
set_option maxHeartbeats 1000000 in
theorem bareST_core (e : Nd) (w : World) : Calls Try.prog 66 #[e.v, .bool true, .bool true, .bool true, .bool false, .bool false] w fun r w' => ∃ b, r = .returned (.bool b) ∧ (b = true ↔ e.lo = 0 ∧ e.up = 0 ∧ e.n = 0) ∧ Below w.heap.size w w' := by
  go_enter Try.func66, Try.ntmps66
  go_wp2_with fail
  all_goals go_ret
  all_goals exact ⟨_, rfl, by simp_all, (Below.refl _ _).alloc (Nat.le_refl _) _⟩
set_option maxHeartbeats 1000000 in
theorem bareN_core (e : Nd) (w : World) : Calls Try.prog 66 #[e.v, .bool false, .bool true, .bool false, .bool true, .bool false] w fun r w' => ∃ b, r = .returned (.bool b) ∧ (b = true ↔ e.s.toList = [] ∧ e.t.toList = [] ∧ e.n = 0) ∧ Below w.heap.size w w' := by
  go_enter Try.func66, Try.ntmps66
  go_wp2_with fail
  all_goals go_ret
  all_goals exact ⟨_, rfl, by simp_all, (Below.refl _ _).alloc (Nat.le_refl _) _⟩
set_option maxHeartbeats 1000000 in
theorem bareC_core (e : Nd) (w : World) : Calls Try.prog 66 #[e.v, .bool false, .bool false, .bool false, .bool false, .bool true] w fun r w' => ∃ b, r = .returned (.bool b) ∧ (b = true ↔ e.s.toList = [] ∧ e.hi = false ∧ e.t.toList = [] ∧ e.lo = 0 ∧ e.up = 0) ∧ Below w.heap.size w w' := by
  go_enter Try.func66, Try.ntmps66
  go_wp2_with fail
  all_goals go_ret
  all_goals exact ⟨_, rfl, by simp_all, (Below.refl _ _).alloc (Nat.le_refl _) _⟩
set_option maxHeartbeats 1000000 in
theorem bareZ_core (e : Nd) (w : World) : Calls Try.prog 66 #[e.v, .bool false, .bool false, .bool false, .bool false, .bool false] w fun r w' => ∃ b, r = .returned (.bool b) ∧ (b = true ↔ e.s.toList = [] ∧ e.hi = false ∧ e.t.toList = [] ∧ e.lo = 0 ∧ e.up = 0 ∧ e.n = 0) ∧ Below w.heap.size w w' := by
  go_enter Try.func66, Try.ntmps66
  go_wp2_with fail
  all_goals go_ret
  all_goals exact ⟨_, rfl, by simp_all, (Below.refl _ _).alloc (Nat.le_refl _) _⟩
set_option maxHeartbeats 1000000 in
theorem ends_core (e : Nd) (w : World) : Calls Try.prog 99 #[e.v] w fun r w' => ∃ b, r = .returned (.bool b) ∧ (b = true ↔ ((e.hi = false ∧ e.t.toList = [] ∧ e.up = 0) ∨ (e.hi = true ∧ (less e.s e.t ∨ e.lo < e.up)))) ∧ Below w.heap.size w w' := by
  go_enter Try.func99, Try.ntmps99
  go_wp2_with fail
  all_goals go_ret
  all_goals exact ⟨_, rfl, by simp_all [less], (Below.refl _ _).alloc (Nat.le_refl _) _⟩
/-- What makes a node valid. -/
def GoodN (e : Nd) : Prop := e.s.size ≤ 200 ∧ e.t.size ≤ 200 ∧ (e.hi = false → e.t.toList = [] ∧ e.up = 0) ∧
  (((e.kind = 4 ∨ e.kind = 5 ∨ e.kind = 6 ∨ e.kind = 7) ∧ (e.hi = false ∧ e.t.toList = [] ∧ e.lo = 0 ∧ e.up = 0 ∧ e.n = 0) ∧ (checkM (sb e.s)).1 = 0) ∨
   ((e.kind = 8 ∨ e.kind = 9) ∧ (e.lo = 0 ∧ e.up = 0 ∧ e.n = 0) ∧ (e.hi = true → less e.s e.t)) ∨
   (e.kind = 10 ∧ (e.s.toList = [] ∧ e.t.toList = [] ∧ e.n = 0) ∧ (e.hi = true → e.lo < e.up)) ∨
   ((e.kind = 11 ∨ e.kind = 12 ∨ e.kind = 13) ∧ (e.s.toList = [] ∧ e.hi = false ∧ e.t.toList = [] ∧ e.lo = 0 ∧ e.up = 0) ∧ 1 ≤ e.n ∧ e.n ≤ 1000) ∨
   ((e.kind = 1 ∨ e.kind = 2 ∨ e.kind = 3 ∨ e.kind = 14 ∨ e.kind = 15 ∨ e.kind = 16) ∧ (e.s.toList = [] ∧ e.hi = false ∧ e.t.toList = [] ∧ e.lo = 0 ∧ e.up = 0 ∧ e.n = 0)))
end Go.Proofs.Ythkmecppjhcidac
