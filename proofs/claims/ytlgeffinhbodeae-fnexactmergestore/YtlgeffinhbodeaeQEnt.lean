/-
  Entries by value: the contracts of szEntry, toEntry, spec.ValidEntry, impl.ValidEntry.
-/
import Derived.Test.YtlgeffinhbodeaeRows
import Derived.WalkKit
import Derived.ProofKit
import Derived.OpenShut
import Derived.ShutString
import Derived.ChangeOld
import Derived.Below
import Derived.WalkSpells
import Derived.WalkLawsBesides
import Derived.Outline
import Derived.Deep.Light
namespace Go.Proofs.Ytlgeffinhbodeae
open Go.ChangeShapes Go.WideShapes Go.ChangeAt Go.RowKit
open Go.ChangeMaps (open_string shut_string)

/-- An entry as Lean has it. -/
structure Ent where
  row : ByteArray
  fam : ByteArray
  qual : ByteArray
  ts : Int
  kind : Int
  val : ByteArray

abbrev Ent.v (e : Ent) : Value := .agg #[.string e.row, .string e.fam, .string e.qual, .int .u64 e.ts, .int .i64 e.kind, .string e.val]
/-- It fits its types. -/
structure Ent.ok (e : Ent) : Prop where
  row : e.row.size ≤ maxLen
  fam : e.fam.size ≤ maxLen
  qual : e.qual.size ≤ maxLen
  val : e.val.size ≤ maxLen
  ts : (Lit.int .u64 e.ts).wf = true
  kind : (Lit.int .i64 e.kind).wf = true

def Ent.bulk (e : Ent) : Int := e.row.size + e.fam.size + e.qual.size + e.val.size

set_option maxHeartbeats 400000 in
theorem szEntry_core (r f q v : ByteArray) (t k left : Int) (w : World) (hr : r.size ≤ maxLen) (hf : f.size ≤ maxLen) (hq : q.size ≤ maxLen) (hv : v.size ≤ maxLen) (h0 : 0 ≤ left) (h1 : left ≤ 2 ^ 40) :
    Calls Try.prog 201 #[.agg #[.string r, .string f, .string q, .int .u64 t, .int .i64 k, .string v], .int .i64 left] w fun e w' =>
      ∃ x, e = .returned (.int .i64 x) ∧ (x = -1 ∨ (0 ≤ x ∧ x + r.size + f.size + q.size + v.size = left)) ∧ Below w.heap.size w w' := by
  unfold maxLen at hr hf hq hv
  go_enter Try.func201, Try.ntmps201
  go_wp2
  · go_ret
    exact ⟨_, rfl, .inl rfl, (Below.refl _ _).alloc (Nat.le_refl _) _⟩
  · go_ret
    exact ⟨_, rfl, .inl rfl, (Below.refl _ _).alloc (Nat.le_refl _) _⟩
  · go_ret
    exact ⟨_, rfl, .inl rfl, (Below.refl _ _).alloc (Nat.le_refl _) _⟩
  · go_ret
    exact ⟨_, rfl, .inl rfl, (Below.refl _ _).alloc (Nat.le_refl _) _⟩
  · go_ret
    exact ⟨_, rfl, .inr ⟨by assumption, by omega⟩, (Below.refl _ _).alloc (Nat.le_refl _) _⟩

set_option maxHeartbeats 400000 in
theorem toEntry_core (r f q v : ByteArray) (t k : Int) (w : World) :
    Calls Try.prog 202 #[.agg #[.string r, .string f, .string q, .int .u64 t, .int .i64 k, .string v]] w fun e w' =>
      e = .returned (.agg #[.string r, .string f, .string q, .int .u64 t, .int .i64 k, .string v]) ∧ Below w.heap.size w w' := by
  go_enter Try.func202, Try.ntmps202
  go_wp2
  refine bodyPost_ret (v := .agg #[.string r, .string f, .string q, .int .u64 t, .int .i64 k, .string v]) (by simp [results, Try.results202, go_sem]) rfl ⟨rfl, ?_⟩
  exact (((Below.refl _ _).alloc (Nat.le_refl _) _).alloc (by simp) _).alloc (by simp; omega) _

theorem ret_bool {a b : Bool} (h : a = b) : Ending.returned (.bool a) = .returned (.bool b) := by rw [h]

theorem isE (v : ByteArray) : v.toList.isEmpty = decide (v.size = 0) := by
  rw [ByteArray.toList_eq, Bool.eq_iff_iff]
  simp [← ByteArray.size_data]

theorem orE (k : Int) (v : ByteArray) (h : ¬ k = 0) : (k == 0 || v.toList.isEmpty) = decide (v.size = 0) := by
  rw [isE]; simp [h]

def vE (r f q : ByteArray) (k : Int) (v : ByteArray) : Bool :=
  decide (1 ≤ r.size ∧ r.size ≤ 64 ∧ 1 ≤ f.size ∧ f.size ≤ 16 ∧ q.size ≤ 64 ∧ v.size ≤ 200 ∧ 0 ≤ k ∧ k ≤ 2 ∧ (k = 0 ∨ v.size = 0))

set_option maxHeartbeats 400000 in
theorem specValid_core (r f q v : ByteArray) (t k : Int) (w : World) (hr : r.size ≤ maxLen) (hf : f.size ≤ maxLen) (hq : q.size ≤ maxLen) (hv : v.size ≤ maxLen) :
    Calls Try.prog 46 #[.agg #[.string r, .string f, .string q, .int .u64 t, .int .i64 k, .string v]] w fun e w' =>
      e = .returned (.bool (vE r f q k v)) ∧ Below w.heap.size w w' := by
  unfold maxLen at hr hf hq hv
  go_enter Try.func46, Try.ntmps46
  go_wp2
  all_goals go_ret
  all_goals refine ⟨ret_bool ?_, (Below.refl _ _).alloc (Nat.le_refl _) _⟩
  all_goals unfold vE
  all_goals go_light
  all_goals first
    | (refine (decide_eq_true ?_).symm; omega)
    | (refine (decide_eq_false ?_).symm; omega)
    | (rw [orE _ _ ‹¬ k = 0›]; refine decide_eq_decide.2 ⟨fun h => ?_, fun h => ?_⟩ <;> omega)

set_option maxHeartbeats 400000 in
theorem implValid_core (r f q v : ByteArray) (t k : Int) (w : World) (hr : r.size ≤ maxLen) (hf : f.size ≤ maxLen) (hq : q.size ≤ maxLen) (hv : v.size ≤ maxLen) :
    Calls Try.prog 99 #[.agg #[.string r, .string f, .string q, .int .u64 t, .int .i64 k, .string v]] w fun e w' =>
      e = .returned (.bool (vE r f q k v)) ∧ Below w.heap.size w w' := by
  unfold maxLen at hr hf hq hv
  go_enter Try.func99, Try.ntmps99
  go_wp2
  all_goals go_ret
  all_goals refine ⟨ret_bool ?_, (Below.refl _ _).alloc (Nat.le_refl _) _⟩
  all_goals unfold vE
  all_goals go_light
  all_goals (try simp only [beq_iff_eq, beq_eq_false_iff_ne, ne_eq] at *)
  all_goals first
    | (refine (decide_eq_true ?_).symm; omega)
    | (refine (decide_eq_false ?_).symm; omega)
    | (rw [isE]; refine decide_eq_decide.2 ⟨fun h => ?_, fun h => ?_⟩ <;> omega)
end Go.Proofs.Ytlgeffinhbodeae
