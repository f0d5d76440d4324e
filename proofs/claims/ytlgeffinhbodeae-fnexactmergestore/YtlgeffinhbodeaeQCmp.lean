/-
  The order of keys: spec.CompareKeys and impl.CompareKeys come to one Lean function.
-/
import Derived.Test.YtlgeffinhbodeaeQOpen
import Derived.Lib.Bytealg
import Derived.Lib.Slices
import Derived.Lib.Walk
import Derived.Deep.QuietTactic
import Derived.BigQuiet
namespace Go.Proofs.Ytlgeffinhbodeae
open Go.ChangeShapes Go.WideShapes Go.ChangeAt Go.RowKit Go.Deep

/-- Two strings against each other. -/
def cB (a b : ByteArray) : Int := Lib.compareBytes a.data.toList b.data.toList

theorem compareBytes_less : ∀ a b : List UInt8, Op.bytesLess a b = true → Lib.compareBytes a b = -1
  | [], [] => by simp [Op.bytesLess]
  | [], _ :: _ => by simp [Lib.compareBytes]
  | _ :: _, [] => by simp [Op.bytesLess]
  | a :: x, b :: y => by
    intro h
    simp only [Op.bytesLess, Bool.or_eq_true, decide_eq_true_eq, Bool.and_eq_true, beq_iff_eq] at h
    unfold Lib.compareBytes
    rcases h with h | ⟨rfl, h⟩
    · rw [if_pos h]
    · have hn : ¬ a < a := by simp
      rw [if_neg hn, if_neg hn]; exact compareBytes_less x y h
theorem compareBytes_self : ∀ a : List UInt8, Lib.compareBytes a a = 0
  | [] => rfl
  | a :: x => by
    unfold Lib.compareBytes
    have hn : ¬ a < a := by simp
    rw [if_neg hn, if_neg hn]; exact compareBytes_self x
theorem compareBytes_more : ∀ a b : List UInt8, Op.bytesLess a b = false → (a == b) = false → Lib.compareBytes a b = 1
  | [], [] => by simp
  | [], _ :: _ => by simp [Op.bytesLess]
  | _ :: _, [] => by simp [Lib.compareBytes]
  | a :: x, b :: y => by
    intro h h2
    simp only [Op.bytesLess, Bool.or_eq_false_iff, decide_eq_false_iff_not] at h
    unfold Lib.compareBytes
    rw [if_neg h.1]
    by_cases hb : b < a
    · rw [if_pos hb]
    · rw [if_neg hb]
      have hab : a = b := by
        have h1 := h.1
        rw [UInt8.lt_iff_toNat_lt] at h1 hb
        exact UInt8.toNat_inj.1 (by omega)
      subst hab
      refine compareBytes_more x y ?_ ?_
      · simpa using h.2
      · simpa using h2
theorem compareBytes_vals (a b : List UInt8) : Lib.compareBytes a b = -1 ∨ Lib.compareBytes a b = 0 ∨ Lib.compareBytes a b = 1 := by
  cases h : Op.bytesLess a b
  · cases h2 : (a == b)
    · exact .inr (.inr (compareBytes_more a b h h2))
    · rw [beq_iff_eq] at h2; subst h2; exact .inr (.inl (compareBytes_self a))
  · exact .inl (compareBytes_less a b h)
theorem cB_vals (a b : ByteArray) : cB a b = -1 ∨ cB a b = 0 ∨ cB a b = 1 := compareBytes_vals _ _
theorem cB_less {a b : ByteArray} (h : Op.bytesLess a.toList b.toList = true) : cB a b = -1 := by
  rw [ByteArray.toList_eq, ByteArray.toList_eq] at h; exact compareBytes_less _ _ h
theorem cB_more {a b : ByteArray} (h : Op.bytesLess a.toList b.toList = false) (h2 : (a.toList == b.toList) = false) : cB a b = 1 := by
  rw [ByteArray.toList_eq, ByteArray.toList_eq] at h h2; exact compareBytes_more _ _ h h2
theorem cB_same {a b : ByteArray} (h2 : (a.toList == b.toList) = true) : cB a b = 0 := by
  rw [ByteArray.toList_eq, ByteArray.toList_eq, beq_iff_eq] at h2; unfold cB; rw [h2]; exact compareBytes_self _

def firstOf (a b : Int) : Int := if a = 0 then b else a
def kindCmp (k l : Int) : Int := if k = 2 then (if l = 2 then 0 else -1) else (if l = 2 then 1 else 0)
def tsCmp (t u : Int) : Int := if u < t then -1 else if t < u then 1 else 0
/-- The order of keys. -/
def keyCmp (a b : Ent) : Int := firstOf (cB a.row b.row) (firstOf (cB a.fam b.fam) (firstOf (cB a.qual b.qual) (firstOf (kindCmp a.kind b.kind) (tsCmp a.ts b.ts))))

theorem ret_int {k : IntKind} {a b : Int} (h : a = b) : Ending.returned (.int k a) = .returned (.int k b) := by rw [h]

set_option maxHeartbeats 400000 in
theorem l1Str_any (a b : ByteArray) (w : World) :
    Calls Try.prog 91 #[.string a, .string b] w fun e w' => e = .returned (.int .i64 (cB a b)) ∧ w' = w := by
  cases h : Op.bytesLess a.toList b.toList
  · cases h2 : (a.toList == b.toList)
    · have H : Hid (cB a b = 1) := cB_more h h2
      go_enter Try.func91, Try.ntmps91
      go_wp2
      go_ret
      exact ⟨ret_int H.out.symm, rfl⟩
    · have H : Hid (cB a b = 0) := cB_same h2
      go_enter Try.func91, Try.ntmps91
      go_wp2
      go_ret
      exact ⟨ret_int H.out.symm, rfl⟩
  · have H : Hid (cB a b = -1) := cB_less h
    go_enter Try.func91, Try.ntmps91
    go_wp2
    go_ret
    exact ⟨ret_int H.out.symm, rfl⟩

set_option maxHeartbeats 400000 in
theorem l1First_any (a b : Int) (w : World) :
    Calls Try.prog 90 #[.int .i64 a, .int .i64 b] w fun e w' => e = .returned (.int .i64 (firstOf a b)) ∧ w' = w := by
  unfold firstOf
  by_cases h : a = 0
  · have h' : (a != 0) = false := by simp [h]
    rw [if_pos h]
    clear h
    go_enter Try.func90, Try.ntmps90
    go_wp2
    go_ret
    exact ⟨rfl, rfl⟩
  · have h' : (a != 0) = true := by simp [h]
    rw [if_neg h]
    clear h
    go_enter Try.func90, Try.ntmps90
    go_wp2
    go_ret
    exact ⟨rfl, rfl⟩

set_option maxHeartbeats 1000000 in
set_option maxRecDepth 100000 in
theorem compareString_any (a b : ByteArray) (w : World) :
    Calls Try.prog 168 #[.string a, .string b] w fun e w' => e = .returned (.int .i64 (cB a b)) ∧ w' = w := by
  go_enter Try.func168, Try.ntmps168
  go_wp2
  rw [run_callFunc_extern Try.func182 (by kernel_rfl) (by kernel_rfl) (by kernel_rfl) (e := Extern.BytealgCompare.compare) (by kernel_rfl), Lib.run_compareString]
  simp only [Result.andThen]
  rw [Oper.upon_value]
  go_wp2
  go_ret
  exact ⟨rfl, rfl⟩

set_option maxHeartbeats 400000 in
theorem stringsCompare_any (a b : ByteArray) (w : World) :
    Calls Try.prog 143 #[.string a, .string b] w fun e w' => e = .returned (.int .i64 (cB a b)) ∧ w' = w := by
  go_enter Try.func143, Try.ntmps143
  go_wp2_with (go_at_call 168; refine (compareString_any _ _ _).mono ?_; rintro e w' ⟨rfl, rfl⟩)
  go_ret
  exact ⟨rfl, rfl⟩

set_option maxHeartbeats 400000 in
theorem cmpU64_any (a b : Int) (w : World) :
    Calls Try.prog 104 #[.int .u64 a, .int .u64 b] w fun e w' => e = .returned (.int .i64 (tsCmp b a)) ∧ w' = w := by
  unfold tsCmp
  by_cases h : a < b
  · rw [if_pos h]
    go_enter Try.func104, Try.ntmps104
    go_wp2
    go_ret
    exact ⟨rfl, rfl⟩
  · rw [if_neg h]
    by_cases h2 : b < a
    · rw [if_pos h2]
      go_enter Try.func104, Try.ntmps104
      go_wp2
      go_ret
      exact ⟨rfl, rfl⟩
    · rw [if_neg h2]
      go_enter Try.func104, Try.ntmps104
      go_wp2
      go_ret
      exact ⟨rfl, rfl⟩
end Go.Proofs.Ytlgeffinhbodeae
