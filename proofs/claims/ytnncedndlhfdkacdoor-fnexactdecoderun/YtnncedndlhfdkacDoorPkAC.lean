import Derived.Lib.Bytealg
import Derived.Lib.Slices
import Derived.Lib.Walk
import Derived.Deep.QuietTactic
import Derived.BigQuiet
import Derived.Deep.DeepCutAuto
import Derived.Deep.RegionWith
import Derived.Lib.SlBytesRow
import Derived.Test.YtnncedndlhfdkacDoorPkAA
import Derived.Test.YtnncedndlhfdkacDoorPkAB
/-
  The order of keys: spec.CompareKeys and impl.CompareKeys come to one Lean function.
-/
namespace Go.Proofs.YtnncedndlhfdkacDoor
open Go.ChangeShapes Go.WideShapes Go.ChangeAt Go.RowKit Go.Deep

/-- Two strings against each other. -/
def cB (a b : ByteArray) : Int := Lib.compareBytes a.data.toList b.data.toList

theorem compareBytes_less : ∀ a b : List UInt8, Op.bytesLess a b = true → Lib.compareBytes a b = -1
  | [], [] => by simp [Op.bytesLess]
  | [], _ :: _ => by simp [Lib.compareBytes]
  | _ :: _, [] => by simp [Op.bytesLess]
  | a :: x, b :: y => by
    intro h
    simp only [Op.bytesLess, Bool.or_eq_true, decide_eq_true_eq, Bool.and_eq_true, beq_iff_eq] at h
    unfold Lib.compareBytes
    rcases h with h | ⟨rfl, h⟩
    · rw [if_pos h]
    · have hn : ¬ a < a := by simp
      rw [if_neg hn, if_neg hn]; exact compareBytes_less x y h
theorem compareBytes_self : ∀ a : List UInt8, Lib.compareBytes a a = 0
  | [] => rfl
  | a :: x => by
    unfold Lib.compareBytes
    have hn : ¬ a < a := by simp
    rw [if_neg hn, if_neg hn]; exact compareBytes_self x
theorem compareBytes_more : ∀ a b : List UInt8, Op.bytesLess a b = false → (a == b) = false → Lib.compareBytes a b = 1
  | [], [] => by simp
  | [], _ :: _ => by simp [Op.bytesLess]
  | _ :: _, [] => by simp [Lib.compareBytes]
  | a :: x, b :: y => by
    intro h h2
    simp only [Op.bytesLess, Bool.or_eq_false_iff, decide_eq_false_iff_not] at h
    unfold Lib.compareBytes
    rw [if_neg h.1]
    by_cases hb : b < a
    · rw [if_pos hb]
    · rw [if_neg hb]
      have hab : a = b := by
        have h1 := h.1
        rw [UInt8.lt_iff_toNat_lt] at h1 hb
        exact UInt8.toNat_inj.1 (by omega)
      subst hab
      refine compareBytes_more x y ?_ ?_
      · simpa using h.2
      · simpa using h2
theorem compareBytes_vals (a b : List UInt8) : Lib.compareBytes a b = -1 ∨ Lib.compareBytes a b = 0 ∨ Lib.compareBytes a b = 1 := by
  cases h : Op.bytesLess a b
  · cases h2 : (a == b)
    · exact .inr (.inr (compareBytes_more a b h h2))
    · rw [beq_iff_eq] at h2; subst h2; exact .inr (.inl (compareBytes_self a))
  · exact .inl (compareBytes_less a b h)
theorem cB_vals (a b : ByteArray) : cB a b = -1 ∨ cB a b = 0 ∨ cB a b = 1 := compareBytes_vals _ _
theorem cB_less {a b : ByteArray} (h : Op.bytesLess a.toList b.toList = true) : cB a b = -1 := by
  rw [ByteArray.toList_eq, ByteArray.toList_eq] at h; exact compareBytes_less _ _ h
theorem cB_more {a b : ByteArray} (h : Op.bytesLess a.toList b.toList = false) (h2 : (a.toList == b.toList) = false) : cB a b = 1 := by
  rw [ByteArray.toList_eq, ByteArray.toList_eq] at h h2; exact compareBytes_more _ _ h h2
theorem cB_same {a b : ByteArray} (h2 : (a.toList == b.toList) = true) : cB a b = 0 := by
  rw [ByteArray.toList_eq, ByteArray.toList_eq, beq_iff_eq] at h2; unfold cB; rw [h2]; exact compareBytes_self _

def firstOf (a b : Int) : Int := if a = 0 then b else a
def kindCmp (k l : Int) : Int := if k = 2 then (if l = 2 then 0 else -1) else (if l = 2 then 1 else 0)
def tsCmp (t u : Int) : Int := if u < t then -1 else if t < u then 1 else 0
/-- The order of keys. -/
def keyCmp (a b : Ent) : Int := firstOf (cB a.row b.row) (firstOf (cB a.fam b.fam) (firstOf (cB a.qual b.qual) (firstOf (kindCmp a.kind b.kind) (tsCmp a.ts b.ts))))

theorem ret_int {k : IntKind} {a b : Int} (h : a = b) : Ending.returned (.int k a) = .returned (.int k b) := by rw [h]

set_option maxHeartbeats 400000 in
theorem l1Str_any (a b : ByteArray) (w : World) :
    Calls Tryd.prog 45 #[.string a, .string b] w fun e w' => e = .returned (.int .i64 (cB a b)) ∧ w' = w := by
  cases h : Op.bytesLess a.toList b.toList
  · cases h2 : (a.toList == b.toList)
    · have H : Hid (cB a b = 1) := cB_more h h2
      go_enter Tryd.func45, Tryd.ntmps45
      go_wp2
      go_ret
      exact ⟨ret_int H.out.symm, rfl⟩
    · have H : Hid (cB a b = 0) := cB_same h2
      go_enter Tryd.func45, Tryd.ntmps45
      go_wp2
      go_ret
      exact ⟨ret_int H.out.symm, rfl⟩
  · have H : Hid (cB a b = -1) := cB_less h
    go_enter Tryd.func45, Tryd.ntmps45
    go_wp2
    go_ret
    exact ⟨ret_int H.out.symm, rfl⟩

set_option maxHeartbeats 400000 in
theorem l1First_any (a b : Int) (w : World) :
    Calls Tryd.prog 44 #[.int .i64 a, .int .i64 b] w fun e w' => e = .returned (.int .i64 (firstOf a b)) ∧ w' = w := by
  unfold firstOf
  by_cases h : a = 0
  · have h' : (a != 0) = false := by simp [h]
    rw [if_pos h]
    clear h
    go_enter Tryd.func44, Tryd.ntmps44
    go_wp2
    go_ret
    exact ⟨rfl, rfl⟩
  · have h' : (a != 0) = true := by simp [h]
    rw [if_neg h]
    clear h
    go_enter Tryd.func44, Tryd.ntmps44
    go_wp2
    go_ret
    exact ⟨rfl, rfl⟩

set_option maxHeartbeats 1000000 in
set_option maxRecDepth 100000 in
theorem compareString_any (a b : ByteArray) (w : World) :
    Calls Tryd.prog 67 #[.string a, .string b] w fun e w' => e = .returned (.int .i64 (cB a b)) ∧ w' = w := by
  go_enter Tryd.func67, Tryd.ntmps67
  go_wp2
  rw [run_callFunc_extern Tryd.func68 (by kernel_rfl) (by kernel_rfl) (by kernel_rfl) (e := Extern.BytealgCompare.compare) (by kernel_rfl), Lib.run_compareString]
  simp only [Result.andThen]
  rw [Oper.upon_value]
  go_wp2
  go_ret
  exact ⟨rfl, rfl⟩

set_option maxHeartbeats 400000 in
theorem stringsCompare_any (a b : ByteArray) (w : World) :
    Calls Tryd.prog 65 #[.string a, .string b] w fun e w' => e = .returned (.int .i64 (cB a b)) ∧ w' = w := by
  go_enter Tryd.func65, Tryd.ntmps65
  go_wp2_with (go_at_call 67; refine (compareString_any _ _ _).mono ?_; rintro e w' ⟨rfl, rfl⟩)
  go_ret
  exact ⟨rfl, rfl⟩

set_option maxHeartbeats 400000 in
theorem cmpU64_any (a b : Int) (w : World) :
    Calls Tryd.prog 64 #[.int .u64 a, .int .u64 b] w fun e w' => e = .returned (.int .i64 (tsCmp b a)) ∧ w' = w := by
  unfold tsCmp
  by_cases h : a < b
  · rw [if_pos h]
    go_enter Tryd.func64, Tryd.ntmps64
    go_wp2
    go_ret
    exact ⟨rfl, rfl⟩
  · rw [if_neg h]
    by_cases h2 : b < a
    · rw [if_pos h2]
      go_enter Tryd.func64, Tryd.ntmps64
      go_wp2
      go_ret
      exact ⟨rfl, rfl⟩
    · rw [if_neg h2]
      go_enter Tryd.func64, Tryd.ntmps64
      go_wp2
      go_ret
      exact ⟨rfl, rfl⟩
end Go.Proofs.YtnncedndlhfdkacDoor

/-
  The order of keys: spec.CompareKeys and impl.CompareKeys come to 'keyCmp'.
-/
namespace Go.Proofs.YtnncedndlhfdkacDoor
open Go.ChangeShapes Go.WideShapes Go.ChangeAt Go.RowKit Go.Deep

def tri (x : Int) : Prop := x = -1 ∨ x = 0 ∨ x = 1
theorem tri_first {a b : Int} (h : tri a) (k : tri b) : tri (firstOf a b) := by
  unfold firstOf; split
  · exact k
  · exact h
theorem tri_kind (k l : Int) : tri (kindCmp k l) := by
  unfold kindCmp tri; repeat' split
  all_goals omega
theorem tri_ts (k l : Int) : tri (tsCmp k l) := by
  unfold tsCmp tri; repeat' split
  all_goals omega
theorem keyCmp_vals (a b : Ent) : keyCmp a b = -1 ∨ keyCmp a b = 0 ∨ keyCmp a b = 1 :=
  tri_first (cB_vals _ _) (tri_first (cB_vals _ _) (tri_first (cB_vals _ _) (tri_first (tri_kind _ _) (tri_ts _ _))))

def colCmp (a b : Ent) : Int := firstOf (cB a.row b.row) (firstOf (cB a.fam b.fam) (cB a.qual b.qual))

set_option maxHeartbeats 400000 in
theorem compareColumns_any (a b : Ent) (w : World) :
    Calls Tryd.prog 63 #[a.v, b.v] w fun e w' => e = .returned (.int .i64 (colCmp a b)) ∧ Below w.heap.size w w' := by
  unfold colCmp firstOf Ent.v
  by_cases h1 : cB a.row b.row = 0
  · have g1 : (cB a.row b.row != 0) = false := by simp [h1]
    rw [if_pos h1]
    clear h1
    by_cases h2 : cB a.fam b.fam = 0
    · have g2 : (cB a.fam b.fam != 0) = false := by simp [h2]
      rw [if_pos h2]
      clear h2
      go_enter Tryd.func63, Tryd.ntmps63
      go_wp2_with (go_at_call 65; refine (stringsCompare_any _ _ _).mono ?_; rintro e w' ⟨rfl, rfl⟩)
      go_ret
      exact ⟨rfl, ((Below.refl _ _).alloc (Nat.le_refl _) _).alloc (by simp) _⟩
    · have g2 : (cB a.fam b.fam != 0) = true := by simp [h2]
      rw [if_neg h2]
      clear h2
      go_enter Tryd.func63, Tryd.ntmps63
      go_wp2_with (go_at_call 65; refine (stringsCompare_any _ _ _).mono ?_; rintro e w' ⟨rfl, rfl⟩)
      go_ret
      exact ⟨rfl, ((Below.refl _ _).alloc (Nat.le_refl _) _).alloc (by simp) _⟩
  · have g1 : (cB a.row b.row != 0) = true := by simp [h1]
    rw [if_neg h1]
    clear h1
    go_enter Tryd.func63, Tryd.ntmps63
    go_wp2_with (go_at_call 65; refine (stringsCompare_any _ _ _).mono ?_; rintro e w' ⟨rfl, rfl⟩)
    go_ret
    exact ⟨rfl, ((Below.refl _ _).alloc (Nat.le_refl _) _).alloc (by simp) _⟩

theorem firstOf_assoc (a b c : Int) : firstOf (firstOf a b) c = firstOf a (firstOf b c) := by
  unfold firstOf
  by_cases h : a = 0
  · simp [h]
  · simp [h]
theorem keyCmp_col (a b : Ent) : keyCmp a b = firstOf (colCmp a b) (firstOf (kindCmp a.kind b.kind) (tsCmp a.ts b.ts)) := by
  unfold keyCmp colCmp
  rw [firstOf_assoc, firstOf_assoc]
theorem keyCmp_ne {a b : Ent} (h : ¬ colCmp a b = 0) : keyCmp a b = colCmp a b := by
  rw [keyCmp_col]; unfold firstOf; rw [if_neg h]
theorem keyCmp_del1 {a b : Ent} (h : colCmp a b = 0) (h1 : a.kind = 2) (h2 : ¬ b.kind = 2) : keyCmp a b = -1 := by
  rw [keyCmp_col]; unfold firstOf kindCmp; simp [h, h1, h2]
theorem keyCmp_del2 {a b : Ent} (h : colCmp a b = 0) (h1 : ¬ a.kind = 2) (h2 : b.kind = 2) : keyCmp a b = 1 := by
  rw [keyCmp_col]; unfold firstOf kindCmp; simp [h, h1, h2]
theorem keyCmp_ts {a b : Ent} (h : colCmp a b = 0) (h1 : (a.kind = 2) ↔ (b.kind = 2)) : keyCmp a b = tsCmp a.ts b.ts := by
  rw [keyCmp_col]; unfold firstOf kindCmp
  by_cases h2 : a.kind = 2
  · simp [h, h2, h1.1 h2]
  · have h3 : ¬ b.kind = 2 := fun x => h2 (h1.2 x)
    simp [h, h2, h3]

set_option maxHeartbeats 400000 in
theorem compare_any (a b : Ent) (w : World) :
    Calls Tryd.prog 56 #[a.v, b.v] w fun e w' => e = .returned (.int .i64 (keyCmp a b)) ∧ Below w.heap.size w w' := by
  by_cases h1 : colCmp a b = 0
  · have g1 : (colCmp a b != 0) = false := by simp [h1]
    by_cases ha : a.kind = 2
    · have ga : (a.kind == 2) = true := by simp [ha]
      by_cases hb : b.kind = 2
      · have gb : (b.kind == 2) = true := by simp [hb]
        have H : Hid (keyCmp a b = tsCmp a.ts b.ts) := keyCmp_ts h1 (by simp [ha, hb])
        clear h1 ha hb
        go_enter Tryd.func56, Tryd.ntmps56
        go_wp2_with fail
        refine (compareColumns_any a b _).mono ?_
        rintro e w1 ⟨rfl, hb1⟩
        obtain ⟨hc1, hf1⟩ := bcell hb1
        have hz1 : w.heap.size + 1 < w1.heap.size := by have := hb1.size; simp at this; omega
        go_wp2_with fail
        refine (cmpU64_any _ _ _).mono ?_
        rintro e w2 ⟨rfl, rfl⟩
        go_wp2_with fail
        go_ret
        exact ⟨ret_int H.out.symm, (((Below.refl _ _).alloc (Nat.le_refl _) _).alloc (by simp) _).trans (hb1.mono (by simp; omega))⟩
      · have gb : (b.kind == 2) = false := by simp [hb]
        have H : Hid (keyCmp a b = -1) := keyCmp_del1 h1 ha hb
        clear h1 ha hb
        go_enter Tryd.func56, Tryd.ntmps56
        go_wp2_with fail
        refine (compareColumns_any a b _).mono ?_
        rintro e w1 ⟨rfl, hb1⟩
        obtain ⟨hc1, hf1⟩ := bcell hb1
        have hz1 : w.heap.size + 1 < w1.heap.size := by have := hb1.size; simp at this; omega
        go_wp2_with fail
        go_ret
        exact ⟨ret_int H.out.symm, (((Below.refl _ _).alloc (Nat.le_refl _) _).alloc (by simp) _).trans (hb1.mono (by simp; omega))⟩
    · have ga : (a.kind == 2) = false := by simp [ha]
      by_cases hb : b.kind = 2
      · have gb : (b.kind == 2) = true := by simp [hb]
        have H : Hid (keyCmp a b = 1) := keyCmp_del2 h1 ha hb
        clear h1 ha hb
        go_enter Tryd.func56, Tryd.ntmps56
        go_wp2_with fail
        refine (compareColumns_any a b _).mono ?_
        rintro e w1 ⟨rfl, hb1⟩
        obtain ⟨hc1, hf1⟩ := bcell hb1
        have hz1 : w.heap.size + 1 < w1.heap.size := by have := hb1.size; simp at this; omega
        go_wp2_with fail
        go_ret
        exact ⟨ret_int H.out.symm, (((Below.refl _ _).alloc (Nat.le_refl _) _).alloc (by simp) _).trans (hb1.mono (by simp; omega))⟩
      · have gb : (b.kind == 2) = false := by simp [hb]
        have H : Hid (keyCmp a b = tsCmp a.ts b.ts) := keyCmp_ts h1 (by simp [ha, hb])
        clear h1 ha hb
        go_enter Tryd.func56, Tryd.ntmps56
        go_wp2_with fail
        refine (compareColumns_any a b _).mono ?_
        rintro e w1 ⟨rfl, hb1⟩
        obtain ⟨hc1, hf1⟩ := bcell hb1
        have hz1 : w.heap.size + 1 < w1.heap.size := by have := hb1.size; simp at this; omega
        go_wp2_with fail
        refine (cmpU64_any _ _ _).mono ?_
        rintro e w2 ⟨rfl, rfl⟩
        go_wp2_with fail
        go_ret
        exact ⟨ret_int H.out.symm, (((Below.refl _ _).alloc (Nat.le_refl _) _).alloc (by simp) _).trans (hb1.mono (by simp; omega))⟩
  · have g1 : (colCmp a b != 0) = true := by simp [h1]
    have H : Hid (keyCmp a b = colCmp a b) := keyCmp_ne h1
    clear h1
    go_enter Tryd.func56, Tryd.ntmps56
    go_wp2_with fail
    refine (compareColumns_any a b _).mono ?_
    rintro e w1 ⟨rfl, hb1⟩
    go_wp2_with fail
    go_ret
    exact ⟨ret_int H.out.symm, (((Below.refl _ _).alloc (Nat.le_refl _) _).alloc (by simp) _).trans (hb1.mono (by simp; omega))⟩

def kt (a b : Ent) (K T : Int) : Prop := keyCmp a b = firstOf (cB a.row b.row) (firstOf (cB a.fam b.fam) (firstOf (cB a.qual b.qual) (firstOf K T)))
theorem kt_of {a b : Ent} {K T : Int} (hk : kindCmp a.kind b.kind = K) (ht : tsCmp a.ts b.ts = T) : kt a b K T := by
  unfold kt keyCmp; rw [hk, ht]
theorem kinds (a b : Ent) :
    ((a.kind == 2) = true ∧ (a.kind != 2) = false ∧ (b.kind == 2) = true ∧ (b.kind != 2) = false ∧ kindCmp a.kind b.kind = 0) ∨
    ((a.kind == 2) = true ∧ (a.kind != 2) = false ∧ (b.kind == 2) = false ∧ (b.kind != 2) = true ∧ kindCmp a.kind b.kind = -1) ∨
    ((a.kind == 2) = false ∧ (a.kind != 2) = true ∧ (b.kind == 2) = true ∧ (b.kind != 2) = false ∧ kindCmp a.kind b.kind = 1) ∨
    ((a.kind == 2) = false ∧ (a.kind != 2) = true ∧ (b.kind == 2) = false ∧ (b.kind != 2) = true ∧ kindCmp a.kind b.kind = 0) := by
  unfold kindCmp
  by_cases ha : a.kind = 2 <;> by_cases hb : b.kind = 2 <;> simp [ha, hb]
theorem tss (a b : Ent) :
    (b.ts < a.ts ∧ ¬ a.ts < b.ts ∧ tsCmp a.ts b.ts = -1) ∨ (¬ b.ts < a.ts ∧ a.ts < b.ts ∧ tsCmp a.ts b.ts = 1) ∨ (¬ b.ts < a.ts ∧ ¬ a.ts < b.ts ∧ tsCmp a.ts b.ts = 0) := by
  unfold tsCmp
  by_cases h1 : b.ts < a.ts
  · exact .inl ⟨h1, by omega, by simp [h1]⟩
  · by_cases h2 : a.ts < b.ts
    · exact .inr (.inl ⟨h1, h2, by simp [h1, h2]⟩)
    · exact .inr (.inr ⟨h1, h2, by simp [h1, h2]⟩)

set_option maxHeartbeats 4000000 in
theorem specCompareKeys_any (a b : Ent) (w : World) :
    Calls Tryd.prog 30 #[a.v, b.v] w fun e w' => e = .returned (.int .i64 (keyCmp a b)) ∧ Below w.heap.size w w' := by
  unfold Ent.v
  rcases kinds a b with ⟨ga, ga', gb, gb', hk⟩ | ⟨ga, ga', gb, gb', hk⟩ | ⟨ga, ga', gb, gb', hk⟩ | ⟨ga, ga', gb, gb', hk⟩
  all_goals rcases tss a b with ⟨h1, h2, ht⟩ | ⟨h1, h2, ht⟩ | ⟨h1, h2, ht⟩
  all_goals
    have H := kt_of hk ht
    clear hk ht
    go_enter Tryd.func30, Tryd.ntmps30
    go_wp2
    go_quiet ((first | (go_at_call 45; exact Calls.quiet_of_same (l1Str_any _ _ _)) | (go_at_call 44; exact Calls.quiet_of_same (l1First_any _ _ _))))
    go_wp2
    go_ret
    exact ⟨ret_int H.symm, below_drewN (((Below.refl _ _).alloc (Nat.le_refl _) _).alloc (by simp) _) _⟩
end Go.Proofs.YtnncedndlhfdkacDoor

/-
  Runs that are valid: spec.ValidRun and impl.ValidRun.
-/
namespace Go.Proofs.YtnncedndlhfdkacDoor
open Go.ChangeShapes Go.WideShapes Go.ChangeAt Go.RowKit Go.Deep
set_option linter.unusedVariables false

def Ent.vld (e : Ent) : Bool := vE e.row e.fam e.qual e.kind e.val
/-- One column? -/
def sameCol (a b : Ent) : Bool := (a.row.toList == b.row.toList) && ((a.fam.toList == b.fam.toList) && (a.qual.toList == b.qual.toList))

set_option maxHeartbeats 400000 in
theorem sameColumn_any (a b : Ent) (w : World) :
    Calls Tryd.prog 31 #[a.v, b.v] w fun e w' => e = .returned (.bool (sameCol a b)) ∧ Below w.heap.size w w' := by
  unfold sameCol Ent.v
  cases h1 : (a.row.toList == b.row.toList)
  · go_enter Tryd.func31, Tryd.ntmps31
    go_wp2
    go_ret
    exact ⟨by simp, ((Below.refl _ _).alloc (Nat.le_refl _) _).alloc (by simp) _⟩
  · cases h2 : (a.fam.toList == b.fam.toList)
    · go_enter Tryd.func31, Tryd.ntmps31
      go_wp2
      go_ret
      exact ⟨by simp, ((Below.refl _ _).alloc (Nat.le_refl _) _).alloc (by simp) _⟩
    · go_enter Tryd.func31, Tryd.ntmps31
      go_wp2
      go_ret
      exact ⟨by simp, ((Below.refl _ _).alloc (Nat.le_refl _) _).alloc (by simp) _⟩

set_option maxHeartbeats 400000 in
theorem column_any (a : Ent) (w : World) :
    Calls Tryd.prog 55 #[a.v] w fun e w' => e = .returned (.agg #[.string a.row, .string a.fam, .string a.qual]) ∧ Below w.heap.size w w' := by
  unfold Ent.v
  go_enter Tryd.func55, Tryd.ntmps55
  go_wp2
  refine bodyPost_ret (v := .agg #[.string a.row, .string a.fam, .string a.qual]) (by simp [results, Tryd.results55, go_sem]) rfl ⟨rfl, ?_⟩
  exact ((Below.refl _ _).alloc (Nat.le_refl _) _).alloc (by simp) _

theorem colEq_run (a b : Ent) (wx : World) : (binOp .eql 110 (.agg #[.string a.row, .string a.fam, .string a.qual]) (.agg #[.string b.row, .string b.fam, .string b.qual])).run Tryd.prog wx = .ok (.bool (sameCol a b)) wx := by
  unfold sameCol
  cases h1 : (a.row.toList == b.row.toList)
  · go_simp
  · cases h2 : (a.fam.toList == b.fam.toList)
    · go_simp
    · cases h3 : (a.qual.toList == b.qual.toList)
      · go_simp
      · go_simp

theorem lift_in {P : Program} {f : Nat} {args : Array Value} {w : World} {v : Value} (W0 : World) (h : Below W0.heap.size W0 w) (c : Calls P f args w fun e w' => e = .returned v ∧ Below w.heap.size w w') :
    Calls P f args w fun e w' => e = .returned v ∧ Below W0.heap.size W0 w' ∧ (∀ b o, b < W0.heap.size → w'.cell? ⟨b, o, none⟩ = W0.cell? ⟨b, o, none⟩) := by
  refine c.mono ?_
  rintro e w' ⟨he, hb⟩
  have k := h.trans (hb.mono h.size)
  exact ⟨he, k, fun b o hlt => k.cell (p := ⟨b, o, none⟩) hlt⟩

/-- May 'p' stand right before 'e' in a run? -/
def okPair (p e : Ent) : Bool := (keyCmp p e == -1) && !((p.kind == 2) && ((e.kind == 2) && sameCol p e))

set_option maxHeartbeats 1000000 in
theorem mayPrecede_any (a b : Ent) (w : World) :
    Calls Tryd.prog 40 #[a.v, b.v] w fun e w' => e = .returned (.bool (okPair a b)) ∧ Below w.heap.size w w' := by
  unfold Ent.v
  cases ga : (a.kind == 2)
  · have H : Hid (okPair a b = decide (keyCmp a b < 0)) := by
      show okPair a b = _
      unfold okPair; rw [ga]
      rcases keyCmp_vals a b with h | h | h <;> rw [h] <;> rfl
    go_enter Tryd.func40, Tryd.ntmps40
    go_wp2_with fail
    go_quiet (fail)
    go_wp2_with fail
    refine (compare_any a b _).mono ?_
    rintro e w1 ⟨rfl, hb1⟩
    go_wp2_with fail
    go_ret
    exact ⟨ret_bool H.out.symm, (below_drewN (((Below.refl _ _).alloc (Nat.le_refl _) _).alloc (by simp) _) _).trans (hb1.mono (by simp; omega))⟩
  · cases gb : (b.kind == 2)
    · have H : Hid (okPair a b = decide (keyCmp a b < 0)) := by
        show okPair a b = _
        unfold okPair; rw [ga, gb]
        rcases keyCmp_vals a b with h | h | h <;> rw [h] <;> rfl
      go_enter Tryd.func40, Tryd.ntmps40
      go_wp2_with fail
      go_quiet (fail)
      go_wp2_with fail
      refine (compare_any a b _).mono ?_
      rintro e w1 ⟨rfl, hb1⟩
      go_wp2_with fail
      go_ret
      exact ⟨ret_bool H.out.symm, (below_drewN (((Below.refl _ _).alloc (Nat.le_refl _) _).alloc (by simp) _) _).trans (hb1.mono (by simp; omega))⟩
    · go_enter Tryd.func40, Tryd.ntmps40
      go_upto_region 1 with fail
      obtain ⟨W0, hW0⟩ : ∃ W0 : World, W0 = (w.alloc (Obj.cells #[.string a.row, .string a.fam, .string a.qual, .int .u64 a.ts, .int .i64 a.kind, .string a.val] 67)).alloc (Obj.cells #[.string b.row, .string b.fam, .string b.qual, .int .u64 b.ts, .int .i64 b.kind, .string b.val] 67) := ⟨_, rfl⟩
      have hb0 : Below w.heap.size w W0 := by rw [hW0]; exact ((Below.refl _ _).alloc (Nat.le_refl _) _).alloc (by simp) _
      have hz0 : w.heap.size + 1 < W0.heap.size := by rw [hW0]; simp
      have ca : ∀ o, W0.cell? ⟨w.heap.size, o, none⟩ = ((w.alloc (Obj.cells #[.string a.row, .string a.fam, .string a.qual, .int .u64 a.ts, .int .i64 a.kind, .string a.val] 67)).alloc (Obj.cells #[.string b.row, .string b.fam, .string b.qual, .int .u64 b.ts, .int .i64 b.kind, .string b.val] 67)).cell? ⟨w.heap.size, o, none⟩ := fun o => by rw [hW0]
      have cb : ∀ o, W0.cell? ⟨w.heap.size + 1, o, none⟩ = ((w.alloc (Obj.cells #[.string a.row, .string a.fam, .string a.qual, .int .u64 a.ts, .int .i64 a.kind, .string a.val] 67)).alloc (Obj.cells #[.string b.row, .string b.fam, .string b.qual, .int .u64 b.ts, .int .i64 b.kind, .string b.val] 67)).cell? ⟨w.heap.size + 1, o, none⟩ := fun o => by rw [hW0]
      rw [← hW0]
      clear hW0
      go_cut [19] (fun s wx => s = .bool (sameCol a b) ∧ Below W0.heap.size W0 wx)
      case first =>
        have e3 := colEq_run a b
        go_region_with (first
          | (go_at_call_of 55 (a.row); refine (lift_in W0 ?hB (column_any a _)).mono ?_; (case hB => (repeat (first | assumption | exact Below.refl _ _ | refine Below.drew ?_))); rintro e w' ⟨rfl, hbb, hcc⟩)
          | (go_at_call_of 55 (b.row); refine (lift_in W0 ?hB (column_any b _)).mono ?_; (case hB => (repeat (first | assumption | exact Below.refl _ _ | refine Below.drew ?_))); rintro e w' ⟨rfl, hbb, hcc⟩))
        all_goals go_wp2_with fail
        all_goals go_meet
        all_goals exact ⟨rfl, by assumption⟩
      case rest =>
      obtain ⟨rfl, h3⟩ := hcut
      have ca3 : ∀ o, wc.cell? ⟨w.heap.size, o, none⟩ = W0.cell? ⟨w.heap.size, o, none⟩ := fun o => h3.cell (p := ⟨w.heap.size, o, none⟩) (by show w.heap.size < _; omega)
      have cb3 : ∀ o, wc.cell? ⟨w.heap.size + 1, o, none⟩ = W0.cell? ⟨w.heap.size + 1, o, none⟩ := fun o => h3.cell (p := ⟨w.heap.size + 1, o, none⟩) hz0
      cases hs : sameCol a b
      · have H : Hid (okPair a b = decide (keyCmp a b < 0)) := by
          show okPair a b = _
          unfold okPair; rw [ga, gb, hs]
          rcases keyCmp_vals a b with h | h | h <;> rw [h] <;> rfl
        go_wp2_with fail
        refine (compare_any a b _).mono ?_
        rintro e w1 ⟨rfl, hb1⟩
        go_wp2_with fail
        go_ret
        exact ⟨ret_bool H.out.symm, (hb0.trans (h3.mono (by omega))).trans (hb1.mono (by have := h3.size; omega))⟩
      · have H : Hid (okPair a b = false) := by
          show okPair a b = _
          unfold okPair; rw [ga, gb, hs]; simp
        go_wp2_with fail
        go_ret
        exact ⟨ret_bool H.out.symm, hb0.trans (h3.mono (by omega))⟩
end Go.Proofs.YtnncedndlhfdkacDoor

/-
  Runs that are valid: the loops of spec.ValidRun, impl.validWrites, impl.ValidRun.
-/
namespace Go.Proofs.YtnncedndlhfdkacDoor
open Go.ChangeShapes Go.WideShapes Go.ChangeAt Go.RowKit Go.Deep
set_option linter.unusedVariables false

/-- All of them are valid, and not too many. -/
def GoodW (es : List Ent) : Prop := es.length ≤ 10000 ∧ ∀ e ∈ es, e.vld = true
/-- Each may stand right before the next. -/
def Pairs (es : List Ent) : Prop := ∀ i p e, es[i]? = some p → es[i + 1]? = some e → okPair p e = true
def GoodR (es : List Ent) : Prop := GoodW es ∧ Pairs es

theorem iffF {p : Prop} (h : ¬ p) : (false = true ↔ p) := ⟨fun x => Bool.noConfusion x, fun x => absurd x h⟩
theorem iffT {p : Prop} (h : p) : (true = true ↔ p) := ⟨fun _ => h, fun _ => rfl⟩
theorem vld_of_take {es : List Ent} {k : Nat} {e : Ent} (h : ∀ x ∈ es.take k, x.vld = true) (he : es[k]? = some e) (hv : e.vld = true) : ∀ x ∈ es.take (k + 1), x.vld = true := by
  intro x hx
  rw [List.take_add_one, he] at hx
  simp at hx
  rcases hx with hx | rfl
  · exact h x hx
  · exact hv

set_option maxHeartbeats 400000 in
theorem validWrites_core (b off cap : Nat) (es : List Ent) (w : World) (hE : EntsAt w b off es) (hok : ∀ e ∈ es, e.ok) (hB : b < w.heap.size) (hlen : es.length ≤ cap) (hcap : cap ≤ maxLen) :
    Calls Tryd.prog 39 #[.slice (some ⟨b, off, none⟩) es.length cap] w fun e w' =>
      ∃ r : Bool, e = .returned (.bool r) ∧ (r = true ↔ GoodW es) ∧ Below w.heap.size w w' := by
  have HE : Hid (EntsAt w b off es) := hE
  have HO : Hid (∀ e ∈ es, e.ok) := hok
  clear hE hok
  unfold maxLen at hcap
  by_cases hbig : 10000 < es.length
  · have H : Hid (¬ GoodW es) := fun h => by have := h.1; omega
    go_enter Tryd.func39, Tryd.ntmps39
    go_wp2
    go_ret
    exact ⟨_, rfl, iffF H.out, Below.refl _ _⟩
  go_enter Tryd.func39, Tryd.ntmps39
  go_wp2
  go_loopw [10] (fun i wr => ∃ (k : Nat), k ≤ es.length ∧ i = .int .i64 k ∧ (∀ x ∈ es.take k, x.vld = true) ∧ Below w.heap.size w wr) (fun i _ => es.length - (intOf i).toNat)
  case atStart => exact ⟨0, Nat.zero_le _, rfl, by simp, Below.refl _ _⟩
  case round =>
    obtain ⟨k, hk, rfl, hv, hb⟩ := hrel
    have HV : Hid (∀ x ∈ es.take k, x.vld = true) := hv
    clear hv
    by_cases hlt : k < es.length
    · obtain ⟨e, he⟩ : ∃ e, es[k]? = some e := ⟨_, List.getElem?_eq_getElem hlt⟩
      obtain ⟨c0, c1, c2, c3, c4, c5⟩ := (HE.out.below hb hB) k e he
      have HK : Hid (e.ok ∧ es[k]? = some e) := ⟨HO.out e (List.mem_of_getElem? he), he⟩
      clear he
      go_wp2_with fail
      refine (implValid_core e.row e.fam e.qual e.val e.ts e.kind _ HK.out.1.row HK.out.1.fam HK.out.1.qual HK.out.1.val).mono ?_
      rintro e' w1 ⟨rfl, hb1⟩
      have hb2 := (hb.alloc hb.size (Obj.cells #[.string e.row, .string e.fam, .string e.qual, .int .u64 e.ts, .int .i64 e.kind, .string e.val] 67)).trans (hb1.mono (by have := hb.size; simp; omega))
      clear c0 c1 c2 c3 c4 c5 hb1
      cases hv : vE e.row e.fam e.qual e.kind e.val
      · have H : Hid (¬ GoodW es) := fun h => by
          have := h.2 e (List.mem_of_getElem? HK.out.2)
          unfold Ent.vld at this
          rw [hv] at this
          cases this
        go_wp2_with fail
        go_ret
        exact ⟨_, rfl, iffF H.out, hb2⟩
      · have H : Hid (∀ x ∈ es.take (k + 1), x.vld = true) := vld_of_take HV.out HK.out.2 hv
        go_wp2_with fail
        go_roundw
        case rel => exact ⟨k + 1, by omega, by go_num, H.out, hb2⟩
        case measure => simp [intOf]; omega
    · go_wp2
      go_ret
      refine ⟨_, rfl, ⟨fun _ => ⟨by omega, fun e he => ?_⟩, fun _ => rfl⟩, hb⟩
      have := HV.out
      rw [List.take_of_length_le (by omega)] at this
      exact this e he

theorem pairs_short {es : List Ent} (h : es.length ≤ 1) : Pairs es := by
  intro i p e h1 h2
  have := (List.getElem?_eq_some_iff.1 h2).1
  omega

/-- The pairs below place 'k'. -/
def PairsTo (es : List Ent) (k : Nat) : Prop := ∀ i p e, i + 1 < k → es[i]? = some p → es[i + 1]? = some e → okPair p e = true
theorem pairsTo_succ {es : List Ent} {m : Nat} {p e : Ent} (h : PairsTo es (m + 1)) (hp : es[m]? = some p) (he : es[m + 1]? = some e) (ho : okPair p e = true) : PairsTo es (m + 1 + 1) := by
  intro i p' e' hi h1 h2
  by_cases hm : i = m
  · subst hm
    rw [hp] at h1; rw [he] at h2
    simp at h1 h2
    subst h1 h2
    exact ho
  · exact h i p' e' (by omega) h1 h2
theorem pairs_of_to {es : List Ent} {k : Nat} (h : PairsTo es k) (hk : es.length ≤ k) : Pairs es := by
  intro i p e h1 h2
  have := (List.getElem?_eq_some_iff.1 h2).1
  exact h i p e (by omega) h1 h2

set_option maxHeartbeats 1000000 in
theorem implValidRun_core (b off cap : Nat) (es : List Ent) (w : World) (hE : EntsAt w b off es) (hok : ∀ e ∈ es, e.ok) (hB : b < w.heap.size) (hlen : es.length ≤ cap) (hcap : cap ≤ maxLen) :
    Calls Tryd.prog 20 #[.agg #[.slice (some ⟨b, off, none⟩) es.length cap]] w fun e w' =>
      ∃ r : Bool, e = .returned (.bool r) ∧ (r = true ↔ GoodR es) ∧ Below w.heap.size w w' := by
  obtain ⟨W0, hW0⟩ : ∃ W0 : World, W0 = w.alloc (Obj.cells #[.slice (some ⟨b, off, none⟩) es.length cap] 25) := ⟨_, rfl⟩
  have hb0 : Below w.heap.size w W0 := by rw [hW0]; exact (Below.refl _ _).alloc (Nat.le_refl _) _
  have hz0 : w.heap.size < W0.heap.size := by rw [hW0]; simp
  have ca : W0.cell? ⟨w.heap.size, 0, none⟩ = some (.slice (some ⟨b, off, none⟩) es.length cap) := by rw [hW0]; simp
  have HE : Hid (EntsAt W0 b off es) := hE.below hb0 hB
  have HO : Hid (∀ e ∈ es, e.ok) := hok
  have HC : Hid (cap ≤ maxLen) := hcap
  clear hE hok
  unfold maxLen at hcap
  go_enter Tryd.func20, Tryd.ntmps20
  go_wp2_with fail
  rw [← hW0]
  refine (validWrites_core b off cap es _ HE.out HO.out (by omega) hlen HC.out).mono ?_
  rintro e w1 ⟨r, rfl, hr, hb1⟩
  have HR : Hid (r = true ↔ GoodW es) := hr
  clear hr hW0
  have k1 := hb0.trans (hb1.mono (by omega))
  have ca1 : w1.cell? ⟨w.heap.size, 0, none⟩ = some (.slice (some ⟨b, off, none⟩) es.length cap) := by rw [hb1.cell (p := ⟨w.heap.size, 0, none⟩) hz0]; exact ca
  cases r
  · go_wp2_with fail
    go_ret
    exact ⟨_, rfl, iffF (fun h => Bool.noConfusion (HR.out.2 h.1)), k1⟩
  have HR1 : Hid (GoodW es) := HR.out.1 rfl
  clear HR
  go_wp2_with fail
  go_loopw [3] (fun i wr => ∃ (k : Nat), 1 ≤ k ∧ i = .int .i64 k ∧ PairsTo es k ∧ Below w1.heap.size w1 wr) (fun i _ => es.length - (intOf i).toNat)
  case atStart => exact ⟨1, Nat.le_refl _, rfl, fun i p e hi => by omega, Below.refl _ _⟩
  case round =>
    obtain ⟨k, hk, rfl, hP, hb⟩ := hrel
    have HP : Hid (PairsTo es k) := hP
    clear hP
    have hs1 := hb1.size
    have hs2 := hb.size
    have car : wr.cell? ⟨w.heap.size, 0, none⟩ = some (.slice (some ⟨b, off, none⟩) es.length cap) := by rw [hb.cell (p := ⟨w.heap.size, 0, none⟩) (by show w.heap.size < _; omega)]; exact ca1
    obtain ⟨m, rfl⟩ : ∃ m, k = m + 1 := ⟨k - 1, by omega⟩
    by_cases hlt : m + 1 < es.length
    · obtain ⟨p, hp⟩ : ∃ e, es[m]? = some e := ⟨_, List.getElem?_eq_getElem (by omega)⟩
      obtain ⟨e, he⟩ : ∃ e, es[m + 1]? = some e := ⟨_, List.getElem?_eq_getElem hlt⟩
      have HEr := (HE.out.below hb1 (by omega)).below hb (by omega)
      obtain ⟨c0, c1, c2, c3, c4, c5⟩ := HEr m p hp
      obtain ⟨d0, d1, d2, d3, d4, d5⟩ := HEr (m + 1) e he
      have HK : Hid (es[m]? = some p ∧ es[m + 1]? = some e) := ⟨hp, he⟩
      clear hp he HEr
      go_upto_region 6 with fail
      go_cut [27] (fun s wx => s = .bool (!okPair p e) ∧ Below w1.heap.size w1 wx)
      case first =>
        have hw : IntKind.i64.wrap (m : Int) = (m : Int) := Go.IntWalk.i64_in _ (by omega)
        have z1 : (0 : Int) ≤ (m : Int) := by omega
        have z2 : (m : Int) < (es.length : Int) := by omega
        have z3 : (m : Int) + 1 < (es.length : Int) := by omega
        go_region_with (go_at_call 40; refine (mayPrecede_any p e _).mono ?_; rintro e' w' ⟨rfl, hbb⟩)
        all_goals go_wp2_with fail
        all_goals go_meet
        all_goals exact ⟨rfl, hb.drew.trans (hbb.mono (by simp; omega))⟩
      case rest =>
      obtain ⟨rfl, h3⟩ := hcut
      clear c0 c1 c2 c3 c4 c5 d0 d1 d2 d3 d4 d5
      cases ho : okPair p e
      · have H : Hid (¬ GoodR es) := fun h => by
          have := h.2 m p e HK.out.1 HK.out.2
          rw [ho] at this; cases this
        go_wp2_with fail
        go_ret
        exact ⟨_, rfl, iffF H.out, k1.trans (h3.mono (by omega))⟩
      · have H : Hid (PairsTo es (m + 1 + 1)) := pairsTo_succ HP.out HK.out.1 HK.out.2 ho
        go_wp2_with fail
        go_roundw
        case rel => exact ⟨m + 1 + 1, by omega, by go_num, H.out, h3⟩
        case measure => simp [intOf]; omega
    · go_wp2_with fail
      go_ret
      exact ⟨_, rfl, iffT ⟨HR1.out, pairs_of_to HP.out (by omega)⟩, k1.trans (hb.mono (by omega))⟩
end Go.Proofs.YtnncedndlhfdkacDoor

/-
  The body of a block, the file of a run (mathematics).
-/
namespace Go.Proofs.YtnncedndlhfdkacDoor
set_option linter.unusedVariables false
set_option linter.unusedSimpArgs false

/-- The bytes of a string. -/
abbrev bl (s : ByteArray) : List UInt8 := s.data.toList
theorem bl_len (s : ByteArray) : (bl s).length = s.size := by simp [bl]
theorem wf_u64 {t : Int} (h : (Lit.int .u64 t).wf = true) : 0 ≤ t ∧ t < 2 ^ 64 := by
  simp only [Lit.wf, Bool.and_eq_true, decide_eq_true_eq] at h
  have h1 : IntKind.u64.min = 0 := rfl
  have h2 : IntKind.u64.max = 18446744073709551615 := rfl
  omega
/-- One entry behind a row. -/
def entB (before : List UInt8) (e : Ent) : List UInt8 :=
  num (shared before (bl e.row)) ++ strB ((bl e.row).drop (shared before (bl e.row))) ++ strB (bl e.fam) ++ strB (bl e.qual) ++ num e.ts.toNat ++ num e.kind.toNat ++ strB (bl e.val)
def body : List UInt8 → List Ent → List UInt8
  | _, [] => []
  | b, e :: es => entB b e ++ body (bl e.row) es
/-- The row ahead. -/
def lastRow : List UInt8 → List Ent → List UInt8
  | b, [] => b
  | _, e :: es => lastRow (bl e.row) es
theorem body_snoc : ∀ (b : List UInt8) (es : List Ent) (e : Ent), body b (es ++ [e]) = body b es ++ entB (lastRow b es) e
  | b, [], e => by simp [body, lastRow]
  | b, x :: es, e => by rw [List.cons_append, body, body, body_snoc (bl x.row) es e, List.append_assoc]; rfl
theorem lastRow_snoc : ∀ (b : List UInt8) (es : List Ent) (e : Ent), lastRow b (es ++ [e]) = bl e.row
  | _, [], _ => rfl
  | _, x :: es, e => lastRow_snoc (bl x.row) es e
theorem vld_parts {e : Ent} (h : e.vld = true) : 1 ≤ e.row.size ∧ e.row.size ≤ 64 ∧ 1 ≤ e.fam.size ∧ e.fam.size ≤ 16 ∧ e.qual.size ≤ 64 ∧ e.val.size ≤ 200 ∧ 0 ≤ e.kind ∧ e.kind ≤ 2 := by
  unfold Ent.vld vE at h
  simp only [Bool.and_eq_true, decide_eq_true_eq] at h
  omega
theorem strB_len {s : List UInt8} (h : s.length < 2 ^ 64) : (strB s).length ≤ 10 + s.length := by
  unfold strB
  have := num_len64 h
  simp; omega
theorem num_kind {k : Nat} (h : k ≤ 2) : (num k).length = 1 := by rw [num_small (by omega)]; rfl
theorem entB_len {b : List UInt8} {e : Ent} (h : e.vld = true) (ht : e.ts.toNat < 2 ^ 64) : (entB b e).length ≤ 500 := by
  obtain ⟨h1, h2, h3, h4, h5, h6, h7, h8⟩ := vld_parts h
  have l0 := (shared_le b (bl e.row)).2
  rw [bl_len] at l0
  have l1 := num_len64 (n := shared b (bl e.row)) (by omega)
  have l2 := strB_len (s := (bl e.row).drop (shared b (bl e.row))) (by simp only [List.length_drop, bl_len]; omega)
  have l3 := strB_len (s := bl e.fam) (by rw [bl_len]; omega)
  have l4 := strB_len (s := bl e.qual) (by rw [bl_len]; omega)
  have l5 := num_len64 (n := e.ts.toNat) ht
  have l6 := num_len64 (n := e.kind.toNat) (by omega)
  have l7 := strB_len (s := bl e.val) (by rw [bl_len]; omega)
  simp only [List.length_drop, bl_len] at l2 l3 l4 l7
  unfold entB
  simp only [List.length_append]
  omega
theorem body_len : ∀ (es : List Ent) (b : List UInt8), (∀ e ∈ es, e.vld = true) → (∀ e ∈ es, e.ts.toNat < 2 ^ 64) → (body b es).length ≤ 500 * es.length
  | [], b, _, _ => by simp [body]
  | e :: es, b, h, k => by
    have h1 := entB_len (b := b) (h e (by simp)) (k e (by simp))
    have h2 := body_len es (bl e.row) (fun x hx => h x (by simp [hx])) (fun x hx => k x (by simp [hx]))
    simp only [body, List.length_append, List.length_cons]
    omega
theorem body_pos {b : List UInt8} {es : List Ent} (h : 0 < es.length) : 0 < (body b es).length := by
  cases es with
  | nil => simp at h
  | cons e es =>
    have := num_pos (shared b (bl e.row))
    simp only [body, entB, List.length_append]
    omega
end Go.Proofs.YtnncedndlhfdkacDoor

/-
  l2Str, l2Shared.
-/
namespace Go.Proofs.YtnncedndlhfdkacDoor
open Go.ChangeShapes Go.WideShapes Go.ChangeAt Go.RowKit Go.Deep
set_option linter.unusedVariables false
set_option linter.unusedSimpArgs false
set_option maxRecDepth 100000

theorem below_bytes (w : World) (s : ByteArray) : Below w.heap.size w (Lib.bytesWorld w 5 s) :=
  ⟨rfl, rfl, rfl, by rw [Lib.bytesWorld_size]; omega, fun k hk => Lib.bytesWorld_at_old w _ s k hk⟩
theorem bys_bytes (w : World) (s : ByteArray) : BysAt (Lib.bytesWorld w 5 s) w.heap.size 0 (bl s) := by
  intro i x hx
  have hi := (List.getElem?_eq_some_iff.1 hx).1
  rw [Nat.zero_add, Lib.bytesWorld_cell w _ s i (by rw [← bl_len]; exact hi), List.getD_eq_getElem?_getD, hx]
  rfl

set_option maxHeartbeats 1000000 in
theorem l2Shared_core (s t : ByteArray) (w : World) (hs : s.size ≤ maxLen) (ht : t.size ≤ maxLen) :
    Calls Tryd.prog 28 #[.string s, .string t] w fun e w' => e = .returned (.int .i64 (shared (bl s) (bl t) : Int)) ∧ Below w.heap.size w w' := by
  unfold maxLen at hs ht
  go_enter Tryd.func28, Tryd.ntmps28
  go_wp2_with fail
  go_loopw [5] (fun i wr => ∃ (k : Nat), k ≤ s.size ∧ k ≤ t.size ∧ i = .int .i64 k ∧ (bl s).take k = (bl t).take k ∧ Below w.heap.size w wr) (fun i _ => s.size - (intOf i).toNat)
  case atStart => exact ⟨0, Nat.zero_le _, Nat.zero_le _, rfl, rfl, Below.refl _ _⟩
  case round =>
    obtain ⟨k, hk1, hk2, rfl, htk, hb⟩ := hrel
    have HT : Hid ((bl s).take k = (bl t).take k) := htk
    clear htk
    by_cases h1 : k < s.size
    · by_cases h2 : k < t.size
      · obtain ⟨x, hx⟩ : ∃ x, (bl s)[k]? = some x := ⟨_, List.getElem?_eq_getElem (by rw [bl_len]; exact h1)⟩
        obtain ⟨y, hy⟩ : ∃ y, (bl t)[k]? = some y := ⟨_, List.getElem?_eq_getElem (by rw [bl_len]; exact h2)⟩
        have gx : s[k] = x := by
          have := hx
          rw [List.getElem?_eq_getElem (by rw [bl_len]; exact h1)] at this
          exact Option.some.inj this
        have gy : t[k] = y := by
          have := hy
          rw [List.getElem?_eq_getElem (by rw [bl_len]; exact h2)] at this
          exact Option.some.inj this
        have z1 : (k : Int) < (s.size : Int) := by omega
        have z2 : (k : Int) < (t.size : Int) := by omega
        have HX : Hid ((bl s)[k]? = some x ∧ (bl t)[k]? = some y) := ⟨hx, hy⟩
        clear hx hy
        by_cases hxy : x = y
        · subst hxy
          have HS : Hid ((bl s).take (k + 1) = (bl t).take (k + 1)) := by
            show (bl s).take (k + 1) = (bl t).take (k + 1)
            rw [List.take_add_one, List.take_add_one, HT.out, HX.out.1, HX.out.2]
          go_upto_region 2 with fail
          go_cut [24] (fun v wx => v = .bool true ∧ Below w.heap.size w wx)
          case first =>
            go_region
            all_goals go_wp2_with fail
            all_goals go_meet
            all_goals exact ⟨by simp, hb.drew⟩
          case rest =>
          obtain ⟨rfl, hbc⟩ := hcut
          go_wp2_with fail
          go_roundw
          case rel => exact ⟨k + 1, by omega, by omega, by go_num, HS.out, hbc⟩
          case measure => simp [intOf]; omega
        · have HS : Hid (shared (bl s) (bl t) = k) := by
            refine shared_iff _ _ k (by rw [bl_len]; exact hk1) (by rw [bl_len]; exact hk2) HT.out (.inr (.inr ?_))
            rw [HX.out.1, HX.out.2]
            exact fun q => hxy (Option.some.inj q)
          have hne : ¬ x.toNat = y.toNat := fun q => hxy (UInt8.toNat_inj.1 q)
          go_upto_region 2 with fail
          go_cut [24] (fun v wx => v = .bool false ∧ Below w.heap.size w wx)
          case first =>
            go_region
            all_goals go_wp2_with fail
            all_goals go_meet
            all_goals exact ⟨by simp; omega, hb.drew⟩
          case rest =>
          obtain ⟨rfl, hbc⟩ := hcut
          go_wp2_with fail
          go_ret
          exact ⟨by rw [HS.out]; rfl, hbc⟩
      · have HS : Hid (shared (bl s) (bl t) = k) := shared_iff _ _ k (by rw [bl_len]; exact hk1) (by rw [bl_len]; exact hk2) HT.out (.inr (.inl (by rw [bl_len]; omega)))
        have z1 : (k : Int) < (s.size : Int) := by omega
        have z2 : ¬ (k : Int) < (t.size : Int) := by omega
        go_upto_region 2 with fail
        go_cut [24] (fun v wx => v = .bool false ∧ Below w.heap.size w wx)
        case first =>
          go_region
          all_goals go_wp2_with fail
          all_goals go_meet
          all_goals exact ⟨rfl, hb.drew⟩
        case rest =>
        obtain ⟨rfl, hbc⟩ := hcut
        go_wp2_with fail
        go_ret
        exact ⟨by rw [HS.out]; rfl, hbc⟩
    · have HS : Hid (shared (bl s) (bl t) = k) := shared_iff _ _ k (by rw [bl_len]; exact hk1) (by rw [bl_len]; exact hk2) HT.out (.inl (by rw [bl_len]; omega))
      have z1 : ¬ (k : Int) < (s.size : Int) := by omega
      go_upto_region 2 with fail
      go_cut [24] (fun v wx => v = .bool false ∧ Below w.heap.size w wx)
      case first =>
        go_region
        all_goals go_wp2_with fail
        all_goals go_meet
        all_goals exact ⟨rfl, hb.drew⟩
      case rest =>
      obtain ⟨rfl, hbc⟩ := hcut
      go_wp2_with fail
      go_ret
      exact ⟨by rw [HS.out]; rfl, hbc⟩
end Go.Proofs.YtnncedndlhfdkacDoor

/-
  impl.sharedBytes.
-/
namespace Go.Proofs.YtnncedndlhfdkacDoor
open Go.ChangeShapes Go.WideShapes Go.ChangeAt Go.RowKit Go.Deep
set_option linter.unusedVariables false
set_option linter.unusedSimpArgs false
set_option maxRecDepth 100000

set_option maxHeartbeats 1000000 in
theorem implShared_core (s t : ByteArray) (w : World) (hs : s.size ≤ maxLen) (ht : t.size ≤ maxLen) :
    Calls Tryd.prog 62 #[.string s, .string t] w fun e w' => e = .returned (.int .i64 (shared (bl s) (bl t) : Int)) ∧ Below w.heap.size w w' := by
  unfold maxLen at hs ht
  go_enter Tryd.func62, Tryd.ntmps62
  go_wp2_with fail
  go_loopw [5] (fun i wr => ∃ (k : Nat), k ≤ s.size ∧ k ≤ t.size ∧ i = .int .i64 k ∧ (bl s).take k = (bl t).take k ∧ Below w.heap.size w wr) (fun i _ => s.size - (intOf i).toNat)
  case atStart => exact ⟨0, Nat.zero_le _, Nat.zero_le _, rfl, rfl, Below.refl _ _⟩
  case round =>
    obtain ⟨k, hk1, hk2, rfl, htk, hb⟩ := hrel
    have HT : Hid ((bl s).take k = (bl t).take k) := htk
    clear htk
    by_cases h1 : k < s.size
    · by_cases h2 : k < t.size
      · obtain ⟨x, hx⟩ : ∃ x, (bl s)[k]? = some x := ⟨_, List.getElem?_eq_getElem (by rw [bl_len]; exact h1)⟩
        obtain ⟨y, hy⟩ : ∃ y, (bl t)[k]? = some y := ⟨_, List.getElem?_eq_getElem (by rw [bl_len]; exact h2)⟩
        have gx : s[k] = x := by
          have := hx
          rw [List.getElem?_eq_getElem (by rw [bl_len]; exact h1)] at this
          exact Option.some.inj this
        have gy : t[k] = y := by
          have := hy
          rw [List.getElem?_eq_getElem (by rw [bl_len]; exact h2)] at this
          exact Option.some.inj this
        have z1 : (k : Int) < (s.size : Int) := by omega
        have z2 : (k : Int) < (t.size : Int) := by omega
        have HX : Hid ((bl s)[k]? = some x ∧ (bl t)[k]? = some y) := ⟨hx, hy⟩
        clear hx hy
        by_cases hxy : x = y
        · subst hxy
          have HS : Hid ((bl s).take (k + 1) = (bl t).take (k + 1)) := by
            show (bl s).take (k + 1) = (bl t).take (k + 1)
            rw [List.take_add_one, List.take_add_one, HT.out, HX.out.1, HX.out.2]
          go_upto_region 2 with fail
          go_cut [24] (fun v wx => v = .bool true ∧ Below w.heap.size w wx)
          case first =>
            go_region
            all_goals go_wp2_with fail
            all_goals go_meet
            all_goals exact ⟨by simp, hb.drew⟩
          case rest =>
          obtain ⟨rfl, hbc⟩ := hcut
          go_wp2_with fail
          go_roundw
          case rel => exact ⟨k + 1, by omega, by omega, by go_num, HS.out, hbc⟩
          case measure => simp [intOf]; omega
        · have HS : Hid (shared (bl s) (bl t) = k) := by
            refine shared_iff _ _ k (by rw [bl_len]; exact hk1) (by rw [bl_len]; exact hk2) HT.out (.inr (.inr ?_))
            rw [HX.out.1, HX.out.2]
            exact fun q => hxy (Option.some.inj q)
          have hne : ¬ x.toNat = y.toNat := fun q => hxy (UInt8.toNat_inj.1 q)
          go_upto_region 2 with fail
          go_cut [24] (fun v wx => v = .bool false ∧ Below w.heap.size w wx)
          case first =>
            go_region
            all_goals go_wp2_with fail
            all_goals go_meet
            all_goals exact ⟨by simp; omega, hb.drew⟩
          case rest =>
          obtain ⟨rfl, hbc⟩ := hcut
          go_wp2_with fail
          go_ret
          exact ⟨by rw [HS.out]; rfl, hbc⟩
      · have HS : Hid (shared (bl s) (bl t) = k) := shared_iff _ _ k (by rw [bl_len]; exact hk1) (by rw [bl_len]; exact hk2) HT.out (.inr (.inl (by rw [bl_len]; omega)))
        have z1 : (k : Int) < (s.size : Int) := by omega
        have z2 : ¬ (k : Int) < (t.size : Int) := by omega
        go_upto_region 2 with fail
        go_cut [24] (fun v wx => v = .bool false ∧ Below w.heap.size w wx)
        case first =>
          go_region
          all_goals go_wp2_with fail
          all_goals go_meet
          all_goals exact ⟨rfl, hb.drew⟩
        case rest =>
        obtain ⟨rfl, hbc⟩ := hcut
        go_wp2_with fail
        go_ret
        exact ⟨by rw [HS.out]; rfl, hbc⟩
    · have HS : Hid (shared (bl s) (bl t) = k) := shared_iff _ _ k (by rw [bl_len]; exact hk1) (by rw [bl_len]; exact hk2) HT.out (.inl (by rw [bl_len]; omega))
      have z1 : ¬ (k : Int) < (s.size : Int) := by omega
      go_upto_region 2 with fail
      go_cut [24] (fun v wx => v = .bool false ∧ Below w.heap.size w wx)
      case first =>
        go_region
        all_goals go_wp2_with fail
        all_goals go_meet
        all_goals exact ⟨rfl, hb.drew⟩
      case rest =>
      obtain ⟨rfl, hbc⟩ := hcut
      go_wp2_with fail
      go_ret
      exact ⟨by rw [HS.out]; rfl, hbc⟩
end Go.Proofs.YtnncedndlhfdkacDoor

/-
  spec.l2GetNum.
-/
namespace Go.Proofs.YtnncedndlhfdkacDoor
open Go.ChangeShapes Go.WideShapes Go.ChangeAt Go.RowKit Go.Deep
set_option linter.unusedVariables false
set_option linter.unusedSimpArgs false
set_option maxRecDepth 100000

theorem wrapU {x : Int} (h0 : 0 ≤ x) (h1 : x < 18446744073709551616) : IntKind.u64.wrap x = x := by
  simp only [IntKind.wrap, IntKind.bits, IntKind.signed, Bool.false_and, Bool.false_eq_true, if_false]
  omega
/-- What a reader has before it. -/
def rd (xs : List UInt8) (i : Nat) (bad : Bool) : Option (List UInt8) := if bad then none else some (xs.drop i)
abbrev rdV (b off cap n i : Nat) (bad : Bool) : Value := .agg #[.slice (some ⟨b, off, none⟩) n cap, .int .i64 (i : Int), .bool bad]
/-- A number read. -/
def GotNum (xs : List UInt8) (i : Nat) (bad : Bool) (i' : Nat) (bad' : Bool) (n : Nat) : Prop :=
  i' ≤ xs.length ∧ n < 2 ^ 64 ∧ ((bad' = true ∧ (rd xs i bad).bind getNum = none) ∨ (bad' = false ∧ (rd xs i bad).bind getNum = some (n, xs.drop i')))

/-- .. as the call says it. -/
def NumPost (w : World) (b off cap : Nat) (xs : List UInt8) (i : Nat) (bad : Bool) (r : Ending) (w' : World) : Prop :=
  ∃ (i' : Nat) (bad' : Bool) (n : Nat), r = .returned (.tuple #[rdV b off cap xs.length i' bad', .int .u64 (n : Int)]) ∧ GotNum xs i bad i' bad' n ∧ Below w.heap.size w w'
set_option maxHeartbeats 8000000 in
theorem l2GetNum_core (b off cap : Nat) (xs : List UInt8) (i : Nat) (bad : Bool) (w : World) (hx : BysAt w b off xs) (hb : b < w.heap.size) (hlen : xs.length ≤ 2 ^ 30) (hi : i ≤ xs.length) :
    Calls Tryd.prog 26 #[rdV b off cap xs.length i bad] w fun r w' => NumPost w b off cap xs i bad r w' := by
  have HX : Hid (BysAt w b off xs) := hx
  clear hx
  have bel : ∀ (c1 c2 : Array Value), Below w.heap.size w ((w.alloc (Obj.cells c1 60)).alloc (Obj.cells c2 60)) := fun c1 c2 => ((Below.refl _ _).alloc (Nat.le_refl _) _).alloc (by simp) _
  have HBel : Hid (∀ (c1 c2 : Array Value), Below w.heap.size w ((w.alloc (Obj.cells c1 60)).alloc (Obj.cells c2 60))) := bel
  clear bel
  cases bad
  case true =>
    go_enter Tryd.func26, Tryd.ntmps26
    go_upto_region 4 with fail
    go_loopw [4, 5, 6] (fun n p k wr => n = .int .u64 0 ∧ p = .int .u64 1 ∧ k = .int .i64 0 ∧ wr = ((w.alloc (Obj.cells #[.slice (some ⟨b, off, none⟩) xs.length cap, .int .i64 (i : Int), .bool true] 60)).alloc (Obj.cells #[.slice none 0 0, .int .i64 0, .bool false] 60))) (fun _ _ _ _ => 0)
    case atStart => exact ⟨rfl, rfl, rfl, rfl⟩
    case round =>
      obtain ⟨rfl, rfl, rfl, rfl⟩ := hrel
      go_wp2_with fail
      exact bodyPost_ret (v := .tuple #[rdV b off cap xs.length i true, .int .u64 0]) (by simp [results, Tryd.results26, go_sem]) rfl ⟨i, true, 0, rfl, ⟨hi, by omega, .inl ⟨rfl, rfl⟩⟩, HBel.out _ _⟩
  case false =>
    go_enter Tryd.func26, Tryd.ntmps26
    go_upto_region 4 with fail
    go_loopw [4, 5, 6] (fun n p k wr => ∃ (q acc pl j : Nat), q ≤ 9 ∧ n = .int .u64 (acc : Int) ∧ p = .int .u64 (pl : Int) ∧ k = .int .i64 (q : Int) ∧ pl = 128 ^ q ∧ j = i + q ∧ NumTo (xs.drop i) q acc ∧ wr = ((w.alloc (Obj.cells #[.slice (some ⟨b, off, none⟩) xs.length cap, .int .i64 (j : Int), .bool false] 60)).alloc (Obj.cells #[.slice none 0 0, .int .i64 0, .bool false] 60))) (fun _ _ k _ => 10 - (intOf k).toNat)
    case atStart => exact ⟨0, 0, 1, i, by omega, rfl, rfl, rfl, rfl, rfl, numTo_zero _, rfl⟩
    case round =>
      obtain ⟨q, acc, pl, j, hq, rfl, rfl, rfl, hpl, hj, hN, rfl⟩ := hrel
      have HN : Hid (NumTo (xs.drop i) q acc) := hN
      have HPl : Hid (pl = 128 ^ q) := hpl
      have HJ : Hid (j = i + q) := hj
      have hjl : j ≤ xs.length := by have := hN.len; rw [List.length_drop] at this; omega
      have q10 : (q : Int) < 10 := by omega
      by_cases hlt : j < xs.length
      · obtain ⟨x, hx⟩ : ∃ x, xs[j]? = some x := ⟨_, List.getElem?_eq_getElem hlt⟩
        have hxd : (xs.drop i)[q]? = some x := by rw [List.getElem?_drop, ← hj]; exact hx
        have c0 : ∀ o1 o2, ((w.alloc o1).alloc o2).cell? ⟨b, off + j, none⟩ = some (ub x) := fun o1 o2 => by
          have hbb : Below w.heap.size w ((w.alloc o1).alloc o2) := ((Below.refl _ _).alloc (Nat.le_refl _) _).alloc (by simp) _
          rw [hbb.cell (p := ⟨b, off + j, none⟩) hb]
          exact HX.out j x hx
        have HXd : Hid ((xs.drop i)[q]? = some x) := hxd
        obtain ⟨y, hy⟩ : ∃ y : Nat, x.toNat = y := ⟨_, rfl⟩
        have hy2 : y < 256 := by rw [← hy]; exact u8lt x
        have HY : Hid (x.toNat = y) := hy
        rw [show ub x = Value.int .u8 (y : Int) by rw [← hy]] at c0
        have z1 : ¬ (xs.length : Int) ≤ (j : Int) := by omega
        have z0 : (j : Int) < (xs.length : Int) := by omega
        clear hx hxd hpl hj hN hy
        by_cases h9 : q = 9 ∧ 1 < y
        · obtain ⟨rfl, hy1⟩ := h9
          have z3 : (1 : Int) < (y : Int) := by omega
          have HF : Hid (getNum (xs.drop i) = none) := HN.out.great HXd.out (by rw [HY.out]; exact hy1)
          have hj1 : j + 1 ≤ xs.length := hlt
          go_wp2_with fail
          exact bodyPost_ret (v := .tuple #[rdV b off cap xs.length (j + 1) true, .int .u64 0]) (by simp [results, Tryd.results26, go_sem]) rfl ⟨j + 1, true, 0, rfl, ⟨hj1, by omega, .inl ⟨rfl, HF.out⟩⟩, HBel.out _ _⟩
        · have hj1 : j + 1 ≤ xs.length := hlt
          have hp9 : pl ≤ 9223372036854775808 := by rw [HPl.out]; exact pow9 hq
          have hbd : acc + y % 128 * pl < 2 ^ 64 := by rw [HPl.out]; exact HN.out.bound hq (fun h => by omega)
          obtain ⟨P, hP⟩ : ∃ P : Nat, P = y % 128 * pl := ⟨_, rfl⟩
          have e1 : (y : Int) % 128 * (pl : Int) = (P : Int) := by rw [hP]; push_cast; rfl
          have e2 : IntKind.u64.wrap ((y : Int) % 128 * (pl : Int)) = (P : Int) := by rw [e1]; exact wrapU (by omega) (by omega)
          have e3 : IntKind.u64.wrap ((acc : Int) + (P : Int)) = ((acc + P : Nat) : Int) := by rw [wrapU (by omega) (by omega)]; omega
          have HE : Hid (IntKind.u64.wrap ((acc : Int) + IntKind.u64.wrap ((y : Int) % 128 * (pl : Int))) = ((acc + P : Nat) : Int)) := by rw [e2, e3]; exact rfl
          have HP : Hid (acc + P = acc + x.toNat % 128 * 128 ^ q) := by rw [hP, HPl.out, HY.out]; exact rfl
          have hbd2 : acc + P < 2 ^ 64 := by omega
          clear hP e1 e2 e3 hbd
          by_cases h8 : y < 128
          · have z8 : (y : Int) < 128 := by omega
            obtain ⟨L1, L2⟩ := HN.out.last HXd.out (by rw [HY.out]; exact h8) hq (fun h => by rw [HY.out]; omega)
            rw [HY.out] at L1 L2
            have HL : Hid ((0 < q ∧ y = 0 → getNum (xs.drop i) = none) ∧ (¬ (0 < q ∧ y = 0) → getNum (xs.drop i) = some (acc + P, xs.drop (j + 1)))) := by
              refine ⟨L1, fun h => ?_⟩
              rw [(L2 h).1, HP.out, HY.out, List.drop_drop, HJ.out, Nat.add_assoc]
            clear L1 L2
            have z9 : ¬ ((q : Int) = 9 ∧ (1 : Int) < (y : Int)) := by omega
            by_cases hz : 0 < q ∧ y = 0
            · have HZ : Hid (getNum (xs.drop i) = none) := HL.out.1 hz
              obtain ⟨hz1, rfl⟩ := hz
              have z10 : (0 : Int) < (q : Int) := by omega
              clear HL
              go_wp2_with fail
              all_goals exact bodyPost_ret (v := .tuple #[rdV b off cap xs.length (j + 1) true, .int .u64 (acc : Int)]) (by simp [results, Tryd.results26, go_sem]) rfl ⟨j + 1, true, acc, rfl, ⟨hj1, by omega, .inl ⟨rfl, HZ.out⟩⟩, HBel.out _ _⟩
            · have HZ : Hid (getNum (xs.drop i) = some (acc + P, xs.drop (j + 1))) := HL.out.2 hz
              clear HL
              by_cases hy0 : y = 0
              · obtain rfl : q = 0 := by omega
                have hac : acc = 0 := by have := HN.out.lt; simp at this; exact this
                have hP0 : P = 0 := by have := HP.out; rw [HY.out, hy0] at this; omega
                subst hy0 hac hP0
                clear HE
                go_wp2_with fail
                all_goals exact bodyPost_ret (v := .tuple #[rdV b off cap xs.length (j + 1) false, .int .u64 0]) (by simp [results, Tryd.results26, go_sem]) rfl ⟨j + 1, false, 0, rfl, ⟨hj1, by omega, .inr ⟨rfl, HZ.out⟩⟩, HBel.out _ _⟩
              · have zy : ¬ (y : Int) = 0 := by omega
                by_cases hq9 : q = 9
                · subst hq9
                  have z11 : ¬ (1 : Int) < (y : Int) := by omega
                  go_wp2_with fail
                  all_goals exact bodyPost_ret (v := .tuple #[rdV b off cap xs.length (j + 1) false, .int .u64 ((acc + P : Nat) : Int)]) (by simp [results, Tryd.results26, go_sem, HE.out]) rfl ⟨j + 1, false, acc + P, rfl, ⟨hj1, hbd2, .inr ⟨rfl, HZ.out⟩⟩, HBel.out _ _⟩
                · have z11 : ¬ (q : Int) = 9 := by omega
                  go_wp2_with fail
                  all_goals exact bodyPost_ret (v := .tuple #[rdV b off cap xs.length (j + 1) false, .int .u64 ((acc + P : Nat) : Int)]) (by simp [results, Tryd.results26, go_sem, HE.out]) rfl ⟨j + 1, false, acc + P, rfl, ⟨hj1, hbd2, .inr ⟨rfl, HZ.out⟩⟩, HBel.out _ _⟩
          · have z8 : ¬ (y : Int) < 128 := by omega
            have hq9 : ¬ (q : Int) = 9 := by omega
            have HNm := HN.out.more HXd.out (by rw [HY.out]; exact h8)
            rw [← HP.out] at HNm
            have HNm2 : Hid (NumTo (xs.drop i) (q + 1) (acc + P)) := HNm
            have e4 : IntKind.u64.wrap ((pl : Int) * 128) = ((pl * 128 : Nat) : Int) := by
              have : pl ≤ 72057594037927936 := by rw [HPl.out]; exact pow8 (by omega)
              rw [wrapU (by omega) (by omega)]; omega
            have HE4 : Hid (IntKind.u64.wrap ((pl : Int) * 128) = ((pl * 128 : Nat) : Int)) := e4
            clear HNm e4
            go_wp2_with fail
            exact ⟨⟨q + 1, acc + P, pl * 128, j + 1, by omega, by rw [HE.out], by rw [HE4.out], by go_num, by rw [HPl.out, Nat.pow_succ], by rw [HJ.out]; omega, HNm2.out, by go_num⟩, by simp [intOf]; omega⟩
      · have z1 : (xs.length : Int) ≤ (j : Int) := by omega
        have HF : Hid (getNum (xs.drop i) = none) := HN.out.none (by rw [List.length_drop]; have := HJ.out; omega)
        clear hpl hj hN
        go_wp2_with fail
        exact bodyPost_ret (v := .tuple #[rdV b off cap xs.length j true, .int .u64 0]) (by simp [results, Tryd.results26, go_sem]) rfl ⟨j, true, 0, rfl, ⟨hjl, by omega, .inl ⟨rfl, HF.out⟩⟩, HBel.out _ _⟩
end Go.Proofs.YtnncedndlhfdkacDoor

/-
  spec.l2GetStr, spec.l2GetFixed.
-/
namespace Go.Proofs.YtnncedndlhfdkacDoor
open Go.ChangeShapes Go.WideShapes Go.ChangeAt Go.RowKit Go.Deep
set_option linter.unusedVariables false
set_option linter.unusedSimpArgs false
set_option maxRecDepth 100000

theorem bytes_of_bys {w : World} {b off : Nat} {xs : List UInt8} (h : BysAt w b off xs) : Lib.Bytes w b off ⟨xs.toArray⟩ := by
  intro i hi
  have hi' : i < xs.length := by
    have h2 : (⟨xs.toArray⟩ : ByteArray).size = xs.length := by show xs.toArray.size = _; simp
    omega
  rw [h i xs[i] (List.getElem?_eq_getElem hi')]
  rfl
/-- A string read. -/
def GotStr (xs : List UInt8) (i : Nat) (bad : Bool) (i' : Nat) (bad' : Bool) (s : ByteArray) : Prop :=
  i' ≤ xs.length ∧ s.size ≤ xs.length ∧ ((bad' = true ∧ (rd xs i bad).bind getStr = none) ∨ (bad' = false ∧ (rd xs i bad).bind getStr = some (bl s, xs.drop i')))
def StrPost (w : World) (b off cap : Nat) (xs : List UInt8) (i : Nat) (bad : Bool) (r : Ending) (w' : World) : Prop :=
  ∃ (i' : Nat) (bad' : Bool) (s : ByteArray), r = .returned (.tuple #[rdV b off cap xs.length i' bad', .string s]) ∧ GotStr xs i bad i' bad' s ∧ Below w.heap.size w w'
theorem gotStr_bad {xs : List UInt8} {i : Nat} {bad : Bool} {i1 n : Nat} (h : GotNum xs i bad i1 true n) : (rd xs i bad).bind getStr = none := by
  rcases h.2.2 with ⟨_, q⟩ | ⟨q, _⟩
  · cases hr : rd xs i bad with
    | none => rfl
    | some ys =>
      rw [hr] at q
      simp only [Option.bind_some] at q ⊢
      unfold getStr
      rw [q]
  · cases q
theorem gotStr_of {xs : List UInt8} {i : Nat} {bad : Bool} {i1 n : Nat} (h : GotNum xs i bad i1 false n) : (rd xs i bad).bind getStr = if n ≤ (xs.drop i1).length then some ((xs.drop i1).take n, (xs.drop i1).drop n) else none := by
  rcases h.2.2 with ⟨q, _⟩ | ⟨_, q⟩
  · cases q
  · cases hr : rd xs i bad with
    | none => rw [hr] at q; cases q
    | some ys =>
      rw [hr] at q
      simp only [Option.bind_some] at q ⊢
      unfold getStr
      rw [q]

set_option maxHeartbeats 8000000 in
theorem l2GetStr_core (b off cap : Nat) (xs : List UInt8) (i : Nat) (bad : Bool) (w : World) (hx : BysAt w b off xs) (hb : b < w.heap.size) (hlen : xs.length ≤ 2 ^ 30) (hcap : xs.length ≤ cap) (hi : i ≤ xs.length) :
    Calls Tryd.prog 27 #[rdV b off cap xs.length i bad] w fun r w' => StrPost w b off cap xs i bad r w' := by
  obtain ⟨W, hW⟩ : ∃ W : World, W = (w.alloc (Obj.cells #[.slice (some ⟨b, off, none⟩) xs.length cap, .int .i64 (i : Int), .bool bad] 60)).alloc (Obj.cells #[.slice none 0 0, .int .i64 0, .bool false] 60) := ⟨_, rfl⟩
  have hbW : Below w.heap.size w W := by rw [hW]; exact ((Below.refl _ _).alloc (Nat.le_refl _) _).alloc (by simp) _
  have hzW : W.heap.size = w.heap.size + 2 := by rw [hW]; simp
  have HBx : Hid (BoxAt W w.heap.size 60 3 w.heap.size [.slice (some ⟨b, off, none⟩) xs.length cap, .int .i64 (i : Int), .bool bad] ∧ BoxAt W w.heap.size 60 3 (w.heap.size + 1) [.slice none 0 0, .int .i64 0, .bool false]) := by
    rw [hW]
    refine ⟨(boxAt_new w _ (Nat.le_refl _) rfl).below ((Below.refl _ _).alloc (Nat.le_refl _) _), ?_⟩
    have := boxAt_new (w.alloc (Obj.cells #[.slice (some ⟨b, off, none⟩) xs.length cap, .int .i64 (i : Int), .bool bad] 60)) (base := w.heap.size) (t := 60) (sz := 3) #[.slice none 0 0, .int .i64 0, .bool false] (by simp) rfl
    simpa using this
  have HX : Hid (BysAt w b off xs ∧ BysAt W b off xs) := ⟨hx, hx.below hbW hb⟩
  clear hx
  go_enter Tryd.func27, Tryd.ntmps27
  go_upto_region 2 with fail
  rw [← hW]
  clear hW
  have q0 := HBx.out.1.cell (j := 0) rfl
  have q1 := HBx.out.1.cell (j := 1) rfl
  have q2 := HBx.out.1.cell (j := 2) rfl
  go_wp2_with fail
  clear q0 q1 q2
  refine (l2GetNum_core b off cap xs i bad W HX.out.2 (by omega) hlen hi).mono ?_
  rintro r w1 ⟨i1, bad1, n, rfl, hGN, hb1⟩
  have s1 := hb1.size
  have hi1 := hGN.1
  have hn1 := hGN.2.1
  have HGN : Hid (GotNum xs i bad i1 bad1 n) := hGN
  have HB1 : Hid (BoxAt w1 w.heap.size 60 3 w.heap.size [.slice (some ⟨b, off, none⟩) xs.length cap, .int .i64 (i : Int), .bool bad] ∧ BoxAt w1 w.heap.size 60 3 (w.heap.size + 1) [.slice none 0 0, .int .i64 0, .bool false]) := ⟨HBx.out.1.below hb1, HBx.out.2.below hb1⟩
  have k1 : Below w.heap.size w w1 := hbW.trans (hb1.mono (by omega))
  have HX1 : Hid (BysAt w1 b off xs) := HX.out.2.below hb1 (by omega)
  clear hGN hb1
  have f0 := HB1.out.1.frozen 0
  have f1 := HB1.out.1.frozen 1
  have f2 := HB1.out.1.frozen 2
  have q0 := HB1.out.1.cell (j := 0) rfl
  have q1 := HB1.out.1.cell (j := 1) rfl
  have q2 := HB1.out.1.cell (j := 2) rfl
  obtain ⟨W2, hW2⟩ : ∃ W2 : World, W2 = set3 w1 w.heap.size (.slice (some ⟨b, off, none⟩) xs.length cap) (.int .i64 (i1 : Int)) (.bool bad1) := ⟨_, rfl⟩
  have HB2 : Hid (BoxAt W2 w.heap.size 60 3 w.heap.size [.slice (some ⟨b, off, none⟩) xs.length cap, .int .i64 (i1 : Int), .bool bad1] ∧ BoxAt W2 w.heap.size 60 3 (w.heap.size + 1) [.slice none 0 0, .int .i64 0, .bool false]) := by
    rw [hW2]; exact ⟨HB1.out.1.set3 _ _ _, HB1.out.2.beside3 (by omega) _ _ _⟩
  have k2 : Below w.heap.size w W2 := by rw [hW2]; exact below_set3 k1 (Nat.le_refl _) _ _ _
  unfold set3 at hW2
  go_upto_region 3 with fail
  rw [← hW2]
  clear hW2 f0 f1 f2 q0 q1 q2
  have q0 := HB2.out.1.cell (j := 0) rfl
  have q1 := HB2.out.1.cell (j := 1) rfl
  have q2 := HB2.out.1.cell (j := 2) rfl
  have f1 := HB2.out.1.frozen 1
  have f2 := HB2.out.1.frozen 2
  have hbadcase : ∀ (W3 : World), W3 = W2.setCell ⟨w.heap.size, 2, none⟩ (.bool true) → (BoxAt W3 w.heap.size 60 3 w.heap.size [.slice (some ⟨b, off, none⟩) xs.length cap, .int .i64 (i1 : Int), .bool true] ∧ BoxAt W3 w.heap.size 60 3 (w.heap.size + 1) [.slice none 0 0, .int .i64 0, .bool false]) ∧ Below w.heap.size w W3 := by
    intro W3 h
    rw [h]
    exact ⟨⟨HB2.out.1.set 2 (.bool true), HB2.out.2.beside (by omega) _ _⟩, below_set k2 (Nat.le_refl _) _ _⟩
  have HBC : Hid (∀ (W3 : World), W3 = W2.setCell ⟨w.heap.size, 2, none⟩ (.bool true) → (BoxAt W3 w.heap.size 60 3 w.heap.size [.slice (some ⟨b, off, none⟩) xs.length cap, .int .i64 (i1 : Int), .bool true] ∧ BoxAt W3 w.heap.size 60 3 (w.heap.size + 1) [.slice none 0 0, .int .i64 0, .bool false]) ∧ Below w.heap.size w W3) := hbadcase
  clear hbadcase
  by_cases hbd : bad1 = true ∨ xs.length - i1 < n
  · have HN : Hid ((rd xs i bad).bind getStr = none) := by
      show (rd xs i bad).bind getStr = none
      cases bad1 with
      | true => exact gotStr_bad HGN.out
      | false =>
        rw [gotStr_of HGN.out, if_neg]
        rw [List.length_drop]
        rcases hbd with h | h
        · cases h
        · omega
    obtain ⟨W3, hW3⟩ : ∃ W3 : World, W3 = W2.setCell ⟨w.heap.size, 2, none⟩ (.bool true) := ⟨_, rfl⟩
    obtain ⟨hB3, k3⟩ := HBC.out W3 hW3
    have HB3 : Hid (BoxAt W3 w.heap.size 60 3 w.heap.size [.slice (some ⟨b, off, none⟩) xs.length cap, .int .i64 (i1 : Int), .bool true] ∧ BoxAt W3 w.heap.size 60 3 (w.heap.size + 1) [.slice none 0 0, .int .i64 0, .bool false]) := hB3
    clear hB3
    cases bad1 with
    | true =>
      go_upto_region 5 with fail
      rw [← hW3]
      clear hW3 q0 q1 q2 f1 f2
      have f0 := HB3.out.2.frozen 0
      have f1 := HB3.out.2.frozen 1
      have f2 := HB3.out.2.frozen 2
      have l0 := HB3.out.2.cell (j := 0) rfl
      have l1 := HB3.out.2.cell (j := 1) rfl
      have l2 := HB3.out.2.cell (j := 2) rfl
      have q0 := HB3.out.1.cell (j := 0) rfl
      have q1 := HB3.out.1.cell (j := 1) rfl
      have q2 := HB3.out.1.cell (j := 2) rfl
      obtain ⟨W4, hW4⟩ : ∃ W4 : World, W4 = set3 W3 (w.heap.size + 1) (.slice (some ⟨b, off, none⟩) xs.length cap) (.int .i64 (i1 : Int)) (.bool true) := ⟨_, rfl⟩
      have hB4 : BoxAt W4 w.heap.size 60 3 (w.heap.size + 1) [.slice (some ⟨b, off, none⟩) xs.length cap, .int .i64 (i1 : Int), .bool true] := by rw [hW4]; exact HB3.out.2.set3 _ _ _
      have k4 : Below w.heap.size w W4 := by rw [hW4]; exact below_set3 k3 (by omega) _ _ _
      have p0 := hB4.cell (j := 0) rfl
      have p1 := hB4.cell (j := 1) rfl
      have p2 := hB4.cell (j := 2) rfl
      unfold set3 at hW4
      go_wp2_with fail
      rw [← hW4]
      exact bodyPost_ret (v := .tuple #[rdV b off cap xs.length i1 true, .string ⟨#[]⟩]) (by simp [results, Tryd.results27, go_sem, p0, p1, p2]) rfl ⟨i1, true, ⟨#[]⟩, rfl, ⟨hi1, Nat.zero_le _, .inl ⟨rfl, HN.out⟩⟩, k4⟩
    | false =>
      have z1 : (xs.length : Int) - (i1 : Int) < (n : Int) := by
        rcases hbd with h | h
        · cases h
        · omega
      go_upto_region 5 with fail
      rw [← hW3]
      clear hW3 q0 q1 q2 f1 f2
      have f0 := HB3.out.2.frozen 0
      have f1 := HB3.out.2.frozen 1
      have f2 := HB3.out.2.frozen 2
      have l0 := HB3.out.2.cell (j := 0) rfl
      have l1 := HB3.out.2.cell (j := 1) rfl
      have l2 := HB3.out.2.cell (j := 2) rfl
      have q0 := HB3.out.1.cell (j := 0) rfl
      have q1 := HB3.out.1.cell (j := 1) rfl
      have q2 := HB3.out.1.cell (j := 2) rfl
      obtain ⟨W4, hW4⟩ : ∃ W4 : World, W4 = set3 W3 (w.heap.size + 1) (.slice (some ⟨b, off, none⟩) xs.length cap) (.int .i64 (i1 : Int)) (.bool true) := ⟨_, rfl⟩
      have hB4 : BoxAt W4 w.heap.size 60 3 (w.heap.size + 1) [.slice (some ⟨b, off, none⟩) xs.length cap, .int .i64 (i1 : Int), .bool true] := by rw [hW4]; exact HB3.out.2.set3 _ _ _
      have k4 : Below w.heap.size w W4 := by rw [hW4]; exact below_set3 k3 (by omega) _ _ _
      have p0 := hB4.cell (j := 0) rfl
      have p1 := hB4.cell (j := 1) rfl
      have p2 := hB4.cell (j := 2) rfl
      unfold set3 at hW4
      go_wp2_with fail
      rw [← hW4]
      exact bodyPost_ret (v := .tuple #[rdV b off cap xs.length i1 true, .string ⟨#[]⟩]) (by simp [results, Tryd.results27, go_sem, p0, p1, p2]) rfl ⟨i1, true, ⟨#[]⟩, rfl, ⟨hi1, Nat.zero_le _, .inl ⟨rfl, HN.out⟩⟩, k4⟩
  · have hb1 : bad1 = false := by
      cases bad1 with
      | true => exact absurd (.inl rfl) hbd
      | false => rfl
    subst hb1
    have hnl : n ≤ xs.length - i1 := by
      rcases Nat.lt_or_ge (xs.length - i1) n with h | h
      · exact absurd (.inr h) hbd
      · exact h
    have z1 : ¬ (xs.length : Int) - (i1 : Int) < (n : Int) := by omega
    clear hbd HBC
    have HGs : Hid ((rd xs i bad).bind getStr = some ((xs.drop i1).take n, xs.drop (i1 + n))) := by
      show (rd xs i bad).bind getStr = _
      rw [gotStr_of HGN.out, if_pos (by rw [List.length_drop]; exact hnl), List.drop_drop]
    have HBy : Hid (Lib.Bytes W2 b off ⟨xs.toArray⟩) := bytes_of_bys (fun j x hj => by rw [k2.cell (p := ⟨b, off + j, none⟩) hb]; exact HX.out.1 j x hj)
    have hsz : (⟨xs.toArray⟩ : ByteArray).size = xs.length := by show xs.toArray.size = _; simp
    obtain ⟨W3, hW3⟩ : ∃ W3 : World, W3 = W2.setCell ⟨w.heap.size, 1, none⟩ (.int .i64 ((i1 : Int) + (n : Int))) := ⟨_, rfl⟩
    have HB3 : Hid (BoxAt W3 w.heap.size 60 3 w.heap.size [.slice (some ⟨b, off, none⟩) xs.length cap, .int .i64 ((i1 : Int) + (n : Int)), .bool false] ∧ BoxAt W3 w.heap.size 60 3 (w.heap.size + 1) [.slice none 0 0, .int .i64 0, .bool false]) := by
      rw [hW3]; exact ⟨HB2.out.1.set 1 _, HB2.out.2.beside (by omega) _ _⟩
    have k3 : Below w.heap.size w W3 := by rw [hW3]; exact below_set k2 (Nat.le_refl _) _ _
    have z2 : (i1 : Int) + (n : Int) ≤ (cap : Int) := by omega
    have z3 : (i1 : Int) ≤ (i1 : Int) + (n : Int) := by omega
    by_cases hci : cap = i1
    · obtain rfl : n = 0 := by omega
      have hcv := Lib.run_convert_window (P := Tryd.prog) W2 22 5 9 Tryd.underlying22 Tryd.underlying5 Tryd.underlying9 b off ⟨xs.toArray⟩ HBy.out 0 0 0 (by omega)
      rw [Nat.add_zero, Nat.zero_add] at hcv
      obtain ⟨st, hstd⟩ : ∃ st : ByteArray, st = (⟨xs.toArray⟩ : ByteArray).extract 0 0 := ⟨_, rfl⟩
      have hst : st.size ≤ xs.length := by rw [hstd, ByteArray.size_extract]; omega
      have HSt : Hid ((rd xs i bad).bind getStr = some (bl st, xs.drop (i1 + 0))) := by
        show (rd xs i bad).bind getStr = _
        rw [HGs.out]
        have : bl st = [] := List.length_eq_zero_iff.1 (by rw [bl_len, hstd, ByteArray.size_extract]; omega)
        rw [this]; rfl
      rw [← hstd] at hcv
      subst hci
      clear hstd HB3 hW3 k3
      obtain ⟨W5, hW5⟩ : ∃ W5 : World, W5 = W2.setCell ⟨w.heap.size, 1, none⟩ (.int .i64 (cap : Int)) := ⟨_, rfl⟩
      have HB5 : Hid (BoxAt W5 w.heap.size 60 3 w.heap.size [.slice (some ⟨b, off, none⟩) xs.length cap, .int .i64 (cap : Int), .bool false] ∧ BoxAt W5 w.heap.size 60 3 (w.heap.size + 1) [.slice none 0 0, .int .i64 0, .bool false]) := by
        rw [hW5]; exact ⟨HB2.out.1.set 1 _, HB2.out.2.beside (by omega) _ _⟩
      have k5 : Below w.heap.size w W5 := by rw [hW5]; exact below_set k2 (Nat.le_refl _) _ _
      go_upto_region 8 with fail
      rw [← hW5]
      clear hW5 q0 q1 q2 f1 f2 hcv
      have f0 := HB5.out.2.frozen 0
      have g1 := HB5.out.2.frozen 1
      have g2 := HB5.out.2.frozen 2
      have l0 := HB5.out.2.cell (j := 0) rfl
      have l1 := HB5.out.2.cell (j := 1) rfl
      have l2 := HB5.out.2.cell (j := 2) rfl
      have q0 := HB5.out.1.cell (j := 0) rfl
      have q1 := HB5.out.1.cell (j := 1) rfl
      have q2 := HB5.out.1.cell (j := 2) rfl
      obtain ⟨W4, hW4⟩ : ∃ W4 : World, W4 = set3 W5 (w.heap.size + 1) (.slice (some ⟨b, off, none⟩) xs.length cap) (.int .i64 (cap : Int)) (.bool false) := ⟨_, rfl⟩
      have hB4 : BoxAt W4 w.heap.size 60 3 (w.heap.size + 1) [.slice (some ⟨b, off, none⟩) xs.length cap, .int .i64 (cap : Int), .bool false] := by rw [hW4]; exact HB5.out.2.set3 _ _ _
      have k4 : Below w.heap.size w W4 := by rw [hW4]; exact below_set3 k5 (by omega) _ _ _
      have p0 := hB4.cell (j := 0) rfl
      have p1 := hB4.cell (j := 1) rfl
      have p2 := hB4.cell (j := 2) rfl
      unfold set3 at hW4
      go_wp2_with fail
      rw [← hW4]
      exact bodyPost_ret (v := .tuple #[rdV b off cap xs.length cap false, .string st]) (by simp [results, Tryd.results27, go_sem, p0, p1, p2]) rfl ⟨cap, false, st, rfl, ⟨hi1, hst, .inr ⟨rfl, HSt.out⟩⟩, k4⟩
    · have hcv := Lib.run_convert_window (P := Tryd.prog) W2 22 5 9 Tryd.underlying22 Tryd.underlying5 Tryd.underlying9 b off ⟨xs.toArray⟩ HBy.out i1 n (cap - i1) (by omega)
      obtain ⟨st, hstd⟩ : ∃ st : ByteArray, st = (⟨xs.toArray⟩ : ByteArray).extract i1 (i1 + n) := ⟨_, rfl⟩
      have hst : st.size ≤ xs.length := by rw [hstd, ByteArray.size_extract]; omega
      have HSt : Hid ((rd xs i bad).bind getStr = some (bl st, xs.drop (i1 + n))) := by
        show (rd xs i bad).bind getStr = _
        rw [HGs.out]
        have : bl st = (xs.drop i1).take n := by rw [hstd]; show ((⟨xs.toArray⟩ : ByteArray).extract i1 (i1 + n)).data.toList = _; rw [Lib.extract_data, Nat.add_sub_cancel_left]
        rw [this]
      rw [← hstd] at hcv
      clear hstd hsz
      go_upto_region 8 with fail
      rw [← hW3]
      clear hW3 q0 q1 q2 f1 f2 hcv
      have f0 := HB3.out.2.frozen 0
      have g1 := HB3.out.2.frozen 1
      have g2 := HB3.out.2.frozen 2
      have l0 := HB3.out.2.cell (j := 0) rfl
      have l1 := HB3.out.2.cell (j := 1) rfl
      have l2 := HB3.out.2.cell (j := 2) rfl
      have q0 := HB3.out.1.cell (j := 0) rfl
      have q1 := HB3.out.1.cell (j := 1) rfl
      have q2 := HB3.out.1.cell (j := 2) rfl
      obtain ⟨W4, hW4⟩ : ∃ W4 : World, W4 = set3 W3 (w.heap.size + 1) (.slice (some ⟨b, off, none⟩) xs.length cap) (.int .i64 ((i1 : Int) + (n : Int))) (.bool false) := ⟨_, rfl⟩
      have hB4 : BoxAt W4 w.heap.size 60 3 (w.heap.size + 1) [.slice (some ⟨b, off, none⟩) xs.length cap, .int .i64 ((i1 : Int) + (n : Int)), .bool false] := by rw [hW4]; exact HB3.out.2.set3 _ _ _
      have k4 : Below w.heap.size w W4 := by rw [hW4]; exact below_set3 k3 (by omega) _ _ _
      have p0 := hB4.cell (j := 0) rfl
      have p1 := hB4.cell (j := 1) rfl
      have p2 := hB4.cell (j := 2) rfl
      unfold set3 at hW4
      go_wp2_with fail
      rw [← hW4]
      exact bodyPost_ret (v := .tuple #[rdV b off cap xs.length (i1 + n) false, .string st]) (by simp [results, Tryd.results27, go_sem, p0, p1, p2]) rfl ⟨i1 + n, false, st, rfl, ⟨by omega, hst, .inr ⟨rfl, HSt.out⟩⟩, k4⟩

theorem below_drewN {B : Nat} {a w : World} (h : Below B a w) (q : Nat) : Below B a (w.drewN q) := by
  induction q with
  | zero => exact h
  | succ q ih => exact ih.drew
set_option maxHeartbeats 4000000 in
theorem l2GetFixed_core (b off cap : Nat) (xs : List UInt8) (i : Nat) (w : World) (hx : BysAt w b off xs) (hlen : xs.length ≤ 2 ^ 30) (hi : i + 4 ≤ xs.length) :
    Calls Tryd.prog 24 #[.slice (some ⟨b, off, none⟩) xs.length cap, .int .i64 (i : Int)] w fun r w' => r = .returned (.int .u32 (fixAt xs i : Int)) ∧ Below w.heap.size w w' := by
  have g : ∀ j, j < xs.length → w.cell? ⟨b, off + j, none⟩ = some (.int .u8 ((xs.getD j 0).toNat : Int)) := by
    intro j hj
    rw [hx j xs[j] (List.getElem?_eq_getElem hj), List.getD_eq_getElem?_getD, List.getElem?_eq_getElem hj]
    rfl
  have c0 := g i (by omega)
  have c1 := g (i + 1) (by omega)
  have c2 := g (i + 2) (by omega)
  have c3 := g (i + 3) (by omega)
  have HF : Hid (fixAt xs i = (xs.getD i 0).toNat + 256 * (xs.getD (i + 1) 0).toNat + 65536 * (xs.getD (i + 2) 0).toNat + 16777216 * (xs.getD (i + 3) 0).toNat) := rfl
  have b0 := u8lt (xs.getD i 0)
  have b1 := u8lt (xs.getD (i + 1) 0)
  have b2 := u8lt (xs.getD (i + 2) 0)
  have b3 := u8lt (xs.getD (i + 3) 0)
  obtain ⟨y0, hy0⟩ : ∃ y : Nat, (xs.getD i 0).toNat = y := ⟨_, rfl⟩
  obtain ⟨y1, hy1⟩ : ∃ y : Nat, (xs.getD (i + 1) 0).toNat = y := ⟨_, rfl⟩
  obtain ⟨y2, hy2⟩ : ∃ y : Nat, (xs.getD (i + 2) 0).toNat = y := ⟨_, rfl⟩
  obtain ⟨y3, hy3⟩ : ∃ y : Nat, (xs.getD (i + 3) 0).toNat = y := ⟨_, rfl⟩
  rw [hy0] at c0 b0 HF
  rw [hy1] at c1 b1 HF
  rw [hy2] at c2 b2 HF
  rw [hy3] at c3 b3 HF
  clear hy0 hy1 hy2 hy3 g hx
  rw [HF.out]
  clear HF
  obtain ⟨j1, hj1⟩ : ∃ j : Nat, j = i + 1 := ⟨_, rfl⟩
  obtain ⟨j2, hj2⟩ : ∃ j : Nat, j = i + 2 := ⟨_, rfl⟩
  obtain ⟨j3, hj3⟩ : ∃ j : Nat, j = i + 3 := ⟨_, rfl⟩
  rw [← hj1] at c1
  rw [← hj2] at c2
  rw [← hj3] at c3
  have e1 : (i : Int) + 1 = (j1 : Int) := by omega
  have e2 : (i : Int) + 2 = (j2 : Int) := by omega
  have e3 : (i : Int) + 3 = (j3 : Int) := by omega
  obtain ⟨N, hN⟩ : ∃ N : Nat, xs.length = N := ⟨_, rfl⟩
  rw [hN] at hi hlen ⊢
  clear hN
  go_enter Tryd.func24, Tryd.ntmps24
  go_upto_region 1 with fail
  have z0 : (i : Int) < (N : Int) := by omega
  have z1 : (j1 : Int) < (N : Int) := by omega
  have z2 : (j2 : Int) < (N : Int) := by omega
  have z3 : (j3 : Int) < (N : Int) := by omega
  clear hj1 hj2 hj3
  go_quiet (fail)
  go_wp2_with fail
  go_ret
  refine ⟨?_, ?_⟩
  · show Ending.returned (Value.int .u32 ((y0 : Int) + 256 * (y1 : Int) + 65536 * (y2 : Int) + 16777216 * (y3 : Int))) = _
    congr 2
  · exact below_drewN (Below.refl _ _) _
end Go.Proofs.YtnncedndlhfdkacDoor

/-
  The file of blocks (mathematics).
-/
namespace Go.Proofs.YtnncedndlhfdkacDoor
set_option linter.unusedVariables false
set_option linter.unusedSimpArgs false

/-- The first row of a block. -/
def row0 : List Ent → List UInt8
  | [] => []
  | e :: _ => bl e.row
def sumOf (xs : List UInt8) : List UInt8 := fixed (crc xs).toNat
theorem sumOf_len (xs : List UInt8) : (sumOf xs).length = 4 := rfl
def fblock (es : List Ent) : List UInt8 := body [] es ++ sumOf (body [] es)
def fblocks (bs : List (List Ent)) : List UInt8 := bs.flatMap fblock
def fone (es : List Ent) : List UInt8 := num (body [] es).length ++ num es.length ++ strB (row0 es)
def fones (bs : List (List Ent)) : List UInt8 := bs.flatMap fone
def findex (bs : List (List Ent)) : List UInt8 := num bs.length ++ fones bs
def headB : List UInt8 := [82, 85, 78, 49]
def fileM (bs : List (List Ent)) : List UInt8 := headB ++ fblocks bs ++ findex bs ++ sumOf (findex bs) ++ fixed (findex bs).length
theorem fblocks_snoc (bs : List (List Ent)) (es : List Ent) : fblocks (bs ++ [es]) = fblocks bs ++ body [] es ++ sumOf (body [] es) := by
  simp [fblocks, fblock]
theorem fones_snoc (bs : List (List Ent)) (es : List Ent) : fones (bs ++ [es]) = fones bs ++ num (body [] es).length ++ num es.length ++ strB (row0 es) := by
  simp [fones, fone]
/-- What a block may be. -/
structure OkB (es : List Ent) : Prop where
  vld : ∀ e ∈ es, e.vld = true
  ok : ∀ e ∈ es, e.ok
  ne : 0 < es.length
theorem OkB.ts {es : List Ent} (h : OkB es) : ∀ e ∈ es, e.ts.toNat < 2 ^ 64 := fun e he => by have := wf_u64 (h.ok e he).ts; omega
theorem row0_len {es : List Ent} (h : OkB es) : (row0 es).length ≤ 64 := by
  cases es with
  | nil => simp [row0]
  | cons e es => have := vld_parts (h.vld e (by simp)); simp only [row0, bl_len]; omega
theorem fblocks_len : ∀ (bs : List (List Ent)), (∀ es ∈ bs, OkB es) → (fblocks bs).length ≤ 500 * bs.flatten.length + 4 * bs.length
  | [], _ => by simp [fblocks]
  | es :: bs, h => by
    have h1 := body_len es [] (h es (by simp)).vld (h es (by simp)).ts
    have h2 := fblocks_len bs (fun x hx => h x (by simp [hx]))
    simp only [fblocks, List.flatMap_cons, List.length_append, fblock, sumOf_len, List.flatten_cons, List.length_cons] at h2 ⊢
    omega
theorem fone_len {es : List Ent} (h : OkB es) (hl : es.length ≤ 10000) : (fone es).length ≤ 100 := by
  have h1 := body_len es [] h.vld h.ts
  have l1 := num_len64 (n := (body [] es).length) (by omega)
  have l2 := num_len64 (n := es.length) (by omega)
  have l3 := row0_len h
  have l4 := strB_len (s := row0 es) (by omega)
  simp only [fone, List.length_append]
  omega
theorem fones_len : ∀ (bs : List (List Ent)), (∀ es ∈ bs, OkB es) → bs.flatten.length ≤ 10000 → (fones bs).length ≤ 100 * bs.length
  | [], _, _ => by simp [fones]
  | es :: bs, h, hl => by
    simp only [List.flatten_cons, List.length_append] at hl
    have h1 := fone_len (h es (by simp)) (by omega)
    have h2 := fones_len bs (fun x hx => h x (by simp [hx])) (by omega)
    simp only [fones, List.flatMap_cons, List.length_append, List.length_cons] at h2 ⊢
    omega
theorem flatten_take (bs : List (List Ent)) (k : Nat) : (bs.take k).flatten.length ≤ bs.flatten.length := by
  have : bs.flatten = (bs.take k).flatten ++ (bs.drop k).flatten := by rw [← List.flatten_append, List.take_append_drop]
  rw [this, List.length_append]
  omega
theorem flatten_mem {bs : List (List Ent)} {es : List Ent} (h : es ∈ bs) : es.length ≤ bs.flatten.length := by
  obtain ⟨s, t, rfl⟩ := List.append_of_mem h
  simp
  omega
theorem blocks_many : ∀ (bs : List (List Ent)), (∀ es ∈ bs, OkB es) → bs.length ≤ bs.flatten.length
  | [], _ => by simp
  | es :: bs, h => by
    have h1 := (h es (by simp)).ne
    have h2 := blocks_many bs (fun x hx => h x (by simp [hx]))
    simp only [List.flatten_cons, List.length_append, List.length_cons]
    omega
end Go.Proofs.YtnncedndlhfdkacDoor

/-
  The index of a file, read (mathematics).
-/
namespace Go.Proofs.YtnncedndlhfdkacDoor
set_option linter.unusedVariables false
set_option linter.unusedSimpArgs false

/-- The string of bytes. -/
def ba (l : List UInt8) : ByteArray := ⟨l.toArray⟩
theorem bl_ba (l : List UInt8) : bl (ba l) = l := by simp [bl, ba]
theorem ba_bl (s : ByteArray) : ba (bl s) = s := by
  apply ByteArray.ext
  simp [bl, ba]
/-- One block of the index. -/
structure Blk where
  fr : Nat
  til : Nat
  count : Nat
  row : ByteArray
def oneBlk (n lim p : Nat) (t : List UInt8) : Option (Blk × Nat × List UInt8) :=
  match getNum t with
  | none => none
  | some (size, t1) =>
    match getNum t1 with
    | none => none
    | some (count, t2) =>
      match getStr t2 with
      | none => none
      | some (row, t3) => if count < 1 ∨ 1000 < count ∨ n < size ∨ lim < p + size + 4 then none else some (⟨p, p + size, count, ba row⟩, p + size + 4, t3)
def getBlks (n lim : Nat) : Nat → Nat → List UInt8 → Option (List Blk × Nat × List UInt8)
  | 0, p, t => some ([], p, t)
  | k + 1, p, t =>
    match oneBlk n lim p t with
    | none => none
    | some (b, p1, t1) =>
      match getBlks n lim k p1 t1 with
      | none => none
      | some (l, p2, t2) => some (b :: l, p2, t2)
def pre (l : List Blk) (o : Option (List Blk × Nat × List UInt8)) : Option (List Blk × Nat × List UInt8) :=
  match o with
  | none => none
  | some (l', p, t) => some (l ++ l', p, t)
theorem pre_nil (o : Option (List Blk × Nat × List UInt8)) : pre [] o = o := by
  cases o with
  | none => rfl
  | some q => obtain ⟨l, p, t⟩ := q; rfl
/-- The blocks read so far and what follows. -/
def BlksTo (n lim K : Nat) (t0 : List UInt8) (k : Nat) (l : List Blk) (p : Nat) (t : List UInt8) : Prop := k ≤ K ∧ l.length = k ∧ getBlks n lim K 4 t0 = pre l (getBlks n lim (K - k) p t)
theorem blksTo_zero (n lim K : Nat) (t0 : List UInt8) : BlksTo n lim K t0 0 [] 4 t0 := ⟨Nat.zero_le _, rfl, by rw [pre_nil]; rfl⟩
theorem BlksTo.more {n lim K : Nat} {t0 : List UInt8} {k : Nat} {l : List Blk} {p : Nat} {t : List UInt8} (h : BlksTo n lim K t0 k l p t) (hk : k < K) {b : Blk} {p1 : Nat} {t1 : List UInt8} (ho : oneBlk n lim p t = some (b, p1, t1)) : BlksTo n lim K t0 (k + 1) (l ++ [b]) p1 t1 := by
  refine ⟨hk, by rw [List.length_append, h.2.1]; rfl, ?_⟩
  rw [h.2.2, show K - k = (K - (k + 1)) + 1 by omega, getBlks, ho]
  simp only []
  cases getBlks n lim (K - (k + 1)) p1 t1 with
  | none => rfl
  | some q => obtain ⟨l', p', t'⟩ := q; simp [pre]
theorem BlksTo.stop {n lim K : Nat} {t0 : List UInt8} {k : Nat} {l : List Blk} {p : Nat} {t : List UInt8} (h : BlksTo n lim K t0 k l p t) (hk : k < K) (ho : oneBlk n lim p t = none) : getBlks n lim K 4 t0 = none := by
  rw [h.2.2, show K - k = (K - (k + 1)) + 1 by omega, getBlks, ho]
  rfl
theorem BlksTo.done {n lim K : Nat} {t0 : List UInt8} {l : List Blk} {p : Nat} {t : List UInt8} (h : BlksTo n lim K t0 K l p t) : getBlks n lim K 4 t0 = some (l, p, t) := by
  rw [h.2.2, Nat.sub_self]
  simp [getBlks, pre]
def idxEnd (lim : Nat) (o : Option (List Blk × Nat × List UInt8)) : Int × List Blk :=
  match o with
  | none => (1, [])
  | some (l, p, t') => if t' ≠ [] ∨ p ≠ lim then (1, []) else (0, l)
/-- What l2Index answers. -/
def idxBody (n lim : Nat) (ix : List UInt8) : Int × List Blk :=
  match getNum ix with
  | none => (1, [])
  | some (k, t) => if 10000 < k then (1, []) else idxEnd lim (getBlks n lim k 4 t)
def idxM (b : List UInt8) : Int × List Blk :=
  if b.length < 13 ∨ b.take 4 ≠ headB then (1, []) else
  if b.length < fixAt b (b.length - 4) + 12 then (1, []) else
  if (crc ((b.drop (b.length - 8 - fixAt b (b.length - 4))).take (fixAt b (b.length - 4)))).toNat ≠ fixAt b (b.length - 8) then (2, []) else
  idxBody b.length (b.length - 8 - fixAt b (b.length - 4)) ((b.drop (b.length - 8 - fixAt b (b.length - 4))).take (fixAt b (b.length - 4)))
/-- Blocks of an index lie within the file. -/
def Blk.in (n : Nat) (b : Blk) : Prop := 4 ≤ b.fr ∧ b.fr ≤ b.til ∧ b.til + 4 ≤ n ∧ 1 ≤ b.count ∧ b.count ≤ 1000
theorem oneBlk_in {n lim p : Nat} {t : List UInt8} {b : Blk} {p1 : Nat} {t1 : List UInt8} (h : oneBlk n lim p t = some (b, p1, t1)) (hp : 4 ≤ p) : b.in lim ∧ p ≤ p1 ∧ p1 ≤ lim := by
  unfold oneBlk at h
  cases h1 : getNum t with
  | none => rw [h1] at h; cases h
  | some q =>
    obtain ⟨size, u1⟩ := q
    rw [h1] at h
    simp only [] at h
    cases h2 : getNum u1 with
    | none => rw [h2] at h; cases h
    | some q =>
      obtain ⟨count, u2⟩ := q
      rw [h2] at h
      simp only [] at h
      cases h3 : getStr u2 with
      | none => rw [h3] at h; cases h
      | some q =>
        obtain ⟨row, u3⟩ := q
        rw [h3] at h
        simp only [] at h
        split at h
        · cases h
        · simp only [Option.some.injEq, Prod.mk.injEq] at h
          obtain ⟨rfl, rfl, rfl⟩ := h
          refine ⟨⟨hp, ?_, ?_, ?_, ?_⟩, ?_, ?_⟩ <;> (try simp only []) <;> omega
theorem getBlks_in {n lim : Nat} : ∀ (k p : Nat) (t : List UInt8) (l : List Blk) (p1 : Nat) (t1 : List UInt8), getBlks n lim k p t = some (l, p1, t1) → 4 ≤ p → (∀ b ∈ l, b.in lim) ∧ l.length = k
  | 0, p, t, l, p1, t1, h, hp => by
    simp only [getBlks, Option.some.injEq, Prod.mk.injEq] at h
    obtain ⟨rfl, _, _⟩ := h
    exact ⟨fun b hb => by simp at hb, rfl⟩
  | k + 1, p, t, l, p1, t1, h, hp => by
    rw [getBlks] at h
    cases ho : oneBlk n lim p t with
    | none => rw [ho] at h; cases h
    | some q =>
      obtain ⟨b, p2, t2⟩ := q
      rw [ho] at h
      simp only [] at h
      obtain ⟨hb, hp2, _⟩ := oneBlk_in ho hp
      cases hg : getBlks n lim k p2 t2 with
      | none => rw [hg] at h; cases h
      | some q =>
        obtain ⟨l', p3, t3⟩ := q
        rw [hg] at h
        simp only [Option.some.injEq, Prod.mk.injEq] at h
        obtain ⟨rfl, _, _⟩ := h
        obtain ⟨h1, h2⟩ := getBlks_in k p2 t2 l' p3 t3 hg (by omega)
        refine ⟨fun x hx => ?_, by simp [h2]⟩
        rcases List.mem_cons.1 hx with rfl | hx
        · exact hb
        · exact h1 x hx
theorem idxM_in (b : List UInt8) : ∀ k ∈ (idxM b).2, k.in b.length := by
  intro k hk
  unfold idxM at hk
  split at hk
  · simp at hk
  split at hk
  · simp at hk
  split at hk
  · simp at hk
  unfold idxBody at hk
  split at hk
  · simp at hk
  · split at hk
    · simp at hk
    · unfold idxEnd at hk
      split at hk
      · simp at hk
      · next heq =>
        split at hk
        · simp at hk
        · obtain ⟨h1, h2, h3, h4, h5⟩ := (getBlks_in _ _ _ _ _ _ heq (Nat.le_refl _)).1 k hk
          exact ⟨h1, h2, by omega, h4, h5⟩
end Go.Proofs.YtnncedndlhfdkacDoor

