/-
  Runs that are valid: spec.ValidRun and impl.ValidRun.
-/
import Derived.Test.YtlgeffinhbodeaeQRow
import Derived.Test.YtlgeffinhbodeaeQCmp2
import Derived.Deep.DeepCutAuto
import Derived.Deep.RegionWith
namespace Go.Proofs.Ytlgeffinhbodeae
open Go.ChangeShapes Go.WideShapes Go.ChangeAt Go.RowKit Go.Deep
set_option linter.unusedVariables false

def Ent.vld (e : Ent) : Bool := vE e.row e.fam e.qual e.kind e.val
/-- One column? -/
def sameCol (a b : Ent) : Bool := (a.row.toList == b.row.toList) && ((a.fam.toList == b.fam.toList) && (a.qual.toList == b.qual.toList))

set_option maxHeartbeats 400000 in
theorem sameColumn_any (a b : Ent) (w : World) :
    Calls Try.prog 48 #[a.v, b.v] w fun e w' => e = .returned (.bool (sameCol a b)) ∧ Below w.heap.size w w' := by
  unfold sameCol Ent.v
  cases h1 : (a.row.toList == b.row.toList)
  · go_enter Try.func48, Try.ntmps48
    go_wp2
    go_ret
    exact ⟨by simp, ((Below.refl _ _).alloc (Nat.le_refl _) _).alloc (by simp) _⟩
  · cases h2 : (a.fam.toList == b.fam.toList)
    · go_enter Try.func48, Try.ntmps48
      go_wp2
      go_ret
      exact ⟨by simp, ((Below.refl _ _).alloc (Nat.le_refl _) _).alloc (by simp) _⟩
    · go_enter Try.func48, Try.ntmps48
      go_wp2
      go_ret
      exact ⟨by simp, ((Below.refl _ _).alloc (Nat.le_refl _) _).alloc (by simp) _⟩

set_option maxHeartbeats 400000 in
theorem column_any (a : Ent) (w : World) :
    Calls Try.prog 95 #[a.v] w fun e w' => e = .returned (.agg #[.string a.row, .string a.fam, .string a.qual]) ∧ Below w.heap.size w w' := by
  unfold Ent.v
  go_enter Try.func95, Try.ntmps95
  go_wp2
  refine bodyPost_ret (v := .agg #[.string a.row, .string a.fam, .string a.qual]) (by simp [results, Try.results95, go_sem]) rfl ⟨rfl, ?_⟩
  exact ((Below.refl _ _).alloc (Nat.le_refl _) _).alloc (by simp) _

theorem colEq_run (a b : Ent) (wx : World) : (binOp .eql 97 (.agg #[.string a.row, .string a.fam, .string a.qual]) (.agg #[.string b.row, .string b.fam, .string b.qual])).run Try.prog wx = .ok (.bool (sameCol a b)) wx := by
  unfold sameCol
  cases h1 : (a.row.toList == b.row.toList)
  · go_simp
  · cases h2 : (a.fam.toList == b.fam.toList)
    · go_simp
    · cases h3 : (a.qual.toList == b.qual.toList)
      · go_simp
      · go_simp

theorem lift_in {P : Program} {f : Nat} {args : Array Value} {w : World} {v : Value} (W0 : World) (h : Below W0.heap.size W0 w) (c : Calls P f args w fun e w' => e = .returned v ∧ Below w.heap.size w w') :
    Calls P f args w fun e w' => e = .returned v ∧ Below W0.heap.size W0 w' ∧ (∀ b o, b < W0.heap.size → w'.cell? ⟨b, o, none⟩ = W0.cell? ⟨b, o, none⟩) := by
  refine c.mono ?_
  rintro e w' ⟨he, hb⟩
  have k := h.trans (hb.mono h.size)
  exact ⟨he, k, fun b o hlt => k.cell (p := ⟨b, o, none⟩) hlt⟩

/-- May 'p' stand right before 'e' in a run? -/
def okPair (p e : Ent) : Bool := (keyCmp p e == -1) && !((p.kind == 2) && ((e.kind == 2) && sameCol p e))

set_option maxHeartbeats 1000000 in
theorem mayPrecede_any (a b : Ent) (w : World) :
    Calls Try.prog 129 #[a.v, b.v] w fun e w' => e = .returned (.bool (okPair a b)) ∧ Below w.heap.size w w' := by
  unfold Ent.v
  cases ga : (a.kind == 2)
  · have H : Hid (okPair a b = decide (keyCmp a b < 0)) := by
      show okPair a b = _
      unfold okPair; rw [ga]
      rcases keyCmp_vals a b with h | h | h <;> rw [h] <;> rfl
    go_enter Try.func129, Try.ntmps129
    go_wp2_with fail
    go_quiet (fail)
    go_wp2_with fail
    refine (compare_any a b _).mono ?_
    rintro e w1 ⟨rfl, hb1⟩
    go_wp2_with fail
    go_ret
    exact ⟨ret_bool H.out.symm, (below_drewN (((Below.refl _ _).alloc (Nat.le_refl _) _).alloc (by simp) _) _).trans (hb1.mono (by simp; omega))⟩
  · cases gb : (b.kind == 2)
    · have H : Hid (okPair a b = decide (keyCmp a b < 0)) := by
        show okPair a b = _
        unfold okPair; rw [ga, gb]
        rcases keyCmp_vals a b with h | h | h <;> rw [h] <;> rfl
      go_enter Try.func129, Try.ntmps129
      go_wp2_with fail
      go_quiet (fail)
      go_wp2_with fail
      refine (compare_any a b _).mono ?_
      rintro e w1 ⟨rfl, hb1⟩
      go_wp2_with fail
      go_ret
      exact ⟨ret_bool H.out.symm, (below_drewN (((Below.refl _ _).alloc (Nat.le_refl _) _).alloc (by simp) _) _).trans (hb1.mono (by simp; omega))⟩
    · go_enter Try.func129, Try.ntmps129
      go_upto_region 1 with fail
      obtain ⟨W0, hW0⟩ : ∃ W0 : World, W0 = (w.alloc (Obj.cells #[.string a.row, .string a.fam, .string a.qual, .int .u64 a.ts, .int .i64 a.kind, .string a.val] 85)).alloc (Obj.cells #[.string b.row, .string b.fam, .string b.qual, .int .u64 b.ts, .int .i64 b.kind, .string b.val] 85) := ⟨_, rfl⟩
      have hb0 : Below w.heap.size w W0 := by rw [hW0]; exact ((Below.refl _ _).alloc (Nat.le_refl _) _).alloc (by simp) _
      have hz0 : w.heap.size + 1 < W0.heap.size := by rw [hW0]; simp
      have ca : ∀ o, W0.cell? ⟨w.heap.size, o, none⟩ = ((w.alloc (Obj.cells #[.string a.row, .string a.fam, .string a.qual, .int .u64 a.ts, .int .i64 a.kind, .string a.val] 85)).alloc (Obj.cells #[.string b.row, .string b.fam, .string b.qual, .int .u64 b.ts, .int .i64 b.kind, .string b.val] 85)).cell? ⟨w.heap.size, o, none⟩ := fun o => by rw [hW0]
      have cb : ∀ o, W0.cell? ⟨w.heap.size + 1, o, none⟩ = ((w.alloc (Obj.cells #[.string a.row, .string a.fam, .string a.qual, .int .u64 a.ts, .int .i64 a.kind, .string a.val] 85)).alloc (Obj.cells #[.string b.row, .string b.fam, .string b.qual, .int .u64 b.ts, .int .i64 b.kind, .string b.val] 85)).cell? ⟨w.heap.size + 1, o, none⟩ := fun o => by rw [hW0]
      rw [← hW0]
      clear hW0
      go_cut [19] (fun s wx => s = .bool (sameCol a b) ∧ Below W0.heap.size W0 wx)
      case first =>
        have e3 := colEq_run a b
        go_region_with (first
          | (go_at_call_of 95 (a.row); refine (lift_in W0 ?hB (column_any a _)).mono ?_; (case hB => (repeat (first | assumption | exact Below.refl _ _ | refine Below.drew ?_))); rintro e w' ⟨rfl, hbb, hcc⟩)
          | (go_at_call_of 95 (b.row); refine (lift_in W0 ?hB (column_any b _)).mono ?_; (case hB => (repeat (first | assumption | exact Below.refl _ _ | refine Below.drew ?_))); rintro e w' ⟨rfl, hbb, hcc⟩))
        all_goals go_wp2_with fail
        all_goals go_meet
        all_goals exact ⟨rfl, by assumption⟩
      case rest =>
      obtain ⟨rfl, h3⟩ := hcut
      have ca3 : ∀ o, wc.cell? ⟨w.heap.size, o, none⟩ = W0.cell? ⟨w.heap.size, o, none⟩ := fun o => h3.cell (p := ⟨w.heap.size, o, none⟩) (by show w.heap.size < _; omega)
      have cb3 : ∀ o, wc.cell? ⟨w.heap.size + 1, o, none⟩ = W0.cell? ⟨w.heap.size + 1, o, none⟩ := fun o => h3.cell (p := ⟨w.heap.size + 1, o, none⟩) hz0
      cases hs : sameCol a b
      · have H : Hid (okPair a b = decide (keyCmp a b < 0)) := by
          show okPair a b = _
          unfold okPair; rw [ga, gb, hs]
          rcases keyCmp_vals a b with h | h | h <;> rw [h] <;> rfl
        go_wp2_with fail
        refine (compare_any a b _).mono ?_
        rintro e w1 ⟨rfl, hb1⟩
        go_wp2_with fail
        go_ret
        exact ⟨ret_bool H.out.symm, (hb0.trans (h3.mono (by omega))).trans (hb1.mono (by have := h3.size; omega))⟩
      · have H : Hid (okPair a b = false) := by
          show okPair a b = _
          unfold okPair; rw [ga, gb, hs]; simp
        go_wp2_with fail
        go_ret
        exact ⟨ret_bool H.out.symm, hb0.trans (h3.mono (by omega))⟩
end Go.Proofs.Ytlgeffinhbodeae
