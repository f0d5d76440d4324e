/-
  Runs that are valid: spec.ValidRun and impl.ValidRun.
-/
import Derived.Test.YtjphalbjimggcacRow
import Derived.Test.YtjphalbjimggcacCmp2
import Derived.Deep.DeepCutAuto
import Derived.Deep.RegionWith
namespace Go.Proofs.Ytjphalbjimggcac
open Go.ChangeShapes Go.WideShapes Go.ChangeAt Go.RowKit Go.Deep
set_option linter.unusedVariables false

def Ent.vld (e : Ent) : Bool := vE e.row e.fam e.qual e.kind e.val
/-- One column? -/
def sameCol (a b : Ent) : Bool := (a.row.toList == b.row.toList) && ((a.fam.toList == b.fam.toList) && (a.qual.toList == b.qual.toList))

set_option maxHeartbeats 400000 in
theorem sameColumn_any (a b : Ent) (w : World) :
    Calls Try.prog 22 #[a.v, b.v] w fun e w' => e = .returned (.bool (sameCol a b)) ∧ Below w.heap.size w w' := by
  unfold sameCol Ent.v
  cases h1 : (a.row.toList == b.row.toList)
  · go_enter Try.func22, Try.ntmps22
    go_wp2
    go_ret
    exact ⟨by simp, ((Below.refl _ _).alloc (Nat.le_refl _) _).alloc (by simp) _⟩
  · cases h2 : (a.fam.toList == b.fam.toList)
    · go_enter Try.func22, Try.ntmps22
      go_wp2
      go_ret
      exact ⟨by simp, ((Below.refl _ _).alloc (Nat.le_refl _) _).alloc (by simp) _⟩
    · go_enter Try.func22, Try.ntmps22
      go_wp2
      go_ret
      exact ⟨by simp, ((Below.refl _ _).alloc (Nat.le_refl _) _).alloc (by simp) _⟩

set_option maxHeartbeats 400000 in
theorem column_any (a : Ent) (w : World) :
    Calls Try.prog 55 #[a.v] w fun e w' => e = .returned (.agg #[.string a.row, .string a.fam, .string a.qual]) ∧ Below w.heap.size w w' := by
  unfold Ent.v
  go_enter Try.func55, Try.ntmps55
  go_wp2
  refine bodyPost_ret (v := .agg #[.string a.row, .string a.fam, .string a.qual]) (by simp [results, Try.results55, go_sem]) rfl ⟨rfl, ?_⟩
  exact ((Below.refl _ _).alloc (Nat.le_refl _) _).alloc (by simp) _

theorem colEq_run (a b : Ent) (wx : World) : (binOp .eql 75 (.agg #[.string a.row, .string a.fam, .string a.qual]) (.agg #[.string b.row, .string b.fam, .string b.qual])).run Try.prog wx = .ok (.bool (sameCol a b)) wx := by
  unfold sameCol
  cases h1 : (a.row.toList == b.row.toList)
  · go_simp
  · cases h2 : (a.fam.toList == b.fam.toList)
    · go_simp
    · cases h3 : (a.qual.toList == b.qual.toList)
      · go_simp
      · go_simp

theorem lift_in {P : Program} {f : Nat} {args : Array Value} {w : World} {v : Value} (W0 : World) (h : Below W0.heap.size W0 w) (c : Calls P f args w fun e w' => e = .returned v ∧ Below w.heap.size w w') :
    Calls P f args w fun e w' => e = .returned v ∧ Below W0.heap.size W0 w' ∧ (∀ b o, b < W0.heap.size → w'.cell? ⟨b, o, none⟩ = W0.cell? ⟨b, o, none⟩) := by
  refine c.mono ?_
  rintro e w' ⟨he, hb⟩
  have k := h.trans (hb.mono h.size)
  exact ⟨he, k, fun b o hlt => k.cell (p := ⟨b, o, none⟩) hlt⟩

/-- May 'p' stand right before 'e' in a run? -/
def okPair (p e : Ent) : Bool := (keyCmp p e == -1) && !((p.kind == 2) && ((e.kind == 2) && sameCol p e))

end Go.Proofs.Ytjphalbjimggcac
