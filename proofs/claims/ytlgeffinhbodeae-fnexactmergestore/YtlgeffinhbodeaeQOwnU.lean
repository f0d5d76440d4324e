/-
  A run that came back: of the call's own, or nil; its marks.
-/
import Derived.Test.YtlgeffinhbodeaeQHeld
namespace Go.Proofs.Ytlgeffinhbodeae
open Go.ChangeShapes Go.WideShapes Go.ChangeAt Go.RowKit Go.Deep
set_option linter.unusedVariables false
set_option maxRecDepth 100000

/-- A slice of the call's own, or nil. -/
def OwnU (w : World) (base : Nat) (u : Value) (R : List Ent) : Prop := (u = .slice none 0 0 ∧ R = []) ∨ ∃ g cp, u = .slice (some ⟨g, 0, none⟩) R.length cp ∧ OwnE w base g cp R
theorem OwnE.caps {w : World} {base g cp : Nat} {R : List Ent} (h : OwnE w base g cp R) : R.length ≤ cp ∧ cp ≤ maxLen := by
  rcases h.2 with ⟨h0, _⟩ | ⟨g', cap', cur, hv, _, _, hn, hcap, _, _⟩
  · cases h0
  · simp only [Value.slice.injEq, Option.some.injEq, Addr.mk.injEq, and_true, true_and] at hv
    obtain ⟨rfl, rfl⟩ := hv
    exact ⟨hn, hcap⟩
theorem OwnU.ins {w : World} {base : Nat} {u : Value} {R : List Ent} (h : OwnU w base u R) : InEnts w u R := by
  rcases h with ⟨rfl, rfl⟩ | ⟨g, cp, rfl, hO⟩
  · exact .inl ⟨_, _, rfl, rfl⟩
  · exact InEnts.own hO hO.caps.1 hO.caps.2
theorem OwnU.kept {w w' : World} {base : Nat} {u : Value} {R : List Ent} {row : Option Nat} (h : OwnU w base u R) (hg : w.grownBy w' row) (hne : ∀ g, row = some g → g < base) : OwnU w' base u R := by
  rcases h with h | ⟨g, cp, rfl, hO⟩
  · exact .inl h
  · exact .inr ⟨g, cp, rfl, World.ownsRow.kept hO hg (.inr (fun q => by have := hne g q.symm; have := hO.lt.1; omega))⟩
theorem OwnU.row {w : World} {base : Nat} {u : Value} {R : List Ent} (h : OwnU w base u R) : ∀ g, u.ownBlock = some g → base ≤ g ∧ g < w.heap.size := by
  intro g hg
  rcases h with ⟨rfl, _⟩ | ⟨g', cp, rfl, hO⟩
  · cases hg
  · have : g' = g := Option.some.inj hg
    subst this
    exact hO.lt
theorem OwnU.keptNe {w w' : World} {base : Nat} {u : Value} {R : List Ent} {row : Option Nat} (h : OwnU w base u R) (hg : w.grownBy w' row) (hne : ∀ g, u.ownBlock = some g → row ≠ some g) : OwnU w' base u R := by
  rcases h with h | ⟨g, cp, rfl, hO⟩
  · exact .inl h
  · exact .inr ⟨g, cp, rfl, World.ownsRow.kept hO hg (.inr (fun q => hne g rfl q.symm))⟩
theorem OwnU.ownCells {w : World} {base : Nat} {u : Value} {R : List Ent} (h : OwnU w base u R) : u.cells = #[u] := by
  rcases h with ⟨rfl, _⟩ | ⟨g, cp, rfl, _⟩ <;> rfl

set_option maxHeartbeats 400000 in
theorem markEntryS_zero (a : Option Addr) (cap : Nat) (k : Int) (w : World) :
    Calls Try.prog 156 #[.slice a 0 cap, .int .i64 k] w fun e w' => e = .returned (.int .i64 k) ∧ Below w.heap.size w w' := by
  go_enter Try.func156, Try.ntmps156
  go_wp2
  go_loopw [1, 5] (fun c i wr => c = .int .i64 k ∧ i = .int .i64 0 ∧ wr = w) (fun _ i _ => 0)
  case atStart => exact ⟨rfl, rfl, rfl⟩
  case round =>
    obtain ⟨rfl, rfl, rfl⟩ := hrel
    go_wp2_with fail
    go_ret
    exact ⟨rfl, Below.refl _ _⟩
set_option maxHeartbeats 400000 in
theorem heldEntryS_zero (a : Option Addr) (cap : Nat) (k : Int) (w : World) :
    Calls Try.prog 157 #[.slice a 0 cap, .int .i64 k] w fun e w' => e = .returned (.int .i64 k) ∧ Below w.heap.size w w' := by
  go_enter Try.func157, Try.ntmps157
  go_wp2
  go_loopw [1, 5] (fun c i wr => c = .int .i64 k ∧ i = .int .i64 0 ∧ wr = w) (fun _ i _ => 0)
  case atStart => exact ⟨rfl, rfl, rfl⟩
  case round =>
    obtain ⟨rfl, rfl, rfl⟩ := hrel
    go_wp2_with fail
    go_ret
    exact ⟨rfl, Below.refl _ _⟩

/-- Marks laid: only blocks from 'base' on have turned. -/
theorem markEntryS_own (base : Nat) (u : Value) (R : List Ent) (k : Int) (w : World) (h : OwnU w base u R) (h0 : 0 < k) (h1 : k ≤ 2 ^ 30) (hn : R.length ≤ 1048576) (hbase : base ≤ w.heap.size) :
    Calls Try.prog 156 #[u, .int .i64 k] w fun e w' =>
      ∃ R', e = .returned (.int .i64 (k + R.length * 6)) ∧ OwnU w' base u R' ∧ R'.length = R.length ∧ marked k R' R'.length ∧ w.grownBy w' u.ownBlock := by
  rcases h with ⟨rfl, rfl⟩ | ⟨g, cp, rfl, hO⟩
  · refine (markEntryS_zero none 0 k w).mono ?_
    rintro e w' ⟨rfl, hb⟩
    exact ⟨[], by simp, .inl ⟨rfl, rfl⟩, rfl, fun j hj => by simp at hj, grown_of_below hb _⟩
  · refine (markEntryS_core base g cp R k w hO h0 h1 hn).mono ?_
    rintro e w' ⟨fs, rfl, hO', hl, hm, hg⟩
    exact ⟨fs, rfl, .inr ⟨g, cp, by rw [hl], hO'⟩, hl, by rw [hl]; exact hm, hg⟩
theorem heldEntryS_own (base : Nat) (u : Value) (R : List Ent) (k : Int) (w : World) (h : OwnU w base u R) (hm : marked k R R.length) (h0 : 0 < k) (h1 : k ≤ 2 ^ 30) (hn : R.length ≤ 1048576) :
    Calls Try.prog 157 #[u, .int .i64 k] w fun e w' => e = .returned (.int .i64 (k + R.length * 6)) ∧ Below w.heap.size w w' := by
  rcases h with ⟨rfl, rfl⟩ | ⟨g, cp, rfl, hO⟩
  · refine (heldEntryS_zero none 0 k w).mono ?_
    rintro e w' ⟨rfl, hb⟩
    exact ⟨by simp, hb⟩
  · exact heldEntryS_core g 0 cp R k w hO.at hm hO.lt.2 h0 h1 hn

end Go.Proofs.Ytlgeffinhbodeae
