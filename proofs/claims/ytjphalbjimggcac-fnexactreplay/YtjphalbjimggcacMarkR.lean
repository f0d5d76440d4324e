/-
  Marks in a run that came back.
-/
import Derived.Test.YtjphalbjimggcacHeld
import Derived.Test.YtjphalbjimggcacBuildI
namespace Go.Proofs.Ytjphalbjimggcac
open Go.ChangeShapes Go.WideShapes Go.ChangeAt Go.RowKit Go.Deep
set_option linter.unusedVariables false
set_option maxRecDepth 100000

/-- A slice of the call's own, or nil. -/
def OwnU (w : World) (base : Nat) (u : Value) (R : List Ent) : Prop := (u = .slice none 0 0 ∧ R = []) ∨ ∃ g cp, u = .slice (some ⟨g, 0, none⟩) R.length cp ∧ OwnE w base g cp R
theorem OwnE.caps {w : World} {base g cp : Nat} {R : List Ent} (h : OwnE w base g cp R) : R.length ≤ cp ∧ cp ≤ maxLen := by
  rcases h.2 with ⟨h0, _⟩ | ⟨g', cap', cur, hv, _, _, hn, hcap, _, _⟩
  · cases h0
  · simp only [Value.slice.injEq, Option.some.injEq, Addr.mk.injEq, and_true, true_and] at hv
    obtain ⟨rfl, rfl⟩ := hv
    exact ⟨hn, hcap⟩
theorem OwnU.ins {w : World} {base : Nat} {u : Value} {R : List Ent} (h : OwnU w base u R) : InEnts w u R := by
  rcases h with ⟨rfl, rfl⟩ | ⟨g, cp, rfl, hO⟩
  · exact .inl ⟨_, _, rfl, rfl⟩
  · exact InEnts.own hO hO.caps.1 hO.caps.2
theorem OwnU.kept {w w' : World} {base : Nat} {u : Value} {R : List Ent} {row : Option Nat} (h : OwnU w base u R) (hg : w.grownBy w' row) (hne : ∀ g, row = some g → g < base) : OwnU w' base u R := by
  rcases h with h | ⟨g, cp, rfl, hO⟩
  · exact .inl h
  · exact .inr ⟨g, cp, rfl, hO.kept hg (fun q => by have := hne g q.symm; have := hO.lt.1; omega)⟩
theorem OwnU.row {w : World} {base : Nat} {u : Value} {R : List Ent} (h : OwnU w base u R) : ∀ g, u.ownBlock = some g → base ≤ g ∧ g < w.heap.size := by
  intro g hg
  rcases h with ⟨rfl, _⟩ | ⟨g', cp, rfl, hO⟩
  · cases hg
  · have : g' = g := Option.some.inj hg
    subst this
    exact hO.lt
theorem OwnU.keptNe {w w' : World} {base : Nat} {u : Value} {R : List Ent} {row : Option Nat} (h : OwnU w base u R) (hg : w.grownBy w' row) (hne : ∀ g, u.ownBlock = some g → row ≠ some g) : OwnU w' base u R := by
  rcases h with h | ⟨g, cp, rfl, hO⟩
  · exact .inl h
  · exact .inr ⟨g, cp, rfl, hO.kept hg (fun q => hne g rfl q.symm)⟩
theorem OwnU.ownCells {w : World} {base : Nat} {u : Value} {R : List Ent} (h : OwnU w base u R) : u.cells = #[u] := by
  rcases h with ⟨rfl, _⟩ | ⟨g, cp, rfl, _⟩ <;> rfl

set_option maxHeartbeats 400000 in
theorem markEntryS_zero (a : Option Addr) (cap : Nat) (k : Int) (w : World) :
    Calls Try.prog 11 #[.slice a 0 cap, .int .i64 k] w fun e w' => e = .returned (.int .i64 k) ∧ Below w.heap.size w w' := by
  go_enter Try.func11, Try.ntmps11
  go_wp2
  go_loopw [1, 5] (fun c i wr => c = .int .i64 k ∧ i = .int .i64 0 ∧ wr = w) (fun _ i _ => 0)
  case atStart => exact ⟨rfl, rfl, rfl⟩
  case round =>
    obtain ⟨rfl, rfl, rfl⟩ := hrel
    go_wp2_with fail
    go_ret
    exact ⟨rfl, Below.refl _ _⟩
/-- Marks laid: only blocks from 'base' on have turned. -/
theorem markEntryS_own (base : Nat) (u : Value) (R : List Ent) (k : Int) (w : World) (h : OwnU w base u R) (h0 : 0 < k) (h1 : k ≤ 2 ^ 30) (hn : R.length ≤ 1048576) (hbase : base ≤ w.heap.size) :
    Calls Try.prog 11 #[u, .int .i64 k] w fun e w' =>
      ∃ R', e = .returned (.int .i64 (k + R.length * 6)) ∧ OwnU w' base u R' ∧ R'.length = R.length ∧ marked k R' R'.length ∧ w.grownBy w' u.ownBlock := by
  rcases h with ⟨rfl, rfl⟩ | ⟨g, cp, rfl, hO⟩
  · refine (markEntryS_zero none 0 k w).mono ?_
    rintro e w' ⟨rfl, hb⟩
    exact ⟨[], by simp, .inl ⟨rfl, rfl⟩, rfl, fun j hj => by simp at hj, grown_of_below hb _⟩
  · refine (markEntryS_core base g cp R k w hO h0 h1 hn).mono ?_
    rintro e w' ⟨fs, rfl, hO', hl, hm, hg⟩
    exact ⟨fs, rfl, .inr ⟨g, cp, by rw [hl], hO'⟩, hl, by rw [hl]; exact hm, hg⟩
/-- What a run of 'ws' may be. -/
def RunOf (ws R : List Ent) : Prop := (GoodW ws → Kept ws ws.length R) ∧ (¬ GoodW ws → R = [])
theorem runOf_uniq {ws R S : List Ent} (h : RunOf ws R) (k : RunOf ws S) : R = S := by
  by_cases g : GoodW ws
  · exact kept_uniq (h.1 g) (k.1 g)
  · rw [h.2 g, k.2 g]
theorem implBuild_any (g : Nat) (ws : List Ent) (base : Nat) (w : World) (hO : OwnE w base g ws.length ws) (hok : ∀ e ∈ ws, e.ok) (hlen : ws.length ≤ 1048576) :
    Calls Try.prog 25 #[.slice (some ⟨g, 0, none⟩) ws.length ws.length] w fun r w' =>
      ∃ (a : Option Addr) (n c : Nat) (R : List Ent), r = .returned (.agg #[.slice a n c]) ∧ OwnU w' w.heap.size (.slice a n c) R ∧ RunOf ws R ∧ Below w.heap.size w w' := by
  refine (implBuild_core g 0 ws.length ws w hO.at hok hO.lt.2 hO.caps.1 hO.caps.2 hlen).mono ?_
  rintro r w' ⟨h | ⟨h1, g', cp, R, h2, h3, h4⟩, hb⟩
  · exact ⟨_, _, _, [], h.2, .inl ⟨rfl, rfl⟩, ⟨fun q => absurd q h.1, fun _ => rfl⟩, hb⟩
  · exact ⟨_, _, _, R, h2, .inr ⟨g', cp, rfl, h3⟩, ⟨fun _ => h4, fun q => absurd h1 q⟩, hb⟩
end Go.Proofs.Ytjphalbjimggcac
