/-
  The state between the rounds of impl.EncodeRun's loop.
-/
import Derived.Test.YtlgeffinhbodeacQEnI
import Derived.Test.YtlgeffinhbodeacQChI
namespace Go.Proofs.Ytlgeffinhbodeac
open Go.ChangeShapes Go.WideShapes Go.ChangeAt Go.RowKit Go.Deep Go.Shelf
set_option linter.unusedVariables false
set_option linter.unusedSimpArgs false
set_option maxRecDepth 100000

variable {w Wst : World} {SS : Nat → Prop} {T B6 B7 B8 : Nat} {F M : List UInt8} {c mf gf cpf mm gm cpm : Nat} {W W1 : World}
theorem chg_true (h : Below w.heap.size w W) : Chg (fun _ => True) w W := ⟨h.os, h.tape, h.output, h.size, fun k hk q => absurd trivial q⟩
/-- A round begins. -/
theorem EnS.rebase (h : EnS w Wst SS T B6 B7 B8 F M c mf gf cpf mm gm cpm W) : EnS w W (fun k => k = B6 ∨ k = B7 ∨ k = B8 ∨ k = gf ∨ k = gm) T B6 B7 B8 F M c mf gf cpf mm gm cpm W :=
  ⟨h.file, h.mfl, h.frow, h.marks, h.mml, h.mrow, h.cnt, h.tab, h.tlt, h.n1, h.n2, h.n3, h.below, Chg.refl _ _, ⟨.inl rfl, .inr (.inl rfl), .inr (.inr (.inl rfl)), .inl (.inr (.inr (.inr (.inl rfl)))), .inl (.inr (.inr (.inr (.inr rfl))))⟩⟩
/-- A round ends. -/
theorem EnS.forget (h : EnS w Wst SS T B6 B7 B8 F M c mf gf cpf mm gm cpm W) : EnS w w (fun _ => True) T B6 B7 B8 F M c mf gf cpf mm gm cpm W :=
  ⟨h.file, h.mfl, h.frow, h.marks, h.mml, h.mrow, h.cnt, h.tab, h.tlt, h.n1, h.n2, h.n3, h.below, chg_true h.below, ⟨trivial, trivial, trivial, .inl trivial, .inl trivial⟩⟩
/-- What lies in a block of cells. -/
theorem cells_of_cell {w : World} {g o : Nat} {v : Value} (h : w.cell? ⟨g, o, none⟩ = some v) : ∃ x : Obj, w.heap[g]? = some x ∧ x.isCells = true := by
  unfold World.cell? at h
  cases hx : w.heap[g]? with
  | none => simp [hx] at h
  | some x =>
    refine ⟨x, rfl, ?_⟩
    cases x <;> simp_all [Obj.isCells]
theorem cells_of_own {w : World} {base e size : Nat} {g cp n : Nat} {xs : List Value} (h : w.ownsRow base e size (.slice (some ⟨g, 0, none⟩) n cp) n xs) : ∃ x : Obj, w.heap[g]? = some x ∧ x.isCells = true := by
  rcases h.2 with ⟨h0, _⟩ | ⟨g', cap', cur, hv, _, hc, _⟩
  · cases h0
  · simp only [Value.slice.injEq, Option.some.injEq, Addr.mk.injEq, and_true, true_and] at hv
    obtain ⟨rfl, rfl⟩ := hv
    exact ⟨_, hc, rfl⟩
theorem cells_of_out {w : World} {base g cp : Nat} {xs : List UInt8} (h : OutB w base g cp xs) (hx : 0 < xs.length) : ∃ x : Obj, w.heap[g]? = some x ∧ x.isCells = true := by
  obtain ⟨y, hy⟩ : ∃ y, xs[0]? = some y := ⟨_, List.getElem?_eq_getElem hx⟩
  exact cells_of_cell (h.at 0 y hy)
/-- The blocks of a round are cells. -/
theorem EnS.cells (h : EnS w Wst SS T B6 B7 B8 F M c mf gf cpf mm gm cpm W) (hF : 0 < F.length) : ∀ k, (k = B6 ∨ k = B7 ∨ k = B8 ∨ k = gf ∨ k = gm) → ∃ x : Obj, W.heap[k]? = some x ∧ x.isCells = true := by
  rintro k (rfl | rfl | rfl | rfl | rfl)
  · exact cells_of_own h.file
  · exact cells_of_own h.marks
  · exact cells_of_own h.cnt
  · exact cells_of_out h.frow hF
  · exact cells_of_own h.mrow
theorem keeps_of {S : Nat → Prop} {B : Nat} {W W' : World} (hC : Chg S W W') (hS : ∀ k, S k → ∃ x : Obj, W.heap[k]? = some x ∧ x.isCells = true) : KeepsFrom B W W' := by
  refine ⟨hC.size, fun k o _ hk ho => ?_⟩
  have hlt : k < W.heap.size := (Array.getElem?_eq_some_iff.1 hk).1
  rw [hC.block k hlt (fun q => by
    obtain ⟨x, hx, hc⟩ := hS k q
    rw [hk] at hx
    cases hx
    rw [ho] at hc
    cases hc)]
  exact hk
theorem EnS.grown {row : Option Nat} (h : EnS w w (fun _ => True) T B6 B7 B8 F M c mf gf cpf mm gm cpm W) (hF : 0 < F.length) (hg : W.grownBy W1 row) (hr : ∀ r, row = some r → ∃ o : Obj, W.heap[r]? = some o ∧ o.isCells = false) (hrB : ∀ r, row = some r → w.heap.size ≤ r) : EnS w w (fun _ => True) T B6 B7 B8 F M c mf gf cpf mm gm cpm W1 := by
  have hne : ∀ k, (∃ x : Obj, W.heap[k]? = some x ∧ x.isCells = true) → ¬ row = some k := fun k ⟨x, hx, hc⟩ q => by
    obtain ⟨o, ho, hf⟩ := hr k q
    rw [hx] at ho
    cases ho
    rw [hc] at hf
    cases hf
  have hc := h.cells hF
  have hC : Chg (fun k => row = some k) W W1 := Chg.of_grown hg (fun k hk => hk)
  have hT : ¬ row = some T := hne T (cells_of_cell (h.tab 0 (by decide)))
  have hB : Below w.heap.size w W1 := Chg.below h.below hC h.below.size (fun k q => hrB k q)
  exact ⟨h.file.chg hC (hne _ (hc _ (.inl rfl))), h.mfl, h.frow.chg hC (hne _ (hc _ (.inr (.inr (.inr (.inl rfl)))))), h.marks.chg hC (hne _ (hc _ (.inr (.inl rfl)))), h.mml, h.mrow.chg hC (hne _ (hc _ (.inr (.inr (.inr (.inr rfl)))))), h.cnt.chg hC (hne _ (hc _ (.inr (.inr (.inl rfl))))), tab_chg h.tab hC h.tlt.2 hT, ⟨h.tlt.1, Nat.lt_of_lt_of_le h.tlt.2 hC.size⟩, h.n1, h.n2, h.n3, hB, chg_true hB, h.ss⟩
end Go.Proofs.Ytlgeffinhbodeac
