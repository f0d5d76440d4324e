/-
  The marks that a law lays into rows and looks for.
-/
import Derived.Test.YthkmecppjhcidaaOpenS
namespace Go.Proofs.Ythkmecppjhcidaa
open Go.ChangeShapes Go.WideShapes Go.ChangeAt Go.RowKit Go.Deep
set_option linter.unusedVariables false

def digF : Nat → Nat → List UInt8
  | 0, _ => []
  | f + 1, k => if k = 0 then [] else digF f (k / 10) ++ [UInt8.ofNat (48 + k % 10)]
theorem digF_zero (f : Nat) : digF f 0 = [] := by cases f <;> simp [digF]
theorem digF_more : ∀ (f k : Nat), k ≤ f → digF f k = digF k k
  | 0, k, h => by rw [show k = 0 by omega]
  | f + 1, k, h => by
    by_cases h0 : k = 0
    · subst h0; rw [digF_zero, digF_zero]
    · obtain ⟨j, rfl⟩ : ∃ j, k = j + 1 := ⟨k - 1, by omega⟩
      have h1 : (j + 1) / 10 ≤ j := by omega
      unfold digF
      rw [if_neg h0, if_neg h0, digF_more f _ (by omega), digF_more j _ h1]
def dig (k : Nat) : List UInt8 := digF k k
theorem dig_step {k : Nat} (h : 0 < k) : dig k = dig (k / 10) ++ [UInt8.ofNat (48 + k % 10)] := by
  obtain ⟨j, rfl⟩ : ∃ j, k = j + 1 := ⟨k - 1, by omega⟩
  show digF (j + 1) (j + 1) = _
  rw [digF, if_neg (by omega), digF_more j _ (by omega)]; rfl
/-- The mark's text. -/
def mText (k : Nat) : ByteArray := ⟨(109 :: dig k).toArray⟩

theorem mText_eq {k : Nat} {out : ByteArray} (h : dig k = out.data.toList) : mText k = ⟨#[109]⟩ ++ out := by
  obtain ⟨a⟩ := out
  unfold mText
  rw [ByteArray.mk_append_mk, h]
  simp

/-- The entry that the marks from 'k' on make. -/
def mEnt (k : Int) : Ent := ⟨mText k.toNat, mText (k + 1).toNat, mText (k + 1 + 1).toNat, k + 1 + 1 + 1, k + 1 + 1 + 1 + 1, mText (k + 1 + 1 + 1 + 1 + 1).toNat⟩
/-- The first 'i' of the entries are marked, from 'k' on. -/
def marked (k : Int) (es : List Ent) (i : Nat) : Prop := ∀ j : Nat, j < i → es[j]? = some (mEnt (k + j * 6))

theorem grown_of_below {w w' : World} (h : Below w.heap.size w w') (r : Option Nat) : w.grownBy w' r := ⟨h.os, h.tape, h.output, h.size, fun k hk _ => h.block k hk⟩
theorem grown_set (w : World) (g o : Nat) (u : Value) : w.grownBy (w.setCell ⟨g, o, none⟩ u) (some g) := by
  have h : Below g w (w.setCell ⟨g, o, none⟩ u) := (Below.refl g w).setCell (Nat.le_refl _) u
  exact ⟨h.os, h.tape, h.output, h.size, fun k hk hne => Below.heap_setCell w ⟨g, o, none⟩ u k (fun e => hne (by rw [e]))⟩
theorem OwnE.upd {w : World} {base g cap m j : Nat} {fs : List Ent} {f f' : Ent} {u : Value} (h : OwnE w base g cap (fs.set m f)) (hm : m < fs.length) (hj : j < 6) (hc : f'.cells = f.cells.set j u) :
    OwnE (w.setCell ⟨g, m * 6 + j, none⟩ u) base g cap (fs.set m f') := by
  have := h.set m j f f' u (by simp [hm]) hj hc
  rwa [List.set_set] at this
theorem marked_set {k : Int} {fs : List Ent} {m : Nat} (h : marked k fs m) (hm : m < fs.length) : marked k (fs.set m (mEnt (k + m * 6))) (m + 1) := by
  intro j hj
  by_cases e : j = m
  · subst e; simp [hm]
  · rw [List.getElem?_set_ne (by omega)]; exact h j (by omega)

end Go.Proofs.Ythkmecppjhcidaa
