/-
  The steps of a round of impl.EncodeRun's loop.
-/
import Derived.Test.YtlgeffinhbodeacQEnJ
namespace Go.Proofs.Ytlgeffinhbodeac
open Go.ChangeShapes Go.WideShapes Go.ChangeAt Go.RowKit Go.Deep Go.Shelf
set_option linter.unusedVariables false
set_option linter.unusedSimpArgs false
set_option maxRecDepth 100000

variable {w Wst : World} {SS : Nat → Prop} {T B6 B7 B8 : Nat} {F M : List UInt8} {c mf gf cpf mm gm cpm : Nat} {W V : World}
theorem own_block {g cp n : Nat} {S : Nat → Prop} {W W' : World} (hC : Chg (fun k => (Value.slice (some ⟨g, 0, none⟩) n cp).ownBlock = some k) W W') : Chg (fun k => k = g) W W' := hC.mono (fun k q => by simp [Value.ownBlock] at q; exact q.symm)
theorem own_at {g cp n g' B : Nat} (h : (Value.slice (some ⟨g, 0, none⟩) n cp).ownBlock = some g' ∨ B ≤ g') : g' = g ∨ B ≤ g' := by
  rcases h with q | q
  · simp [Value.ownBlock] at q; exact .inl q.symm
  · exact .inr q
theorem en_num (h : EnS w Wst SS T B6 B7 B8 F M c mf gf cpf mm gm cpm W) (hV : Below W.heap.size W V) (x : Nat) (hx : x < 2 ^ 64) (hl : mm ≤ 2 ^ 27) :
    Calls Try.prog 62 #[.slice (some ⟨gm, 0, none⟩) mm cpm, .int .u64 (x : Int)] V fun e w' => ∃ g cp m, e = .returned (.slice (some ⟨g, 0, none⟩) m cp) ∧ m ≤ mm + 10 ∧ Hid (EnS w Wst SS T B6 B7 B8 F (M ++ num x) c mf gf cpf m g cp (w'.setCell ⟨B7, 0, none⟩ (.slice (some ⟨g, 0, none⟩) m cp))) ∧ w'.cell? ⟨B7, 0, none⟩ = some (.slice (some ⟨gm, 0, none⟩) mm cpm) ∧ w'.frozen? ⟨B7, 0, none⟩ = false := by
  have hJ := h.move hV
  have hm := hJ.mml
  have hr := OwnS.of hJ.mrow
  rw [← hm] at hr
  refine (appendNumber_core w.heap.size _ M x V hr hx (by omega) hJ.below.size).mono ?_
  rintro e w' ⟨g, cp, rfl, hO, hC, hat⟩
  have h1 := hJ.newMarks hO (own_block (S := fun _ => False) hC) (own_at hat) rfl
  refine ⟨g, cp, _, rfl, ?_, h1.1, h1.2⟩
  have := num_len64 hx
  rw [List.length_append]
  omega
theorem en_text (h : EnS w Wst SS T B6 B7 B8 F M c mf gf cpf mm gm cpm W) (hV : Below W.heap.size W V) (s : ByteArray) (hs : s.size ≤ 200) (hl : mm ≤ 2 ^ 27) :
    Calls Try.prog 63 #[.slice (some ⟨gm, 0, none⟩) mm cpm, .string s] V fun e w' => ∃ g cp m, e = .returned (.slice (some ⟨g, 0, none⟩) m cp) ∧ m ≤ mm + 300 ∧ Hid (EnS w Wst SS T B6 B7 B8 F (M ++ strB (bl s)) c mf gf cpf m g cp (w'.setCell ⟨B7, 0, none⟩ (.slice (some ⟨g, 0, none⟩) m cp))) ∧ w'.cell? ⟨B7, 0, none⟩ = some (.slice (some ⟨gm, 0, none⟩) mm cpm) ∧ w'.frozen? ⟨B7, 0, none⟩ = false := by
  have hJ := h.move hV
  have hm := hJ.mml
  have hr := OwnS.of hJ.mrow
  rw [← hm] at hr
  have e1 : M ++ num s.size ++ bl s = M ++ strB (bl s) := by unfold strB; rw [bl_len, List.append_assoc]
  refine (appendText_core w.heap.size _ M s V hr (by omega) hJ.below.size).mono ?_
  rintro e w' ⟨g, cp, rfl, hO, hC, hat⟩
  rw [e1] at hO ⊢
  have h1 := hJ.newMarks hO (own_block (S := fun _ => False) hC) (own_at hat) rfl
  refine ⟨g, cp, _, rfl, ?_, h1.1, h1.2⟩
  have := strB_len (s := bl s) (by rw [bl_len]; omega)
  rw [bl_len] at this
  rw [List.length_append]
  omega
theorem en_fix (h : EnS w Wst SS T B6 B7 B8 F M c mf gf cpf mm gm cpm W) (hO0 : OwnY W w.heap.size gf cpf F) (hV : Below W.heap.size W V) (x : Nat) (hx : x < 2 ^ 32) (hl : mf ≤ 2 ^ 27) :
    Calls Try.prog 60 #[.slice (some ⟨gf, 0, none⟩) mf cpf, .int .u32 (x : Int)] V fun e w' => ∃ g cp m, e = .returned (.slice (some ⟨g, 0, none⟩) m cp) ∧ m ≤ mf + 4 ∧ Hid (EnS w Wst SS T B6 B7 B8 (F ++ fixed x) M c m g cp mm gm cpm (w'.setCell ⟨B6, 0, none⟩ (.slice (some ⟨g, 0, none⟩) m cp)) ∧ OwnY (w'.setCell ⟨B6, 0, none⟩ (.slice (some ⟨g, 0, none⟩) m cp)) w.heap.size g cp (F ++ fixed x)) ∧ w'.cell? ⟨B6, 0, none⟩ = some (.slice (some ⟨gf, 0, none⟩) mf cpf) ∧ w'.frozen? ⟨B6, 0, none⟩ = false := by
  have hJ := h.move hV
  have hm := hJ.mfl
  have hr := OwnS.of (hO0.below hV)
  rw [← hm] at hr
  refine (appendFixed_core w.heap.size _ F x V hr hx (by omega) hJ.below.size).mono ?_
  rintro e w' ⟨g, cp, rfl, hO, hC, hat⟩
  have hat' := own_at hat
  have h1 := hJ.newFile hO (own_block (S := fun _ => False) hC) hat' rfl
  have hne : ¬ g = B6 := h1.1.n2.1
  have hs := Chg.of_set w' B6 0 (.slice (some ⟨g, 0, none⟩) (F ++ fixed x).length cp) (S := fun k => k = B6) rfl
  refine ⟨g, cp, _, rfl, ?_, ⟨h1.1, hO.chg hs hne⟩, h1.2⟩
  rw [List.length_append]
  have : (fixed x).length = 4 := rfl
  omega
theorem en_sum (h : EnS w Wst SS T B6 B7 B8 F M c mf gf cpf mm gm cpm W) (hV : Below W.heap.size W V) {g1 m1 cp1 : Nat} {xs : List UInt8} (hg : g1 < W.heap.size) (hB : BysAt W g1 0 xs) (hm : m1 = xs.length) (hl : m1 ≤ 2 ^ 27) :
    Calls Try.prog 61 #[.pointer (some ⟨T, 0, none⟩), .slice (some ⟨g1, 0, none⟩) m1 cp1] V fun e w' => e = .returned (.int .u32 ((crc xs).toNat : Int)) ∧ w' = V := by
  subst hm
  exact tableOf_core T 0 g1 0 cp1 xs V ((h.move hV).tab) (hB.chg (Chg.of_below hV) (S := fun _ => False) hg (fun q => q)) (by unfold maxLen; omega)
theorem en_app {v2 : World} {g2 cp2 m2 : Nat} {F2 : List UInt8} (h : EnS w Wst SS T B6 B7 B8 F M c mf gf cpf mm gm cpm W) (hO : OwnY v2 w.heap.size g2 cp2 F2) (hgr : W.grownBy v2 (some gf)) (hat : g2 = gf ∨ W.heap.size ≤ g2) (hm : m2 = F2.length) :
    (EnS w Wst SS T B6 B7 B8 F2 M c m2 g2 cp2 mm gm cpm (v2.setCell ⟨B6, 0, none⟩ (.slice (some ⟨g2, 0, none⟩) m2 cp2)) ∧ OwnY (v2.setCell ⟨B6, 0, none⟩ (.slice (some ⟨g2, 0, none⟩) m2 cp2)) w.heap.size g2 cp2 F2) ∧ v2.cell? ⟨B6, 0, none⟩ = some (.slice (some ⟨gf, 0, none⟩) mf cpf) ∧ v2.frozen? ⟨B6, 0, none⟩ = false := by
  have h1 := h.newFile hO (Chg.of_grown hgr (fun j hj => by cases hj; rfl)) hat hm
  have hs := Chg.of_set v2 B6 0 (.slice (some ⟨g2, 0, none⟩) m2 cp2) (S := fun k => k = B6) rfl
  exact ⟨⟨h1.1, hO.chg hs h1.1.n2.1⟩, h1.2⟩
theorem en_bys {W0 v2 : World} {g1 cp1 g2 m2 cp2 : Nat} {xs : List UInt8} {F0 M0 : List UInt8} {c0 mf0 cpf0 mm0 gm0 cpm0 : Nat} (h : EnS w Wst SS T B6 B7 B8 F M c mf gf cpf mm gm cpm W) (h0 : EnS w Wst SS T B6 B7 B8 F0 M0 c0 mf0 gf cpf0 mm0 gm0 cpm0 W0) (hO : OwnY W W0.heap.size g1 cp1 xs) (hgr : W.grownBy v2 (some gf)) : BysAt (v2.setCell ⟨B6, 0, none⟩ (.slice (some ⟨g2, 0, none⟩) m2 cp2)) g1 0 xs ∧ g1 < (v2.setCell ⟨B6, 0, none⟩ (.slice (some ⟨g2, 0, none⟩) m2 cp2)).heap.size := by
  have h1 := hO.lt
  have h2 := h0.file.lt.2
  have h3 := h0.frow.lt.2
  have hC : Chg (fun k => k = gf) W v2 := Chg.of_grown hgr (fun j hj => by cases hj; rfl)
  have hs := Chg.of_set v2 B6 0 (.slice (some ⟨g2, 0, none⟩) m2 cp2) (S := fun k => k = B6) rfl
  have hsz := hC.size
  have hsz2 := hs.size
  exact ⟨(hO.at.chg hC h1.2 (by omega)).chg hs (by omega) (by omega), by omega⟩
end Go.Proofs.Ytlgeffinhbodeac
