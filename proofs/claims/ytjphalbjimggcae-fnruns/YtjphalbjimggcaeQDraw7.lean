/-
  The draws: an entry spoilt.
-/
import Derived.Test.YtjphalbjimggcaePkAI
namespace Go.Proofs.Ytjphalbjimggcae
open Go.ChangeShapes Go.WideShapes Go.ChangeAt Go.RowKit Go.Deep
set_option linter.unusedVariables false
set_option linter.unusedSimpArgs false
set_option maxRecDepth 100000

theorem WInv.below {base cb : Nat} {bv : Value} {n : Nat} {w : World} {eb rb : Nat} {f : Ent} {wr w1 : World} (h : WInv base cb bv n w eb rb f wr) (hb : Below wr.heap.size wr w1) : WInv base cb bv n w eb rb f w1 := h.call ⟨h.d.below hb, Chg.of_below hb⟩
set_option maxHeartbeats 8000000 in
theorem spoilE_core (base cb : Nat) (bv : Value) (n : Nat) (f : Ent) (w : World) (h : DrawAt base cb bv n w) (hf : f.small) :
    Calls Try.prog 63 #[.pointer (some ⟨cb, 0, none⟩), .agg #[.string f.row, .string f.fam, .string f.qual, .int .u64 f.ts, .int .i64 f.kind, .string f.val]] w fun r w' => ∃ e : Ent, r = .returned e.v ∧ e.small ∧ Drew base cb bv n w w' := by
  have hlt := h.lt
  have hbase := h.base
  have HS : Hid f.small := hf
  obtain ⟨Wa, hWa⟩ : ∃ Wa : World, Wa = w.alloc (Obj.cells #[.string f.row, .string f.fam, .string f.qual, .int .u64 f.ts, .int .i64 f.kind, .string f.val] 73) := ⟨_, rfl⟩
  have hba : Below w.heap.size w Wa := by rw [hWa]; exact (Below.refl _ _).alloc (Nat.le_refl _) _
  have hza : Wa.heap.size = w.heap.size + 1 := by rw [hWa]; simp
  obtain ⟨Wb, hWb⟩ : ∃ Wb : World, Wb = Wa.alloc (Obj.cells #[.string ⟨#[]⟩, .string ⟨#[]⟩, .string ⟨#[]⟩, .int .u64 0, .int .i64 0, .string ⟨#[]⟩] 73) := ⟨_, rfl⟩
  have hbb : Below Wa.heap.size Wa Wb := by rw [hWb]; exact (Below.refl _ _).alloc (Nat.le_refl _) _
  have H0 : Hid (WInv base cb bv n w w.heap.size (w.heap.size + 1) f Wb) := by
    refine ⟨?_, ?_, by omega, (h.below hba).below hbb, (Chg.of_below hba).trans (Chg.of_below hbb), hlt.2, hbase⟩
    · have : OwnE Wa w.heap.size w.heap.size 1 [f] := by rw [hWa]; exact ownE_new w w.heap.size f (Nat.le_refl _)
      exact this.below hbb (by omega)
    · rw [hWb, ← hza]; exact ownE_new Wa w.heap.size zeroE (by omega)
  clear h hlt hf
  go_enter Try.func63, Try.ntmps63
  go_wp2_with fail
  rw [← hWa, ← hWb]
  clear hWa hWb hba hbb hza
  generalize w.heap.size + 1 = rb at *
  refine (below_core base cb bv n 7 _ H0.out.d (by omega) (by omega)).mono ?_
  rintro e w5 ⟨x, rfl, hx0, hx1, hd5⟩
  have H5 : Hid (WInv base cb bv n w w.heap.size rb f w5) := H0.out.call hd5
  clear hd5
  have hx : x = 0 ∨ x = 1 ∨ x = 2 ∨ x = 3 ∨ x = 4 ∨ x = 5 ∨ x = 6 := by omega
  clear hx0 hx1
  rcases hx with rfl | rfl | rfl | rfl | rfl | rfl | rfl
  · obtain ⟨⟨c0, c1, c2, c3, c4, c5⟩, f1⟩ := H5.out.cells
    have g0 := f1 0
    obtain ⟨W7, hW7⟩ : ∃ W7 : World, W7 = w5.setCell ⟨w.heap.size, 0, none⟩ (.string ⟨#[]⟩) := ⟨_, rfl⟩
    have H7 : Hid (WInv base cb bv n w w.heap.size rb ⟨⟨#[]⟩, f.fam, f.qual, f.ts, f.kind, f.val⟩ W7 ∧ (⟨⟨#[]⟩, f.fam, f.qual, f.ts, f.kind, f.val⟩ : Ent).small) := ⟨by rw [hW7]; exact H5.out.set 0 _ _ (by omega) rfl, ⟨by show (0 : Nat) ≤ 1000; omega, HS.out.fam, HS.out.qual, HS.out.val, HS.out.ts, HS.out.kind⟩⟩
    clear f1
    go_upto_region 4 with fail
    rw [← hW7]
    clear hW7 c0 c1 c2 c3 c4 c5 g0
    obtain ⟨⟨k0, k1, k2, k3, k4, k5⟩, _⟩ := H7.out.1.cells
    obtain ⟨⟨l0, l1, l2, l3, l4, l5⟩, lf, _⟩ := H7.out.1.back
    simp only at k0 k1 k2 k3 k4 k5
    obtain ⟨W9, hW9⟩ : ∃ W9 : World, W9 = ((((((W7.setCell ⟨rb, 0, none⟩ (.string (⟨⟨#[]⟩, f.fam, f.qual, f.ts, f.kind, f.val⟩ : Ent).row)).setCell ⟨rb, 1, none⟩ (.string (⟨⟨#[]⟩, f.fam, f.qual, f.ts, f.kind, f.val⟩ : Ent).fam)).setCell ⟨rb, 2, none⟩ (.string (⟨⟨#[]⟩, f.fam, f.qual, f.ts, f.kind, f.val⟩ : Ent).qual)).setCell ⟨rb, 3, none⟩ (.int .u64 (⟨⟨#[]⟩, f.fam, f.qual, f.ts, f.kind, f.val⟩ : Ent).ts)).setCell ⟨rb, 4, none⟩ (.int .i64 (⟨⟨#[]⟩, f.fam, f.qual, f.ts, f.kind, f.val⟩ : Ent).kind)).setCell ⟨rb, 5, none⟩ (.string (⟨⟨#[]⟩, f.fam, f.qual, f.ts, f.kind, f.val⟩ : Ent).val)) := ⟨_, rfl⟩
    obtain ⟨⟨p0, p1, p2, p3, p4, p5⟩, hdr⟩ := H7.out.1.back.2.2 W9 hW9
    have HR : Hid ((⟨⟨#[]⟩, f.fam, f.qual, f.ts, f.kind, f.val⟩ : Ent).small ∧ Drew base cb bv n w W9) := ⟨H7.out.2, hdr⟩
    clear hdr
    simp only at p0 p1 p2 p3 p4 p5 hW9
    go_wp2_with fail
    rw [← hW9]
    exact bodyPost_ret (v := (⟨⟨#[]⟩, f.fam, f.qual, f.ts, f.kind, f.val⟩ : Ent).v) (by simp [results, Try.results63, go_sem, p0, p1, p2, p3, p4, p5]) rfl ⟨⟨⟨#[]⟩, f.fam, f.qual, f.ts, f.kind, f.val⟩, rfl, HR.out.1, HR.out.2⟩
  · go_wp2_with fail
    refine (many_core 98 65 _ (by omega)).mono ?_
    rintro e w6 ⟨s6, rfl, hs6, hb6⟩
    have H6 : Hid (WInv base cb bv n w w.heap.size rb f w6) := H5.out.below hb6
    clear hb6
    obtain ⟨⟨c0, c1, c2, c3, c4, c5⟩, f1⟩ := H6.out.cells
    have g0 := f1 0
    obtain ⟨W7, hW7⟩ : ∃ W7 : World, W7 = w6.setCell ⟨w.heap.size, 0, none⟩ (.string s6) := ⟨_, rfl⟩
    have H7 : Hid (WInv base cb bv n w w.heap.size rb ⟨s6, f.fam, f.qual, f.ts, f.kind, f.val⟩ W7 ∧ (⟨s6, f.fam, f.qual, f.ts, f.kind, f.val⟩ : Ent).small) := ⟨by rw [hW7]; exact H6.out.set 0 _ _ (by omega) rfl, ⟨hs6, HS.out.fam, HS.out.qual, HS.out.val, HS.out.ts, HS.out.kind⟩⟩
    clear f1
    go_upto_region 6 with fail
    rw [← hW7]
    clear hW7 c0 c1 c2 c3 c4 c5 g0
    obtain ⟨⟨k0, k1, k2, k3, k4, k5⟩, _⟩ := H7.out.1.cells
    obtain ⟨⟨l0, l1, l2, l3, l4, l5⟩, lf, _⟩ := H7.out.1.back
    simp only at k0 k1 k2 k3 k4 k5
    obtain ⟨W9, hW9⟩ : ∃ W9 : World, W9 = ((((((W7.setCell ⟨rb, 0, none⟩ (.string (⟨s6, f.fam, f.qual, f.ts, f.kind, f.val⟩ : Ent).row)).setCell ⟨rb, 1, none⟩ (.string (⟨s6, f.fam, f.qual, f.ts, f.kind, f.val⟩ : Ent).fam)).setCell ⟨rb, 2, none⟩ (.string (⟨s6, f.fam, f.qual, f.ts, f.kind, f.val⟩ : Ent).qual)).setCell ⟨rb, 3, none⟩ (.int .u64 (⟨s6, f.fam, f.qual, f.ts, f.kind, f.val⟩ : Ent).ts)).setCell ⟨rb, 4, none⟩ (.int .i64 (⟨s6, f.fam, f.qual, f.ts, f.kind, f.val⟩ : Ent).kind)).setCell ⟨rb, 5, none⟩ (.string (⟨s6, f.fam, f.qual, f.ts, f.kind, f.val⟩ : Ent).val)) := ⟨_, rfl⟩
    obtain ⟨⟨p0, p1, p2, p3, p4, p5⟩, hdr⟩ := H7.out.1.back.2.2 W9 hW9
    have HR : Hid ((⟨s6, f.fam, f.qual, f.ts, f.kind, f.val⟩ : Ent).small ∧ Drew base cb bv n w W9) := ⟨H7.out.2, hdr⟩
    clear hdr
    simp only at p0 p1 p2 p3 p4 p5 hW9
    go_wp2_with fail
    rw [← hW9]
    exact bodyPost_ret (v := (⟨s6, f.fam, f.qual, f.ts, f.kind, f.val⟩ : Ent).v) (by simp [results, Try.results63, go_sem, p0, p1, p2, p3, p4, p5]) rfl ⟨⟨s6, f.fam, f.qual, f.ts, f.kind, f.val⟩, rfl, HR.out.1, HR.out.2⟩
  · go_wp2_with fail
    refine (many_core 102 17 _ (by omega)).mono ?_
    rintro e w6 ⟨s6, rfl, hs6, hb6⟩
    have H6 : Hid (WInv base cb bv n w w.heap.size rb f w6) := H5.out.below hb6
    clear hb6
    obtain ⟨⟨c0, c1, c2, c3, c4, c5⟩, f1⟩ := H6.out.cells
    have g0 := f1 1
    obtain ⟨W7, hW7⟩ : ∃ W7 : World, W7 = w6.setCell ⟨w.heap.size, 1, none⟩ (.string s6) := ⟨_, rfl⟩
    have H7 : Hid (WInv base cb bv n w w.heap.size rb ⟨f.row, s6, f.qual, f.ts, f.kind, f.val⟩ W7 ∧ (⟨f.row, s6, f.qual, f.ts, f.kind, f.val⟩ : Ent).small) := ⟨by rw [hW7]; exact H6.out.set 1 _ _ (by omega) rfl, ⟨HS.out.row, hs6, HS.out.qual, HS.out.val, HS.out.ts, HS.out.kind⟩⟩
    clear f1
    go_upto_region 8 with fail
    rw [← hW7]
    clear hW7 c0 c1 c2 c3 c4 c5 g0
    obtain ⟨⟨k0, k1, k2, k3, k4, k5⟩, _⟩ := H7.out.1.cells
    obtain ⟨⟨l0, l1, l2, l3, l4, l5⟩, lf, _⟩ := H7.out.1.back
    simp only at k0 k1 k2 k3 k4 k5
    obtain ⟨W9, hW9⟩ : ∃ W9 : World, W9 = ((((((W7.setCell ⟨rb, 0, none⟩ (.string (⟨f.row, s6, f.qual, f.ts, f.kind, f.val⟩ : Ent).row)).setCell ⟨rb, 1, none⟩ (.string (⟨f.row, s6, f.qual, f.ts, f.kind, f.val⟩ : Ent).fam)).setCell ⟨rb, 2, none⟩ (.string (⟨f.row, s6, f.qual, f.ts, f.kind, f.val⟩ : Ent).qual)).setCell ⟨rb, 3, none⟩ (.int .u64 (⟨f.row, s6, f.qual, f.ts, f.kind, f.val⟩ : Ent).ts)).setCell ⟨rb, 4, none⟩ (.int .i64 (⟨f.row, s6, f.qual, f.ts, f.kind, f.val⟩ : Ent).kind)).setCell ⟨rb, 5, none⟩ (.string (⟨f.row, s6, f.qual, f.ts, f.kind, f.val⟩ : Ent).val)) := ⟨_, rfl⟩
    obtain ⟨⟨p0, p1, p2, p3, p4, p5⟩, hdr⟩ := H7.out.1.back.2.2 W9 hW9
    have HR : Hid ((⟨f.row, s6, f.qual, f.ts, f.kind, f.val⟩ : Ent).small ∧ Drew base cb bv n w W9) := ⟨H7.out.2, hdr⟩
    clear hdr
    simp only at p0 p1 p2 p3 p4 p5 hW9
    go_wp2_with fail
    rw [← hW9]
    exact bodyPost_ret (v := (⟨f.row, s6, f.qual, f.ts, f.kind, f.val⟩ : Ent).v) (by simp [results, Try.results63, go_sem, p0, p1, p2, p3, p4, p5]) rfl ⟨⟨f.row, s6, f.qual, f.ts, f.kind, f.val⟩, rfl, HR.out.1, HR.out.2⟩
  · obtain ⟨⟨c0, c1, c2, c3, c4, c5⟩, f1⟩ := H5.out.cells
    have g0 := f1 4
    obtain ⟨W7, hW7⟩ : ∃ W7 : World, W7 = w5.setCell ⟨w.heap.size, 4, none⟩ (.int .i64 3) := ⟨_, rfl⟩
    have H7 : Hid (WInv base cb bv n w w.heap.size rb ⟨f.row, f.fam, f.qual, f.ts, 3, f.val⟩ W7 ∧ (⟨f.row, f.fam, f.qual, f.ts, 3, f.val⟩ : Ent).small) := ⟨by rw [hW7]; exact H5.out.set 4 _ _ (by omega) rfl, ⟨HS.out.row, HS.out.fam, HS.out.qual, HS.out.val, HS.out.ts, by simp⟩⟩
    clear f1
    go_upto_region 10 with fail
    rw [← hW7]
    clear hW7 c0 c1 c2 c3 c4 c5 g0
    obtain ⟨⟨k0, k1, k2, k3, k4, k5⟩, _⟩ := H7.out.1.cells
    obtain ⟨⟨l0, l1, l2, l3, l4, l5⟩, lf, _⟩ := H7.out.1.back
    simp only at k0 k1 k2 k3 k4 k5
    obtain ⟨W9, hW9⟩ : ∃ W9 : World, W9 = ((((((W7.setCell ⟨rb, 0, none⟩ (.string (⟨f.row, f.fam, f.qual, f.ts, 3, f.val⟩ : Ent).row)).setCell ⟨rb, 1, none⟩ (.string (⟨f.row, f.fam, f.qual, f.ts, 3, f.val⟩ : Ent).fam)).setCell ⟨rb, 2, none⟩ (.string (⟨f.row, f.fam, f.qual, f.ts, 3, f.val⟩ : Ent).qual)).setCell ⟨rb, 3, none⟩ (.int .u64 (⟨f.row, f.fam, f.qual, f.ts, 3, f.val⟩ : Ent).ts)).setCell ⟨rb, 4, none⟩ (.int .i64 (⟨f.row, f.fam, f.qual, f.ts, 3, f.val⟩ : Ent).kind)).setCell ⟨rb, 5, none⟩ (.string (⟨f.row, f.fam, f.qual, f.ts, 3, f.val⟩ : Ent).val)) := ⟨_, rfl⟩
    obtain ⟨⟨p0, p1, p2, p3, p4, p5⟩, hdr⟩ := H7.out.1.back.2.2 W9 hW9
    have HR : Hid ((⟨f.row, f.fam, f.qual, f.ts, 3, f.val⟩ : Ent).small ∧ Drew base cb bv n w W9) := ⟨H7.out.2, hdr⟩
    clear hdr
    simp only at p0 p1 p2 p3 p4 p5 hW9
    go_wp2_with fail
    rw [← hW9]
    exact bodyPost_ret (v := (⟨f.row, f.fam, f.qual, f.ts, 3, f.val⟩ : Ent).v) (by simp [results, Try.results63, go_sem, p0, p1, p2, p3, p4, p5]) rfl ⟨⟨f.row, f.fam, f.qual, f.ts, 3, f.val⟩, rfl, HR.out.1, HR.out.2⟩
  · go_wp2_with fail
    refine (many_core 118 201 _ (by omega)).mono ?_
    rintro e w6 ⟨s6, rfl, hs6, hb6⟩
    have H6 : Hid (WInv base cb bv n w w.heap.size rb f w6) := H5.out.below hb6
    clear hb6
    obtain ⟨⟨c0, c1, c2, c3, c4, c5⟩, f1⟩ := H6.out.cells
    have g0 := f1 5
    obtain ⟨W7, hW7⟩ : ∃ W7 : World, W7 = w6.setCell ⟨w.heap.size, 5, none⟩ (.string s6) := ⟨_, rfl⟩
    have H7 : Hid (WInv base cb bv n w w.heap.size rb ⟨f.row, f.fam, f.qual, f.ts, f.kind, s6⟩ W7 ∧ (⟨f.row, f.fam, f.qual, f.ts, f.kind, s6⟩ : Ent).small) := ⟨by rw [hW7]; exact H6.out.set 5 _ _ (by omega) rfl, ⟨HS.out.row, HS.out.fam, HS.out.qual, hs6, HS.out.ts, HS.out.kind⟩⟩
    clear f1
    go_upto_region 12 with fail
    rw [← hW7]
    clear hW7 c0 c1 c2 c3 c4 c5 g0
    obtain ⟨⟨k0, k1, k2, k3, k4, k5⟩, _⟩ := H7.out.1.cells
    obtain ⟨⟨l0, l1, l2, l3, l4, l5⟩, lf, _⟩ := H7.out.1.back
    simp only at k0 k1 k2 k3 k4 k5
    obtain ⟨W9, hW9⟩ : ∃ W9 : World, W9 = ((((((W7.setCell ⟨rb, 0, none⟩ (.string (⟨f.row, f.fam, f.qual, f.ts, f.kind, s6⟩ : Ent).row)).setCell ⟨rb, 1, none⟩ (.string (⟨f.row, f.fam, f.qual, f.ts, f.kind, s6⟩ : Ent).fam)).setCell ⟨rb, 2, none⟩ (.string (⟨f.row, f.fam, f.qual, f.ts, f.kind, s6⟩ : Ent).qual)).setCell ⟨rb, 3, none⟩ (.int .u64 (⟨f.row, f.fam, f.qual, f.ts, f.kind, s6⟩ : Ent).ts)).setCell ⟨rb, 4, none⟩ (.int .i64 (⟨f.row, f.fam, f.qual, f.ts, f.kind, s6⟩ : Ent).kind)).setCell ⟨rb, 5, none⟩ (.string (⟨f.row, f.fam, f.qual, f.ts, f.kind, s6⟩ : Ent).val)) := ⟨_, rfl⟩
    obtain ⟨⟨p0, p1, p2, p3, p4, p5⟩, hdr⟩ := H7.out.1.back.2.2 W9 hW9
    have HR : Hid ((⟨f.row, f.fam, f.qual, f.ts, f.kind, s6⟩ : Ent).small ∧ Drew base cb bv n w W9) := ⟨H7.out.2, hdr⟩
    clear hdr
    simp only at p0 p1 p2 p3 p4 p5 hW9
    go_wp2_with fail
    rw [← hW9]
    exact bodyPost_ret (v := (⟨f.row, f.fam, f.qual, f.ts, f.kind, s6⟩ : Ent).v) (by simp [results, Try.results63, go_sem, p0, p1, p2, p3, p4, p5]) rfl ⟨⟨f.row, f.fam, f.qual, f.ts, f.kind, s6⟩, rfl, HR.out.1, HR.out.2⟩
  · have hA := H5.out.set 4 ⟨f.row, f.fam, f.qual, f.ts, 1, f.val⟩ (.int .i64 1) (by omega) rfl
    obtain ⟨⟨_, _, _, _, c4, _⟩, f1⟩ := H5.out.cells
    obtain ⟨⟨_, _, _, _, _, c5⟩, f2⟩ := hA.cells
    have g4 := f1 4
    have g5 := f2 5
    simp only at c5
    obtain ⟨W7, hW7⟩ : ∃ W7 : World, W7 = (w5.setCell ⟨w.heap.size, 4, none⟩ (.int .i64 1)).setCell ⟨w.heap.size, 5, none⟩ (.string ⟨#[120]⟩) := ⟨_, rfl⟩
    have H7 : Hid (WInv base cb bv n w w.heap.size rb ⟨f.row, f.fam, f.qual, f.ts, 1, ⟨#[120]⟩⟩ W7 ∧ (⟨f.row, f.fam, f.qual, f.ts, 1, ⟨#[120]⟩⟩ : Ent).small) := ⟨by rw [hW7]; exact hA.set 5 _ _ (by omega) rfl, ⟨HS.out.row, HS.out.fam, HS.out.qual, by show (1 : Nat) ≤ 1000; omega, HS.out.ts, by simp⟩⟩
    clear hA f1 f2
    go_upto_region 15 with fail
    rw [← hW7]
    clear hW7 c4 c5 g4 g5
    obtain ⟨⟨k0, k1, k2, k3, k4, k5⟩, _⟩ := H7.out.1.cells
    obtain ⟨⟨l0, l1, l2, l3, l4, l5⟩, lf, _⟩ := H7.out.1.back
    simp only at k0 k1 k2 k3 k4 k5
    obtain ⟨W9, hW9⟩ : ∃ W9 : World, W9 = ((((((W7.setCell ⟨rb, 0, none⟩ (.string (⟨f.row, f.fam, f.qual, f.ts, 1, ⟨#[120]⟩⟩ : Ent).row)).setCell ⟨rb, 1, none⟩ (.string (⟨f.row, f.fam, f.qual, f.ts, 1, ⟨#[120]⟩⟩ : Ent).fam)).setCell ⟨rb, 2, none⟩ (.string (⟨f.row, f.fam, f.qual, f.ts, 1, ⟨#[120]⟩⟩ : Ent).qual)).setCell ⟨rb, 3, none⟩ (.int .u64 (⟨f.row, f.fam, f.qual, f.ts, 1, ⟨#[120]⟩⟩ : Ent).ts)).setCell ⟨rb, 4, none⟩ (.int .i64 (⟨f.row, f.fam, f.qual, f.ts, 1, ⟨#[120]⟩⟩ : Ent).kind)).setCell ⟨rb, 5, none⟩ (.string (⟨f.row, f.fam, f.qual, f.ts, 1, ⟨#[120]⟩⟩ : Ent).val)) := ⟨_, rfl⟩
    obtain ⟨⟨p0, p1, p2, p3, p4, p5⟩, hdr⟩ := H7.out.1.back.2.2 W9 hW9
    have HR : Hid ((⟨f.row, f.fam, f.qual, f.ts, 1, ⟨#[120]⟩⟩ : Ent).small ∧ Drew base cb bv n w W9) := ⟨H7.out.2, hdr⟩
    clear hdr
    simp only at p0 p1 p2 p3 p4 p5 hW9
    go_wp2_with fail
    rw [← hW9]
    exact bodyPost_ret (v := (⟨f.row, f.fam, f.qual, f.ts, 1, ⟨#[120]⟩⟩ : Ent).v) (by simp [results, Try.results63, go_sem, p0, p1, p2, p3, p4, p5]) rfl ⟨⟨f.row, f.fam, f.qual, f.ts, 1, ⟨#[120]⟩⟩, rfl, HR.out.1, HR.out.2⟩
  · go_wp2_with fail
    refine (many_core 113 65 _ (by omega)).mono ?_
    rintro e w6 ⟨s6, rfl, hs6, hb6⟩
    have H6 : Hid (WInv base cb bv n w w.heap.size rb f w6) := H5.out.below hb6
    clear hb6
    obtain ⟨⟨c0, c1, c2, c3, c4, c5⟩, f1⟩ := H6.out.cells
    have g0 := f1 2
    obtain ⟨W7, hW7⟩ : ∃ W7 : World, W7 = w6.setCell ⟨w.heap.size, 2, none⟩ (.string s6) := ⟨_, rfl⟩
    have H7 : Hid (WInv base cb bv n w w.heap.size rb ⟨f.row, f.fam, s6, f.ts, f.kind, f.val⟩ W7 ∧ (⟨f.row, f.fam, s6, f.ts, f.kind, f.val⟩ : Ent).small) := ⟨by rw [hW7]; exact H6.out.set 2 _ _ (by omega) rfl, ⟨HS.out.row, HS.out.fam, hs6, HS.out.val, HS.out.ts, HS.out.kind⟩⟩
    clear f1
    go_upto_region 17 with fail
    rw [← hW7]
    clear hW7 c0 c1 c2 c3 c4 c5 g0
    obtain ⟨⟨k0, k1, k2, k3, k4, k5⟩, _⟩ := H7.out.1.cells
    obtain ⟨⟨l0, l1, l2, l3, l4, l5⟩, lf, _⟩ := H7.out.1.back
    simp only at k0 k1 k2 k3 k4 k5
    obtain ⟨W9, hW9⟩ : ∃ W9 : World, W9 = ((((((W7.setCell ⟨rb, 0, none⟩ (.string (⟨f.row, f.fam, s6, f.ts, f.kind, f.val⟩ : Ent).row)).setCell ⟨rb, 1, none⟩ (.string (⟨f.row, f.fam, s6, f.ts, f.kind, f.val⟩ : Ent).fam)).setCell ⟨rb, 2, none⟩ (.string (⟨f.row, f.fam, s6, f.ts, f.kind, f.val⟩ : Ent).qual)).setCell ⟨rb, 3, none⟩ (.int .u64 (⟨f.row, f.fam, s6, f.ts, f.kind, f.val⟩ : Ent).ts)).setCell ⟨rb, 4, none⟩ (.int .i64 (⟨f.row, f.fam, s6, f.ts, f.kind, f.val⟩ : Ent).kind)).setCell ⟨rb, 5, none⟩ (.string (⟨f.row, f.fam, s6, f.ts, f.kind, f.val⟩ : Ent).val)) := ⟨_, rfl⟩
    obtain ⟨⟨p0, p1, p2, p3, p4, p5⟩, hdr⟩ := H7.out.1.back.2.2 W9 hW9
    have HR : Hid ((⟨f.row, f.fam, s6, f.ts, f.kind, f.val⟩ : Ent).small ∧ Drew base cb bv n w W9) := ⟨H7.out.2, hdr⟩
    clear hdr
    simp only at p0 p1 p2 p3 p4 p5 hW9
    go_wp2_with fail
    rw [← hW9]
    exact bodyPost_ret (v := (⟨f.row, f.fam, s6, f.ts, f.kind, f.val⟩ : Ent).v) (by simp [results, Try.results63, go_sem, p0, p1, p2, p3, p4, p5]) rfl ⟨⟨f.row, f.fam, s6, f.ts, f.kind, f.val⟩, rfl, HR.out.1, HR.out.2⟩
end Go.Proofs.Ytjphalbjimggcae
