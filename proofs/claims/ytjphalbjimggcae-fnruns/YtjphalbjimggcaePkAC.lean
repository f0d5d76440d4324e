import Derived.Lib.Bytealg
import Derived.Lib.Slices
import Derived.Lib.Walk
import Derived.Deep.QuietTactic
import Derived.BigQuiet
import Derived.Test.YtjphalbjimggcaeQDraw2
import Derived.Test.YtjphalbjimggcaePkAA
/-
  The draws: one write.
-/
namespace Go.Proofs.Ytjphalbjimggcae
open Go.ChangeShapes Go.WideShapes Go.ChangeAt Go.RowKit Go.Deep
set_option linter.unusedVariables false
set_option linter.unusedSimpArgs false
set_option maxRecDepth 100000

/-- An entry whose texts are short. -/
structure Ent.small (e : Ent) : Prop where
  row : e.row.size ≤ 1000
  fam : e.fam.size ≤ 1000
  qual : e.qual.size ≤ 1000
  val : e.val.size ≤ 1000
  ts : 0 ≤ e.ts ∧ e.ts ≤ 18446744073709551615
  kind : 0 ≤ e.kind ∧ e.kind ≤ 3
theorem Ent.small.ok {e : Ent} (h : e.small) : e.ok where
  row := Nat.le_trans h.row (by decide)
  fam := Nat.le_trans h.fam (by decide)
  qual := Nat.le_trans h.qual (by decide)
  val := Nat.le_trans h.val (by decide)
  ts := by
    have := h.ts
    have h1 : IntKind.u64.min = 0 := by decide
    have h2 : IntKind.u64.max = 18446744073709551615 := by decide
    simp [Lit.wf, h1, h2]; omega
  kind := by
    have := h.kind
    have h1 : IntKind.i64.min = -9223372036854775808 := by decide
    have h2 : IntKind.i64.max = 9223372036854775807 := by decide
    simp [Lit.wf, h1, h2]; omega
theorem small_zero : zeroE.small := ⟨by decide, by decide, by decide, by decide, by decide, by decide⟩

/-- A variable of the call's own that holds an entry, beside the drawing. -/
structure WInv (base cb : Nat) (bv : Value) (n : Nat) (w : World) (eb rb : Nat) (f : Ent) (wr : World) : Prop where
  e : OwnE wr w.heap.size eb 1 [f]
  r : OwnE wr w.heap.size rb 1 [zeroE]
  ne : ¬ eb = rb
  d : DrawAt base cb bv n wr
  c : Chg (fun k => k = cb) w wr
  lt : cb < w.heap.size
  hb : base ≤ w.heap.size
theorem WInv.call {base cb : Nat} {bv : Value} {n : Nat} {w : World} {eb rb : Nat} {f : Ent} {wr w1 : World} (h : WInv base cb bv n w eb rb f wr) (hd : Drew base cb bv n wr w1) : WInv base cb bv n w eb rb f w1 :=
  ⟨own_chg h.e hd.2 (fun k q => by simp [Value.ownBlock] at q; subst q; have := h.e.lt.1; have := h.lt; omega), own_chg h.r hd.2 (fun k q => by simp [Value.ownBlock] at q; subst q; have := h.r.lt.1; have := h.lt; omega), h.ne, hd.1, h.c.trans hd.2, h.lt, h.hb⟩
theorem WInv.set {base cb : Nat} {bv : Value} {n : Nat} {w : World} {eb rb : Nat} {f : Ent} {wr : World} (h : WInv base cb bv n w eb rb f wr) (j : Nat) (f' : Ent) (u : Value) (hj : j < 6) (hc : f'.cells = f.cells.set j u) : WInv base cb bv n w eb rb f' (wr.setCell ⟨eb, j, none⟩ u) := by
  have h1 := h.e.set 0 j f f' u rfl hj hc
  simp only [Nat.zero_mul, Nat.zero_add] at h1
  have hl := h.e.lt
  have hcb := h.lt
  have hbb := h.hb
  have hcg : Chg (fun k => k = eb) wr (wr.setCell ⟨eb, j, none⟩ u) := Chg.of_set _ _ _ _ rfl
  refine ⟨h1, own_chg h.r hcg (fun k q => by simp [Value.ownBlock] at q; subst q; exact fun q => h.ne q.symm), h.ne, h.d.chg hcg (by omega) (fun k q => by omega), ?_, h.lt, h.hb⟩
  exact Chg.grown_new h.c (grown_set wr eb j u) (fun k hk => by cases hk; exact hl.1)
theorem WInv.cells {base cb : Nat} {bv : Value} {n : Nat} {w : World} {eb rb : Nat} {f : Ent} {wr : World} (h : WInv base cb bv n w eb rb f wr) :
    (wr.cell? ⟨eb, 0, none⟩ = some (.string f.row) ∧ wr.cell? ⟨eb, 1, none⟩ = some (.string f.fam) ∧ wr.cell? ⟨eb, 2, none⟩ = some (.string f.qual) ∧ wr.cell? ⟨eb, 3, none⟩ = some (.int .u64 f.ts) ∧ wr.cell? ⟨eb, 4, none⟩ = some (.int .i64 f.kind) ∧ wr.cell? ⟨eb, 5, none⟩ = some (.string f.val)) ∧ ∀ j, wr.frozen? ⟨eb, j, none⟩ = false := by
  have := h.e.at 0 f rfl
  simp only [Nat.zero_add, Nat.zero_mul] at this
  exact ⟨this, fun j => World.ownsRow.frozenAt h.e j⟩
/-- What lies in the variable is handed back. -/
theorem WInv.back {base cb : Nat} {bv : Value} {n : Nat} {w : World} {eb rb : Nat} {f : Ent} {wr : World} (h : WInv base cb bv n w eb rb f wr) :
    (wr.cell? ⟨rb, 0, none⟩ = some (.string ⟨#[]⟩) ∧ wr.cell? ⟨rb, 1, none⟩ = some (.string ⟨#[]⟩) ∧ wr.cell? ⟨rb, 2, none⟩ = some (.string ⟨#[]⟩) ∧ wr.cell? ⟨rb, 3, none⟩ = some (.int .u64 0) ∧ wr.cell? ⟨rb, 4, none⟩ = some (.int .i64 0) ∧ wr.cell? ⟨rb, 5, none⟩ = some (.string ⟨#[]⟩)) ∧ (∀ j, wr.frozen? ⟨rb, j, none⟩ = false) ∧
    (∀ W9, W9 = ((((((wr.setCell ⟨rb, 0, none⟩ (.string f.row)).setCell ⟨rb, 1, none⟩ (.string f.fam)).setCell ⟨rb, 2, none⟩ (.string f.qual)).setCell ⟨rb, 3, none⟩ (.int .u64 f.ts)).setCell ⟨rb, 4, none⟩ (.int .i64 f.kind)).setCell ⟨rb, 5, none⟩ (.string f.val)) →
      (W9.cell? ⟨rb, 0, none⟩ = some (.string f.row) ∧ W9.cell? ⟨rb, 1, none⟩ = some (.string f.fam) ∧ W9.cell? ⟨rb, 2, none⟩ = some (.string f.qual) ∧ W9.cell? ⟨rb, 3, none⟩ = some (.int .u64 f.ts) ∧ W9.cell? ⟨rb, 4, none⟩ = some (.int .i64 f.kind) ∧ W9.cell? ⟨rb, 5, none⟩ = some (.string f.val)) ∧ DrawAt base cb bv n W9 ∧ Chg (fun k => k = cb) w W9) := by
  have h0 := h.r.at 0 zeroE rfl
  simp only [Nat.zero_add, Nat.zero_mul] at h0
  refine ⟨h0, fun j => World.ownsRow.frozenAt h.r j, fun W9 hW => ?_⟩
  have hp := h.r.put 0 zeroE f rfl
  simp only [Nat.zero_mul, Nat.zero_add] at hp
  have h1 := hp.at 0 f rfl
  simp only [Nat.zero_add, Nat.zero_mul] at h1
  have hl := h.r.lt
  have hcb := h.lt
  have hbb := h.hb
  have hcg : Chg (fun k => k = rb) wr W9 := by
    rw [hW]
    exact (((((Chg.of_set (S := fun k => k = rb) _ _ _ _ rfl).trans (Chg.of_set (S := fun k => k = rb) _ _ _ _ rfl)).trans (Chg.of_set (S := fun k => k = rb) _ _ _ _ rfl)).trans (Chg.of_set (S := fun k => k = rb) _ _ _ _ rfl)).trans (Chg.of_set (S := fun k => k = rb) _ _ _ _ rfl)).trans (Chg.of_set (S := fun k => k = rb) _ _ _ _ rfl)
  refine ⟨by rw [hW]; exact h1, h.d.chg hcg (by omega) (fun k q => by omega), ?_⟩
  have hcg2 : Chg (fun k => k = cb) w W9 := ⟨hcg.os.trans h.c.os, hcg.tape.trans h.c.tape, hcg.output.trans h.c.output, Nat.le_trans h.c.size hcg.size, fun k hk hn => (hcg.block k (Nat.lt_of_lt_of_le hk h.c.size) (by omega)).trans (h.c.block k hk hn)⟩
  exact hcg2

theorem ownE_new (w : World) (base : Nat) (f : Ent) (hb : base ≤ w.heap.size) : OwnE (w.alloc (Obj.cells #[.string f.row, .string f.fam, .string f.qual, .int .u64 f.ts, .int .i64 f.kind, .string f.val] 73)) base w.heap.size 1 [f] :=
  World.ownsRow_lit (base := base) (e := 73) (size := 6) w #[.string f.row, .string f.fam, .string f.qual, .int .u64 f.ts, .int .i64 f.kind, .string f.val] 1 hb (by decide) rfl

set_option maxHeartbeats 4000000 in
theorem write_core (base cb : Nat) (bv : Value) (n : Nat) (w : World) (h : DrawAt base cb bv n w) :
    Calls Try.prog 87 #[.pointer (some ⟨cb, 0, none⟩)] w fun r w' => ∃ e : Ent, r = .returned e.v ∧ e.small ∧ Drew base cb bv n w w' := by
  have hlt := h.lt
  have hbase := h.base
  obtain ⟨Wa, hWa⟩ : ∃ Wa : World, Wa = w.alloc (Obj.cells #[.string ⟨#[]⟩, .string ⟨#[]⟩, .string ⟨#[]⟩, .int .u64 0, .int .i64 0, .string ⟨#[]⟩] 73) := ⟨_, rfl⟩
  have hba : Below w.heap.size w Wa := by rw [hWa]; exact (Below.refl _ _).alloc (Nat.le_refl _) _
  have hza : Wa.heap.size = w.heap.size + 1 := by rw [hWa]; simp
  obtain ⟨Wb, hWb⟩ : ∃ Wb : World, Wb = Wa.alloc (Obj.cells #[.string ⟨#[]⟩, .string ⟨#[]⟩, .string ⟨#[]⟩, .int .u64 0, .int .i64 0, .string ⟨#[]⟩] 73) := ⟨_, rfl⟩
  have hbb : Below Wa.heap.size Wa Wb := by rw [hWb]; exact (Below.refl _ _).alloc (Nat.le_refl _) _
  have H0 : Hid (WInv base cb bv n w (w.heap.size + 1) w.heap.size zeroE Wb) := by
    refine ⟨?_, ?_, by omega, (h.below hba).below hbb, (Chg.of_below hba).trans (Chg.of_below hbb), hlt.2, hbase⟩
    · rw [hWb, ← hza]; exact ownE_new Wa w.heap.size zeroE (by omega)
    · have : OwnE Wa w.heap.size w.heap.size 1 [zeroE] := by rw [hWa]; exact ownE_new w w.heap.size zeroE (Nat.le_refl _)
      exact this.below hbb (by omega)
  clear h hlt
  go_enter Try.func87, Try.ntmps87
  go_wp2_with fail
  rw [← hWa, ← hWb]
  clear hWa hWb hba hbb hza
  generalize w.heap.size + 1 = eb at *
  refine (row_core base cb bv n _ H0.out.d).mono ?_
  rintro e w1 ⟨s1, rfl, hs1, hd1⟩
  have h1 := H0.out.call hd1
  obtain ⟨⟨c0, _⟩, f1⟩ := h1.cells
  have f1' := f1 0
  have H1 : Hid (WInv base cb bv n w eb w.heap.size { zeroE with row := s1 } (w1.setCell ⟨eb, 0, none⟩ (.string s1))) := h1.set 0 _ _ (by omega) rfl
  clear h1 hd1 f1
  go_wp2_with fail
  refine (fam_core base cb bv n _ H1.out.d).mono ?_
  rintro e w2 ⟨s2, rfl, hs2, hd2⟩
  have h2 := H1.out.call hd2
  obtain ⟨⟨_, c1, _⟩, f1⟩ := h2.cells
  have f2' := f1 1
  have H2 : Hid (WInv base cb bv n w eb w.heap.size { zeroE with row := s1, fam := s2 } (w2.setCell ⟨eb, 1, none⟩ (.string s2))) := h2.set 1 _ _ (by omega) rfl
  clear h2 hd2 f1 c0 f1'
  go_wp2_with fail
  refine (qual_core base cb bv n _ H2.out.d).mono ?_
  rintro e w3 ⟨s3, rfl, hs3, hd3⟩
  have h3 := H2.out.call hd3
  obtain ⟨⟨_, _, c2, _⟩, f1⟩ := h3.cells
  have f3' := f1 2
  have H3 : Hid (WInv base cb bv n w eb w.heap.size { zeroE with row := s1, fam := s2, qual := s3 } (w3.setCell ⟨eb, 2, none⟩ (.string s3))) := h3.set 2 _ _ (by omega) rfl
  clear h3 hd3 f1 c1 f2'
  go_wp2_with fail
  refine (ts_core base cb bv n _ H3.out.d).mono ?_
  rintro e w4 ⟨t, rfl, ht, hd4⟩
  have h4 := H3.out.call hd4
  obtain ⟨⟨_, _, _, c3, _⟩, f1⟩ := h4.cells
  have f4' := f1 3
  have H4 : Hid (WInv base cb bv n w eb w.heap.size { zeroE with row := s1, fam := s2, qual := s3, ts := t } (w4.setCell ⟨eb, 3, none⟩ (.int .u64 t))) := h4.set 3 _ _ (by omega) rfl
  clear h4 hd4 f1 c2 f3'
  go_wp2_with fail
  refine (below_core base cb bv n 10 _ H4.out.d (by omega) (by omega)).mono ?_
  rintro e w5 ⟨x, rfl, hx0, hx1, hd5⟩
  have H5 : Hid (WInv base cb bv n w eb w.heap.size { zeroE with row := s1, fam := s2, qual := s3, ts := t } w5) := H4.out.call hd5
  clear hd5 c3 f4'
  have fin : ∀ (f : Ent) (wr : World), WInv base cb bv n w eb w.heap.size f wr → f.small → ∀ W9, W9 = ((((((wr.setCell ⟨w.heap.size, 0, none⟩ (.string f.row)).setCell ⟨w.heap.size, 1, none⟩ (.string f.fam)).setCell ⟨w.heap.size, 2, none⟩ (.string f.qual)).setCell ⟨w.heap.size, 3, none⟩ (.int .u64 f.ts)).setCell ⟨w.heap.size, 4, none⟩ (.int .i64 f.kind)).setCell ⟨w.heap.size, 5, none⟩ (.string f.val)) →
      ∃ e : Ent, Ending.returned (Value.agg #[.string f.row, .string f.fam, .string f.qual, .int .u64 f.ts, .int .i64 f.kind, .string f.val]) = .returned e.v ∧ e.small ∧ Drew base cb bv n w W9 := fun f wr hw hf W9 hW => ⟨f, rfl, hf, (hw.back.2.2 W9 hW).2⟩
  have HF : Hid (∀ (f : Ent) (wr : World), WInv base cb bv n w eb w.heap.size f wr → f.small → ∀ W9, W9 = ((((((wr.setCell ⟨w.heap.size, 0, none⟩ (.string f.row)).setCell ⟨w.heap.size, 1, none⟩ (.string f.fam)).setCell ⟨w.heap.size, 2, none⟩ (.string f.qual)).setCell ⟨w.heap.size, 3, none⟩ (.int .u64 f.ts)).setCell ⟨w.heap.size, 4, none⟩ (.int .i64 f.kind)).setCell ⟨w.heap.size, 5, none⟩ (.string f.val)) →
      ∃ e : Ent, Ending.returned (Value.agg #[.string f.row, .string f.fam, .string f.qual, .int .u64 f.ts, .int .i64 f.kind, .string f.val]) = .returned e.v ∧ e.small ∧ Drew base cb bv n w W9) := fin
  clear fin
  by_cases hx7 : x < 7
  · go_wp2_with fail
    refine (letters_core base cb bv n 0 3 _ H5.out.d (by omega) (by omega) (by omega)).mono ?_
    rintro e w6 ⟨s6, rfl, hs6, hd6⟩
    have h6 := H5.out.call hd6
    obtain ⟨⟨_, _, _, _, _, c5⟩, f1⟩ := h6.cells
    have f6' := f1 5
    have H6 : Hid (WInv base cb bv n w eb w.heap.size ⟨s1, s2, s3, t, 0, s6⟩ (w6.setCell ⟨eb, 5, none⟩ (.string s6)) ∧ (⟨s1, s2, s3, t, 0, s6⟩ : Ent).small) := ⟨h6.set 5 _ _ (by omega) rfl, ⟨hs1, hs2, hs3, by show s6.size ≤ 1000; omega, ht, by simp⟩⟩
    clear h6 hd6 f1
    go_upto_region 12 with fail
    obtain ⟨W7, hW7⟩ : ∃ W7 : World, W7 = w6.setCell ⟨eb, 5, none⟩ (.string s6) := ⟨_, rfl⟩
    rw [← hW7]
    have H7 : Hid (WInv base cb bv n w eb w.heap.size ⟨s1, s2, s3, t, 0, s6⟩ W7 ∧ (⟨s1, s2, s3, t, 0, s6⟩ : Ent).small) := by rw [hW7]; exact H6.out
    clear hW7 H6
    obtain ⟨⟨k0, k1, k2, k3, k4, k5⟩, _⟩ := H7.out.1.cells
    obtain ⟨⟨l0, l1, l2, l3, l4, l5⟩, lf, _⟩ := H7.out.1.back
    simp only at k0 k1 k2 k3 k4 k5
    obtain ⟨W9, hW9⟩ : ∃ W9 : World, W9 = ((((((W7.setCell ⟨w.heap.size, 0, none⟩ (.string (⟨s1, s2, s3, t, 0, s6⟩ : Ent).row)).setCell ⟨w.heap.size, 1, none⟩ (.string (⟨s1, s2, s3, t, 0, s6⟩ : Ent).fam)).setCell ⟨w.heap.size, 2, none⟩ (.string (⟨s1, s2, s3, t, 0, s6⟩ : Ent).qual)).setCell ⟨w.heap.size, 3, none⟩ (.int .u64 (⟨s1, s2, s3, t, 0, s6⟩ : Ent).ts)).setCell ⟨w.heap.size, 4, none⟩ (.int .i64 (⟨s1, s2, s3, t, 0, s6⟩ : Ent).kind)).setCell ⟨w.heap.size, 5, none⟩ (.string (⟨s1, s2, s3, t, 0, s6⟩ : Ent).val)) := ⟨_, rfl⟩
    obtain ⟨⟨p0, p1, p2, p3, p4, p5⟩, _⟩ := H7.out.1.back.2.2 W9 hW9
    have HR := HF.out ⟨s1, s2, s3, t, 0, s6⟩ W7 H7.out.1 H7.out.2 W9 hW9
    simp only at p0 p1 p2 p3 p4 p5 hW9
    go_wp2_with fail
    rw [← hW9]
    exact bodyPost_ret (by simp [results, Try.results87, go_sem, p0, p1, p2, p3, p4, p5]) rfl HR
  · cases hx7e : (x == 7)
    · obtain ⟨⟨_, _, _, _, c4, _⟩, f1⟩ := H5.out.cells
      have f6' := f1 4
      have H6 : Hid (WInv base cb bv n w eb w.heap.size ⟨s1, s2, s3, t, 1, ⟨#[]⟩⟩ (w5.setCell ⟨eb, 4, none⟩ (.int .i64 1)) ∧ (⟨s1, s2, s3, t, 1, ⟨#[]⟩⟩ : Ent).small) := ⟨H5.out.set 4 _ _ (by omega) rfl, ⟨hs1, hs2, hs3, by show (0 : Nat) ≤ 1000; omega, ht, by simp⟩⟩
      clear f1
      go_upto_region 12 with fail
      obtain ⟨W7, hW7⟩ : ∃ W7 : World, W7 = w5.setCell ⟨eb, 4, none⟩ (.int .i64 1) := ⟨_, rfl⟩
      rw [← hW7]
      have H7 : Hid (WInv base cb bv n w eb w.heap.size ⟨s1, s2, s3, t, 1, ⟨#[]⟩⟩ W7 ∧ (⟨s1, s2, s3, t, 1, ⟨#[]⟩⟩ : Ent).small) := by rw [hW7]; exact H6.out
      clear hW7 H6
      obtain ⟨⟨k0, k1, k2, k3, k4, k5⟩, _⟩ := H7.out.1.cells
      obtain ⟨⟨l0, l1, l2, l3, l4, l5⟩, lf, _⟩ := H7.out.1.back
      simp only at k0 k1 k2 k3 k4 k5
      obtain ⟨W9, hW9⟩ : ∃ W9 : World, W9 = ((((((W7.setCell ⟨w.heap.size, 0, none⟩ (.string (⟨s1, s2, s3, t, 1, ⟨#[]⟩⟩ : Ent).row)).setCell ⟨w.heap.size, 1, none⟩ (.string (⟨s1, s2, s3, t, 1, ⟨#[]⟩⟩ : Ent).fam)).setCell ⟨w.heap.size, 2, none⟩ (.string (⟨s1, s2, s3, t, 1, ⟨#[]⟩⟩ : Ent).qual)).setCell ⟨w.heap.size, 3, none⟩ (.int .u64 (⟨s1, s2, s3, t, 1, ⟨#[]⟩⟩ : Ent).ts)).setCell ⟨w.heap.size, 4, none⟩ (.int .i64 (⟨s1, s2, s3, t, 1, ⟨#[]⟩⟩ : Ent).kind)).setCell ⟨w.heap.size, 5, none⟩ (.string (⟨s1, s2, s3, t, 1, ⟨#[]⟩⟩ : Ent).val)) := ⟨_, rfl⟩
      obtain ⟨⟨p0, p1, p2, p3, p4, p5⟩, _⟩ := H7.out.1.back.2.2 W9 hW9
      have HR := HF.out ⟨s1, s2, s3, t, 1, ⟨#[]⟩⟩ W7 H7.out.1 H7.out.2 W9 hW9
      simp only at p0 p1 p2 p3 p4 p5 hW9
      go_wp2_with fail
      rw [← hW9]
      exact bodyPost_ret (by simp [results, Try.results87, go_sem, p0, p1, p2, p3, p4, p5]) rfl HR
    · obtain ⟨⟨_, _, _, _, c4, _⟩, f1⟩ := H5.out.cells
      have f6' := f1 4
      have H6 : Hid (WInv base cb bv n w eb w.heap.size ⟨s1, s2, s3, t, 2, ⟨#[]⟩⟩ (w5.setCell ⟨eb, 4, none⟩ (.int .i64 2)) ∧ (⟨s1, s2, s3, t, 2, ⟨#[]⟩⟩ : Ent).small) := ⟨H5.out.set 4 _ _ (by omega) rfl, ⟨hs1, hs2, hs3, by show (0 : Nat) ≤ 1000; omega, ht, by simp⟩⟩
      clear f1
      go_upto_region 12 with fail
      obtain ⟨W7, hW7⟩ : ∃ W7 : World, W7 = w5.setCell ⟨eb, 4, none⟩ (.int .i64 2) := ⟨_, rfl⟩
      rw [← hW7]
      have H7 : Hid (WInv base cb bv n w eb w.heap.size ⟨s1, s2, s3, t, 2, ⟨#[]⟩⟩ W7 ∧ (⟨s1, s2, s3, t, 2, ⟨#[]⟩⟩ : Ent).small) := by rw [hW7]; exact H6.out
      clear hW7 H6
      obtain ⟨⟨k0, k1, k2, k3, k4, k5⟩, _⟩ := H7.out.1.cells
      obtain ⟨⟨l0, l1, l2, l3, l4, l5⟩, lf, _⟩ := H7.out.1.back
      simp only at k0 k1 k2 k3 k4 k5
      obtain ⟨W9, hW9⟩ : ∃ W9 : World, W9 = ((((((W7.setCell ⟨w.heap.size, 0, none⟩ (.string (⟨s1, s2, s3, t, 2, ⟨#[]⟩⟩ : Ent).row)).setCell ⟨w.heap.size, 1, none⟩ (.string (⟨s1, s2, s3, t, 2, ⟨#[]⟩⟩ : Ent).fam)).setCell ⟨w.heap.size, 2, none⟩ (.string (⟨s1, s2, s3, t, 2, ⟨#[]⟩⟩ : Ent).qual)).setCell ⟨w.heap.size, 3, none⟩ (.int .u64 (⟨s1, s2, s3, t, 2, ⟨#[]⟩⟩ : Ent).ts)).setCell ⟨w.heap.size, 4, none⟩ (.int .i64 (⟨s1, s2, s3, t, 2, ⟨#[]⟩⟩ : Ent).kind)).setCell ⟨w.heap.size, 5, none⟩ (.string (⟨s1, s2, s3, t, 2, ⟨#[]⟩⟩ : Ent).val)) := ⟨_, rfl⟩
      obtain ⟨⟨p0, p1, p2, p3, p4, p5⟩, _⟩ := H7.out.1.back.2.2 W9 hW9
      have HR := HF.out ⟨s1, s2, s3, t, 2, ⟨#[]⟩⟩ W7 H7.out.1 H7.out.2 W9 hW9
      simp only at p0 p1 p2 p3 p4 p5 hW9
      go_wp2_with fail
      rw [← hW9]
      exact bodyPost_ret (by simp [results, Try.results87, go_sem, p0, p1, p2, p3, p4, p5]) rfl HR
end Go.Proofs.Ytjphalbjimggcae

/-
  The order of keys: spec.CompareKeys and impl.CompareKeys come to one Lean function.
-/
namespace Go.Proofs.Ytjphalbjimggcae
open Go.ChangeShapes Go.WideShapes Go.ChangeAt Go.RowKit Go.Deep

/-- Two strings against each other. -/
def cB (a b : ByteArray) : Int := Lib.compareBytes a.data.toList b.data.toList

theorem compareBytes_less : ∀ a b : List UInt8, Op.bytesLess a b = true → Lib.compareBytes a b = -1
  | [], [] => by simp [Op.bytesLess]
  | [], _ :: _ => by simp [Lib.compareBytes]
  | _ :: _, [] => by simp [Op.bytesLess]
  | a :: x, b :: y => by
    intro h
    simp only [Op.bytesLess, Bool.or_eq_true, decide_eq_true_eq, Bool.and_eq_true, beq_iff_eq] at h
    unfold Lib.compareBytes
    rcases h with h | ⟨rfl, h⟩
    · rw [if_pos h]
    · have hn : ¬ a < a := by simp
      rw [if_neg hn, if_neg hn]; exact compareBytes_less x y h
theorem compareBytes_self : ∀ a : List UInt8, Lib.compareBytes a a = 0
  | [] => rfl
  | a :: x => by
    unfold Lib.compareBytes
    have hn : ¬ a < a := by simp
    rw [if_neg hn, if_neg hn]; exact compareBytes_self x
theorem compareBytes_more : ∀ a b : List UInt8, Op.bytesLess a b = false → (a == b) = false → Lib.compareBytes a b = 1
  | [], [] => by simp
  | [], _ :: _ => by simp [Op.bytesLess]
  | _ :: _, [] => by simp [Lib.compareBytes]
  | a :: x, b :: y => by
    intro h h2
    simp only [Op.bytesLess, Bool.or_eq_false_iff, decide_eq_false_iff_not] at h
    unfold Lib.compareBytes
    rw [if_neg h.1]
    by_cases hb : b < a
    · rw [if_pos hb]
    · rw [if_neg hb]
      have hab : a = b := by
        have h1 := h.1
        rw [UInt8.lt_iff_toNat_lt] at h1 hb
        exact UInt8.toNat_inj.1 (by omega)
      subst hab
      refine compareBytes_more x y ?_ ?_
      · simpa using h.2
      · simpa using h2
theorem compareBytes_vals (a b : List UInt8) : Lib.compareBytes a b = -1 ∨ Lib.compareBytes a b = 0 ∨ Lib.compareBytes a b = 1 := by
  cases h : Op.bytesLess a b
  · cases h2 : (a == b)
    · exact .inr (.inr (compareBytes_more a b h h2))
    · rw [beq_iff_eq] at h2; subst h2; exact .inr (.inl (compareBytes_self a))
  · exact .inl (compareBytes_less a b h)
theorem cB_vals (a b : ByteArray) : cB a b = -1 ∨ cB a b = 0 ∨ cB a b = 1 := compareBytes_vals _ _
theorem cB_less {a b : ByteArray} (h : Op.bytesLess a.toList b.toList = true) : cB a b = -1 := by
  rw [ByteArray.toList_eq, ByteArray.toList_eq] at h; exact compareBytes_less _ _ h
theorem cB_more {a b : ByteArray} (h : Op.bytesLess a.toList b.toList = false) (h2 : (a.toList == b.toList) = false) : cB a b = 1 := by
  rw [ByteArray.toList_eq, ByteArray.toList_eq] at h h2; exact compareBytes_more _ _ h h2
theorem cB_same {a b : ByteArray} (h2 : (a.toList == b.toList) = true) : cB a b = 0 := by
  rw [ByteArray.toList_eq, ByteArray.toList_eq, beq_iff_eq] at h2; unfold cB; rw [h2]; exact compareBytes_self _

def firstOf (a b : Int) : Int := if a = 0 then b else a
def kindCmp (k l : Int) : Int := if k = 2 then (if l = 2 then 0 else -1) else (if l = 2 then 1 else 0)
def tsCmp (t u : Int) : Int := if u < t then -1 else if t < u then 1 else 0
/-- The order of keys. -/
def keyCmp (a b : Ent) : Int := firstOf (cB a.row b.row) (firstOf (cB a.fam b.fam) (firstOf (cB a.qual b.qual) (firstOf (kindCmp a.kind b.kind) (tsCmp a.ts b.ts))))

theorem ret_int {k : IntKind} {a b : Int} (h : a = b) : Ending.returned (.int k a) = .returned (.int k b) := by rw [h]

set_option maxHeartbeats 400000 in
theorem l1Str_any (a b : ByteArray) (w : World) :
    Calls Try.prog 67 #[.string a, .string b] w fun e w' => e = .returned (.int .i64 (cB a b)) ∧ w' = w := by
  cases h : Op.bytesLess a.toList b.toList
  · cases h2 : (a.toList == b.toList)
    · have H : Hid (cB a b = 1) := cB_more h h2
      go_enter Try.func67, Try.ntmps67
      go_wp2
      go_ret
      exact ⟨ret_int H.out.symm, rfl⟩
    · have H : Hid (cB a b = 0) := cB_same h2
      go_enter Try.func67, Try.ntmps67
      go_wp2
      go_ret
      exact ⟨ret_int H.out.symm, rfl⟩
  · have H : Hid (cB a b = -1) := cB_less h
    go_enter Try.func67, Try.ntmps67
    go_wp2
    go_ret
    exact ⟨ret_int H.out.symm, rfl⟩

set_option maxHeartbeats 400000 in
theorem l1First_any (a b : Int) (w : World) :
    Calls Try.prog 66 #[.int .i64 a, .int .i64 b] w fun e w' => e = .returned (.int .i64 (firstOf a b)) ∧ w' = w := by
  unfold firstOf
  by_cases h : a = 0
  · have h' : (a != 0) = false := by simp [h]
    rw [if_pos h]
    clear h
    go_enter Try.func66, Try.ntmps66
    go_wp2
    go_ret
    exact ⟨rfl, rfl⟩
  · have h' : (a != 0) = true := by simp [h]
    rw [if_neg h]
    clear h
    go_enter Try.func66, Try.ntmps66
    go_wp2
    go_ret
    exact ⟨rfl, rfl⟩

set_option maxHeartbeats 1000000 in
set_option maxRecDepth 100000 in
theorem compareString_any (a b : ByteArray) (w : World) :
    Calls Try.prog 120 #[.string a, .string b] w fun e w' => e = .returned (.int .i64 (cB a b)) ∧ w' = w := by
  go_enter Try.func120, Try.ntmps120
  go_wp2
  rw [run_callFunc_extern Try.func129 (by kernel_rfl) (by kernel_rfl) (by kernel_rfl) (e := Extern.BytealgCompare.compare) (by kernel_rfl), Lib.run_compareString]
  simp only [Result.andThen]
  rw [Oper.upon_value]
  go_wp2
  go_ret
  exact ⟨rfl, rfl⟩

set_option maxHeartbeats 400000 in
theorem stringsCompare_any (a b : ByteArray) (w : World) :
    Calls Try.prog 103 #[.string a, .string b] w fun e w' => e = .returned (.int .i64 (cB a b)) ∧ w' = w := by
  go_enter Try.func103, Try.ntmps103
  go_wp2_with (go_at_call 120; refine (compareString_any _ _ _).mono ?_; rintro e w' ⟨rfl, rfl⟩)
  go_ret
  exact ⟨rfl, rfl⟩

set_option maxHeartbeats 400000 in
theorem cmpU64_any (a b : Int) (w : World) :
    Calls Try.prog 80 #[.int .u64 a, .int .u64 b] w fun e w' => e = .returned (.int .i64 (tsCmp b a)) ∧ w' = w := by
  unfold tsCmp
  by_cases h : a < b
  · rw [if_pos h]
    go_enter Try.func80, Try.ntmps80
    go_wp2
    go_ret
    exact ⟨rfl, rfl⟩
  · rw [if_neg h]
    by_cases h2 : b < a
    · rw [if_pos h2]
      go_enter Try.func80, Try.ntmps80
      go_wp2
      go_ret
      exact ⟨rfl, rfl⟩
    · rw [if_neg h2]
      go_enter Try.func80, Try.ntmps80
      go_wp2
      go_ret
      exact ⟨rfl, rfl⟩
end Go.Proofs.Ytjphalbjimggcae

