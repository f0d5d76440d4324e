/-
  The draws: a range; an entry spoilt.
-/
import Derived.Test.YtjphalbjimggcaePkAI
namespace Go.Proofs.Ytjphalbjimggcae
open Go.ChangeShapes Go.WideShapes Go.ChangeAt Go.RowKit Go.Deep
set_option linter.unusedVariables false
set_option linter.unusedSimpArgs false
set_option maxRecDepth 100000

/-- Two variables of one struct type of the call's own, beside the drawing: the one at work and the one that is handed back. -/
structure XInv (base cb : Nat) (bv : Value) (n : Nat) (w : World) (T sz vb rb : Nat) (vs zs : List Value) (wr : World) : Prop where
  var : wr.ownsRow w.heap.size T sz (.slice (some ⟨vb, 0, none⟩) 1 1) 1 vs
  res : wr.ownsRow w.heap.size T sz (.slice (some ⟨rb, 0, none⟩) 1 1) 1 zs
  ne : ¬ vb = rb
  d : DrawAt base cb bv n wr
  c : Chg (fun k => k = cb) w wr
  lt : cb < w.heap.size
  hb : base ≤ w.heap.size
theorem XInv.call {base cb : Nat} {bv : Value} {n : Nat} {w : World} {T sz vb rb : Nat} {vs zs : List Value} {wr w1 : World} (h : XInv base cb bv n w T sz vb rb vs zs wr) (hd : Drew base cb bv n wr w1) : XInv base cb bv n w T sz vb rb vs zs w1 :=
  ⟨own_chg h.var hd.2 (fun k q => by have h1 := (World.ownsRow.lt h.var k q).1; have := h.lt; omega), own_chg h.res hd.2 (fun k q => by have h1 := (World.ownsRow.lt h.res k q).1; have := h.lt; omega), h.ne, hd.1, h.c.trans hd.2, h.lt, h.hb⟩
theorem XInv.below {base cb : Nat} {bv : Value} {n : Nat} {w : World} {T sz vb rb : Nat} {vs zs : List Value} {wr w1 : World} (h : XInv base cb bv n w T sz vb rb vs zs wr) (hb : Below wr.heap.size wr w1) : XInv base cb bv n w T sz vb rb vs zs w1 :=
  h.call ⟨h.d.below hb, Chg.of_below hb⟩
theorem XInv.set {base cb : Nat} {bv : Value} {n : Nat} {w : World} {T sz vb rb : Nat} {vs zs : List Value} {wr : World} (h : XInv base cb bv n w T sz vb rb vs zs wr) (j : Nat) (u : Value) : XInv base cb bv n w T sz vb rb (vs.set j u) zs (wr.setCell ⟨vb, j, none⟩ u) := by
  have hl := World.ownsRow.lt h.var vb rfl
  have hcb := h.lt
  have hbb := h.hb
  have hcg : Chg (fun k => k = vb) wr (wr.setCell ⟨vb, j, none⟩ u) := Chg.of_set _ _ _ _ rfl
  exact ⟨(World.ownsRow.stored h.var j u).1, own_chg h.res hcg (fun k q => by simp [Value.ownBlock] at q; subst q; exact fun q => h.ne q.symm), h.ne, h.d.chg hcg (by omega) (fun k q => by omega), Chg.grown_new h.c (grown_set wr vb j u) (fun k hk => by cases hk; exact hl.1), h.lt, h.hb⟩
theorem XInv.setRes {base cb : Nat} {bv : Value} {n : Nat} {w : World} {T sz vb rb : Nat} {vs zs : List Value} {wr : World} (h : XInv base cb bv n w T sz vb rb vs zs wr) (j : Nat) (u : Value) : XInv base cb bv n w T sz vb rb vs (zs.set j u) (wr.setCell ⟨rb, j, none⟩ u) := by
  have hl := World.ownsRow.lt h.res rb rfl
  have hcb := h.lt
  have hbb := h.hb
  have hcg : Chg (fun k => k = rb) wr (wr.setCell ⟨rb, j, none⟩ u) := Chg.of_set _ _ _ _ rfl
  exact ⟨own_chg h.var hcg (fun k q => by simp [Value.ownBlock] at q; subst q; exact h.ne), (World.ownsRow.stored h.res j u).1, h.ne, h.d.chg hcg (by omega) (fun k q => by omega), Chg.grown_new h.c (grown_set wr rb j u) (fun k hk => by cases hk; exact hl.1), h.lt, h.hb⟩
theorem XInv.cell {base cb : Nat} {bv : Value} {n : Nat} {w : World} {T sz vb rb : Nat} {vs zs : List Value} {wr : World} (h : XInv base cb bv n w T sz vb rb vs zs wr) (j : Nat) (hj : j < 1 * sz) : wr.cell? ⟨vb, j, none⟩ = vs[j]? ∧ wr.frozen? ⟨vb, j, none⟩ = false :=
  ⟨World.ownsRow.cellAt h.var j hj, World.ownsRow.frozenAt h.var j⟩
theorem XInv.cellRes {base cb : Nat} {bv : Value} {n : Nat} {w : World} {T sz vb rb : Nat} {vs zs : List Value} {wr : World} (h : XInv base cb bv n w T sz vb rb vs zs wr) (j : Nat) (hj : j < 1 * sz) : wr.cell? ⟨rb, j, none⟩ = zs[j]? ∧ wr.frozen? ⟨rb, j, none⟩ = false :=
  ⟨World.ownsRow.cellAt h.res j hj, World.ownsRow.frozenAt h.res j⟩

abbrev rgv (lo : ByteArray) (hh : Bool) (hi : ByteArray) : List Value := [.string lo, .bool hh, .string hi]
abbrev RX (base cb : Nat) (bv : Value) (n : Nat) (w : World) (vb : Nat) (lo : ByteArray) (hh : Bool) (hi : ByteArray) (wr : World) : Prop := XInv base cb bv n w 25 3 vb w.heap.size (rgv lo hh hi) (rgv ⟨#[]⟩ false ⟨#[]⟩) wr
set_option maxHeartbeats 4000000 in
theorem range_core (base cb : Nat) (bv : Value) (n : Nat) (w : World) (h : DrawAt base cb bv n w) :
    Calls Try.prog 31 #[.pointer (some ⟨cb, 0, none⟩)] w fun r w' => ∃ (lo : ByteArray) (hv : Value) (hi : ByteArray), r = .returned (.agg #[.string lo, hv, .string hi]) ∧ (hv = .bool true ∨ hv = .bool false) ∧ lo.size ≤ 1000 ∧ hi.size ≤ 1000 ∧ Drew base cb bv n w w' := by
  have hlt := h.lt
  have hbase := h.base
  obtain ⟨Wa, hWa⟩ : ∃ Wa : World, Wa = w.alloc (Obj.cells #[.string ⟨#[]⟩, .bool false, .string ⟨#[]⟩] 25) := ⟨_, rfl⟩
  have hba : Below w.heap.size w Wa := by rw [hWa]; exact (Below.refl _ _).alloc (Nat.le_refl _) _
  have hza : Wa.heap.size = w.heap.size + 1 := by rw [hWa]; simp
  obtain ⟨Wb, hWb⟩ : ∃ Wb : World, Wb = Wa.alloc (Obj.cells #[.string ⟨#[]⟩, .bool false, .string ⟨#[]⟩] 25) := ⟨_, rfl⟩
  have hbb : Below Wa.heap.size Wa Wb := by rw [hWb]; exact (Below.refl _ _).alloc (Nat.le_refl _) _
  have H0 : Hid (RX base cb bv n w (w.heap.size + 1) ⟨#[]⟩ false ⟨#[]⟩ Wb) := by
    refine ⟨?_, ?_, by omega, (h.below hba).below hbb, (Chg.of_below hba).trans (Chg.of_below hbb), hlt.2, hbase⟩
    · rw [hWb, ← hza]; exact World.ownsRow_lit Wa #[.string ⟨#[]⟩, .bool false, .string ⟨#[]⟩] 1 (by omega) (by decide) rfl
    · have : Wa.ownsRow w.heap.size 25 3 (.slice (some ⟨w.heap.size, 0, none⟩) 1 1) 1 (rgv ⟨#[]⟩ false ⟨#[]⟩) := by rw [hWa]; exact World.ownsRow_lit w #[.string ⟨#[]⟩, .bool false, .string ⟨#[]⟩] 1 (Nat.le_refl _) (by decide) rfl
      exact own_chg (S := fun _ => False) this (Chg.of_below hbb) (fun k _ q => q)
  clear h hlt
  go_enter Try.func31, Try.ntmps31
  go_wp2_with fail
  rw [← hWa, ← hWb]
  clear hWa hWb hba hbb hza
  generalize w.heap.size + 1 = vb at *
  refine (once_core base cb bv n 2 _ H0.out.d (by omega) (by omega)).mono ?_
  rintro e w1 ⟨v, rfl, hv, hd1⟩
  have H1 : Hid (RX base cb bv n w vb ⟨#[]⟩ false ⟨#[]⟩ w1) := H0.out.call hd1
  clear hd1
  rcases hv with rfl | rfl
  · go_wp2_with fail
    refine (letters_core base cb bv n 0 2 _ H1.out.d (by omega) (by omega) (by omega)).mono ?_
    rintro e w2 ⟨s2, rfl, hs2, hd2⟩
    have H2 : Hid (RX base cb bv n w vb ⟨#[]⟩ false ⟨#[]⟩ w2) := H1.out.call hd2
    clear hd2
    obtain ⟨m0, mf0⟩ := H2.out.cell 0 (by decide)
    simp only [List.getElem?_cons_zero, List.getElem?_cons_succ] at m0
    obtain ⟨W2, hW2⟩ : ∃ W2 : World, W2 = w2.setCell ⟨vb, 0, none⟩ (.string s2) := ⟨_, rfl⟩
    have H2b : Hid (RX base cb bv n w vb s2 false ⟨#[]⟩ W2) := by show RX base cb bv n w vb s2 false ⟨#[]⟩ W2; rw [hW2]; exact H2.out.set 0 (.string s2)
    go_upto_region 4 with fail
    rw [← hW2]
    clear hW2 m0 mf0
    go_wp2_with fail
    refine (once_core base cb bv n 3 _ H2b.out.d (by omega) (by omega)).mono ?_
    rintro e w3 ⟨v, rfl, hv, hd3⟩
    have H3 : Hid (RX base cb bv n w vb s2 false ⟨#[]⟩ w3) := H2b.out.call hd3
    clear hd3
    rcases hv with rfl | rfl
    · obtain ⟨m1, mf1⟩ := H3.out.cell 1 (by decide)
      simp only [List.getElem?_cons_zero, List.getElem?_cons_succ] at m1
      have H3b : Hid (RX base cb bv n w vb s2 true ⟨#[]⟩ (w3.setCell ⟨vb, 1, none⟩ (.bool true))) := H3.out.set 1 (.bool true)
      go_wp2_with fail
      refine (letters_core base cb bv n 1 2 _ H3b.out.d (by omega) (by omega) (by omega)).mono ?_
      rintro e w4 ⟨s4, rfl, hs4, hd4⟩
      have H4 : Hid (RX base cb bv n w vb s2 true ⟨#[]⟩ w4) := H3b.out.call hd4
      clear hd4 m1 mf1
      obtain ⟨m2, mf2⟩ := H4.out.cell 2 (by decide)
      simp only [List.getElem?_cons_zero, List.getElem?_cons_succ] at m2
      obtain ⟨W4, hW4⟩ : ∃ W4 : World, W4 = w4.setCell ⟨vb, 2, none⟩ (.string s4) := ⟨_, rfl⟩
      have H4b : Hid (RX base cb bv n w vb s2 true s4 W4) := by show RX base cb bv n w vb s2 true s4 W4; rw [hW4]; exact H4.out.set 2 (.string s4)
      go_upto_region 7 with fail
      rw [← hW4]
      clear hW4 m2 mf2
      go_wp2_with fail
      refine (once_core base cb bv n 20 _ H4b.out.d (by omega) (by omega)).mono ?_
      rintro e w5 ⟨v, rfl, hv, hd5⟩
      have H5 : Hid (RX base cb bv n w vb s2 true s4 w5) := H4b.out.call hd5
      clear hd5
      rcases hv with rfl | rfl
      · obtain ⟨m2, mf2⟩ := H5.out.cell 2 (by decide)
        simp only [List.getElem?_cons_zero, List.getElem?_cons_succ] at m2
        obtain ⟨W6, hW6⟩ : ∃ W6 : World, W6 = w5.setCell ⟨vb, 2, none⟩ (.string ⟨#[98]⟩) := ⟨_, rfl⟩
        have H6 : Hid (RX base cb bv n w vb s2 true ⟨#[98]⟩ W6) := by show RX base cb bv n w vb s2 true ⟨#[98]⟩ W6; rw [hW6]; exact H5.out.set 2 (.string ⟨#[98]⟩)
        go_upto_region 9 with fail
        rw [← hW6]
        clear hW6 m2 mf2
        obtain ⟨k0, _⟩ := H6.out.cell 0 (by decide)
        obtain ⟨k1, _⟩ := H6.out.cell 1 (by decide)
        obtain ⟨k2, _⟩ := H6.out.cell 2 (by decide)
        obtain ⟨l0, lf0⟩ := H6.out.cellRes 0 (by decide)
        obtain ⟨l1, lf1⟩ := H6.out.cellRes 1 (by decide)
        obtain ⟨l2, lf2⟩ := H6.out.cellRes 2 (by decide)
        simp only [List.getElem?_cons_zero, List.getElem?_cons_succ] at k0 k1 k2 l0 l1 l2
        obtain ⟨W9, hW9⟩ : ∃ W9 : World, W9 = ((W6.setCell ⟨w.heap.size, 0, none⟩ (.string s2)).setCell ⟨w.heap.size, 1, none⟩ (.bool true)).setCell ⟨w.heap.size, 2, none⟩ (.string ⟨#[98]⟩) := ⟨_, rfl⟩
        have H9 := ((H6.out.setRes 0 (.string s2)).setRes 1 (.bool true)).setRes 2 (.string ⟨#[98]⟩)
        rw [← hW9] at H9
        have p0 := (H9.cellRes 0 (by decide)).1
        have p1 := (H9.cellRes 1 (by decide)).1
        have p2 := (H9.cellRes 2 (by decide)).1
        simp only [rgv, List.set_cons_zero, List.set_cons_succ, List.getElem?_cons_zero, List.getElem?_cons_succ] at p0 p1 p2
        have HR : Hid (Drew base cb bv n w W9) := ⟨H9.d, H9.c⟩
        clear H9
        go_wp2_with fail
        rw [← hW9]
        exact bodyPost_ret (v := .agg #[.string s2, .bool true, .string ⟨#[98]⟩]) (by simp [results, Try.results31, go_sem, p0, p1, p2]) rfl ⟨_, _, _, rfl, .inl rfl, by omega, by decide, HR.out.1, HR.out.2⟩
      ·
        obtain ⟨k0, _⟩ := H5.out.cell 0 (by decide)
        obtain ⟨k1, _⟩ := H5.out.cell 1 (by decide)
        obtain ⟨k2, _⟩ := H5.out.cell 2 (by decide)
        obtain ⟨l0, lf0⟩ := H5.out.cellRes 0 (by decide)
        obtain ⟨l1, lf1⟩ := H5.out.cellRes 1 (by decide)
        obtain ⟨l2, lf2⟩ := H5.out.cellRes 2 (by decide)
        simp only [List.getElem?_cons_zero, List.getElem?_cons_succ] at k0 k1 k2 l0 l1 l2
        obtain ⟨W9, hW9⟩ : ∃ W9 : World, W9 = ((w5.setCell ⟨w.heap.size, 0, none⟩ (.string s2)).setCell ⟨w.heap.size, 1, none⟩ (.bool true)).setCell ⟨w.heap.size, 2, none⟩ (.string s4) := ⟨_, rfl⟩
        have H9 := ((H5.out.setRes 0 (.string s2)).setRes 1 (.bool true)).setRes 2 (.string s4)
        rw [← hW9] at H9
        have p0 := (H9.cellRes 0 (by decide)).1
        have p1 := (H9.cellRes 1 (by decide)).1
        have p2 := (H9.cellRes 2 (by decide)).1
        simp only [rgv, List.set_cons_zero, List.set_cons_succ, List.getElem?_cons_zero, List.getElem?_cons_succ] at p0 p1 p2
        have HR : Hid (Drew base cb bv n w W9) := ⟨H9.d, H9.c⟩
        clear H9
        go_wp2_with fail
        rw [← hW9]
        exact bodyPost_ret (v := .agg #[.string s2, .bool true, .string s4]) (by simp [results, Try.results31, go_sem, p0, p1, p2]) rfl ⟨_, _, _, rfl, .inl rfl, by omega, by omega, HR.out.1, HR.out.2⟩
    ·
      go_wp2_with fail
      refine (once_core base cb bv n 20 _ H3.out.d (by omega) (by omega)).mono ?_
      rintro e w5 ⟨v, rfl, hv, hd5⟩
      have H5 : Hid (RX base cb bv n w vb s2 false ⟨#[]⟩ w5) := H3.out.call hd5
      clear hd5
      rcases hv with rfl | rfl
      · obtain ⟨m2, mf2⟩ := H5.out.cell 2 (by decide)
        simp only [List.getElem?_cons_zero, List.getElem?_cons_succ] at m2
        obtain ⟨W6, hW6⟩ : ∃ W6 : World, W6 = w5.setCell ⟨vb, 2, none⟩ (.string ⟨#[98]⟩) := ⟨_, rfl⟩
        have H6 : Hid (RX base cb bv n w vb s2 false ⟨#[98]⟩ W6) := by show RX base cb bv n w vb s2 false ⟨#[98]⟩ W6; rw [hW6]; exact H5.out.set 2 (.string ⟨#[98]⟩)
        go_upto_region 9 with fail
        rw [← hW6]
        clear hW6 m2 mf2
        obtain ⟨k0, _⟩ := H6.out.cell 0 (by decide)
        obtain ⟨k1, _⟩ := H6.out.cell 1 (by decide)
        obtain ⟨k2, _⟩ := H6.out.cell 2 (by decide)
        obtain ⟨l0, lf0⟩ := H6.out.cellRes 0 (by decide)
        obtain ⟨l1, lf1⟩ := H6.out.cellRes 1 (by decide)
        obtain ⟨l2, lf2⟩ := H6.out.cellRes 2 (by decide)
        simp only [List.getElem?_cons_zero, List.getElem?_cons_succ] at k0 k1 k2 l0 l1 l2
        obtain ⟨W9, hW9⟩ : ∃ W9 : World, W9 = ((W6.setCell ⟨w.heap.size, 0, none⟩ (.string s2)).setCell ⟨w.heap.size, 1, none⟩ (.bool false)).setCell ⟨w.heap.size, 2, none⟩ (.string ⟨#[98]⟩) := ⟨_, rfl⟩
        have H9 := ((H6.out.setRes 0 (.string s2)).setRes 1 (.bool false)).setRes 2 (.string ⟨#[98]⟩)
        rw [← hW9] at H9
        have p0 := (H9.cellRes 0 (by decide)).1
        have p1 := (H9.cellRes 1 (by decide)).1
        have p2 := (H9.cellRes 2 (by decide)).1
        simp only [rgv, List.set_cons_zero, List.set_cons_succ, List.getElem?_cons_zero, List.getElem?_cons_succ] at p0 p1 p2
        have HR : Hid (Drew base cb bv n w W9) := ⟨H9.d, H9.c⟩
        clear H9
        go_wp2_with fail
        rw [← hW9]
        exact bodyPost_ret (v := .agg #[.string s2, .bool false, .string ⟨#[98]⟩]) (by simp [results, Try.results31, go_sem, p0, p1, p2]) rfl ⟨_, _, _, rfl, .inr rfl, by omega, by decide, HR.out.1, HR.out.2⟩
      ·
        obtain ⟨k0, _⟩ := H5.out.cell 0 (by decide)
        obtain ⟨k1, _⟩ := H5.out.cell 1 (by decide)
        obtain ⟨k2, _⟩ := H5.out.cell 2 (by decide)
        obtain ⟨l0, lf0⟩ := H5.out.cellRes 0 (by decide)
        obtain ⟨l1, lf1⟩ := H5.out.cellRes 1 (by decide)
        obtain ⟨l2, lf2⟩ := H5.out.cellRes 2 (by decide)
        simp only [List.getElem?_cons_zero, List.getElem?_cons_succ] at k0 k1 k2 l0 l1 l2
        obtain ⟨W9, hW9⟩ : ∃ W9 : World, W9 = ((w5.setCell ⟨w.heap.size, 0, none⟩ (.string s2)).setCell ⟨w.heap.size, 1, none⟩ (.bool false)).setCell ⟨w.heap.size, 2, none⟩ (.string ⟨#[]⟩) := ⟨_, rfl⟩
        have H9 := ((H5.out.setRes 0 (.string s2)).setRes 1 (.bool false)).setRes 2 (.string ⟨#[]⟩)
        rw [← hW9] at H9
        have p0 := (H9.cellRes 0 (by decide)).1
        have p1 := (H9.cellRes 1 (by decide)).1
        have p2 := (H9.cellRes 2 (by decide)).1
        simp only [rgv, List.set_cons_zero, List.set_cons_succ, List.getElem?_cons_zero, List.getElem?_cons_succ] at p0 p1 p2
        have HR : Hid (Drew base cb bv n w W9) := ⟨H9.d, H9.c⟩
        clear H9
        go_wp2_with fail
        rw [← hW9]
        exact bodyPost_ret (v := .agg #[.string s2, .bool false, .string ⟨#[]⟩]) (by simp [results, Try.results31, go_sem, p0, p1, p2]) rfl ⟨_, _, _, rfl, .inr rfl, by omega, by decide, HR.out.1, HR.out.2⟩
  ·
    go_wp2_with fail
    refine (once_core base cb bv n 3 _ H1.out.d (by omega) (by omega)).mono ?_
    rintro e w3 ⟨v, rfl, hv, hd3⟩
    have H3 : Hid (RX base cb bv n w vb ⟨#[]⟩ false ⟨#[]⟩ w3) := H1.out.call hd3
    clear hd3
    rcases hv with rfl | rfl
    · obtain ⟨m1, mf1⟩ := H3.out.cell 1 (by decide)
      simp only [List.getElem?_cons_zero, List.getElem?_cons_succ] at m1
      have H3b : Hid (RX base cb bv n w vb ⟨#[]⟩ true ⟨#[]⟩ (w3.setCell ⟨vb, 1, none⟩ (.bool true))) := H3.out.set 1 (.bool true)
      go_wp2_with fail
      refine (letters_core base cb bv n 1 2 _ H3b.out.d (by omega) (by omega) (by omega)).mono ?_
      rintro e w4 ⟨s4, rfl, hs4, hd4⟩
      have H4 : Hid (RX base cb bv n w vb ⟨#[]⟩ true ⟨#[]⟩ w4) := H3b.out.call hd4
      clear hd4 m1 mf1
      obtain ⟨m2, mf2⟩ := H4.out.cell 2 (by decide)
      simp only [List.getElem?_cons_zero, List.getElem?_cons_succ] at m2
      obtain ⟨W4, hW4⟩ : ∃ W4 : World, W4 = w4.setCell ⟨vb, 2, none⟩ (.string s4) := ⟨_, rfl⟩
      have H4b : Hid (RX base cb bv n w vb ⟨#[]⟩ true s4 W4) := by show RX base cb bv n w vb ⟨#[]⟩ true s4 W4; rw [hW4]; exact H4.out.set 2 (.string s4)
      go_upto_region 7 with fail
      rw [← hW4]
      clear hW4 m2 mf2
      go_wp2_with fail
      refine (once_core base cb bv n 20 _ H4b.out.d (by omega) (by omega)).mono ?_
      rintro e w5 ⟨v, rfl, hv, hd5⟩
      have H5 : Hid (RX base cb bv n w vb ⟨#[]⟩ true s4 w5) := H4b.out.call hd5
      clear hd5
      rcases hv with rfl | rfl
      · obtain ⟨m2, mf2⟩ := H5.out.cell 2 (by decide)
        simp only [List.getElem?_cons_zero, List.getElem?_cons_succ] at m2
        obtain ⟨W6, hW6⟩ : ∃ W6 : World, W6 = w5.setCell ⟨vb, 2, none⟩ (.string ⟨#[98]⟩) := ⟨_, rfl⟩
        have H6 : Hid (RX base cb bv n w vb ⟨#[]⟩ true ⟨#[98]⟩ W6) := by show RX base cb bv n w vb ⟨#[]⟩ true ⟨#[98]⟩ W6; rw [hW6]; exact H5.out.set 2 (.string ⟨#[98]⟩)
        go_upto_region 9 with fail
        rw [← hW6]
        clear hW6 m2 mf2
        obtain ⟨k0, _⟩ := H6.out.cell 0 (by decide)
        obtain ⟨k1, _⟩ := H6.out.cell 1 (by decide)
        obtain ⟨k2, _⟩ := H6.out.cell 2 (by decide)
        obtain ⟨l0, lf0⟩ := H6.out.cellRes 0 (by decide)
        obtain ⟨l1, lf1⟩ := H6.out.cellRes 1 (by decide)
        obtain ⟨l2, lf2⟩ := H6.out.cellRes 2 (by decide)
        simp only [List.getElem?_cons_zero, List.getElem?_cons_succ] at k0 k1 k2 l0 l1 l2
        obtain ⟨W9, hW9⟩ : ∃ W9 : World, W9 = ((W6.setCell ⟨w.heap.size, 0, none⟩ (.string ⟨#[]⟩)).setCell ⟨w.heap.size, 1, none⟩ (.bool true)).setCell ⟨w.heap.size, 2, none⟩ (.string ⟨#[98]⟩) := ⟨_, rfl⟩
        have H9 := ((H6.out.setRes 0 (.string ⟨#[]⟩)).setRes 1 (.bool true)).setRes 2 (.string ⟨#[98]⟩)
        rw [← hW9] at H9
        have p0 := (H9.cellRes 0 (by decide)).1
        have p1 := (H9.cellRes 1 (by decide)).1
        have p2 := (H9.cellRes 2 (by decide)).1
        simp only [rgv, List.set_cons_zero, List.set_cons_succ, List.getElem?_cons_zero, List.getElem?_cons_succ] at p0 p1 p2
        have HR : Hid (Drew base cb bv n w W9) := ⟨H9.d, H9.c⟩
        clear H9
        go_wp2_with fail
        rw [← hW9]
        exact bodyPost_ret (v := .agg #[.string ⟨#[]⟩, .bool true, .string ⟨#[98]⟩]) (by simp [results, Try.results31, go_sem, p0, p1, p2]) rfl ⟨_, _, _, rfl, .inl rfl, by decide, by decide, HR.out.1, HR.out.2⟩
      ·
        obtain ⟨k0, _⟩ := H5.out.cell 0 (by decide)
        obtain ⟨k1, _⟩ := H5.out.cell 1 (by decide)
        obtain ⟨k2, _⟩ := H5.out.cell 2 (by decide)
        obtain ⟨l0, lf0⟩ := H5.out.cellRes 0 (by decide)
        obtain ⟨l1, lf1⟩ := H5.out.cellRes 1 (by decide)
        obtain ⟨l2, lf2⟩ := H5.out.cellRes 2 (by decide)
        simp only [List.getElem?_cons_zero, List.getElem?_cons_succ] at k0 k1 k2 l0 l1 l2
        obtain ⟨W9, hW9⟩ : ∃ W9 : World, W9 = ((w5.setCell ⟨w.heap.size, 0, none⟩ (.string ⟨#[]⟩)).setCell ⟨w.heap.size, 1, none⟩ (.bool true)).setCell ⟨w.heap.size, 2, none⟩ (.string s4) := ⟨_, rfl⟩
        have H9 := ((H5.out.setRes 0 (.string ⟨#[]⟩)).setRes 1 (.bool true)).setRes 2 (.string s4)
        rw [← hW9] at H9
        have p0 := (H9.cellRes 0 (by decide)).1
        have p1 := (H9.cellRes 1 (by decide)).1
        have p2 := (H9.cellRes 2 (by decide)).1
        simp only [rgv, List.set_cons_zero, List.set_cons_succ, List.getElem?_cons_zero, List.getElem?_cons_succ] at p0 p1 p2
        have HR : Hid (Drew base cb bv n w W9) := ⟨H9.d, H9.c⟩
        clear H9
        go_wp2_with fail
        rw [← hW9]
        exact bodyPost_ret (v := .agg #[.string ⟨#[]⟩, .bool true, .string s4]) (by simp [results, Try.results31, go_sem, p0, p1, p2]) rfl ⟨_, _, _, rfl, .inl rfl, by decide, by omega, HR.out.1, HR.out.2⟩
    ·
      go_wp2_with fail
      refine (once_core base cb bv n 20 _ H3.out.d (by omega) (by omega)).mono ?_
      rintro e w5 ⟨v, rfl, hv, hd5⟩
      have H5 : Hid (RX base cb bv n w vb ⟨#[]⟩ false ⟨#[]⟩ w5) := H3.out.call hd5
      clear hd5
      rcases hv with rfl | rfl
      · obtain ⟨m2, mf2⟩ := H5.out.cell 2 (by decide)
        simp only [List.getElem?_cons_zero, List.getElem?_cons_succ] at m2
        obtain ⟨W6, hW6⟩ : ∃ W6 : World, W6 = w5.setCell ⟨vb, 2, none⟩ (.string ⟨#[98]⟩) := ⟨_, rfl⟩
        have H6 : Hid (RX base cb bv n w vb ⟨#[]⟩ false ⟨#[98]⟩ W6) := by show RX base cb bv n w vb ⟨#[]⟩ false ⟨#[98]⟩ W6; rw [hW6]; exact H5.out.set 2 (.string ⟨#[98]⟩)
        go_upto_region 9 with fail
        rw [← hW6]
        clear hW6 m2 mf2
        obtain ⟨k0, _⟩ := H6.out.cell 0 (by decide)
        obtain ⟨k1, _⟩ := H6.out.cell 1 (by decide)
        obtain ⟨k2, _⟩ := H6.out.cell 2 (by decide)
        obtain ⟨l0, lf0⟩ := H6.out.cellRes 0 (by decide)
        obtain ⟨l1, lf1⟩ := H6.out.cellRes 1 (by decide)
        obtain ⟨l2, lf2⟩ := H6.out.cellRes 2 (by decide)
        simp only [List.getElem?_cons_zero, List.getElem?_cons_succ] at k0 k1 k2 l0 l1 l2
        obtain ⟨W9, hW9⟩ : ∃ W9 : World, W9 = ((W6.setCell ⟨w.heap.size, 0, none⟩ (.string ⟨#[]⟩)).setCell ⟨w.heap.size, 1, none⟩ (.bool false)).setCell ⟨w.heap.size, 2, none⟩ (.string ⟨#[98]⟩) := ⟨_, rfl⟩
        have H9 := ((H6.out.setRes 0 (.string ⟨#[]⟩)).setRes 1 (.bool false)).setRes 2 (.string ⟨#[98]⟩)
        rw [← hW9] at H9
        have p0 := (H9.cellRes 0 (by decide)).1
        have p1 := (H9.cellRes 1 (by decide)).1
        have p2 := (H9.cellRes 2 (by decide)).1
        simp only [rgv, List.set_cons_zero, List.set_cons_succ, List.getElem?_cons_zero, List.getElem?_cons_succ] at p0 p1 p2
        have HR : Hid (Drew base cb bv n w W9) := ⟨H9.d, H9.c⟩
        clear H9
        go_wp2_with fail
        rw [← hW9]
        exact bodyPost_ret (v := .agg #[.string ⟨#[]⟩, .bool false, .string ⟨#[98]⟩]) (by simp [results, Try.results31, go_sem, p0, p1, p2]) rfl ⟨_, _, _, rfl, .inr rfl, by decide, by decide, HR.out.1, HR.out.2⟩
      ·
        obtain ⟨k0, _⟩ := H5.out.cell 0 (by decide)
        obtain ⟨k1, _⟩ := H5.out.cell 1 (by decide)
        obtain ⟨k2, _⟩ := H5.out.cell 2 (by decide)
        obtain ⟨l0, lf0⟩ := H5.out.cellRes 0 (by decide)
        obtain ⟨l1, lf1⟩ := H5.out.cellRes 1 (by decide)
        obtain ⟨l2, lf2⟩ := H5.out.cellRes 2 (by decide)
        simp only [List.getElem?_cons_zero, List.getElem?_cons_succ] at k0 k1 k2 l0 l1 l2
        obtain ⟨W9, hW9⟩ : ∃ W9 : World, W9 = ((w5.setCell ⟨w.heap.size, 0, none⟩ (.string ⟨#[]⟩)).setCell ⟨w.heap.size, 1, none⟩ (.bool false)).setCell ⟨w.heap.size, 2, none⟩ (.string ⟨#[]⟩) := ⟨_, rfl⟩
        have H9 := ((H5.out.setRes 0 (.string ⟨#[]⟩)).setRes 1 (.bool false)).setRes 2 (.string ⟨#[]⟩)
        rw [← hW9] at H9
        have p0 := (H9.cellRes 0 (by decide)).1
        have p1 := (H9.cellRes 1 (by decide)).1
        have p2 := (H9.cellRes 2 (by decide)).1
        simp only [rgv, List.set_cons_zero, List.set_cons_succ, List.getElem?_cons_zero, List.getElem?_cons_succ] at p0 p1 p2
        have HR : Hid (Drew base cb bv n w W9) := ⟨H9.d, H9.c⟩
        clear H9
        go_wp2_with fail
        rw [← hW9]
        exact bodyPost_ret (v := .agg #[.string ⟨#[]⟩, .bool false, .string ⟨#[]⟩]) (by simp [results, Try.results31, go_sem, p0, p1, p2]) rfl ⟨_, _, _, rfl, .inr rfl, by decide, by decide, HR.out.1, HR.out.2⟩
end Go.Proofs.Ytjphalbjimggcae
