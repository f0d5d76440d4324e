/-
  The draws: one leaf of a filter.
-/
import Derived.Test.YtgnpcenpcmdlfaaGreatDoorZkAC
import Derived.Test.YtgnpcenpcmdlfaaGreatDoorZkAA
namespace Go.Proofs.YtgnpcenpcmdlfaaGreatDoor
open Go.ChangeShapes Go.WideShapes Go.ChangeAt Go.RowKit Go.Deep
set_option linter.unusedVariables false
set_option linter.unusedSimpArgs false
set_option maxRecDepth 100000

/-- A node whose texts are not long and whose numbers are small. -/
structure Nd.small (e : Nd) : Prop where
  s : e.s.size ≤ 200000
  t : e.t.size ≤ 300000
  lo : 0 ≤ e.lo ∧ e.lo ≤ 100000
  up : 0 ≤ e.up ∧ e.up ≤ 100000
  n : 0 ≤ e.n ∧ e.n ≤ 100000
  kind : 0 ≤ e.kind ∧ e.kind ≤ 100000
theorem wfS_u64 {x : Int} (h : 0 ≤ x ∧ x ≤ 100000) : (Lit.int .u64 x).wf = true := by
  have h1 : IntKind.u64.min = 0 := by decide
  have h2 : IntKind.u64.max = 18446744073709551615 := by decide
  simp [Lit.wf, h1, h2]; omega
theorem wf_i64 {x : Int} (h : 0 ≤ x ∧ x ≤ 100000) : (Lit.int .i64 x).wf = true := by
  have h1 : IntKind.i64.min = -9223372036854775808 := by decide
  have h2 : IntKind.i64.max = 9223372036854775807 := by decide
  simp [Lit.wf, h1, h2]; omega
theorem wrapU (x : Int) (h : 0 ≤ x ∧ x ≤ 100000) : IntKind.u64.wrap x = x := by
  simp only [IntKind.wrap, IntKind.bits, IntKind.signed, Bool.false_and, Bool.false_eq_true, if_false]
  omega
theorem Nd.small.ok {e : Nd} (h : e.small) : e.ok := ⟨Nat.le_trans h.s (by decide), Nat.le_trans h.t (by decide), wf_i64 h.kind, wfS_u64 h.lo, wfS_u64 h.up, wf_i64 h.n⟩
theorem Nd.small_zero : zeroN.small := ⟨by decide, by decide, by decide, by decide, by decide, by decide⟩
/-- A variable of the call's own that holds a node, and the result's, beside the drawing. -/
structure NInv (base cb : Nat) (bv : Value) (n : Nat) (w : World) (eb rb : Nat) (f : Nd) (wr : World) : Prop where
  e : BoxAt wr w.heap.size 65 7 eb f.seven
  r : BoxAt wr w.heap.size 65 7 rb zeroN.seven
  ne : ¬ eb = rb
  d : DrawAt base cb bv n wr
  c : Chg (fun k => k = cb) w wr
  lt : cb < w.heap.size
  hb : base ≤ w.heap.size
  sm : f.small
theorem NInv.call {base cb : Nat} {bv : Value} {n : Nat} {w : World} {eb rb : Nat} {f : Nd} {wr w1 : World} (h : NInv base cb bv n w eb rb f wr) (hd : Drew base cb bv n wr w1) : NInv base cb bv n w eb rb f w1 :=
  ⟨h.e.chg hd.2 (by have := h.e.lt.1; have := h.lt; omega), h.r.chg hd.2 (by have := h.r.lt.1; have := h.lt; omega), h.ne, hd.1, h.c.trans hd.2, h.lt, h.hb, h.sm⟩
theorem NInv.drew {base cb : Nat} {bv : Value} {n : Nat} {w : World} {eb rb : Nat} {f : Nd} {wr : World} (h : NInv base cb bv n w eb rb f wr) : NInv base cb bv n w eb rb f wr.drew := by
  have hd : Below wr.heap.size wr wr.drew := (Below.refl _ _).drew
  exact ⟨h.e.below hd, h.r.below hd, h.ne, h.d.below hd, h.c.trans (Chg.of_below hd), h.lt, h.hb, h.sm⟩
theorem NInv.set {base cb : Nat} {bv : Value} {n : Nat} {w : World} {eb rb : Nat} {f : Nd} {wr : World} (h : NInv base cb bv n w eb rb f wr) (j : Nat) (f' : Nd) (u : Value) (hc : f'.seven = f.seven.set j u) (hs : f'.small) : NInv base cb bv n w eb rb f' (wr.setCell ⟨eb, j, none⟩ u) := by
  have h1 := h.e.set j u
  rw [← hc] at h1
  have hl := h.e.lt
  have hcb := h.lt
  have hbb := h.hb
  have hcg : Chg (fun k => k = eb) wr (wr.setCell ⟨eb, j, none⟩ u) := Chg.of_set _ _ _ _ rfl
  refine ⟨h1, h.r.chg hcg (fun q => h.ne q.symm), h.ne, h.d.chg hcg (by omega) (fun k q => by omega), ?_, h.lt, h.hb, hs⟩
  exact Chg.grown_new h.c (grown_set wr eb j u) (fun k hk => by cases hk; exact hl.1)
theorem NInv.alloc {base cb : Nat} {bv : Value} {n : Nat} {w : World} {eb rb : Nat} {f : Nd} {wr : World} (h : NInv base cb bv n w eb rb f wr) (o : Obj) : NInv base cb bv n w eb rb f (wr.alloc o) := by
  have hd : Below wr.heap.size wr (wr.alloc o) := (Below.refl _ _).alloc (Nat.le_refl _) _
  exact ⟨h.e.below hd, h.r.below hd, h.ne, h.d.below hd, h.c.trans (Chg.of_below hd), h.lt, h.hb, h.sm⟩
/-- What lies in the variable is handed back. -/
def set7 (w : World) (g : Nat) (f : Nd) : World := ((((((w.setCell ⟨g, 0, none⟩ (.int .i64 f.kind)).setCell ⟨g, 1, none⟩ (.string f.s)).setCell ⟨g, 2, none⟩ (.bool f.hi)).setCell ⟨g, 3, none⟩ (.string f.t)).setCell ⟨g, 4, none⟩ (.int .u64 f.lo)).setCell ⟨g, 5, none⟩ (.int .u64 f.up)).setCell ⟨g, 6, none⟩ (.int .i64 f.n)
theorem BoxAt.set7 {w : World} {base t g : Nat} {e : Nd} (h : BoxAt w base t 7 g e.seven) (f : Nd) : BoxAt (Go.Proofs.YtgnpcenpcmdlfaaGreatDoor.set7 w g f) base t 7 g f.seven := by
  have := ((((((h.set 0 (.int .i64 f.kind)).set 1 (.string f.s)).set 2 (.bool f.hi)).set 3 (.string f.t)).set 4 (.int .u64 f.lo)).set 5 (.int .u64 f.up)).set 6 (.int .i64 f.n)
  exact this
theorem chg_set7 {S : Nat → Prop} (w : World) (g : Nat) (f : Nd) (hs : S g) : Chg S w (set7 w g f) :=
  ((((((Chg.of_set w g 0 _ hs).trans (Chg.of_set _ g 1 _ hs)).trans (Chg.of_set _ g 2 _ hs)).trans (Chg.of_set _ g 3 _ hs)).trans (Chg.of_set _ g 4 _ hs)).trans (Chg.of_set _ g 5 _ hs)).trans (Chg.of_set _ g 6 _ hs)
def LefP (base cb : Nat) (bv : Value) (n : Nat) (w : World) (e : Ending) (w' : World) : Prop := ∃ f : Nd, e = .returned f.v ∧ f.small ∧ Drew base cb bv n w w'
theorem NInv.fin {base cb : Nat} {bv : Value} {n : Nat} {w : World} {eb rb : Nat} {f : Nd} {wr : World} (h : NInv base cb bv n w eb rb f wr) : BoxAt (set7 wr rb f) w.heap.size 65 7 rb f.seven ∧ LefP base cb bv n w (.returned f.v) (set7 wr rb f) := by
  have hcg : Chg (fun k => k = rb) wr (set7 wr rb f) := chg_set7 wr rb f rfl
  have hl := h.r.lt
  have hcb := h.lt
  have hbb := h.hb
  refine ⟨h.r.set7 f, f, rfl, h.sm, h.d.chg hcg (by omega) (fun k q => by omega), ?_⟩
  exact ⟨hcg.os.trans h.c.os, hcg.tape.trans h.c.tape, hcg.output.trans h.c.output, Nat.le_trans h.c.size hcg.size, fun k hk hn => (hcg.block k (Nat.lt_of_lt_of_le hk h.c.size) (by omega)).trans (h.c.block k hk hn)⟩
set_option maxHeartbeats 16000000 in
theorem drawLeaf_core (base cb : Nat) (bv : Value) (n : Nat) (w : World) (h : DrawAt base cb bv n w) :
    Calls Tryz.prog 118 #[.pointer (some ⟨cb, 0, none⟩)] w (LefP base cb bv n w) := by
  have hlt := h.lt
  have hbase := h.base
  obtain ⟨Wa, hWa⟩ : ∃ Wa : World, Wa = w.alloc (Obj.cells #[.int .i64 0, .string ⟨#[]⟩, .bool false, .string ⟨#[]⟩, .int .u64 0, .int .u64 0, .int .i64 0] 65) := ⟨_, rfl⟩
  have hba : Below w.heap.size w Wa := by rw [hWa]; exact (Below.refl _ _).alloc (Nat.le_refl _) _
  have HA : Hid (DrawAt base cb bv n Wa ∧ BoxAt Wa w.heap.size 65 7 w.heap.size zeroN.seven ∧ Below w.heap.size w Wa) := ⟨h.below hba, by rw [hWa]; exact boxAt_new w #[.int .i64 0, .string ⟨#[]⟩, .bool false, .string ⟨#[]⟩, .int .u64 0, .int .u64 0, .int .i64 0] (Nat.le_refl _) rfl, hba⟩
  clear h hba
  go_enter Tryz.func118, Tryz.ntmps118
  go_wp2_with fail
  rw [← hWa]
  clear hWa
  refine (below_core base cb bv n 16 _ HA.out.1 (by omega) (by omega)).mono ?_
  rintro e w1 ⟨x, rfl, hx0, hx1, hd1⟩
  obtain ⟨eb, heb⟩ : ∃ eb, eb = w1.heap.size := ⟨_, rfl⟩
  obtain ⟨W2, hW2⟩ : ∃ W2 : World, W2 = w1.alloc (Obj.cells #[.int .i64 0, .string ⟨#[]⟩, .bool false, .string ⟨#[]⟩, .int .u64 0, .int .u64 0, .int .i64 0] 65) := ⟨_, rfl⟩
  have H2 : Hid (NInv base cb bv n w eb w.heap.size zeroN W2) := by
    have hb2 : Below w1.heap.size w1 W2 := by rw [hW2]; exact (Below.refl _ _).alloc (Nat.le_refl _) _
    have hb1 := HA.out.2.2
    have hz := hd1.2.size
    have hz0 := HA.out.2.1.lt.2
    have hr1 := HA.out.2.1.chg hd1.2 (by omega)
    refine ⟨by rw [hW2, heb]; exact boxAt_new w1 #[.int .i64 0, .string ⟨#[]⟩, .bool false, .string ⟨#[]⟩, .int .u64 0, .int .u64 0, .int .i64 0] (by have := hb1.size; omega) rfl, hr1.below hb2, by have := hr1.lt.2; omega, hd1.1.below hb2, ((Chg.of_below hb1).trans hd1.2).trans (Chg.of_below hb2), hlt.2, hbase, Nd.small_zero⟩
  clear hd1 HA
  go_upto_region 3 with fail
  rw [← hW2, ← heb]
  clear hW2 heb
  by_cases x0 : x = 0
  · subst x0
    have c2_0 := H2.out.e.cell (j := 0) rfl
    have z2_0 := H2.out.e.frozen 0
    obtain ⟨W3, hW3⟩ : ∃ W3 : World, W3 = W2.setCell ⟨eb, 0, none⟩ (.int .i64 1) := ⟨_, rfl⟩
    have H3 : Hid (NInv base cb bv n w eb w.heap.size (⟨1, ⟨#[]⟩, false, ⟨#[]⟩, 0, 0, 0⟩ : Nd) W3) := by rw [hW3]; exact H2.out.set 0 _ _ rfl ⟨H2.out.sm.s, H2.out.sm.t, H2.out.sm.lo, H2.out.sm.up, H2.out.sm.n, (by show (0 : Int) ≤ 1 ∧ (1 : Int) ≤ 100000; omega)⟩
    go_upto_region 49 with fail
    rw [← hW3]
    clear hW3
    obtain ⟨k0, k1, k2, k3, k4, k5, k6⟩ := And.intro (H3.out.e.cell (j := 0) rfl) (And.intro (H3.out.e.cell (j := 1) rfl) (And.intro (H3.out.e.cell (j := 2) rfl) (And.intro (H3.out.e.cell (j := 3) rfl) (And.intro (H3.out.e.cell (j := 4) rfl) (And.intro (H3.out.e.cell (j := 5) rfl) (H3.out.e.cell (j := 6) rfl))))))
    obtain ⟨l0, l1, l2, l3, l4, l5, l6⟩ := And.intro (H3.out.r.cell (j := 0) rfl) (And.intro (H3.out.r.cell (j := 1) rfl) (And.intro (H3.out.r.cell (j := 2) rfl) (And.intro (H3.out.r.cell (j := 3) rfl) (And.intro (H3.out.r.cell (j := 4) rfl) (And.intro (H3.out.r.cell (j := 5) rfl) (H3.out.r.cell (j := 6) rfl))))))
    have lf := H3.out.r.frozen
    obtain ⟨WF, hWF⟩ : ∃ WF : World, WF = set7 W3 w.heap.size (⟨1, ⟨#[]⟩, false, ⟨#[]⟩, 0, 0, 0⟩ : Nd) := ⟨_, rfl⟩
    have hfin := H3.out.fin
    rw [← hWF] at hfin
    obtain ⟨hB9, HR⟩ := hfin
    obtain ⟨p0, p1, p2, p3, p4, p5, p6⟩ := And.intro (hB9.cell (j := 0) rfl) (And.intro (hB9.cell (j := 1) rfl) (And.intro (hB9.cell (j := 2) rfl) (And.intro (hB9.cell (j := 3) rfl) (And.intro (hB9.cell (j := 4) rfl) (And.intro (hB9.cell (j := 5) rfl) (hB9.cell (j := 6) rfl))))))
    have HRH : Hid (LefP base cb bv n w (.returned (Nd.v (⟨1, ⟨#[]⟩, false, ⟨#[]⟩, 0, 0, 0⟩ : Nd))) WF) := HR
    clear hB9 HR
    simp only [set7] at hWF
    simp only at k0 k1 k2 k3 k4 k5 k6 l0 l1 l2 l3 l4 l5 l6 p0 p1 p2 p3 p4 p5 p6
    go_wp2_with fail
    rw [← hWF]
    exact bodyPost_ret (by simp [results, Tryz.results118, go_sem, p0, p1, p2, p3, p4, p5, p6]) rfl HRH.out
  by_cases x1 : x = 1
  · subst x1
    have c2_0 := H2.out.e.cell (j := 0) rfl
    have z2_0 := H2.out.e.frozen 0
    obtain ⟨W3, hW3⟩ : ∃ W3 : World, W3 = W2.setCell ⟨eb, 0, none⟩ (.int .i64 2) := ⟨_, rfl⟩
    have H3 : Hid (NInv base cb bv n w eb w.heap.size (⟨2, ⟨#[]⟩, false, ⟨#[]⟩, 0, 0, 0⟩ : Nd) W3) := by rw [hW3]; exact H2.out.set 0 _ _ rfl ⟨H2.out.sm.s, H2.out.sm.t, H2.out.sm.lo, H2.out.sm.up, H2.out.sm.n, (by show (0 : Int) ≤ 2 ∧ (2 : Int) ≤ 100000; omega)⟩
    go_upto_region 9 with fail
    rw [← hW3]
    clear hW3
    go_wp2_with fail
    refine (once_core base cb bv n 2 _ H3.out.d (by omega) (by omega)).mono ?_
    rintro e w4 ⟨v, rfl, hv, hd⟩
    have H4w : Hid (NInv base cb bv n w eb w.heap.size (⟨2, ⟨#[]⟩, false, ⟨#[]⟩, 0, 0, 0⟩ : Nd) w4) := H3.out.call hd
    clear hd
    rcases hv with rfl | rfl
    · have c4_0 := H4w.out.e.cell (j := 0) rfl
      have z4_0 := H4w.out.e.frozen 0
      obtain ⟨W5, hW5⟩ : ∃ W5 : World, W5 = w4.setCell ⟨eb, 0, none⟩ (.int .i64 3) := ⟨_, rfl⟩
      have H5 : Hid (NInv base cb bv n w eb w.heap.size (⟨3, ⟨#[]⟩, false, ⟨#[]⟩, 0, 0, 0⟩ : Nd) W5) := by rw [hW5]; exact H4w.out.set 0 _ _ rfl ⟨H4w.out.sm.s, H4w.out.sm.t, H4w.out.sm.lo, H4w.out.sm.up, H4w.out.sm.n, (by show (0 : Int) ≤ 3 ∧ (3 : Int) ≤ 100000; omega)⟩
      go_upto_region 49 with fail
      rw [← hW5]
      clear hW5
      obtain ⟨k0, k1, k2, k3, k4, k5, k6⟩ := And.intro (H5.out.e.cell (j := 0) rfl) (And.intro (H5.out.e.cell (j := 1) rfl) (And.intro (H5.out.e.cell (j := 2) rfl) (And.intro (H5.out.e.cell (j := 3) rfl) (And.intro (H5.out.e.cell (j := 4) rfl) (And.intro (H5.out.e.cell (j := 5) rfl) (H5.out.e.cell (j := 6) rfl))))))
      obtain ⟨l0, l1, l2, l3, l4, l5, l6⟩ := And.intro (H5.out.r.cell (j := 0) rfl) (And.intro (H5.out.r.cell (j := 1) rfl) (And.intro (H5.out.r.cell (j := 2) rfl) (And.intro (H5.out.r.cell (j := 3) rfl) (And.intro (H5.out.r.cell (j := 4) rfl) (And.intro (H5.out.r.cell (j := 5) rfl) (H5.out.r.cell (j := 6) rfl))))))
      have lf := H5.out.r.frozen
      obtain ⟨WF, hWF⟩ : ∃ WF : World, WF = set7 W5 w.heap.size (⟨3, ⟨#[]⟩, false, ⟨#[]⟩, 0, 0, 0⟩ : Nd) := ⟨_, rfl⟩
      have hfin := H5.out.fin
      rw [← hWF] at hfin
      obtain ⟨hB9, HR⟩ := hfin
      obtain ⟨p0, p1, p2, p3, p4, p5, p6⟩ := And.intro (hB9.cell (j := 0) rfl) (And.intro (hB9.cell (j := 1) rfl) (And.intro (hB9.cell (j := 2) rfl) (And.intro (hB9.cell (j := 3) rfl) (And.intro (hB9.cell (j := 4) rfl) (And.intro (hB9.cell (j := 5) rfl) (hB9.cell (j := 6) rfl))))))
      have HRH : Hid (LefP base cb bv n w (.returned (Nd.v (⟨3, ⟨#[]⟩, false, ⟨#[]⟩, 0, 0, 0⟩ : Nd))) WF) := HR
      clear hB9 HR
      simp only [set7] at hWF
      simp only at k0 k1 k2 k3 k4 k5 k6 l0 l1 l2 l3 l4 l5 l6 p0 p1 p2 p3 p4 p5 p6
      go_wp2_with fail
      rw [← hWF]
      exact bodyPost_ret (by simp [results, Tryz.results118, go_sem, p0, p1, p2, p3, p4, p5, p6]) rfl HRH.out
    · go_upto_region 49 with fail
      obtain ⟨k0, k1, k2, k3, k4, k5, k6⟩ := And.intro (H4w.out.e.cell (j := 0) rfl) (And.intro (H4w.out.e.cell (j := 1) rfl) (And.intro (H4w.out.e.cell (j := 2) rfl) (And.intro (H4w.out.e.cell (j := 3) rfl) (And.intro (H4w.out.e.cell (j := 4) rfl) (And.intro (H4w.out.e.cell (j := 5) rfl) (H4w.out.e.cell (j := 6) rfl))))))
      obtain ⟨l0, l1, l2, l3, l4, l5, l6⟩ := And.intro (H4w.out.r.cell (j := 0) rfl) (And.intro (H4w.out.r.cell (j := 1) rfl) (And.intro (H4w.out.r.cell (j := 2) rfl) (And.intro (H4w.out.r.cell (j := 3) rfl) (And.intro (H4w.out.r.cell (j := 4) rfl) (And.intro (H4w.out.r.cell (j := 5) rfl) (H4w.out.r.cell (j := 6) rfl))))))
      have lf := H4w.out.r.frozen
      obtain ⟨WF, hWF⟩ : ∃ WF : World, WF = set7 w4 w.heap.size (⟨2, ⟨#[]⟩, false, ⟨#[]⟩, 0, 0, 0⟩ : Nd) := ⟨_, rfl⟩
      have hfin := H4w.out.fin
      rw [← hWF] at hfin
      obtain ⟨hB9, HR⟩ := hfin
      obtain ⟨p0, p1, p2, p3, p4, p5, p6⟩ := And.intro (hB9.cell (j := 0) rfl) (And.intro (hB9.cell (j := 1) rfl) (And.intro (hB9.cell (j := 2) rfl) (And.intro (hB9.cell (j := 3) rfl) (And.intro (hB9.cell (j := 4) rfl) (And.intro (hB9.cell (j := 5) rfl) (hB9.cell (j := 6) rfl))))))
      have HRH : Hid (LefP base cb bv n w (.returned (Nd.v (⟨2, ⟨#[]⟩, false, ⟨#[]⟩, 0, 0, 0⟩ : Nd))) WF) := HR
      clear hB9 HR
      simp only [set7] at hWF
      simp only at k0 k1 k2 k3 k4 k5 k6 l0 l1 l2 l3 l4 l5 l6 p0 p1 p2 p3 p4 p5 p6
      go_wp2_with fail
      rw [← hWF]
      exact bodyPost_ret (by simp [results, Tryz.results118, go_sem, p0, p1, p2, p3, p4, p5, p6]) rfl HRH.out
  by_cases x2 : x = 2
  · subst x2
    have c2_0 := H2.out.e.cell (j := 0) rfl
    have z2_0 := H2.out.e.frozen 0
    obtain ⟨W3, hW3⟩ : ∃ W3 : World, W3 = W2.setCell ⟨eb, 0, none⟩ (.int .i64 4) := ⟨_, rfl⟩
    have H3 : Hid (NInv base cb bv n w eb w.heap.size (⟨4, ⟨#[]⟩, false, ⟨#[]⟩, 0, 0, 0⟩ : Nd) W3) := by rw [hW3]; exact H2.out.set 0 _ _ rfl ⟨H2.out.sm.s, H2.out.sm.t, H2.out.sm.lo, H2.out.sm.up, H2.out.sm.n, (by show (0 : Int) ≤ 4 ∧ (4 : Int) ≤ 100000; omega)⟩
    go_upto_region 16 with fail
    rw [← hW3]
    clear hW3
    go_wp2_with fail
    refine (pattern_core base cb bv n _ H3.out.d).mono ?_
    rintro e w4 ⟨s1, rfl, hs1, hd⟩
    have H4w : Hid (NInv base cb bv n w eb w.heap.size (⟨4, ⟨#[]⟩, false, ⟨#[]⟩, 0, 0, 0⟩ : Nd) w4) := H3.out.call hd
    clear hd
    have c4_1 := H4w.out.e.cell (j := 1) rfl
    have z4_1 := H4w.out.e.frozen 1
    obtain ⟨W5, hW5⟩ : ∃ W5 : World, W5 = w4.setCell ⟨eb, 1, none⟩ (.string s1) := ⟨_, rfl⟩
    have H5 : Hid (NInv base cb bv n w eb w.heap.size (⟨4, s1, false, ⟨#[]⟩, 0, 0, 0⟩ : Nd) W5) := by rw [hW5]; exact H4w.out.set 1 _ _ rfl ⟨(by show s1.size ≤ 200000; omega), H4w.out.sm.t, H4w.out.sm.lo, H4w.out.sm.up, H4w.out.sm.n, H4w.out.sm.kind⟩
    go_upto_region 49 with fail
    rw [← hW5]
    clear hW5
    obtain ⟨k0, k1, k2, k3, k4, k5, k6⟩ := And.intro (H5.out.e.cell (j := 0) rfl) (And.intro (H5.out.e.cell (j := 1) rfl) (And.intro (H5.out.e.cell (j := 2) rfl) (And.intro (H5.out.e.cell (j := 3) rfl) (And.intro (H5.out.e.cell (j := 4) rfl) (And.intro (H5.out.e.cell (j := 5) rfl) (H5.out.e.cell (j := 6) rfl))))))
    obtain ⟨l0, l1, l2, l3, l4, l5, l6⟩ := And.intro (H5.out.r.cell (j := 0) rfl) (And.intro (H5.out.r.cell (j := 1) rfl) (And.intro (H5.out.r.cell (j := 2) rfl) (And.intro (H5.out.r.cell (j := 3) rfl) (And.intro (H5.out.r.cell (j := 4) rfl) (And.intro (H5.out.r.cell (j := 5) rfl) (H5.out.r.cell (j := 6) rfl))))))
    have lf := H5.out.r.frozen
    obtain ⟨WF, hWF⟩ : ∃ WF : World, WF = set7 W5 w.heap.size (⟨4, s1, false, ⟨#[]⟩, 0, 0, 0⟩ : Nd) := ⟨_, rfl⟩
    have hfin := H5.out.fin
    rw [← hWF] at hfin
    obtain ⟨hB9, HR⟩ := hfin
    obtain ⟨p0, p1, p2, p3, p4, p5, p6⟩ := And.intro (hB9.cell (j := 0) rfl) (And.intro (hB9.cell (j := 1) rfl) (And.intro (hB9.cell (j := 2) rfl) (And.intro (hB9.cell (j := 3) rfl) (And.intro (hB9.cell (j := 4) rfl) (And.intro (hB9.cell (j := 5) rfl) (hB9.cell (j := 6) rfl))))))
    have HRH : Hid (LefP base cb bv n w (.returned (Nd.v (⟨4, s1, false, ⟨#[]⟩, 0, 0, 0⟩ : Nd))) WF) := HR
    clear hB9 HR
    simp only [set7] at hWF
    simp only at k0 k1 k2 k3 k4 k5 k6 l0 l1 l2 l3 l4 l5 l6 p0 p1 p2 p3 p4 p5 p6
    go_wp2_with fail
    rw [← hWF]
    exact bodyPost_ret (by simp [results, Tryz.results118, go_sem, p0, p1, p2, p3, p4, p5, p6]) rfl HRH.out
  by_cases x3 : x = 3
  · subst x3
    have c2_0 := H2.out.e.cell (j := 0) rfl
    have z2_0 := H2.out.e.frozen 0
    obtain ⟨W3, hW3⟩ : ∃ W3 : World, W3 = W2.setCell ⟨eb, 0, none⟩ (.int .i64 5) := ⟨_, rfl⟩
    have H3 : Hid (NInv base cb bv n w eb w.heap.size (⟨5, ⟨#[]⟩, false, ⟨#[]⟩, 0, 0, 0⟩ : Nd) W3) := by rw [hW3]; exact H2.out.set 0 _ _ rfl ⟨H2.out.sm.s, H2.out.sm.t, H2.out.sm.lo, H2.out.sm.up, H2.out.sm.n, (by show (0 : Int) ≤ 5 ∧ (5 : Int) ≤ 100000; omega)⟩
    go_upto_region 16 with fail
    rw [← hW3]
    clear hW3
    go_wp2_with fail
    refine (pattern_core base cb bv n _ H3.out.d).mono ?_
    rintro e w4 ⟨s1, rfl, hs1, hd⟩
    have H4w : Hid (NInv base cb bv n w eb w.heap.size (⟨5, ⟨#[]⟩, false, ⟨#[]⟩, 0, 0, 0⟩ : Nd) w4) := H3.out.call hd
    clear hd
    have c4_1 := H4w.out.e.cell (j := 1) rfl
    have z4_1 := H4w.out.e.frozen 1
    obtain ⟨W5, hW5⟩ : ∃ W5 : World, W5 = w4.setCell ⟨eb, 1, none⟩ (.string s1) := ⟨_, rfl⟩
    have H5 : Hid (NInv base cb bv n w eb w.heap.size (⟨5, s1, false, ⟨#[]⟩, 0, 0, 0⟩ : Nd) W5) := by rw [hW5]; exact H4w.out.set 1 _ _ rfl ⟨(by show s1.size ≤ 200000; omega), H4w.out.sm.t, H4w.out.sm.lo, H4w.out.sm.up, H4w.out.sm.n, H4w.out.sm.kind⟩
    go_upto_region 18 with fail
    rw [← hW5]
    clear hW5
    go_wp2_with fail
    obtain ⟨hcl, hbl⟩ : cb < W5.heap.size ∧ Below W5.heap.size W5 (W5.alloc (Obj.cells #[] 0)) := ⟨H5.out.d.lt.2, (Below.refl _ _).alloc (Nat.le_refl _) _⟩
    refine (pick_core base cb bv n _ 5 _ (H5.out.d.below ((Below.refl _ _).alloc (Nat.le_refl _) _)) (by omega) (by omega) (by omega) (by simp) ?_).mono ?_
    · intro k hk
      match k, hk with
      | 0, _ => exact ⟨_, by simp; rfl, by decide⟩
      | 1, _ => exact ⟨_, by simp; rfl, by decide⟩
      | 2, _ => exact ⟨_, by simp; rfl, by decide⟩
      | 3, _ => exact ⟨_, by simp; rfl, by decide⟩
      | 4, _ => exact ⟨_, by simp; rfl, by decide⟩
    rintro e w6 ⟨s2, rfl, hs2, hd⟩
    have H6w : Hid (NInv base cb bv n w eb w.heap.size (⟨5, s1, false, ⟨#[]⟩, 0, 0, 0⟩ : Nd) w6) := (H5.out.alloc _).call hd
    clear hd hbl hcl
    have c6_1 := H6w.out.e.cell (j := 1) rfl
    have z6_1 := H6w.out.e.frozen 1
    obtain ⟨W7, hW7⟩ : ∃ W7 : World, W7 = w6.setCell ⟨eb, 1, none⟩ (.string s2) := ⟨_, rfl⟩
    have H7 : Hid (NInv base cb bv n w eb w.heap.size (⟨5, s2, false, ⟨#[]⟩, 0, 0, 0⟩ : Nd) W7) := by rw [hW7]; exact H6w.out.set 1 _ _ rfl ⟨(by show s2.size ≤ 200000; omega), H6w.out.sm.t, H6w.out.sm.lo, H6w.out.sm.up, H6w.out.sm.n, H6w.out.sm.kind⟩
    go_upto_region 49 with fail
    rw [← hW7]
    clear hW7
    obtain ⟨k0, k1, k2, k3, k4, k5, k6⟩ := And.intro (H7.out.e.cell (j := 0) rfl) (And.intro (H7.out.e.cell (j := 1) rfl) (And.intro (H7.out.e.cell (j := 2) rfl) (And.intro (H7.out.e.cell (j := 3) rfl) (And.intro (H7.out.e.cell (j := 4) rfl) (And.intro (H7.out.e.cell (j := 5) rfl) (H7.out.e.cell (j := 6) rfl))))))
    obtain ⟨l0, l1, l2, l3, l4, l5, l6⟩ := And.intro (H7.out.r.cell (j := 0) rfl) (And.intro (H7.out.r.cell (j := 1) rfl) (And.intro (H7.out.r.cell (j := 2) rfl) (And.intro (H7.out.r.cell (j := 3) rfl) (And.intro (H7.out.r.cell (j := 4) rfl) (And.intro (H7.out.r.cell (j := 5) rfl) (H7.out.r.cell (j := 6) rfl))))))
    have lf := H7.out.r.frozen
    obtain ⟨WF, hWF⟩ : ∃ WF : World, WF = set7 W7 w.heap.size (⟨5, s2, false, ⟨#[]⟩, 0, 0, 0⟩ : Nd) := ⟨_, rfl⟩
    have hfin := H7.out.fin
    rw [← hWF] at hfin
    obtain ⟨hB9, HR⟩ := hfin
    obtain ⟨p0, p1, p2, p3, p4, p5, p6⟩ := And.intro (hB9.cell (j := 0) rfl) (And.intro (hB9.cell (j := 1) rfl) (And.intro (hB9.cell (j := 2) rfl) (And.intro (hB9.cell (j := 3) rfl) (And.intro (hB9.cell (j := 4) rfl) (And.intro (hB9.cell (j := 5) rfl) (hB9.cell (j := 6) rfl))))))
    have HRH : Hid (LefP base cb bv n w (.returned (Nd.v (⟨5, s2, false, ⟨#[]⟩, 0, 0, 0⟩ : Nd))) WF) := HR
    clear hB9 HR
    simp only [set7] at hWF
    simp only at k0 k1 k2 k3 k4 k5 k6 l0 l1 l2 l3 l4 l5 l6 p0 p1 p2 p3 p4 p5 p6
    go_wp2_with fail
    rw [← hWF]
    exact bodyPost_ret (by simp [results, Tryz.results118, go_sem, p0, p1, p2, p3, p4, p5, p6]) rfl HRH.out
  by_cases x4 : x = 4
  · subst x4
    have c2_0 := H2.out.e.cell (j := 0) rfl
    have z2_0 := H2.out.e.frozen 0
    obtain ⟨W3, hW3⟩ : ∃ W3 : World, W3 = W2.setCell ⟨eb, 0, none⟩ (.int .i64 6) := ⟨_, rfl⟩
    have H3 : Hid (NInv base cb bv n w eb w.heap.size (⟨6, ⟨#[]⟩, false, ⟨#[]⟩, 0, 0, 0⟩ : Nd) W3) := by rw [hW3]; exact H2.out.set 0 _ _ rfl ⟨H2.out.sm.s, H2.out.sm.t, H2.out.sm.lo, H2.out.sm.up, H2.out.sm.n, (by show (0 : Int) ≤ 6 ∧ (6 : Int) ≤ 100000; omega)⟩
    go_upto_region 16 with fail
    rw [← hW3]
    clear hW3
    go_wp2_with fail
    refine (pattern_core base cb bv n _ H3.out.d).mono ?_
    rintro e w4 ⟨s1, rfl, hs1, hd⟩
    have H4w : Hid (NInv base cb bv n w eb w.heap.size (⟨6, ⟨#[]⟩, false, ⟨#[]⟩, 0, 0, 0⟩ : Nd) w4) := H3.out.call hd
    clear hd
    have c4_1 := H4w.out.e.cell (j := 1) rfl
    have z4_1 := H4w.out.e.frozen 1
    obtain ⟨W5, hW5⟩ : ∃ W5 : World, W5 = w4.setCell ⟨eb, 1, none⟩ (.string s1) := ⟨_, rfl⟩
    have H5 : Hid (NInv base cb bv n w eb w.heap.size (⟨6, s1, false, ⟨#[]⟩, 0, 0, 0⟩ : Nd) W5) := by rw [hW5]; exact H4w.out.set 1 _ _ rfl ⟨(by show s1.size ≤ 200000; omega), H4w.out.sm.t, H4w.out.sm.lo, H4w.out.sm.up, H4w.out.sm.n, H4w.out.sm.kind⟩
    go_upto_region 49 with fail
    rw [← hW5]
    clear hW5
    obtain ⟨k0, k1, k2, k3, k4, k5, k6⟩ := And.intro (H5.out.e.cell (j := 0) rfl) (And.intro (H5.out.e.cell (j := 1) rfl) (And.intro (H5.out.e.cell (j := 2) rfl) (And.intro (H5.out.e.cell (j := 3) rfl) (And.intro (H5.out.e.cell (j := 4) rfl) (And.intro (H5.out.e.cell (j := 5) rfl) (H5.out.e.cell (j := 6) rfl))))))
    obtain ⟨l0, l1, l2, l3, l4, l5, l6⟩ := And.intro (H5.out.r.cell (j := 0) rfl) (And.intro (H5.out.r.cell (j := 1) rfl) (And.intro (H5.out.r.cell (j := 2) rfl) (And.intro (H5.out.r.cell (j := 3) rfl) (And.intro (H5.out.r.cell (j := 4) rfl) (And.intro (H5.out.r.cell (j := 5) rfl) (H5.out.r.cell (j := 6) rfl))))))
    have lf := H5.out.r.frozen
    obtain ⟨WF, hWF⟩ : ∃ WF : World, WF = set7 W5 w.heap.size (⟨6, s1, false, ⟨#[]⟩, 0, 0, 0⟩ : Nd) := ⟨_, rfl⟩
    have hfin := H5.out.fin
    rw [← hWF] at hfin
    obtain ⟨hB9, HR⟩ := hfin
    obtain ⟨p0, p1, p2, p3, p4, p5, p6⟩ := And.intro (hB9.cell (j := 0) rfl) (And.intro (hB9.cell (j := 1) rfl) (And.intro (hB9.cell (j := 2) rfl) (And.intro (hB9.cell (j := 3) rfl) (And.intro (hB9.cell (j := 4) rfl) (And.intro (hB9.cell (j := 5) rfl) (hB9.cell (j := 6) rfl))))))
    have HRH : Hid (LefP base cb bv n w (.returned (Nd.v (⟨6, s1, false, ⟨#[]⟩, 0, 0, 0⟩ : Nd))) WF) := HR
    clear hB9 HR
    simp only [set7] at hWF
    simp only at k0 k1 k2 k3 k4 k5 k6 l0 l1 l2 l3 l4 l5 l6 p0 p1 p2 p3 p4 p5 p6
    go_wp2_with fail
    rw [← hWF]
    exact bodyPost_ret (by simp [results, Tryz.results118, go_sem, p0, p1, p2, p3, p4, p5, p6]) rfl HRH.out
  by_cases x5 : x = 5
  · subst x5
    have c2_0 := H2.out.e.cell (j := 0) rfl
    have z2_0 := H2.out.e.frozen 0
    obtain ⟨W3, hW3⟩ : ∃ W3 : World, W3 = W2.setCell ⟨eb, 0, none⟩ (.int .i64 7) := ⟨_, rfl⟩
    have H3 : Hid (NInv base cb bv n w eb w.heap.size (⟨7, ⟨#[]⟩, false, ⟨#[]⟩, 0, 0, 0⟩ : Nd) W3) := by rw [hW3]; exact H2.out.set 0 _ _ rfl ⟨H2.out.sm.s, H2.out.sm.t, H2.out.sm.lo, H2.out.sm.up, H2.out.sm.n, (by show (0 : Int) ≤ 7 ∧ (7 : Int) ≤ 100000; omega)⟩
    go_upto_region 16 with fail
    rw [← hW3]
    clear hW3
    go_wp2_with fail
    refine (pattern_core base cb bv n _ H3.out.d).mono ?_
    rintro e w4 ⟨s1, rfl, hs1, hd⟩
    have H4w : Hid (NInv base cb bv n w eb w.heap.size (⟨7, ⟨#[]⟩, false, ⟨#[]⟩, 0, 0, 0⟩ : Nd) w4) := H3.out.call hd
    clear hd
    have c4_1 := H4w.out.e.cell (j := 1) rfl
    have z4_1 := H4w.out.e.frozen 1
    obtain ⟨W5, hW5⟩ : ∃ W5 : World, W5 = w4.setCell ⟨eb, 1, none⟩ (.string s1) := ⟨_, rfl⟩
    have H5 : Hid (NInv base cb bv n w eb w.heap.size (⟨7, s1, false, ⟨#[]⟩, 0, 0, 0⟩ : Nd) W5) := by rw [hW5]; exact H4w.out.set 1 _ _ rfl ⟨(by show s1.size ≤ 200000; omega), H4w.out.sm.t, H4w.out.sm.lo, H4w.out.sm.up, H4w.out.sm.n, H4w.out.sm.kind⟩
    go_upto_region 49 with fail
    rw [← hW5]
    clear hW5
    obtain ⟨k0, k1, k2, k3, k4, k5, k6⟩ := And.intro (H5.out.e.cell (j := 0) rfl) (And.intro (H5.out.e.cell (j := 1) rfl) (And.intro (H5.out.e.cell (j := 2) rfl) (And.intro (H5.out.e.cell (j := 3) rfl) (And.intro (H5.out.e.cell (j := 4) rfl) (And.intro (H5.out.e.cell (j := 5) rfl) (H5.out.e.cell (j := 6) rfl))))))
    obtain ⟨l0, l1, l2, l3, l4, l5, l6⟩ := And.intro (H5.out.r.cell (j := 0) rfl) (And.intro (H5.out.r.cell (j := 1) rfl) (And.intro (H5.out.r.cell (j := 2) rfl) (And.intro (H5.out.r.cell (j := 3) rfl) (And.intro (H5.out.r.cell (j := 4) rfl) (And.intro (H5.out.r.cell (j := 5) rfl) (H5.out.r.cell (j := 6) rfl))))))
    have lf := H5.out.r.frozen
    obtain ⟨WF, hWF⟩ : ∃ WF : World, WF = set7 W5 w.heap.size (⟨7, s1, false, ⟨#[]⟩, 0, 0, 0⟩ : Nd) := ⟨_, rfl⟩
    have hfin := H5.out.fin
    rw [← hWF] at hfin
    obtain ⟨hB9, HR⟩ := hfin
    obtain ⟨p0, p1, p2, p3, p4, p5, p6⟩ := And.intro (hB9.cell (j := 0) rfl) (And.intro (hB9.cell (j := 1) rfl) (And.intro (hB9.cell (j := 2) rfl) (And.intro (hB9.cell (j := 3) rfl) (And.intro (hB9.cell (j := 4) rfl) (And.intro (hB9.cell (j := 5) rfl) (hB9.cell (j := 6) rfl))))))
    have HRH : Hid (LefP base cb bv n w (.returned (Nd.v (⟨7, s1, false, ⟨#[]⟩, 0, 0, 0⟩ : Nd))) WF) := HR
    clear hB9 HR
    simp only [set7] at hWF
    simp only at k0 k1 k2 k3 k4 k5 k6 l0 l1 l2 l3 l4 l5 l6 p0 p1 p2 p3 p4 p5 p6
    go_wp2_with fail
    rw [← hWF]
    exact bodyPost_ret (by simp [results, Tryz.results118, go_sem, p0, p1, p2, p3, p4, p5, p6]) rfl HRH.out
  by_cases x6 : x = 6
  · subst x6
    have c2_0 := H2.out.e.cell (j := 0) rfl
    have z2_0 := H2.out.e.frozen 0
    obtain ⟨W3, hW3⟩ : ∃ W3 : World, W3 = W2.setCell ⟨eb, 0, none⟩ (.int .i64 8) := ⟨_, rfl⟩
    have H3 : Hid (NInv base cb bv n w eb w.heap.size (⟨8, ⟨#[]⟩, false, ⟨#[]⟩, 0, 0, 0⟩ : Nd) W3) := by rw [hW3]; exact H2.out.set 0 _ _ rfl ⟨H2.out.sm.s, H2.out.sm.t, H2.out.sm.lo, H2.out.sm.up, H2.out.sm.n, (by show (0 : Int) ≤ 8 ∧ (8 : Int) ≤ 100000; omega)⟩
    go_upto_region 21 with fail
    rw [← hW3]
    clear hW3
    go_wp2_with fail
    refine (letters_core base cb bv n 0 2 _ H3.out.d (by omega) (by omega) (by omega)).mono ?_
    rintro e w4 ⟨s1, rfl, hs1, hd⟩
    have H4w : Hid (NInv base cb bv n w eb w.heap.size (⟨8, ⟨#[]⟩, false, ⟨#[]⟩, 0, 0, 0⟩ : Nd) w4) := H3.out.call hd
    clear hd
    have c4_1 := H4w.out.e.cell (j := 1) rfl
    have z4_1 := H4w.out.e.frozen 1
    obtain ⟨W5, hW5⟩ : ∃ W5 : World, W5 = w4.setCell ⟨eb, 1, none⟩ (.string s1) := ⟨_, rfl⟩
    have H5 : Hid (NInv base cb bv n w eb w.heap.size (⟨8, s1, false, ⟨#[]⟩, 0, 0, 0⟩ : Nd) W5) := by rw [hW5]; exact H4w.out.set 1 _ _ rfl ⟨(by show s1.size ≤ 200000; omega), H4w.out.sm.t, H4w.out.sm.lo, H4w.out.sm.up, H4w.out.sm.n, H4w.out.sm.kind⟩
    go_upto_region 22 with fail
    rw [← hW5]
    clear hW5
    go_wp2_with fail
    refine (once_core base cb bv n 2 _ H5.out.d (by omega) (by omega)).mono ?_
    rintro e w6 ⟨v, rfl, hv, hd⟩
    have H6w : Hid (NInv base cb bv n w eb w.heap.size (⟨8, s1, false, ⟨#[]⟩, 0, 0, 0⟩ : Nd) w6) := H5.out.call hd
    clear hd
    rcases hv with rfl | rfl
    · have c6_2 := H6w.out.e.cell (j := 2) rfl
      have z6_2 := H6w.out.e.frozen 2
      obtain ⟨W7, hW7⟩ : ∃ W7 : World, W7 = w6.setCell ⟨eb, 2, none⟩ (.bool true) := ⟨_, rfl⟩
      have H7 : Hid (NInv base cb bv n w eb w.heap.size (⟨8, s1, true, ⟨#[]⟩, 0, 0, 0⟩ : Nd) W7) := by rw [hW7]; exact H6w.out.set 2 _ _ rfl ⟨H6w.out.sm.s, H6w.out.sm.t, H6w.out.sm.lo, H6w.out.sm.up, H6w.out.sm.n, H6w.out.sm.kind⟩
      go_upto_region 23 with fail
      rw [← hW7]
      clear hW7
      have cH := H7.out.e.cell (j := 2) rfl
      go_upto_region 24 with fail
      clear cH
      have HL : Hid (Calls Tryz.prog 131 #[.pointer (some ⟨cb, 0, none⟩), .int .i64 1, .int .i64 2] W7.drew fun e w' => ∃ s : ByteArray, e = .returned (.string s) ∧ s.size ≤ 100 ∧ Drew base cb bv n W7.drew w') := letters_core base cb bv n 1 2 _ H7.out.drew.d (by omega) (by omega) (by omega)
      have hS0 : (fun wz : World => wz.cell? ⟨eb, 1, none⟩ = some (.string s1)) W7.drew := H7.out.drew.e.cell (j := 1) rfl
      refine wp_region_T 6 (fun wz : World => wz.cell? ⟨eb, 1, none⟩ = some (.string s1)) (by kernel_rfl) ?_
      refine anyT_take (i := 0) (v := ?vx6r0) rfl (by kernel_rfl) (by kernel_rfl) (by kernel_rfl) (by kernel_rfl) (by decide) (fun _ _ _ h => h) (Or.inl ⟨by rfl, ?yx6r0⟩) hS0 ?_
      case yx6r0 => (intro wz hSw; go_simp; (try with_reducible rfl))
      try simp only [Act.put, List.getElem_toArray, List.getElem_cons_zero, List.getElem_cons_succ, List.setIfInBounds_toArray, List.set_cons_zero, List.set_cons_succ]
      refine anyT_take (i := 1) (v := ?vx6r1) rfl (by kernel_rfl) (by kernel_rfl) (by kernel_rfl) (by kernel_rfl) (by decide) (fun _ _ _ h => h) (Or.inl ⟨by rfl, ?yx6r1⟩) hS0 ?_
      case yx6r1 => (intro wz hSw; go_simp; (try with_reducible rfl))
      try simp only [Act.put, List.getElem_toArray, List.getElem_cons_zero, List.getElem_cons_succ, List.setIfInBounds_toArray, List.set_cons_zero, List.set_cons_succ]
      refine anyT_take (i := 2) (v := ?vx6r2) rfl (by kernel_rfl) (by kernel_rfl) (by kernel_rfl) (by kernel_rfl) (by decide) (fun _ _ _ h => h) (Or.inl ⟨by rfl, ?yx6r2⟩) hS0 ?_
      case yx6r2 => (intro wz hSw; go_simp; (try with_reducible rfl))
      try simp only [Act.put, List.getElem_toArray, List.getElem_cons_zero, List.getElem_cons_succ, List.setIfInBounds_toArray, List.set_cons_zero, List.set_cons_succ]
      refine anyT_one (i := 3) (by kernel_rfl) rfl (fun K hK => ?_)
      go_simp
      refine HL.out.mono ?_
      rintro e w8 ⟨s4, rfl, hs4, hd⟩
      have H8w : Hid (NInv base cb bv n w eb w.heap.size (⟨8, s1, true, ⟨#[]⟩, 0, 0, 0⟩ : Nd) w8) := H7.out.drew.call hd
      clear hd HL hS0
      have hS0 : (fun wz : World => wz.cell? ⟨eb, 1, none⟩ = some (.string s1)) w8 := H8w.out.e.cell (j := 1) rfl
      refine hK.out _ _ (.inr hS0) ?_
      clear hK
      try simp only [Act.put, List.getElem_toArray, List.getElem_cons_zero, List.getElem_cons_succ, List.setIfInBounds_toArray, List.set_cons_zero, List.set_cons_succ]
      have hcat : ¬ 9223372036854775807 < s1.size + s4.size := by omega
      refine anyT_take (i := 4) (v := ?vx6r4) rfl (by kernel_rfl) (by kernel_rfl) (by kernel_rfl) (by kernel_rfl) (by decide) (fun _ _ _ h => h) (Or.inl ⟨by rfl, ?yx6r4⟩) hS0 ?_
      case yx6r4 => (intro wz hSw; go_simp; (try with_reducible rfl))
      try simp only [Act.put, List.getElem_toArray, List.getElem_cons_zero, List.getElem_cons_succ, List.setIfInBounds_toArray, List.set_cons_zero, List.set_cons_succ]
      clear hcat
      refine anyT_take (i := 5) (v := ?vx6r5) rfl (by kernel_rfl) (by kernel_rfl) (by kernel_rfl) (by kernel_rfl) (by decide) (fun _ _ _ h => h) (Or.inl ⟨by rfl, ?yx6r5⟩) hS0 ?_
      case yx6r5 => (intro wz hSw; go_simp; (try with_reducible rfl))
      try simp only [Act.put, List.getElem_toArray, List.getElem_cons_zero, List.getElem_cons_succ, List.setIfInBounds_toArray, List.set_cons_zero, List.set_cons_succ]
      have c8_3 := H8w.out.e.cell (j := 3) rfl
      have z8_3 := H8w.out.e.frozen 3
      obtain ⟨W9, hW9⟩ : ∃ W9 : World, W9 = w8.setCell ⟨eb, 3, none⟩ (.string (s1 ++ s4)) := ⟨_, rfl⟩
      have H9 : Hid (NInv base cb bv n w eb w.heap.size (⟨8, s1, true, (s1 ++ s4), 0, 0, 0⟩ : Nd) W9) := by rw [hW9]; exact H8w.out.set 3 _ _ rfl ⟨H8w.out.sm.s, (by show (s1 ++ s4).size ≤ 300000; rw [size_app]; omega), H8w.out.sm.lo, H8w.out.sm.up, H8w.out.sm.n, H8w.out.sm.kind⟩
      refine anyT_one (i := 6) (by kernel_rfl) rfl (fun K hK => ?_)
      go_simp
      refine hK.out _ _ (.inl rfl) ?_
      clear hK
      try simp only [Act.put, List.getElem_toArray, List.getElem_cons_zero, List.getElem_cons_succ, List.setIfInBounds_toArray, List.set_cons_zero, List.set_cons_succ]
      refine anyT_done (by kernel_rfl) ?_
      rw [← hW9]
      clear hW9 hS0
      go_upto_region 49 with fail
      obtain ⟨k0, k1, k2, k3, k4, k5, k6⟩ := And.intro (H9.out.e.cell (j := 0) rfl) (And.intro (H9.out.e.cell (j := 1) rfl) (And.intro (H9.out.e.cell (j := 2) rfl) (And.intro (H9.out.e.cell (j := 3) rfl) (And.intro (H9.out.e.cell (j := 4) rfl) (And.intro (H9.out.e.cell (j := 5) rfl) (H9.out.e.cell (j := 6) rfl))))))
      obtain ⟨l0, l1, l2, l3, l4, l5, l6⟩ := And.intro (H9.out.r.cell (j := 0) rfl) (And.intro (H9.out.r.cell (j := 1) rfl) (And.intro (H9.out.r.cell (j := 2) rfl) (And.intro (H9.out.r.cell (j := 3) rfl) (And.intro (H9.out.r.cell (j := 4) rfl) (And.intro (H9.out.r.cell (j := 5) rfl) (H9.out.r.cell (j := 6) rfl))))))
      have lf := H9.out.r.frozen
      obtain ⟨WF, hWF⟩ : ∃ WF : World, WF = set7 W9 w.heap.size (⟨8, s1, true, (s1 ++ s4), 0, 0, 0⟩ : Nd) := ⟨_, rfl⟩
      have hfin := H9.out.fin
      rw [← hWF] at hfin
      obtain ⟨hB9, HR⟩ := hfin
      obtain ⟨p0, p1, p2, p3, p4, p5, p6⟩ := And.intro (hB9.cell (j := 0) rfl) (And.intro (hB9.cell (j := 1) rfl) (And.intro (hB9.cell (j := 2) rfl) (And.intro (hB9.cell (j := 3) rfl) (And.intro (hB9.cell (j := 4) rfl) (And.intro (hB9.cell (j := 5) rfl) (hB9.cell (j := 6) rfl))))))
      have HRH : Hid (LefP base cb bv n w (.returned (Nd.v (⟨8, s1, true, (s1 ++ s4), 0, 0, 0⟩ : Nd))) WF) := HR
      clear hB9 HR
      simp only [set7] at hWF
      simp only at k0 k1 k2 k3 k4 k5 k6 l0 l1 l2 l3 l4 l5 l6 p0 p1 p2 p3 p4 p5 p6
      go_wp2_with fail
      rw [← hWF]
      exact bodyPost_ret (by simp [results, Tryz.results118, go_sem, p0, p1, p2, p3, p4, p5, p6]) rfl HRH.out
    · have c6_2 := H6w.out.e.cell (j := 2) rfl
      have z6_2 := H6w.out.e.frozen 2
      obtain ⟨W7, hW7⟩ : ∃ W7 : World, W7 = w6.setCell ⟨eb, 2, none⟩ (.bool false) := ⟨_, rfl⟩
      have H7 : Hid (NInv base cb bv n w eb w.heap.size (⟨8, s1, false, ⟨#[]⟩, 0, 0, 0⟩ : Nd) W7) := by rw [hW7]; exact H6w.out.set 2 _ _ rfl ⟨H6w.out.sm.s, H6w.out.sm.t, H6w.out.sm.lo, H6w.out.sm.up, H6w.out.sm.n, H6w.out.sm.kind⟩
      go_upto_region 23 with fail
      rw [← hW7]
      clear hW7
      have cH := H7.out.e.cell (j := 2) rfl
      go_upto_region 49 with fail
      clear cH
      obtain ⟨k0, k1, k2, k3, k4, k5, k6⟩ := And.intro (H7.out.e.cell (j := 0) rfl) (And.intro (H7.out.e.cell (j := 1) rfl) (And.intro (H7.out.e.cell (j := 2) rfl) (And.intro (H7.out.e.cell (j := 3) rfl) (And.intro (H7.out.e.cell (j := 4) rfl) (And.intro (H7.out.e.cell (j := 5) rfl) (H7.out.e.cell (j := 6) rfl))))))
      obtain ⟨l0, l1, l2, l3, l4, l5, l6⟩ := And.intro (H7.out.r.cell (j := 0) rfl) (And.intro (H7.out.r.cell (j := 1) rfl) (And.intro (H7.out.r.cell (j := 2) rfl) (And.intro (H7.out.r.cell (j := 3) rfl) (And.intro (H7.out.r.cell (j := 4) rfl) (And.intro (H7.out.r.cell (j := 5) rfl) (H7.out.r.cell (j := 6) rfl))))))
      have lf := H7.out.r.frozen
      obtain ⟨WF, hWF⟩ : ∃ WF : World, WF = set7 W7 w.heap.size (⟨8, s1, false, ⟨#[]⟩, 0, 0, 0⟩ : Nd) := ⟨_, rfl⟩
      have hfin := H7.out.fin
      rw [← hWF] at hfin
      obtain ⟨hB9, HR⟩ := hfin
      obtain ⟨p0, p1, p2, p3, p4, p5, p6⟩ := And.intro (hB9.cell (j := 0) rfl) (And.intro (hB9.cell (j := 1) rfl) (And.intro (hB9.cell (j := 2) rfl) (And.intro (hB9.cell (j := 3) rfl) (And.intro (hB9.cell (j := 4) rfl) (And.intro (hB9.cell (j := 5) rfl) (hB9.cell (j := 6) rfl))))))
      have HRH : Hid (LefP base cb bv n w (.returned (Nd.v (⟨8, s1, false, ⟨#[]⟩, 0, 0, 0⟩ : Nd))) WF) := HR
      clear hB9 HR
      simp only [set7] at hWF
      simp only at k0 k1 k2 k3 k4 k5 k6 l0 l1 l2 l3 l4 l5 l6 p0 p1 p2 p3 p4 p5 p6
      go_wp2_with fail
      rw [← hWF]
      exact bodyPost_ret (by simp [results, Tryz.results118, go_sem, p0, p1, p2, p3, p4, p5, p6]) rfl HRH.out
  by_cases x7 : x = 7
  · subst x7
    have c2_0 := H2.out.e.cell (j := 0) rfl
    have z2_0 := H2.out.e.frozen 0
    obtain ⟨W3, hW3⟩ : ∃ W3 : World, W3 = W2.setCell ⟨eb, 0, none⟩ (.int .i64 9) := ⟨_, rfl⟩
    have H3 : Hid (NInv base cb bv n w eb w.heap.size (⟨9, ⟨#[]⟩, false, ⟨#[]⟩, 0, 0, 0⟩ : Nd) W3) := by rw [hW3]; exact H2.out.set 0 _ _ rfl ⟨H2.out.sm.s, H2.out.sm.t, H2.out.sm.lo, H2.out.sm.up, H2.out.sm.n, (by show (0 : Int) ≤ 9 ∧ (9 : Int) ≤ 100000; omega)⟩
    go_upto_region 28 with fail
    rw [← hW3]
    clear hW3
    go_wp2_with fail
    refine (letters_core base cb bv n 0 2 _ H3.out.d (by omega) (by omega) (by omega)).mono ?_
    rintro e w4 ⟨s1, rfl, hs1, hd⟩
    have H4w : Hid (NInv base cb bv n w eb w.heap.size (⟨9, ⟨#[]⟩, false, ⟨#[]⟩, 0, 0, 0⟩ : Nd) w4) := H3.out.call hd
    clear hd
    have c4_1 := H4w.out.e.cell (j := 1) rfl
    have z4_1 := H4w.out.e.frozen 1
    obtain ⟨W5, hW5⟩ : ∃ W5 : World, W5 = w4.setCell ⟨eb, 1, none⟩ (.string s1) := ⟨_, rfl⟩
    have H5 : Hid (NInv base cb bv n w eb w.heap.size (⟨9, s1, false, ⟨#[]⟩, 0, 0, 0⟩ : Nd) W5) := by rw [hW5]; exact H4w.out.set 1 _ _ rfl ⟨(by show s1.size ≤ 200000; omega), H4w.out.sm.t, H4w.out.sm.lo, H4w.out.sm.up, H4w.out.sm.n, H4w.out.sm.kind⟩
    go_upto_region 29 with fail
    rw [← hW5]
    clear hW5
    go_wp2_with fail
    refine (once_core base cb bv n 2 _ H5.out.d (by omega) (by omega)).mono ?_
    rintro e w6 ⟨v, rfl, hv, hd⟩
    have H6w : Hid (NInv base cb bv n w eb w.heap.size (⟨9, s1, false, ⟨#[]⟩, 0, 0, 0⟩ : Nd) w6) := H5.out.call hd
    clear hd
    rcases hv with rfl | rfl
    · have c6_2 := H6w.out.e.cell (j := 2) rfl
      have z6_2 := H6w.out.e.frozen 2
      obtain ⟨W7, hW7⟩ : ∃ W7 : World, W7 = w6.setCell ⟨eb, 2, none⟩ (.bool true) := ⟨_, rfl⟩
      have H7 : Hid (NInv base cb bv n w eb w.heap.size (⟨9, s1, true, ⟨#[]⟩, 0, 0, 0⟩ : Nd) W7) := by rw [hW7]; exact H6w.out.set 2 _ _ rfl ⟨H6w.out.sm.s, H6w.out.sm.t, H6w.out.sm.lo, H6w.out.sm.up, H6w.out.sm.n, H6w.out.sm.kind⟩
      go_upto_region 30 with fail
      rw [← hW7]
      clear hW7
      have cH := H7.out.e.cell (j := 2) rfl
      go_upto_region 31 with fail
      clear cH
      have HL : Hid (Calls Tryz.prog 131 #[.pointer (some ⟨cb, 0, none⟩), .int .i64 1, .int .i64 2] W7.drew fun e w' => ∃ s : ByteArray, e = .returned (.string s) ∧ s.size ≤ 100 ∧ Drew base cb bv n W7.drew w') := letters_core base cb bv n 1 2 _ H7.out.drew.d (by omega) (by omega) (by omega)
      have hS0 : (fun wz : World => wz.cell? ⟨eb, 1, none⟩ = some (.string s1)) W7.drew := H7.out.drew.e.cell (j := 1) rfl
      refine wp_region_T 6 (fun wz : World => wz.cell? ⟨eb, 1, none⟩ = some (.string s1)) (by kernel_rfl) ?_
      refine anyT_take (i := 0) (v := ?vx7r0) rfl (by kernel_rfl) (by kernel_rfl) (by kernel_rfl) (by kernel_rfl) (by decide) (fun _ _ _ h => h) (Or.inl ⟨by rfl, ?yx7r0⟩) hS0 ?_
      case yx7r0 => (intro wz hSw; go_simp; (try with_reducible rfl))
      try simp only [Act.put, List.getElem_toArray, List.getElem_cons_zero, List.getElem_cons_succ, List.setIfInBounds_toArray, List.set_cons_zero, List.set_cons_succ]
      refine anyT_take (i := 1) (v := ?vx7r1) rfl (by kernel_rfl) (by kernel_rfl) (by kernel_rfl) (by kernel_rfl) (by decide) (fun _ _ _ h => h) (Or.inl ⟨by rfl, ?yx7r1⟩) hS0 ?_
      case yx7r1 => (intro wz hSw; go_simp; (try with_reducible rfl))
      try simp only [Act.put, List.getElem_toArray, List.getElem_cons_zero, List.getElem_cons_succ, List.setIfInBounds_toArray, List.set_cons_zero, List.set_cons_succ]
      refine anyT_take (i := 2) (v := ?vx7r2) rfl (by kernel_rfl) (by kernel_rfl) (by kernel_rfl) (by kernel_rfl) (by decide) (fun _ _ _ h => h) (Or.inl ⟨by rfl, ?yx7r2⟩) hS0 ?_
      case yx7r2 => (intro wz hSw; go_simp; (try with_reducible rfl))
      try simp only [Act.put, List.getElem_toArray, List.getElem_cons_zero, List.getElem_cons_succ, List.setIfInBounds_toArray, List.set_cons_zero, List.set_cons_succ]
      refine anyT_one (i := 3) (by kernel_rfl) rfl (fun K hK => ?_)
      go_simp
      refine HL.out.mono ?_
      rintro e w8 ⟨s4, rfl, hs4, hd⟩
      have H8w : Hid (NInv base cb bv n w eb w.heap.size (⟨9, s1, true, ⟨#[]⟩, 0, 0, 0⟩ : Nd) w8) := H7.out.drew.call hd
      clear hd HL hS0
      have hS0 : (fun wz : World => wz.cell? ⟨eb, 1, none⟩ = some (.string s1)) w8 := H8w.out.e.cell (j := 1) rfl
      refine hK.out _ _ (.inr hS0) ?_
      clear hK
      try simp only [Act.put, List.getElem_toArray, List.getElem_cons_zero, List.getElem_cons_succ, List.setIfInBounds_toArray, List.set_cons_zero, List.set_cons_succ]
      have hcat : ¬ 9223372036854775807 < s1.size + s4.size := by omega
      refine anyT_take (i := 4) (v := ?vx7r4) rfl (by kernel_rfl) (by kernel_rfl) (by kernel_rfl) (by kernel_rfl) (by decide) (fun _ _ _ h => h) (Or.inl ⟨by rfl, ?yx7r4⟩) hS0 ?_
      case yx7r4 => (intro wz hSw; go_simp; (try with_reducible rfl))
      try simp only [Act.put, List.getElem_toArray, List.getElem_cons_zero, List.getElem_cons_succ, List.setIfInBounds_toArray, List.set_cons_zero, List.set_cons_succ]
      clear hcat
      refine anyT_take (i := 5) (v := ?vx7r5) rfl (by kernel_rfl) (by kernel_rfl) (by kernel_rfl) (by kernel_rfl) (by decide) (fun _ _ _ h => h) (Or.inl ⟨by rfl, ?yx7r5⟩) hS0 ?_
      case yx7r5 => (intro wz hSw; go_simp; (try with_reducible rfl))
      try simp only [Act.put, List.getElem_toArray, List.getElem_cons_zero, List.getElem_cons_succ, List.setIfInBounds_toArray, List.set_cons_zero, List.set_cons_succ]
      have c8_3 := H8w.out.e.cell (j := 3) rfl
      have z8_3 := H8w.out.e.frozen 3
      obtain ⟨W9, hW9⟩ : ∃ W9 : World, W9 = w8.setCell ⟨eb, 3, none⟩ (.string (s1 ++ s4)) := ⟨_, rfl⟩
      have H9 : Hid (NInv base cb bv n w eb w.heap.size (⟨9, s1, true, (s1 ++ s4), 0, 0, 0⟩ : Nd) W9) := by rw [hW9]; exact H8w.out.set 3 _ _ rfl ⟨H8w.out.sm.s, (by show (s1 ++ s4).size ≤ 300000; rw [size_app]; omega), H8w.out.sm.lo, H8w.out.sm.up, H8w.out.sm.n, H8w.out.sm.kind⟩
      refine anyT_one (i := 6) (by kernel_rfl) rfl (fun K hK => ?_)
      go_simp
      refine hK.out _ _ (.inl rfl) ?_
      clear hK
      try simp only [Act.put, List.getElem_toArray, List.getElem_cons_zero, List.getElem_cons_succ, List.setIfInBounds_toArray, List.set_cons_zero, List.set_cons_succ]
      refine anyT_done (by kernel_rfl) ?_
      rw [← hW9]
      clear hW9 hS0
      go_upto_region 49 with fail
      obtain ⟨k0, k1, k2, k3, k4, k5, k6⟩ := And.intro (H9.out.e.cell (j := 0) rfl) (And.intro (H9.out.e.cell (j := 1) rfl) (And.intro (H9.out.e.cell (j := 2) rfl) (And.intro (H9.out.e.cell (j := 3) rfl) (And.intro (H9.out.e.cell (j := 4) rfl) (And.intro (H9.out.e.cell (j := 5) rfl) (H9.out.e.cell (j := 6) rfl))))))
      obtain ⟨l0, l1, l2, l3, l4, l5, l6⟩ := And.intro (H9.out.r.cell (j := 0) rfl) (And.intro (H9.out.r.cell (j := 1) rfl) (And.intro (H9.out.r.cell (j := 2) rfl) (And.intro (H9.out.r.cell (j := 3) rfl) (And.intro (H9.out.r.cell (j := 4) rfl) (And.intro (H9.out.r.cell (j := 5) rfl) (H9.out.r.cell (j := 6) rfl))))))
      have lf := H9.out.r.frozen
      obtain ⟨WF, hWF⟩ : ∃ WF : World, WF = set7 W9 w.heap.size (⟨9, s1, true, (s1 ++ s4), 0, 0, 0⟩ : Nd) := ⟨_, rfl⟩
      have hfin := H9.out.fin
      rw [← hWF] at hfin
      obtain ⟨hB9, HR⟩ := hfin
      obtain ⟨p0, p1, p2, p3, p4, p5, p6⟩ := And.intro (hB9.cell (j := 0) rfl) (And.intro (hB9.cell (j := 1) rfl) (And.intro (hB9.cell (j := 2) rfl) (And.intro (hB9.cell (j := 3) rfl) (And.intro (hB9.cell (j := 4) rfl) (And.intro (hB9.cell (j := 5) rfl) (hB9.cell (j := 6) rfl))))))
      have HRH : Hid (LefP base cb bv n w (.returned (Nd.v (⟨9, s1, true, (s1 ++ s4), 0, 0, 0⟩ : Nd))) WF) := HR
      clear hB9 HR
      simp only [set7] at hWF
      simp only at k0 k1 k2 k3 k4 k5 k6 l0 l1 l2 l3 l4 l5 l6 p0 p1 p2 p3 p4 p5 p6
      go_wp2_with fail
      rw [← hWF]
      exact bodyPost_ret (by simp [results, Tryz.results118, go_sem, p0, p1, p2, p3, p4, p5, p6]) rfl HRH.out
    · have c6_2 := H6w.out.e.cell (j := 2) rfl
      have z6_2 := H6w.out.e.frozen 2
      obtain ⟨W7, hW7⟩ : ∃ W7 : World, W7 = w6.setCell ⟨eb, 2, none⟩ (.bool false) := ⟨_, rfl⟩
      have H7 : Hid (NInv base cb bv n w eb w.heap.size (⟨9, s1, false, ⟨#[]⟩, 0, 0, 0⟩ : Nd) W7) := by rw [hW7]; exact H6w.out.set 2 _ _ rfl ⟨H6w.out.sm.s, H6w.out.sm.t, H6w.out.sm.lo, H6w.out.sm.up, H6w.out.sm.n, H6w.out.sm.kind⟩
      go_upto_region 30 with fail
      rw [← hW7]
      clear hW7
      have cH := H7.out.e.cell (j := 2) rfl
      go_upto_region 49 with fail
      clear cH
      obtain ⟨k0, k1, k2, k3, k4, k5, k6⟩ := And.intro (H7.out.e.cell (j := 0) rfl) (And.intro (H7.out.e.cell (j := 1) rfl) (And.intro (H7.out.e.cell (j := 2) rfl) (And.intro (H7.out.e.cell (j := 3) rfl) (And.intro (H7.out.e.cell (j := 4) rfl) (And.intro (H7.out.e.cell (j := 5) rfl) (H7.out.e.cell (j := 6) rfl))))))
      obtain ⟨l0, l1, l2, l3, l4, l5, l6⟩ := And.intro (H7.out.r.cell (j := 0) rfl) (And.intro (H7.out.r.cell (j := 1) rfl) (And.intro (H7.out.r.cell (j := 2) rfl) (And.intro (H7.out.r.cell (j := 3) rfl) (And.intro (H7.out.r.cell (j := 4) rfl) (And.intro (H7.out.r.cell (j := 5) rfl) (H7.out.r.cell (j := 6) rfl))))))
      have lf := H7.out.r.frozen
      obtain ⟨WF, hWF⟩ : ∃ WF : World, WF = set7 W7 w.heap.size (⟨9, s1, false, ⟨#[]⟩, 0, 0, 0⟩ : Nd) := ⟨_, rfl⟩
      have hfin := H7.out.fin
      rw [← hWF] at hfin
      obtain ⟨hB9, HR⟩ := hfin
      obtain ⟨p0, p1, p2, p3, p4, p5, p6⟩ := And.intro (hB9.cell (j := 0) rfl) (And.intro (hB9.cell (j := 1) rfl) (And.intro (hB9.cell (j := 2) rfl) (And.intro (hB9.cell (j := 3) rfl) (And.intro (hB9.cell (j := 4) rfl) (And.intro (hB9.cell (j := 5) rfl) (hB9.cell (j := 6) rfl))))))
      have HRH : Hid (LefP base cb bv n w (.returned (Nd.v (⟨9, s1, false, ⟨#[]⟩, 0, 0, 0⟩ : Nd))) WF) := HR
      clear hB9 HR
      simp only [set7] at hWF
      simp only at k0 k1 k2 k3 k4 k5 k6 l0 l1 l2 l3 l4 l5 l6 p0 p1 p2 p3 p4 p5 p6
      go_wp2_with fail
      rw [← hWF]
      exact bodyPost_ret (by simp [results, Tryz.results118, go_sem, p0, p1, p2, p3, p4, p5, p6]) rfl HRH.out
  by_cases x8 : x = 8
  · subst x8
    have c2_0 := H2.out.e.cell (j := 0) rfl
    have z2_0 := H2.out.e.frozen 0
    obtain ⟨W3, hW3⟩ : ∃ W3 : World, W3 = W2.setCell ⟨eb, 0, none⟩ (.int .i64 9) := ⟨_, rfl⟩
    have H3 : Hid (NInv base cb bv n w eb w.heap.size (⟨9, ⟨#[]⟩, false, ⟨#[]⟩, 0, 0, 0⟩ : Nd) W3) := by rw [hW3]; exact H2.out.set 0 _ _ rfl ⟨H2.out.sm.s, H2.out.sm.t, H2.out.sm.lo, H2.out.sm.up, H2.out.sm.n, (by show (0 : Int) ≤ 9 ∧ (9 : Int) ≤ 100000; omega)⟩
    go_upto_region 28 with fail
    rw [← hW3]
    clear hW3
    go_wp2_with fail
    refine (letters_core base cb bv n 0 2 _ H3.out.d (by omega) (by omega) (by omega)).mono ?_
    rintro e w4 ⟨s1, rfl, hs1, hd⟩
    have H4w : Hid (NInv base cb bv n w eb w.heap.size (⟨9, ⟨#[]⟩, false, ⟨#[]⟩, 0, 0, 0⟩ : Nd) w4) := H3.out.call hd
    clear hd
    have c4_1 := H4w.out.e.cell (j := 1) rfl
    have z4_1 := H4w.out.e.frozen 1
    obtain ⟨W5, hW5⟩ : ∃ W5 : World, W5 = w4.setCell ⟨eb, 1, none⟩ (.string s1) := ⟨_, rfl⟩
    have H5 : Hid (NInv base cb bv n w eb w.heap.size (⟨9, s1, false, ⟨#[]⟩, 0, 0, 0⟩ : Nd) W5) := by rw [hW5]; exact H4w.out.set 1 _ _ rfl ⟨(by show s1.size ≤ 200000; omega), H4w.out.sm.t, H4w.out.sm.lo, H4w.out.sm.up, H4w.out.sm.n, H4w.out.sm.kind⟩
    go_upto_region 29 with fail
    rw [← hW5]
    clear hW5
    go_wp2_with fail
    refine (once_core base cb bv n 2 _ H5.out.d (by omega) (by omega)).mono ?_
    rintro e w6 ⟨v, rfl, hv, hd⟩
    have H6w : Hid (NInv base cb bv n w eb w.heap.size (⟨9, s1, false, ⟨#[]⟩, 0, 0, 0⟩ : Nd) w6) := H5.out.call hd
    clear hd
    rcases hv with rfl | rfl
    · have c6_2 := H6w.out.e.cell (j := 2) rfl
      have z6_2 := H6w.out.e.frozen 2
      obtain ⟨W7, hW7⟩ : ∃ W7 : World, W7 = w6.setCell ⟨eb, 2, none⟩ (.bool true) := ⟨_, rfl⟩
      have H7 : Hid (NInv base cb bv n w eb w.heap.size (⟨9, s1, true, ⟨#[]⟩, 0, 0, 0⟩ : Nd) W7) := by rw [hW7]; exact H6w.out.set 2 _ _ rfl ⟨H6w.out.sm.s, H6w.out.sm.t, H6w.out.sm.lo, H6w.out.sm.up, H6w.out.sm.n, H6w.out.sm.kind⟩
      go_upto_region 30 with fail
      rw [← hW7]
      clear hW7
      have cH := H7.out.e.cell (j := 2) rfl
      go_upto_region 31 with fail
      clear cH
      have HL : Hid (Calls Tryz.prog 131 #[.pointer (some ⟨cb, 0, none⟩), .int .i64 1, .int .i64 2] W7.drew fun e w' => ∃ s : ByteArray, e = .returned (.string s) ∧ s.size ≤ 100 ∧ Drew base cb bv n W7.drew w') := letters_core base cb bv n 1 2 _ H7.out.drew.d (by omega) (by omega) (by omega)
      have hS0 : (fun wz : World => wz.cell? ⟨eb, 1, none⟩ = some (.string s1)) W7.drew := H7.out.drew.e.cell (j := 1) rfl
      refine wp_region_T 6 (fun wz : World => wz.cell? ⟨eb, 1, none⟩ = some (.string s1)) (by kernel_rfl) ?_
      refine anyT_take (i := 0) (v := ?vx8r0) rfl (by kernel_rfl) (by kernel_rfl) (by kernel_rfl) (by kernel_rfl) (by decide) (fun _ _ _ h => h) (Or.inl ⟨by rfl, ?yx8r0⟩) hS0 ?_
      case yx8r0 => (intro wz hSw; go_simp; (try with_reducible rfl))
      try simp only [Act.put, List.getElem_toArray, List.getElem_cons_zero, List.getElem_cons_succ, List.setIfInBounds_toArray, List.set_cons_zero, List.set_cons_succ]
      refine anyT_take (i := 1) (v := ?vx8r1) rfl (by kernel_rfl) (by kernel_rfl) (by kernel_rfl) (by kernel_rfl) (by decide) (fun _ _ _ h => h) (Or.inl ⟨by rfl, ?yx8r1⟩) hS0 ?_
      case yx8r1 => (intro wz hSw; go_simp; (try with_reducible rfl))
      try simp only [Act.put, List.getElem_toArray, List.getElem_cons_zero, List.getElem_cons_succ, List.setIfInBounds_toArray, List.set_cons_zero, List.set_cons_succ]
      refine anyT_take (i := 2) (v := ?vx8r2) rfl (by kernel_rfl) (by kernel_rfl) (by kernel_rfl) (by kernel_rfl) (by decide) (fun _ _ _ h => h) (Or.inl ⟨by rfl, ?yx8r2⟩) hS0 ?_
      case yx8r2 => (intro wz hSw; go_simp; (try with_reducible rfl))
      try simp only [Act.put, List.getElem_toArray, List.getElem_cons_zero, List.getElem_cons_succ, List.setIfInBounds_toArray, List.set_cons_zero, List.set_cons_succ]
      refine anyT_one (i := 3) (by kernel_rfl) rfl (fun K hK => ?_)
      go_simp
      refine HL.out.mono ?_
      rintro e w8 ⟨s4, rfl, hs4, hd⟩
      have H8w : Hid (NInv base cb bv n w eb w.heap.size (⟨9, s1, true, ⟨#[]⟩, 0, 0, 0⟩ : Nd) w8) := H7.out.drew.call hd
      clear hd HL hS0
      have hS0 : (fun wz : World => wz.cell? ⟨eb, 1, none⟩ = some (.string s1)) w8 := H8w.out.e.cell (j := 1) rfl
      refine hK.out _ _ (.inr hS0) ?_
      clear hK
      try simp only [Act.put, List.getElem_toArray, List.getElem_cons_zero, List.getElem_cons_succ, List.setIfInBounds_toArray, List.set_cons_zero, List.set_cons_succ]
      have hcat : ¬ 9223372036854775807 < s1.size + s4.size := by omega
      refine anyT_take (i := 4) (v := ?vx8r4) rfl (by kernel_rfl) (by kernel_rfl) (by kernel_rfl) (by kernel_rfl) (by decide) (fun _ _ _ h => h) (Or.inl ⟨by rfl, ?yx8r4⟩) hS0 ?_
      case yx8r4 => (intro wz hSw; go_simp; (try with_reducible rfl))
      try simp only [Act.put, List.getElem_toArray, List.getElem_cons_zero, List.getElem_cons_succ, List.setIfInBounds_toArray, List.set_cons_zero, List.set_cons_succ]
      clear hcat
      refine anyT_take (i := 5) (v := ?vx8r5) rfl (by kernel_rfl) (by kernel_rfl) (by kernel_rfl) (by kernel_rfl) (by decide) (fun _ _ _ h => h) (Or.inl ⟨by rfl, ?yx8r5⟩) hS0 ?_
      case yx8r5 => (intro wz hSw; go_simp; (try with_reducible rfl))
      try simp only [Act.put, List.getElem_toArray, List.getElem_cons_zero, List.getElem_cons_succ, List.setIfInBounds_toArray, List.set_cons_zero, List.set_cons_succ]
      have c8_3 := H8w.out.e.cell (j := 3) rfl
      have z8_3 := H8w.out.e.frozen 3
      obtain ⟨W9, hW9⟩ : ∃ W9 : World, W9 = w8.setCell ⟨eb, 3, none⟩ (.string (s1 ++ s4)) := ⟨_, rfl⟩
      have H9 : Hid (NInv base cb bv n w eb w.heap.size (⟨9, s1, true, (s1 ++ s4), 0, 0, 0⟩ : Nd) W9) := by rw [hW9]; exact H8w.out.set 3 _ _ rfl ⟨H8w.out.sm.s, (by show (s1 ++ s4).size ≤ 300000; rw [size_app]; omega), H8w.out.sm.lo, H8w.out.sm.up, H8w.out.sm.n, H8w.out.sm.kind⟩
      refine anyT_one (i := 6) (by kernel_rfl) rfl (fun K hK => ?_)
      go_simp
      refine hK.out _ _ (.inl rfl) ?_
      clear hK
      try simp only [Act.put, List.getElem_toArray, List.getElem_cons_zero, List.getElem_cons_succ, List.setIfInBounds_toArray, List.set_cons_zero, List.set_cons_succ]
      refine anyT_done (by kernel_rfl) ?_
      rw [← hW9]
      clear hW9 hS0
      go_upto_region 49 with fail
      obtain ⟨k0, k1, k2, k3, k4, k5, k6⟩ := And.intro (H9.out.e.cell (j := 0) rfl) (And.intro (H9.out.e.cell (j := 1) rfl) (And.intro (H9.out.e.cell (j := 2) rfl) (And.intro (H9.out.e.cell (j := 3) rfl) (And.intro (H9.out.e.cell (j := 4) rfl) (And.intro (H9.out.e.cell (j := 5) rfl) (H9.out.e.cell (j := 6) rfl))))))
      obtain ⟨l0, l1, l2, l3, l4, l5, l6⟩ := And.intro (H9.out.r.cell (j := 0) rfl) (And.intro (H9.out.r.cell (j := 1) rfl) (And.intro (H9.out.r.cell (j := 2) rfl) (And.intro (H9.out.r.cell (j := 3) rfl) (And.intro (H9.out.r.cell (j := 4) rfl) (And.intro (H9.out.r.cell (j := 5) rfl) (H9.out.r.cell (j := 6) rfl))))))
      have lf := H9.out.r.frozen
      obtain ⟨WF, hWF⟩ : ∃ WF : World, WF = set7 W9 w.heap.size (⟨9, s1, true, (s1 ++ s4), 0, 0, 0⟩ : Nd) := ⟨_, rfl⟩
      have hfin := H9.out.fin
      rw [← hWF] at hfin
      obtain ⟨hB9, HR⟩ := hfin
      obtain ⟨p0, p1, p2, p3, p4, p5, p6⟩ := And.intro (hB9.cell (j := 0) rfl) (And.intro (hB9.cell (j := 1) rfl) (And.intro (hB9.cell (j := 2) rfl) (And.intro (hB9.cell (j := 3) rfl) (And.intro (hB9.cell (j := 4) rfl) (And.intro (hB9.cell (j := 5) rfl) (hB9.cell (j := 6) rfl))))))
      have HRH : Hid (LefP base cb bv n w (.returned (Nd.v (⟨9, s1, true, (s1 ++ s4), 0, 0, 0⟩ : Nd))) WF) := HR
      clear hB9 HR
      simp only [set7] at hWF
      simp only at k0 k1 k2 k3 k4 k5 k6 l0 l1 l2 l3 l4 l5 l6 p0 p1 p2 p3 p4 p5 p6
      go_wp2_with fail
      rw [← hWF]
      exact bodyPost_ret (by simp [results, Tryz.results118, go_sem, p0, p1, p2, p3, p4, p5, p6]) rfl HRH.out
    · have c6_2 := H6w.out.e.cell (j := 2) rfl
      have z6_2 := H6w.out.e.frozen 2
      obtain ⟨W7, hW7⟩ : ∃ W7 : World, W7 = w6.setCell ⟨eb, 2, none⟩ (.bool false) := ⟨_, rfl⟩
      have H7 : Hid (NInv base cb bv n w eb w.heap.size (⟨9, s1, false, ⟨#[]⟩, 0, 0, 0⟩ : Nd) W7) := by rw [hW7]; exact H6w.out.set 2 _ _ rfl ⟨H6w.out.sm.s, H6w.out.sm.t, H6w.out.sm.lo, H6w.out.sm.up, H6w.out.sm.n, H6w.out.sm.kind⟩
      go_upto_region 30 with fail
      rw [← hW7]
      clear hW7
      have cH := H7.out.e.cell (j := 2) rfl
      go_upto_region 49 with fail
      clear cH
      obtain ⟨k0, k1, k2, k3, k4, k5, k6⟩ := And.intro (H7.out.e.cell (j := 0) rfl) (And.intro (H7.out.e.cell (j := 1) rfl) (And.intro (H7.out.e.cell (j := 2) rfl) (And.intro (H7.out.e.cell (j := 3) rfl) (And.intro (H7.out.e.cell (j := 4) rfl) (And.intro (H7.out.e.cell (j := 5) rfl) (H7.out.e.cell (j := 6) rfl))))))
      obtain ⟨l0, l1, l2, l3, l4, l5, l6⟩ := And.intro (H7.out.r.cell (j := 0) rfl) (And.intro (H7.out.r.cell (j := 1) rfl) (And.intro (H7.out.r.cell (j := 2) rfl) (And.intro (H7.out.r.cell (j := 3) rfl) (And.intro (H7.out.r.cell (j := 4) rfl) (And.intro (H7.out.r.cell (j := 5) rfl) (H7.out.r.cell (j := 6) rfl))))))
      have lf := H7.out.r.frozen
      obtain ⟨WF, hWF⟩ : ∃ WF : World, WF = set7 W7 w.heap.size (⟨9, s1, false, ⟨#[]⟩, 0, 0, 0⟩ : Nd) := ⟨_, rfl⟩
      have hfin := H7.out.fin
      rw [← hWF] at hfin
      obtain ⟨hB9, HR⟩ := hfin
      obtain ⟨p0, p1, p2, p3, p4, p5, p6⟩ := And.intro (hB9.cell (j := 0) rfl) (And.intro (hB9.cell (j := 1) rfl) (And.intro (hB9.cell (j := 2) rfl) (And.intro (hB9.cell (j := 3) rfl) (And.intro (hB9.cell (j := 4) rfl) (And.intro (hB9.cell (j := 5) rfl) (hB9.cell (j := 6) rfl))))))
      have HRH : Hid (LefP base cb bv n w (.returned (Nd.v (⟨9, s1, false, ⟨#[]⟩, 0, 0, 0⟩ : Nd))) WF) := HR
      clear hB9 HR
      simp only [set7] at hWF
      simp only at k0 k1 k2 k3 k4 k5 k6 l0 l1 l2 l3 l4 l5 l6 p0 p1 p2 p3 p4 p5 p6
      go_wp2_with fail
      rw [← hWF]
      exact bodyPost_ret (by simp [results, Tryz.results118, go_sem, p0, p1, p2, p3, p4, p5, p6]) rfl HRH.out
  by_cases x9 : x = 9
  · subst x9
    have c2_0 := H2.out.e.cell (j := 0) rfl
    have z2_0 := H2.out.e.frozen 0
    obtain ⟨W3, hW3⟩ : ∃ W3 : World, W3 = W2.setCell ⟨eb, 0, none⟩ (.int .i64 10) := ⟨_, rfl⟩
    have H3 : Hid (NInv base cb bv n w eb w.heap.size (⟨10, ⟨#[]⟩, false, ⟨#[]⟩, 0, 0, 0⟩ : Nd) W3) := by rw [hW3]; exact H2.out.set 0 _ _ rfl ⟨H2.out.sm.s, H2.out.sm.t, H2.out.sm.lo, H2.out.sm.up, H2.out.sm.n, (by show (0 : Int) ≤ 10 ∧ (10 : Int) ≤ 100000; omega)⟩
    go_upto_region 35 with fail
    rw [← hW3]
    clear hW3
    go_wp2_with fail
    refine (below_core base cb bv n 4 _ H3.out.d (by omega) (by omega)).mono ?_
    rintro e w4 ⟨y, rfl, hy0, hy1, hd⟩
    have H4w : Hid (NInv base cb bv n w eb w.heap.size (⟨10, ⟨#[]⟩, false, ⟨#[]⟩, 0, 0, 0⟩ : Nd) w4) := H3.out.call hd
    clear hd
    have c4_4 := H4w.out.e.cell (j := 4) rfl
    have z4_4 := H4w.out.e.frozen 4
    obtain ⟨W5, hW5⟩ : ∃ W5 : World, W5 = w4.setCell ⟨eb, 4, none⟩ (.int .u64 y) := ⟨_, rfl⟩
    have H5 : Hid (NInv base cb bv n w eb w.heap.size (⟨10, ⟨#[]⟩, false, ⟨#[]⟩, y, 0, 0⟩ : Nd) W5) := by rw [hW5]; exact H4w.out.set 4 _ _ rfl ⟨H4w.out.sm.s, H4w.out.sm.t, (by show 0 ≤ y ∧ y ≤ 100000; omega), H4w.out.sm.up, H4w.out.sm.n, H4w.out.sm.kind⟩
    go_upto_region 36 with fail
    rw [← hW5]
    clear hW5
    go_wp2_with fail
    refine (once_core base cb bv n 2 _ H5.out.d (by omega) (by omega)).mono ?_
    rintro e w6 ⟨v, rfl, hv, hd⟩
    have H6w : Hid (NInv base cb bv n w eb w.heap.size (⟨10, ⟨#[]⟩, false, ⟨#[]⟩, y, 0, 0⟩ : Nd) w6) := H5.out.call hd
    clear hd
    rcases hv with rfl | rfl
    · have c6_2 := H6w.out.e.cell (j := 2) rfl
      have z6_2 := H6w.out.e.frozen 2
      obtain ⟨W7, hW7⟩ : ∃ W7 : World, W7 = w6.setCell ⟨eb, 2, none⟩ (.bool true) := ⟨_, rfl⟩
      have H7 : Hid (NInv base cb bv n w eb w.heap.size (⟨10, ⟨#[]⟩, true, ⟨#[]⟩, y, 0, 0⟩ : Nd) W7) := by rw [hW7]; exact H6w.out.set 2 _ _ rfl ⟨H6w.out.sm.s, H6w.out.sm.t, H6w.out.sm.lo, H6w.out.sm.up, H6w.out.sm.n, H6w.out.sm.kind⟩
      go_upto_region 37 with fail
      rw [← hW7]
      clear hW7
      have cH := H7.out.e.cell (j := 2) rfl
      go_upto_region 38 with fail
      clear cH
      have HL : Hid (Calls Tryz.prog 43 #[.pointer (some ⟨cb, 0, none⟩), .int .i64 4] W7.drew fun e w' => ∃ x : Int, e = .returned (.int .i64 x) ∧ 0 ≤ x ∧ x < 4 ∧ Drew base cb bv n W7.drew w') := below_core base cb bv n 4 _ H7.out.drew.d (by omega) (by omega)
      have hS0 : (fun wz : World => wz.cell? ⟨eb, 4, none⟩ = some (.int .u64 y)) W7.drew := H7.out.drew.e.cell (j := 4) rfl
      refine wp_region_T 8 (fun wz : World => wz.cell? ⟨eb, 4, none⟩ = some (.int .u64 y)) (by kernel_rfl) ?_
      refine anyT_take (i := 0) (v := ?vx9r0) rfl (by kernel_rfl) (by kernel_rfl) (by kernel_rfl) (by kernel_rfl) (by decide) (fun _ _ _ h => h) (Or.inl ⟨by rfl, ?yx9r0⟩) hS0 ?_
      case yx9r0 => (intro wz hSw; go_simp; (try with_reducible rfl))
      try simp only [Act.put, List.getElem_toArray, List.getElem_cons_zero, List.getElem_cons_succ, List.setIfInBounds_toArray, List.set_cons_zero, List.set_cons_succ]
      refine anyT_take (i := 1) (v := ?vx9r1) rfl (by kernel_rfl) (by kernel_rfl) (by kernel_rfl) (by kernel_rfl) (by decide) (fun _ _ _ h => h) (Or.inl ⟨by rfl, ?yx9r1⟩) hS0 ?_
      case yx9r1 => (intro wz hSw; go_simp; (try with_reducible rfl))
      try simp only [Act.put, List.getElem_toArray, List.getElem_cons_zero, List.getElem_cons_succ, List.setIfInBounds_toArray, List.set_cons_zero, List.set_cons_succ]
      refine anyT_take (i := 2) (v := ?vx9r2) rfl (by kernel_rfl) (by kernel_rfl) (by kernel_rfl) (by kernel_rfl) (by decide) (fun _ _ _ h => h) (Or.inl ⟨by rfl, ?yx9r2⟩) hS0 ?_
      case yx9r2 => (intro wz hSw; go_simp; (try with_reducible rfl))
      try simp only [Act.put, List.getElem_toArray, List.getElem_cons_zero, List.getElem_cons_succ, List.setIfInBounds_toArray, List.set_cons_zero, List.set_cons_succ]
      refine anyT_take (i := 3) (v := ?vx9r3) rfl (by kernel_rfl) (by kernel_rfl) (by kernel_rfl) (by kernel_rfl) (by decide) (fun _ _ _ h => h) (Or.inl ⟨by rfl, ?yx9r3⟩) hS0 ?_
      case yx9r3 => (intro wz hSw; go_simp; (try with_reducible rfl))
      try simp only [Act.put, List.getElem_toArray, List.getElem_cons_zero, List.getElem_cons_succ, List.setIfInBounds_toArray, List.set_cons_zero, List.set_cons_succ]
      refine anyT_one (i := 4) (by kernel_rfl) rfl (fun K hK => ?_)
      go_simp
      refine HL.out.mono ?_
      rintro e w8 ⟨u, rfl, hu0, hu1, hd⟩
      have H8w : Hid (NInv base cb bv n w eb w.heap.size (⟨10, ⟨#[]⟩, true, ⟨#[]⟩, y, 0, 0⟩ : Nd) w8) := H7.out.drew.call hd
      clear hd HL hS0
      have hS0 : (fun wz : World => wz.cell? ⟨eb, 4, none⟩ = some (.int .u64 y)) w8 := H8w.out.e.cell (j := 4) rfl
      refine hK.out _ _ (.inr hS0) ?_
      clear hK
      try simp only [Act.put, List.getElem_toArray, List.getElem_cons_zero, List.getElem_cons_succ, List.setIfInBounds_toArray, List.set_cons_zero, List.set_cons_succ]
      refine anyT_take (i := 5) (v := ?vx9r5) rfl (by kernel_rfl) (by kernel_rfl) (by kernel_rfl) (by kernel_rfl) (by decide) (fun _ _ _ h => h) (Or.inl ⟨by rfl, ?yx9r5⟩) hS0 ?_
      case yx9r5 => (intro wz hSw; go_simp; (try with_reducible rfl))
      try simp only [Act.put, List.getElem_toArray, List.getElem_cons_zero, List.getElem_cons_succ, List.setIfInBounds_toArray, List.set_cons_zero, List.set_cons_succ]
      refine anyT_take (i := 6) (v := ?vx9r6) rfl (by kernel_rfl) (by kernel_rfl) (by kernel_rfl) (by kernel_rfl) (by decide) (fun _ _ _ h => h) (Or.inl ⟨by rfl, ?yx9r6⟩) hS0 ?_
      case yx9r6 => (intro wz hSw; go_simp; (try with_reducible rfl))
      try simp only [Act.put, List.getElem_toArray, List.getElem_cons_zero, List.getElem_cons_succ, List.setIfInBounds_toArray, List.set_cons_zero, List.set_cons_succ]
      refine anyT_take (i := 7) (v := ?vx9r7) rfl (by kernel_rfl) (by kernel_rfl) (by kernel_rfl) (by kernel_rfl) (by decide) (fun _ _ _ h => h) (Or.inl ⟨by rfl, ?yx9r7⟩) hS0 ?_
      case yx9r7 => (intro wz hSw; go_simp; (try with_reducible rfl))
      try simp only [Act.put, List.getElem_toArray, List.getElem_cons_zero, List.getElem_cons_succ, List.setIfInBounds_toArray, List.set_cons_zero, List.set_cons_succ]
      have c8_5 := H8w.out.e.cell (j := 5) rfl
      have z8_5 := H8w.out.e.frozen 5
      obtain ⟨W9, hW9⟩ : ∃ W9 : World, W9 = w8.setCell ⟨eb, 5, none⟩ (.int .u64 (y + 1 + u)) := ⟨_, rfl⟩
      have H9 : Hid (NInv base cb bv n w eb w.heap.size (⟨10, ⟨#[]⟩, true, ⟨#[]⟩, y, (y + 1 + u), 0⟩ : Nd) W9) := by rw [hW9]; exact H8w.out.set 5 _ _ rfl ⟨H8w.out.sm.s, H8w.out.sm.t, H8w.out.sm.lo, (by show 0 ≤ y + 1 + u ∧ y + 1 + u ≤ 100000; omega), H8w.out.sm.n, H8w.out.sm.kind⟩
      refine anyT_one (i := 8) (by kernel_rfl) rfl (fun K hK => ?_)
      go_simp
      refine hK.out _ _ (.inl rfl) ?_
      clear hK
      try simp only [Act.put, List.getElem_toArray, List.getElem_cons_zero, List.getElem_cons_succ, List.setIfInBounds_toArray, List.set_cons_zero, List.set_cons_succ]
      refine anyT_done (by kernel_rfl) ?_
      have hwr : IntKind.u64.wrap (IntKind.u64.wrap (y + 1) + IntKind.u64.wrap u) = y + 1 + u := by rw [wrapU (y + 1) (by omega), wrapU u (by omega), wrapU _ (by omega)]
      rw [hwr, ← hW9]
      clear hW9 hS0
      go_upto_region 49 with fail
      obtain ⟨k0, k1, k2, k3, k4, k5, k6⟩ := And.intro (H9.out.e.cell (j := 0) rfl) (And.intro (H9.out.e.cell (j := 1) rfl) (And.intro (H9.out.e.cell (j := 2) rfl) (And.intro (H9.out.e.cell (j := 3) rfl) (And.intro (H9.out.e.cell (j := 4) rfl) (And.intro (H9.out.e.cell (j := 5) rfl) (H9.out.e.cell (j := 6) rfl))))))
      obtain ⟨l0, l1, l2, l3, l4, l5, l6⟩ := And.intro (H9.out.r.cell (j := 0) rfl) (And.intro (H9.out.r.cell (j := 1) rfl) (And.intro (H9.out.r.cell (j := 2) rfl) (And.intro (H9.out.r.cell (j := 3) rfl) (And.intro (H9.out.r.cell (j := 4) rfl) (And.intro (H9.out.r.cell (j := 5) rfl) (H9.out.r.cell (j := 6) rfl))))))
      have lf := H9.out.r.frozen
      obtain ⟨WF, hWF⟩ : ∃ WF : World, WF = set7 W9 w.heap.size (⟨10, ⟨#[]⟩, true, ⟨#[]⟩, y, (y + 1 + u), 0⟩ : Nd) := ⟨_, rfl⟩
      have hfin := H9.out.fin
      rw [← hWF] at hfin
      obtain ⟨hB9, HR⟩ := hfin
      obtain ⟨p0, p1, p2, p3, p4, p5, p6⟩ := And.intro (hB9.cell (j := 0) rfl) (And.intro (hB9.cell (j := 1) rfl) (And.intro (hB9.cell (j := 2) rfl) (And.intro (hB9.cell (j := 3) rfl) (And.intro (hB9.cell (j := 4) rfl) (And.intro (hB9.cell (j := 5) rfl) (hB9.cell (j := 6) rfl))))))
      have HRH : Hid (LefP base cb bv n w (.returned (Nd.v (⟨10, ⟨#[]⟩, true, ⟨#[]⟩, y, (y + 1 + u), 0⟩ : Nd))) WF) := HR
      clear hB9 HR
      simp only [set7] at hWF
      simp only at k0 k1 k2 k3 k4 k5 k6 l0 l1 l2 l3 l4 l5 l6 p0 p1 p2 p3 p4 p5 p6
      go_wp2_with fail
      rw [← hWF]
      exact bodyPost_ret (by simp [results, Tryz.results118, go_sem, p0, p1, p2, p3, p4, p5, p6]) rfl HRH.out
    · have c6_2 := H6w.out.e.cell (j := 2) rfl
      have z6_2 := H6w.out.e.frozen 2
      obtain ⟨W7, hW7⟩ : ∃ W7 : World, W7 = w6.setCell ⟨eb, 2, none⟩ (.bool false) := ⟨_, rfl⟩
      have H7 : Hid (NInv base cb bv n w eb w.heap.size (⟨10, ⟨#[]⟩, false, ⟨#[]⟩, y, 0, 0⟩ : Nd) W7) := by rw [hW7]; exact H6w.out.set 2 _ _ rfl ⟨H6w.out.sm.s, H6w.out.sm.t, H6w.out.sm.lo, H6w.out.sm.up, H6w.out.sm.n, H6w.out.sm.kind⟩
      go_upto_region 37 with fail
      rw [← hW7]
      clear hW7
      have cH := H7.out.e.cell (j := 2) rfl
      go_upto_region 49 with fail
      clear cH
      obtain ⟨k0, k1, k2, k3, k4, k5, k6⟩ := And.intro (H7.out.e.cell (j := 0) rfl) (And.intro (H7.out.e.cell (j := 1) rfl) (And.intro (H7.out.e.cell (j := 2) rfl) (And.intro (H7.out.e.cell (j := 3) rfl) (And.intro (H7.out.e.cell (j := 4) rfl) (And.intro (H7.out.e.cell (j := 5) rfl) (H7.out.e.cell (j := 6) rfl))))))
      obtain ⟨l0, l1, l2, l3, l4, l5, l6⟩ := And.intro (H7.out.r.cell (j := 0) rfl) (And.intro (H7.out.r.cell (j := 1) rfl) (And.intro (H7.out.r.cell (j := 2) rfl) (And.intro (H7.out.r.cell (j := 3) rfl) (And.intro (H7.out.r.cell (j := 4) rfl) (And.intro (H7.out.r.cell (j := 5) rfl) (H7.out.r.cell (j := 6) rfl))))))
      have lf := H7.out.r.frozen
      obtain ⟨WF, hWF⟩ : ∃ WF : World, WF = set7 W7 w.heap.size (⟨10, ⟨#[]⟩, false, ⟨#[]⟩, y, 0, 0⟩ : Nd) := ⟨_, rfl⟩
      have hfin := H7.out.fin
      rw [← hWF] at hfin
      obtain ⟨hB9, HR⟩ := hfin
      obtain ⟨p0, p1, p2, p3, p4, p5, p6⟩ := And.intro (hB9.cell (j := 0) rfl) (And.intro (hB9.cell (j := 1) rfl) (And.intro (hB9.cell (j := 2) rfl) (And.intro (hB9.cell (j := 3) rfl) (And.intro (hB9.cell (j := 4) rfl) (And.intro (hB9.cell (j := 5) rfl) (hB9.cell (j := 6) rfl))))))
      have HRH : Hid (LefP base cb bv n w (.returned (Nd.v (⟨10, ⟨#[]⟩, false, ⟨#[]⟩, y, 0, 0⟩ : Nd))) WF) := HR
      clear hB9 HR
      simp only [set7] at hWF
      simp only at k0 k1 k2 k3 k4 k5 k6 l0 l1 l2 l3 l4 l5 l6 p0 p1 p2 p3 p4 p5 p6
      go_wp2_with fail
      rw [← hWF]
      exact bodyPost_ret (by simp [results, Tryz.results118, go_sem, p0, p1, p2, p3, p4, p5, p6]) rfl HRH.out
  by_cases x10 : x = 10
  · subst x10
    have c2_0 := H2.out.e.cell (j := 0) rfl
    have z2_0 := H2.out.e.frozen 0
    obtain ⟨W3, hW3⟩ : ∃ W3 : World, W3 = W2.setCell ⟨eb, 0, none⟩ (.int .i64 10) := ⟨_, rfl⟩
    have H3 : Hid (NInv base cb bv n w eb w.heap.size (⟨10, ⟨#[]⟩, false, ⟨#[]⟩, 0, 0, 0⟩ : Nd) W3) := by rw [hW3]; exact H2.out.set 0 _ _ rfl ⟨H2.out.sm.s, H2.out.sm.t, H2.out.sm.lo, H2.out.sm.up, H2.out.sm.n, (by show (0 : Int) ≤ 10 ∧ (10 : Int) ≤ 100000; omega)⟩
    go_upto_region 35 with fail
    rw [← hW3]
    clear hW3
    go_wp2_with fail
    refine (below_core base cb bv n 4 _ H3.out.d (by omega) (by omega)).mono ?_
    rintro e w4 ⟨y, rfl, hy0, hy1, hd⟩
    have H4w : Hid (NInv base cb bv n w eb w.heap.size (⟨10, ⟨#[]⟩, false, ⟨#[]⟩, 0, 0, 0⟩ : Nd) w4) := H3.out.call hd
    clear hd
    have c4_4 := H4w.out.e.cell (j := 4) rfl
    have z4_4 := H4w.out.e.frozen 4
    obtain ⟨W5, hW5⟩ : ∃ W5 : World, W5 = w4.setCell ⟨eb, 4, none⟩ (.int .u64 y) := ⟨_, rfl⟩
    have H5 : Hid (NInv base cb bv n w eb w.heap.size (⟨10, ⟨#[]⟩, false, ⟨#[]⟩, y, 0, 0⟩ : Nd) W5) := by rw [hW5]; exact H4w.out.set 4 _ _ rfl ⟨H4w.out.sm.s, H4w.out.sm.t, (by show 0 ≤ y ∧ y ≤ 100000; omega), H4w.out.sm.up, H4w.out.sm.n, H4w.out.sm.kind⟩
    go_upto_region 36 with fail
    rw [← hW5]
    clear hW5
    go_wp2_with fail
    refine (once_core base cb bv n 2 _ H5.out.d (by omega) (by omega)).mono ?_
    rintro e w6 ⟨v, rfl, hv, hd⟩
    have H6w : Hid (NInv base cb bv n w eb w.heap.size (⟨10, ⟨#[]⟩, false, ⟨#[]⟩, y, 0, 0⟩ : Nd) w6) := H5.out.call hd
    clear hd
    rcases hv with rfl | rfl
    · have c6_2 := H6w.out.e.cell (j := 2) rfl
      have z6_2 := H6w.out.e.frozen 2
      obtain ⟨W7, hW7⟩ : ∃ W7 : World, W7 = w6.setCell ⟨eb, 2, none⟩ (.bool true) := ⟨_, rfl⟩
      have H7 : Hid (NInv base cb bv n w eb w.heap.size (⟨10, ⟨#[]⟩, true, ⟨#[]⟩, y, 0, 0⟩ : Nd) W7) := by rw [hW7]; exact H6w.out.set 2 _ _ rfl ⟨H6w.out.sm.s, H6w.out.sm.t, H6w.out.sm.lo, H6w.out.sm.up, H6w.out.sm.n, H6w.out.sm.kind⟩
      go_upto_region 37 with fail
      rw [← hW7]
      clear hW7
      have cH := H7.out.e.cell (j := 2) rfl
      go_upto_region 38 with fail
      clear cH
      have HL : Hid (Calls Tryz.prog 43 #[.pointer (some ⟨cb, 0, none⟩), .int .i64 4] W7.drew fun e w' => ∃ x : Int, e = .returned (.int .i64 x) ∧ 0 ≤ x ∧ x < 4 ∧ Drew base cb bv n W7.drew w') := below_core base cb bv n 4 _ H7.out.drew.d (by omega) (by omega)
      have hS0 : (fun wz : World => wz.cell? ⟨eb, 4, none⟩ = some (.int .u64 y)) W7.drew := H7.out.drew.e.cell (j := 4) rfl
      refine wp_region_T 8 (fun wz : World => wz.cell? ⟨eb, 4, none⟩ = some (.int .u64 y)) (by kernel_rfl) ?_
      refine anyT_take (i := 0) (v := ?vx10r0) rfl (by kernel_rfl) (by kernel_rfl) (by kernel_rfl) (by kernel_rfl) (by decide) (fun _ _ _ h => h) (Or.inl ⟨by rfl, ?yx10r0⟩) hS0 ?_
      case yx10r0 => (intro wz hSw; go_simp; (try with_reducible rfl))
      try simp only [Act.put, List.getElem_toArray, List.getElem_cons_zero, List.getElem_cons_succ, List.setIfInBounds_toArray, List.set_cons_zero, List.set_cons_succ]
      refine anyT_take (i := 1) (v := ?vx10r1) rfl (by kernel_rfl) (by kernel_rfl) (by kernel_rfl) (by kernel_rfl) (by decide) (fun _ _ _ h => h) (Or.inl ⟨by rfl, ?yx10r1⟩) hS0 ?_
      case yx10r1 => (intro wz hSw; go_simp; (try with_reducible rfl))
      try simp only [Act.put, List.getElem_toArray, List.getElem_cons_zero, List.getElem_cons_succ, List.setIfInBounds_toArray, List.set_cons_zero, List.set_cons_succ]
      refine anyT_take (i := 2) (v := ?vx10r2) rfl (by kernel_rfl) (by kernel_rfl) (by kernel_rfl) (by kernel_rfl) (by decide) (fun _ _ _ h => h) (Or.inl ⟨by rfl, ?yx10r2⟩) hS0 ?_
      case yx10r2 => (intro wz hSw; go_simp; (try with_reducible rfl))
      try simp only [Act.put, List.getElem_toArray, List.getElem_cons_zero, List.getElem_cons_succ, List.setIfInBounds_toArray, List.set_cons_zero, List.set_cons_succ]
      refine anyT_take (i := 3) (v := ?vx10r3) rfl (by kernel_rfl) (by kernel_rfl) (by kernel_rfl) (by kernel_rfl) (by decide) (fun _ _ _ h => h) (Or.inl ⟨by rfl, ?yx10r3⟩) hS0 ?_
      case yx10r3 => (intro wz hSw; go_simp; (try with_reducible rfl))
      try simp only [Act.put, List.getElem_toArray, List.getElem_cons_zero, List.getElem_cons_succ, List.setIfInBounds_toArray, List.set_cons_zero, List.set_cons_succ]
      refine anyT_one (i := 4) (by kernel_rfl) rfl (fun K hK => ?_)
      go_simp
      refine HL.out.mono ?_
      rintro e w8 ⟨u, rfl, hu0, hu1, hd⟩
      have H8w : Hid (NInv base cb bv n w eb w.heap.size (⟨10, ⟨#[]⟩, true, ⟨#[]⟩, y, 0, 0⟩ : Nd) w8) := H7.out.drew.call hd
      clear hd HL hS0
      have hS0 : (fun wz : World => wz.cell? ⟨eb, 4, none⟩ = some (.int .u64 y)) w8 := H8w.out.e.cell (j := 4) rfl
      refine hK.out _ _ (.inr hS0) ?_
      clear hK
      try simp only [Act.put, List.getElem_toArray, List.getElem_cons_zero, List.getElem_cons_succ, List.setIfInBounds_toArray, List.set_cons_zero, List.set_cons_succ]
      refine anyT_take (i := 5) (v := ?vx10r5) rfl (by kernel_rfl) (by kernel_rfl) (by kernel_rfl) (by kernel_rfl) (by decide) (fun _ _ _ h => h) (Or.inl ⟨by rfl, ?yx10r5⟩) hS0 ?_
      case yx10r5 => (intro wz hSw; go_simp; (try with_reducible rfl))
      try simp only [Act.put, List.getElem_toArray, List.getElem_cons_zero, List.getElem_cons_succ, List.setIfInBounds_toArray, List.set_cons_zero, List.set_cons_succ]
      refine anyT_take (i := 6) (v := ?vx10r6) rfl (by kernel_rfl) (by kernel_rfl) (by kernel_rfl) (by kernel_rfl) (by decide) (fun _ _ _ h => h) (Or.inl ⟨by rfl, ?yx10r6⟩) hS0 ?_
      case yx10r6 => (intro wz hSw; go_simp; (try with_reducible rfl))
      try simp only [Act.put, List.getElem_toArray, List.getElem_cons_zero, List.getElem_cons_succ, List.setIfInBounds_toArray, List.set_cons_zero, List.set_cons_succ]
      refine anyT_take (i := 7) (v := ?vx10r7) rfl (by kernel_rfl) (by kernel_rfl) (by kernel_rfl) (by kernel_rfl) (by decide) (fun _ _ _ h => h) (Or.inl ⟨by rfl, ?yx10r7⟩) hS0 ?_
      case yx10r7 => (intro wz hSw; go_simp; (try with_reducible rfl))
      try simp only [Act.put, List.getElem_toArray, List.getElem_cons_zero, List.getElem_cons_succ, List.setIfInBounds_toArray, List.set_cons_zero, List.set_cons_succ]
      have c8_5 := H8w.out.e.cell (j := 5) rfl
      have z8_5 := H8w.out.e.frozen 5
      obtain ⟨W9, hW9⟩ : ∃ W9 : World, W9 = w8.setCell ⟨eb, 5, none⟩ (.int .u64 (y + 1 + u)) := ⟨_, rfl⟩
      have H9 : Hid (NInv base cb bv n w eb w.heap.size (⟨10, ⟨#[]⟩, true, ⟨#[]⟩, y, (y + 1 + u), 0⟩ : Nd) W9) := by rw [hW9]; exact H8w.out.set 5 _ _ rfl ⟨H8w.out.sm.s, H8w.out.sm.t, H8w.out.sm.lo, (by show 0 ≤ y + 1 + u ∧ y + 1 + u ≤ 100000; omega), H8w.out.sm.n, H8w.out.sm.kind⟩
      refine anyT_one (i := 8) (by kernel_rfl) rfl (fun K hK => ?_)
      go_simp
      refine hK.out _ _ (.inl rfl) ?_
      clear hK
      try simp only [Act.put, List.getElem_toArray, List.getElem_cons_zero, List.getElem_cons_succ, List.setIfInBounds_toArray, List.set_cons_zero, List.set_cons_succ]
      refine anyT_done (by kernel_rfl) ?_
      have hwr : IntKind.u64.wrap (IntKind.u64.wrap (y + 1) + IntKind.u64.wrap u) = y + 1 + u := by rw [wrapU (y + 1) (by omega), wrapU u (by omega), wrapU _ (by omega)]
      rw [hwr, ← hW9]
      clear hW9 hS0
      go_upto_region 49 with fail
      obtain ⟨k0, k1, k2, k3, k4, k5, k6⟩ := And.intro (H9.out.e.cell (j := 0) rfl) (And.intro (H9.out.e.cell (j := 1) rfl) (And.intro (H9.out.e.cell (j := 2) rfl) (And.intro (H9.out.e.cell (j := 3) rfl) (And.intro (H9.out.e.cell (j := 4) rfl) (And.intro (H9.out.e.cell (j := 5) rfl) (H9.out.e.cell (j := 6) rfl))))))
      obtain ⟨l0, l1, l2, l3, l4, l5, l6⟩ := And.intro (H9.out.r.cell (j := 0) rfl) (And.intro (H9.out.r.cell (j := 1) rfl) (And.intro (H9.out.r.cell (j := 2) rfl) (And.intro (H9.out.r.cell (j := 3) rfl) (And.intro (H9.out.r.cell (j := 4) rfl) (And.intro (H9.out.r.cell (j := 5) rfl) (H9.out.r.cell (j := 6) rfl))))))
      have lf := H9.out.r.frozen
      obtain ⟨WF, hWF⟩ : ∃ WF : World, WF = set7 W9 w.heap.size (⟨10, ⟨#[]⟩, true, ⟨#[]⟩, y, (y + 1 + u), 0⟩ : Nd) := ⟨_, rfl⟩
      have hfin := H9.out.fin
      rw [← hWF] at hfin
      obtain ⟨hB9, HR⟩ := hfin
      obtain ⟨p0, p1, p2, p3, p4, p5, p6⟩ := And.intro (hB9.cell (j := 0) rfl) (And.intro (hB9.cell (j := 1) rfl) (And.intro (hB9.cell (j := 2) rfl) (And.intro (hB9.cell (j := 3) rfl) (And.intro (hB9.cell (j := 4) rfl) (And.intro (hB9.cell (j := 5) rfl) (hB9.cell (j := 6) rfl))))))
      have HRH : Hid (LefP base cb bv n w (.returned (Nd.v (⟨10, ⟨#[]⟩, true, ⟨#[]⟩, y, (y + 1 + u), 0⟩ : Nd))) WF) := HR
      clear hB9 HR
      simp only [set7] at hWF
      simp only at k0 k1 k2 k3 k4 k5 k6 l0 l1 l2 l3 l4 l5 l6 p0 p1 p2 p3 p4 p5 p6
      go_wp2_with fail
      rw [← hWF]
      exact bodyPost_ret (by simp [results, Tryz.results118, go_sem, p0, p1, p2, p3, p4, p5, p6]) rfl HRH.out
    · have c6_2 := H6w.out.e.cell (j := 2) rfl
      have z6_2 := H6w.out.e.frozen 2
      obtain ⟨W7, hW7⟩ : ∃ W7 : World, W7 = w6.setCell ⟨eb, 2, none⟩ (.bool false) := ⟨_, rfl⟩
      have H7 : Hid (NInv base cb bv n w eb w.heap.size (⟨10, ⟨#[]⟩, false, ⟨#[]⟩, y, 0, 0⟩ : Nd) W7) := by rw [hW7]; exact H6w.out.set 2 _ _ rfl ⟨H6w.out.sm.s, H6w.out.sm.t, H6w.out.sm.lo, H6w.out.sm.up, H6w.out.sm.n, H6w.out.sm.kind⟩
      go_upto_region 37 with fail
      rw [← hW7]
      clear hW7
      have cH := H7.out.e.cell (j := 2) rfl
      go_upto_region 49 with fail
      clear cH
      obtain ⟨k0, k1, k2, k3, k4, k5, k6⟩ := And.intro (H7.out.e.cell (j := 0) rfl) (And.intro (H7.out.e.cell (j := 1) rfl) (And.intro (H7.out.e.cell (j := 2) rfl) (And.intro (H7.out.e.cell (j := 3) rfl) (And.intro (H7.out.e.cell (j := 4) rfl) (And.intro (H7.out.e.cell (j := 5) rfl) (H7.out.e.cell (j := 6) rfl))))))
      obtain ⟨l0, l1, l2, l3, l4, l5, l6⟩ := And.intro (H7.out.r.cell (j := 0) rfl) (And.intro (H7.out.r.cell (j := 1) rfl) (And.intro (H7.out.r.cell (j := 2) rfl) (And.intro (H7.out.r.cell (j := 3) rfl) (And.intro (H7.out.r.cell (j := 4) rfl) (And.intro (H7.out.r.cell (j := 5) rfl) (H7.out.r.cell (j := 6) rfl))))))
      have lf := H7.out.r.frozen
      obtain ⟨WF, hWF⟩ : ∃ WF : World, WF = set7 W7 w.heap.size (⟨10, ⟨#[]⟩, false, ⟨#[]⟩, y, 0, 0⟩ : Nd) := ⟨_, rfl⟩
      have hfin := H7.out.fin
      rw [← hWF] at hfin
      obtain ⟨hB9, HR⟩ := hfin
      obtain ⟨p0, p1, p2, p3, p4, p5, p6⟩ := And.intro (hB9.cell (j := 0) rfl) (And.intro (hB9.cell (j := 1) rfl) (And.intro (hB9.cell (j := 2) rfl) (And.intro (hB9.cell (j := 3) rfl) (And.intro (hB9.cell (j := 4) rfl) (And.intro (hB9.cell (j := 5) rfl) (hB9.cell (j := 6) rfl))))))
      have HRH : Hid (LefP base cb bv n w (.returned (Nd.v (⟨10, ⟨#[]⟩, false, ⟨#[]⟩, y, 0, 0⟩ : Nd))) WF) := HR
      clear hB9 HR
      simp only [set7] at hWF
      simp only at k0 k1 k2 k3 k4 k5 k6 l0 l1 l2 l3 l4 l5 l6 p0 p1 p2 p3 p4 p5 p6
      go_wp2_with fail
      rw [← hWF]
      exact bodyPost_ret (by simp [results, Tryz.results118, go_sem, p0, p1, p2, p3, p4, p5, p6]) rfl HRH.out
  by_cases x11 : x = 11
  · subst x11
    have c2_0 := H2.out.e.cell (j := 0) rfl
    have z2_0 := H2.out.e.frozen 0
    obtain ⟨W3, hW3⟩ : ∃ W3 : World, W3 = W2.setCell ⟨eb, 0, none⟩ (.int .i64 11) := ⟨_, rfl⟩
    have H3 : Hid (NInv base cb bv n w eb w.heap.size (⟨11, ⟨#[]⟩, false, ⟨#[]⟩, 0, 0, 0⟩ : Nd) W3) := by rw [hW3]; exact H2.out.set 0 _ _ rfl ⟨H2.out.sm.s, H2.out.sm.t, H2.out.sm.lo, H2.out.sm.up, H2.out.sm.n, (by show (0 : Int) ≤ 11 ∧ (11 : Int) ≤ 100000; omega)⟩
    go_upto_region 42 with fail
    rw [← hW3]
    clear hW3
    go_wp2_with fail
    refine (below_core base cb bv n 2 _ H3.out.d (by omega) (by omega)).mono ?_
    rintro e w4 ⟨y, rfl, hy0, hy1, hd⟩
    have H4w : Hid (NInv base cb bv n w eb w.heap.size (⟨11, ⟨#[]⟩, false, ⟨#[]⟩, 0, 0, 0⟩ : Nd) w4) := H3.out.call hd
    clear hd
    have c4_6 := H4w.out.e.cell (j := 6) rfl
    have z4_6 := H4w.out.e.frozen 6
    obtain ⟨W5, hW5⟩ : ∃ W5 : World, W5 = w4.setCell ⟨eb, 6, none⟩ (.int .i64 (1 + y)) := ⟨_, rfl⟩
    have H5 : Hid (NInv base cb bv n w eb w.heap.size (⟨11, ⟨#[]⟩, false, ⟨#[]⟩, 0, 0, (1 + y)⟩ : Nd) W5) := by rw [hW5]; exact H4w.out.set 6 _ _ rfl ⟨H4w.out.sm.s, H4w.out.sm.t, H4w.out.sm.lo, H4w.out.sm.up, (by show 0 ≤ 1 + y ∧ 1 + y ≤ 100000; omega), H4w.out.sm.kind⟩
    go_upto_region 49 with fail
    rw [← hW5]
    clear hW5
    obtain ⟨k0, k1, k2, k3, k4, k5, k6⟩ := And.intro (H5.out.e.cell (j := 0) rfl) (And.intro (H5.out.e.cell (j := 1) rfl) (And.intro (H5.out.e.cell (j := 2) rfl) (And.intro (H5.out.e.cell (j := 3) rfl) (And.intro (H5.out.e.cell (j := 4) rfl) (And.intro (H5.out.e.cell (j := 5) rfl) (H5.out.e.cell (j := 6) rfl))))))
    obtain ⟨l0, l1, l2, l3, l4, l5, l6⟩ := And.intro (H5.out.r.cell (j := 0) rfl) (And.intro (H5.out.r.cell (j := 1) rfl) (And.intro (H5.out.r.cell (j := 2) rfl) (And.intro (H5.out.r.cell (j := 3) rfl) (And.intro (H5.out.r.cell (j := 4) rfl) (And.intro (H5.out.r.cell (j := 5) rfl) (H5.out.r.cell (j := 6) rfl))))))
    have lf := H5.out.r.frozen
    obtain ⟨WF, hWF⟩ : ∃ WF : World, WF = set7 W5 w.heap.size (⟨11, ⟨#[]⟩, false, ⟨#[]⟩, 0, 0, (1 + y)⟩ : Nd) := ⟨_, rfl⟩
    have hfin := H5.out.fin
    rw [← hWF] at hfin
    obtain ⟨hB9, HR⟩ := hfin
    obtain ⟨p0, p1, p2, p3, p4, p5, p6⟩ := And.intro (hB9.cell (j := 0) rfl) (And.intro (hB9.cell (j := 1) rfl) (And.intro (hB9.cell (j := 2) rfl) (And.intro (hB9.cell (j := 3) rfl) (And.intro (hB9.cell (j := 4) rfl) (And.intro (hB9.cell (j := 5) rfl) (hB9.cell (j := 6) rfl))))))
    have HRH : Hid (LefP base cb bv n w (.returned (Nd.v (⟨11, ⟨#[]⟩, false, ⟨#[]⟩, 0, 0, (1 + y)⟩ : Nd))) WF) := HR
    clear hB9 HR
    simp only [set7] at hWF
    simp only at k0 k1 k2 k3 k4 k5 k6 l0 l1 l2 l3 l4 l5 l6 p0 p1 p2 p3 p4 p5 p6
    go_wp2_with fail
    rw [← hWF]
    exact bodyPost_ret (by simp [results, Tryz.results118, go_sem, p0, p1, p2, p3, p4, p5, p6]) rfl HRH.out
  by_cases x12 : x = 12
  · subst x12
    have c2_0 := H2.out.e.cell (j := 0) rfl
    have z2_0 := H2.out.e.frozen 0
    obtain ⟨W3, hW3⟩ : ∃ W3 : World, W3 = W2.setCell ⟨eb, 0, none⟩ (.int .i64 11) := ⟨_, rfl⟩
    have H3 : Hid (NInv base cb bv n w eb w.heap.size (⟨11, ⟨#[]⟩, false, ⟨#[]⟩, 0, 0, 0⟩ : Nd) W3) := by rw [hW3]; exact H2.out.set 0 _ _ rfl ⟨H2.out.sm.s, H2.out.sm.t, H2.out.sm.lo, H2.out.sm.up, H2.out.sm.n, (by show (0 : Int) ≤ 11 ∧ (11 : Int) ≤ 100000; omega)⟩
    go_upto_region 42 with fail
    rw [← hW3]
    clear hW3
    go_wp2_with fail
    refine (below_core base cb bv n 2 _ H3.out.d (by omega) (by omega)).mono ?_
    rintro e w4 ⟨y, rfl, hy0, hy1, hd⟩
    have H4w : Hid (NInv base cb bv n w eb w.heap.size (⟨11, ⟨#[]⟩, false, ⟨#[]⟩, 0, 0, 0⟩ : Nd) w4) := H3.out.call hd
    clear hd
    have c4_6 := H4w.out.e.cell (j := 6) rfl
    have z4_6 := H4w.out.e.frozen 6
    obtain ⟨W5, hW5⟩ : ∃ W5 : World, W5 = w4.setCell ⟨eb, 6, none⟩ (.int .i64 (1 + y)) := ⟨_, rfl⟩
    have H5 : Hid (NInv base cb bv n w eb w.heap.size (⟨11, ⟨#[]⟩, false, ⟨#[]⟩, 0, 0, (1 + y)⟩ : Nd) W5) := by rw [hW5]; exact H4w.out.set 6 _ _ rfl ⟨H4w.out.sm.s, H4w.out.sm.t, H4w.out.sm.lo, H4w.out.sm.up, (by show 0 ≤ 1 + y ∧ 1 + y ≤ 100000; omega), H4w.out.sm.kind⟩
    go_upto_region 49 with fail
    rw [← hW5]
    clear hW5
    obtain ⟨k0, k1, k2, k3, k4, k5, k6⟩ := And.intro (H5.out.e.cell (j := 0) rfl) (And.intro (H5.out.e.cell (j := 1) rfl) (And.intro (H5.out.e.cell (j := 2) rfl) (And.intro (H5.out.e.cell (j := 3) rfl) (And.intro (H5.out.e.cell (j := 4) rfl) (And.intro (H5.out.e.cell (j := 5) rfl) (H5.out.e.cell (j := 6) rfl))))))
    obtain ⟨l0, l1, l2, l3, l4, l5, l6⟩ := And.intro (H5.out.r.cell (j := 0) rfl) (And.intro (H5.out.r.cell (j := 1) rfl) (And.intro (H5.out.r.cell (j := 2) rfl) (And.intro (H5.out.r.cell (j := 3) rfl) (And.intro (H5.out.r.cell (j := 4) rfl) (And.intro (H5.out.r.cell (j := 5) rfl) (H5.out.r.cell (j := 6) rfl))))))
    have lf := H5.out.r.frozen
    obtain ⟨WF, hWF⟩ : ∃ WF : World, WF = set7 W5 w.heap.size (⟨11, ⟨#[]⟩, false, ⟨#[]⟩, 0, 0, (1 + y)⟩ : Nd) := ⟨_, rfl⟩
    have hfin := H5.out.fin
    rw [← hWF] at hfin
    obtain ⟨hB9, HR⟩ := hfin
    obtain ⟨p0, p1, p2, p3, p4, p5, p6⟩ := And.intro (hB9.cell (j := 0) rfl) (And.intro (hB9.cell (j := 1) rfl) (And.intro (hB9.cell (j := 2) rfl) (And.intro (hB9.cell (j := 3) rfl) (And.intro (hB9.cell (j := 4) rfl) (And.intro (hB9.cell (j := 5) rfl) (hB9.cell (j := 6) rfl))))))
    have HRH : Hid (LefP base cb bv n w (.returned (Nd.v (⟨11, ⟨#[]⟩, false, ⟨#[]⟩, 0, 0, (1 + y)⟩ : Nd))) WF) := HR
    clear hB9 HR
    simp only [set7] at hWF
    simp only at k0 k1 k2 k3 k4 k5 k6 l0 l1 l2 l3 l4 l5 l6 p0 p1 p2 p3 p4 p5 p6
    go_wp2_with fail
    rw [← hWF]
    exact bodyPost_ret (by simp [results, Tryz.results118, go_sem, p0, p1, p2, p3, p4, p5, p6]) rfl HRH.out
  by_cases x13 : x = 13
  · subst x13
    have c2_0 := H2.out.e.cell (j := 0) rfl
    have z2_0 := H2.out.e.frozen 0
    obtain ⟨W3, hW3⟩ : ∃ W3 : World, W3 = W2.setCell ⟨eb, 0, none⟩ (.int .i64 12) := ⟨_, rfl⟩
    have H3 : Hid (NInv base cb bv n w eb w.heap.size (⟨12, ⟨#[]⟩, false, ⟨#[]⟩, 0, 0, 0⟩ : Nd) W3) := by rw [hW3]; exact H2.out.set 0 _ _ rfl ⟨H2.out.sm.s, H2.out.sm.t, H2.out.sm.lo, H2.out.sm.up, H2.out.sm.n, (by show (0 : Int) ≤ 12 ∧ (12 : Int) ≤ 100000; omega)⟩
    go_upto_region 45 with fail
    rw [← hW3]
    clear hW3
    go_wp2_with fail
    refine (below_core base cb bv n 4 _ H3.out.d (by omega) (by omega)).mono ?_
    rintro e w4 ⟨y, rfl, hy0, hy1, hd⟩
    have H4w : Hid (NInv base cb bv n w eb w.heap.size (⟨12, ⟨#[]⟩, false, ⟨#[]⟩, 0, 0, 0⟩ : Nd) w4) := H3.out.call hd
    clear hd
    have c4_6 := H4w.out.e.cell (j := 6) rfl
    have z4_6 := H4w.out.e.frozen 6
    obtain ⟨W5, hW5⟩ : ∃ W5 : World, W5 = w4.setCell ⟨eb, 6, none⟩ (.int .i64 (1 + y)) := ⟨_, rfl⟩
    have H5 : Hid (NInv base cb bv n w eb w.heap.size (⟨12, ⟨#[]⟩, false, ⟨#[]⟩, 0, 0, (1 + y)⟩ : Nd) W5) := by rw [hW5]; exact H4w.out.set 6 _ _ rfl ⟨H4w.out.sm.s, H4w.out.sm.t, H4w.out.sm.lo, H4w.out.sm.up, (by show 0 ≤ 1 + y ∧ 1 + y ≤ 100000; omega), H4w.out.sm.kind⟩
    go_upto_region 49 with fail
    rw [← hW5]
    clear hW5
    obtain ⟨k0, k1, k2, k3, k4, k5, k6⟩ := And.intro (H5.out.e.cell (j := 0) rfl) (And.intro (H5.out.e.cell (j := 1) rfl) (And.intro (H5.out.e.cell (j := 2) rfl) (And.intro (H5.out.e.cell (j := 3) rfl) (And.intro (H5.out.e.cell (j := 4) rfl) (And.intro (H5.out.e.cell (j := 5) rfl) (H5.out.e.cell (j := 6) rfl))))))
    obtain ⟨l0, l1, l2, l3, l4, l5, l6⟩ := And.intro (H5.out.r.cell (j := 0) rfl) (And.intro (H5.out.r.cell (j := 1) rfl) (And.intro (H5.out.r.cell (j := 2) rfl) (And.intro (H5.out.r.cell (j := 3) rfl) (And.intro (H5.out.r.cell (j := 4) rfl) (And.intro (H5.out.r.cell (j := 5) rfl) (H5.out.r.cell (j := 6) rfl))))))
    have lf := H5.out.r.frozen
    obtain ⟨WF, hWF⟩ : ∃ WF : World, WF = set7 W5 w.heap.size (⟨12, ⟨#[]⟩, false, ⟨#[]⟩, 0, 0, (1 + y)⟩ : Nd) := ⟨_, rfl⟩
    have hfin := H5.out.fin
    rw [← hWF] at hfin
    obtain ⟨hB9, HR⟩ := hfin
    obtain ⟨p0, p1, p2, p3, p4, p5, p6⟩ := And.intro (hB9.cell (j := 0) rfl) (And.intro (hB9.cell (j := 1) rfl) (And.intro (hB9.cell (j := 2) rfl) (And.intro (hB9.cell (j := 3) rfl) (And.intro (hB9.cell (j := 4) rfl) (And.intro (hB9.cell (j := 5) rfl) (hB9.cell (j := 6) rfl))))))
    have HRH : Hid (LefP base cb bv n w (.returned (Nd.v (⟨12, ⟨#[]⟩, false, ⟨#[]⟩, 0, 0, (1 + y)⟩ : Nd))) WF) := HR
    clear hB9 HR
    simp only [set7] at hWF
    simp only at k0 k1 k2 k3 k4 k5 k6 l0 l1 l2 l3 l4 l5 l6 p0 p1 p2 p3 p4 p5 p6
    go_wp2_with fail
    rw [← hWF]
    exact bodyPost_ret (by simp [results, Tryz.results118, go_sem, p0, p1, p2, p3, p4, p5, p6]) rfl HRH.out
  by_cases x14 : x = 14
  · subst x14
    have c2_0 := H2.out.e.cell (j := 0) rfl
    have z2_0 := H2.out.e.frozen 0
    obtain ⟨W3, hW3⟩ : ∃ W3 : World, W3 = W2.setCell ⟨eb, 0, none⟩ (.int .i64 13) := ⟨_, rfl⟩
    have H3 : Hid (NInv base cb bv n w eb w.heap.size (⟨13, ⟨#[]⟩, false, ⟨#[]⟩, 0, 0, 0⟩ : Nd) W3) := by rw [hW3]; exact H2.out.set 0 _ _ rfl ⟨H2.out.sm.s, H2.out.sm.t, H2.out.sm.lo, H2.out.sm.up, H2.out.sm.n, (by show (0 : Int) ≤ 13 ∧ (13 : Int) ≤ 100000; omega)⟩
    go_upto_region 48 with fail
    rw [← hW3]
    clear hW3
    go_wp2_with fail
    refine (below_core base cb bv n 3 _ H3.out.d (by omega) (by omega)).mono ?_
    rintro e w4 ⟨y, rfl, hy0, hy1, hd⟩
    have H4w : Hid (NInv base cb bv n w eb w.heap.size (⟨13, ⟨#[]⟩, false, ⟨#[]⟩, 0, 0, 0⟩ : Nd) w4) := H3.out.call hd
    clear hd
    have c4_6 := H4w.out.e.cell (j := 6) rfl
    have z4_6 := H4w.out.e.frozen 6
    obtain ⟨W5, hW5⟩ : ∃ W5 : World, W5 = w4.setCell ⟨eb, 6, none⟩ (.int .i64 (1 + y)) := ⟨_, rfl⟩
    have H5 : Hid (NInv base cb bv n w eb w.heap.size (⟨13, ⟨#[]⟩, false, ⟨#[]⟩, 0, 0, (1 + y)⟩ : Nd) W5) := by rw [hW5]; exact H4w.out.set 6 _ _ rfl ⟨H4w.out.sm.s, H4w.out.sm.t, H4w.out.sm.lo, H4w.out.sm.up, (by show 0 ≤ 1 + y ∧ 1 + y ≤ 100000; omega), H4w.out.sm.kind⟩
    go_upto_region 49 with fail
    rw [← hW5]
    clear hW5
    obtain ⟨k0, k1, k2, k3, k4, k5, k6⟩ := And.intro (H5.out.e.cell (j := 0) rfl) (And.intro (H5.out.e.cell (j := 1) rfl) (And.intro (H5.out.e.cell (j := 2) rfl) (And.intro (H5.out.e.cell (j := 3) rfl) (And.intro (H5.out.e.cell (j := 4) rfl) (And.intro (H5.out.e.cell (j := 5) rfl) (H5.out.e.cell (j := 6) rfl))))))
    obtain ⟨l0, l1, l2, l3, l4, l5, l6⟩ := And.intro (H5.out.r.cell (j := 0) rfl) (And.intro (H5.out.r.cell (j := 1) rfl) (And.intro (H5.out.r.cell (j := 2) rfl) (And.intro (H5.out.r.cell (j := 3) rfl) (And.intro (H5.out.r.cell (j := 4) rfl) (And.intro (H5.out.r.cell (j := 5) rfl) (H5.out.r.cell (j := 6) rfl))))))
    have lf := H5.out.r.frozen
    obtain ⟨WF, hWF⟩ : ∃ WF : World, WF = set7 W5 w.heap.size (⟨13, ⟨#[]⟩, false, ⟨#[]⟩, 0, 0, (1 + y)⟩ : Nd) := ⟨_, rfl⟩
    have hfin := H5.out.fin
    rw [← hWF] at hfin
    obtain ⟨hB9, HR⟩ := hfin
    obtain ⟨p0, p1, p2, p3, p4, p5, p6⟩ := And.intro (hB9.cell (j := 0) rfl) (And.intro (hB9.cell (j := 1) rfl) (And.intro (hB9.cell (j := 2) rfl) (And.intro (hB9.cell (j := 3) rfl) (And.intro (hB9.cell (j := 4) rfl) (And.intro (hB9.cell (j := 5) rfl) (hB9.cell (j := 6) rfl))))))
    have HRH : Hid (LefP base cb bv n w (.returned (Nd.v (⟨13, ⟨#[]⟩, false, ⟨#[]⟩, 0, 0, (1 + y)⟩ : Nd))) WF) := HR
    clear hB9 HR
    simp only [set7] at hWF
    simp only at k0 k1 k2 k3 k4 k5 k6 l0 l1 l2 l3 l4 l5 l6 p0 p1 p2 p3 p4 p5 p6
    go_wp2_with fail
    rw [← hWF]
    exact bodyPost_ret (by simp [results, Tryz.results118, go_sem, p0, p1, p2, p3, p4, p5, p6]) rfl HRH.out
  · obtain rfl : x = 15 := by omega
    have c2_0 := H2.out.e.cell (j := 0) rfl
    have z2_0 := H2.out.e.frozen 0
    obtain ⟨W3, hW3⟩ : ∃ W3 : World, W3 = W2.setCell ⟨eb, 0, none⟩ (.int .i64 1) := ⟨_, rfl⟩
    have H3 : Hid (NInv base cb bv n w eb w.heap.size (⟨1, ⟨#[]⟩, false, ⟨#[]⟩, 0, 0, 0⟩ : Nd) W3) := by rw [hW3]; exact H2.out.set 0 _ _ rfl ⟨H2.out.sm.s, H2.out.sm.t, H2.out.sm.lo, H2.out.sm.up, H2.out.sm.n, (by show (0 : Int) ≤ 1 ∧ (1 : Int) ≤ 100000; omega)⟩
    go_upto_region 49 with fail
    rw [← hW3]
    clear hW3
    obtain ⟨k0, k1, k2, k3, k4, k5, k6⟩ := And.intro (H3.out.e.cell (j := 0) rfl) (And.intro (H3.out.e.cell (j := 1) rfl) (And.intro (H3.out.e.cell (j := 2) rfl) (And.intro (H3.out.e.cell (j := 3) rfl) (And.intro (H3.out.e.cell (j := 4) rfl) (And.intro (H3.out.e.cell (j := 5) rfl) (H3.out.e.cell (j := 6) rfl))))))
    obtain ⟨l0, l1, l2, l3, l4, l5, l6⟩ := And.intro (H3.out.r.cell (j := 0) rfl) (And.intro (H3.out.r.cell (j := 1) rfl) (And.intro (H3.out.r.cell (j := 2) rfl) (And.intro (H3.out.r.cell (j := 3) rfl) (And.intro (H3.out.r.cell (j := 4) rfl) (And.intro (H3.out.r.cell (j := 5) rfl) (H3.out.r.cell (j := 6) rfl))))))
    have lf := H3.out.r.frozen
    obtain ⟨WF, hWF⟩ : ∃ WF : World, WF = set7 W3 w.heap.size (⟨1, ⟨#[]⟩, false, ⟨#[]⟩, 0, 0, 0⟩ : Nd) := ⟨_, rfl⟩
    have hfin := H3.out.fin
    rw [← hWF] at hfin
    obtain ⟨hB9, HR⟩ := hfin
    obtain ⟨p0, p1, p2, p3, p4, p5, p6⟩ := And.intro (hB9.cell (j := 0) rfl) (And.intro (hB9.cell (j := 1) rfl) (And.intro (hB9.cell (j := 2) rfl) (And.intro (hB9.cell (j := 3) rfl) (And.intro (hB9.cell (j := 4) rfl) (And.intro (hB9.cell (j := 5) rfl) (hB9.cell (j := 6) rfl))))))
    have HRH : Hid (LefP base cb bv n w (.returned (Nd.v (⟨1, ⟨#[]⟩, false, ⟨#[]⟩, 0, 0, 0⟩ : Nd))) WF) := HR
    clear hB9 HR
    simp only [set7] at hWF
    simp only at k0 k1 k2 k3 k4 k5 k6 l0 l1 l2 l3 l4 l5 l6 p0 p1 p2 p3 p4 p5 p6
    go_wp2_with fail
    rw [← hWF]
    exact bodyPost_ret (by simp [results, Tryz.results118, go_sem, p0, p1, p2, p3, p4, p5, p6]) rfl HRH.out
end Go.Proofs.YtgnpcenpcmdlfaaGreatDoor
