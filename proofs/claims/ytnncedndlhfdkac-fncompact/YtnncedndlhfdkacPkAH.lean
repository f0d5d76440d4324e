import Derived.Deep.LoopGhost
import Derived.Deep.RegionHeld3
import Derived.Test.YtnncedndlhfdkacPkAG
import Derived.Test.YtnncedndlhfdkacPkAC
/-
  (*impl.merger).take: one column more of the same.
-/
namespace Go.Proofs.Ytnncedndlhfdkac
open Go.ChangeShapes Go.WideShapes Go.ChangeAt Go.RowKit Go.Deep
set_option linter.unusedVariables false
set_option linter.unusedSimpArgs false
set_option maxRecDepth 100000

set_option maxHeartbeats 16000000 in
theorem take_same (S : Nat → Prop) (base mb : Nat) (P : List (Nat × Ent)) (c : ByteArray × ByteArray × ByteArray) (dv : Value) (ds : List (Nat × Int)) (dec : Bool) (ts : Int) (cg cc : Nat) (L : List Ent) (a : Nat) (e : Ent) (w : World)
    (h : MInv S base mb P w c dv ds dec ts cg cc L) (hl : Last P c) (hS : P.Pairwise Lt2) (hP : ∀ p ∈ P, Lt2 p (a, e)) (hin : ∀ k, S k → k < w.heap.size) (hB : base ≤ w.heap.size) (hN : P.length ≤ 1048576) (hcol : e.col = c) :
    Calls Try.prog 43 #[.pointer (some ⟨mb, 0, none⟩), .agg #[.string e.row, .string e.fam, .string e.qual, .int .u64 e.ts, .int .i64 e.kind, .string e.val], .int .i64 a] w fun r w' =>
      r = .returned (.tuple #[]) ∧ MSt S base mb (P ++ [(a, e)]) w' e.col ∧ Chg (Mine mb dv cg) w w' := by
  have H0 : Hid (MInv S base mb P w c dv ds dec ts cg cc L ∧ Last P c ∧ P.Pairwise Lt2 ∧ (∀ p ∈ P, Lt2 p (a, e)) ∧ ∀ k, S k → k < w.heap.size) := ⟨h, hl, hS, hP, hin⟩
  clear h hl hS hP hin
  obtain ⟨Wa, hWa⟩ : ∃ Wa : World, Wa = w.alloc (Obj.cells #[.string e.row, .string e.fam, .string e.qual, .int .u64 e.ts, .int .i64 e.kind, .string e.val] 63) := ⟨_, rfl⟩
  have hba : Below w.heap.size w Wa := by rw [hWa]; exact (Below.refl _ _).alloc (Nat.le_refl _) _
  have hza : Wa.heap.size = w.heap.size + 1 := by rw [hWa]; simp
  have HXa : Hid (EntsAt Wa w.heap.size 0 [e]) := by show EntsAt Wa w.heap.size 0 [e]; rw [hWa]; exact ent_box w e
  have hmb := (H0.out.1.at_.low mb (.inl rfl)).2
  go_enter Try.func43, Try.ntmps43
  go_upto_region 1 with fail
  rw [← hWa]
  clear hWa
  obtain ⟨d0, d1, d2, d3, d4, d5⟩ := HXa.out 0 e rfl
  simp only [Nat.zero_add, Nat.zero_mul] at d0 d1 d2 d3 d4 d5
  go_wp2_with fail
  refine (column_any e _).mono ?_
  rintro e' wb ⟨rfl, hbb⟩
  obtain ⟨W1, hW1⟩ : ∃ W1 : World, W1 = wb.alloc (Obj.cells #[.string e.row, .string e.fam, .string e.qual] 73) := ⟨_, rfl⟩
  have hbc : Below wb.heap.size wb W1 := by rw [hW1]; exact (Below.refl _ _).alloc (Nat.le_refl _) _
  have hsb := hbb.size
  have hsc := hbc.size
  have HX1 : Hid (EntsAt W1 w.heap.size 0 [e]) := (HXa.out.below hbb (by omega)).below hbc (by omega)
  have k1 : Below w.heap.size w W1 := (hba.trans (hbb.mono (by omega))).trans (hbc.mono (by omega))
  have HM1 : Hid (MgAt W1 base mb c dv ds dec ts cg cc L) := H0.out.1.at_.below k1
  have HC1 : Hid (W1.cell? ⟨wb.heap.size, 0, none⟩ = some (.string e.row) ∧ W1.cell? ⟨wb.heap.size, 1, none⟩ = some (.string e.fam) ∧ W1.cell? ⟨wb.heap.size, 2, none⟩ = some (.string e.qual)) := by
    refine ⟨?_, ?_, ?_⟩ <;> (rw [hW1]; simp)
  clear d0 d1 d2 d3 d4 d5
  go_upto_region 2 with fail
  rw [← hW1]
  clear hW1
  obtain ⟨q0, q1, q2⟩ := HC1.out
  obtain ⟨m0, m1, m2, m3, m4, m5, m6, mf⟩ := HM1.out.cell
  obtain ⟨cr, cf, cq⟩ := c
  simp only at m0 m1 m2
  have hne := colNe_run e cr cf cq false (by rw [show (!false) = true from rfl, sameCol_col]; exact hcol)
  go_quiet (fail)
  have HMem : Hid (Mem P e.col ds dec ts) := by have := H0.out.1.mem; rw [← hcol] at this; exact this
  have hsz := k1.size
  obtain ⟨W2, hW2⟩ : ∃ W2 : World, W2 = W1.drewN nq := ⟨_, rfl⟩
  have hb2 : Below W1.heap.size W1 W2 := by rw [hW2]; exact below_drewN (Below.refl _ _) _
  have hsd := hb2.size
  have hw2 : w.heap.size < W2.heap.size := by omega
  have HX2 : Hid (EntsAt W2 w.heap.size 0 [e]) := HX1.out.below hb2 (by omega)
  have HM2 : Hid (MgAt W2 base mb e.col dv ds dec ts cg cc L) := by have := HM1.out.below hb2; rw [← hcol] at this; exact this
  have HK2 : Hid (Chg (Mine mb dv cg) w W2) := Chg.of_below (k1.trans (hb2.mono (by omega)))
  rw [← hW2]
  clear hW2 q0 q1 q2 m0 m1 m2 m3 m4 m5 m6 mf hne hcol
  have HOut : Hid (∀ k, Mine mb dv cg k → ¬ S k) := H0.out.1.out
  obtain ⟨d0, d1, d2, d3, d4, d5⟩ := HX2.out 0 e rfl
  simp only [Nat.zero_add, Nat.zero_mul] at d0 d1 d2 d3 d4 d5
  obtain ⟨m0, m1, m2, m3, m4, m5, m6, mf⟩ := HM2.out.cell
  have hs2 := HK2.out.size
  have HMine : Hid (∀ k, Mine mb dv cg k → Mine mb dv cg k) := fun k q => q
  cases kk : (e.kind == 2)
  · have HK : Hid (¬ e.kind = 2) := by show ¬ e.kind = 2; simpa using kk
    by_cases hd : dec = true ∧ ts = e.ts
    · have HD : Hid (dec = true ∧ ts = e.ts) := hd
      have ht : (ts == e.ts) = true := by simp [hd.2]
      have hdt : dec = true := hd.1
      rw [hdt] at m4
      clear hd hdt
      have HR : Hid (MSt S base mb (P ++ [(a, e)]) W2 e.col) :=
        ⟨_, _, _, _, _, _, _, HM2.out, mem_same HMem.out HK.out HD.out.1 HD.out.2, shown_skip H0.out.1.shown H0.out.2.2.2.1 (fun q => q.2 (over_decided HMem.out H0.out.2.2.2.1 HK.out HD.out.1 HD.out.2)), HOut.out, by have := H0.out.1.short; simp; omega⟩
      go_upto_region 8 with fail
      go_quiet (fail)
      go_wp2_with fail
      (try simp only [Exit.inBlock, Exit.then])
      refine bodyPost_ret (results_none rfl _ _ _) rfl ?_
      have hbn := below_drewN (Below.refl W2.heap.size W2) nq
      exact ⟨rfl, HR.out.below hbn, HK2.out.trans (Chg.of_below hbn)⟩
    · have HD : Hid (¬ (dec = true ∧ ts = e.ts)) := hd
      have ht : ∀ b, dec = b → b = true → (ts == e.ts) = false := fun b h1 h2 => by simp; exact fun q => hd ⟨h1.trans h2, q⟩
      clear hd
      go_upto_region 8 with fail
      go_cut [58] (fun s wx => s = .bool false ∧ Below W2.heap.size W2 wx)
      case first =>
        cases hdd : dec
        · rw [hdd] at m4
          go_quiet (fail)
          go_wp2_with fail
          go_meet
          exact ⟨rfl, below_drewN (Below.refl _ _) _⟩
        · rw [hdd] at m4
          have ht1 := ht true hdd rfl
          go_quiet (fail)
          go_wp2_with fail
          go_meet
          exact ⟨rfl, below_drewN (Below.refl _ _) _⟩
      case rest =>
      obtain ⟨rfl, hb3⟩ := hcut
      have hs3 := hb3.size
      have HM3 : Hid (MgAt wc base mb e.col dv ds dec ts cg cc L) := HM2.out.below hb3
      have HK3 : Hid (Chg (Mine mb dv cg) w wc) := HK2.out.trans (Chg.of_below hb3)
      clear m0 m1 m2 m3 m4 m5 m6 mf d0 d1 d2 d3 d4 d5 ht
      obtain ⟨d0, d1, d2, d3, d4, d5⟩ := (HX2.out.below hb3 (by omega)) 0 e rfl
      simp only [Nat.zero_add, Nat.zero_mul] at d0 d1 d2 d3 d4 d5
      obtain ⟨m0, m1, m2, m3, m4, m5, m6, mf⟩ := HM3.out.cell
      obtain ⟨W4, hW4⟩ : ∃ W4 : World, W4 = (wc.setCell ⟨mb, 4, none⟩ (.bool true)).setCell ⟨mb, 5, none⟩ (.int .u64 e.ts) := ⟨_, rfl⟩
      have HM4 : Hid (MgAt W4 base mb e.col dv ds true e.ts cg cc L) := by show MgAt W4 base mb e.col dv ds true e.ts cg cc L; rw [hW4]; exact (HM3.out.setDec true).setTs e.ts
      have hC4 : Chg (fun k => k = mb) wc W4 := by rw [hW4]; exact (Chg.of_set (S := fun k => k = mb) _ _ _ _ rfl).trans (Chg.of_set (S := fun k => k = mb) _ _ _ _ rfl)
      have hs4 := hC4.size
      have HX4 : Hid (EntsAt W4 w.heap.size 0 [e]) := (HX2.out.below hb3 (by omega)).chg hC4 (by omega) (by omega)
      have HK4 : Hid (Chg (Mine mb dv cg) w W4) := HK3.out.trans (hC4.mono (fun k q => .inl q))
      have HMn : Hid (Mem (P ++ [(a, e)]) e.col ds true e.ts) := mem_new HMem.out H0.out.2.2.2.1 HK.out
      cases k0 : (e.kind == 0)
      · have HR : Hid (MSt S base mb (P ++ [(a, e)]) W4 e.col) :=
          ⟨_, _, _, _, _, _, _, HM4.out, HMn.out, shown_skip H0.out.1.shown H0.out.2.2.2.1 (fun q => by have := q.1; simp at k0; exact k0 this), HOut.out, by have := H0.out.1.short; simp; omega⟩
        go_wp2_with fail
        rw [← hW4]
        go_end0
        exact ⟨rfl, HR.out, HK4.out⟩
      · go_upto_region 11 with fail
        rw [← hW4]
        clear hW4 m0 m1 m2 m3 m4 m5 m6 mf d0 d1 d2 d3 d4 d5
        obtain ⟨d0, d1, d2, d3, d4, d5⟩ := HX4.out 0 e rfl
        simp only [Nat.zero_add, Nat.zero_mul] at d0 d1 d2 d3 d4 d5
        go_wp2_with fail
        refine (hides_core base mb e.col dv ds true e.ts cg cc L e.ts a _ HM4.out (by have := HMem.out.len; omega)).mono ?_
        rintro e' w5 ⟨rfl, hb5⟩
        have hs5 := hb5.size
        have HM5 : Hid (MgAt w5 base mb e.col dv ds true e.ts cg cc L) := HM4.out.below hb5
        have HK5 : Hid (Chg (Mine mb dv cg) w w5) := HK4.out.trans (Chg.of_below hb5)
        have HX5 : Hid (EntsAt w5 w.heap.size 0 [e]) := HX4.out.below hb5 (by omega)
        have HOv : Hid (Over P a e ↔ hides ds e.ts a = true) := over_hides HMem.out H0.out.2.2.2.1 HK.out HD.out
        clear d0 d1 d2 d3 d4 d5
        cases hh : hides ds e.ts a
        · obtain ⟨d0, d1, d2, d3, d4, d5⟩ := HX5.out 0 e rfl
          simp only [Nat.zero_add, Nat.zero_mul] at d0 d1 d2 d3 d4 d5
          obtain ⟨m0, m1, m2, m3, m4, m5, m6, mf⟩ := HM5.out.cell
          go_upto_region 12 with fail
          have nmb : mb ≠ w.heap.size := by omega
          have hLl : L.length ≤ 2 ^ 30 := by have := H0.out.1.short; omega
          have hbs : base ≤ w5.heap.size := by omega
          have ncg : cg ≠ w.heap.size := by have := (H0.out.1.at_.low cg (.inr (.inr rfl))).2; omega
          have nmc : mb ≠ cg := fun q => HM5.out.apart.2.1 q.symm
          have hcl : cg < w5.heap.size := (HM5.out.low cg (.inr (.inr rfl))).2
          have hml : mb < w5.heap.size := (HM5.out.low mb (.inl rfl)).2
          have HSp : Hid (Shown (P ++ [(a, e)]) (L ++ [e])) := shown_put H0.out.1.shown H0.out.2.2.2.1 (by simpa using k0) (fun q => by have := HOv.out.1 q; rw [hh] at this; cases this)
          go_region_law ((first
              | (go_simp; go_at_call 66; refine (implCell_any e _).mono ?_; rintro e' w6 ⟨rfl, hb6⟩; have hq6 : Below w5.heap.size w5 w6 := ((Below.refl w5.heap.size w5).drew).trans hb6; obtain ⟨y0, y1, y2, y3, y4, y5⟩ := (HX5.out.below hq6 (by omega)) 0 e rfl; simp only [Nat.zero_add, Nat.zero_mul] at y0 y1 y2 y3 y4 y5; have m6' := (HM5.out.below hq6).cell.2.2.2.2.2.2.1; have m6a : ∀ o, (w6.alloc o).cell? ⟨mb, 6, none⟩ = some (.slice (some ⟨cg, 0, none⟩) L.length cc) := fun o => by { rw [((Below.refl w6.heap.size w6).alloc (Nat.le_refl _) o).cell (p := ⟨mb, 6, none⟩) (Nat.lt_of_lt_of_le hml hq6.size)]; exact m6' })
              | (refine step_append_cel _ (by rfl) _ _ (by rfl) base cg cc w6.heap.size L e (by rfl) (by rfl) ?hO ?hc hLl ?hb ?_
                 case hO => exact (HM5.out.below hq6).cells.below ((Below.refl _ _).alloc (Nat.le_refl _) _) (Nat.lt_of_lt_of_le hcl hq6.size)
                 case hc => exact cel_new w6 e
                 case hb => exact Nat.le_trans hbs (Nat.le_trans hq6.size (by simp))
                 intro g7 cp7 w7 hO7 hgr7 hgg7
                 have fin7 : Hid (MSt S base mb (P ++ [(a, e)]) (w7.setCell ⟨mb, 6, none⟩ (.slice (some ⟨g7, 0, none⟩) (L.length + 1) cp7)) e.col ∧ Chg (Mine mb dv cg) w (w7.setCell ⟨mb, 6, none⟩ (.slice (some ⟨g7, 0, none⟩) (L.length + 1) cp7))) := by { have hpf := put_fin HM5.out hq6 hO7 hgr7 (by simpa using hgg7) HMn.out HSp.out HOut.out (fun k hk => by have := H0.out.2.2.2.2 k hk; omega) H0.out.1.short; exact ⟨hpf.1, HK5.out.trans (hpf.2.mono HMine.out)⟩ }
                 have hm7 := (HM5.out.below hq6).below ((Below.refl w6.heap.size w6).alloc (Nat.le_refl _) (Obj.cells #[.string e.row, .string e.fam, .string e.qual, .int .u64 e.ts, .string e.val] 69))
                 have hc7 : Chg (fun k => k = cg) (w6.alloc (Obj.cells #[.string e.row, .string e.fam, .string e.qual, .int .u64 e.ts, .string e.val] 69)) w7 := Chg.of_grown hgr7 (fun k hk => by cases hk; rfl)
                 have m7 : w7.cell? ⟨mb, 6, none⟩ = some (.slice (some ⟨cg, 0, none⟩) L.length cc) := by rw [hc7.cell (p := ⟨mb, 6, none⟩) (hm7.low mb (.inl rfl)).2 nmc]; exact hm7.cell.2.2.2.2.2.2.1
                 have f7 : w7.frozen? ⟨mb, 6, none⟩ = false := by rw [hc7.frozen (p := ⟨mb, 6, none⟩) (hm7.low mb (.inl rfl)).2 nmc]; exact hm7.cell.2.2.2.2.2.2.2 6
                 clear hm7 hc7 hO7 hgr7 hgg7)))
          all_goals go_end0
          all_goals exact ⟨rfl, fin7.out.1, fin7.out.2⟩
        · have HR : Hid (MSt S base mb (P ++ [(a, e)]) w5 e.col) :=
            ⟨_, _, _, _, _, _, _, HM5.out, HMn.out, shown_skip H0.out.1.shown H0.out.2.2.2.1 (fun q => q.2 (HOv.out.2 hh)), HOut.out, by have := H0.out.1.short; simp; omega⟩
          go_wp2_with fail
          go_end0
          exact ⟨rfl, HR.out, HK5.out⟩
  · have HK : Hid (e.kind = 2) := by show e.kind = 2; simpa using kk
    have hdl : ds.length ≤ 2 ^ 30 := by have := HMem.out.len; omega
    have hbs : base ≤ W2.heap.size := by omega
    have HMn : Hid (Mem (P ++ [(a, e)]) e.col (ds ++ [(a, e.ts)]) dec ts) := mem_del HMem.out HK.out
    have HSp : Hid (Shown (P ++ [(a, e)]) L) := shown_skip H0.out.1.shown H0.out.2.2.2.1 (fun q => by have := q.1; have := HK.out; omega)
    have hml : mb < W2.heap.size := (HM2.out.low mb (.inl rfl)).2
    have f3 := mf 3
    go_upto_region 7 with fail
    go_region_law ((refine step_append_del _ (by rfl) _ _ (by rfl) base W2.heap.size dv ds a e.ts (by rfl) (by rfl) ?hO ?h0 ?h1 hdl ?hb ?_
                    case hO => exact own_chg (S := fun _ => False) HM2.out.dels (Chg.of_below (((Below.refl W2.heap.size W2).drew).alloc (Nat.le_refl _) _)) (fun k _ q => q)
                    case h0 => simp
                    case h1 => simp
                    case hb => exact Nat.le_trans hbs (by simp)
                    intro g7 cp7 w7 hO7 hgr7 hgg7
                    have fin7 : Hid (MSt S base mb (P ++ [(a, e)]) (w7.setCell ⟨mb, 3, none⟩ (.slice (some ⟨g7, 0, none⟩) (ds.length + 1) cp7)) e.col ∧ Chg (Mine mb dv cg) w (w7.setCell ⟨mb, 3, none⟩ (.slice (some ⟨g7, 0, none⟩) (ds.length + 1) cp7)) ∧ w7.cell? ⟨mb, 3, none⟩ = some dv ∧ w7.frozen? ⟨mb, 3, none⟩ = false) := by { have hpf := del_fin HM2.out (((Below.refl W2.heap.size W2).drew).alloc (Nat.le_refl _) _) hO7 hgr7 (by simpa using hgg7) HMn.out HSp.out HOut.out (fun k hk => by have := H0.out.2.2.2.2 k hk; omega) H0.out.1.short; exact ⟨hpf.1, HK2.out.trans (hpf.2.1.mono HMine.out), hpf.2.2.1, hpf.2.2.2⟩ }
                    have m7 := fin7.out.2.2.1
                    have f7 := fin7.out.2.2.2
                    clear hO7 hgr7 hgg7))
    all_goals go_wp2_with fail
    all_goals (try simp only [Exit.inBlock, Exit.then])
    all_goals refine bodyPost_ret (results_none rfl _ _ _) rfl ?_
    all_goals exact ⟨rfl, fin7.out.1, fin7.out.2.1⟩
end Go.Proofs.Ytnncedndlhfdkac

/-
  (*impl.merger).take: a new column.
-/
namespace Go.Proofs.Ytnncedndlhfdkac
open Go.ChangeShapes Go.WideShapes Go.ChangeAt Go.RowKit Go.Deep
set_option linter.unusedVariables false
set_option linter.unusedSimpArgs false
set_option maxRecDepth 100000

set_option maxHeartbeats 16000000 in
theorem take_nil (S : Nat → Prop) (base mb : Nat) (P : List (Nat × Ent)) (c : ByteArray × ByteArray × ByteArray) (dv : Value) (ds : List (Nat × Int)) (dec : Bool) (ts : Int) (cg cc : Nat) (L : List Ent) (a : Nat) (e : Ent) (w : World)
    (h : MInv S base mb P w c dv ds dec ts cg cc L) (hl : Last P c) (hS : P.Pairwise Lt2) (hP : ∀ p ∈ P, Lt2 p (a, e)) (hin : ∀ k, S k → k < w.heap.size) (hB : base ≤ w.heap.size) (hN : P.length ≤ 1048576) (hcol : ¬ e.col = c) (hdv : dv = .slice none 0 0) :
    Calls Try.prog 43 #[.pointer (some ⟨mb, 0, none⟩), .agg #[.string e.row, .string e.fam, .string e.qual, .int .u64 e.ts, .int .i64 e.kind, .string e.val], .int .i64 a] w fun r w' =>
      r = .returned (.tuple #[]) ∧ MSt S base mb (P ++ [(a, e)]) w' e.col ∧ Chg (Mine mb dv cg) w w' := by
  have H0 : Hid (MInv S base mb P w c dv ds dec ts cg cc L ∧ Last P c ∧ P.Pairwise Lt2 ∧ (∀ p ∈ P, Lt2 p (a, e)) ∧ ∀ k, S k → k < w.heap.size) := ⟨h, hl, hS, hP, hin⟩
  clear h hl hS hP hin
  obtain ⟨Wa, hWa⟩ : ∃ Wa : World, Wa = w.alloc (Obj.cells #[.string e.row, .string e.fam, .string e.qual, .int .u64 e.ts, .int .i64 e.kind, .string e.val] 63) := ⟨_, rfl⟩
  have hba : Below w.heap.size w Wa := by rw [hWa]; exact (Below.refl _ _).alloc (Nat.le_refl _) _
  have hza : Wa.heap.size = w.heap.size + 1 := by rw [hWa]; simp
  have HXa : Hid (EntsAt Wa w.heap.size 0 [e]) := by show EntsAt Wa w.heap.size 0 [e]; rw [hWa]; exact ent_box w e
  have hmb := (H0.out.1.at_.low mb (.inl rfl)).2
  go_enter Try.func43, Try.ntmps43
  go_upto_region 1 with fail
  rw [← hWa]
  clear hWa
  obtain ⟨d0, d1, d2, d3, d4, d5⟩ := HXa.out 0 e rfl
  simp only [Nat.zero_add, Nat.zero_mul] at d0 d1 d2 d3 d4 d5
  go_wp2_with fail
  refine (column_any e _).mono ?_
  rintro e' wb ⟨rfl, hbb⟩
  obtain ⟨W1, hW1⟩ : ∃ W1 : World, W1 = wb.alloc (Obj.cells #[.string e.row, .string e.fam, .string e.qual] 73) := ⟨_, rfl⟩
  have hbc : Below wb.heap.size wb W1 := by rw [hW1]; exact (Below.refl _ _).alloc (Nat.le_refl _) _
  have hsb := hbb.size
  have hsc := hbc.size
  have HX1 : Hid (EntsAt W1 w.heap.size 0 [e]) := (HXa.out.below hbb (by omega)).below hbc (by omega)
  have k1 : Below w.heap.size w W1 := (hba.trans (hbb.mono (by omega))).trans (hbc.mono (by omega))
  have HM1 : Hid (MgAt W1 base mb c dv ds dec ts cg cc L) := H0.out.1.at_.below k1
  have HC1 : Hid (W1.cell? ⟨wb.heap.size, 0, none⟩ = some (.string e.row) ∧ W1.cell? ⟨wb.heap.size, 1, none⟩ = some (.string e.fam) ∧ W1.cell? ⟨wb.heap.size, 2, none⟩ = some (.string e.qual)) := by
    refine ⟨?_, ?_, ?_⟩ <;> (rw [hW1]; simp)
  clear d0 d1 d2 d3 d4 d5
  go_upto_region 2 with fail
  rw [← hW1]
  clear hW1
  obtain ⟨q0, q1, q2⟩ := HC1.out
  obtain ⟨m0, m1, m2, m3, m4, m5, m6, mf⟩ := HM1.out.cell
  obtain ⟨cr, cf, cq⟩ := c
  simp only at m0 m1 m2
  have hne := colNe_run e cr cf cq true (by rw [show (!true) = false from rfl, Bool.eq_false_iff, ne_eq, sameCol_col]; exact hcol)
  go_quiet (fail)
  have hcut : cut0 dv = .slice none 0 0 := by rw [hdv]; rfl
  have hcl : ([] : List (Nat × Int)).length = 0 := rfl
  clear hcl
  rw [hdv] at m3
  have HMem : Hid (Mem P e.col ([] : List (Nat × Int)) false ts) := mem_turn H0.out.2.1 H0.out.2.2.1 H0.out.2.2.2.1 hcol ts
  have HCut : Hid (cut0 dv = .slice none 0 0) := hcut
  have f0 := mf 0
  have f1 := mf 1
  have f2 := mf 2
  have f3 := mf 3
  have f4 := mf 4
  obtain ⟨W2, hW2⟩ : ∃ W2 : World, W2 = (((((W1.drewN nq).setCell ⟨mb, 0, none⟩ (.string e.row)).setCell ⟨mb, 1, none⟩ (.string e.fam)).setCell ⟨mb, 2, none⟩ (.string e.qual)).setCell ⟨mb, 3, none⟩ (.slice none 0 0)).setCell ⟨mb, 4, none⟩ (.bool false) := ⟨_, rfl⟩
  have hb1 : Below W1.heap.size W1 (W1.drewN nq) := below_drewN (Below.refl _ _) _
  have hsd := hb1.size
  have hcw : Chg (fun k => k = mb) (W1.drewN nq) W2 := by rw [hW2]; exact ((((Chg.of_set (S := fun k => k = mb) _ _ _ _ rfl).trans (Chg.of_set (S := fun k => k = mb) _ _ _ _ rfl)).trans (Chg.of_set (S := fun k => k = mb) _ _ _ _ rfl)).trans (Chg.of_set (S := fun k => k = mb) _ _ _ _ rfl)).trans (Chg.of_set (S := fun k => k = mb) _ _ _ _ rfl)
  have hse := hcw.size
  have hw2 : w.heap.size < W2.heap.size := by omega
  have hmw : ¬ w.heap.size = mb := by omega
  have HX2 : Hid (EntsAt W2 w.heap.size 0 [e]) := (HX1.out.below hb1 (by omega)).chg hcw (by omega) hmw
  have HM2 : Hid (MgAt W2 base mb e.col (cut0 dv) [] false ts cg cc L) := by
    show MgAt W2 base mb e.col (cut0 dv) [] false ts cg cc L
    rw [hW2, ← hcut]
    have hA := (HM1.out.below hb1).setCol e.col
    exact (hA.setDels hA.dels.cut).setDec false
  have HK2 : Hid (Chg (Mine mb dv cg) w W2) := (Chg.of_below (k1.trans (hb1.mono (by have := k1.size; omega)))).trans (hcw.mono (fun k q => .inl q))
  have HOut : Hid (∀ k, Mine mb (cut0 dv) cg k → ¬ S k) := fun k q => H0.out.1.out k (by unfold Mine at *; rw [cut0_block H0.out.1.at_.dels] at q; exact q)
  go_upto_region 6 with fail
  rw [← hW2]
  clear hW2 q0 q1 q2 m0 m1 m2 m3 m4 m5 m6 mf hne hcol f0 f1 f2 f3 f4 hcut hdv
  obtain ⟨d0, d1, d2, d3, d4, d5⟩ := HX2.out 0 e rfl
  simp only [Nat.zero_add, Nat.zero_mul] at d0 d1 d2 d3 d4 d5
  obtain ⟨m0, m1, m2, m3, m4, m5, m6, mf⟩ := HM2.out.cell
  have hs2 := HK2.out.size
  have HMine : Hid (∀ k, Mine mb (cut0 dv) cg k → Mine mb dv cg k) := fun k q => by unfold Mine at *; rw [cut0_block H0.out.1.at_.dels] at q; exact q
  cases kk : (e.kind == 2)
  · have HK : Hid (¬ e.kind = 2) := by show ¬ e.kind = 2; simpa using kk
    by_cases hd : false = true ∧ ts = e.ts
    · exact absurd hd.1 (by decide)
    · have HD : Hid (¬ (false = true ∧ ts = e.ts)) := hd
      have ht : ∀ b, false = b → b = true → (ts == e.ts) = false := fun b h1 h2 => by simp; exact fun q => hd ⟨h1.trans h2, q⟩
      clear hd
      go_upto_region 8 with fail
      go_cut [58] (fun s wx => s = .bool false ∧ Below W2.heap.size W2 wx)
      case first =>
        go_quiet (fail)
        go_wp2_with fail
        go_meet
        exact ⟨rfl, below_drewN (Below.refl _ _) _⟩
      case rest =>
      obtain ⟨rfl, hb3⟩ := hcut
      have hs3 := hb3.size
      have HM3 : Hid (MgAt wc base mb e.col (cut0 dv) ([] : List (Nat × Int)) false ts cg cc L) := HM2.out.below hb3
      have HK3 : Hid (Chg (Mine mb dv cg) w wc) := HK2.out.trans (Chg.of_below hb3)
      clear m0 m1 m2 m3 m4 m5 m6 mf d0 d1 d2 d3 d4 d5 ht
      obtain ⟨d0, d1, d2, d3, d4, d5⟩ := (HX2.out.below hb3 (by omega)) 0 e rfl
      simp only [Nat.zero_add, Nat.zero_mul] at d0 d1 d2 d3 d4 d5
      obtain ⟨m0, m1, m2, m3, m4, m5, m6, mf⟩ := HM3.out.cell
      obtain ⟨W4, hW4⟩ : ∃ W4 : World, W4 = (wc.setCell ⟨mb, 4, none⟩ (.bool true)).setCell ⟨mb, 5, none⟩ (.int .u64 e.ts) := ⟨_, rfl⟩
      have HM4 : Hid (MgAt W4 base mb e.col (cut0 dv) ([] : List (Nat × Int)) true e.ts cg cc L) := by show MgAt W4 base mb e.col (cut0 dv) ([] : List (Nat × Int)) true e.ts cg cc L; rw [hW4]; exact (HM3.out.setDec true).setTs e.ts
      have hC4 : Chg (fun k => k = mb) wc W4 := by rw [hW4]; exact (Chg.of_set (S := fun k => k = mb) _ _ _ _ rfl).trans (Chg.of_set (S := fun k => k = mb) _ _ _ _ rfl)
      have hs4 := hC4.size
      have HX4 : Hid (EntsAt W4 w.heap.size 0 [e]) := (HX2.out.below hb3 (by omega)).chg hC4 (by omega) (by omega)
      have HK4 : Hid (Chg (Mine mb dv cg) w W4) := HK3.out.trans (hC4.mono (fun k q => .inl q))
      have HMn : Hid (Mem (P ++ [(a, e)]) e.col ([] : List (Nat × Int)) true e.ts) := mem_new HMem.out H0.out.2.2.2.1 HK.out
      cases k0 : (e.kind == 0)
      · have HR : Hid (MSt S base mb (P ++ [(a, e)]) W4 e.col) :=
          ⟨_, _, _, _, _, _, _, HM4.out, HMn.out, shown_skip H0.out.1.shown H0.out.2.2.2.1 (fun q => by have := q.1; simp at k0; exact k0 this), HOut.out, by have := H0.out.1.short; simp; omega⟩
        go_wp2_with fail
        rw [← hW4]
        go_end0
        exact ⟨rfl, HR.out, HK4.out⟩
      · go_upto_region 11 with fail
        rw [← hW4]
        clear hW4 m0 m1 m2 m3 m4 m5 m6 mf d0 d1 d2 d3 d4 d5
        obtain ⟨d0, d1, d2, d3, d4, d5⟩ := HX4.out 0 e rfl
        simp only [Nat.zero_add, Nat.zero_mul] at d0 d1 d2 d3 d4 d5
        go_wp2_with fail
        refine (hides_core base mb e.col (cut0 dv) ([] : List (Nat × Int)) true e.ts cg cc L e.ts a _ HM4.out (by have := HMem.out.len; omega)).mono ?_
        rintro e' w5 ⟨rfl, hb5⟩
        have hs5 := hb5.size
        have HM5 : Hid (MgAt w5 base mb e.col (cut0 dv) ([] : List (Nat × Int)) true e.ts cg cc L) := HM4.out.below hb5
        have HK5 : Hid (Chg (Mine mb dv cg) w w5) := HK4.out.trans (Chg.of_below hb5)
        have HX5 : Hid (EntsAt w5 w.heap.size 0 [e]) := HX4.out.below hb5 (by omega)
        have HOv : Hid (Over P a e ↔ hides ([] : List (Nat × Int)) e.ts a = true) := over_hides HMem.out H0.out.2.2.2.1 HK.out HD.out
        clear d0 d1 d2 d3 d4 d5
        cases hh : hides ([] : List (Nat × Int)) e.ts a
        · obtain ⟨d0, d1, d2, d3, d4, d5⟩ := HX5.out 0 e rfl
          simp only [Nat.zero_add, Nat.zero_mul] at d0 d1 d2 d3 d4 d5
          obtain ⟨m0, m1, m2, m3, m4, m5, m6, mf⟩ := HM5.out.cell
          go_upto_region 12 with fail
          have nmb : mb ≠ w.heap.size := by omega
          have hLl : L.length ≤ 2 ^ 30 := by have := H0.out.1.short; omega
          have hbs : base ≤ w5.heap.size := by omega
          have ncg : cg ≠ w.heap.size := by have := (H0.out.1.at_.low cg (.inr (.inr rfl))).2; omega
          have nmc : mb ≠ cg := fun q => HM5.out.apart.2.1 q.symm
          have hcl : cg < w5.heap.size := (HM5.out.low cg (.inr (.inr rfl))).2
          have hml : mb < w5.heap.size := (HM5.out.low mb (.inl rfl)).2
          have HSp : Hid (Shown (P ++ [(a, e)]) (L ++ [e])) := shown_put H0.out.1.shown H0.out.2.2.2.1 (by simpa using k0) (fun q => by have := HOv.out.1 q; rw [hh] at this; cases this)
          go_region_law ((first
              | (go_simp; go_at_call 66; refine (implCell_any e _).mono ?_; rintro e' w6 ⟨rfl, hb6⟩; have hq6 : Below w5.heap.size w5 w6 := ((Below.refl w5.heap.size w5).drew).trans hb6; obtain ⟨y0, y1, y2, y3, y4, y5⟩ := (HX5.out.below hq6 (by omega)) 0 e rfl; simp only [Nat.zero_add, Nat.zero_mul] at y0 y1 y2 y3 y4 y5; have m6' := (HM5.out.below hq6).cell.2.2.2.2.2.2.1; have m6a : ∀ o, (w6.alloc o).cell? ⟨mb, 6, none⟩ = some (.slice (some ⟨cg, 0, none⟩) L.length cc) := fun o => by { rw [((Below.refl w6.heap.size w6).alloc (Nat.le_refl _) o).cell (p := ⟨mb, 6, none⟩) (Nat.lt_of_lt_of_le hml hq6.size)]; exact m6' })
              | (refine step_append_cel _ (by rfl) _ _ (by rfl) base cg cc w6.heap.size L e (by rfl) (by rfl) ?hO ?hc hLl ?hb ?_
                 case hO => exact (HM5.out.below hq6).cells.below ((Below.refl _ _).alloc (Nat.le_refl _) _) (Nat.lt_of_lt_of_le hcl hq6.size)
                 case hc => exact cel_new w6 e
                 case hb => exact Nat.le_trans hbs (Nat.le_trans hq6.size (by simp))
                 intro g7 cp7 w7 hO7 hgr7 hgg7
                 have fin7 : Hid (MSt S base mb (P ++ [(a, e)]) (w7.setCell ⟨mb, 6, none⟩ (.slice (some ⟨g7, 0, none⟩) (L.length + 1) cp7)) e.col ∧ Chg (Mine mb dv cg) w (w7.setCell ⟨mb, 6, none⟩ (.slice (some ⟨g7, 0, none⟩) (L.length + 1) cp7))) := by { have hpf := put_fin HM5.out hq6 hO7 hgr7 (by simpa using hgg7) HMn.out HSp.out HOut.out (fun k hk => by have := H0.out.2.2.2.2 k hk; omega) H0.out.1.short; exact ⟨hpf.1, HK5.out.trans (hpf.2.mono HMine.out)⟩ }
                 have hm7 := (HM5.out.below hq6).below ((Below.refl w6.heap.size w6).alloc (Nat.le_refl _) (Obj.cells #[.string e.row, .string e.fam, .string e.qual, .int .u64 e.ts, .string e.val] 69))
                 have hc7 : Chg (fun k => k = cg) (w6.alloc (Obj.cells #[.string e.row, .string e.fam, .string e.qual, .int .u64 e.ts, .string e.val] 69)) w7 := Chg.of_grown hgr7 (fun k hk => by cases hk; rfl)
                 have m7 : w7.cell? ⟨mb, 6, none⟩ = some (.slice (some ⟨cg, 0, none⟩) L.length cc) := by rw [hc7.cell (p := ⟨mb, 6, none⟩) (hm7.low mb (.inl rfl)).2 nmc]; exact hm7.cell.2.2.2.2.2.2.1
                 have f7 : w7.frozen? ⟨mb, 6, none⟩ = false := by rw [hc7.frozen (p := ⟨mb, 6, none⟩) (hm7.low mb (.inl rfl)).2 nmc]; exact hm7.cell.2.2.2.2.2.2.2 6
                 clear hm7 hc7 hO7 hgr7 hgg7)))
          all_goals go_end0
          all_goals exact ⟨rfl, fin7.out.1, fin7.out.2⟩
        · have HR : Hid (MSt S base mb (P ++ [(a, e)]) w5 e.col) :=
            ⟨_, _, _, _, _, _, _, HM5.out, HMn.out, shown_skip H0.out.1.shown H0.out.2.2.2.1 (fun q => q.2 (HOv.out.2 hh)), HOut.out, by have := H0.out.1.short; simp; omega⟩
          go_wp2_with fail
          go_end0
          exact ⟨rfl, HR.out, HK5.out⟩
  · have HK : Hid (e.kind = 2) := by show e.kind = 2; simpa using kk
    have hdl : ([] : List (Nat × Int)).length ≤ 2 ^ 30 := by have := HMem.out.len; omega
    have hbs : base ≤ W2.heap.size := by omega
    have HMn : Hid (Mem (P ++ [(a, e)]) e.col (([] : List (Nat × Int)) ++ [(a, e.ts)]) false ts) := mem_del HMem.out HK.out
    have HSp : Hid (Shown (P ++ [(a, e)]) L) := shown_skip H0.out.1.shown H0.out.2.2.2.1 (fun q => by have := q.1; have := HK.out; omega)
    have hml : mb < W2.heap.size := (HM2.out.low mb (.inl rfl)).2
    have f3 := mf 3
    go_upto_region 7 with fail
    go_region_law ((refine step_append_del _ (by rfl) _ _ (by rfl) base W2.heap.size (cut0 dv) ([] : List (Nat × Int)) a e.ts (by rfl) (by rfl) ?hO ?h0 ?h1 hdl ?hb ?_
                    case hO => exact own_chg (S := fun _ => False) HM2.out.dels (Chg.of_below (((Below.refl W2.heap.size W2).drew).alloc (Nat.le_refl _) _)) (fun k _ q => q)
                    case h0 => simp
                    case h1 => simp
                    case hb => exact Nat.le_trans hbs (by simp)
                    intro g7 cp7 w7 hO7 hgr7 hgg7
                    have fin7 : Hid (MSt S base mb (P ++ [(a, e)]) (w7.setCell ⟨mb, 3, none⟩ (.slice (some ⟨g7, 0, none⟩) (([] : List (Nat × Int)).length + 1) cp7)) e.col ∧ Chg (Mine mb dv cg) w (w7.setCell ⟨mb, 3, none⟩ (.slice (some ⟨g7, 0, none⟩) (([] : List (Nat × Int)).length + 1) cp7)) ∧ w7.cell? ⟨mb, 3, none⟩ = some (cut0 dv) ∧ w7.frozen? ⟨mb, 3, none⟩ = false) := by { have hpf := del_fin HM2.out (((Below.refl W2.heap.size W2).drew).alloc (Nat.le_refl _) _) hO7 hgr7 (by simpa using hgg7) HMn.out HSp.out HOut.out (fun k hk => by have := H0.out.2.2.2.2 k hk; omega) H0.out.1.short; exact ⟨hpf.1, HK2.out.trans (hpf.2.1.mono HMine.out), hpf.2.2.1, hpf.2.2.2⟩ }
                    have m7 := fin7.out.2.2.1
                    have f7 := fin7.out.2.2.2
                    clear hO7 hgr7 hgg7))
    all_goals go_wp2_with fail
    all_goals (try simp only [Exit.inBlock, Exit.then])
    all_goals refine bodyPost_ret (results_none rfl _ _ _) rfl ?_
    all_goals exact ⟨rfl, fin7.out.1, fin7.out.2.1⟩
end Go.Proofs.Ytnncedndlhfdkac

/-
  (*impl.merger).take: a new column.
-/
namespace Go.Proofs.Ytnncedndlhfdkac
open Go.ChangeShapes Go.WideShapes Go.ChangeAt Go.RowKit Go.Deep
set_option linter.unusedVariables false
set_option linter.unusedSimpArgs false
set_option maxRecDepth 100000

set_option maxHeartbeats 16000000 in
theorem take_some (S : Nat → Prop) (base mb : Nat) (P : List (Nat × Ent)) (c : ByteArray × ByteArray × ByteArray) (dv : Value) (ds : List (Nat × Int)) (dec : Bool) (ts : Int) (cg cc : Nat) (L : List Ent) (a : Nat) (e : Ent) (w : World)
    (h : MInv S base mb P w c dv ds dec ts cg cc L) (hl : Last P c) (hS : P.Pairwise Lt2) (hP : ∀ p ∈ P, Lt2 p (a, e)) (hin : ∀ k, S k → k < w.heap.size) (hB : base ≤ w.heap.size) (hN : P.length ≤ 1048576) (hcol : ¬ e.col = c) (dg dcap : Nat) (hdv : dv = .slice (some ⟨dg, 0, none⟩) ds.length dcap) :
    Calls Try.prog 43 #[.pointer (some ⟨mb, 0, none⟩), .agg #[.string e.row, .string e.fam, .string e.qual, .int .u64 e.ts, .int .i64 e.kind, .string e.val], .int .i64 a] w fun r w' =>
      r = .returned (.tuple #[]) ∧ MSt S base mb (P ++ [(a, e)]) w' e.col ∧ Chg (Mine mb dv cg) w w' := by
  have H0 : Hid (MInv S base mb P w c dv ds dec ts cg cc L ∧ Last P c ∧ P.Pairwise Lt2 ∧ (∀ p ∈ P, Lt2 p (a, e)) ∧ ∀ k, S k → k < w.heap.size) := ⟨h, hl, hS, hP, hin⟩
  clear h hl hS hP hin
  obtain ⟨Wa, hWa⟩ : ∃ Wa : World, Wa = w.alloc (Obj.cells #[.string e.row, .string e.fam, .string e.qual, .int .u64 e.ts, .int .i64 e.kind, .string e.val] 63) := ⟨_, rfl⟩
  have hba : Below w.heap.size w Wa := by rw [hWa]; exact (Below.refl _ _).alloc (Nat.le_refl _) _
  have hza : Wa.heap.size = w.heap.size + 1 := by rw [hWa]; simp
  have HXa : Hid (EntsAt Wa w.heap.size 0 [e]) := by show EntsAt Wa w.heap.size 0 [e]; rw [hWa]; exact ent_box w e
  have hmb := (H0.out.1.at_.low mb (.inl rfl)).2
  go_enter Try.func43, Try.ntmps43
  go_upto_region 1 with fail
  rw [← hWa]
  clear hWa
  obtain ⟨d0, d1, d2, d3, d4, d5⟩ := HXa.out 0 e rfl
  simp only [Nat.zero_add, Nat.zero_mul] at d0 d1 d2 d3 d4 d5
  go_wp2_with fail
  refine (column_any e _).mono ?_
  rintro e' wb ⟨rfl, hbb⟩
  obtain ⟨W1, hW1⟩ : ∃ W1 : World, W1 = wb.alloc (Obj.cells #[.string e.row, .string e.fam, .string e.qual] 73) := ⟨_, rfl⟩
  have hbc : Below wb.heap.size wb W1 := by rw [hW1]; exact (Below.refl _ _).alloc (Nat.le_refl _) _
  have hsb := hbb.size
  have hsc := hbc.size
  have HX1 : Hid (EntsAt W1 w.heap.size 0 [e]) := (HXa.out.below hbb (by omega)).below hbc (by omega)
  have k1 : Below w.heap.size w W1 := (hba.trans (hbb.mono (by omega))).trans (hbc.mono (by omega))
  have HM1 : Hid (MgAt W1 base mb c dv ds dec ts cg cc L) := H0.out.1.at_.below k1
  have HC1 : Hid (W1.cell? ⟨wb.heap.size, 0, none⟩ = some (.string e.row) ∧ W1.cell? ⟨wb.heap.size, 1, none⟩ = some (.string e.fam) ∧ W1.cell? ⟨wb.heap.size, 2, none⟩ = some (.string e.qual)) := by
    refine ⟨?_, ?_, ?_⟩ <;> (rw [hW1]; simp)
  clear d0 d1 d2 d3 d4 d5
  go_upto_region 2 with fail
  rw [← hW1]
  clear hW1
  obtain ⟨q0, q1, q2⟩ := HC1.out
  obtain ⟨m0, m1, m2, m3, m4, m5, m6, mf⟩ := HM1.out.cell
  obtain ⟨cr, cf, cq⟩ := c
  simp only at m0 m1 m2
  have hne := colNe_run e cr cf cq true (by rw [show (!true) = false from rfl, Bool.eq_false_iff, ne_eq, sameCol_col]; exact hcol)
  go_quiet (fail)
  have hcut : cut0 dv = .slice (some ⟨dg, 0, none⟩) 0 dcap := by rw [hdv]; rfl
  have hcl : ([] : List (Nat × Int)).length = 0 := rfl
  clear hcl
  rw [hdv] at m3
  have HMem : Hid (Mem P e.col ([] : List (Nat × Int)) false ts) := mem_turn H0.out.2.1 H0.out.2.2.1 H0.out.2.2.2.1 hcol ts
  have HCut : Hid (cut0 dv = .slice (some ⟨dg, 0, none⟩) 0 dcap) := hcut
  have f0 := mf 0
  have f1 := mf 1
  have f2 := mf 2
  have f3 := mf 3
  have f4 := mf 4
  obtain ⟨W2, hW2⟩ : ∃ W2 : World, W2 = (((((W1.drewN nq).setCell ⟨mb, 0, none⟩ (.string e.row)).setCell ⟨mb, 1, none⟩ (.string e.fam)).setCell ⟨mb, 2, none⟩ (.string e.qual)).setCell ⟨mb, 3, none⟩ (.slice (some ⟨dg, 0, none⟩) 0 dcap)).setCell ⟨mb, 4, none⟩ (.bool false) := ⟨_, rfl⟩
  have hb1 : Below W1.heap.size W1 (W1.drewN nq) := below_drewN (Below.refl _ _) _
  have hsd := hb1.size
  have hcw : Chg (fun k => k = mb) (W1.drewN nq) W2 := by rw [hW2]; exact ((((Chg.of_set (S := fun k => k = mb) _ _ _ _ rfl).trans (Chg.of_set (S := fun k => k = mb) _ _ _ _ rfl)).trans (Chg.of_set (S := fun k => k = mb) _ _ _ _ rfl)).trans (Chg.of_set (S := fun k => k = mb) _ _ _ _ rfl)).trans (Chg.of_set (S := fun k => k = mb) _ _ _ _ rfl)
  have hse := hcw.size
  have hw2 : w.heap.size < W2.heap.size := by omega
  have hmw : ¬ w.heap.size = mb := by omega
  have HX2 : Hid (EntsAt W2 w.heap.size 0 [e]) := (HX1.out.below hb1 (by omega)).chg hcw (by omega) hmw
  have HM2 : Hid (MgAt W2 base mb e.col (cut0 dv) [] false ts cg cc L) := by
    show MgAt W2 base mb e.col (cut0 dv) [] false ts cg cc L
    rw [hW2, ← hcut]
    have hA := (HM1.out.below hb1).setCol e.col
    exact (hA.setDels hA.dels.cut).setDec false
  have HK2 : Hid (Chg (Mine mb dv cg) w W2) := (Chg.of_below (k1.trans (hb1.mono (by have := k1.size; omega)))).trans (hcw.mono (fun k q => .inl q))
  have HOut : Hid (∀ k, Mine mb (cut0 dv) cg k → ¬ S k) := fun k q => H0.out.1.out k (by unfold Mine at *; rw [cut0_block H0.out.1.at_.dels] at q; exact q)
  go_upto_region 6 with fail
  rw [← hW2]
  clear hW2 q0 q1 q2 m0 m1 m2 m3 m4 m5 m6 mf hne hcol f0 f1 f2 f3 f4 hcut hdv
  obtain ⟨d0, d1, d2, d3, d4, d5⟩ := HX2.out 0 e rfl
  simp only [Nat.zero_add, Nat.zero_mul] at d0 d1 d2 d3 d4 d5
  obtain ⟨m0, m1, m2, m3, m4, m5, m6, mf⟩ := HM2.out.cell
  have hs2 := HK2.out.size
  have HMine : Hid (∀ k, Mine mb (cut0 dv) cg k → Mine mb dv cg k) := fun k q => by unfold Mine at *; rw [cut0_block H0.out.1.at_.dels] at q; exact q
  cases kk : (e.kind == 2)
  · have HK : Hid (¬ e.kind = 2) := by show ¬ e.kind = 2; simpa using kk
    by_cases hd : false = true ∧ ts = e.ts
    · exact absurd hd.1 (by decide)
    · have HD : Hid (¬ (false = true ∧ ts = e.ts)) := hd
      have ht : ∀ b, false = b → b = true → (ts == e.ts) = false := fun b h1 h2 => by simp; exact fun q => hd ⟨h1.trans h2, q⟩
      clear hd
      go_upto_region 8 with fail
      go_cut [58] (fun s wx => s = .bool false ∧ Below W2.heap.size W2 wx)
      case first =>
        go_quiet (fail)
        go_wp2_with fail
        go_meet
        exact ⟨rfl, below_drewN (Below.refl _ _) _⟩
      case rest =>
      obtain ⟨rfl, hb3⟩ := hcut
      have hs3 := hb3.size
      have HM3 : Hid (MgAt wc base mb e.col (cut0 dv) ([] : List (Nat × Int)) false ts cg cc L) := HM2.out.below hb3
      have HK3 : Hid (Chg (Mine mb dv cg) w wc) := HK2.out.trans (Chg.of_below hb3)
      clear m0 m1 m2 m3 m4 m5 m6 mf d0 d1 d2 d3 d4 d5 ht
      obtain ⟨d0, d1, d2, d3, d4, d5⟩ := (HX2.out.below hb3 (by omega)) 0 e rfl
      simp only [Nat.zero_add, Nat.zero_mul] at d0 d1 d2 d3 d4 d5
      obtain ⟨m0, m1, m2, m3, m4, m5, m6, mf⟩ := HM3.out.cell
      obtain ⟨W4, hW4⟩ : ∃ W4 : World, W4 = (wc.setCell ⟨mb, 4, none⟩ (.bool true)).setCell ⟨mb, 5, none⟩ (.int .u64 e.ts) := ⟨_, rfl⟩
      have HM4 : Hid (MgAt W4 base mb e.col (cut0 dv) ([] : List (Nat × Int)) true e.ts cg cc L) := by show MgAt W4 base mb e.col (cut0 dv) ([] : List (Nat × Int)) true e.ts cg cc L; rw [hW4]; exact (HM3.out.setDec true).setTs e.ts
      have hC4 : Chg (fun k => k = mb) wc W4 := by rw [hW4]; exact (Chg.of_set (S := fun k => k = mb) _ _ _ _ rfl).trans (Chg.of_set (S := fun k => k = mb) _ _ _ _ rfl)
      have hs4 := hC4.size
      have HX4 : Hid (EntsAt W4 w.heap.size 0 [e]) := (HX2.out.below hb3 (by omega)).chg hC4 (by omega) (by omega)
      have HK4 : Hid (Chg (Mine mb dv cg) w W4) := HK3.out.trans (hC4.mono (fun k q => .inl q))
      have HMn : Hid (Mem (P ++ [(a, e)]) e.col ([] : List (Nat × Int)) true e.ts) := mem_new HMem.out H0.out.2.2.2.1 HK.out
      cases k0 : (e.kind == 0)
      · have HR : Hid (MSt S base mb (P ++ [(a, e)]) W4 e.col) :=
          ⟨_, _, _, _, _, _, _, HM4.out, HMn.out, shown_skip H0.out.1.shown H0.out.2.2.2.1 (fun q => by have := q.1; simp at k0; exact k0 this), HOut.out, by have := H0.out.1.short; simp; omega⟩
        go_wp2_with fail
        rw [← hW4]
        go_end0
        exact ⟨rfl, HR.out, HK4.out⟩
      · go_upto_region 11 with fail
        rw [← hW4]
        clear hW4 m0 m1 m2 m3 m4 m5 m6 mf d0 d1 d2 d3 d4 d5
        obtain ⟨d0, d1, d2, d3, d4, d5⟩ := HX4.out 0 e rfl
        simp only [Nat.zero_add, Nat.zero_mul] at d0 d1 d2 d3 d4 d5
        go_wp2_with fail
        refine (hides_core base mb e.col (cut0 dv) ([] : List (Nat × Int)) true e.ts cg cc L e.ts a _ HM4.out (by have := HMem.out.len; omega)).mono ?_
        rintro e' w5 ⟨rfl, hb5⟩
        have hs5 := hb5.size
        have HM5 : Hid (MgAt w5 base mb e.col (cut0 dv) ([] : List (Nat × Int)) true e.ts cg cc L) := HM4.out.below hb5
        have HK5 : Hid (Chg (Mine mb dv cg) w w5) := HK4.out.trans (Chg.of_below hb5)
        have HX5 : Hid (EntsAt w5 w.heap.size 0 [e]) := HX4.out.below hb5 (by omega)
        have HOv : Hid (Over P a e ↔ hides ([] : List (Nat × Int)) e.ts a = true) := over_hides HMem.out H0.out.2.2.2.1 HK.out HD.out
        clear d0 d1 d2 d3 d4 d5
        cases hh : hides ([] : List (Nat × Int)) e.ts a
        · obtain ⟨d0, d1, d2, d3, d4, d5⟩ := HX5.out 0 e rfl
          simp only [Nat.zero_add, Nat.zero_mul] at d0 d1 d2 d3 d4 d5
          obtain ⟨m0, m1, m2, m3, m4, m5, m6, mf⟩ := HM5.out.cell
          go_upto_region 12 with fail
          have nmb : mb ≠ w.heap.size := by omega
          have hLl : L.length ≤ 2 ^ 30 := by have := H0.out.1.short; omega
          have hbs : base ≤ w5.heap.size := by omega
          have ncg : cg ≠ w.heap.size := by have := (H0.out.1.at_.low cg (.inr (.inr rfl))).2; omega
          have nmc : mb ≠ cg := fun q => HM5.out.apart.2.1 q.symm
          have hcl : cg < w5.heap.size := (HM5.out.low cg (.inr (.inr rfl))).2
          have hml : mb < w5.heap.size := (HM5.out.low mb (.inl rfl)).2
          have HSp : Hid (Shown (P ++ [(a, e)]) (L ++ [e])) := shown_put H0.out.1.shown H0.out.2.2.2.1 (by simpa using k0) (fun q => by have := HOv.out.1 q; rw [hh] at this; cases this)
          go_region_law ((first
              | (go_simp; go_at_call 66; refine (implCell_any e _).mono ?_; rintro e' w6 ⟨rfl, hb6⟩; have hq6 : Below w5.heap.size w5 w6 := ((Below.refl w5.heap.size w5).drew).trans hb6; obtain ⟨y0, y1, y2, y3, y4, y5⟩ := (HX5.out.below hq6 (by omega)) 0 e rfl; simp only [Nat.zero_add, Nat.zero_mul] at y0 y1 y2 y3 y4 y5; have m6' := (HM5.out.below hq6).cell.2.2.2.2.2.2.1; have m6a : ∀ o, (w6.alloc o).cell? ⟨mb, 6, none⟩ = some (.slice (some ⟨cg, 0, none⟩) L.length cc) := fun o => by { rw [((Below.refl w6.heap.size w6).alloc (Nat.le_refl _) o).cell (p := ⟨mb, 6, none⟩) (Nat.lt_of_lt_of_le hml hq6.size)]; exact m6' })
              | (refine step_append_cel _ (by rfl) _ _ (by rfl) base cg cc w6.heap.size L e (by rfl) (by rfl) ?hO ?hc hLl ?hb ?_
                 case hO => exact (HM5.out.below hq6).cells.below ((Below.refl _ _).alloc (Nat.le_refl _) _) (Nat.lt_of_lt_of_le hcl hq6.size)
                 case hc => exact cel_new w6 e
                 case hb => exact Nat.le_trans hbs (Nat.le_trans hq6.size (by simp))
                 intro g7 cp7 w7 hO7 hgr7 hgg7
                 have fin7 : Hid (MSt S base mb (P ++ [(a, e)]) (w7.setCell ⟨mb, 6, none⟩ (.slice (some ⟨g7, 0, none⟩) (L.length + 1) cp7)) e.col ∧ Chg (Mine mb dv cg) w (w7.setCell ⟨mb, 6, none⟩ (.slice (some ⟨g7, 0, none⟩) (L.length + 1) cp7))) := by { have hpf := put_fin HM5.out hq6 hO7 hgr7 (by simpa using hgg7) HMn.out HSp.out HOut.out (fun k hk => by have := H0.out.2.2.2.2 k hk; omega) H0.out.1.short; exact ⟨hpf.1, HK5.out.trans (hpf.2.mono HMine.out)⟩ }
                 have hm7 := (HM5.out.below hq6).below ((Below.refl w6.heap.size w6).alloc (Nat.le_refl _) (Obj.cells #[.string e.row, .string e.fam, .string e.qual, .int .u64 e.ts, .string e.val] 69))
                 have hc7 : Chg (fun k => k = cg) (w6.alloc (Obj.cells #[.string e.row, .string e.fam, .string e.qual, .int .u64 e.ts, .string e.val] 69)) w7 := Chg.of_grown hgr7 (fun k hk => by cases hk; rfl)
                 have m7 : w7.cell? ⟨mb, 6, none⟩ = some (.slice (some ⟨cg, 0, none⟩) L.length cc) := by rw [hc7.cell (p := ⟨mb, 6, none⟩) (hm7.low mb (.inl rfl)).2 nmc]; exact hm7.cell.2.2.2.2.2.2.1
                 have f7 : w7.frozen? ⟨mb, 6, none⟩ = false := by rw [hc7.frozen (p := ⟨mb, 6, none⟩) (hm7.low mb (.inl rfl)).2 nmc]; exact hm7.cell.2.2.2.2.2.2.2 6
                 clear hm7 hc7 hO7 hgr7 hgg7)))
          all_goals go_end0
          all_goals exact ⟨rfl, fin7.out.1, fin7.out.2⟩
        · have HR : Hid (MSt S base mb (P ++ [(a, e)]) w5 e.col) :=
            ⟨_, _, _, _, _, _, _, HM5.out, HMn.out, shown_skip H0.out.1.shown H0.out.2.2.2.1 (fun q => q.2 (HOv.out.2 hh)), HOut.out, by have := H0.out.1.short; simp; omega⟩
          go_wp2_with fail
          go_end0
          exact ⟨rfl, HR.out, HK5.out⟩
  · have HK : Hid (e.kind = 2) := by show e.kind = 2; simpa using kk
    have hdl : ([] : List (Nat × Int)).length ≤ 2 ^ 30 := by have := HMem.out.len; omega
    have hbs : base ≤ W2.heap.size := by omega
    have HMn : Hid (Mem (P ++ [(a, e)]) e.col (([] : List (Nat × Int)) ++ [(a, e.ts)]) false ts) := mem_del HMem.out HK.out
    have HSp : Hid (Shown (P ++ [(a, e)]) L) := shown_skip H0.out.1.shown H0.out.2.2.2.1 (fun q => by have := q.1; have := HK.out; omega)
    have hml : mb < W2.heap.size := (HM2.out.low mb (.inl rfl)).2
    have f3 := mf 3
    go_upto_region 7 with fail
    go_region_law ((refine step_append_del _ (by rfl) _ _ (by rfl) base W2.heap.size (cut0 dv) ([] : List (Nat × Int)) a e.ts (by rfl) (by rfl) ?hO ?h0 ?h1 hdl ?hb ?_
                    case hO => exact own_chg (S := fun _ => False) HM2.out.dels (Chg.of_below (((Below.refl W2.heap.size W2).drew).alloc (Nat.le_refl _) _)) (fun k _ q => q)
                    case h0 => simp
                    case h1 => simp
                    case hb => exact Nat.le_trans hbs (by simp)
                    intro g7 cp7 w7 hO7 hgr7 hgg7
                    have fin7 : Hid (MSt S base mb (P ++ [(a, e)]) (w7.setCell ⟨mb, 3, none⟩ (.slice (some ⟨g7, 0, none⟩) (([] : List (Nat × Int)).length + 1) cp7)) e.col ∧ Chg (Mine mb dv cg) w (w7.setCell ⟨mb, 3, none⟩ (.slice (some ⟨g7, 0, none⟩) (([] : List (Nat × Int)).length + 1) cp7)) ∧ w7.cell? ⟨mb, 3, none⟩ = some (cut0 dv) ∧ w7.frozen? ⟨mb, 3, none⟩ = false) := by { have hpf := del_fin HM2.out (((Below.refl W2.heap.size W2).drew).alloc (Nat.le_refl _) _) hO7 hgr7 (by simpa using hgg7) HMn.out HSp.out HOut.out (fun k hk => by have := H0.out.2.2.2.2 k hk; omega) H0.out.1.short; exact ⟨hpf.1, HK2.out.trans (hpf.2.1.mono HMine.out), hpf.2.2.1, hpf.2.2.2⟩ }
                    have m7 := fin7.out.2.2.1
                    have f7 := fin7.out.2.2.2
                    clear hO7 hgr7 hgg7))
    all_goals go_wp2_with fail
    all_goals (try simp only [Exit.inBlock, Exit.then])
    all_goals refine bodyPost_ret (results_none rfl _ _ _) rfl ?_
    all_goals exact ⟨rfl, fin7.out.1, fin7.out.2.1⟩
end Go.Proofs.Ytnncedndlhfdkac

/-
  impl.MergeRuns.
-/
namespace Go.Proofs.Ytnncedndlhfdkac
open Go.ChangeShapes Go.WideShapes Go.ChangeAt Go.RowKit Go.Deep
set_option linter.unusedVariables false
set_option linter.unusedSimpArgs false
set_option maxRecDepth 100000

theorem take_core (S : Nat → Prop) (base mb : Nat) (P : List (Nat × Ent)) (c : ByteArray × ByteArray × ByteArray) (dv : Value) (ds : List (Nat × Int)) (dec : Bool) (ts : Int) (cg cc : Nat) (L : List Ent) (a : Nat) (e : Ent) (w : World)
    (h : MInv S base mb P w c dv ds dec ts cg cc L) (hl : Last P c) (hS : P.Pairwise Lt2) (hP : ∀ p ∈ P, Lt2 p (a, e)) (hin : ∀ k, S k → k < w.heap.size) (hB : base ≤ w.heap.size) (hN : P.length ≤ 1048576) :
    Calls Try.prog 43 #[.pointer (some ⟨mb, 0, none⟩), .agg #[.string e.row, .string e.fam, .string e.qual, .int .u64 e.ts, .int .i64 e.kind, .string e.val], .int .i64 a] w fun r w' =>
      r = .returned (.tuple #[]) ∧ MSt S base mb (P ++ [(a, e)]) w' e.col ∧ Chg (Mine mb dv cg) w w' := by
  by_cases hcol : e.col = c
  · exact take_same S base mb P c dv ds dec ts cg cc L a e w h hl hS hP hin hB hN hcol
  · rcases h.at_.dels.2 with ⟨hdv, _⟩ | ⟨dg, dcap, cur, hdv, _⟩
    · exact take_nil S base mb P c dv ds dec ts cg cc L a e w h hl hS hP hin hB hN hcol hdv
    · exact take_some S base mb P c dv ds dec ts cg cc L a e w h hl hS hP hin hB hN hcol dg dcap hdv

theorem MSt.chg {S : Nat → Prop} {base mb : Nat} {P : List (Nat × Ent)} {w w' : World} {c : ByteArray × ByteArray × ByteArray} (h : MSt S base mb P w c) (hb : Chg S w w') : MSt S base mb P w' c := by
  obtain ⟨dv, ds, dec, ts, cg, cc, L, hR⟩ := h
  exact ⟨dv, ds, dec, ts, cg, cc, L, ⟨hR.at_.chg hb hR.out, hR.mem, hR.shown, hR.out, hR.short⟩⟩
theorem HeapW.chg {T : Nat → Prop} {w w' : World} {hp base g cap : Nat} {d : Array Cu} (h : HeapW w hp base g cap d) (hb : Chg T w w') (h1 : ¬ T hp) (h2 : ¬ T g) (h3 : ∀ c ∈ d, ¬ T c.blk) (h4 : ∀ k, T k → base ≤ k) : HeapW w' hp base g cap d where
  hdr := by rw [hb.cell (p := ⟨hp, 0, none⟩) h.lt h1]; exact h.hdr
  free := fun j => by rw [hb.frozen (p := ⟨hp, j, none⟩) h.lt h1]; exact h.free j
  lt := by have := hb.size; have := h.lt; omega
  ne := h.ne
  row := own_chg h.row hb (fun k q => by simp [Value.ownBlock] at q; subst q; exact h2)
  own := h.own
  cur := fun c hc => (h.cur c hc).chg hb (h3 c hc) (fun q => by have := h4 _ q; have := h.low c hc; omega)
  low := h.low
  high := h.high
theorem HeapOk.chg {A : Nat → Ent → Prop} {N : Nat} {S T : Nat → Prop} {hp base g cap : Nat} {w w' : World} {P : List (Nat × Ent)} {d : Array Cu} (h : HeapOk A N S hp base g cap w P d) (hb : Chg T w w') (hST : ∀ k, S k → ¬ T k) (h4 : ∀ k, T k → base ≤ k) : HeapOk A N S hp base g cap w' P d :=
  { h with mem := h.mem.chg hb (hST _ h.inH) (hST _ h.inG) (fun c hc => hST _ (h.inC c hc)) h4 }

/-- How the merging stands. -/
structure GInv (A : Nat → Ent → Prop) (N : Nat) (S : Nat → Prop) (hp g cap mb : Nat) (W : World) (w : World) (P : List (Nat × Ent)) (d : Array Cu) (c : ByteArray × ByteArray × ByteArray) : Prop where
  heap : HeapOk A N S hp W.heap.size g cap w P d
  mst : MSt S W.heap.size mb P w c
  last : Last P c
  below : Below W.heap.size W w
  inS : ∀ k, S k → k < w.heap.size
  lowS : ∀ k, S k → W.heap.size ≤ k
  short : N ≤ 1048576
theorem GInv.below' {A : Nat → Ent → Prop} {N : Nat} {S : Nat → Prop} {hp g cap mb : Nat} {W w w' : World} {P : List (Nat × Ent)} {d : Array Cu} {c : ByteArray × ByteArray × ByteArray} (h : GInv A N S hp g cap mb W w P d c) (hb : Below w.heap.size w w') : GInv A N S hp g cap mb W w' P d c :=
  ⟨{ h.heap with mem := h.heap.mem.below hb }, h.mst.below hb, h.last, h.below.trans (hb.mono h.below.size), fun k q => by have := h.inS k q; have := hb.size; omega, h.lowS, h.short⟩
theorem Flow.len {A : Nat → Ent → Prop} {N : Nat} {P : List (Nat × Ent)} {l : List (Nat × List Ent)} (h : Flow A N P l) : P.length ≤ N := by have := h.count; omega

/-- The entry at the top is taken. -/
theorem take_top {A : Nat → Ent → Prop} {N : Nat} {S : Nat → Prop} {hp g cap mb : Nat} {W w : World} {P : List (Nat × Ent)} {c : Cu} {t : List Cu} {co : ByteArray × ByteArray × ByteArray} (h : GInv A N S hp g cap mb W w P ⟨c :: t⟩ co) :
    Calls Try.prog 43 #[.pointer (some ⟨mb, 0, none⟩), .agg #[.string c.head.row, .string c.head.fam, .string c.head.qual, .int .u64 c.head.ts, .int .i64 c.head.kind, .string c.head.val], .int .i64 c.age] w fun r w' =>
      r = .returned (.tuple #[]) ∧ HeapOk A N S hp W.heap.size g cap w' P ⟨c :: t⟩ ∧ MSt S W.heap.size mb (P ++ [(c.age, c.head)]) w' c.head.col ∧ Below W.heap.size W w' ∧ w.heap.size ≤ w'.heap.size := by
  obtain ⟨dv, ds, dec, ts, cg, cc, L, hR⟩ := h.mst
  have hfm := flow_min h.heap.heap (fun x hx => (h.heap.mem.cur x (by simpa using hx)).here) h.heap.flow
  refine (take_core S W.heap.size mb P co dv ds dec ts cg cc L c.age c.head w hR h.last h.heap.flow.sorted hfm.1 h.inS h.below.size (Nat.le_trans h.heap.flow.len h.short)).mono ?_
  rintro e w' ⟨he, hm, hc⟩
  have hlow : ∀ k, Mine mb dv cg k → W.heap.size ≤ k := fun k q => (hR.at_.low k q).1
  exact ⟨he, h.heap.chg hc (fun k hk q => hR.out k q hk) hlow, hm, Chg.below h.below hc h.below.size hlow, hc.size⟩
/-- And the heap goes on. -/
theorem step_top {A : Nat → Ent → Prop} {N : Nat} {S : Nat → Prop} {hp g cap mb : Nat} {W w : World} {P : List (Nat × Ent)} {c : Cu} {t : List Cu} (h : HeapOk A N S hp W.heap.size g cap w P ⟨c :: t⟩) (hm : MSt S W.heap.size mb (P ++ [(c.age, c.head)]) w c.head.col) (hb : Below W.heap.size W w) (hi : ∀ k, S k → k < w.heap.size) (hl : ∀ k, S k → W.heap.size ≤ k) (hn : N ≤ 1048576) :
    Calls Try.prog 44 #[.pointer (some ⟨hp, 0, none⟩)] w fun e w' => e = .returned (.tuple #[]) ∧ ∃ d', GInv A N S hp g cap mb W w' (P ++ [(c.age, c.head)]) d' c.head.col := by
  refine (step_core A N S hp W.heap.size g cap w P c t h).mono ?_
  rintro e w' ⟨he, d', hH, hC⟩
  exact ⟨he, d', ⟨hH, hm.chg hC, last_push P c.age c.head, Chg.below hb hC hb.size hl, fun k q => by have := hi k q; have := hC.size; omega, hl, hn⟩⟩
end Go.Proofs.Ytnncedndlhfdkac

/-
  impl.MergeRuns, walked.
-/
namespace Go.Proofs.Ytnncedndlhfdkac
open Go.ChangeShapes Go.WideShapes Go.ChangeAt Go.RowKit Go.Deep
set_option linter.unusedVariables false
set_option linter.unusedSimpArgs false
set_option maxRecDepth 100000

theorem mg_new (w : World) (cg : Nat) (base : Nat) (hb : base ≤ w.heap.size) (hc : OwnC w base cg 0 []) (hn : cg < w.heap.size) :
    MgAt (w.alloc (Obj.cells #[.string ⟨#[]⟩, .string ⟨#[]⟩, .string ⟨#[]⟩, .slice none 0 0, .bool false, .int .u64 0, .slice (some ⟨cg, 0, none⟩) 0 0] 76)) base w.heap.size (⟨#[]⟩, ⟨#[]⟩, ⟨#[]⟩) (.slice none 0 0) [] false 0 cg 0 [] where
  own := World.ownsRow_lit (base := base) (e := 76) (size := 7) w #[.string ⟨#[]⟩, .string ⟨#[]⟩, .string ⟨#[]⟩, .slice none 0 0, .bool false, .int .u64 0, .slice (some ⟨cg, 0, none⟩) 0 0] 1 hb (by decide) rfl
  dels := ⟨rfl, .inl ⟨rfl, rfl⟩⟩
  cells := hc.below ((Below.refl _ _).alloc (Nat.le_refl _) _) hn

theorem OwnH.mono {w : World} {base base' g cap : Nat} {d : Array Cu} (h : OwnH w base g cap d) (hb : base' ≤ base) : OwnH w base' g cap d := by
  refine ⟨h.1, ?_⟩
  rcases h.2 with hn | ⟨g', cap', cur, hv, h1, rest⟩
  · exact .inl hn
  · exact .inr ⟨g', cap', cur, hv, Nat.le_trans hb h1, rest⟩
/-- What stands when the heap is opened. -/
theorem ginv_start {l : List Rm} {lo hi : ByteArray} {hh : Bool} {W w3 w4 : World} {b off g cp mb cg : Nat} {d : Array Cu} (hR : RmsAt W b off l) (hG : GoodRs (esM l)) (k3 : Below W.heap.size W w3) (hM : MgAt w3 W.heap.size mb (⟨#[]⟩, ⟨#[]⟩, ⟨#[]⟩) (.slice none 0 0) [] false 0 cg 0 [])
    (hrow : RowOk w4 w3.heap.size g cp d) (hh' : Heap d) (ho : OpenTo l lo hh hi l.length d.toList) (hb4 : Below w3.heap.size w3 w4) :
    ∃ (A : Nat → Ent → Prop) (N : Nat) (S : Nat → Prop), GInv A N S w4.heap.size g cp mb W (w4.alloc (Obj.cells #[.slice (some ⟨g, 0, none⟩) d.size cp] 78)) [] d (⟨#[]⟩, ⟨#[]⟩, ⟨#[]⟩) ∧ (∀ P L, Flow A N P [] → Shown P L → Mrg (esM l) (inR lo hh hi) L) := by
  have hbA : Below w4.heap.size w4 (w4.alloc (Obj.cells #[.slice (some ⟨g, 0, none⟩) d.size cp] 78)) := (Below.refl _ _).alloc (Nat.le_refl _) _
  have hzA : (w4.alloc (Obj.cells #[.slice (some ⟨g, 0, none⟩) d.size cp] 78)).heap.size = w4.heap.size + 1 := by simp
  have s3 := k3.size
  have s4 := hb4.size
  have hgl := hrow.row.lt
  have hfree : ∀ j, (w4.alloc (Obj.cells #[.slice (some ⟨g, 0, none⟩) d.size cp] 78)).frozen? ⟨w4.heap.size, j, none⟩ = false := fun j =>
    World.ownsRow.frozenAt (World.ownsRow_lit (base := 0) (e := 78) (size := 1) w4 #[.slice (some ⟨g, 0, none⟩) d.size cp] 1 (Nat.zero_le _) (by decide) rfl) j
  have hmine : ∀ k, Mine mb (.slice none 0 0) cg k → k < w3.heap.size := fun k q => (hM.low k q).2
  refine ⟨_, _, fun k => k = g ∨ k = w4.heap.size ∨ ∃ c ∈ d, k = c.blk, ⟨⟨?_, hh', flow_open ho, ho.blks, .inl rfl, .inr (.inl rfl), fun c hc => .inr (.inr ⟨c, hc, rfl⟩), ?_⟩, ⟨.slice none 0 0, [], false, 0, cg, 0, [], ?_⟩, last_nil _, ?_, ?_, ?_, ?_⟩, ?_⟩
  · exact {
      hdr := by simp
      free := hfree
      lt := by omega
      ne := by omega
      row := OwnH.mono (hrow.row.below hbA hgl.2) s3
      own := by omega
      cur := fun c hc => (hrow.cur c hc).below hbA
      low := fun c hc => by
        obtain ⟨r, hr, q⟩ := ho.src c (by simpa using hc)
        obtain ⟨i, hi⟩ := List.getElem?_of_mem hr
        have := (hR i r hi).2.lt
        omega
      high := fun c hc => by
        have h1 := hrow.high c hc
        have h2 := (hrow.cur c hc).lt
        exact ⟨by omega, h1.2, by omega⟩ }
  · have h1 := ho.few
    have h2 := hG.1
    simp at h1 h2
    omega
  · refine ⟨(hM.below hb4).below hbA, mem_nil _ _, shown_nil, ?_, by simp⟩
    intro k q
    have h1 := hmine k q
    rintro (q | q | ⟨c, hc, q⟩)
    · omega
    · omega
    · have h2 := (hrow.high c hc).1
      omega
  · exact (k3.trans (hb4.mono s3)).trans (hbA.mono (by omega))
  · rintro k (q | q | ⟨c, hc, q⟩)
    · omega
    · omega
    · have h2 := (hrow.cur c hc).lt
      omega
  · rintro k (q | q | ⟨c, hc, q⟩)
    · omega
    · omega
    · have h2 := (hrow.high c hc).1
      omega
  · have h1 := ho.sum
    have h2 := hG.1
    simp at h2
    omega
  · intro P L hF hS
    exact shown_all hS hF.done

set_option maxHeartbeats 8000000 in
theorem implMerge_core (b off cap : Nat) (l : List Rm) (lo hi : ByteArray) (hh : Bool) (w : World) (hR : RmsAt w b off l) (hok : okM l) (hB : b < w.heap.size) (hlen : l.length ≤ 1048576) :
    Calls Try.prog 12 #[.slice (some ⟨b, off, none⟩) l.length cap, .agg #[.string lo, .bool hh, .string hi]] w fun r w' =>
      ∃ (g cp : Nat) (L : List Ent), r = .returned (.slice (some ⟨g, 0, none⟩) L.length cp) ∧ OwnC w' w.heap.size g cp L ∧ Below w.heap.size w w' ∧ MrgOf (esM l) (inR lo hh hi) L := by
  have HR : Hid (RmsAt w b off l) := hR
  have HO : Hid (okM l) := hok
  clear hR hok
  obtain ⟨Wa, hWa⟩ : ∃ Wa : World, Wa = w.alloc (Obj.cells #[.string lo, .bool hh, .string hi] 31) := ⟨_, rfl⟩
  have hba : Below w.heap.size w Wa := by rw [hWa]; exact (Below.refl _ _).alloc (Nat.le_refl _) _
  have hza : Wa.heap.size = w.heap.size + 1 := by rw [hWa]; simp
  have HGa : Hid (Wa.cell? ⟨w.heap.size, 0, none⟩ = some (.string lo) ∧ Wa.cell? ⟨w.heap.size, 1, none⟩ = some (.bool hh) ∧ Wa.cell? ⟨w.heap.size, 2, none⟩ = some (.string hi)) := by
    refine ⟨?_, ?_, ?_⟩ <;> (rw [hWa]; simp)
  have HRa : Hid (RmsAt Wa b off l) := HR.out.below hba hB
  go_enter Try.func12, Try.ntmps12
  go_wp2_with fail
  rw [← hWa]
  clear hWa
  refine (validStack_core b off cap l _ HRa.out HO.out (by omega) hlen).mono ?_
  rintro e w1 ⟨r, rfl, hr, hb1⟩
  have HG : Hid (r = true ↔ GoodRs (esM l)) := hr
  clear hr
  have hs1 := hb1.size
  have k1 : Below w.heap.size w w1 := hba.trans (hb1.mono (by omega))
  cases r
  · have HN : Hid (¬ GoodRs (esM l)) := fun h => Bool.noConfusion (HG.out.2 h)
    have HC : Hid (OwnC (w1.alloc (Obj.cells #[] 69)) w.heap.size w1.heap.size 0 []) := (ownC_new w1).mono (by omega)
    go_wp2_with fail
    go_ret
    exact ⟨_, 0, [], rfl, HC.out, k1.alloc (by omega) _, fun h => absurd h HN.out, fun _ => rfl⟩
  have HGd : Hid (GoodRs (esM l)) := HG.out.1 rfl
  clear HG
  obtain ⟨W2, hW2⟩ : ∃ W2 : World, W2 = w1.alloc (Obj.cells #[] 69) := ⟨_, rfl⟩
  have hb2 : Below w1.heap.size w1 W2 := by rw [hW2]; exact (Below.refl _ _).alloc (Nat.le_refl _) _
  have hz2 : W2.heap.size = w1.heap.size + 1 := by rw [hW2]; simp
  have HC2 : Hid (OwnC W2 w.heap.size w1.heap.size 0 []) := by show OwnC W2 w.heap.size w1.heap.size 0 []; rw [hW2]; exact (ownC_new w1).mono (by omega)
  obtain ⟨W3, hW3⟩ : ∃ W3 : World, W3 = W2.alloc (Obj.cells #[.string ⟨#[]⟩, .string ⟨#[]⟩, .string ⟨#[]⟩, .slice none 0 0, .bool false, .int .u64 0, .slice (some ⟨w1.heap.size, 0, none⟩) 0 0] 76) := ⟨_, rfl⟩
  have hb3 : Below W2.heap.size W2 W3 := by rw [hW3]; exact (Below.refl _ _).alloc (Nat.le_refl _) _
  have hz3 : W3.heap.size = W2.heap.size + 1 := by rw [hW3]; simp
  have HM3 : Hid (MgAt W3 w.heap.size (w1.heap.size + 1) (⟨#[]⟩, ⟨#[]⟩, ⟨#[]⟩) (.slice none 0 0) [] false 0 w1.heap.size 0 []) := by
    show MgAt W3 _ _ _ _ _ _ _ _ _ _
    rw [hW3, ← hz2]; exact mg_new W2 w1.heap.size w.heap.size (by omega) HC2.out (by omega)
  have k13 : Below w1.heap.size w1 W3 := hb2.trans (hb3.mono (by omega))
  have k3 : Below w.heap.size w W3 := k1.trans (k13.mono (by omega))
  have HR3 : Hid (RmsAt W3 b off l) := HR.out.below k3 hB
  have HG3 : Hid (W3.cell? ⟨w.heap.size, 0, none⟩ = some (.string lo) ∧ W3.cell? ⟨w.heap.size, 1, none⟩ = some (.bool hh) ∧ W3.cell? ⟨w.heap.size, 2, none⟩ = some (.string hi)) := by
    have hy : Below Wa.heap.size Wa W3 := hb1.trans (k13.mono (by omega))
    refine ⟨?_, ?_, ?_⟩
    · rw [hy.cell (p := ⟨w.heap.size, 0, none⟩) (by show w.heap.size < Wa.heap.size; omega)]; exact HGa.out.1
    · rw [hy.cell (p := ⟨w.heap.size, 1, none⟩) (by show w.heap.size < Wa.heap.size; omega)]; exact HGa.out.2.1
    · rw [hy.cell (p := ⟨w.heap.size, 2, none⟩) (by show w.heap.size < Wa.heap.size; omega)]; exact HGa.out.2.2
  have s3 := k3.size
  go_upto_region 4 with fail
  rw [← hW2, ← hW3]
  clear hW2 hW3
  generalize w1.heap.size + 1 = mb at *
  obtain ⟨q0, q1, q2⟩ := HG3.out
  go_wp2_with fail
  refine (openCursors_core b off cap l lo hi hh _ HR3.out HGd.out (by omega)).mono ?_
  rintro e w4 ⟨g, cp, d0, rfl, hrow, hhp, hop, hb4⟩
  obtain ⟨A, N, S, hI0, hfin⟩ := ginv_start HR.out HGd.out k3 HM3.out hrow hhp hop hb4
  have HI0 : Hid (GInv A N S w4.heap.size g cp mb w (w4.alloc (Obj.cells #[.slice (some ⟨g, 0, none⟩) d0.size cp] 78)) [] d0 (⟨#[]⟩, ⟨#[]⟩, ⟨#[]⟩)) := hI0
  have HFin : Hid (∀ P L, Flow A N P [] → Shown P L → Mrg (esM l) (inR lo hh hi) L) := hfin
  clear hrow hhp hop hI0 hfin q0 q1 q2
  obtain ⟨W5, hW5⟩ : ∃ W5 : World, W5 = w4.alloc (Obj.cells #[.slice (some ⟨g, 0, none⟩) d0.size cp] 78) := ⟨_, rfl⟩
  rw [← hW5] at HI0
  go_wp2_with fail
  rw [← hW5]
  clear hW5
  generalize w4.heap.size = hp at *
  go_loopg [] (N + 1) (fun kx wr => ∃ (P : List (Nat × Ent)) (d : Array Cu) (c : ByteArray × ByteArray × ByteArray), N - P.length ≤ kx ∧ GInv A N S hp g cp mb w wr P d c)
  case atStart => exact ⟨[], d0, _, by simp, HI0.out⟩
  case round =>
    obtain ⟨P, d, co, hkx, hI⟩ := hrel
    have HI : Hid (GInv A N S hp g cp mb w wr P d co) := hI
    clear hI HI0
    have c0 := HI.out.heap.mem.hdr
    by_cases hd : d.size = 0
    · have hdn : d = #[] := Array.eq_empty_of_size_eq_zero hd
      obtain ⟨dv, ds, dec, ts, cg, cc, L, hR'⟩ := HI.out.mst
      have c6 := hR'.at_.cell.2.2.2.2.2.2.1
      have HF : Hid (OwnC wr w.heap.size cg cc L ∧ Below w.heap.size w wr ∧ MrgOf (esM l) (inR lo hh hi) L) := by
        refine ⟨hR'.at_.cells, HI.out.below, fun _ => HFin.out P L ?_ hR'.shown, fun h => absurd HGd.out h⟩
        have := HI.out.heap.flow
        rw [hdn] at this
        exact this
      rw [hd] at c0
      clear hR' hdn hd
      go_wp2_with fail
      refine (len_core _ _ _ _).mono ?_
      rintro e wx ⟨rfl, rfl⟩
      go_wp2_with fail
      go_ret
      exact ⟨cg, cc, L, rfl, HF.out.1, HF.out.2.1, HF.out.2.2⟩
    · obtain ⟨c, t, rfl⟩ : ∃ c t, d = (⟨c :: t⟩ : Array Cu) := by
        obtain ⟨dl⟩ := d
        cases dl with
        | nil => exact absurd rfl hd
        | cons c t => exact ⟨c, t, rfl⟩
      have hc0 : wr.cell? ⟨hp, 0, none⟩ = some (.slice (some ⟨g, 0, none⟩) (t.length + 1) cp) := c0
      have hc1 : wr.cell? ⟨g, 0, none⟩ = some (ifc c) := HI.out.heap.mem.row.cell (i := 0) (by simp)
      have HC : Hid (CuAt wr c) := HI.out.heap.mem.cur c (by simp)
      have hPN : P.length + 1 ≤ N := by
        have := (flow_min HI.out.heap.heap (fun x hx => (HI.out.heap.mem.cur x (by simpa using hx)).here) HI.out.heap.flow).2.len
        simpa using this
      clear c0 hd
      go_wp2_with fail
      refine (len_core _ _ _ _).mono ?_
      rintro e wx ⟨rfl, rfl⟩
      have zt : (0 : Int) < ((t.length + 1 : Nat) : Int) := by omega
      have mE := meth_entry
      have mA := meth_age
      go_upto_region 6 with fail
      go_region_held3 (fun w' => w'.cell? ⟨hp, 0, none⟩ = some (.slice (some ⟨g, 0, none⟩) (t.length + 1) cp) ∧ w'.cell? ⟨g, 0, none⟩ = some (.iface 117 (.pointer (some ⟨c.blk, 0, none⟩)))) (go_keep)
        ((first
          | (go_at_call 149; refine (entry_core c _ (HC.out.below ((Below.refl _ _).drew))).mono ?_; rintro e' w6 ⟨rfl, hb6⟩; have hq6 : Below wx.heap.size wx w6 := ((Below.refl wx.heap.size wx).drew).trans hb6; have y0 := (HI.out.below' hq6).heap.mem.hdr; have y1 : w6.cell? ⟨g, 0, none⟩ = some (.iface 117 (.pointer (some ⟨c.blk, 0, none⟩))) := (HI.out.below' hq6).heap.mem.row.cell (i := 0) (by simp))
          | (go_at_call 148; refine (age_core c _ (HC.out.below hq6)).mono ?_; rintro e' w7 ⟨rfl, hb7⟩; have hq7 : Below wx.heap.size wx w7 := hq6.trans (hb7.mono hq6.size); have y2 := (HI.out.below' hq7).heap.mem.hdr; have y3 : w7.cell? ⟨g, 0, none⟩ = some (.iface 117 (.pointer (some ⟨c.blk, 0, none⟩))) := (HI.out.below' hq7).heap.mem.row.cell (i := 0) (by simp))
          | (go_at_call 43; refine (take_top (HI.out.below' hq7)).mono ?_; rintro e' w8 ⟨rfl, hH8, hM8, hB8, hS8⟩; have y4 := hH8.mem.hdr; have y5 : w8.cell? ⟨g, 0, none⟩ = some (.iface 117 (.pointer (some ⟨c.blk, 0, none⟩))) := hH8.mem.row.cell (i := 0) (by simp); have H8 : Hid (HeapOk A N S hp w.heap.size g cp w8 P ⟨c :: t⟩ ∧ MSt S w.heap.size mb (P ++ [(c.age, c.head)]) w8 c.head.col ∧ Below w.heap.size w w8 ∧ wx.heap.size ≤ w8.heap.size) := ⟨hH8, hM8, hB8, Nat.le_trans hq7.size hS8⟩; clear hH8 hM8 hB8 hS8)))
      go_wp2_with fail
      refine (step_top H8.out.1 H8.out.2.1 H8.out.2.2.1 (fun k q => by have := HI.out.inS k q; have := H8.out.2.2.2; omega) HI.out.lowS HI.out.short).mono ?_
      rintro e' w9 ⟨rfl, d', hN9⟩
      have H9 : Hid (GInv A N S hp g cp mb w w9 (P ++ [(c.age, c.head)]) d' c.head.col) := hN9
      clear hN9
      go_wp2_with fail
      go_roundg (N - (P.length + 1))
      case measure => omega
      case rel => exact ⟨P ++ [(c.age, c.head)], d', c.head.col, by simp, H9.out⟩
end Go.Proofs.Ytnncedndlhfdkac

/-
  spec.MergeRuns.
-/
namespace Go.Proofs.Ytnncedndlhfdkac
open Go.ChangeShapes Go.WideShapes Go.ChangeAt Go.RowKit Go.Deep
set_option linter.unusedVariables false
set_option linter.unusedSimpArgs false
set_option maxRecDepth 100000

theorem ord_long : ∀ (R ws : List Ent), Ord R → (∀ x ∈ R, x ∈ ws) → R.length ≤ ws.length
  | [], _, _, _ => by simp
  | a :: R, ws, h, hs => by
    have h' := List.pairwise_cons.1 h
    obtain ⟨l1, l2, rfl⟩ := List.append_of_mem (hs a (by simp))
    have := ord_long R (l1 ++ l2) h'.2 (fun x hx => by
      have h1 := hs x (List.mem_cons_of_mem _ hx)
      simp only [List.mem_append, List.mem_cons] at h1 ⊢
      rcases h1 with h1 | rfl | h1
      · exact .inl h1
      · have := h'.1 x hx
        rw [keyCmp_self] at this
        omega
      · exact .inr h1)
    simp at this ⊢
    omega
theorem flat_len : ∀ (rs : List (List Ent)), (∀ es ∈ rs, GoodR es) → rs.flatten.length ≤ 10000 * rs.length
  | [], _ => by simp
  | es :: rs, h => by
    have h1 := (h es (by simp)).1.1
    have h2 := flat_len rs (fun x hx => h x (List.mem_cons_of_mem _ hx))
    rw [List.flatten_cons, List.length_append, List.length_cons]
    omega
theorem mrgTo_short {rs : List (List Ent)} {inr : ByteArray → Bool} {i j : Nat} {L : List Ent} (hG : GoodRs rs) (h : MrgTo rs inr i j L) : L.length ≤ 500000 := by
  have h1 := ord_long L rs.flatten h.1 (mrgTo_len h)
  have h2 := flat_len rs hG.2
  have h3 := hG.1
  omega
theorem OwnC.ne_row {w : World} {base g cp base' g' cp' : Nat} {es fs : List Ent} (h : OwnC w base g cp es) (h' : OwnE w base' g' cp' fs) : g ≠ g' := by
  rcases h.2 with ⟨h0, _⟩ | ⟨g1, cap1, cur, hv, _, hc, _⟩
  · cases h0
  · rcases h'.2 with ⟨h0, _⟩ | ⟨g2, cap2, cur2, hv2, _, hc2, _⟩
    · cases h0
    · simp only [Value.slice.injEq, Option.some.injEq, Addr.mk.injEq, and_true, true_and] at hv hv2
      obtain ⟨rfl, rfl⟩ := hv
      obtain ⟨rfl, rfl⟩ := hv2
      intro q
      rw [q, hc2] at hc
      simp at hc
theorem inRange_is (lo hi row : ByteArray) (hh : Bool) {s : Bool} (hs : inR lo hh hi row = s) (w : World) :
    Calls Try.prog 35 #[.agg #[.string lo, .bool hh, .string hi], .string row] w fun e w' => e = .returned (.bool s) ∧ Below w.heap.size w w' := hs ▸ specInRange_core lo hi row hh w
theorem at_of {l : List Rm} {k j : Nat} {r : Rm} {e : Ent} (hr : l[k]? = some r) (he : r.es[j]? = some e) : At (esM l) k j e := ⟨r.es, by rw [List.getElem?_map, hr]; rfl, he⟩
set_option maxHeartbeats 16000000 in
theorem specMerge_core (b off cap : Nat) (l : List Rm) (lo hi : ByteArray) (hh : Bool) (w : World) (hR : RmsAt w b off l) (hok : okM l) (hB : b < w.heap.size) (hlen : l.length ≤ 1048576) :
    Calls Try.prog 9 #[.slice (some ⟨b, off, none⟩) l.length cap, .agg #[.string lo, .bool hh, .string hi]] w fun r w' =>
      ∃ (g cp : Nat) (L : List Ent), r = .returned (.slice (some ⟨g, 0, none⟩) L.length cp) ∧ OwnC w' w.heap.size g cp L ∧ Below w.heap.size w w' ∧ L.length ≤ 500000 ∧ MrgOf (esM l) (inR lo hh hi) L := by
  have HR : Hid (RmsAt w b off l) := hR
  have HO : Hid (okM l) := hok
  clear hR hok
  obtain ⟨Wa, hWa⟩ : ∃ Wa : World, Wa = w.alloc (Obj.cells #[.string lo, .bool hh, .string hi] 31) := ⟨_, rfl⟩
  have hba : Below w.heap.size w Wa := by rw [hWa]; exact (Below.refl _ _).alloc (Nat.le_refl _) _
  have hza : Wa.heap.size = w.heap.size + 1 := by rw [hWa]; simp
  have HGa : Hid (Wa.cell? ⟨w.heap.size, 0, none⟩ = some (.string lo) ∧ Wa.cell? ⟨w.heap.size, 1, none⟩ = some (.bool hh) ∧ Wa.cell? ⟨w.heap.size, 2, none⟩ = some (.string hi)) := by
    refine ⟨?_, ?_, ?_⟩ <;> (rw [hWa]; simp)
  obtain ⟨W0, hW0⟩ : ∃ W0 : World, W0 = Wa.alloc (Obj.cells #[] 69) := ⟨_, rfl⟩
  have hb0 : Below Wa.heap.size Wa W0 := by rw [hW0]; exact (Below.refl _ _).alloc (Nat.le_refl _) _
  have hz0 : W0.heap.size = w.heap.size + 1 + 1 := by rw [hW0]; simp [hza]
  have HC0 : Hid (OwnC W0 w.heap.size (w.heap.size + 1) 0 []) := by
    show OwnC W0 w.heap.size (w.heap.size + 1) 0 []
    rw [hW0, ← hza]; exact (ownC_new Wa).mono (by omega)
  have kb0 : Below w.heap.size w W0 := hba.trans (hb0.mono (by omega))
  have HR0 : Hid (RmsAt W0 b off l) := HR.out.below kb0 hB
  go_enter Try.func9, Try.ntmps9
  go_wp2_with fail
  rw [← hWa, ← hW0]
  clear hWa hW0
  refine (goodRuns_core b off cap l _ HR0.out HO.out (by omega) hlen).mono ?_
  rintro e w1 ⟨r, rfl, hr, hb1⟩
  have HG : Hid (r = true ↔ GoodRs (esM l)) := hr
  clear hr
  have hs1 := hb1.size
  have k1 : Below w.heap.size w w1 := kb0.trans (hb1.mono (by omega))
  have HC1 : Hid (OwnC w1 w.heap.size (w.heap.size + 1) 0 []) := HC0.out.below hb1 (by omega)
  cases r
  · have HN : Hid (¬ GoodRs (esM l)) := fun h => Bool.noConfusion (HG.out.2 h)
    go_wp2_with fail
    go_ret
    exact ⟨_, 0, [], rfl, HC1.out, k1, by simp, fun h => absurd h HN.out, fun _ => rfl⟩
  have HGd : Hid (GoodRs (esM l)) := HG.out.1 rfl
  clear HG
  obtain ⟨W1, hW1⟩ : ∃ W1 : World, W1 = w1.alloc (Obj.cells #[] 63) := ⟨_, rfl⟩
  have hbA : Below w1.heap.size w1 W1 := by rw [hW1]; exact (Below.refl _ _).alloc (Nat.le_refl _) _
  have hzA : w1.heap.size < W1.heap.size := by rw [hW1]; simp
  have HL1 : Hid (OwnE W1 w1.heap.size w1.heap.size 0 []) := by
    show OwnE W1 w1.heap.size w1.heap.size 0 []
    rw [hW1]
    exact World.ownsRow_made w1 #[] 0 (Nat.le_refl _) (Nat.zero_le _) (by simp)
  have HR1 : Hid (RmsAt W1 b off l) := (HR0.out.below hb1 (by omega)).below hbA (by omega)
  have HCA : Hid (OwnC W1 w.heap.size (w.heap.size + 1) 0 []) := HC1.out.below hbA (by omega)
  have HRg : Hid (∀ wx, Below W1.heap.size W1 wx → wx.cell? ⟨w.heap.size, 0, none⟩ = some (.string lo) ∧ wx.cell? ⟨w.heap.size, 1, none⟩ = some (.bool hh) ∧ wx.cell? ⟨w.heap.size, 2, none⟩ = some (.string hi)) := by
    intro wx hx
    have hy : Below Wa.heap.size Wa wx := ((hb0.trans (hb1.mono (by omega))).trans (hbA.mono (by omega))).trans (hx.mono (by omega))
    refine ⟨?_, ?_, ?_⟩
    · rw [hy.cell (p := ⟨w.heap.size, 0, none⟩) (by show w.heap.size < Wa.heap.size; omega)]; exact HGa.out.1
    · rw [hy.cell (p := ⟨w.heap.size, 1, none⟩) (by show w.heap.size < Wa.heap.size; omega)]; exact HGa.out.2.1
    · rw [hy.cell (p := ⟨w.heap.size, 2, none⟩) (by show w.heap.size < Wa.heap.size; omega)]; exact HGa.out.2.2
  go_wp2_with fail
  rw [← hW1]
  clear hW1
  go_loopw [6, 7] (fun o i wr => ∃ (k g cp : Nat) (L : List Ent), k ≤ l.length ∧ i = .int .i64 k ∧ o = .slice (some ⟨g, 0, none⟩) L.length cp ∧ OwnE wr w1.heap.size g cp L ∧ MrgTo (esM l) (inR lo hh hi) k 0 L ∧ Below W1.heap.size W1 wr) (fun _ i _ => l.length - (intOf i).toNat)
  case atStart => exact ⟨0, _, 0, [], Nat.zero_le _, rfl, rfl, HL1.out, mrgTo_zero _ _, Below.refl _ _⟩
  case round =>
    obtain ⟨k, g, cp, L, hk, rfl, rfl, hO, hK, hb⟩ := hrel
    obtain ⟨wo, rfl⟩ : ∃ wo : World, wo = wr := ⟨_, rfl⟩
    have HK : Hid (OwnE wo w1.heap.size g cp L ∧ MrgTo (esM l) (inR lo hh hi) k 0 L) := ⟨hO, hK⟩
    have hLl := mrgTo_short HGd.out hK
    have hs := hb.size
    have hg := hO.lt
    clear hO hK
    by_cases hlt : k < l.length
    · obtain ⟨r, hr⟩ : ∃ r, l[k]? = some r := ⟨_, List.getElem?_eq_getElem hlt⟩
      have HRr : Hid (l[k]? = some r ∧ GoodR r.es) := ⟨hr, goodRs_mem HGd.out (List.mem_of_getElem? hr)⟩
      have hrl : r.es.length ≤ 10000 := HRr.out.2.1.1
      clear hr
      have zk : (k : Int) < (l.length : Int) := by omega
      go_wp2_with fail
      go_loopw [6, 8] (fun o i wr => ∃ (j g cp : Nat) (L : List Ent), j ≤ r.es.length ∧ i = .int .i64 j ∧ o = .slice (some ⟨g, 0, none⟩) L.length cp ∧ OwnE wr w1.heap.size g cp L ∧ MrgTo (esM l) (inR lo hh hi) k j L ∧ Below W1.heap.size W1 wr) (fun _ i _ => r.es.length - (intOf i).toNat)
      case atStart => exact ⟨0, _, _, L, Nat.zero_le _, rfl, rfl, HK.out.1, HK.out.2, hb⟩
      case round =>
        clear HK hb hs hg hLl
        obtain ⟨j, g, cp, L, hj, rfl, rfl, hO, hK, hb⟩ := hrel
        obtain ⟨wi, rfl⟩ : ∃ wi : World, wi = wr := ⟨_, rfl⟩
        have HK : Hid (OwnE wi w1.heap.size g cp L ∧ MrgTo (esM l) (inR lo hh hi) k j L) := ⟨hO, hK⟩
        have hLl := mrgTo_short HGd.out hK
        have hs := hb.size
        have hg := hO.lt
        clear hO hK
        have c0 := ((HR1.out.below hb (by omega)) k r HRr.out.1).1
        by_cases hjl : j < r.es.length
        · obtain ⟨e, he⟩ : ∃ e, r.es[j]? = some e := ⟨_, List.getElem?_eq_getElem hjl⟩
          obtain ⟨c1, c2, c3, c4, c5, c6⟩ := ((HR1.out.below hb (by omega)) k r HRr.out.1).2.ents j e he
          have HAt : Hid (At (esM l) k j e) := at_of HRr.out.1 he
          clear he
          obtain ⟨W2, hW2⟩ : ∃ W2 : World, W2 = wi.alloc (Obj.cells #[.string e.row, .string e.fam, .string e.qual, .int .u64 e.ts, .int .i64 e.kind, .string e.val] 63) := ⟨_, rfl⟩
          have hbW : Below wi.heap.size wi W2 := by rw [hW2]; exact (Below.refl _ _).alloc (Nat.le_refl _) _
          have hzW : W2.heap.size = wi.heap.size + 1 := by rw [hW2]; simp
          have HX2 : Hid (EntsAt W2 wi.heap.size 0 [e]) := by show EntsAt W2 wi.heap.size 0 [e]; rw [hW2]; exact ent_box wi e
          have HL2 : Hid (OwnE W2 w1.heap.size g cp L) := HK.out.1.below hbW hg.2
          have hb2 : Below W1.heap.size W1 W2 := hb.trans (hbW.mono hs)
          have zj : (j : Int) < (r.es.length : Int) := by omega
          go_upto_region 12 with fail
          rw [← hW2]
          clear hW2 c0 c1 c2 c3 c4 c5 c6
          obtain ⟨d0, d1, d2, d3, d4, d5⟩ := HX2.out 0 e rfl
          simp only [Nat.zero_add, Nat.zero_mul] at d0 d1 d2 d3 d4 d5
          obtain ⟨q0, q1, q2⟩ := HRg.out W2 hb2
          cases k0 : (e.kind == 0)
          · have HN : Hid (MrgTo (esM l) (inR lo hh hi) k (j + 1) L) := mrgTo_skip HK.out.2 HAt.out (fun q => by have := q.1; simp at k0; exact k0 this)
            go_wp2_with fail
            go_roundw
            case rel => exact ⟨j + 1, g, cp, L, by omega, by go_num, rfl, HL2.out, HN.out, hb2⟩
            case measure => go_light; simp [intOf]; omega
          · go_wp2_with fail
            cases hir : inR lo hh hi e.row
            · have HN : Hid (MrgTo (esM l) (inR lo hh hi) k (j + 1) L) := mrgTo_skip HK.out.2 HAt.out (fun q => by have := q.2.1; rw [hir] at this; cases this)
              refine (inRange_is lo hi e.row hh hir _).mono ?_
              rintro e' w3 ⟨rfl, hb3⟩
              have hs3 := hb3.size
              have hb4 := hb2.trans (hb3.mono (by omega))
              have HL3 : Hid (OwnE w3 w1.heap.size g cp L) := HL2.out.below hb3 (by omega)
              clear d0 d1 d2 d3 d4 d5 q0 q1 q2
              go_wp2_with fail
              go_roundw
              case rel => exact ⟨j + 1, g, cp, L, by omega, by go_num, rfl, HL3.out, HN.out, hb4⟩
              case measure => go_light; simp [intOf]; omega
            · refine (inRange_is lo hi e.row hh hir _).mono ?_
              rintro e' w3 ⟨rfl, hb3⟩
              have hs3 := hb3.size
              have hb4 := hb2.trans (hb3.mono (by omega))
              have HL3 : Hid (OwnE w3 w1.heap.size g cp L) := HL2.out.below hb3 (by omega)
              have HX3 : Hid (EntsAt w3 wi.heap.size 0 [e]) := HX2.out.below hb3 (by omega)
              have HIR : Hid (e.kind = 0 ∧ inR lo hh hi e.row = true) := ⟨by simpa using k0, hir⟩
              clear d0 d1 d2 d3 d4 d5 q0 q1 q2
              go_wp2_with fail
              go_loopw [10, 11] (fun o i wr => ∃ (m : Nat) (hd : Bool), m ≤ k ∧ i = .int .i64 m ∧ o = .bool hd ∧ (hd = true ↔ HidTo (esM l) m e) ∧ Below w3.heap.size w3 wr) (fun _ i _ => k - (intOf i).toNat)
              case atStart => exact ⟨0, false, Nat.zero_le _, rfl, rfl, iffF (hidTo_zero _ _), Below.refl _ _⟩
              case round =>
                obtain ⟨m, hd, hm, rfl, rfl, hH, hbm⟩ := hrel
                have HH : Hid (hd = true ↔ HidTo (esM l) m e) := hH
                have hsm := hbm.size
                clear hH
                have hbm4 : Below W1.heap.size W1 wr := hb4.trans (hbm.mono (by omega))
                by_cases hmk : m < k
                · obtain ⟨r', hr'⟩ : ∃ r', l[m]? = some r' := ⟨_, List.getElem?_eq_getElem (by omega)⟩
                  have hg' := goodRs_mem HGd.out (List.mem_of_getElem? hr')
                  have hl' : r'.es.length ≤ 1048576 := by have := hg'.1.1; omega
                  obtain ⟨y0, y1⟩ := rms_out (HR1.out.below hbm4 (by omega)) (by omega) hr'
                  obtain ⟨x0, x1, x2, x3, x4, x5⟩ := ents_out (HX3.out.below hbm (by omega)) (by omega) (rfl : [e][0]? = some e)
                  simp only [Nat.zero_add, Nat.zero_mul] at x0 x1 x2 x3 x4 x5
                  have HY : Hid (∀ n : Out wr, r'.at n.u) := y1
                  have HS : Hid (HidTo (esM l) (m + 1) e ↔ HidTo (esM l) m e ∨ (saysF e r'.es 0).1 ≠ 0) := by
                    have h1 := hidTo_succ (rs := esM l) (k := m) (x := e) (ds := r'.es) (by rw [List.getElem?_map, hr']; rfl)
                    have h2 := saysF_kills e r'.es 0 hg'.1.2
                    show _ ↔ _
                    rw [h1, h2]; simp
                  clear y1 hr' hg'
                  have zm : (m : Int) < (l.length : Int) := by omega
                  have inh : Nonempty (Out wr) := ⟨⟨wr, Below.refl _ _⟩⟩
                  go_upto_region 17 with fail
                  refine wp_region_out (by kernel_rfl) (by kernel_rfl) ?_
                  repeat (go_big_quiet_step ((go_at_call 36; exact Calls.out_of (says_core r' e _ (HY.out _) hl'))))
                  refine wpQuiet_nil ?_
                  rintro wy ⟨⟨wx, hby⟩, rfl⟩
                  clear x0 x1 x2 x3 x4 x5 y0
                  have hby' := hbm.trans (hby.mono hsm)
                  generalize (saysF e r'.es 0).1 = sx at *
                  generalize (saysF e r'.es 0).2 = sv at *
                  cases hd
                  · cases hsx : (sx != 0)
                    · have HN : Hid (false = true ↔ HidTo (esM l) (m + 1) e) := iffF (fun q => by
                        rcases HS.out.1 q with q | q
                        · exact Bool.noConfusion (HH.out.2 q)
                        · simp at hsx; exact q hsx)
                      go_wp2_with fail
                      go_roundw
                      case rel => exact ⟨m + 1, false, by omega, by go_num, rfl, HN.out, hby'⟩
                      case measure => go_light; simp [intOf]; omega
                    · have HN : Hid (true = true ↔ HidTo (esM l) (m + 1) e) := iffT (HS.out.2 (.inr (by simpa using hsx)))
                      go_wp2_with fail
                      go_roundw
                      case rel => exact ⟨m + 1, true, by omega, by go_num, rfl, HN.out, hby'⟩
                      case measure => go_light; simp [intOf]; omega
                  · have HN : Hid (true = true ↔ HidTo (esM l) (m + 1) e) := iffT (HS.out.2 (.inl (HH.out.1 rfl)))
                    go_wp2_with fail
                    go_roundw
                    case rel => exact ⟨m + 1, true, by omega, by go_num, rfl, HN.out, hby'⟩
                    case measure => go_light; simp [intOf]; omega
                · obtain rfl : m = k := by omega
                  have HLm : Hid (OwnE wr w1.heap.size g cp L) := HL3.out.below hbm (by omega)
                  have HXm : Hid (EntsAt wr wi.heap.size 0 [e]) := HX3.out.below hbm (by omega)
                  have zmk : ¬ (m : Int) < (m : Int) := by omega
                  cases hd
                  · have HN : Hid (MrgTo (esM l) (inR lo hh hi) m (j + 1) (into L e)) := mrgTo_put HGd.out HK.out.2 HAt.out ⟨HIR.out.1, HIR.out.2, fun q => Bool.noConfusion (HH.out.2 q)⟩
                    obtain ⟨d0, d1, d2, d3, d4, d5⟩ := HXm.out 0 e rfl
                    simp only [Nat.zero_add, Nat.zero_mul] at d0 d1 d2 d3 d4 d5
                    go_wp2_with fail
                    refine (into_core g 0 cp L e _ HLm.out.at (by omega) (by omega)).mono ?_
                    rintro e' w5 ⟨g', cp', rfl, hO', hb5⟩
                    have HO' : Hid (OwnE w5 w1.heap.size g' cp' (into L e)) := hO'.mono (by omega)
                    have hb6 := hbm4.trans (hb5.mono (by omega))
                    clear hO' d0 d1 d2 d3 d4 d5
                    go_wp2_with fail
                    go_roundw
                    case rel => exact ⟨j + 1, g', cp', into L e, by omega, by go_num, rfl, HO'.out, HN.out, hb6⟩
                    case measure => go_light; simp [intOf]; omega
                  · have HN : Hid (MrgTo (esM l) (inR lo hh hi) m (j + 1) L) := mrgTo_skip HK.out.2 HAt.out (fun q => q.2.2 (HH.out.1 rfl))
                    go_wp2_with fail
                    go_roundw
                    case rel => exact ⟨j + 1, g, cp, L, by omega, by go_num, rfl, HLm.out, HN.out, hbm4⟩
                    case measure => go_light; simp [intOf]; omega
        · have HN : Hid (MrgTo (esM l) (inR lo hh hi) (k + 1) 0 L) := mrgTo_row HK.out.2 (es := r.es) (by rw [List.getElem?_map, HRr.out.1]; rfl) (by omega)
          have zj : ¬ (j : Int) < (r.es.length : Int) := by omega
          go_wp2_with fail
          go_roundw
          case rel => exact ⟨k + 1, g, cp, L, by omega, by go_num, rfl, HK.out.1, HN.out, hb⟩
          case measure => go_light; simp [intOf]; omega
    · have HKK : Hid (MrgOf (esM l) (inR lo hh hi) L) := by
        refine ⟨fun _ => mrg_of_to HK.out.2 (by simp; omega), fun h => absurd HGd.out h⟩
      have hbw : Below w.heap.size w wo := (k1.trans (hbA.mono (by omega))).trans (hb.mono (by omega))
      have HCo : Hid (OwnC wo w.heap.size (w.heap.size + 1) 0 []) := HCA.out.below hb (by omega)
      have zk : ¬ (k : Int) < (l.length : Int) := by omega
      go_wp2_with fail
      go_loopw [5, 14] (fun o i wr => ∃ (m g5 cp5 : Nat), m ≤ L.length ∧ i = .int .i64 m ∧ o = .slice (some ⟨g5, 0, none⟩) m cp5 ∧ OwnC wr w.heap.size g5 cp5 (L.take m) ∧ OwnE wr w1.heap.size g cp L ∧ Below w.heap.size w wr) (fun _ i _ => L.length - (intOf i).toNat)
      case atStart => exact ⟨0, _, 0, Nat.zero_le _, rfl, rfl, HCo.out, HK.out.1, hbw⟩
      case round =>
        obtain ⟨m, g5, cp5, hm, rfl, rfl, hC, hL, hbm⟩ := hrel
        have HM : Hid (OwnC wr w.heap.size g5 cp5 (L.take m) ∧ OwnE wr w1.heap.size g cp L) := ⟨hC, hL⟩
        have hg5 := hC.lt
        have hgl := hL.lt
        have hne := hC.ne_row hL
        have hsm := hbm.size
        have HTM : Hid (m = (L.take m).length) := by show m = (L.take m).length; rw [List.length_take]; omega
        clear hC hL
        by_cases hlt : m < L.length
        · obtain ⟨x, hx⟩ : ∃ x, L[m]? = some x := ⟨_, List.getElem?_eq_getElem hlt⟩
          have HX : Hid (L.take (m + 1) = L.take m ++ [x]) := by show L.take (m + 1) = L.take m ++ [x]; rw [List.take_add_one, hx]; rfl
          obtain ⟨c0, c1, c2, c3, c4, c5⟩ := HM.out.2.at m x hx
          simp only [Nat.zero_add, Nat.zero_mul] at c0 c1 c2 c3 c4 c5
          clear hx
          go_wp2_with fail
          refine (specCell_any x _).mono ?_
          rintro e' w3 ⟨rfl, hb3⟩
          have hs3 := hb3.size
          have HM3 : Hid (OwnC w3 w.heap.size g5 cp5 (L.take m) ∧ OwnE w3 w1.heap.size g cp L) := ⟨HM.out.1.below hb3 hg5.2, HM.out.2.below hb3 hgl.2⟩
          have hbm3 : Below w.heap.size w w3 := hbm.trans (hb3.mono (by omega))
          clear c0 c1 c2 c3 c4 c5 hb3
          go_wp2_with (at_builtin; refine wpList_append_cel _ rfl _ _ rfl w.heap.size g5 cp5 _ _ (L.take m) x rfl rfl HTM.out ?hO ?hc ?hl ?hb ?_)
          case hO => exact HM3.out.1.below ((Below.refl _ _).alloc (Nat.le_refl _) _) (by omega)
          case hc => exact cel_new w3 x
          case hl => rw [← HTM.out]; omega
          case hb => simp; omega
          intro g' cp' w' hO' hgr
          have HO' : Hid (OwnC w' w.heap.size g' cp' (L.take (m + 1))) := by show OwnC w' w.heap.size g' cp' (L.take (m + 1)); rw [HX.out]; exact hO'
          have hb' : Below w.heap.size w w' := (hbm3.alloc hbm3.size _).grown hgr (by simp; omega) (fun j hj => by cases hj; omega)
          have HL' : Hid (OwnE w' w1.heap.size g cp L) := World.ownsRow.kept (HM3.out.2.below ((Below.refl _ _).alloc (Nat.le_refl _) _) (by omega)) hgr (.inr (fun q => hne (Option.some.inj q).symm))
          clear hO' hgr
          go_wp2_with fail
          go_roundw
          case rel => exact ⟨m + 1, g', cp', by omega, by go_num, rfl, HO'.out, HL'.out, hb'⟩
          case measure => go_light; simp [intOf]; omega
        · have HT : Hid (L.take m = L) := List.take_of_length_le (by omega)
          go_wp2_with fail
          go_ret
          refine ⟨g5, cp5, L, ?_, ?_, hbm, hLl, HKK.out⟩
          · have e1 : m = L.length := by omega
            show Ending.returned (Value.slice (some ⟨g5, 0, none⟩) m cp5) = _
            rw [e1]
          · have h := HM.out.1
            rw [HT.out] at h
            exact h
end Go.Proofs.Ytnncedndlhfdkac

