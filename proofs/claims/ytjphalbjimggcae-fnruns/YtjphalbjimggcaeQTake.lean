/-
  (*impl.merger).take: one column more of the same.
-/
import Derived.Test.YtjphalbjimggcaeQTakeM
namespace Go.Proofs.Ytjphalbjimggcae
open Go.ChangeShapes Go.WideShapes Go.ChangeAt Go.RowKit Go.Deep
set_option linter.unusedVariables false
set_option linter.unusedSimpArgs false
set_option maxRecDepth 100000

set_option maxHeartbeats 16000000 in
theorem take_same (S : Nat → Prop) (base mb : Nat) (P : List (Nat × Ent)) (c : ByteArray × ByteArray × ByteArray) (dv : Value) (ds : List (Nat × Int)) (dec : Bool) (ts : Int) (cg cc : Nat) (L : List Ent) (a : Nat) (e : Ent) (w : World)
    (h : MInv S base mb P w c dv ds dec ts cg cc L) (hl : Last P c) (hS : P.Pairwise Lt2) (hP : ∀ p ∈ P, Lt2 p (a, e)) (hin : ∀ k, S k → k < w.heap.size) (hB : base ≤ w.heap.size) (hN : P.length ≤ 1048576) (hcol : e.col = c) :
    Calls Try.prog 44 #[.pointer (some ⟨mb, 0, none⟩), .agg #[.string e.row, .string e.fam, .string e.qual, .int .u64 e.ts, .int .i64 e.kind, .string e.val], .int .i64 a] w fun r w' =>
      r = .returned (.tuple #[]) ∧ MSt S base mb (P ++ [(a, e)]) w' e.col ∧ Chg (Mine mb dv cg) w w' := by
  have H0 : Hid (MInv S base mb P w c dv ds dec ts cg cc L ∧ Last P c ∧ P.Pairwise Lt2 ∧ (∀ p ∈ P, Lt2 p (a, e)) ∧ ∀ k, S k → k < w.heap.size) := ⟨h, hl, hS, hP, hin⟩
  clear h hl hS hP hin
  obtain ⟨Wa, hWa⟩ : ∃ Wa : World, Wa = w.alloc (Obj.cells #[.string e.row, .string e.fam, .string e.qual, .int .u64 e.ts, .int .i64 e.kind, .string e.val] 73) := ⟨_, rfl⟩
  have hba : Below w.heap.size w Wa := by rw [hWa]; exact (Below.refl _ _).alloc (Nat.le_refl _) _
  have hza : Wa.heap.size = w.heap.size + 1 := by rw [hWa]; simp
  have HXa : Hid (EntsAt Wa w.heap.size 0 [e]) := by show EntsAt Wa w.heap.size 0 [e]; rw [hWa]; exact ent_box w e
  have hmb := (H0.out.1.at_.low mb (.inl rfl)).2
  go_enter Try.func44, Try.ntmps44
  go_upto_region 1 with fail
  rw [← hWa]
  clear hWa
  obtain ⟨d0, d1, d2, d3, d4, d5⟩ := HXa.out 0 e rfl
  simp only [Nat.zero_add, Nat.zero_mul] at d0 d1 d2 d3 d4 d5
  go_wp2_with fail
  refine (column_any e _).mono ?_
  rintro e' wb ⟨rfl, hbb⟩
  obtain ⟨W1, hW1⟩ : ∃ W1 : World, W1 = wb.alloc (Obj.cells #[.string e.row, .string e.fam, .string e.qual] 85) := ⟨_, rfl⟩
  have hbc : Below wb.heap.size wb W1 := by rw [hW1]; exact (Below.refl _ _).alloc (Nat.le_refl _) _
  have hsb := hbb.size
  have hsc := hbc.size
  have HX1 : Hid (EntsAt W1 w.heap.size 0 [e]) := (HXa.out.below hbb (by omega)).below hbc (by omega)
  have k1 : Below w.heap.size w W1 := (hba.trans (hbb.mono (by omega))).trans (hbc.mono (by omega))
  have HM1 : Hid (MgAt W1 base mb c dv ds dec ts cg cc L) := H0.out.1.at_.below k1
  have HC1 : Hid (W1.cell? ⟨wb.heap.size, 0, none⟩ = some (.string e.row) ∧ W1.cell? ⟨wb.heap.size, 1, none⟩ = some (.string e.fam) ∧ W1.cell? ⟨wb.heap.size, 2, none⟩ = some (.string e.qual)) := by
    refine ⟨?_, ?_, ?_⟩ <;> (rw [hW1]; simp)
  clear d0 d1 d2 d3 d4 d5
  go_upto_region 2 with fail
  rw [← hW1]
  clear hW1
  obtain ⟨q0, q1, q2⟩ := HC1.out
  obtain ⟨m0, m1, m2, m3, m4, m5, m6, mf⟩ := HM1.out.cell
  obtain ⟨cr, cf, cq⟩ := c
  simp only at m0 m1 m2
  have hne := colNe_run e cr cf cq false (by rw [show (!false) = true from rfl, sameCol_col]; exact hcol)
  go_quiet (fail)
  have HMem : Hid (Mem P e.col ds dec ts) := by have := H0.out.1.mem; rw [← hcol] at this; exact this
  have hsz := k1.size
  obtain ⟨W2, hW2⟩ : ∃ W2 : World, W2 = W1.drewN nq := ⟨_, rfl⟩
  have hb2 : Below W1.heap.size W1 W2 := by rw [hW2]; exact below_drewN (Below.refl _ _) _
  have hsd := hb2.size
  have hw2 : w.heap.size < W2.heap.size := by omega
  have HX2 : Hid (EntsAt W2 w.heap.size 0 [e]) := HX1.out.below hb2 (by omega)
  have HM2 : Hid (MgAt W2 base mb e.col dv ds dec ts cg cc L) := by have := HM1.out.below hb2; rw [← hcol] at this; exact this
  have HK2 : Hid (Chg (Mine mb dv cg) w W2) := Chg.of_below (k1.trans (hb2.mono (by omega)))
  rw [← hW2]
  clear hW2 q0 q1 q2 m0 m1 m2 m3 m4 m5 m6 mf hne hcol
  have HOut : Hid (∀ k, Mine mb dv cg k → ¬ S k) := H0.out.1.out
  obtain ⟨d0, d1, d2, d3, d4, d5⟩ := HX2.out 0 e rfl
  simp only [Nat.zero_add, Nat.zero_mul] at d0 d1 d2 d3 d4 d5
  obtain ⟨m0, m1, m2, m3, m4, m5, m6, mf⟩ := HM2.out.cell
  have hs2 := HK2.out.size
  have HMine : Hid (∀ k, Mine mb dv cg k → Mine mb dv cg k) := fun k q => q
  cases kk : (e.kind == 2)
  · have HK : Hid (¬ e.kind = 2) := by show ¬ e.kind = 2; simpa using kk
    by_cases hd : dec = true ∧ ts = e.ts
    · have HD : Hid (dec = true ∧ ts = e.ts) := hd
      have ht : (ts == e.ts) = true := by simp [hd.2]
      have hdt : dec = true := hd.1
      rw [hdt] at m4
      clear hd hdt
      have HR : Hid (MSt S base mb (P ++ [(a, e)]) W2 e.col) :=
        ⟨_, _, _, _, _, _, _, HM2.out, mem_same HMem.out HK.out HD.out.1 HD.out.2, shown_skip H0.out.1.shown H0.out.2.2.2.1 (fun q => q.2 (over_decided HMem.out H0.out.2.2.2.1 HK.out HD.out.1 HD.out.2)), HOut.out, by have := H0.out.1.short; simp; omega⟩
      go_upto_region 8 with fail
      go_quiet (fail)
      go_wp2_with fail
      (try simp only [Exit.inBlock, Exit.then])
      refine bodyPost_ret (results_none rfl _ _ _) rfl ?_
      have hbn := below_drewN (Below.refl W2.heap.size W2) nq
      exact ⟨rfl, HR.out.below hbn, HK2.out.trans (Chg.of_below hbn)⟩
    · have HD : Hid (¬ (dec = true ∧ ts = e.ts)) := hd
      have ht : ∀ b, dec = b → b = true → (ts == e.ts) = false := fun b h1 h2 => by simp; exact fun q => hd ⟨h1.trans h2, q⟩
      clear hd
      go_upto_region 8 with fail
      go_cut [58] (fun s wx => s = .bool false ∧ Below W2.heap.size W2 wx)
      case first =>
        cases hdd : dec
        · rw [hdd] at m4
          go_quiet (fail)
          go_wp2_with fail
          go_meet
          exact ⟨rfl, below_drewN (Below.refl _ _) _⟩
        · rw [hdd] at m4
          have ht1 := ht true hdd rfl
          go_quiet (fail)
          go_wp2_with fail
          go_meet
          exact ⟨rfl, below_drewN (Below.refl _ _) _⟩
      case rest =>
      obtain ⟨rfl, hb3⟩ := hcut
      have hs3 := hb3.size
      have HM3 : Hid (MgAt wc base mb e.col dv ds dec ts cg cc L) := HM2.out.below hb3
      have HK3 : Hid (Chg (Mine mb dv cg) w wc) := HK2.out.trans (Chg.of_below hb3)
      clear m0 m1 m2 m3 m4 m5 m6 mf d0 d1 d2 d3 d4 d5 ht
      obtain ⟨d0, d1, d2, d3, d4, d5⟩ := (HX2.out.below hb3 (by omega)) 0 e rfl
      simp only [Nat.zero_add, Nat.zero_mul] at d0 d1 d2 d3 d4 d5
      obtain ⟨m0, m1, m2, m3, m4, m5, m6, mf⟩ := HM3.out.cell
      obtain ⟨W4, hW4⟩ : ∃ W4 : World, W4 = (wc.setCell ⟨mb, 4, none⟩ (.bool true)).setCell ⟨mb, 5, none⟩ (.int .u64 e.ts) := ⟨_, rfl⟩
      have HM4 : Hid (MgAt W4 base mb e.col dv ds true e.ts cg cc L) := by show MgAt W4 base mb e.col dv ds true e.ts cg cc L; rw [hW4]; exact (HM3.out.setDec true).setTs e.ts
      have hC4 : Chg (fun k => k = mb) wc W4 := by rw [hW4]; exact (Chg.of_set (S := fun k => k = mb) _ _ _ _ rfl).trans (Chg.of_set (S := fun k => k = mb) _ _ _ _ rfl)
      have hs4 := hC4.size
      have HX4 : Hid (EntsAt W4 w.heap.size 0 [e]) := (HX2.out.below hb3 (by omega)).chg hC4 (by omega) (by omega)
      have HK4 : Hid (Chg (Mine mb dv cg) w W4) := HK3.out.trans (hC4.mono (fun k q => .inl q))
      have HMn : Hid (Mem (P ++ [(a, e)]) e.col ds true e.ts) := mem_new HMem.out H0.out.2.2.2.1 HK.out
      cases k0 : (e.kind == 0)
      · have HR : Hid (MSt S base mb (P ++ [(a, e)]) W4 e.col) :=
          ⟨_, _, _, _, _, _, _, HM4.out, HMn.out, shown_skip H0.out.1.shown H0.out.2.2.2.1 (fun q => by have := q.1; simp at k0; exact k0 this), HOut.out, by have := H0.out.1.short; simp; omega⟩
        go_wp2_with fail
        rw [← hW4]
        go_end0
        exact ⟨rfl, HR.out, HK4.out⟩
      · go_upto_region 11 with fail
        rw [← hW4]
        clear hW4 m0 m1 m2 m3 m4 m5 m6 mf d0 d1 d2 d3 d4 d5
        obtain ⟨d0, d1, d2, d3, d4, d5⟩ := HX4.out 0 e rfl
        simp only [Nat.zero_add, Nat.zero_mul] at d0 d1 d2 d3 d4 d5
        go_wp2_with fail
        refine (hides_core base mb e.col dv ds true e.ts cg cc L e.ts a _ HM4.out (by have := HMem.out.len; omega)).mono ?_
        rintro e' w5 ⟨rfl, hb5⟩
        have hs5 := hb5.size
        have HM5 : Hid (MgAt w5 base mb e.col dv ds true e.ts cg cc L) := HM4.out.below hb5
        have HK5 : Hid (Chg (Mine mb dv cg) w w5) := HK4.out.trans (Chg.of_below hb5)
        have HX5 : Hid (EntsAt w5 w.heap.size 0 [e]) := HX4.out.below hb5 (by omega)
        have HOv : Hid (Over P a e ↔ hides ds e.ts a = true) := over_hides HMem.out H0.out.2.2.2.1 HK.out HD.out
        clear d0 d1 d2 d3 d4 d5
        cases hh : hides ds e.ts a
        · obtain ⟨d0, d1, d2, d3, d4, d5⟩ := HX5.out 0 e rfl
          simp only [Nat.zero_add, Nat.zero_mul] at d0 d1 d2 d3 d4 d5
          obtain ⟨m0, m1, m2, m3, m4, m5, m6, mf⟩ := HM5.out.cell
          go_upto_region 12 with fail
          have nmb : mb ≠ w.heap.size := by omega
          have hLl : L.length ≤ 2 ^ 30 := by have := H0.out.1.short; omega
          have hbs : base ≤ w5.heap.size := by omega
          have ncg : cg ≠ w.heap.size := by have := (H0.out.1.at_.low cg (.inr (.inr rfl))).2; omega
          have nmc : mb ≠ cg := fun q => HM5.out.apart.2.1 q.symm
          have hcl : cg < w5.heap.size := (HM5.out.low cg (.inr (.inr rfl))).2
          have hml : mb < w5.heap.size := (HM5.out.low mb (.inl rfl)).2
          have HSp : Hid (Shown (P ++ [(a, e)]) (L ++ [e])) := shown_put H0.out.1.shown H0.out.2.2.2.1 (by simpa using k0) (fun q => by have := HOv.out.1 q; rw [hh] at this; cases this)
          go_region_law ((first
              | (go_simp; go_at_call 49; refine (implCell_any e _).mono ?_; rintro e' w6 ⟨rfl, hb6⟩; have hq6 : Below w5.heap.size w5 w6 := ((Below.refl w5.heap.size w5).drew).trans hb6; obtain ⟨y0, y1, y2, y3, y4, y5⟩ := (HX5.out.below hq6 (by omega)) 0 e rfl; simp only [Nat.zero_add, Nat.zero_mul] at y0 y1 y2 y3 y4 y5; have m6' := (HM5.out.below hq6).cell.2.2.2.2.2.2.1; have m6a : ∀ o, (w6.alloc o).cell? ⟨mb, 6, none⟩ = some (.slice (some ⟨cg, 0, none⟩) L.length cc) := fun o => by { rw [((Below.refl w6.heap.size w6).alloc (Nat.le_refl _) o).cell (p := ⟨mb, 6, none⟩) (Nat.lt_of_lt_of_le hml hq6.size)]; exact m6' })
              | (refine step_append_cel _ (by rfl) _ _ (by rfl) base cg cc w6.heap.size L e (by rfl) (by rfl) ?hO ?hc hLl ?hb ?_
                 case hO => exact (HM5.out.below hq6).cells.below ((Below.refl _ _).alloc (Nat.le_refl _) _) (Nat.lt_of_lt_of_le hcl hq6.size)
                 case hc => exact cel_new w6 e
                 case hb => exact Nat.le_trans hbs (Nat.le_trans hq6.size (by simp))
                 intro g7 cp7 w7 hO7 hgr7 hgg7
                 have fin7 : Hid (MSt S base mb (P ++ [(a, e)]) (w7.setCell ⟨mb, 6, none⟩ (.slice (some ⟨g7, 0, none⟩) (L.length + 1) cp7)) e.col ∧ Chg (Mine mb dv cg) w (w7.setCell ⟨mb, 6, none⟩ (.slice (some ⟨g7, 0, none⟩) (L.length + 1) cp7))) := by { have hpf := put_fin HM5.out hq6 hO7 hgr7 (by simpa using hgg7) HMn.out HSp.out HOut.out (fun k hk => by have := H0.out.2.2.2.2 k hk; omega) H0.out.1.short; exact ⟨hpf.1, HK5.out.trans (hpf.2.mono HMine.out)⟩ }
                 have hm7 := (HM5.out.below hq6).below ((Below.refl w6.heap.size w6).alloc (Nat.le_refl _) (Obj.cells #[.string e.row, .string e.fam, .string e.qual, .int .u64 e.ts, .string e.val] 71))
                 have hc7 : Chg (fun k => k = cg) (w6.alloc (Obj.cells #[.string e.row, .string e.fam, .string e.qual, .int .u64 e.ts, .string e.val] 71)) w7 := Chg.of_grown hgr7 (fun k hk => by cases hk; rfl)
                 have m7 : w7.cell? ⟨mb, 6, none⟩ = some (.slice (some ⟨cg, 0, none⟩) L.length cc) := by rw [hc7.cell (p := ⟨mb, 6, none⟩) (hm7.low mb (.inl rfl)).2 nmc]; exact hm7.cell.2.2.2.2.2.2.1
                 have f7 : w7.frozen? ⟨mb, 6, none⟩ = false := by rw [hc7.frozen (p := ⟨mb, 6, none⟩) (hm7.low mb (.inl rfl)).2 nmc]; exact hm7.cell.2.2.2.2.2.2.2 6
                 clear hm7 hc7 hO7 hgr7 hgg7)))
          all_goals go_end0
          all_goals exact ⟨rfl, fin7.out.1, fin7.out.2⟩
        · have HR : Hid (MSt S base mb (P ++ [(a, e)]) w5 e.col) :=
            ⟨_, _, _, _, _, _, _, HM5.out, HMn.out, shown_skip H0.out.1.shown H0.out.2.2.2.1 (fun q => q.2 (HOv.out.2 hh)), HOut.out, by have := H0.out.1.short; simp; omega⟩
          go_wp2_with fail
          go_end0
          exact ⟨rfl, HR.out, HK5.out⟩
  · have HK : Hid (e.kind = 2) := by show e.kind = 2; simpa using kk
    have hdl : ds.length ≤ 2 ^ 30 := by have := HMem.out.len; omega
    have hbs : base ≤ W2.heap.size := by omega
    have HMn : Hid (Mem (P ++ [(a, e)]) e.col (ds ++ [(a, e.ts)]) dec ts) := mem_del HMem.out HK.out
    have HSp : Hid (Shown (P ++ [(a, e)]) L) := shown_skip H0.out.1.shown H0.out.2.2.2.1 (fun q => by have := q.1; have := HK.out; omega)
    have hml : mb < W2.heap.size := (HM2.out.low mb (.inl rfl)).2
    have f3 := mf 3
    go_upto_region 7 with fail
    go_region_law ((refine step_append_del _ (by rfl) _ _ (by rfl) base W2.heap.size dv ds a e.ts (by rfl) (by rfl) ?hO ?h0 ?h1 hdl ?hb ?_
                    case hO => exact own_chg (S := fun _ => False) HM2.out.dels (Chg.of_below (((Below.refl W2.heap.size W2).drew).alloc (Nat.le_refl _) _)) (fun k _ q => q)
                    case h0 => simp
                    case h1 => simp
                    case hb => exact Nat.le_trans hbs (by simp)
                    intro g7 cp7 w7 hO7 hgr7 hgg7
                    have fin7 : Hid (MSt S base mb (P ++ [(a, e)]) (w7.setCell ⟨mb, 3, none⟩ (.slice (some ⟨g7, 0, none⟩) (ds.length + 1) cp7)) e.col ∧ Chg (Mine mb dv cg) w (w7.setCell ⟨mb, 3, none⟩ (.slice (some ⟨g7, 0, none⟩) (ds.length + 1) cp7)) ∧ w7.cell? ⟨mb, 3, none⟩ = some dv ∧ w7.frozen? ⟨mb, 3, none⟩ = false) := by { have hpf := del_fin HM2.out (((Below.refl W2.heap.size W2).drew).alloc (Nat.le_refl _) _) hO7 hgr7 (by simpa using hgg7) HMn.out HSp.out HOut.out (fun k hk => by have := H0.out.2.2.2.2 k hk; omega) H0.out.1.short; exact ⟨hpf.1, HK2.out.trans (hpf.2.1.mono HMine.out), hpf.2.2.1, hpf.2.2.2⟩ }
                    have m7 := fin7.out.2.2.1
                    have f7 := fin7.out.2.2.2
                    clear hO7 hgr7 hgg7))
    all_goals go_wp2_with fail
    all_goals (try simp only [Exit.inBlock, Exit.then])
    all_goals refine bodyPost_ret (results_none rfl _ _ _) rfl ?_
    all_goals exact ⟨rfl, fin7.out.1, fin7.out.2.1⟩
end Go.Proofs.Ytjphalbjimggcae
