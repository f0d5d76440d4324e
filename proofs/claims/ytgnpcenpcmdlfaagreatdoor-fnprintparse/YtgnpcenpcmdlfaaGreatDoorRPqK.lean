/-
  spec.l5Parse.
-/
import Derived.Test.YtgnpcenpcmdlfaaGreatDoorZkAR
import Derived.Deep.LoopGhost
namespace Go.Proofs.YtgnpcenpcmdlfaaGreatDoor
open Go.ChangeShapes Go.WideShapes Go.ChangeAt Go.RowKit Go.Deep
set_option linter.unusedVariables false
set_option linter.unusedSimpArgs false
set_option maxRecDepth 100000

theorem pb_start {w : World} {base g cp N : Nat} {ks : List Tk} (h : OwnTk w base g cp ks) {W : World} (hW : W = (((w.alloc (Obj.cells #[.slice (some ⟨g, 0, none⟩) N cp, .int .i64 0, .int .i64 0, .int .i64 0, .int .i64 0] 41)).alloc (Obj.cells #[.slice none 0 0, .int .i64 0, .int .i64 0, .int .i64 0, .int .i64 0] 41)).alloc (Obj.cells #[] 65)).alloc (Obj.cells #[] 86)) : PB w base g cp N ks 0 0 0 0 [] [] (w.heap.size + 3) 0 (w.heap.size + 2) 0 W := by
  obtain ⟨X, hX⟩ : ∃ X : World, X = (w.alloc (Obj.cells #[.slice (some ⟨g, 0, none⟩) N cp, .int .i64 0, .int .i64 0, .int .i64 0, .int .i64 0] 41)).alloc (Obj.cells #[.slice none 0 0, .int .i64 0, .int .i64 0, .int .i64 0, .int .i64 0] 41) := ⟨_, rfl⟩
  obtain ⟨b1, b2, b3⟩ := par_boxes [.slice (some ⟨g, 0, none⟩) N cp, .int .i64 0, .int .i64 0, .int .i64 0, .int .i64 0] [.slice none 0 0, .int .i64 0, .int .i64 0, .int .i64 0, .int .i64 0] hX
  have hz : X.heap.size = w.heap.size + 2 := by rw [hX]; simp
  rw [← hX] at hW
  obtain ⟨Y, hY⟩ : ∃ Y : World, Y = X.alloc (Obj.cells #[] 65) := ⟨_, rfl⟩
  rw [← hY] at hW
  have hzy : Y.heap.size = w.heap.size + 3 := by rw [hY]; simp; omega
  have hbY : Below X.heap.size X Y := by rw [hY]; exact (Below.refl _ _).alloc (Nat.le_refl _) _
  have hbW : Below Y.heap.size Y W := by rw [hW]; exact (Below.refl _ _).alloc (Nat.le_refl _) _
  have hbXW : Below X.heap.size X W := hbY.trans (hbW.mono hbY.size)
  have o1 : OwnNd Y (w.heap.size + 2) (w.heap.size + 2) 0 [] := by
    have := World.ownsRow_lit (e := 65) (size := 7) X #[] 0 (base := w.heap.size + 2) (by omega) (by decide) (by simp)
    rw [hz, ← hY] at this
    exact this
  have o2 : OwnEn W (w.heap.size + 2) (w.heap.size + 3) 0 [] := by
    have := World.ownsRow_lit (e := 86) (size := 2) Y #[] 0 (base := w.heap.size + 2) (by omega) (by decide) (by simp)
    rw [hzy, ← hW] at this
    exact this
  have hb := b3.trans (hbXW.mono (by omega))
  exact ⟨h.below hb, b1.below hbXW, b2.below hbXW, o2, o1.below hbW (by omega), by omega, hb, h.lt.2⟩
set_option maxHeartbeats 32000000 in
theorem l5Parse_core {w : World} {base g cp N : Nat} {ks : List Tk} (h : OwnTk w base g cp ks) (hN : N = ks.length) (hl : N ≤ 100000) (hT : Toks ks) :
    Calls Tryz.prog 21 #[parV g N cp 0 0 0 0] w (ParP w g cp N (⟨ks, 0, [], [], true⟩ : Ms)) := by
  have HN : Hid (N = ks.length ∧ N ≤ 1000000 ∧ Toks ks ∧ 0 < N) := ⟨hN, by omega, hT, by rw [hN]; exact List.length_pos_iff.2 hT.ne⟩
  obtain ⟨W0, hW0⟩ : ∃ V : World, V = (((w.alloc (Obj.cells #[.slice (some ⟨g, 0, none⟩) N cp, .int .i64 0, .int .i64 0, .int .i64 0, .int .i64 0] 41)).alloc (Obj.cells #[.slice none 0 0, .int .i64 0, .int .i64 0, .int .i64 0, .int .i64 0] 41)).alloc (Obj.cells #[] 65)).alloc (Obj.cells #[] 86) := ⟨_, rfl⟩
  have HB0 : Hid (PB w base g cp N ks 0 0 0 0 [] [] (w.heap.size + 3) 0 (w.heap.size + 2) 0 W0) := pb_start h hW0
  clear h hT hN
  go_enter Tryz.func21, Tryz.ntmps21
  go_wp2_with fail
  rw [← hW0]
  clear hW0
  go_loopg [4, 5, 6] (N + 1) (fun gk ov sv wv wr => PRel w base g cp N ks (⟨ks, 0, [], [], true⟩ : Ms) gk ov sv wv wr)
  case atStart => exact .inl ⟨(⟨ks, 0, [], [], true⟩ : Ms), 0, w.heap.size + 3, 0, w.heap.size + 2, 0, rfl, rfl, rfl, by omega, ⟨rfl, by simp, by simp, HN.out.2.2.2, fun r q => q, by simp⟩, HB0.out⟩
  case round =>
    clear HB0
    rcases hrel with ⟨m, i, gs, cs, go, co, rfl, rfl, rfl, hgk, hM, hB⟩ | ⟨c, a, pi, pn, gs, cs, go, co, st, out, b, rfl, rfl, rfl, hE, hc, hB⟩
    case inr => as_aux_lemma =>
      have HB : Hid (PB w base g cp N ks pi pn c a st out gs cs go co wr ∧ MEnds (⟨ks, 0, [], [], true⟩ : Ms) (.error (c, a)) ∧ 1 ≤ c) := ⟨hB, hE, hc⟩
      have zc : (c == 0) = false := by rw [beq_eq_false_iff_ne]; omega
      have a0 := hB.p.cell (j := 0) rfl
      have a1 := hB.p.cell (j := 1) rfl
      have a2 := hB.p.cell (j := 2) rfl
      have a3 := hB.p.cell (j := 3) rfl
      have a4 := hB.p.cell (j := 4) rfl
      clear hE hc
      obtain ⟨ol, hol⟩ : ∃ ol, ol = out.length := ⟨_, rfl⟩
      obtain ⟨sl, hsl⟩ : ∃ sl, sl = st.length := ⟨_, rfl⟩
      rw [← hol, ← hsl]
      clear hol hsl
      obtain ⟨W9, hW9⟩ : ∃ V : World, V = setP wr (w.heap.size + 1) (.slice (some ⟨g, 0, none⟩) N cp) (.int .i64 (pi : Int)) (.int .i64 (pn : Int)) (.int .i64 c) (.int .i64 (a : Int)) := ⟨_, rfl⟩
      have HR : Hid (ParP w g cp N (⟨ks, 0, [], [], true⟩ : Ms) (.returned (.tuple #[parV g N cp pi pn c a, .slice (some ⟨go, 0, none⟩) ol co])) W9 ∧ BoxAt W9 w.heap.size 41 5 (w.heap.size + 1) [.slice (some ⟨g, 0, none⟩) N cp, .int .i64 (pi : Int), .int .i64 (pn : Int), .int .i64 c, .int .i64 (a : Int)]) := HB.out.1.fail HB.out.2.1 HB.out.2.2 hW9
      have c0 := hB.rp.cell (j := 0) rfl
      have c1 := hB.rp.cell (j := 1) rfl
      have c2 := hB.rp.cell (j := 2) rfl
      have c3 := hB.rp.cell (j := 3) rfl
      have c4 := hB.rp.cell (j := 4) rfl
      have e0 := hB.rp.frozen 0
      have e1 := hB.rp.frozen 1
      have e2 := hB.rp.frozen 2
      have e3 := hB.rp.frozen 3
      have e4 := hB.rp.frozen 4
      have p0 := HR.out.2.cell (j := 0) rfl
      have p1 := HR.out.2.cell (j := 1) rfl
      have p2 := HR.out.2.cell (j := 2) rfl
      have p3 := HR.out.2.cell (j := 3) rfl
      have p4 := HR.out.2.cell (j := 4) rfl
      unfold setP at hW9
      go_wp2_with fail
      rw [← hW9]
      exact bodyPost_ret (v := .tuple #[parV g N cp pi pn c a, .slice (some ⟨go, 0, none⟩) ol co]) (by simp [results, Tryz.results21, go_sem, p0, p1, p2, p3, p4]) rfl HR.out.1
    case inl => as_aux_lemma =>
      have hi := hM.iN
      obtain ⟨k, hk⟩ : ∃ k, ks[i]? = some k := ⟨_, List.getElem?_eq_getElem (by rw [← HN.out.1]; exact hi)⟩
      have HM : Hid (PM N ks (⟨ks, 0, [], [], true⟩ : Ms) m i ∧ hdK m.ks = k.k ∧ hdA m.ks = k.pos ∧ m.ks.tail = ks.drop (i + 1) ∧ ks[i]? = some k) := ⟨hM, by rw [hM.ks]; exact (drop_hd hk).1, by rw [hM.ks]; exact (drop_hd hk).2.1, by rw [hM.ks]; exact (drop_hd hk).2.2, hk⟩
      have HOp : Hid (∀ wx, Below wr.heap.size wr wx → Calls Tryz.prog 45 #[.slice (some ⟨gs, 0, none⟩) m.st.length cs] wx fun e w' => e = .returned (.int .i64 (openF m.st : Int)) ∧ w' = wx) := fun wx hx => l5Open_core (hB.st.below hx) (by have := hM.ln; omega)
      obtain ⟨t0, t1, t2, t3⟩ := tk_cells hB.tk hk
      have zi : (i : Int) < (N : Int) := by omega
      have HB : Hid (PB w base g cp N ks i m.made 0 0 m.st m.out gs cs go co wr ∧ m.made ≤ 200 ∧ m.out.length + m.st.length ≤ i) := ⟨hB, hM.md, hM.ln⟩
      have a0 := hB.p.cell (j := 0) rfl
      have a1 := hB.p.cell (j := 1) rfl
      have a2 := hB.p.cell (j := 2) rfl
      have a3 := hB.p.cell (j := 3) rfl
      have a4 := hB.p.cell (j := 4) rfl
      obtain ⟨W7, hW7⟩ : ∃ V : World, V = wr.alloc (Obj.cells #[.int .i64 (tkN k.k), .int .u64 k.k.nm, .string (tkT k.k), .int .i64 (k.pos : Int)] 80) := ⟨_, rfl⟩
      have hb7 : Below wr.heap.size wr W7 := by rw [hW7]; exact (Below.refl _ _).alloc (Nat.le_refl _) _
      obtain ⟨b7, hb7e⟩ : ∃ b7, b7 = wr.heap.size := ⟨_, rfl⟩
      have H7 : Hid (PB w base g cp N ks i m.made 0 0 m.st m.out gs cs go co W7 ∧ BoxAt W7 (w.heap.size + 2) 80 4 b7 (tkV k) ∧ ¬ b7 = gs ∧ ¬ b7 = go) := ⟨hB.up hb7, by rw [hb7e, hW7]; exact boxAt_new wr _ hB.lts.2.2 rfl, by have := hB.lts; omega, by have := hB.lts; omega⟩
      have HOp7 : Hid (Calls Tryz.prog 45 #[.slice (some ⟨gs, 0, none⟩) m.st.length cs] W7 fun e w' => e = .returned (.int .i64 (openF m.st : Int)) ∧ w' = W7) := HOp.out W7 hb7
      obtain ⟨sl, hsl⟩ : ∃ sl, sl = m.st.length := ⟨_, rfl⟩
      obtain ⟨ol, hol⟩ : ∃ ol, ol = m.out.length := ⟨_, rfl⟩
      obtain ⟨op, hop⟩ : ∃ op : Int, op = (openF m.st : Int) := ⟨_, rfl⟩
      have HL : Hid (sl = m.st.length ∧ ol = m.out.length ∧ op = (openF m.st : Int)) := ⟨hsl, hol, hop⟩
      rw [← hsl, ← hop] at HOp7
      rw [← hol, ← hsl]
      clear hsl hol hop hM hB hk hb7 HOp
      go_upto_region 6 with fail
      rw [← hW7, ← hb7e]
      clear hW7 hb7e t0 t1 t2 t3 a0 a1 a2 a3 a4
      go_wp2_with fail
      refine HOp7.out.mono ?_
      clear HOp7
      rintro e wx ⟨rfl, hwx⟩
      rw [hwx]
      clear hwx
      have u0 := H7.out.2.1.cell (j := 0) rfl
      have u2 := H7.out.2.1.cell (j := 2) rfl
      cases hbd : k.k.isBad
      case true => as_aux_lemma =>
        have z6 : (tkN k.k == 6) = true := by rw [beq_iff_eq]; exact tkN_bad.2 hbd
        have HE : Hid (MEnds (⟨ks, 0, [], [], true⟩ : Ms) (.error (2, k.pos))) := HM.out.1.go _ (.fin (by
          unfold mStep
          rw [HM.out.2.1, HM.out.2.2.1, if_pos hbd]))
        have HFl : Hid (Calls Tryz.prog 46 #[parV g N cp i m.made 0 0, .int .i64 2] W7 fun e w' => e = .returned (parV g N cp i m.made 2 k.pos) ∧ Below W7.heap.size W7 w') := by
          have h9 := l5Fail_core H7.out.1.tk HN.out.1 HN.out.2.1 HM.out.2.2.2.2 m.made 0 0 2
          rw [show (if k.k.isBad = true then (2 : Int) else 2) = 2 from by simp] at h9
          exact h9
        have a0 := H7.out.1.p.cell (j := 0) rfl
        have a1 := H7.out.1.p.cell (j := 1) rfl
        have a2 := H7.out.1.p.cell (j := 2) rfl
        have a3 := H7.out.1.p.cell (j := 3) rfl
        have a4 := H7.out.1.p.cell (j := 4) rfl
        go_wp2_with fail
        refine HFl.out.mono ?_
        clear HFl
        rintro e v9 ⟨rfl, hb9⟩
        have H9 := H7.out.1.up hb9
        clear hb9 a0 a1 a2 a3 a4
        obtain ⟨W9, hW9⟩ : ∃ V : World, V = setP v9 (w.heap.size + 1) (.slice (some ⟨g, 0, none⟩) N cp) (.int .i64 (i : Int)) (.int .i64 (m.made : Int)) (.int .i64 2) (.int .i64 (k.pos : Int)) := ⟨_, rfl⟩
        have HR : Hid (ParP w g cp N (⟨ks, 0, [], [], true⟩ : Ms) (.returned (.tuple #[parV g N cp i m.made 2 k.pos, .slice (some ⟨go, 0, none⟩) ol co])) W9 ∧ BoxAt W9 w.heap.size 41 5 (w.heap.size + 1) [.slice (some ⟨g, 0, none⟩) N cp, .int .i64 (i : Int), .int .i64 (m.made : Int), .int .i64 2, .int .i64 (k.pos : Int)]) := H9.fail (HE.out) (by decide) hW9
        have c0 := H9.rp.cell (j := 0) rfl
        have c1 := H9.rp.cell (j := 1) rfl
        have c2 := H9.rp.cell (j := 2) rfl
        have c3 := H9.rp.cell (j := 3) rfl
        have c4 := H9.rp.cell (j := 4) rfl
        have e0 := H9.rp.frozen 0
        have e1 := H9.rp.frozen 1
        have e2 := H9.rp.frozen 2
        have e3 := H9.rp.frozen 3
        have e4 := H9.rp.frozen 4
        have p0 := HR.out.2.cell (j := 0) rfl
        have p1 := HR.out.2.cell (j := 1) rfl
        have p2 := HR.out.2.cell (j := 2) rfl
        have p3 := HR.out.2.cell (j := 3) rfl
        have p4 := HR.out.2.cell (j := 4) rfl
        unfold setP at hW9
        go_wp2_with fail
        rw [← hW9]
        exact bodyPost_ret (v := .tuple #[parV g N cp i m.made 2 k.pos, .slice (some ⟨go, 0, none⟩) ol co]) (by simp [results, Tryz.results21, go_sem, p0, p1, p2, p3, p4]) rfl HR.out.1
      obtain ⟨mks, mmade, mout, mst, mwant⟩ := m
      have hbd6 : (tkN k.k == 6) = false := by rw [beq_eq_false_iff_ne]; intro q; rw [tkN_bad.1 q] at hbd; cases hbd
      have Hbd : Hid (k.k.isBad = false) := hbd
      clear hbd
      cases mwant
      case true => as_aux_lemma =>
        have H7b : Hid (PB w base g cp N ks i mmade 0 0 mst mout gs cs go co W7 ∧ BoxAt W7 (w.heap.size + 2) 80 4 b7 (tkV k) ∧ ¬ b7 = gs ∧ ¬ b7 = go) := H7.out
        have H7p : Hid (PB w base g cp N ks i mmade 0 0 mst mout gs cs go co W7) := H7.out.1
        have HMb : Hid (PM N ks (⟨ks, 0, [], [], true⟩ : Ms) ⟨mks, mmade, mout, mst, true⟩ i ∧ ks[i]? = some k) := ⟨HM.out.1, HM.out.2.2.2.2⟩
        have HLb : Hid (sl = mst.length ∧ ol = mout.length ∧ op = (openF mst : Int)) := HL.out
        have hmd : mmade ≤ 200 := HMb.out.1.md
        have hln : mout.length + mst.length ≤ i := HMb.out.1.ln
        clear H7 HM HL HB
        obtain ⟨tt, htt⟩ : ∃ tt, tt = tkT k.k := ⟨_, rfl⟩
        obtain ⟨tn, htn⟩ : ∃ tn, tn = tkN k.k := ⟨_, rfl⟩
        rw [← htt] at u2
        rw [← htn] at u0 hbd6
        have Htt : Hid (tt = tkT k.k) := htt
        by_cases hw : ∃ kd, k.k = .word kd
        case pos => as_aux_lemma =>
          obtain ⟨kd, hkk⟩ := hw
          rw [hkk] at htn htt
          obtain rfl : tn = 1 := htn
          clear hbd6
          by_cases h16 : kd = 16
          case pos => as_aux_lemma =>
            subst h16
            have zt : (tt.toList == [105, 102]) = true := by rw [htt, beq_iff_eq, ByteArray.toList_eq]; rfl
            clear htt
            obtain ⟨k1, hk1, hi1⟩ := next_tk HN.out.2.2.1 HN.out.1 HMb.out.2 (by rw [hkk]; exact ⟨(fun q => nomatch q), (fun q => nomatch q)⟩)
            have HE : Hid ((¬ mmade < 200 → MEnds (⟨ks, 0, [], [], true⟩ : Ms) (.error (5, k.pos))) ∧
                (mmade < 200 → k1.k.isSign 40 = false → MEnds (⟨ks, 0, [], [], true⟩ : Ms) (.error (if k1.k.isBad = true then 2 else 3, k1.pos))) ∧
                (mmade < 200 → k1.k.isSign 40 = true → openF mst = 20 → MEnds (⟨ks, 0, [], [], true⟩ : Ms) (.error (4, k1.pos))) ∧
                (mmade < 200 → k1.k.isSign 40 = true → ¬ openF mst = 20 → PM N ks (⟨ks, 0, [], [], true⟩ : Ms) ⟨ks.drop (i + 2), mmade + 1, mout, (4, 2) :: mst, true⟩ (i + 2))) := want_if HMb.out.1 HMb.out.2 HN.out.1 HN.out.2.2.1 hkk hk1
            have HK1 : Hid (ks[i + 1]? = some k1) := hk1
            clear hk1 hkk
            by_cases h2 : mmade < 200
            case neg => as_aux_lemma =>
              have HMk : Hid (Calls Tryz.prog 47 #[parV g N cp i mmade 0 0] W7 fun e w' => e = .returned (parV g N cp i mmade 5 k.pos) ∧ Below W7.heap.size W7 w') := by
                refine (l5Makes_core H7p.out.tk HN.out.1 HN.out.2.1 HMb.out.2 Hbd.out mmade hmd 0).mono ?_
                rintro e w' ⟨hb, ⟨q, rfl⟩ | ⟨q, rfl⟩⟩
                · exact absurd q h2
                · exact ⟨rfl, hb⟩
              have HE5 : Hid (MEnds (⟨ks, 0, [], [], true⟩ : Ms) (.error (5, k.pos))) := HE.out.1 h2
              clear HE HK1
              go_upto_region 11 with fail
              clear u0 u2 zt
              have a0 := H7p.out.p.cell (j := 0) rfl
              have a1 := H7p.out.p.cell (j := 1) rfl
              have a2 := H7p.out.p.cell (j := 2) rfl
              have a3 := H7p.out.p.cell (j := 3) rfl
              have a4 := H7p.out.p.cell (j := 4) rfl
              go_wp2_with fail
              refine HMk.out.mono ?_
              clear HMk
              rintro e v8 ⟨rfl, hbv8⟩
              have hv8 := H7p.out.up hbv8
              clear hbv8 a0 a1 a2 a3 a4
              obtain ⟨W9, hW9⟩ : ∃ V : World, V = setP v8 w.heap.size (.slice (some ⟨g, 0, none⟩) N cp) (.int .i64 ((i : Nat) : Int)) (.int .i64 ((mmade : Nat) : Int)) (.int .i64 (5)) (.int .i64 ((k.pos : Nat) : Int)) := ⟨_, rfl⟩
              have H9 : Hid (PB w base g cp N ks (i) (mmade) (5) (k.pos) (mst) (mout) gs cs go co W9) := by rw [hW9]; exact hv8.setp _ _ _ _
              have c0 := hv8.p.cell (j := 0) rfl
              have c1 := hv8.p.cell (j := 1) rfl
              have c2 := hv8.p.cell (j := 2) rfl
              have c3 := hv8.p.cell (j := 3) rfl
              have c4 := hv8.p.cell (j := 4) rfl
              have e0 := hv8.p.frozen 0
              have e1 := hv8.p.frozen 1
              have e2 := hv8.p.frozen 2
              have e3 := hv8.p.frozen 3
              have e4 := hv8.p.frozen 4
              unfold setP at hW9
              go_upto_region 12 with fail
              rw [← hW9]
              clear hW9 hv8 c0 c1 c2 c3 c4 e0 e1 e2 e3 e4
              obtain ⟨W10, hW10⟩ : ∃ V : World, V = W9.alloc (Obj.cells #[.int .i64 4, .int .i64 2] 86) := ⟨_, rfl⟩
              have hbW10 : Below W9.heap.size W9 W10 := by rw [hW10]; exact (Below.refl _ _).alloc (Nat.le_refl _) _
              have HCW10 : Hid (PB w base g cp N ks (i) (mmade) (5) (k.pos) (mst) (mout) gs cs go co W10 ∧ ∀ j u, (enV (4, 2))[j]? = some u → W10.cell? ⟨W9.heap.size, j, none⟩ = some u) := ⟨H9.out.up hbW10, by rw [hW10]; exact alloc_cells W9 _ _⟩
              clear hbW10
              have hq1 : (mst).reverse.length ≤ 1000000 := by rw [List.length_reverse]; omega
              have hq2 : w.heap.size + 2 ≤ W10.heap.size := HCW10.out.1.lts.2.2
              have hq3 : Hid (sl = (mst).reverse.length) := by show _ = _; rw [List.length_reverse]; exact HLb.out.1
              have a0 := H9.out.p.cell (j := 0) rfl
              have a1 := H9.out.p.cell (j := 1) rfl
              have a2 := H9.out.p.cell (j := 2) rfl
              have a3 := H9.out.p.cell (j := 3) rfl
              have a4 := H9.out.p.cell (j := 4) rfl
              go_wp2_with (at_builtin; (try rw [← hW10]); refine wpList_append_En _ rfl _ _ rfl (w.heap.size + 2) gs cs (sl) W9.heap.size 1 (mst).reverse (4, 2) rfl rfl hq3.out HCW10.out.1.st HCW10.out.2 hq1 hq2 ?_)
              intro g2 c2 w2 hO' hgr hat
              have hgr2 : W10.grownBy w2 (some gs) := by first | exact hgr | (rw [hW10]; exact hgr)
              have hat2 : g2 = gs ∨ g2 = W10.heap.size := by first | exact hat | (rw [hW10]; exact hat) | (rw [hW10]; simpa using hat)
              have HA : Hid (PB w base g cp N ks (i) (mmade) (5) (k.pos) ((4, 2) :: mst) (mout) g2 c2 go co w2) := HCW10.out.1.pushS hO' hgr2 hat2
              clear hO' hgr hgr2 hat hat2 hW10 HCW10 hq1 hq2 hq3 a0 a1 a2 a3 a4
              have a1 := HA.out.p.cell (j := 1) rfl
              have e1 := HA.out.p.frozen 1
              go_wp2_with fail
              go_roundg (gk - 1)
              case measure => omega
              case rel => exact .inr ⟨5, k.pos, i + 1, mmade, g2, c2, go, co, (4, 2) :: mst, mout, true, by rw [HLb.out.2.1], by rw [HLb.out.1]; rfl, rfl, HE5.out, (by decide), HA.out.seti _ (by go_num)⟩
            case pos => as_aux_lemma =>
              obtain ⟨i1, hi1e⟩ : ∃ i1, i1 = i + 1 := ⟨_, rfl⟩
              obtain ⟨md1, hmd1e⟩ : ∃ md1, md1 = mmade + 1 := ⟨_, rfl⟩
              have HI1 : Hid (i1 = i + 1 ∧ md1 = mmade + 1) := ⟨hi1e, hmd1e⟩
              have hi1l : i1 ≤ i + 1 := by omega
              have hi1g : i + 1 ≤ i1 := by omega
              clear hi1e hmd1e
              have HMk : Hid (Calls Tryz.prog 47 #[parV g N cp i mmade 0 0] W7 fun e w' => e = .returned (parV g N cp i1 md1 0 0) ∧ Below W7.heap.size W7 w') := by
                refine (l5Makes_core H7p.out.tk HN.out.1 HN.out.2.1 HMb.out.2 Hbd.out mmade hmd 0).mono ?_
                rintro e w' ⟨hb, ⟨q, rfl⟩ | ⟨q, rfl⟩⟩
                · rw [HI1.out.1, HI1.out.2]; exact ⟨rfl, hb⟩
                · exact absurd h2 q
              have HK1b : Hid (ks[i1]? = some k1) := by show _ = _; rw [HI1.out.1]; exact HK1.out
              go_upto_region 11 with fail
              clear u0 u2 zt
              have a0 := H7p.out.p.cell (j := 0) rfl
              have a1 := H7p.out.p.cell (j := 1) rfl
              have a2 := H7p.out.p.cell (j := 2) rfl
              have a3 := H7p.out.p.cell (j := 3) rfl
              have a4 := H7p.out.p.cell (j := 4) rfl
              go_wp2_with fail
              refine HMk.out.mono ?_
              clear HMk
              rintro e v8 ⟨rfl, hbv8⟩
              have hv8 := H7p.out.up hbv8
              clear hbv8 a0 a1 a2 a3 a4
              obtain ⟨W9, hW9⟩ : ∃ V : World, V = setP v8 w.heap.size (.slice (some ⟨g, 0, none⟩) N cp) (.int .i64 ((i1 : Nat) : Int)) (.int .i64 ((md1 : Nat) : Int)) (.int .i64 (0)) (.int .i64 0) := ⟨_, rfl⟩
              have H9 : Hid (PB w base g cp N ks (i1) (md1) (0) (0) (mst) (mout) gs cs go co W9) := by rw [hW9]; exact hv8.setp _ _ _ _
              have c0 := hv8.p.cell (j := 0) rfl
              have c1 := hv8.p.cell (j := 1) rfl
              have c2 := hv8.p.cell (j := 2) rfl
              have c3 := hv8.p.cell (j := 3) rfl
              have c4 := hv8.p.cell (j := 4) rfl
              have e0 := hv8.p.frozen 0
              have e1 := hv8.p.frozen 1
              have e2 := hv8.p.frozen 2
              have e3 := hv8.p.frozen 3
              have e4 := hv8.p.frozen 4
              unfold setP at hW9
              go_upto_region 12 with fail
              rw [← hW9]
              clear hW9 hv8 c0 c1 c2 c3 c4 e0 e1 e2 e3 e4
              have HIs : Hid (Calls Tryz.prog 48 #[parV g N cp i1 md1 0 0, .string ⟨#[40]⟩] W9 fun e w' => e = .returned (.bool (k1.k.isSign 40)) ∧ Below W9.heap.size W9 w') := l5IsSym_core H9.out.tk HN.out.1 HN.out.2.1 HK1b.out (toks_kind HN.out.2.2.1 HK1b.out) md1 0 0 40 ⟨#[40]⟩ (by rw [ByteArray.toList_eq]; rfl)
              have a0 := H9.out.p.cell (j := 0) rfl
              have a1 := H9.out.p.cell (j := 1) rfl
              have a2 := H9.out.p.cell (j := 2) rfl
              have a3 := H9.out.p.cell (j := 3) rfl
              have a4 := H9.out.p.cell (j := 4) rfl
              go_wp2_with fail
              refine HIs.out.mono ?_
              clear HIs
              rintro e v1 ⟨rfl, hb1⟩
              have H10 : Hid (PB w base g cp N ks (i1) (md1) (0) (0) (mst) (mout) gs cs go co v1) := H9.out.up hb1
              clear hb1 H9 a0 a1 a2 a3 a4
              cases hsg : k1.k.isSign 40
              case false => as_aux_lemma =>
                obtain ⟨cc, hcc⟩ : ∃ cc : Int, cc = if k1.k.isBad = true then 2 else 3 := ⟨_, rfl⟩
                have HFl : Hid (Calls Tryz.prog 46 #[parV g N cp i1 md1 0 0, .int .i64 3] v1 fun e w' => e = .returned (parV g N cp i1 md1 cc k1.pos) ∧ Below v1.heap.size v1 w') := by
                  rw [hcc]
                  exact l5Fail_core H10.out.tk HN.out.1 HN.out.2.1 HK1b.out md1 0 0 3
                have HE3 : Hid (MEnds (⟨ks, 0, [], [], true⟩ : Ms) (.error (cc, k1.pos)) ∧ 1 ≤ cc) := ⟨by rw [hcc]; exact HE.out.2.1 h2 hsg, by rw [hcc]; split <;> decide⟩
                have zc : (cc == 0) = false := by rw [beq_eq_false_iff_ne]; have := HE3.out.2; omega
                clear hcc HE HK1 HK1b hsg
                have a0 := H10.out.p.cell (j := 0) rfl
                have a1 := H10.out.p.cell (j := 1) rfl
                have a2 := H10.out.p.cell (j := 2) rfl
                have a3 := H10.out.p.cell (j := 3) rfl
                have a4 := H10.out.p.cell (j := 4) rfl
                go_wp2_with fail
                refine HFl.out.mono ?_
                clear HFl
                rintro e v8 ⟨rfl, hbv8⟩
                have hv8 := H10.out.up hbv8
                clear hbv8 a0 a1 a2 a3 a4
                obtain ⟨W11, hW11⟩ : ∃ V : World, V = setP v8 w.heap.size (.slice (some ⟨g, 0, none⟩) N cp) (.int .i64 ((i1 : Nat) : Int)) (.int .i64 ((md1 : Nat) : Int)) (.int .i64 (cc)) (.int .i64 ((k1.pos : Nat) : Int)) := ⟨_, rfl⟩
                have H11 : Hid (PB w base g cp N ks (i1) (md1) (cc) (k1.pos) (mst) (mout) gs cs go co W11) := by rw [hW11]; exact hv8.setp _ _ _ _
                have c0 := hv8.p.cell (j := 0) rfl
                have c1 := hv8.p.cell (j := 1) rfl
                have c2 := hv8.p.cell (j := 2) rfl
                have c3 := hv8.p.cell (j := 3) rfl
                have c4 := hv8.p.cell (j := 4) rfl
                have e0 := hv8.p.frozen 0
                have e1 := hv8.p.frozen 1
                have e2 := hv8.p.frozen 2
                have e3 := hv8.p.frozen 3
                have e4 := hv8.p.frozen 4
                unfold setP at hW11
                go_upto_region 14 with fail
                rw [← hW11]
                clear hW11 hv8 c0 c1 c2 c3 c4 e0 e1 e2 e3 e4
                obtain ⟨W12, hW12⟩ : ∃ V : World, V = W11.alloc (Obj.cells #[.int .i64 4, .int .i64 2] 86) := ⟨_, rfl⟩
                have hbW12 : Below W11.heap.size W11 W12 := by rw [hW12]; exact (Below.refl _ _).alloc (Nat.le_refl _) _
                have HCW12 : Hid (PB w base g cp N ks (i1) (md1) (cc) (k1.pos) (mst) (mout) gs cs go co W12 ∧ ∀ j u, (enV (4, 2))[j]? = some u → W12.cell? ⟨W11.heap.size, j, none⟩ = some u) := ⟨H11.out.up hbW12, by rw [hW12]; exact alloc_cells W11 _ _⟩
                clear hbW12
                have hq1 : (mst).reverse.length ≤ 1000000 := by rw [List.length_reverse]; omega
                have hq2 : w.heap.size + 2 ≤ W12.heap.size := HCW12.out.1.lts.2.2
                have hq3 : Hid (sl = (mst).reverse.length) := by show _ = _; rw [List.length_reverse]; exact HLb.out.1
                have a0 := H11.out.p.cell (j := 0) rfl
                have a1 := H11.out.p.cell (j := 1) rfl
                have a2 := H11.out.p.cell (j := 2) rfl
                have a3 := H11.out.p.cell (j := 3) rfl
                have a4 := H11.out.p.cell (j := 4) rfl
                go_wp2_with (at_builtin; (try rw [← hW12]); refine wpList_append_En _ rfl _ _ rfl (w.heap.size + 2) gs cs (sl) W11.heap.size 1 (mst).reverse (4, 2) rfl rfl hq3.out HCW12.out.1.st HCW12.out.2 hq1 hq2 ?_)
                intro g2 c2 w2 hO' hgr hat
                have hgr2 : W12.grownBy w2 (some gs) := by first | exact hgr | (rw [hW12]; exact hgr)
                have hat2 : g2 = gs ∨ g2 = W12.heap.size := by first | exact hat | (rw [hW12]; exact hat) | (rw [hW12]; simpa using hat)
                have HA : Hid (PB w base g cp N ks (i1) (md1) (cc) (k1.pos) ((4, 2) :: mst) (mout) g2 c2 go co w2) := HCW12.out.1.pushS hO' hgr2 hat2
                clear hO' hgr hgr2 hat hat2 hW12 HCW12 hq1 hq2 hq3 a0 a1 a2 a3 a4
                have a1 := HA.out.p.cell (j := 1) rfl
                have e1 := HA.out.p.frozen 1
                go_wp2_with fail
                go_roundg (gk - 1)
                case measure => omega
                case rel => exact .inr ⟨cc, k1.pos, i1 + 1, md1, g2, c2, go, co, (4, 2) :: mst, mout, true, by rw [HLb.out.2.1], by rw [HLb.out.1]; rfl, rfl, HE3.out.1, HE3.out.2, HA.out.seti _ (by go_num)⟩
              case true => as_aux_lemma =>
                by_cases ho : openF mst = 20
                case pos => as_aux_lemma =>
                  have zo : (op == 20) = true := by rw [beq_iff_eq, HLb.out.2.2, ho]; rfl
                  have HFl : Hid (∀ wx, Below v1.heap.size v1 wx → Calls Tryz.prog 46 #[parV g N cp i1 md1 0 0, .int .i64 4] wx fun e w' => e = .returned (parV g N cp i1 md1 4 k1.pos) ∧ Below wx.heap.size wx w') := fun wx hx => by
                    have h9 := l5Fail_core (H10.out.up hx).tk HN.out.1 HN.out.2.1 HK1b.out md1 0 0 4
                    rw [TkK.isSign_eq hsg] at h9
                    exact h9
                  have HFl2 : Hid (Calls Tryz.prog 46 #[parV g N cp i1 md1 0 0, .int .i64 4] v1 fun e w' => e = .returned (parV g N cp i1 md1 4 k1.pos) ∧ Below v1.heap.size v1 w') := HFl.out v1 (Below.refl _ _)
                  have HE4 : Hid (MEnds (⟨ks, 0, [], [], true⟩ : Ms) (.error (4, k1.pos))) := HE.out.2.2.1 h2 hsg ho
                  clear HE HK1 HK1b hsg ho HFl
                  have a0 := H10.out.p.cell (j := 0) rfl
                  have a1 := H10.out.p.cell (j := 1) rfl
                  have a2 := H10.out.p.cell (j := 2) rfl
                  have a3 := H10.out.p.cell (j := 3) rfl
                  have a4 := H10.out.p.cell (j := 4) rfl
                  go_wp2_with fail
                  refine HFl2.out.mono ?_
                  clear HFl2
                  rintro e v8 ⟨rfl, hbv8⟩
                  have hv8 := H10.out.up hbv8
                  clear hbv8 a0 a1 a2 a3 a4
                  obtain ⟨W11, hW11⟩ : ∃ V : World, V = setP v8 w.heap.size (.slice (some ⟨g, 0, none⟩) N cp) (.int .i64 ((i1 : Nat) : Int)) (.int .i64 ((md1 : Nat) : Int)) (.int .i64 (4)) (.int .i64 ((k1.pos : Nat) : Int)) := ⟨_, rfl⟩
                  have H11 : Hid (PB w base g cp N ks (i1) (md1) (4) (k1.pos) (mst) (mout) gs cs go co W11) := by rw [hW11]; exact hv8.setp _ _ _ _
                  have c0 := hv8.p.cell (j := 0) rfl
                  have c1 := hv8.p.cell (j := 1) rfl
                  have c2 := hv8.p.cell (j := 2) rfl
                  have c3 := hv8.p.cell (j := 3) rfl
                  have c4 := hv8.p.cell (j := 4) rfl
                  have e0 := hv8.p.frozen 0
                  have e1 := hv8.p.frozen 1
                  have e2 := hv8.p.frozen 2
                  have e3 := hv8.p.frozen 3
                  have e4 := hv8.p.frozen 4
                  unfold setP at hW11
                  go_upto_region 16 with fail
                  rw [← hW11]
                  clear hW11 hv8 c0 c1 c2 c3 c4 e0 e1 e2 e3 e4
                  obtain ⟨W12, hW12⟩ : ∃ V : World, V = W11.alloc (Obj.cells #[.int .i64 4, .int .i64 2] 86) := ⟨_, rfl⟩
                  have hbW12 : Below W11.heap.size W11 W12 := by rw [hW12]; exact (Below.refl _ _).alloc (Nat.le_refl _) _
                  have HCW12 : Hid (PB w base g cp N ks (i1) (md1) (4) (k1.pos) (mst) (mout) gs cs go co W12 ∧ ∀ j u, (enV (4, 2))[j]? = some u → W12.cell? ⟨W11.heap.size, j, none⟩ = some u) := ⟨H11.out.up hbW12, by rw [hW12]; exact alloc_cells W11 _ _⟩
                  clear hbW12
                  have hq1 : (mst).reverse.length ≤ 1000000 := by rw [List.length_reverse]; omega
                  have hq2 : w.heap.size + 2 ≤ W12.heap.size := HCW12.out.1.lts.2.2
                  have hq3 : Hid (sl = (mst).reverse.length) := by show _ = _; rw [List.length_reverse]; exact HLb.out.1
                  have a0 := H11.out.p.cell (j := 0) rfl
                  have a1 := H11.out.p.cell (j := 1) rfl
                  have a2 := H11.out.p.cell (j := 2) rfl
                  have a3 := H11.out.p.cell (j := 3) rfl
                  have a4 := H11.out.p.cell (j := 4) rfl
                  go_wp2_with (at_builtin; (try rw [← hW12]); refine wpList_append_En _ rfl _ _ rfl (w.heap.size + 2) gs cs (sl) W11.heap.size 1 (mst).reverse (4, 2) rfl rfl hq3.out HCW12.out.1.st HCW12.out.2 hq1 hq2 ?_)
                  intro g2 c2 w2 hO' hgr hat
                  have hgr2 : W12.grownBy w2 (some gs) := by first | exact hgr | (rw [hW12]; exact hgr)
                  have hat2 : g2 = gs ∨ g2 = W12.heap.size := by first | exact hat | (rw [hW12]; exact hat) | (rw [hW12]; simpa using hat)
                  have HA : Hid (PB w base g cp N ks (i1) (md1) (4) (k1.pos) ((4, 2) :: mst) (mout) g2 c2 go co w2) := HCW12.out.1.pushS hO' hgr2 hat2
                  clear hO' hgr hgr2 hat hat2 hW12 HCW12 hq1 hq2 hq3 a0 a1 a2 a3 a4
                  have a1 := HA.out.p.cell (j := 1) rfl
                  have e1 := HA.out.p.frozen 1
                  go_wp2_with fail
                  go_roundg (gk - 1)
                  case measure => omega
                  case rel => exact .inr ⟨4, k1.pos, i1 + 1, md1, g2, c2, go, co, (4, 2) :: mst, mout, true, by rw [HLb.out.2.1], by rw [HLb.out.1]; rfl, rfl, HE4.out, (by decide), HA.out.seti _ (by go_num)⟩
                case neg => as_aux_lemma =>
                  have zo : (op == 20) = false := by rw [beq_eq_false_iff_ne, HLb.out.2.2]; omega
                  have HPm : Hid (PM N ks (⟨ks, 0, [], [], true⟩ : Ms) ⟨ks.drop (i1 + 1), md1, mout, (4, 2) :: mst, true⟩ (i1 + 1)) := by rw [HI1.out.1, HI1.out.2]; exact HE.out.2.2.2 h2 hsg ho
                  clear HE HK1 HK1b hsg ho
                  obtain ⟨W12, hW12⟩ : ∃ V : World, V = v1.alloc (Obj.cells #[.int .i64 4, .int .i64 2] 86) := ⟨_, rfl⟩
                  have hbW12 : Below v1.heap.size v1 W12 := by rw [hW12]; exact (Below.refl _ _).alloc (Nat.le_refl _) _
                  have HCW12 : Hid (PB w base g cp N ks (i1) (md1) (0) (0) (mst) (mout) gs cs go co W12 ∧ ∀ j u, (enV (4, 2))[j]? = some u → W12.cell? ⟨v1.heap.size, j, none⟩ = some u) := ⟨H10.out.up hbW12, by rw [hW12]; exact alloc_cells v1 _ _⟩
                  clear hbW12
                  have hq1 : (mst).reverse.length ≤ 1000000 := by rw [List.length_reverse]; omega
                  have hq2 : w.heap.size + 2 ≤ W12.heap.size := HCW12.out.1.lts.2.2
                  have hq3 : Hid (sl = (mst).reverse.length) := by show _ = _; rw [List.length_reverse]; exact HLb.out.1
                  have a0 := H10.out.p.cell (j := 0) rfl
                  have a1 := H10.out.p.cell (j := 1) rfl
                  have a2 := H10.out.p.cell (j := 2) rfl
                  have a3 := H10.out.p.cell (j := 3) rfl
                  have a4 := H10.out.p.cell (j := 4) rfl
                  go_wp2_with (at_builtin; (try rw [← hW12]); refine wpList_append_En _ rfl _ _ rfl (w.heap.size + 2) gs cs (sl) v1.heap.size 1 (mst).reverse (4, 2) rfl rfl hq3.out HCW12.out.1.st HCW12.out.2 hq1 hq2 ?_)
                  intro g2 c2 w2 hO' hgr hat
                  have hgr2 : W12.grownBy w2 (some gs) := by first | exact hgr | (rw [hW12]; exact hgr)
                  have hat2 : g2 = gs ∨ g2 = W12.heap.size := by first | exact hat | (rw [hW12]; exact hat) | (rw [hW12]; simpa using hat)
                  have HA : Hid (PB w base g cp N ks (i1) (md1) (0) (0) ((4, 2) :: mst) (mout) g2 c2 go co w2) := HCW12.out.1.pushS hO' hgr2 hat2
                  clear hO' hgr hgr2 hat hat2 hW12 HCW12 hq1 hq2 hq3 a0 a1 a2 a3 a4
                  have a1 := HA.out.p.cell (j := 1) rfl
                  have e1 := HA.out.p.frozen 1
                  go_wp2_with fail
                  go_roundg (N + 1 - (i1 + 1))
                  case measure => omega
                  case rel => exact .inl ⟨⟨ks.drop (i1 + 1), md1, mout, (4, 2) :: mst, true⟩, i1 + 1, g2, c2, go, co, by rw [HLb.out.2.1], by rw [HLb.out.1]; rfl, rfl, Nat.le_refl _, HPm.out, HA.out.seti _ (by go_num)⟩
          case neg => as_aux_lemma =>
            have hg13 : 1 ≤ kd ∧ kd ≤ 13 := by
              have hgk := toks_kind HN.out.2.2.1 HMb.out.2
              rw [hkk] at hgk
              rcases hgk with (q | q) | q | q
              · exact q
              · exact absurd q h16
              · cases q
              · cases q
            have htw : tt = wordA kd := by rw [htt]; show wordT kd = wordA kd; unfold wordT; rw [if_neg h16]
            have zt : (tt.toList == [105, 102]) = false := by rw [htw]; have h9 := wordA_if hg13.1 hg13.2; rw [show (⟨#[105, 102]⟩ : ByteArray).toList = [105, 102] from by rw [ByteArray.toList_eq]] at h9; exact h9
            have HLk : Hid (∀ W, Calls Tryz.prog 50 #[.string tt] W fun e w' => e = .returned (.int .i64 kd) ∧ w' = W) := fun W => by rw [htw]; exact leafKind_word hg13.1 hg13.2 W
            obtain ⟨k1, hk1, hi1⟩ := next_tk HN.out.2.2.1 HN.out.1 HMb.out.2 (by rw [hkk]; exact ⟨(fun q => nomatch q), (fun q => nomatch q)⟩)
            have HAr : Hid (∀ W, OwnTk W base g cp ks → Calls Tryz.prog 49 #[parV g N cp (i + 1) (mmade + 1) 0 0, .int .i64 kd] W (ArgQ g cp N (mmade + 1) ks kd (i + 1) W)) := fun W hO => (args_all hO HN.out.1 HN.out.2.1 hk1 HN.out.2.2.1 kd hg13).mono (fun e w' q => q.q)
            have HE : Hid ((¬ mmade < 200 → MEnds (⟨ks, 0, [], [], true⟩ : Ms) (.error (5, k.pos))) ∧
                (mmade < 200 → ∀ e, argsM kd (ks.drop (i + 1)) = .error e → MEnds (⟨ks, 0, [], [], true⟩ : Ms) (.error e)) ∧
                (mmade < 200 → ∀ j n, argsM kd (ks.drop (i + 1)) = .ok (ks.drop j, n) → i + 1 ≤ j → j < N → PM N ks (⟨ks, 0, [], [], true⟩ : Ms) ⟨ks.drop j, mmade + 1, mout ++ [n], mst, false⟩ j)) := want_leaf HMb.out.1 HMb.out.2 hkk h16
            clear hk1 hkk htt htw h16 hg13
            obtain ⟨W8, hW8⟩ : ∃ V : World, V = W7.alloc (Obj.cells #[.int .i64 0, .string ⟨#[]⟩, .bool false, .string ⟨#[]⟩, .int .u64 0, .int .u64 0, .int .i64 0] 65) := ⟨_, rfl⟩
            obtain ⟨b9, hb9⟩ : ∃ b9, b9 = W7.heap.size := ⟨_, rfl⟩
            have H8 : Hid (PL w base g cp N ks (i) (mmade) (0) (0) mst mout gs cs go co b7 b9 k (leafN 0) W8) := by
              have hb : Below W7.heap.size W7 W8 := by rw [hW8]; exact (Below.refl _ _).alloc (Nat.le_refl _) _
              have hl := H7p.out.lts
              have ht := H7b.out.2.1.lt
              exact ⟨H7p.out.up hb, H7b.out.2.1.below hb, by rw [hb9, hW8]; exact boxAt_new W7 _ hl.2.2 rfl, by omega, by omega, by omega⟩
            by_cases h2 : mmade < 200
            case neg => as_aux_lemma =>
              have HMk : Hid (Calls Tryz.prog 47 #[parV g N cp i mmade 0 0] W8 fun e w' => e = .returned (parV g N cp i mmade 5 k.pos) ∧ Below W8.heap.size W8 w') := by
                refine (l5Makes_core H8.out.pb.tk HN.out.1 HN.out.2.1 HMb.out.2 Hbd.out mmade hmd 0).mono ?_
                rintro e w' ⟨hb, ⟨q, rfl⟩ | ⟨q, rfl⟩⟩
                · exact absurd q h2
                · exact ⟨rfl, hb⟩
              have HE5 : Hid (MEnds (⟨ks, 0, [], [], true⟩ : Ms) (.error (5, k.pos))) := HE.out.1 h2
              clear HE HAr HLk
              go_upto_region 20 with fail
              rw [← hW8, ← hb9]
              clear u0 u2 zt hW8 hb9 H7p H7b
              have a0 := H8.out.pb.p.cell (j := 0) rfl
              have a1 := H8.out.pb.p.cell (j := 1) rfl
              have a2 := H8.out.pb.p.cell (j := 2) rfl
              have a3 := H8.out.pb.p.cell (j := 3) rfl
              have a4 := H8.out.pb.p.cell (j := 4) rfl
              go_wp2_with fail
              refine HMk.out.mono ?_
              clear HMk
              rintro e v8 ⟨rfl, hbv8⟩
              have hv8 := H8.out.up hbv8
              clear hbv8 a0 a1 a2 a3 a4
              obtain ⟨W9, hW9⟩ : ∃ V : World, V = setP v8 w.heap.size (.slice (some ⟨g, 0, none⟩) N cp) (.int .i64 ((i : Nat) : Int)) (.int .i64 ((mmade : Nat) : Int)) (.int .i64 (5)) (.int .i64 ((k.pos : Nat) : Int)) := ⟨_, rfl⟩
              have H9 : Hid (PL w base g cp N ks (i) (mmade) (5) (k.pos) mst mout gs cs go co b7 b9 k (leafN 0) W9) := by rw [hW9]; exact hv8.setp _ _ _ _
              have c0 := hv8.pb.p.cell (j := 0) rfl
              have c1 := hv8.pb.p.cell (j := 1) rfl
              have c2 := hv8.pb.p.cell (j := 2) rfl
              have c3 := hv8.pb.p.cell (j := 3) rfl
              have c4 := hv8.pb.p.cell (j := 4) rfl
              have e0 := hv8.pb.p.frozen 0
              have e1 := hv8.pb.p.frozen 1
              have e2 := hv8.pb.p.frozen 2
              have e3 := hv8.pb.p.frozen 3
              have e4 := hv8.pb.p.frozen 4
              unfold setP at hW9
              go_upto_region 21 with fail
              rw [← hW9]
              clear hW9 hv8 c0 c1 c2 c3 c4 e0 e1 e2 e3 e4
              have a3 := H9.out.pb.p.cell (j := 3) rfl
              have q0 := H9.out.nb.cell (j := 0) rfl
              have q1 := H9.out.nb.cell (j := 1) rfl
              have q2 := H9.out.nb.cell (j := 2) rfl
              have q3 := H9.out.nb.cell (j := 3) rfl
              have q4 := H9.out.nb.cell (j := 4) rfl
              have q5 := H9.out.nb.cell (j := 5) rfl
              have q6 := H9.out.nb.cell (j := 6) rfl
              simp only [leafN, noS] at q0 q1 q2 q3 q4 q5 q6
              have H9b : Hid (PB w base g cp N ks (i) (mmade) (5) (k.pos) (mst) (mout) gs cs go co W9) := H9.out.pb
              obtain ⟨W10, hW10⟩ : ∃ V : World, V = W9.alloc (Obj.cells #[.int .i64 (leafN 0 : Nd).kind, .string (leafN 0 : Nd).s, .bool (leafN 0 : Nd).hi, .string (leafN 0 : Nd).t, .int .u64 (leafN 0 : Nd).lo, .int .u64 (leafN 0 : Nd).up, .int .i64 (leafN 0 : Nd).n] 65) := ⟨_, rfl⟩
              have hbW10 : Below W9.heap.size W9 W10 := by rw [hW10]; exact (Below.refl _ _).alloc (Nat.le_refl _) _
              have HCW10 : Hid (PB w base g cp N ks (i) (mmade) (5) (k.pos) (mst) (mout) gs cs go co W10 ∧ NdsAt W10 W9.heap.size 0 [(leafN 0 : Nd)]) := ⟨H9b.out.up hbW10, by rw [hW10]; exact (nd_one_new W9 (w.heap.size + 2) (leafN 0 : Nd) H9b.out.lts.2.2).at⟩
              clear hbW10
              have hq1 : (mout).length + 1 ≤ 2 ^ 30 := by omega
              have hq2 : w.heap.size + 2 ≤ W10.heap.size := HCW10.out.1.lts.2.2
              go_wp2_with (first | refine wpList_build1Nd rfl _ rfl (leafN 0 : Nd) rfl ?_ | (at_builtin; (try rw [← hW10]); refine wpList_append_nd _ rfl _ _ rfl (w.heap.size + 2) go co (ol) W9.heap.size 0 1 1 (mout) [(leafN 0 : Nd)] rfl rfl (HLb.out.2.1) rfl HCW10.out.1.out HCW10.out.2 hq1 hq2 ?_))
              intro g2 c2 w2 hO' hgr hat
              have hgr2 : W10.grownBy w2 (some go) := by first | exact hgr | (rw [hW10]; exact hgr)
              have hat2 : g2 = go ∨ g2 = W10.heap.size := by first | exact hat | (rw [hW10]; exact hat) | (rw [hW10]; simpa using hat)
              have HA : Hid (PB w base g cp N ks (i) (mmade) (5) (k.pos) (mst) (mout ++ [(leafN 0 : Nd)]) gs cs g2 c2 w2) := HCW10.out.1.pushO hO' hgr2 hat2
              clear hO' hgr hgr2 hat hat2 hW10 HCW10 hq1 hq2
              clear a3 q0 q1 q2 q3 q4 q5 q6
              go_wp2_with fail
              go_roundg (gk - 1)
              case measure => omega
              case rel => exact .inr ⟨5, k.pos, i, mmade, gs, cs, g2, c2, mst, mout ++ [leafN 0], false, by rw [HLb.out.2.1, List.length_append]; rfl, by rw [HLb.out.1], rfl, HE5.out, (by decide), HA.out⟩
            case pos => as_aux_lemma =>
              obtain ⟨i1, hi1e⟩ : ∃ i1, i1 = i + 1 := ⟨_, rfl⟩
              obtain ⟨md1, hmd1e⟩ : ∃ md1, md1 = mmade + 1 := ⟨_, rfl⟩
              have HI1 : Hid (i1 = i + 1 ∧ md1 = mmade + 1) := ⟨hi1e, hmd1e⟩
              have hi1l : i1 ≤ i + 1 := by omega
              have hi1g : i + 1 ≤ i1 := by omega
              clear hi1e hmd1e
              have HMk : Hid (Calls Tryz.prog 47 #[parV g N cp i mmade 0 0] W8 fun e w' => e = .returned (parV g N cp i1 md1 0 0) ∧ Below W8.heap.size W8 w') := by
                refine (l5Makes_core H8.out.pb.tk HN.out.1 HN.out.2.1 HMb.out.2 Hbd.out mmade hmd 0).mono ?_
                rintro e w' ⟨hb, ⟨q, rfl⟩ | ⟨q, rfl⟩⟩
                · rw [HI1.out.1, HI1.out.2]; exact ⟨rfl, hb⟩
                · exact absurd h2 q
              go_upto_region 20 with fail
              rw [← hW8, ← hb9]
              clear u0 u2 zt hW8 hb9 H7p
              have a0 := H8.out.pb.p.cell (j := 0) rfl
              have a1 := H8.out.pb.p.cell (j := 1) rfl
              have a2 := H8.out.pb.p.cell (j := 2) rfl
              have a3 := H8.out.pb.p.cell (j := 3) rfl
              have a4 := H8.out.pb.p.cell (j := 4) rfl
              go_wp2_with fail
              refine HMk.out.mono ?_
              clear HMk
              rintro e v8 ⟨rfl, hbv8⟩
              have hv8 := H8.out.up hbv8
              clear hbv8 a0 a1 a2 a3 a4
              obtain ⟨W9, hW9⟩ : ∃ V : World, V = setP v8 w.heap.size (.slice (some ⟨g, 0, none⟩) N cp) (.int .i64 ((i1 : Nat) : Int)) (.int .i64 ((md1 : Nat) : Int)) (.int .i64 (0)) (.int .i64 0) := ⟨_, rfl⟩
              have H9 : Hid (PL w base g cp N ks (i1) (md1) (0) (0) mst mout gs cs go co b7 b9 k (leafN 0) W9) := by rw [hW9]; exact hv8.setp _ _ _ _
              have c0 := hv8.pb.p.cell (j := 0) rfl
              have c1 := hv8.pb.p.cell (j := 1) rfl
              have c2 := hv8.pb.p.cell (j := 2) rfl
              have c3 := hv8.pb.p.cell (j := 3) rfl
              have c4 := hv8.pb.p.cell (j := 4) rfl
              have e0 := hv8.pb.p.frozen 0
              have e1 := hv8.pb.p.frozen 1
              have e2 := hv8.pb.p.frozen 2
              have e3 := hv8.pb.p.frozen 3
              have e4 := hv8.pb.p.frozen 4
              unfold setP at hW9
              go_upto_region 21 with fail
              rw [← hW9]
              clear hW9 hv8 c0 c1 c2 c3 c4 e0 e1 e2 e3 e4
              have a3 := H9.out.pb.p.cell (j := 3) rfl
              go_upto_region 22 with fail
              clear a3
              have a0 := H9.out.pb.p.cell (j := 0) rfl
              have a1 := H9.out.pb.p.cell (j := 1) rfl
              have a2 := H9.out.pb.p.cell (j := 2) rfl
              have a3 := H9.out.pb.p.cell (j := 3) rfl
              have a4 := H9.out.pb.p.cell (j := 4) rfl
              have hS0 : (fun w' : World => w'.cell? ⟨b7, 2, none⟩ = some (.string tt)) W9.drew := by
                have h9 := H9.out.tb.cell (j := 2) rfl
                rw [← Htt.out] at h9
                exact h9
              have HArw : Hid (Calls Tryz.prog 49 #[parV g N cp i1 md1 0 0, .int .i64 kd] W9.drew (ArgQ g cp N md1 ks kd i1 W9.drew)) := by rw [HI1.out.1, HI1.out.2]; exact HAr.out W9.drew (H9.out.pb.tk.below (Below.refl _ _).drew)
              refine wp_region_T 99 (fun w' : World => w'.cell? ⟨b7, 2, none⟩ = some (.string tt)) (by kernel_rfl) ?_
              refine anyT_takeN (i := 1) (v := ?vx1) rfl (by kernel_rfl) (by kernel_rfl) (by kernel_rfl) (by rfl) (fun _ _ _ h => h) (Or.inl ⟨by rfl, ?yx1⟩) hS0 ?_
              case yx1 => (intro wz hSw; go_simp; (try with_reducible rfl))
              try simp only [Act.put, List.getElem_toArray, List.getElem_cons_zero, List.getElem_cons_succ, List.setIfInBounds_toArray, List.set_cons_zero, List.set_cons_succ]
              refine anyT_takeN (i := 2) (v := ?vx2) rfl (by kernel_rfl) (by kernel_rfl) (by kernel_rfl) (by rfl) (fun _ _ _ h => h) (Or.inl ⟨by rfl, ?yx2⟩) hS0 ?_
              case yx2 => (intro wz hSw; go_simp; (try with_reducible rfl))
              try simp only [Act.put, List.getElem_toArray, List.getElem_cons_zero, List.getElem_cons_succ, List.setIfInBounds_toArray, List.set_cons_zero, List.set_cons_succ]
              refine anyT_two (i := 0) (j := 3) (by kernel_rfl) rfl rfl (fun K hK => ?_) (fun K hK => ?_)
              · as_aux_lemma =>
                  go_simp
                  refine hK.out _ _ (.inr hS0) ?_
                  clear hK
                  try simp only [Act.put, List.getElem_toArray, List.getElem_cons_zero, List.getElem_cons_succ, List.setIfInBounds_toArray, List.set_cons_zero, List.set_cons_succ]
                  refine anyT_one (i := 3) (by kernel_rfl) rfl (fun K hK => ?_)
                  go_simp
                  go_at_call 50
                  refine (HLk.out W9.drew).mono ?_
                  rintro e w4 ⟨rfl, hw4⟩
                  rw [hw4]
                  clear hw4
                  refine hK.out _ _ (.inr hS0) ?_
                  clear hK a0 a1 a2 a3 a4
                  try simp only [Act.put, List.getElem_toArray, List.getElem_cons_zero, List.getElem_cons_succ, List.setIfInBounds_toArray, List.set_cons_zero, List.set_cons_succ]
                  refine anyT_one (i := 4) (by kernel_rfl) rfl (fun K hK => ?_)
                  go_simp
                  go_at_call 49
                  refine HArw.out.mono ?_
                  rintro e w5 ⟨hb5, j, c, a, n, rfl, HQ⟩
                  have hvv : (n : Nd).v = .agg #[.int .i64 n.kind, .string n.s, .bool n.hi, .string n.t, .int .u64 n.lo, .int .u64 n.up, .int .i64 n.n] := rfl
                  rw [hvv]
                  clear hvv
                  have H5 : Hid (PL w base g cp N ks (i1) (md1) (0) (0) mst mout gs cs go co b7 b9 k (leafN 0) w5) := H9.out.up (((Below.refl _ _).drew).trans (hb5.mono (Nat.le_refl _)))
                  have hS5 : (fun w' : World => w'.cell? ⟨b7, 2, none⟩ = some (.string tt)) w5 := by
                    have h9 := H5.out.tb.cell (j := 2) rfl
                    rw [← Htt.out] at h9
                    exact h9
                  refine hK.out _ _ (.inr hS5) ?_
                  clear hK hb5
                  try simp only [Act.put, List.getElem_toArray, List.getElem_cons_zero, List.getElem_cons_succ, List.setIfInBounds_toArray, List.set_cons_zero, List.set_cons_succ]
                  refine anyT_one (i := 5) (by kernel_rfl) rfl (fun K hK => ?_)
                  go_simp
                  refine hK.out _ _ (.inr hS5) ?_
                  clear hK
                  try simp only [Act.put, List.getElem_toArray, List.getElem_cons_zero, List.getElem_cons_succ, List.setIfInBounds_toArray, List.set_cons_zero, List.set_cons_succ]
                  refine anyT_takeN (i := 6) (v := ?vsa6) rfl (by kernel_rfl) (by kernel_rfl) (by kernel_rfl) (by rfl) (fun _ _ _ h => h) (Or.inl ⟨by rfl, ?ysa6⟩) hS5 ?_
                  case ysa6 => (intro wz hSw; go_simp; (try with_reducible rfl))
                  try simp only [Act.put, List.getElem_toArray, List.getElem_cons_zero, List.getElem_cons_succ, List.setIfInBounds_toArray, List.set_cons_zero, List.set_cons_succ]
                  refine anyT_takeN (i := 7) (v := ?vsa7) rfl (by kernel_rfl) (by kernel_rfl) (by kernel_rfl) (by rfl) (fun _ _ _ h => h) (Or.inl ⟨by rfl, ?ysa7⟩) hS5 ?_
                  case ysa7 => (intro wz hSw; go_simp; (try with_reducible rfl))
                  try simp only [Act.put, List.getElem_toArray, List.getElem_cons_zero, List.getElem_cons_succ, List.setIfInBounds_toArray, List.set_cons_zero, List.set_cons_succ]
                  obtain ⟨W6, hW6⟩ : ∃ V : World, V = setP w5 w.heap.size (.slice (some ⟨g, 0, none⟩) N cp) (.int .i64 ((j : Nat) : Int)) (.int .i64 ((md1 : Nat) : Int)) (.int .i64 (c)) (.int .i64 ((a : Nat) : Int)) := ⟨_, rfl⟩
                  have H6 : Hid (PL w base g cp N ks (j) (md1) (c) (a) mst mout gs cs go co b7 b9 k (leafN 0) W6) := by rw [hW6]; exact H5.out.setp _ _ _ _
                  have hS6 : (fun w' : World => w'.cell? ⟨b7, 2, none⟩ = some (.string tt)) W6 := by
                    have h9 := H6.out.tb.cell (j := 2) rfl
                    rw [← Htt.out] at h9
                    exact h9
                  have c0 := H5.out.pb.p.cell (j := 0) rfl
                  have c1 := H5.out.pb.p.cell (j := 1) rfl
                  have c2 := H5.out.pb.p.cell (j := 2) rfl
                  have c3 := H5.out.pb.p.cell (j := 3) rfl
                  have c4 := H5.out.pb.p.cell (j := 4) rfl
                  have e0 := H5.out.pb.p.frozen 0
                  have e1 := H5.out.pb.p.frozen 1
                  have e2 := H5.out.pb.p.frozen 2
                  have e3 := H5.out.pb.p.frozen 3
                  have e4 := H5.out.pb.p.frozen 4
                  unfold setP at hW6
                  refine anyT_one (i := 8) (by kernel_rfl) rfl (fun K hK => ?_)
                  go_simp
                  rw [← hW6]
                  refine hK.out _ _ (.inr hS6) ?_
                  clear hK hW6 H5 hS5 c0 c1 c2 c3 c4 e0 e1 e2 e3 e4
                  try simp only [Act.put, List.getElem_toArray, List.getElem_cons_zero, List.getElem_cons_succ, List.setIfInBounds_toArray, List.set_cons_zero, List.set_cons_succ]
                  obtain ⟨W1, hW1⟩ : ∃ V : World, V = setN W6 b9 (n : Nd) := ⟨_, rfl⟩
                  have H1 : Hid (PL w base g cp N ks (j) (md1) (c) (a) mst mout gs cs go co b7 b9 k (n) W1) := by rw [hW1]; exact H6.out.setn _
                  have hS1 : (fun w' : World => w'.cell? ⟨b7, 2, none⟩ = some (.string tt)) W1 := by
                    have h9 := H1.out.tb.cell (j := 2) rfl
                    rw [← Htt.out] at h9
                    exact h9
                  refine anyT_one (i := 9) (by kernel_rfl) rfl (fun K hK => ?_)
                  refine step_storeNd rfl _ _ rfl b9 rfl (n : Nd) rfl H6.out.nb (fun v => ?_)
                  rw [← hW1]
                  refine hK.out _ _ (.inr hS1) ?_
                  clear hK hW1 H6 hS6
                  try simp only [Act.put, List.getElem_toArray, List.getElem_cons_zero, List.getElem_cons_succ, List.setIfInBounds_toArray, List.set_cons_zero, List.set_cons_succ]
                  refine anyT_done (by kernel_rfl) ?_
                  have H1b : Hid (PB w base g cp N ks (j) (md1) (c) (a) (mst) (mout) gs cs go co W1) := H1.out.pb
                  have q0 := H1.out.nb.cell (j := 0) rfl
                  have q1 := H1.out.nb.cell (j := 1) rfl
                  have q2 := H1.out.nb.cell (j := 2) rfl
                  have q3 := H1.out.nb.cell (j := 3) rfl
                  have q4 := H1.out.nb.cell (j := 4) rfl
                  have q5 := H1.out.nb.cell (j := 5) rfl
                  have q6 := H1.out.nb.cell (j := 6) rfl
                  try simp only at q0 q1 q2 q3 q4 q5 q6
                  obtain ⟨W2, hW2⟩ : ∃ V : World, V = W1.alloc (Obj.cells #[.int .i64 (n : Nd).kind, .string (n : Nd).s, .bool (n : Nd).hi, .string (n : Nd).t, .int .u64 (n : Nd).lo, .int .u64 (n : Nd).up, .int .i64 (n : Nd).n] 65) := ⟨_, rfl⟩
                  have hbW2 : Below W1.heap.size W1 W2 := by rw [hW2]; exact (Below.refl _ _).alloc (Nat.le_refl _) _
                  have HCW2 : Hid (PB w base g cp N ks (j) (md1) (c) (a) (mst) (mout) gs cs go co W2 ∧ NdsAt W2 W1.heap.size 0 [(n : Nd)]) := ⟨H1b.out.up hbW2, by rw [hW2]; exact (nd_one_new W1 (w.heap.size + 2) (n : Nd) H1b.out.lts.2.2).at⟩
                  clear hbW2
                  have hq1 : (mout).length + 1 ≤ 2 ^ 30 := by omega
                  have hq2 : w.heap.size + 2 ≤ W2.heap.size := HCW2.out.1.lts.2.2
                  go_wp2_with (first | refine wpList_build1Nd rfl _ rfl (n : Nd) rfl ?_ | (at_builtin; (try rw [← hW2]); refine wpList_append_nd _ rfl _ _ rfl (w.heap.size + 2) go co (ol) W1.heap.size 0 1 1 (mout) [(n : Nd)] rfl rfl (HLb.out.2.1) rfl HCW2.out.1.out HCW2.out.2 hq1 hq2 ?_))
                  intro g2 c2 w2 hO' hgr hat
                  have hgr2 : W2.grownBy w2 (some go) := by first | exact hgr | (rw [hW2]; exact hgr)
                  have hat2 : g2 = go ∨ g2 = W2.heap.size := by first | exact hat | (rw [hW2]; exact hat) | (rw [hW2]; simpa using hat)
                  have HA : Hid (PB w base g cp N ks (j) (md1) (c) (a) (mst) (mout ++ [(n : Nd)]) gs cs g2 c2 w2) := HCW2.out.1.pushO hO' hgr2 hat2
                  clear hO' hgr hgr2 hat hat2 hW2 HCW2 hq1 hq2
                  clear q0 q1 q2 q3 q4 q5 q6
                  go_wp2_with fail
                  go_roundg (gk - 1)
                  case measure => omega
                  case rel => rcases HQ.out with ⟨rfl, rfl, z1, z2, z3⟩ | ⟨z1, z2⟩
                              · exact .inl ⟨⟨ks.drop j, md1, mout ++ [n], mst, false⟩, j, gs, cs, g2, c2, by rw [HLb.out.2.1, List.length_append]; rfl, by rw [HLb.out.1], rfl, by omega, by rw [HI1.out.1] at z1 z2; rw [HI1.out.2]; exact HE.out.2.2 h2 _ _ z1 z2 z3, HA.out⟩
                              · exact .inr ⟨c, a, j, md1, gs, cs, g2, c2, mst, mout ++ [n], false, by rw [HLb.out.2.1, List.length_append]; rfl, by rw [HLb.out.1], rfl, by rw [HI1.out.1] at z2; exact HE.out.2.1 h2 _ z2, z1, HA.out⟩
              · as_aux_lemma =>
                  go_simp
                  go_at_call 50
                  refine (HLk.out W9.drew).mono ?_
                  rintro e w4 ⟨rfl, hw4⟩
                  rw [hw4]
                  clear hw4
                  refine hK.out _ _ (.inr hS0) ?_
                  clear hK
                  try simp only [Act.put, List.getElem_toArray, List.getElem_cons_zero, List.getElem_cons_succ, List.setIfInBounds_toArray, List.set_cons_zero, List.set_cons_succ]
                  refine anyT_one (i := 0) (by kernel_rfl) rfl (fun K hK => ?_)
                  go_simp
                  refine hK.out _ _ (.inr hS0) ?_
                  clear hK a0 a1 a2 a3 a4
                  try simp only [Act.put, List.getElem_toArray, List.getElem_cons_zero, List.getElem_cons_succ, List.setIfInBounds_toArray, List.set_cons_zero, List.set_cons_succ]
                  refine anyT_one (i := 4) (by kernel_rfl) rfl (fun K hK => ?_)
                  go_simp
                  go_at_call 49
                  refine HArw.out.mono ?_
                  rintro e w5 ⟨hb5, j, c, a, n, rfl, HQ⟩
                  have hvv : (n : Nd).v = .agg #[.int .i64 n.kind, .string n.s, .bool n.hi, .string n.t, .int .u64 n.lo, .int .u64 n.up, .int .i64 n.n] := rfl
                  rw [hvv]
                  clear hvv
                  have H5 : Hid (PL w base g cp N ks (i1) (md1) (0) (0) mst mout gs cs go co b7 b9 k (leafN 0) w5) := H9.out.up (((Below.refl _ _).drew).trans (hb5.mono (Nat.le_refl _)))
                  have hS5 : (fun w' : World => w'.cell? ⟨b7, 2, none⟩ = some (.string tt)) w5 := by
                    have h9 := H5.out.tb.cell (j := 2) rfl
                    rw [← Htt.out] at h9
                    exact h9
                  refine hK.out _ _ (.inr hS5) ?_
                  clear hK hb5
                  try simp only [Act.put, List.getElem_toArray, List.getElem_cons_zero, List.getElem_cons_succ, List.setIfInBounds_toArray, List.set_cons_zero, List.set_cons_succ]
                  refine anyT_one (i := 5) (by kernel_rfl) rfl (fun K hK => ?_)
                  go_simp
                  refine hK.out _ _ (.inr hS5) ?_
                  clear hK
                  try simp only [Act.put, List.getElem_toArray, List.getElem_cons_zero, List.getElem_cons_succ, List.setIfInBounds_toArray, List.set_cons_zero, List.set_cons_succ]
                  refine anyT_takeN (i := 6) (v := ?vsb6) rfl (by kernel_rfl) (by kernel_rfl) (by kernel_rfl) (by rfl) (fun _ _ _ h => h) (Or.inl ⟨by rfl, ?ysb6⟩) hS5 ?_
                  case ysb6 => (intro wz hSw; go_simp; (try with_reducible rfl))
                  try simp only [Act.put, List.getElem_toArray, List.getElem_cons_zero, List.getElem_cons_succ, List.setIfInBounds_toArray, List.set_cons_zero, List.set_cons_succ]
                  refine anyT_takeN (i := 7) (v := ?vsb7) rfl (by kernel_rfl) (by kernel_rfl) (by kernel_rfl) (by rfl) (fun _ _ _ h => h) (Or.inl ⟨by rfl, ?ysb7⟩) hS5 ?_
                  case ysb7 => (intro wz hSw; go_simp; (try with_reducible rfl))
                  try simp only [Act.put, List.getElem_toArray, List.getElem_cons_zero, List.getElem_cons_succ, List.setIfInBounds_toArray, List.set_cons_zero, List.set_cons_succ]
                  obtain ⟨W6, hW6⟩ : ∃ V : World, V = setP w5 w.heap.size (.slice (some ⟨g, 0, none⟩) N cp) (.int .i64 ((j : Nat) : Int)) (.int .i64 ((md1 : Nat) : Int)) (.int .i64 (c)) (.int .i64 ((a : Nat) : Int)) := ⟨_, rfl⟩
                  have H6 : Hid (PL w base g cp N ks (j) (md1) (c) (a) mst mout gs cs go co b7 b9 k (leafN 0) W6) := by rw [hW6]; exact H5.out.setp _ _ _ _
                  have hS6 : (fun w' : World => w'.cell? ⟨b7, 2, none⟩ = some (.string tt)) W6 := by
                    have h9 := H6.out.tb.cell (j := 2) rfl
                    rw [← Htt.out] at h9
                    exact h9
                  have c0 := H5.out.pb.p.cell (j := 0) rfl
                  have c1 := H5.out.pb.p.cell (j := 1) rfl
                  have c2 := H5.out.pb.p.cell (j := 2) rfl
                  have c3 := H5.out.pb.p.cell (j := 3) rfl
                  have c4 := H5.out.pb.p.cell (j := 4) rfl
                  have e0 := H5.out.pb.p.frozen 0
                  have e1 := H5.out.pb.p.frozen 1
                  have e2 := H5.out.pb.p.frozen 2
                  have e3 := H5.out.pb.p.frozen 3
                  have e4 := H5.out.pb.p.frozen 4
                  unfold setP at hW6
                  refine anyT_one (i := 8) (by kernel_rfl) rfl (fun K hK => ?_)
                  go_simp
                  rw [← hW6]
                  refine hK.out _ _ (.inr hS6) ?_
                  clear hK hW6 H5 hS5 c0 c1 c2 c3 c4 e0 e1 e2 e3 e4
                  try simp only [Act.put, List.getElem_toArray, List.getElem_cons_zero, List.getElem_cons_succ, List.setIfInBounds_toArray, List.set_cons_zero, List.set_cons_succ]
                  obtain ⟨W1, hW1⟩ : ∃ V : World, V = setN W6 b9 (n : Nd) := ⟨_, rfl⟩
                  have H1 : Hid (PL w base g cp N ks (j) (md1) (c) (a) mst mout gs cs go co b7 b9 k (n) W1) := by rw [hW1]; exact H6.out.setn _
                  have hS1 : (fun w' : World => w'.cell? ⟨b7, 2, none⟩ = some (.string tt)) W1 := by
                    have h9 := H1.out.tb.cell (j := 2) rfl
                    rw [← Htt.out] at h9
                    exact h9
                  refine anyT_one (i := 9) (by kernel_rfl) rfl (fun K hK => ?_)
                  refine step_storeNd rfl _ _ rfl b9 rfl (n : Nd) rfl H6.out.nb (fun v => ?_)
                  rw [← hW1]
                  refine hK.out _ _ (.inr hS1) ?_
                  clear hK hW1 H6 hS6
                  try simp only [Act.put, List.getElem_toArray, List.getElem_cons_zero, List.getElem_cons_succ, List.setIfInBounds_toArray, List.set_cons_zero, List.set_cons_succ]
                  refine anyT_done (by kernel_rfl) ?_
                  have H1b : Hid (PB w base g cp N ks (j) (md1) (c) (a) (mst) (mout) gs cs go co W1) := H1.out.pb
                  have q0 := H1.out.nb.cell (j := 0) rfl
                  have q1 := H1.out.nb.cell (j := 1) rfl
                  have q2 := H1.out.nb.cell (j := 2) rfl
                  have q3 := H1.out.nb.cell (j := 3) rfl
                  have q4 := H1.out.nb.cell (j := 4) rfl
                  have q5 := H1.out.nb.cell (j := 5) rfl
                  have q6 := H1.out.nb.cell (j := 6) rfl
                  try simp only at q0 q1 q2 q3 q4 q5 q6
                  obtain ⟨W2, hW2⟩ : ∃ V : World, V = W1.alloc (Obj.cells #[.int .i64 (n : Nd).kind, .string (n : Nd).s, .bool (n : Nd).hi, .string (n : Nd).t, .int .u64 (n : Nd).lo, .int .u64 (n : Nd).up, .int .i64 (n : Nd).n] 65) := ⟨_, rfl⟩
                  have hbW2 : Below W1.heap.size W1 W2 := by rw [hW2]; exact (Below.refl _ _).alloc (Nat.le_refl _) _
                  have HCW2 : Hid (PB w base g cp N ks (j) (md1) (c) (a) (mst) (mout) gs cs go co W2 ∧ NdsAt W2 W1.heap.size 0 [(n : Nd)]) := ⟨H1b.out.up hbW2, by rw [hW2]; exact (nd_one_new W1 (w.heap.size + 2) (n : Nd) H1b.out.lts.2.2).at⟩
                  clear hbW2
                  have hq1 : (mout).length + 1 ≤ 2 ^ 30 := by omega
                  have hq2 : w.heap.size + 2 ≤ W2.heap.size := HCW2.out.1.lts.2.2
                  go_wp2_with (first | refine wpList_build1Nd rfl _ rfl (n : Nd) rfl ?_ | (at_builtin; (try rw [← hW2]); refine wpList_append_nd _ rfl _ _ rfl (w.heap.size + 2) go co (ol) W1.heap.size 0 1 1 (mout) [(n : Nd)] rfl rfl (HLb.out.2.1) rfl HCW2.out.1.out HCW2.out.2 hq1 hq2 ?_))
                  intro g2 c2 w2 hO' hgr hat
                  have hgr2 : W2.grownBy w2 (some go) := by first | exact hgr | (rw [hW2]; exact hgr)
                  have hat2 : g2 = go ∨ g2 = W2.heap.size := by first | exact hat | (rw [hW2]; exact hat) | (rw [hW2]; simpa using hat)
                  have HA : Hid (PB w base g cp N ks (j) (md1) (c) (a) (mst) (mout ++ [(n : Nd)]) gs cs g2 c2 w2) := HCW2.out.1.pushO hO' hgr2 hat2
                  clear hO' hgr hgr2 hat hat2 hW2 HCW2 hq1 hq2
                  clear q0 q1 q2 q3 q4 q5 q6
                  go_wp2_with fail
                  go_roundg (gk - 1)
                  case measure => omega
                  case rel => rcases HQ.out with ⟨rfl, rfl, z1, z2, z3⟩ | ⟨z1, z2⟩
                              · exact .inl ⟨⟨ks.drop j, md1, mout ++ [n], mst, false⟩, j, gs, cs, g2, c2, by rw [HLb.out.2.1, List.length_append]; rfl, by rw [HLb.out.1], rfl, by omega, by rw [HI1.out.1] at z1 z2; rw [HI1.out.2]; exact HE.out.2.2 h2 _ _ z1 z2 z3, HA.out⟩
                              · exact .inr ⟨c, a, j, md1, gs, cs, g2, c2, mst, mout ++ [n], false, by rw [HLb.out.2.1, List.length_append]; rfl, by rw [HLb.out.1], rfl, by rw [HI1.out.1] at z2; exact HE.out.2.1 h2 _ z2, z1, HA.out⟩
        case neg => as_aux_lemma =>
          have z1 : (tn == 1) = false := by
            rw [beq_eq_false_iff_ne, htn]
            intro q
            apply hw
            cases hkk : k.k <;> rw [hkk] at q <;> first | exact ⟨_, rfl⟩ | exact absurd q (by simp [tkN])
          have HW : Hid (∀ kd, ¬ k.k = .word kd) := fun kd q => hw ⟨kd, q⟩
          clear hw htn htt
          have HIs : Hid (Calls Tryz.prog 48 #[parV g N cp i mmade 0 0, .string ⟨#[40]⟩] W7 fun e w' => e = .returned (.bool (k.k.isSign 40)) ∧ Below W7.heap.size W7 w') := l5IsSym_core H7p.out.tk HN.out.1 HN.out.2.1 HMb.out.2 (toks_kind HN.out.2.2.1 HMb.out.2) mmade 0 0 40 ⟨#[40]⟩ (by rw [ByteArray.toList_eq]; rfl)
          have a0 := H7p.out.p.cell (j := 0) rfl
          have a1 := H7p.out.p.cell (j := 1) rfl
          have a2 := H7p.out.p.cell (j := 2) rfl
          have a3 := H7p.out.p.cell (j := 3) rfl
          have a4 := H7p.out.p.cell (j := 4) rfl
          go_wp2_with fail
          refine HIs.out.mono ?_
          clear HIs
          rintro e v1 ⟨rfl, hb1⟩
          have H10 : Hid (PB w base g cp N ks (i) (mmade) (0) (0) (mst) (mout) gs cs go co v1) := H7p.out.up hb1
          clear hb1 H7p H7b u0 u2 a0 a1 a2 a3 a4
          have HFl : Hid (∀ c, Calls Tryz.prog 46 #[parV g N cp i mmade 0 0, .int .i64 c] v1 fun e w' => e = .returned (parV g N cp i mmade c k.pos) ∧ Below v1.heap.size v1 w') := fun c => by
            have h9 := l5Fail_core H10.out.tk HN.out.1 HN.out.2.1 HMb.out.2 mmade 0 0 c
            rw [Hbd.out] at h9
            exact h9
          cases hsg : k.k.isSign 40
          case false => as_aux_lemma =>
            have HE : Hid (MEnds (⟨ks, 0, [], [], true⟩ : Ms) (.error (3, k.pos))) := want_no HMb.out.1 HMb.out.2 Hbd.out HW.out hsg
            have HFl3 : Hid (Calls Tryz.prog 46 #[parV g N cp i mmade 0 0, .int .i64 3] v1 fun e w' => e = .returned (parV g N cp i mmade 3 k.pos) ∧ Below v1.heap.size v1 w') := HFl.out 3
            clear HFl
            have a0 := H10.out.p.cell (j := 0) rfl
            have a1 := H10.out.p.cell (j := 1) rfl
            have a2 := H10.out.p.cell (j := 2) rfl
            have a3 := H10.out.p.cell (j := 3) rfl
            have a4 := H10.out.p.cell (j := 4) rfl
            go_wp2_with fail
            refine HFl3.out.mono ?_
            clear HFl3
            rintro e v9 ⟨rfl, hb9⟩
            have H9 := H10.out.up hb9
            clear hb9 a0 a1 a2 a3 a4
            obtain ⟨W9, hW9⟩ : ∃ V : World, V = setP v9 (w.heap.size + 1) (.slice (some ⟨g, 0, none⟩) N cp) (.int .i64 ((i : Nat) : Int)) (.int .i64 ((mmade : Nat) : Int)) (.int .i64 (3)) (.int .i64 ((k.pos : Nat) : Int)) := ⟨_, rfl⟩
            have HR : Hid (ParP w g cp N (⟨ks, 0, [], [], true⟩ : Ms) (.returned (.tuple #[parV g N cp (i) (mmade) (3) (k.pos), .slice (some ⟨go, 0, none⟩) ol co])) W9 ∧ BoxAt W9 w.heap.size 41 5 (w.heap.size + 1) [.slice (some ⟨g, 0, none⟩) N cp, .int .i64 ((i : Nat) : Int), .int .i64 ((mmade : Nat) : Int), .int .i64 (3), .int .i64 ((k.pos : Nat) : Int)]) := H9.fail HE.out (by decide) hW9
            have c0 := H9.rp.cell (j := 0) rfl
            have c1 := H9.rp.cell (j := 1) rfl
            have c2 := H9.rp.cell (j := 2) rfl
            have c3 := H9.rp.cell (j := 3) rfl
            have c4 := H9.rp.cell (j := 4) rfl
            have e0 := H9.rp.frozen 0
            have e1 := H9.rp.frozen 1
            have e2 := H9.rp.frozen 2
            have e3 := H9.rp.frozen 3
            have e4 := H9.rp.frozen 4
            have p0 := HR.out.2.cell (j := 0) rfl
            have p1 := HR.out.2.cell (j := 1) rfl
            have p2 := HR.out.2.cell (j := 2) rfl
            have p3 := HR.out.2.cell (j := 3) rfl
            have p4 := HR.out.2.cell (j := 4) rfl
            unfold setP at hW9
            go_wp2_with fail
            rw [← hW9]
            exact bodyPost_ret (v := .tuple #[parV g N cp (i) (mmade) (3) (k.pos), .slice (some ⟨go, 0, none⟩) ol co]) (by simp [results, Tryz.results21, go_sem, p0, p1, p2, p3, p4]) rfl HR.out.1
          case true => as_aux_lemma =>
            have HE : Hid ((openF mst = 20 → MEnds (⟨ks, 0, [], [], true⟩ : Ms) (.error (4, k.pos))) ∧ (¬ openF mst = 20 → PM N ks (⟨ks, 0, [], [], true⟩ : Ms) ⟨ks.drop (i + 1), mmade, mout, (3, 0) :: mst, true⟩ (i + 1))) := want_open HMb.out.1 HMb.out.2 HN.out.1 HN.out.2.2.1 hsg
            clear hsg
            by_cases ho : openF mst = 20
            case pos => as_aux_lemma =>
              have zo : (op == 20) = true := by rw [beq_iff_eq, HLb.out.2.2, ho]; rfl
              have HE4 : Hid (MEnds (⟨ks, 0, [], [], true⟩ : Ms) (.error (4, k.pos))) := HE.out.1 ho
              have HFl4 : Hid (Calls Tryz.prog 46 #[parV g N cp i mmade 0 0, .int .i64 4] v1 fun e w' => e = .returned (parV g N cp i mmade 4 k.pos) ∧ Below v1.heap.size v1 w') := HFl.out 4
              clear HFl HE ho
              have a0 := H10.out.p.cell (j := 0) rfl
              have a1 := H10.out.p.cell (j := 1) rfl
              have a2 := H10.out.p.cell (j := 2) rfl
              have a3 := H10.out.p.cell (j := 3) rfl
              have a4 := H10.out.p.cell (j := 4) rfl
              go_wp2_with fail
              refine HFl4.out.mono ?_
              clear HFl4
              rintro e v9 ⟨rfl, hb9⟩
              have H9 := H10.out.up hb9
              clear hb9 a0 a1 a2 a3 a4
              obtain ⟨W9, hW9⟩ : ∃ V : World, V = setP v9 (w.heap.size + 1) (.slice (some ⟨g, 0, none⟩) N cp) (.int .i64 ((i : Nat) : Int)) (.int .i64 ((mmade : Nat) : Int)) (.int .i64 (4)) (.int .i64 ((k.pos : Nat) : Int)) := ⟨_, rfl⟩
              have HR : Hid (ParP w g cp N (⟨ks, 0, [], [], true⟩ : Ms) (.returned (.tuple #[parV g N cp (i) (mmade) (4) (k.pos), .slice (some ⟨go, 0, none⟩) ol co])) W9 ∧ BoxAt W9 w.heap.size 41 5 (w.heap.size + 1) [.slice (some ⟨g, 0, none⟩) N cp, .int .i64 ((i : Nat) : Int), .int .i64 ((mmade : Nat) : Int), .int .i64 (4), .int .i64 ((k.pos : Nat) : Int)]) := H9.fail HE4.out (by decide) hW9
              have c0 := H9.rp.cell (j := 0) rfl
              have c1 := H9.rp.cell (j := 1) rfl
              have c2 := H9.rp.cell (j := 2) rfl
              have c3 := H9.rp.cell (j := 3) rfl
              have c4 := H9.rp.cell (j := 4) rfl
              have e0 := H9.rp.frozen 0
              have e1 := H9.rp.frozen 1
              have e2 := H9.rp.frozen 2
              have e3 := H9.rp.frozen 3
              have e4 := H9.rp.frozen 4
              have p0 := HR.out.2.cell (j := 0) rfl
              have p1 := HR.out.2.cell (j := 1) rfl
              have p2 := HR.out.2.cell (j := 2) rfl
              have p3 := HR.out.2.cell (j := 3) rfl
              have p4 := HR.out.2.cell (j := 4) rfl
              unfold setP at hW9
              go_wp2_with fail
              rw [← hW9]
              exact bodyPost_ret (v := .tuple #[parV g N cp (i) (mmade) (4) (k.pos), .slice (some ⟨go, 0, none⟩) ol co]) (by simp [results, Tryz.results21, go_sem, p0, p1, p2, p3, p4]) rfl HR.out.1
            case neg => as_aux_lemma =>
              have zo : (op == 20) = false := by rw [beq_eq_false_iff_ne, HLb.out.2.2]; omega
              have HPm : Hid (PM N ks (⟨ks, 0, [], [], true⟩ : Ms) ⟨ks.drop (i + 1), mmade, mout, (3, 0) :: mst, true⟩ (i + 1)) := HE.out.2 ho
              clear HE ho HFl
              obtain ⟨W12, hW12⟩ : ∃ V : World, V = v1.alloc (Obj.cells #[.int .i64 3, .int .i64 0] 86) := ⟨_, rfl⟩
              have hbW12 : Below v1.heap.size v1 W12 := by rw [hW12]; exact (Below.refl _ _).alloc (Nat.le_refl _) _
              have HCW12 : Hid (PB w base g cp N ks (i) (mmade) (0) (0) (mst) (mout) gs cs go co W12 ∧ ∀ j u, (enV (3, 0))[j]? = some u → W12.cell? ⟨v1.heap.size, j, none⟩ = some u) := ⟨H10.out.up hbW12, by rw [hW12]; exact alloc_cells v1 _ _⟩
              clear hbW12
              have hq1 : (mst).reverse.length ≤ 1000000 := by rw [List.length_reverse]; omega
              have hq2 : w.heap.size + 2 ≤ W12.heap.size := HCW12.out.1.lts.2.2
              have hq3 : Hid (sl = (mst).reverse.length) := by show _ = _; rw [List.length_reverse]; exact HLb.out.1
              have a0 := H10.out.p.cell (j := 0) rfl
              have a1 := H10.out.p.cell (j := 1) rfl
              have a2 := H10.out.p.cell (j := 2) rfl
              have a3 := H10.out.p.cell (j := 3) rfl
              have a4 := H10.out.p.cell (j := 4) rfl
              go_wp2_with (at_builtin; (try rw [← hW12]); refine wpList_append_En _ rfl _ _ rfl (w.heap.size + 2) gs cs (sl) v1.heap.size 1 (mst).reverse (3, 0) rfl rfl hq3.out HCW12.out.1.st HCW12.out.2 hq1 hq2 ?_)
              intro g2 c2 w2 hO' hgr hat
              have hgr2 : W12.grownBy w2 (some gs) := by first | exact hgr | (rw [hW12]; exact hgr)
              have hat2 : g2 = gs ∨ g2 = W12.heap.size := by first | exact hat | (rw [hW12]; exact hat) | (rw [hW12]; simpa using hat)
              have HA : Hid (PB w base g cp N ks (i) (mmade) (0) (0) ((3, 0) :: mst) (mout) g2 c2 go co w2) := HCW12.out.1.pushS hO' hgr2 hat2
              clear hO' hgr hgr2 hat hat2 hW12 HCW12 hq1 hq2 hq3 a0 a1 a2 a3 a4
              have a1 := HA.out.p.cell (j := 1) rfl
              have e1 := HA.out.p.frozen 1
              go_wp2_with fail
              go_roundg (N + 1 - (i + 1))
              case measure => omega
              case rel => exact .inl ⟨⟨ks.drop (i + 1), mmade, mout, (3, 0) :: mst, true⟩, i + 1, g2, c2, go, co, by rw [HLb.out.2.1], by rw [HLb.out.1]; rfl, rfl, Nat.le_refl _, HPm.out, HA.out.seti _ (by go_num)⟩
      case false => as_aux_lemma =>
        have H7p : Hid (PB w base g cp N ks i mmade 0 0 mst mout gs cs go co W7) := H7.out.1
        have H7t : Hid (BoxAt W7 (w.heap.size + 2) 80 4 b7 (tkV k) ∧ ¬ b7 = gs ∧ ¬ b7 = go) := H7.out.2
        have HMb : Hid (PM N ks (⟨ks, 0, [], [], true⟩ : Ms) ⟨mks, mmade, mout, mst, false⟩ i ∧ ks[i]? = some k) := ⟨HM.out.1, HM.out.2.2.2.2⟩
        have HLb : Hid (sl = mst.length ∧ ol = mout.length ∧ op = (openF mst : Int)) := HL.out
        have hmd : mmade ≤ 200 := HMb.out.1.md
        have hln : mout.length + mst.length ≤ i := HMb.out.1.ln
        have HIs : Hid (∀ W, OwnTk W base g cp ks → ∀ (b : UInt8) (s : ByteArray), s.toList = (if b = 46 then [46, 46] else [b]) → Calls Tryz.prog 48 #[parV g N cp i mmade 0 0, .string s] W fun e w' => e = .returned (.bool (k.k.isSign b)) ∧ Below W.heap.size W w') := fun W hO b s hs => l5IsSym_core hO HN.out.1 HN.out.2.1 HMb.out.2 (toks_kind HN.out.2.2.1 HMb.out.2) mmade 0 0 b s hs
        have HFl : Hid (∀ W, OwnTk W base g cp ks → ∀ c, Calls Tryz.prog 46 #[parV g N cp i mmade 0 0, .int .i64 c] W fun e w' => e = .returned (parV g N cp i mmade c k.pos) ∧ Below W.heap.size W w') := fun W hO c => by
          have h9 := l5Fail_core hO HN.out.1 HN.out.2.1 HMb.out.2 mmade 0 0 c
          rw [Hbd.out] at h9
          exact h9
        clear H7 HM HL HB
        obtain ⟨tt, htt⟩ : ∃ tt, tt = tkT k.k := ⟨_, rfl⟩
        obtain ⟨tn, htn⟩ : ∃ tn, tn = tkN k.k := ⟨_, rfl⟩
        rw [← htt] at u2
        rw [← htn] at u0 hbd6
        have Htt : Hid (tt = tkT k.k ∧ tn = tkN k.k) := ⟨htt, htn⟩
        clear htt htn
        have HI1 : Hid (Calls Tryz.prog 48 #[parV g N cp i mmade 0 0, .string ⟨#[62]⟩] W7 fun e w' => e = .returned (.bool (k.k.isSign 62)) ∧ Below W7.heap.size W7 w') := HIs.out W7 H7p.out.tk 62 ⟨#[62]⟩ (by rw [ByteArray.toList_eq]; rfl)
        have a0 := H7p.out.p.cell (j := 0) rfl
        have a1 := H7p.out.p.cell (j := 1) rfl
        have a2 := H7p.out.p.cell (j := 2) rfl
        have a3 := H7p.out.p.cell (j := 3) rfl
        have a4 := H7p.out.p.cell (j := 4) rfl
        go_wp2_with fail
        refine HI1.out.mono ?_
        clear HI1
        rintro e v1 ⟨rfl, hb1⟩
        have H1 : Hid (PB w base g cp N ks (i) (mmade) (0) (0) (mst) (mout) gs cs go co v1) := H7p.out.up hb1
        have Ht1 : Hid (BoxAt v1 (w.heap.size + 2) 80 4 b7 (tkV k)) := H7t.out.1.below hb1
        clear hb1 H7p u0 u2 hbd6 a0 a1 a2 a3 a4
        have u0 := Ht1.out.cell (j := 0) rfl
        have u2 := Ht1.out.cell (j := 2) rfl
        rw [← Htt.out.1] at u2
        rw [← Htt.out.2] at u0
        cases hs62 : k.k.isSign 62
        case true => as_aux_lemma =>
          have zt : (tt.toList == [124]) = false := by
            rw [Htt.out.1, TkK.isSign_eq hs62, ByteArray.toList_eq]
            rfl
          have HE : Hid ((¬ mmade < 200 → MEnds (⟨ks, 0, [], [], true⟩ : Ms) (.error (5, k.pos))) ∧ (mmade < 200 → PM N ks (⟨ks, 0, [], [], true⟩ : Ms) ⟨ks.drop (i + 1), mmade + 1, (drainF false mst mout).2, (1, 0) :: (drainF false mst mout).1, true⟩ (i + 1))) := op_step HMb.out.1 HMb.out.2 HN.out.1 HN.out.2.2.1 (.inl ⟨hs62, rfl, rfl⟩)
          clear hs62
          by_cases h2 : mmade < 200
          case neg => as_aux_lemma =>
            have HMk : Hid (Calls Tryz.prog 47 #[parV g N cp i mmade 0 0] v1 fun e w' => e = .returned (parV g N cp i mmade 5 k.pos) ∧ Below v1.heap.size v1 w') := by
              refine (l5Makes_core H1.out.tk HN.out.1 HN.out.2.1 HMb.out.2 Hbd.out mmade hmd 0).mono ?_
              rintro e w' ⟨hb, ⟨q, rfl⟩ | ⟨q, rfl⟩⟩
              · exact absurd q h2
              · exact ⟨rfl, hb⟩
            have HE5 : Hid (MEnds (⟨ks, 0, [], [], true⟩ : Ms) (.error (5, k.pos))) := HE.out.1 h2
            clear HE HIs HFl
            go_upto_region 35 with fail
            clear u0 u2 zt
            have a0 := H1.out.p.cell (j := 0) rfl
            have a1 := H1.out.p.cell (j := 1) rfl
            have a2 := H1.out.p.cell (j := 2) rfl
            have a3 := H1.out.p.cell (j := 3) rfl
            have a4 := H1.out.p.cell (j := 4) rfl
            go_wp2_with fail
            refine HMk.out.mono ?_
            clear HMk
            rintro e v8 ⟨rfl, hbv8⟩
            have hv8 := H1.out.up hbv8
            clear hbv8 a0 a1 a2 a3 a4
            obtain ⟨W9, hW9⟩ : ∃ V : World, V = setP v8 w.heap.size (.slice (some ⟨g, 0, none⟩) N cp) (.int .i64 ((i : Nat) : Int)) (.int .i64 ((mmade : Nat) : Int)) (.int .i64 (5)) (.int .i64 ((k.pos : Nat) : Int)) := ⟨_, rfl⟩
            have H9 : Hid (PB w base g cp N ks (i) (mmade) (5) (k.pos) (mst) (mout) gs cs go co W9) := by rw [hW9]; exact hv8.setp _ _ _ _
            have c0 := hv8.p.cell (j := 0) rfl
            have c1 := hv8.p.cell (j := 1) rfl
            have c2 := hv8.p.cell (j := 2) rfl
            have c3 := hv8.p.cell (j := 3) rfl
            have c4 := hv8.p.cell (j := 4) rfl
            have e0 := hv8.p.frozen 0
            have e1 := hv8.p.frozen 1
            have e2 := hv8.p.frozen 2
            have e3 := hv8.p.frozen 3
            have e4 := hv8.p.frozen 4
            unfold setP at hW9
            go_upto_region 36 with fail
            rw [← hW9]
            clear hW9 hv8 c0 c1 c2 c3 c4 e0 e1 e2 e3 e4
            have HDr : Hid (Calls Tryz.prog 51 #[.slice (some ⟨gs, 0, none⟩) sl cs, .slice (some ⟨go, 0, none⟩) ol co, .bool false] W9 (DrP W9 (w.heap.size + 2) gs cs go mst mout false)) := by
              rw [HLb.out.1, HLb.out.2.1]
              exact l5Drain_core false H9.out.st H9.out.out H9.out.ne (by omega) H9.out.lts.2.2
            go_wp2_with fail
            refine HDr.out.mono ?_
            clear HDr
            rintro e v9 ⟨st1, out1, gd1, cd1, rfl, hdr, hO⟩
            have H10 : Hid (PB w base g cp N ks (i) (mmade) (5) (k.pos) (st1) (out1) gs cs gd1 cd1 v9) := H9.out.drain hO.out
            have HDe : Hid (drainF false mst mout = (st1, out1)) := hdr
            have hdl := drain_len false mst mout
            rw [hdr] at hdl
            simp only at hdl
            clear hO hdr
            obtain ⟨s1, hs1⟩ : ∃ s1, s1 = st1.length := ⟨_, rfl⟩
            obtain ⟨o1, ho1⟩ : ∃ o1, o1 = out1.length := ⟨_, rfl⟩
            have HL1 : Hid (s1 = st1.length ∧ o1 = out1.length) := ⟨hs1, ho1⟩
            rw [← hs1, ← ho1] at hdl ⊢
            clear hs1 ho1
            obtain ⟨W12, hW12⟩ : ∃ V : World, V = v9.alloc (Obj.cells #[.int .i64 1, .int .i64 0] 86) := ⟨_, rfl⟩
            have hbW12 : Below v9.heap.size v9 W12 := by rw [hW12]; exact (Below.refl _ _).alloc (Nat.le_refl _) _
            have HCW12 : Hid (PB w base g cp N ks (i) (mmade) (5) (k.pos) (st1) (out1) gs cs gd1 cd1 W12 ∧ ∀ j u, (enV (1, 0))[j]? = some u → W12.cell? ⟨v9.heap.size, j, none⟩ = some u) := ⟨H10.out.up hbW12, by rw [hW12]; exact alloc_cells v9 _ _⟩
            clear hbW12
            have hq1 : (st1).reverse.length ≤ 1000000 := by rw [List.length_reverse, ← HL1.out.1]; omega
            have hq2 : w.heap.size + 2 ≤ W12.heap.size := HCW12.out.1.lts.2.2
            have hq3 : Hid (s1 = (st1).reverse.length) := by show _ = _; rw [List.length_reverse]; exact HL1.out.1
            have a0 := H10.out.p.cell (j := 0) rfl
            have a1 := H10.out.p.cell (j := 1) rfl
            have a2 := H10.out.p.cell (j := 2) rfl
            have a3 := H10.out.p.cell (j := 3) rfl
            have a4 := H10.out.p.cell (j := 4) rfl
            go_wp2_with (at_builtin; (try rw [← hW12]); refine wpList_append_En _ rfl _ _ rfl (w.heap.size + 2) gs cs (s1) v9.heap.size 1 (st1).reverse (1, 0) rfl rfl hq3.out HCW12.out.1.st HCW12.out.2 hq1 hq2 ?_)
            intro g2 c2 w2 hO' hgr hat
            have hgr2 : W12.grownBy w2 (some gs) := by first | exact hgr | (rw [hW12]; exact hgr)
            have hat2 : g2 = gs ∨ g2 = W12.heap.size := by first | exact hat | (rw [hW12]; exact hat) | (rw [hW12]; simpa using hat)
            have HA : Hid (PB w base g cp N ks (i) (mmade) (5) (k.pos) ((1, 0) :: st1) (out1) g2 c2 gd1 cd1 w2) := HCW12.out.1.pushS hO' hgr2 hat2
            clear hO' hgr hgr2 hat hat2 hW12 HCW12 hq1 hq2 hq3 a0 a1 a2 a3 a4
            go_wp2_with fail
            go_roundg (gk - 1)
            case measure => omega
            case rel => exact .inr ⟨5, k.pos, i, mmade, g2, c2, gd1, cd1, (1, 0) :: st1, out1, true, by rw [HL1.out.2], by rw [HL1.out.1]; rfl, rfl, HE5.out, (by decide), HA.out⟩
          case pos => as_aux_lemma =>
            obtain ⟨i1, hi1e⟩ : ∃ i1, i1 = i + 1 := ⟨_, rfl⟩
            obtain ⟨md1, hmd1e⟩ : ∃ md1, md1 = mmade + 1 := ⟨_, rfl⟩
            have HI1 : Hid (i1 = i + 1 ∧ md1 = mmade + 1) := ⟨hi1e, hmd1e⟩
            have hi1l : i1 ≤ i + 1 := by omega
            have hi1g : i + 1 ≤ i1 := by omega
            clear hi1e hmd1e
            have HMk : Hid (Calls Tryz.prog 47 #[parV g N cp i mmade 0 0] v1 fun e w' => e = .returned (parV g N cp i1 md1 0 0) ∧ Below v1.heap.size v1 w') := by
              refine (l5Makes_core H1.out.tk HN.out.1 HN.out.2.1 HMb.out.2 Hbd.out mmade hmd 0).mono ?_
              rintro e w' ⟨hb, ⟨q, rfl⟩ | ⟨q, rfl⟩⟩
              · rw [HI1.out.1, HI1.out.2]; exact ⟨rfl, hb⟩
              · exact absurd h2 q
            have HPm : Hid (PM N ks (⟨ks, 0, [], [], true⟩ : Ms) ⟨ks.drop i1, md1, (drainF false mst mout).2, (1, 0) :: (drainF false mst mout).1, true⟩ i1) := by rw [HI1.out.1, HI1.out.2]; exact HE.out.2 h2
            clear HE HIs HFl
            go_upto_region 35 with fail
            clear u0 u2 zt
            have a0 := H1.out.p.cell (j := 0) rfl
            have a1 := H1.out.p.cell (j := 1) rfl
            have a2 := H1.out.p.cell (j := 2) rfl
            have a3 := H1.out.p.cell (j := 3) rfl
            have a4 := H1.out.p.cell (j := 4) rfl
            go_wp2_with fail
            refine HMk.out.mono ?_
            clear HMk
            rintro e v8 ⟨rfl, hbv8⟩
            have hv8 := H1.out.up hbv8
            clear hbv8 a0 a1 a2 a3 a4
            obtain ⟨W9, hW9⟩ : ∃ V : World, V = setP v8 w.heap.size (.slice (some ⟨g, 0, none⟩) N cp) (.int .i64 ((i1 : Nat) : Int)) (.int .i64 ((md1 : Nat) : Int)) (.int .i64 (0)) (.int .i64 0) := ⟨_, rfl⟩
            have H9 : Hid (PB w base g cp N ks (i1) (md1) (0) (0) (mst) (mout) gs cs go co W9) := by rw [hW9]; exact hv8.setp _ _ _ _
            have c0 := hv8.p.cell (j := 0) rfl
            have c1 := hv8.p.cell (j := 1) rfl
            have c2 := hv8.p.cell (j := 2) rfl
            have c3 := hv8.p.cell (j := 3) rfl
            have c4 := hv8.p.cell (j := 4) rfl
            have e0 := hv8.p.frozen 0
            have e1 := hv8.p.frozen 1
            have e2 := hv8.p.frozen 2
            have e3 := hv8.p.frozen 3
            have e4 := hv8.p.frozen 4
            unfold setP at hW9
            go_upto_region 36 with fail
            rw [← hW9]
            clear hW9 hv8 c0 c1 c2 c3 c4 e0 e1 e2 e3 e4
            have HDr : Hid (Calls Tryz.prog 51 #[.slice (some ⟨gs, 0, none⟩) sl cs, .slice (some ⟨go, 0, none⟩) ol co, .bool false] W9 (DrP W9 (w.heap.size + 2) gs cs go mst mout false)) := by
              rw [HLb.out.1, HLb.out.2.1]
              exact l5Drain_core false H9.out.st H9.out.out H9.out.ne (by omega) H9.out.lts.2.2
            go_wp2_with fail
            refine HDr.out.mono ?_
            clear HDr
            rintro e v9 ⟨st1, out1, gd1, cd1, rfl, hdr, hO⟩
            have H10 : Hid (PB w base g cp N ks (i1) (md1) (0) (0) (st1) (out1) gs cs gd1 cd1 v9) := H9.out.drain hO.out
            have HDe : Hid (drainF false mst mout = (st1, out1)) := hdr
            have hdl := drain_len false mst mout
            rw [hdr] at hdl
            simp only at hdl
            clear hO hdr
            obtain ⟨s1, hs1⟩ : ∃ s1, s1 = st1.length := ⟨_, rfl⟩
            obtain ⟨o1, ho1⟩ : ∃ o1, o1 = out1.length := ⟨_, rfl⟩
            have HL1 : Hid (s1 = st1.length ∧ o1 = out1.length) := ⟨hs1, ho1⟩
            rw [← hs1, ← ho1] at hdl ⊢
            clear hs1 ho1
            obtain ⟨W12, hW12⟩ : ∃ V : World, V = v9.alloc (Obj.cells #[.int .i64 1, .int .i64 0] 86) := ⟨_, rfl⟩
            have hbW12 : Below v9.heap.size v9 W12 := by rw [hW12]; exact (Below.refl _ _).alloc (Nat.le_refl _) _
            have HCW12 : Hid (PB w base g cp N ks (i1) (md1) (0) (0) (st1) (out1) gs cs gd1 cd1 W12 ∧ ∀ j u, (enV (1, 0))[j]? = some u → W12.cell? ⟨v9.heap.size, j, none⟩ = some u) := ⟨H10.out.up hbW12, by rw [hW12]; exact alloc_cells v9 _ _⟩
            clear hbW12
            have hq1 : (st1).reverse.length ≤ 1000000 := by rw [List.length_reverse, ← HL1.out.1]; omega
            have hq2 : w.heap.size + 2 ≤ W12.heap.size := HCW12.out.1.lts.2.2
            have hq3 : Hid (s1 = (st1).reverse.length) := by show _ = _; rw [List.length_reverse]; exact HL1.out.1
            have a0 := H10.out.p.cell (j := 0) rfl
            have a1 := H10.out.p.cell (j := 1) rfl
            have a2 := H10.out.p.cell (j := 2) rfl
            have a3 := H10.out.p.cell (j := 3) rfl
            have a4 := H10.out.p.cell (j := 4) rfl
            go_wp2_with (at_builtin; (try rw [← hW12]); refine wpList_append_En _ rfl _ _ rfl (w.heap.size + 2) gs cs (s1) v9.heap.size 1 (st1).reverse (1, 0) rfl rfl hq3.out HCW12.out.1.st HCW12.out.2 hq1 hq2 ?_)
            intro g2 c2 w2 hO' hgr hat
            have hgr2 : W12.grownBy w2 (some gs) := by first | exact hgr | (rw [hW12]; exact hgr)
            have hat2 : g2 = gs ∨ g2 = W12.heap.size := by first | exact hat | (rw [hW12]; exact hat) | (rw [hW12]; simpa using hat)
            have HA : Hid (PB w base g cp N ks (i1) (md1) (0) (0) ((1, 0) :: st1) (out1) g2 c2 gd1 cd1 w2) := HCW12.out.1.pushS hO' hgr2 hat2
            clear hO' hgr hgr2 hat hat2 hW12 HCW12 hq1 hq2 hq3 a0 a1 a2 a3 a4
            go_wp2_with fail
            have HPn : Hid (PM N ks (⟨ks, 0, [], [], true⟩ : Ms) ⟨ks.drop i1, md1, out1, (1, 0) :: st1, true⟩ i1) := by
              have h9 := HPm.out
              rw [HDe.out] at h9
              exact h9
            go_roundg (N + 1 - (i1))
            case measure => omega
            case rel => exact .inl ⟨⟨ks.drop i1, md1, out1, (1, 0) :: st1, true⟩, i1, g2, c2, gd1, cd1, by rw [HL1.out.2], by rw [HL1.out.1]; rfl, rfl, Nat.le_refl _, HPn.out, HA.out⟩
        case false => as_aux_lemma =>
          have HI2 : Hid (Calls Tryz.prog 48 #[parV g N cp i mmade 0 0, .string ⟨#[124]⟩] v1 fun e w' => e = .returned (.bool (k.k.isSign 124)) ∧ Below v1.heap.size v1 w') := HIs.out v1 H1.out.tk 124 ⟨#[124]⟩ (by rw [ByteArray.toList_eq]; rfl)
          have a0 := H1.out.p.cell (j := 0) rfl
          have a1 := H1.out.p.cell (j := 1) rfl
          have a2 := H1.out.p.cell (j := 2) rfl
          have a3 := H1.out.p.cell (j := 3) rfl
          have a4 := H1.out.p.cell (j := 4) rfl
          go_wp2_with fail
          refine HI2.out.mono ?_
          clear HI2
          rintro e v2 ⟨rfl, hb2⟩
          have H2 : Hid (PB w base g cp N ks (i) (mmade) (0) (0) (mst) (mout) gs cs go co v2) := H1.out.up hb2
          have Ht2 : Hid (BoxAt v2 (w.heap.size + 2) 80 4 b7 (tkV k)) := Ht1.out.below hb2
          clear hb2 H1 Ht1 u0 u2 a0 a1 a2 a3 a4
          have u0 := Ht2.out.cell (j := 0) rfl
          have u2 := Ht2.out.cell (j := 2) rfl
          rw [← Htt.out.1] at u2
          rw [← Htt.out.2] at u0
          cases hs124 : k.k.isSign 124
          case true => as_aux_lemma =>
            have zt : (tt.toList == [124]) = true := by
              rw [Htt.out.1, TkK.isSign_eq hs124, ByteArray.toList_eq]
              rfl
            have HE : Hid ((¬ mmade < 200 → MEnds (⟨ks, 0, [], [], true⟩ : Ms) (.error (5, k.pos))) ∧ (mmade < 200 → PM N ks (⟨ks, 0, [], [], true⟩ : Ms) ⟨ks.drop (i + 1), mmade + 1, (drainF true mst mout).2, (2, 0) :: (drainF true mst mout).1, true⟩ (i + 1))) := op_step HMb.out.1 HMb.out.2 HN.out.1 HN.out.2.2.1 (.inr ⟨hs124, rfl, rfl⟩)
            clear hs124
            by_cases h2 : mmade < 200
            case neg => as_aux_lemma =>
              have HMk : Hid (Calls Tryz.prog 47 #[parV g N cp i mmade 0 0] v2 fun e w' => e = .returned (parV g N cp i mmade 5 k.pos) ∧ Below v2.heap.size v2 w') := by
                refine (l5Makes_core H2.out.tk HN.out.1 HN.out.2.1 HMb.out.2 Hbd.out mmade hmd 0).mono ?_
                rintro e w' ⟨hb, ⟨q, rfl⟩ | ⟨q, rfl⟩⟩
                · exact absurd q h2
                · exact ⟨rfl, hb⟩
              have HE5 : Hid (MEnds (⟨ks, 0, [], [], true⟩ : Ms) (.error (5, k.pos))) := HE.out.1 h2
              clear HE HIs HFl
              go_upto_region 35 with fail
              clear u0 u2 zt
              have a0 := H2.out.p.cell (j := 0) rfl
              have a1 := H2.out.p.cell (j := 1) rfl
              have a2 := H2.out.p.cell (j := 2) rfl
              have a3 := H2.out.p.cell (j := 3) rfl
              have a4 := H2.out.p.cell (j := 4) rfl
              go_wp2_with fail
              refine HMk.out.mono ?_
              clear HMk
              rintro e v8 ⟨rfl, hbv8⟩
              have hv8 := H2.out.up hbv8
              clear hbv8 a0 a1 a2 a3 a4
              obtain ⟨W9, hW9⟩ : ∃ V : World, V = setP v8 w.heap.size (.slice (some ⟨g, 0, none⟩) N cp) (.int .i64 ((i : Nat) : Int)) (.int .i64 ((mmade : Nat) : Int)) (.int .i64 (5)) (.int .i64 ((k.pos : Nat) : Int)) := ⟨_, rfl⟩
              have H9 : Hid (PB w base g cp N ks (i) (mmade) (5) (k.pos) (mst) (mout) gs cs go co W9) := by rw [hW9]; exact hv8.setp _ _ _ _
              have c0 := hv8.p.cell (j := 0) rfl
              have c1 := hv8.p.cell (j := 1) rfl
              have c2 := hv8.p.cell (j := 2) rfl
              have c3 := hv8.p.cell (j := 3) rfl
              have c4 := hv8.p.cell (j := 4) rfl
              have e0 := hv8.p.frozen 0
              have e1 := hv8.p.frozen 1
              have e2 := hv8.p.frozen 2
              have e3 := hv8.p.frozen 3
              have e4 := hv8.p.frozen 4
              unfold setP at hW9
              go_upto_region 36 with fail
              rw [← hW9]
              clear hW9 hv8 c0 c1 c2 c3 c4 e0 e1 e2 e3 e4
              have HDr : Hid (Calls Tryz.prog 51 #[.slice (some ⟨gs, 0, none⟩) sl cs, .slice (some ⟨go, 0, none⟩) ol co, .bool true] W9 (DrP W9 (w.heap.size + 2) gs cs go mst mout true)) := by
                rw [HLb.out.1, HLb.out.2.1]
                exact l5Drain_core true H9.out.st H9.out.out H9.out.ne (by omega) H9.out.lts.2.2
              go_wp2_with fail
              refine HDr.out.mono ?_
              clear HDr
              rintro e v9 ⟨st1, out1, gd1, cd1, rfl, hdr, hO⟩
              have H10 : Hid (PB w base g cp N ks (i) (mmade) (5) (k.pos) (st1) (out1) gs cs gd1 cd1 v9) := H9.out.drain hO.out
              have HDe : Hid (drainF true mst mout = (st1, out1)) := hdr
              have hdl := drain_len true mst mout
              rw [hdr] at hdl
              simp only at hdl
              clear hO hdr
              obtain ⟨s1, hs1⟩ : ∃ s1, s1 = st1.length := ⟨_, rfl⟩
              obtain ⟨o1, ho1⟩ : ∃ o1, o1 = out1.length := ⟨_, rfl⟩
              have HL1 : Hid (s1 = st1.length ∧ o1 = out1.length) := ⟨hs1, ho1⟩
              rw [← hs1, ← ho1] at hdl ⊢
              clear hs1 ho1
              obtain ⟨W12, hW12⟩ : ∃ V : World, V = v9.alloc (Obj.cells #[.int .i64 2, .int .i64 0] 86) := ⟨_, rfl⟩
              have hbW12 : Below v9.heap.size v9 W12 := by rw [hW12]; exact (Below.refl _ _).alloc (Nat.le_refl _) _
              have HCW12 : Hid (PB w base g cp N ks (i) (mmade) (5) (k.pos) (st1) (out1) gs cs gd1 cd1 W12 ∧ ∀ j u, (enV (2, 0))[j]? = some u → W12.cell? ⟨v9.heap.size, j, none⟩ = some u) := ⟨H10.out.up hbW12, by rw [hW12]; exact alloc_cells v9 _ _⟩
              clear hbW12
              have hq1 : (st1).reverse.length ≤ 1000000 := by rw [List.length_reverse, ← HL1.out.1]; omega
              have hq2 : w.heap.size + 2 ≤ W12.heap.size := HCW12.out.1.lts.2.2
              have hq3 : Hid (s1 = (st1).reverse.length) := by show _ = _; rw [List.length_reverse]; exact HL1.out.1
              have a0 := H10.out.p.cell (j := 0) rfl
              have a1 := H10.out.p.cell (j := 1) rfl
              have a2 := H10.out.p.cell (j := 2) rfl
              have a3 := H10.out.p.cell (j := 3) rfl
              have a4 := H10.out.p.cell (j := 4) rfl
              go_wp2_with (at_builtin; (try rw [← hW12]); refine wpList_append_En _ rfl _ _ rfl (w.heap.size + 2) gs cs (s1) v9.heap.size 1 (st1).reverse (2, 0) rfl rfl hq3.out HCW12.out.1.st HCW12.out.2 hq1 hq2 ?_)
              intro g2 c2 w2 hO' hgr hat
              have hgr2 : W12.grownBy w2 (some gs) := by first | exact hgr | (rw [hW12]; exact hgr)
              have hat2 : g2 = gs ∨ g2 = W12.heap.size := by first | exact hat | (rw [hW12]; exact hat) | (rw [hW12]; simpa using hat)
              have HA : Hid (PB w base g cp N ks (i) (mmade) (5) (k.pos) ((2, 0) :: st1) (out1) g2 c2 gd1 cd1 w2) := HCW12.out.1.pushS hO' hgr2 hat2
              clear hO' hgr hgr2 hat hat2 hW12 HCW12 hq1 hq2 hq3 a0 a1 a2 a3 a4
              go_wp2_with fail
              go_roundg (gk - 1)
              case measure => omega
              case rel => exact .inr ⟨5, k.pos, i, mmade, g2, c2, gd1, cd1, (2, 0) :: st1, out1, true, by rw [HL1.out.2], by rw [HL1.out.1]; rfl, rfl, HE5.out, (by decide), HA.out⟩
            case pos => as_aux_lemma =>
              obtain ⟨i1, hi1e⟩ : ∃ i1, i1 = i + 1 := ⟨_, rfl⟩
              obtain ⟨md1, hmd1e⟩ : ∃ md1, md1 = mmade + 1 := ⟨_, rfl⟩
              have HI1 : Hid (i1 = i + 1 ∧ md1 = mmade + 1) := ⟨hi1e, hmd1e⟩
              have hi1l : i1 ≤ i + 1 := by omega
              have hi1g : i + 1 ≤ i1 := by omega
              clear hi1e hmd1e
              have HMk : Hid (Calls Tryz.prog 47 #[parV g N cp i mmade 0 0] v2 fun e w' => e = .returned (parV g N cp i1 md1 0 0) ∧ Below v2.heap.size v2 w') := by
                refine (l5Makes_core H2.out.tk HN.out.1 HN.out.2.1 HMb.out.2 Hbd.out mmade hmd 0).mono ?_
                rintro e w' ⟨hb, ⟨q, rfl⟩ | ⟨q, rfl⟩⟩
                · rw [HI1.out.1, HI1.out.2]; exact ⟨rfl, hb⟩
                · exact absurd h2 q
              have HPm : Hid (PM N ks (⟨ks, 0, [], [], true⟩ : Ms) ⟨ks.drop i1, md1, (drainF true mst mout).2, (2, 0) :: (drainF true mst mout).1, true⟩ i1) := by rw [HI1.out.1, HI1.out.2]; exact HE.out.2 h2
              clear HE HIs HFl
              go_upto_region 35 with fail
              clear u0 u2 zt
              have a0 := H2.out.p.cell (j := 0) rfl
              have a1 := H2.out.p.cell (j := 1) rfl
              have a2 := H2.out.p.cell (j := 2) rfl
              have a3 := H2.out.p.cell (j := 3) rfl
              have a4 := H2.out.p.cell (j := 4) rfl
              go_wp2_with fail
              refine HMk.out.mono ?_
              clear HMk
              rintro e v8 ⟨rfl, hbv8⟩
              have hv8 := H2.out.up hbv8
              clear hbv8 a0 a1 a2 a3 a4
              obtain ⟨W9, hW9⟩ : ∃ V : World, V = setP v8 w.heap.size (.slice (some ⟨g, 0, none⟩) N cp) (.int .i64 ((i1 : Nat) : Int)) (.int .i64 ((md1 : Nat) : Int)) (.int .i64 (0)) (.int .i64 0) := ⟨_, rfl⟩
              have H9 : Hid (PB w base g cp N ks (i1) (md1) (0) (0) (mst) (mout) gs cs go co W9) := by rw [hW9]; exact hv8.setp _ _ _ _
              have c0 := hv8.p.cell (j := 0) rfl
              have c1 := hv8.p.cell (j := 1) rfl
              have c2 := hv8.p.cell (j := 2) rfl
              have c3 := hv8.p.cell (j := 3) rfl
              have c4 := hv8.p.cell (j := 4) rfl
              have e0 := hv8.p.frozen 0
              have e1 := hv8.p.frozen 1
              have e2 := hv8.p.frozen 2
              have e3 := hv8.p.frozen 3
              have e4 := hv8.p.frozen 4
              unfold setP at hW9
              go_upto_region 36 with fail
              rw [← hW9]
              clear hW9 hv8 c0 c1 c2 c3 c4 e0 e1 e2 e3 e4
              have HDr : Hid (Calls Tryz.prog 51 #[.slice (some ⟨gs, 0, none⟩) sl cs, .slice (some ⟨go, 0, none⟩) ol co, .bool true] W9 (DrP W9 (w.heap.size + 2) gs cs go mst mout true)) := by
                rw [HLb.out.1, HLb.out.2.1]
                exact l5Drain_core true H9.out.st H9.out.out H9.out.ne (by omega) H9.out.lts.2.2
              go_wp2_with fail
              refine HDr.out.mono ?_
              clear HDr
              rintro e v9 ⟨st1, out1, gd1, cd1, rfl, hdr, hO⟩
              have H10 : Hid (PB w base g cp N ks (i1) (md1) (0) (0) (st1) (out1) gs cs gd1 cd1 v9) := H9.out.drain hO.out
              have HDe : Hid (drainF true mst mout = (st1, out1)) := hdr
              have hdl := drain_len true mst mout
              rw [hdr] at hdl
              simp only at hdl
              clear hO hdr
              obtain ⟨s1, hs1⟩ : ∃ s1, s1 = st1.length := ⟨_, rfl⟩
              obtain ⟨o1, ho1⟩ : ∃ o1, o1 = out1.length := ⟨_, rfl⟩
              have HL1 : Hid (s1 = st1.length ∧ o1 = out1.length) := ⟨hs1, ho1⟩
              rw [← hs1, ← ho1] at hdl ⊢
              clear hs1 ho1
              obtain ⟨W12, hW12⟩ : ∃ V : World, V = v9.alloc (Obj.cells #[.int .i64 2, .int .i64 0] 86) := ⟨_, rfl⟩
              have hbW12 : Below v9.heap.size v9 W12 := by rw [hW12]; exact (Below.refl _ _).alloc (Nat.le_refl _) _
              have HCW12 : Hid (PB w base g cp N ks (i1) (md1) (0) (0) (st1) (out1) gs cs gd1 cd1 W12 ∧ ∀ j u, (enV (2, 0))[j]? = some u → W12.cell? ⟨v9.heap.size, j, none⟩ = some u) := ⟨H10.out.up hbW12, by rw [hW12]; exact alloc_cells v9 _ _⟩
              clear hbW12
              have hq1 : (st1).reverse.length ≤ 1000000 := by rw [List.length_reverse, ← HL1.out.1]; omega
              have hq2 : w.heap.size + 2 ≤ W12.heap.size := HCW12.out.1.lts.2.2
              have hq3 : Hid (s1 = (st1).reverse.length) := by show _ = _; rw [List.length_reverse]; exact HL1.out.1
              have a0 := H10.out.p.cell (j := 0) rfl
              have a1 := H10.out.p.cell (j := 1) rfl
              have a2 := H10.out.p.cell (j := 2) rfl
              have a3 := H10.out.p.cell (j := 3) rfl
              have a4 := H10.out.p.cell (j := 4) rfl
              go_wp2_with (at_builtin; (try rw [← hW12]); refine wpList_append_En _ rfl _ _ rfl (w.heap.size + 2) gs cs (s1) v9.heap.size 1 (st1).reverse (2, 0) rfl rfl hq3.out HCW12.out.1.st HCW12.out.2 hq1 hq2 ?_)
              intro g2 c2 w2 hO' hgr hat
              have hgr2 : W12.grownBy w2 (some gs) := by first | exact hgr | (rw [hW12]; exact hgr)
              have hat2 : g2 = gs ∨ g2 = W12.heap.size := by first | exact hat | (rw [hW12]; exact hat) | (rw [hW12]; simpa using hat)
              have HA : Hid (PB w base g cp N ks (i1) (md1) (0) (0) ((2, 0) :: st1) (out1) g2 c2 gd1 cd1 w2) := HCW12.out.1.pushS hO' hgr2 hat2
              clear hO' hgr hgr2 hat hat2 hW12 HCW12 hq1 hq2 hq3 a0 a1 a2 a3 a4
              go_wp2_with fail
              have HPn : Hid (PM N ks (⟨ks, 0, [], [], true⟩ : Ms) ⟨ks.drop i1, md1, out1, (2, 0) :: st1, true⟩ i1) := by
                have h9 := HPm.out
                rw [HDe.out] at h9
                exact h9
              go_roundg (N + 1 - (i1))
              case measure => omega
              case rel => exact .inl ⟨⟨ks.drop i1, md1, out1, (2, 0) :: st1, true⟩, i1, g2, c2, gd1, cd1, by rw [HL1.out.2], by rw [HL1.out.1]; rfl, rfl, Nat.le_refl _, HPn.out, HA.out⟩
          case false => as_aux_lemma =>
            have HE0 : Hid (∀ st1 out1, drainF true mst mout = (st1, out1) → (st1 = [] → k.k = .fin → MEnds (⟨ks, 0, [], [], true⟩ : Ms) (.ok out1)) ∧
                (st1 = [] → ¬ k.k = .fin → MEnds (⟨ks, 0, [], [], true⟩ : Ms) (.error (3, k.pos))) ∧
                (∀ l st2, st1 = (4, l) :: st2 → 0 < l → k.k.isSign 44 = true → PM N ks (⟨ks, 0, [], [], true⟩ : Ms) ⟨ks.drop (i + 1), mmade, out1, (4, l - 1) :: st2, true⟩ (i + 1)) ∧
                (∀ kd st2, st1 = (kd, 0) :: st2 → k.k.isSign 41 = true → PM N ks (⟨ks, 0, [], [], true⟩ : Ms) ⟨ks.drop (i + 1), mmade, if kd = 4 then out1 ++ [leafN 16] else out1, st2, false⟩ (i + 1)) ∧
                (∀ kd l st2, st1 = (kd, l) :: st2 → ¬ (kd = 4 ∧ 0 < l ∧ k.k.isSign 44 = true) → ¬ (l = 0 ∧ k.k.isSign 41 = true) → MEnds (⟨ks, 0, [], [], true⟩ : Ms) (.error (3, k.pos)))) := fun st1 out1 hd => close_step HMb.out.1 HMb.out.2 HN.out.1 HN.out.2.2.1 Hbd.out hs62 hs124 hd
            have HtB : Hid (BoxAt v2 (w.heap.size + 2) 80 4 b7 (tkV k) ∧ ¬ b7 = go) := ⟨Ht2.out, H7t.out.2.2⟩
            clear hs62 hs124 u0 u2 Ht2 H7t
            have HDr : Hid (Calls Tryz.prog 51 #[.slice (some ⟨gs, 0, none⟩) sl cs, .slice (some ⟨go, 0, none⟩) ol co, .bool true] v2 (DrP v2 (w.heap.size + 2) gs cs go mst mout true)) := by
              rw [HLb.out.1, HLb.out.2.1]
              exact l5Drain_core true H2.out.st H2.out.out H2.out.ne (by omega) H2.out.lts.2.2
            go_wp2_with fail
            refine HDr.out.mono ?_
            clear HDr
            rintro e v9 ⟨st1, out1, gd1, cd1, rfl, hdr, hO⟩
            have H10 : Hid (PB w base g cp N ks (i) (mmade) (0) (0) (st1) (out1) gs cs gd1 cd1 v9) := H2.out.drain hO.out
            have HDe : Hid (drainF true mst mout = (st1, out1)) := hdr
            have hdl := drain_len true mst mout
            rw [hdr] at hdl
            simp only at hdl
            have Ht9 : Hid (BoxAt v9 (w.heap.size + 2) 80 4 b7 (tkV k)) := HtB.out.1.chg hO.out.2.2.1 HtB.out.2
            have HE := HE0.out st1 out1 hdr
            have HE1 : Hid ((st1 = [] → k.k = .fin → MEnds (⟨ks, 0, [], [], true⟩ : Ms) (.ok out1)) ∧
                (st1 = [] → ¬ k.k = .fin → MEnds (⟨ks, 0, [], [], true⟩ : Ms) (.error (3, k.pos))) ∧
                (∀ l st2, st1 = (4, l) :: st2 → 0 < l → k.k.isSign 44 = true → PM N ks (⟨ks, 0, [], [], true⟩ : Ms) ⟨ks.drop (i + 1), mmade, out1, (4, l - 1) :: st2, true⟩ (i + 1)) ∧
                (∀ kd st2, st1 = (kd, 0) :: st2 → k.k.isSign 41 = true → PM N ks (⟨ks, 0, [], [], true⟩ : Ms) ⟨ks.drop (i + 1), mmade, if kd = 4 then out1 ++ [leafN 16] else out1, st2, false⟩ (i + 1)) ∧
                (∀ kd l st2, st1 = (kd, l) :: st2 → ¬ (kd = 4 ∧ 0 < l ∧ k.k.isSign 44 = true) → ¬ (l = 0 ∧ k.k.isSign 41 = true) → MEnds (⟨ks, 0, [], [], true⟩ : Ms) (.error (3, k.pos)))) := HE
            have hst2 := HMb.out.1.left_le hdr
            clear hO hdr HE HE0 HtB H2 HDe
            obtain ⟨o1, ho1⟩ : ∃ o1, o1 = out1.length := ⟨_, rfl⟩
            rw [← ho1] at hdl ⊢
            have HO1 : Hid (o1 = out1.length) := ho1
            clear ho1
            cases st1 with
            | nil => as_aux_lemma =>
              clear hst2
              have u0 := Ht9.out.cell (j := 0) rfl
              rw [← Htt.out.2] at u0
              by_cases hf : k.k = .fin
              case pos => as_aux_lemma =>
                have z5 : (tn == 5) = true := by rw [Htt.out.2, hf]; rfl
                have HEo : Hid (MEnds (⟨ks, 0, [], [], true⟩ : Ms) (.ok out1)) := HE1.out.1 rfl hf
                have H9 := H10.out
                clear HE1 hf
                have a0 := H9.p.cell (j := 0) rfl
                have a1 := H9.p.cell (j := 1) rfl
                have a2 := H9.p.cell (j := 2) rfl
                have a3 := H9.p.cell (j := 3) rfl
                have a4 := H9.p.cell (j := 4) rfl
                obtain ⟨W9, hW9⟩ : ∃ V : World, V = setP v9 (w.heap.size + 1) (.slice (some ⟨g, 0, none⟩) N cp) (.int .i64 ((i : Nat) : Int)) (.int .i64 ((mmade : Nat) : Int)) (.int .i64 (0)) (.int .i64 0) := ⟨_, rfl⟩
                have HR : Hid (ParP w g cp N (⟨ks, 0, [], [], true⟩ : Ms) (.returned (.tuple #[parV g N cp (i) (mmade) (0) (0), .slice (some ⟨gd1, 0, none⟩) o1 cd1])) W9 ∧ BoxAt W9 w.heap.size 41 5 (w.heap.size + 1) [.slice (some ⟨g, 0, none⟩) N cp, .int .i64 ((i : Nat) : Int), .int .i64 ((mmade : Nat) : Int), .int .i64 (0), .int .i64 ((0 : Nat) : Int)]) := by rw [HO1.out]; exact H9.good HEo.out hW9
                have c0 := H9.rp.cell (j := 0) rfl
                have c1 := H9.rp.cell (j := 1) rfl
                have c2 := H9.rp.cell (j := 2) rfl
                have c3 := H9.rp.cell (j := 3) rfl
                have c4 := H9.rp.cell (j := 4) rfl
                have e0 := H9.rp.frozen 0
                have e1 := H9.rp.frozen 1
                have e2 := H9.rp.frozen 2
                have e3 := H9.rp.frozen 3
                have e4 := H9.rp.frozen 4
                have p0 := HR.out.2.cell (j := 0) rfl
                have p1 := HR.out.2.cell (j := 1) rfl
                have p2 := HR.out.2.cell (j := 2) rfl
                have p3 := HR.out.2.cell (j := 3) rfl
                have p4 := HR.out.2.cell (j := 4) rfl
                unfold setP at hW9
                go_wp2_with fail
                rw [← hW9]
                exact bodyPost_ret (v := .tuple #[parV g N cp (i) (mmade) (0) (0), .slice (some ⟨gd1, 0, none⟩) o1 cd1]) (by simp [results, Tryz.results21, go_sem, p0, p1, p2, p3, p4]) rfl HR.out.1
              case neg => as_aux_lemma =>
                have z5 : (tn == 5) = false := by
                  rw [beq_eq_false_iff_ne, Htt.out.2]
                  intro q
                  apply hf
                  cases hkk : k.k <;> rw [hkk] at q <;> first | rfl | exact absurd q (by simp [tkN])
                have HEo : Hid (MEnds (⟨ks, 0, [], [], true⟩ : Ms) (.error (3, k.pos))) := HE1.out.2.1 rfl hf
                have HFl3 : Hid (Calls Tryz.prog 46 #[parV g N cp i mmade 0 0, .int .i64 3] v9 fun e w' => e = .returned (parV g N cp i mmade 3 k.pos) ∧ Below v9.heap.size v9 w') := HFl.out v9 H10.out.tk 3
                clear HE1 hf
                have a0 := H10.out.p.cell (j := 0) rfl
                have a1 := H10.out.p.cell (j := 1) rfl
                have a2 := H10.out.p.cell (j := 2) rfl
                have a3 := H10.out.p.cell (j := 3) rfl
                have a4 := H10.out.p.cell (j := 4) rfl
                go_wp2_with fail
                refine HFl3.out.mono ?_
                clear HFl3
                rintro e v8 ⟨rfl, hb9⟩
                have H9 := H10.out.up hb9
                clear hb9 a0 a1 a2 a3 a4
                obtain ⟨W9, hW9⟩ : ∃ V : World, V = setP v8 (w.heap.size + 1) (.slice (some ⟨g, 0, none⟩) N cp) (.int .i64 ((i : Nat) : Int)) (.int .i64 ((mmade : Nat) : Int)) (.int .i64 (3)) (.int .i64 ((k.pos : Nat) : Int)) := ⟨_, rfl⟩
                have HR : Hid (ParP w g cp N (⟨ks, 0, [], [], true⟩ : Ms) (.returned (.tuple #[parV g N cp (i) (mmade) (3) (k.pos), .slice (some ⟨gd1, 0, none⟩) o1 cd1])) W9 ∧ BoxAt W9 w.heap.size 41 5 (w.heap.size + 1) [.slice (some ⟨g, 0, none⟩) N cp, .int .i64 ((i : Nat) : Int), .int .i64 ((mmade : Nat) : Int), .int .i64 (3), .int .i64 ((k.pos : Nat) : Int)]) := H9.fail HEo.out (by decide) hW9
                have c0 := H9.rp.cell (j := 0) rfl
                have c1 := H9.rp.cell (j := 1) rfl
                have c2 := H9.rp.cell (j := 2) rfl
                have c3 := H9.rp.cell (j := 3) rfl
                have c4 := H9.rp.cell (j := 4) rfl
                have e0 := H9.rp.frozen 0
                have e1 := H9.rp.frozen 1
                have e2 := H9.rp.frozen 2
                have e3 := H9.rp.frozen 3
                have e4 := H9.rp.frozen 4
                have p0 := HR.out.2.cell (j := 0) rfl
                have p1 := HR.out.2.cell (j := 1) rfl
                have p2 := HR.out.2.cell (j := 2) rfl
                have p3 := HR.out.2.cell (j := 3) rfl
                have p4 := HR.out.2.cell (j := 4) rfl
                unfold setP at hW9
                go_wp2_with fail
                rw [← hW9]
                exact bodyPost_ret (v := .tuple #[parV g N cp (i) (mmade) (3) (k.pos), .slice (some ⟨gd1, 0, none⟩) o1 cd1]) (by simp [results, Tryz.results21, go_sem, p0, p1, p2, p3, p4]) rfl HR.out.1
            | cons top st2 => as_aux_lemma =>
              obtain ⟨kd, l⟩ := top
              have hl2 : l ≤ 2 := hst2 (kd, l) (by simp)
              clear hst2
              obtain ⟨s2, hs2⟩ : ∃ s2, s2 = st2.length := ⟨_, rfl⟩
              have HS2 : Hid (s2 = st2.length) := hs2
              rw [show ((kd, l) :: st2).length = s2 + 1 from by rw [hs2]; rfl] at hdl ⊢
              have t0 := H10.out.top.1
              have t1 := H10.out.top.2
              rw [← hs2] at t0 t1
              clear hs2
              have hsc : s2 + 1 ≤ cs ∧ cs ≤ 9223372036854775807 := by
                have h9 := H10.out.st.caps
                rw [List.length_reverse, List.length_cons, ← HS2.out] at h9
                unfold maxLen at h9
                omega
              have hgsl : gs < v9.heap.size := H10.out.lts.1.2
              obtain ⟨W1, hW1⟩ : ∃ V : World, V = v9.alloc (Obj.cells #[.int .i64 kd, .int .i64 (l : Int)] 86) := ⟨_, rfl⟩
              obtain ⟨b11, hb11⟩ : ∃ b11, b11 = v9.heap.size := ⟨_, rfl⟩
              have hbW1 : Below v9.heap.size v9 W1 := by rw [hW1]; exact (Below.refl _ _).alloc (Nat.le_refl _) _
              have H11 : Hid (PB w base g cp N ks (i) (mmade) (0) (0) ((kd, l) :: st2) (out1) gs cs gd1 cd1 W1 ∧ BoxAt W1 (w.heap.size + 2) 86 2 b11 [.int .i64 kd, .int .i64 (l : Int)] ∧ ¬ b11 = gs ∧ ¬ b11 = gd1) := ⟨H10.out.up hbW1, by rw [hb11, hW1]; exact boxAt_new v9 _ H10.out.lts.2.2 rfl, by have := H10.out.lts; omega, by have := H10.out.lts; omega⟩
              clear hbW1
              go_upto_region 45 with fail
              rw [← hW1, ← hb11]
              clear hW1 hb11 t0 t1 hgsl
              have H11p : Hid (PB w base g cp N ks (i) (mmade) (0) (0) ((kd, l) :: st2) (out1) gs cs gd1 cd1 W1) := H11.out.1
              have x0 := H11.out.2.1.cell (j := 0) rfl
              have x1 := H11.out.2.1.cell (j := 1) rfl
              by_cases hc4 : kd = 4 ∧ 0 < l
              case pos => as_aux_lemma =>
                obtain ⟨hk4, hl0⟩ := hc4
                have HI3 : Hid (Calls Tryz.prog 48 #[parV g N cp i mmade 0 0, .string ⟨#[44]⟩] W1 fun e w' => e = .returned (.bool (k.k.isSign 44)) ∧ Below W1.heap.size W1 w') := HIs.out W1 H11p.out.tk 44 ⟨#[44]⟩ (by rw [ByteArray.toList_eq]; rfl)
                have z4 : (kd == 4) = true := by rw [beq_iff_eq]; exact hk4
                have zl : (0 : Int) < (l : Int) := by omega
                have Hk4 : Hid (kd = 4) := hk4
                clear hk4
                have a0 := H11p.out.p.cell (j := 0) rfl
                have a1 := H11p.out.p.cell (j := 1) rfl
                have a2 := H11p.out.p.cell (j := 2) rfl
                have a3 := H11p.out.p.cell (j := 3) rfl
                have a4 := H11p.out.p.cell (j := 4) rfl
                go_wp2_with fail
                refine HI3.out.mono ?_
                clear HI3
                rintro e v3 ⟨rfl, hb3⟩
                have H3 : Hid (PB w base g cp N ks (i) (mmade) (0) (0) ((kd, l) :: st2) (out1) gs cs gd1 cd1 v3) := H11p.out.up hb3
                have Hx3 : Hid (BoxAt v3 (w.heap.size + 2) 86 2 b11 [.int .i64 kd, .int .i64 (l : Int)]) := H11.out.2.1.below hb3
                clear hb3 x0 x1 a0 a1 a2 a3 a4
                have x0 := Hx3.out.cell (j := 0) rfl
                have x1 := Hx3.out.cell (j := 1) rfl
                cases hs44 : k.k.isSign 44
                case true => as_aux_lemma =>
                  have HPm : Hid (PM N ks (⟨ks, 0, [], [], true⟩ : Ms) ⟨ks.drop (i + 1), mmade, out1, (4, l - 1) :: st2, true⟩ (i + 1)) := HE1.out.2.2.1 l st2 (by rw [Hk4.out]) hl0 hs44
                  clear HE1 hs44
                  obtain ⟨W4, hW4⟩ : ∃ V : World, V = v3.setCell ⟨gs, s2 * 2 + 1, none⟩ (.int .i64 ((l : Int) - 1)) := ⟨_, rfl⟩
                  obtain ⟨l1, hl1⟩ : ∃ l1 : Nat, l1 = l - 1 := ⟨_, rfl⟩
                  have HL1 : Hid (l1 = l - 1) := hl1
                  have H4 : Hid (PB w base g cp N ks (i) (mmade) (0) (0) ((kd, l1) :: st2) (out1) gs cs gd1 cd1 W4) := by
                    have h9 := H3.out.left (l - 1)
                    rw [show ((l - 1 : Nat) : Int) = (l : Int) - 1 by omega, ← HS2.out, ← hW4, ← hl1] at h9
                    exact h9
                  clear hl1
                  have t1 := H3.out.top.2
                  rw [← HS2.out] at t1
                  have ft := gs_frozen H3.out (s2 * 2 + 1)
                  have hgsl : gs < v3.heap.size := H3.out.lts.1.2
                  go_upto_region 47 with fail
                  rw [← hW4]
                  clear hW4 t1 ft hgsl x0 x1
                  have a1 := H4.out.p.cell (j := 1) rfl
                  have e1 := H4.out.p.frozen 1
                  go_wp2_with fail
                  have HPn : Hid (PM N ks (⟨ks, 0, [], [], true⟩ : Ms) ⟨ks.drop (i + 1), mmade, out1, (kd, l1) :: st2, true⟩ (i + 1)) := by
                    rw [Hk4.out, HL1.out]; exact HPm.out
                  go_roundg (N + 1 - (i + 1))
                  case measure => omega
                  case rel => exact .inl ⟨⟨ks.drop (i + 1), mmade, out1, (kd, l1) :: st2, true⟩, i + 1, gs, cs, gd1, cd1, by rw [HO1.out], by rw [HS2.out]; rfl, rfl, Nat.le_refl _, HPn.out, H4.out.seti _ (by go_num)⟩
                case false => as_aux_lemma =>
                  have zl0 : ((l : Int) == 0) = false := by rw [beq_eq_false_iff_ne]; omega
                  have HEo : Hid (MEnds (⟨ks, 0, [], [], true⟩ : Ms) (.error (3, k.pos))) := HE1.out.2.2.2.2 kd l st2 rfl (by rw [hs44]; simp) (by omega)
                  have HFl3 : Hid (Calls Tryz.prog 46 #[parV g N cp i mmade 0 0, .int .i64 3] v3 fun e w' => e = .returned (parV g N cp i mmade 3 k.pos) ∧ Below v3.heap.size v3 w') := HFl.out v3 H3.out.tk 3
                  clear HE1 hs44
                  have a0 := H3.out.p.cell (j := 0) rfl
                  have a1 := H3.out.p.cell (j := 1) rfl
                  have a2 := H3.out.p.cell (j := 2) rfl
                  have a3 := H3.out.p.cell (j := 3) rfl
                  have a4 := H3.out.p.cell (j := 4) rfl
                  go_wp2_with fail
                  refine HFl3.out.mono ?_
                  clear HFl3
                  rintro e v8 ⟨rfl, hb9⟩
                  have H9 := H3.out.up hb9
                  clear hb9 a0 a1 a2 a3 a4
                  obtain ⟨W9, hW9⟩ : ∃ V : World, V = setP v8 (w.heap.size + 1) (.slice (some ⟨g, 0, none⟩) N cp) (.int .i64 ((i : Nat) : Int)) (.int .i64 ((mmade : Nat) : Int)) (.int .i64 (3)) (.int .i64 ((k.pos : Nat) : Int)) := ⟨_, rfl⟩
                  have HR : Hid (ParP w g cp N (⟨ks, 0, [], [], true⟩ : Ms) (.returned (.tuple #[parV g N cp (i) (mmade) (3) (k.pos), .slice (some ⟨gd1, 0, none⟩) o1 cd1])) W9 ∧ BoxAt W9 w.heap.size 41 5 (w.heap.size + 1) [.slice (some ⟨g, 0, none⟩) N cp, .int .i64 ((i : Nat) : Int), .int .i64 ((mmade : Nat) : Int), .int .i64 (3), .int .i64 ((k.pos : Nat) : Int)]) := H9.fail HEo.out (by decide) hW9
                  have c0 := H9.rp.cell (j := 0) rfl
                  have c1 := H9.rp.cell (j := 1) rfl
                  have c2 := H9.rp.cell (j := 2) rfl
                  have c3 := H9.rp.cell (j := 3) rfl
                  have c4 := H9.rp.cell (j := 4) rfl
                  have e0 := H9.rp.frozen 0
                  have e1 := H9.rp.frozen 1
                  have e2 := H9.rp.frozen 2
                  have e3 := H9.rp.frozen 3
                  have e4 := H9.rp.frozen 4
                  have p0 := HR.out.2.cell (j := 0) rfl
                  have p1 := HR.out.2.cell (j := 1) rfl
                  have p2 := HR.out.2.cell (j := 2) rfl
                  have p3 := HR.out.2.cell (j := 3) rfl
                  have p4 := HR.out.2.cell (j := 4) rfl
                  unfold setP at hW9
                  go_wp2_with fail
                  rw [← hW9]
                  exact bodyPost_ret (v := .tuple #[parV g N cp (i) (mmade) (3) (k.pos), .slice (some ⟨gd1, 0, none⟩) o1 cd1]) (by simp [results, Tryz.results21, go_sem, p0, p1, p2, p3, p4]) rfl HR.out.1
              case neg => as_aux_lemma =>
                have HcN : Hid (¬ (kd = 4 ∧ 0 < l)) := hc4
                have zA : ((kd == 4) = true → ((0 : Int) < (l : Int)) → False) := fun q z => hc4 ⟨by rw [beq_iff_eq] at q; exact q, by omega⟩
                by_cases hl0 : l = 0
                case pos => as_aux_lemma =>
                  subst hl0
                  have HI3 : Hid (∀ W, Below W1.heap.size W1 W → Calls Tryz.prog 48 #[parV g N cp i mmade 0 0, .string ⟨#[41]⟩] W fun e w' => e = .returned (.bool (k.k.isSign 41)) ∧ Below W.heap.size W w') := fun W hb => HIs.out W (H11p.out.tk.below hb) 41 ⟨#[41]⟩ (by rw [ByteArray.toList_eq]; rfl)
                  have HI4 : Hid (Calls Tryz.prog 48 #[parV g N cp i mmade 0 0, .string ⟨#[41]⟩] W1 fun e w' => e = .returned (.bool (k.k.isSign 41)) ∧ Below W1.heap.size W1 w') := HI3.out W1 (Below.refl _ _)
                  clear zA hc4 HI3
                  cases h4 : (kd == (4 : Int))
                  case true => as_aux_lemma =>
                    have a0 := H11p.out.p.cell (j := 0) rfl
                    have a1 := H11p.out.p.cell (j := 1) rfl
                    have a2 := H11p.out.p.cell (j := 2) rfl
                    have a3 := H11p.out.p.cell (j := 3) rfl
                    have a4 := H11p.out.p.cell (j := 4) rfl
                    go_wp2_with fail
                    refine HI4.out.mono ?_
                    clear HI4
                    rintro e v3 ⟨rfl, hb3⟩
                    have H3 : Hid (PB w base g cp N ks (i) (mmade) (0) (0) ((kd, 0) :: st2) (out1) gs cs gd1 cd1 v3) := H11p.out.up hb3
                    have Hx3 : Hid (BoxAt v3 (w.heap.size + 2) 86 2 b11 [.int .i64 kd, .int .i64 ((0 : Nat) : Int)]) := H11.out.2.1.below hb3
                    clear hb3 x0 x1 a0 a1 a2 a3 a4
                    have x0 := Hx3.out.cell (j := 0) rfl
                    cases hs41 : k.k.isSign 41
                    case false => as_aux_lemma =>
                      have HEo : Hid (MEnds (⟨ks, 0, [], [], true⟩ : Ms) (.error (3, k.pos))) := HE1.out.2.2.2.2 kd 0 st2 rfl (fun q => HcN.out ⟨q.1, q.2.1⟩) (by rw [hs41]; simp)
                      have HFl3 : Hid (Calls Tryz.prog 46 #[parV g N cp i mmade 0 0, .int .i64 3] v3 fun e w' => e = .returned (parV g N cp i mmade 3 k.pos) ∧ Below v3.heap.size v3 w') := HFl.out v3 H3.out.tk 3
                      clear HE1 hs41 x0
                      have a0 := H3.out.p.cell (j := 0) rfl
                      have a1 := H3.out.p.cell (j := 1) rfl
                      have a2 := H3.out.p.cell (j := 2) rfl
                      have a3 := H3.out.p.cell (j := 3) rfl
                      have a4 := H3.out.p.cell (j := 4) rfl
                      go_wp2_with fail
                      refine HFl3.out.mono ?_
                      clear HFl3
                      rintro e v8 ⟨rfl, hb9⟩
                      have H9 := H3.out.up hb9
                      clear hb9 a0 a1 a2 a3 a4
                      obtain ⟨W9, hW9⟩ : ∃ V : World, V = setP v8 (w.heap.size + 1) (.slice (some ⟨g, 0, none⟩) N cp) (.int .i64 ((i : Nat) : Int)) (.int .i64 ((mmade : Nat) : Int)) (.int .i64 (3)) (.int .i64 ((k.pos : Nat) : Int)) := ⟨_, rfl⟩
                      have HR : Hid (ParP w g cp N (⟨ks, 0, [], [], true⟩ : Ms) (.returned (.tuple #[parV g N cp (i) (mmade) (3) (k.pos), .slice (some ⟨gd1, 0, none⟩) o1 cd1])) W9 ∧ BoxAt W9 w.heap.size 41 5 (w.heap.size + 1) [.slice (some ⟨g, 0, none⟩) N cp, .int .i64 ((i : Nat) : Int), .int .i64 ((mmade : Nat) : Int), .int .i64 (3), .int .i64 ((k.pos : Nat) : Int)]) := H9.fail HEo.out (by decide) hW9
                      have c0 := H9.rp.cell (j := 0) rfl
                      have c1 := H9.rp.cell (j := 1) rfl
                      have c2 := H9.rp.cell (j := 2) rfl
                      have c3 := H9.rp.cell (j := 3) rfl
                      have c4 := H9.rp.cell (j := 4) rfl
                      have e0 := H9.rp.frozen 0
                      have e1 := H9.rp.frozen 1
                      have e2 := H9.rp.frozen 2
                      have e3 := H9.rp.frozen 3
                      have e4 := H9.rp.frozen 4
                      have p0 := HR.out.2.cell (j := 0) rfl
                      have p1 := HR.out.2.cell (j := 1) rfl
                      have p2 := HR.out.2.cell (j := 2) rfl
                      have p3 := HR.out.2.cell (j := 3) rfl
                      have p4 := HR.out.2.cell (j := 4) rfl
                      unfold setP at hW9
                      go_wp2_with fail
                      rw [← hW9]
                      exact bodyPost_ret (v := .tuple #[parV g N cp (i) (mmade) (3) (k.pos), .slice (some ⟨gd1, 0, none⟩) o1 cd1]) (by simp [results, Tryz.results21, go_sem, p0, p1, p2, p3, p4]) rfl HR.out.1
                    case true => as_aux_lemma =>
                      have HPm : Hid (PM N ks (⟨ks, 0, [], [], true⟩ : Ms) ⟨ks.drop (i + 1), mmade, if kd = 4 then out1 ++ [leafN 16] else out1, st2, false⟩ (i + 1)) := HE1.out.2.2.2.1 kd st2 rfl hs41
                      have Hk4 : Hid (kd = 4) := by rw [beq_iff_eq] at h4; exact h4
                      clear HE1 hs41
                      have H3q : Hid (PB w base g cp N ks (i) (mmade) (0) (0) (st2) (out1) gs cs gd1 cd1 v3) := H3.out.pop
                      obtain ⟨W5, hW5⟩ : ∃ V : World, V = v3.alloc (Obj.cells #[.int .i64 (leafN 16 : Nd).kind, .string (leafN 16 : Nd).s, .bool (leafN 16 : Nd).hi, .string (leafN 16 : Nd).t, .int .u64 (leafN 16 : Nd).lo, .int .u64 (leafN 16 : Nd).up, .int .i64 (leafN 16 : Nd).n] 65) := ⟨_, rfl⟩
                      have hbW5 : Below v3.heap.size v3 W5 := by rw [hW5]; exact (Below.refl _ _).alloc (Nat.le_refl _) _
                      have HCW5 : Hid (PB w base g cp N ks (i) (mmade) (0) (0) (st2) (out1) gs cs gd1 cd1 W5 ∧ NdsAt W5 v3.heap.size 0 [(leafN 16 : Nd)]) := ⟨H3q.out.up hbW5, by rw [hW5]; exact (nd_one_new v3 (w.heap.size + 2) (leafN 16 : Nd) H3q.out.lts.2.2).at⟩
                      clear hbW5
                      have hq1 : (out1).length + 1 ≤ 2 ^ 30 := by rw [← HO1.out]; omega
                      have hq2 : w.heap.size + 2 ≤ W5.heap.size := HCW5.out.1.lts.2.2
                      go_wp2_with (first | refine wpList_build1Nd rfl _ rfl (leafN 16 : Nd) rfl ?_ | (at_builtin; (try rw [← hW5]); refine wpList_append_nd _ rfl _ _ rfl (w.heap.size + 2) gd1 cd1 (o1) v3.heap.size 0 1 1 (out1) [(leafN 16 : Nd)] rfl rfl (HO1.out) rfl HCW5.out.1.out HCW5.out.2 hq1 hq2 ?_))
                      intro g2 c2 w2 hO' hgr hat
                      have hgr2 : W5.grownBy w2 (some gd1) := by first | exact hgr | (rw [hW5]; exact hgr)
                      have hat2 : g2 = gd1 ∨ g2 = W5.heap.size := by first | exact hat | (rw [hW5]; exact hat) | (rw [hW5]; simpa using hat)
                      have HA : Hid (PB w base g cp N ks (i) (mmade) (0) (0) (st2) (out1 ++ [(leafN 16 : Nd)]) gs cs g2 c2 w2) := HCW5.out.1.pushO hO' hgr2 hat2
                      clear hO' hgr hgr2 hat hat2 hW5 HCW5 hq1 hq2
                      clear x0
                      rw [Hk4.out, if_pos rfl] at HPm
                      have a1 := HA.out.p.cell (j := 1) rfl
                      have e1 := HA.out.p.frozen 1
                      go_wp2_with fail
                      go_roundg (N + 1 - (i + 1))
                      case measure => omega
                      case rel => exact .inl ⟨⟨ks.drop (i + 1), mmade, out1 ++ [leafN 16], st2, false⟩, i + 1, gs, cs, g2, c2, by rw [HO1.out, List.length_append]; rfl, by rw [HS2.out], rfl, Nat.le_refl _, HPm.out, HA.out.seti _ (by go_num)⟩
                  case false => as_aux_lemma =>
                    have a0 := H11p.out.p.cell (j := 0) rfl
                    have a1 := H11p.out.p.cell (j := 1) rfl
                    have a2 := H11p.out.p.cell (j := 2) rfl
                    have a3 := H11p.out.p.cell (j := 3) rfl
                    have a4 := H11p.out.p.cell (j := 4) rfl
                    go_wp2_with fail
                    refine HI4.out.mono ?_
                    clear HI4
                    rintro e v3 ⟨rfl, hb3⟩
                    have H3 : Hid (PB w base g cp N ks (i) (mmade) (0) (0) ((kd, 0) :: st2) (out1) gs cs gd1 cd1 v3) := H11p.out.up hb3
                    have Hx3 : Hid (BoxAt v3 (w.heap.size + 2) 86 2 b11 [.int .i64 kd, .int .i64 ((0 : Nat) : Int)]) := H11.out.2.1.below hb3
                    clear hb3 x0 x1 a0 a1 a2 a3 a4
                    have x0 := Hx3.out.cell (j := 0) rfl
                    cases hs41 : k.k.isSign 41
                    case false => as_aux_lemma =>
                      have HEo : Hid (MEnds (⟨ks, 0, [], [], true⟩ : Ms) (.error (3, k.pos))) := HE1.out.2.2.2.2 kd 0 st2 rfl (fun q => HcN.out ⟨q.1, q.2.1⟩) (by rw [hs41]; simp)
                      have HFl3 : Hid (Calls Tryz.prog 46 #[parV g N cp i mmade 0 0, .int .i64 3] v3 fun e w' => e = .returned (parV g N cp i mmade 3 k.pos) ∧ Below v3.heap.size v3 w') := HFl.out v3 H3.out.tk 3
                      clear HE1 hs41 x0
                      have a0 := H3.out.p.cell (j := 0) rfl
                      have a1 := H3.out.p.cell (j := 1) rfl
                      have a2 := H3.out.p.cell (j := 2) rfl
                      have a3 := H3.out.p.cell (j := 3) rfl
                      have a4 := H3.out.p.cell (j := 4) rfl
                      go_wp2_with fail
                      refine HFl3.out.mono ?_
                      clear HFl3
                      rintro e v8 ⟨rfl, hb9⟩
                      have H9 := H3.out.up hb9
                      clear hb9 a0 a1 a2 a3 a4
                      obtain ⟨W9, hW9⟩ : ∃ V : World, V = setP v8 (w.heap.size + 1) (.slice (some ⟨g, 0, none⟩) N cp) (.int .i64 ((i : Nat) : Int)) (.int .i64 ((mmade : Nat) : Int)) (.int .i64 (3)) (.int .i64 ((k.pos : Nat) : Int)) := ⟨_, rfl⟩
                      have HR : Hid (ParP w g cp N (⟨ks, 0, [], [], true⟩ : Ms) (.returned (.tuple #[parV g N cp (i) (mmade) (3) (k.pos), .slice (some ⟨gd1, 0, none⟩) o1 cd1])) W9 ∧ BoxAt W9 w.heap.size 41 5 (w.heap.size + 1) [.slice (some ⟨g, 0, none⟩) N cp, .int .i64 ((i : Nat) : Int), .int .i64 ((mmade : Nat) : Int), .int .i64 (3), .int .i64 ((k.pos : Nat) : Int)]) := H9.fail HEo.out (by decide) hW9
                      have c0 := H9.rp.cell (j := 0) rfl
                      have c1 := H9.rp.cell (j := 1) rfl
                      have c2 := H9.rp.cell (j := 2) rfl
                      have c3 := H9.rp.cell (j := 3) rfl
                      have c4 := H9.rp.cell (j := 4) rfl
                      have e0 := H9.rp.frozen 0
                      have e1 := H9.rp.frozen 1
                      have e2 := H9.rp.frozen 2
                      have e3 := H9.rp.frozen 3
                      have e4 := H9.rp.frozen 4
                      have p0 := HR.out.2.cell (j := 0) rfl
                      have p1 := HR.out.2.cell (j := 1) rfl
                      have p2 := HR.out.2.cell (j := 2) rfl
                      have p3 := HR.out.2.cell (j := 3) rfl
                      have p4 := HR.out.2.cell (j := 4) rfl
                      unfold setP at hW9
                      go_wp2_with fail
                      rw [← hW9]
                      exact bodyPost_ret (v := .tuple #[parV g N cp (i) (mmade) (3) (k.pos), .slice (some ⟨gd1, 0, none⟩) o1 cd1]) (by simp [results, Tryz.results21, go_sem, p0, p1, p2, p3, p4]) rfl HR.out.1
                    case true => as_aux_lemma =>
                      have HPm : Hid (PM N ks (⟨ks, 0, [], [], true⟩ : Ms) ⟨ks.drop (i + 1), mmade, if kd = 4 then out1 ++ [leafN 16] else out1, st2, false⟩ (i + 1)) := HE1.out.2.2.2.1 kd st2 rfl hs41
                      have Hk4 : Hid (¬ kd = 4) := by rw [beq_eq_false_iff_ne] at h4; exact h4
                      clear HE1 hs41
                      have H3q : Hid (PB w base g cp N ks (i) (mmade) (0) (0) (st2) (out1) gs cs gd1 cd1 v3) := H3.out.pop
                      rw [if_neg Hk4.out] at HPm
                      have a1 := H3q.out.p.cell (j := 1) rfl
                      have e1 := H3q.out.p.frozen 1
                      go_wp2_with fail
                      go_roundg (N + 1 - (i + 1))
                      case measure => omega
                      case rel => exact .inl ⟨⟨ks.drop (i + 1), mmade, out1, st2, false⟩, i + 1, gs, cs, gd1, cd1, by rw [HO1.out], by rw [HS2.out], rfl, Nat.le_refl _, HPm.out, H3q.out.seti _ (by go_num)⟩
                case neg => as_aux_lemma =>
                  have h4 : (kd == (4 : Int)) = false := by rw [beq_eq_false_iff_ne]; intro q; exact hc4 ⟨q, by omega⟩
                  have zl0 : ((l : Int) == 0) = false := by rw [beq_eq_false_iff_ne]; omega
                  have HEo : Hid (MEnds (⟨ks, 0, [], [], true⟩ : Ms) (.error (3, k.pos))) := HE1.out.2.2.2.2 kd l st2 rfl (fun q => hc4 ⟨q.1, q.2.1⟩) (fun q => hl0 q.1)
                  have HFl3 : Hid (Calls Tryz.prog 46 #[parV g N cp i mmade 0 0, .int .i64 3] W1 fun e w' => e = .returned (parV g N cp i mmade 3 k.pos) ∧ Below W1.heap.size W1 w') := HFl.out W1 H11p.out.tk 3
                  clear zA hc4 hl0 HE1
                  have a0 := H11p.out.p.cell (j := 0) rfl
                  have a1 := H11p.out.p.cell (j := 1) rfl
                  have a2 := H11p.out.p.cell (j := 2) rfl
                  have a3 := H11p.out.p.cell (j := 3) rfl
                  have a4 := H11p.out.p.cell (j := 4) rfl
                  go_wp2_with fail
                  refine HFl3.out.mono ?_
                  clear HFl3
                  rintro e v8 ⟨rfl, hb9⟩
                  have H9 := H11p.out.up hb9
                  clear hb9 a0 a1 a2 a3 a4
                  obtain ⟨W9, hW9⟩ : ∃ V : World, V = setP v8 (w.heap.size + 1) (.slice (some ⟨g, 0, none⟩) N cp) (.int .i64 ((i : Nat) : Int)) (.int .i64 ((mmade : Nat) : Int)) (.int .i64 (3)) (.int .i64 ((k.pos : Nat) : Int)) := ⟨_, rfl⟩
                  have HR : Hid (ParP w g cp N (⟨ks, 0, [], [], true⟩ : Ms) (.returned (.tuple #[parV g N cp (i) (mmade) (3) (k.pos), .slice (some ⟨gd1, 0, none⟩) o1 cd1])) W9 ∧ BoxAt W9 w.heap.size 41 5 (w.heap.size + 1) [.slice (some ⟨g, 0, none⟩) N cp, .int .i64 ((i : Nat) : Int), .int .i64 ((mmade : Nat) : Int), .int .i64 (3), .int .i64 ((k.pos : Nat) : Int)]) := H9.fail HEo.out (by decide) hW9
                  have c0 := H9.rp.cell (j := 0) rfl
                  have c1 := H9.rp.cell (j := 1) rfl
                  have c2 := H9.rp.cell (j := 2) rfl
                  have c3 := H9.rp.cell (j := 3) rfl
                  have c4 := H9.rp.cell (j := 4) rfl
                  have e0 := H9.rp.frozen 0
                  have e1 := H9.rp.frozen 1
                  have e2 := H9.rp.frozen 2
                  have e3 := H9.rp.frozen 3
                  have e4 := H9.rp.frozen 4
                  have p0 := HR.out.2.cell (j := 0) rfl
                  have p1 := HR.out.2.cell (j := 1) rfl
                  have p2 := HR.out.2.cell (j := 2) rfl
                  have p3 := HR.out.2.cell (j := 3) rfl
                  have p4 := HR.out.2.cell (j := 4) rfl
                  unfold setP at hW9
                  go_wp2_with fail
                  rw [← hW9]
                  exact bodyPost_ret (v := .tuple #[parV g N cp (i) (mmade) (3) (k.pos), .slice (some ⟨gd1, 0, none⟩) o1 cd1]) (by simp [results, Tryz.results21, go_sem, p0, p1, p2, p3, p4]) rfl HR.out.1
end Go.Proofs.YtgnpcenpcmdlfaaGreatDoor
