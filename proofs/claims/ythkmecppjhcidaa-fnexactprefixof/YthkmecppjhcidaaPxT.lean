/-
  spec.PrefixOf.
-/
import Derived.Test.YthkmecppjhcidaaPxS
namespace Go.Proofs.Ythkmecppjhcidaa
open Go.ChangeShapes Go.WideShapes Go.ChangeAt Go.RowKit Go.Deep
set_option linter.unusedVariables false
set_option linter.unusedSimpArgs false
set_option maxRecDepth 100000

structure PsJ (p : ByteArray) (n : Nat) (w : World) (ts : List Pat) (i g cp : Nat) (xs : List UInt8) (us : List Pat) (wr : World) : Prop where
  seq : SeqG (AtomG n) us (cut (sb p) i p.size)
  pre : prefM ts = (xs ++ (prefM us).1, (prefM us).2)
  own : OwnY wr (w.heap.size + 1) g cp xs
  res : BoxAt wr w.heap.size 51 2 w.heap.size [.string ⟨#[]⟩, .bool false]
  below : Below w.heap.size w wr
theorem PsJ.move {p : ByteArray} {n : Nat} {w : World} {ts : List Pat} {i g cp : Nat} {xs : List UInt8} {us : List Pat} {wr w' : World} (h : PsJ p n w ts i g cp xs us wr) (hb : Below wr.heap.size wr w') : PsJ p n w ts i g cp xs us w' :=
  ⟨h.seq, h.pre, h.own.below hb, h.res.below hb, h.below.trans (hb.mono h.below.size)⟩
theorem reg_field (c k : Int) (w : World) : (Instr.field 46 (.agg #[.int .i64 c, .int .i64 k]) 0).run Try.prog w = .ok (.int .i64 c) w := by kernel_rfl
set_option maxHeartbeats 8000000 in
theorem specPrefix_core (p : ByteArray) (w : World) (hpm : p.size ≤ maxLen) (r : List UInt8 × Bool) (hr : PrefIs p r) : Calls Try.prog 26 #[.string p] w fun e w' => e = .returned (.agg #[.string ⟨r.1.toArray⟩, .bool r.2]) ∧ Below w.heap.size w w' := by
  have HR : Hid (PrefIs p r) := hr
  clear hr
  obtain ⟨W0, hW0⟩ : ∃ W0 : World, W0 = w.alloc (Obj.cells #[.string ⟨#[]⟩, .bool false] 51) := ⟨_, rfl⟩
  have HW0 : Hid (BoxAt W0 w.heap.size 51 2 w.heap.size [.string ⟨#[]⟩, .bool false] ∧ Below w.heap.size w W0 ∧ w.heap.size + 1 ≤ W0.heap.size) := by
    rw [hW0]; exact ⟨boxAt_new w _ (Nat.le_refl _) rfl, (Below.refl _ _).alloc (Nat.le_refl _) _, by simp⟩
  obtain ⟨c, hc⟩ : ∃ c, c = (checkM (sb p)).1 := ⟨_, rfl⟩
  obtain ⟨k, hk⟩ : ∃ k : Int, k = ((checkM (sb p)).2 : Int) := ⟨_, rfl⟩
  have HC : Hid (c = (checkM (sb p)).1) := hc
  have HS : Hid (∀ w, Calls Try.prog 23 #[.string p] w fun e w' => e = .returned (.agg #[.int .i64 c, .int .i64 k]) ∧ Below w.heap.size w w') := fun w => by
    rw [hc, hk]; exact specCheck_core p w hpm
  have hfd := reg_field c k
  clear hc hk
  have zero : ∀ w2 : World, BoxAt w2 w.heap.size 51 2 w.heap.size [.string ⟨#[]⟩, .bool false] → Below w.heap.size w w2 → Hid (BoxAt ((w2.setCell ⟨w.heap.size, 0, none⟩ (.string ⟨#[]⟩)).setCell ⟨w.heap.size, 1, none⟩ (.bool false)) w.heap.size 51 2 w.heap.size [.string ⟨#[]⟩, .bool false] ∧ Below w.heap.size w ((w2.setCell ⟨w.heap.size, 0, none⟩ (.string ⟨#[]⟩)).setCell ⟨w.heap.size, 1, none⟩ (.bool false))) := fun w2 h1 h2 =>
    ⟨set2_cells h1 _ _, below_set (below_set h2 (Nat.le_refl _) 0 _) (Nat.le_refl _) 1 _⟩
  have HZ : Hid (∀ w2 : World, BoxAt w2 w.heap.size 51 2 w.heap.size [.string ⟨#[]⟩, .bool false] → Below w.heap.size w w2 → Hid (BoxAt ((w2.setCell ⟨w.heap.size, 0, none⟩ (.string ⟨#[]⟩)).setCell ⟨w.heap.size, 1, none⟩ (.bool false)) w.heap.size 51 2 w.heap.size [.string ⟨#[]⟩, .bool false] ∧ Below w.heap.size w ((w2.setCell ⟨w.heap.size, 0, none⟩ (.string ⟨#[]⟩)).setCell ⟨w.heap.size, 1, none⟩ (.bool false)))) := zero
  clear zero
  go_enter Try.func26, Try.ntmps26
  go_upto_region 1 with fail
  rw [← hW0]
  clear hW0
  have s0 := HW0.out.2.1.size
  by_cases hc0 : c = 0
  · have q0 : (checkM (sb p)).1 = 0 := by rw [← HC.out]; exact hc0
    obtain ⟨os, ho⟩ := pref_is p hpm q0
    have hp : p.size ≤ 200 := by
      apply Classical.byContradiction
      intro h6
      unfold checkM at q0
      rw [if_pos (by rw [sb_len]; omega)] at q0
      exact absurd q0 (by decide)
    have HRo : Hid (r = prefOf os) := HR.out.2 q0 os ho
    obtain ⟨n, hg⟩ := ho.gr
    obtain ⟨m, hm, hT⟩ := hg.tokn
    have HT : Hid (os.length = m + 1 ∧ TokN (AtomG n) m (cut (sb p) 0 p.size) ∧ AltG (AtomG n) os (cut (sb p) 0 p.size)) := ⟨hm, hT, hg⟩
    subst hc0
    clear q0 ho hg hm hT HR HC
    go_wp2_with fail
    refine (HS.out W0).mono ?_
    rintro e w1 ⟨rfl, hb1⟩
    have HW1 : Hid (BoxAt w1 w.heap.size 51 2 w.heap.size [.string ⟨#[]⟩, .bool false] ∧ Below w.heap.size w w1 ∧ w.heap.size + 1 ≤ w1.heap.size) := ⟨HW0.out.1.below hb1, HW0.out.2.1.trans (hb1.mono s0), by have := HW0.out.2.2; have := hb1.size; omega⟩
    have s1 := HW1.out.2.1.size
    clear hb1 HW0 HS
    go_wp2_with fail
    refine (l4Parts_core hp HT.out.2.1 w1).mono ?_
    rintro e w2 ⟨g2, cp2, rfl, hb2⟩
    have HW2 : Hid (BoxAt w2 w.heap.size 51 2 w.heap.size [.string ⟨#[]⟩, .bool false] ∧ Below w.heap.size w w2 ∧ w.heap.size + 1 ≤ w2.heap.size) := ⟨HW1.out.1.below hb2, HW1.out.2.1.trans (hb2.mono s1), by have := HW1.out.2.2; have := hb2.size; omega⟩
    clear hb2 HW1
    have r0 := HW2.out.1.cell (j := 0) rfl
    have r1 := HW2.out.1.cell (j := 1) rfl
    have f0 := HW2.out.1.frozen 0
    have f1 := HW2.out.1.frozen 1
    by_cases hm0 : m = 0
    · subst hm0
      obtain ⟨ts, hts, hS⟩ : ∃ ts, r = prefM ts ∧ SeqG (AtomG n) ts (cut (sb p) 0 p.size) := by
        have h1 := HT.out.1
        have h2 := HT.out.2.2
        have h3 := HRo.out
        match os, h1, h2, h3 with
        | [ts], _, h2, h3 => exact ⟨ts, h3, h2⟩
      subst hts
      have hz2 := HW2.out.2.2
      obtain ⟨W3, hW3⟩ : ∃ W3 : World, W3 = w2.alloc (Obj.cells #[] 5) := ⟨_, rfl⟩
      have HW3 : Hid (PsJ p n w ts 0 w2.heap.size 0 [] ts W3) := by
        have hb3 : Below w2.heap.size w2 W3 := by rw [hW3]; exact (Below.refl _ _).alloc (Nat.le_refl _) _
        refine ⟨hS, by simp, ?_, HW2.out.1.below hb3, HW2.out.2.1.trans (hb3.mono (by omega))⟩
        rw [hW3]
        exact ownY_new w2 hz2
      clear hS HW2 HT HRo r0 r1 f0 f1 HZ
      go_upto_region 4 with fail
      rw [← hW3]
      clear hW3
      go_wp2_with fail
      go_loopw [3, 4] (fun o iv wr => ∃ (i g cp : Nat) (xs : List UInt8) (us : List Pat), iv = .int .i64 (i : Int) ∧ i ≤ p.size ∧ xs.length ≤ i ∧ o = .slice (some ⟨g, 0, none⟩) xs.length cp ∧ PsJ p n w ts i g cp xs us wr) (fun _ iv _ => p.size - (intOf iv).toNat)
      case atStart => exact ⟨0, _, 0, [], ts, rfl, Nat.zero_le _, Nat.zero_le _, rfl, HW3.out⟩
      case round =>
        obtain ⟨i, g, cp, xs, us, rfl, hip, hxi, rfl, hJ⟩ := hrel
        have HJ : Hid (PsJ p n w ts i g cp xs us wr) := hJ
        have hgl := hJ.own.lt
        have hsz := hJ.below.size
        clear hJ HW3
        by_cases hlt : i < p.size
        · have zi : (i : Int) < (p.size : Int) := by omega
          obtain ⟨t, us', j, c, a, hus, hSt⟩ := seq_step HJ.out.seq (by rw [sb_len]; exact Nat.le_refl _) hlt
          have HSt : Hid (us = t :: us' ∧ SeqStep n (sb p) i p.size j c a t us') := ⟨hus, hSt⟩
          have hij := hSt.lt
          have hjp := hSt.le
          obtain ⟨_, gi⟩ := sb_get hSt.at0
          clear hus hSt
          go_wp2_with fail
          refine (end_all hp n i j a wr HSt.out.2.atom hjp).mono ?_
          rintro e w6 ⟨rfl, hb6⟩
          have HJ6 : Hid (PsJ p n w ts i g cp xs us w6) := HJ.out.move hb6
          have hs6 := hb6.size
          clear hb6 HJ
          rcases HSt.out.2.what with ⟨b, rfl, hs, hn, hb, hS⟩ | ⟨hnb, hw⟩
          · obtain ⟨j0, rfl⟩ : ∃ j0, j = j0 + 1 := ⟨j - 1, by omega⟩
            obtain ⟨_, gb⟩ := sb_get (show (sb p)[j0]? = some b from hb)
            have HB : Hid ((∀ d, (sb p)[j0 + 1]? = some d → j0 + 1 < p.size → ¬ isOp d) ∧ SeqG (AtomG n) us' (cut (sb p) (j0 + 1) p.size)) := ⟨hn, hS⟩
            have HP : Hid (prefM ts = (xs ++ [b] ++ (prefM us').1, (prefM us').2)) := by
              show prefM ts = _
              rw [HJ6.out.pre, HSt.out.1]; simp [prefM]
            have zj0 : (j0 : Int) < (p.size : Int) := by omega
            clear hn hb hS HSt
            by_cases hjl : j0 + 1 < p.size
            · obtain ⟨d, hd⟩ : ∃ d, (sb p)[j0 + 1]? = some d := ⟨_, List.getElem?_eq_getElem (by rw [sb_len]; exact hjl)⟩
              obtain ⟨_, gd⟩ := sb_get hd
              have hnd := HB.out.1 d hd hjl
              have zjl : (j0 : Int) + 1 < (p.size : Int) := by omega
              have HOp : Hid (Calls Try.prog 34 #[.int .u8 (d.toNat : Int)] w6 fun e w' => e = .returned (.bool false) ∧ w' = w6) := by
                have := l4Op_core d w6
                rw [decide_eq_false hnd] at this
                exact this
              clear hd hnd
              rcases hs with hs | rfl
              · skip
                have HSp : Hid (Calls Try.prog 39 #[.int .u8 (c.toNat : Int)] w6 fun e w' => e = .returned (.bool false) ∧ w' = w6) := by
                  have := l4Special_core c w6
                  rw [decide_eq_false hs] at this
                  exact this
                clear hs
                go_wp2_with fail
                refine HSp.out.mono ?_
                rintro e' w7 ⟨rfl, hw7⟩
                rw [hw7]
                clear hw7
                go_wp2_with fail
                refine HOp.out.mono ?_
                rintro e' w8 ⟨rfl, hw8⟩
                rw [hw8]
                clear hw8
                go_wp2_with (at_builtin; refine wpList_append_bys _ rfl _ _ rfl (w.heap.size + 1) g cp xs.length w6.heap.size 0 1 1 xs [b] rfl rfl rfl rfl ?hO ?hc ?hl ?hb ?_)
                case hO => exact HJ6.out.own.below ((Below.refl _ _).alloc (Nat.le_refl _) _)
                case hc => exact (ownY_one w6 (Nat.le_refl _) b rfl).at
                case hl => first | omega | (simp; omega)
                case hb => first | omega | (simp; omega)
                intro g' cp' w' hO' hgr hat
                have HJ7 : Hid (PsJ p n w ts (j0 + 1) g' cp' (xs ++ [b]) us' w') := by
                  have hb7 : Below w6.heap.size w6 (w6.alloc (Obj.cells #[.int .u8 (b.toNat : Int)] 5)) := (Below.refl _ _).alloc (Nat.le_refl _) _
                  have hC : Chg (fun j => j = g) (w6.alloc (Obj.cells #[.int .u8 (b.toNat : Int)] 5)) w' := Chg.of_grown hgr (fun j hj => by cases hj; rfl)
                  have hJ' := HJ6.out.move hb7
                  exact ⟨HB.out.2, HP.out, hO', hJ'.res.chg hC (by omega), Chg.below hJ'.below hC hJ'.below.size (fun j q => by omega)⟩
                clear hO' hgr hat
                go_wp2_with fail
                go_roundw
                case rel => exact ⟨j0 + 1, g', cp', xs ++ [b], us', by go_num, by omega, by simp; omega, by simp, HJ7.out⟩
                case measure => simp [intOf]; omega
              · skip
                have HSp : Hid (Calls Try.prog 39 #[.int .u8 92] w6 fun e w' => e = .returned (.bool true) ∧ w' = w6) := l4Special_core 92 w6
                go_wp2_with fail
                refine HSp.out.mono ?_
                rintro e' w7 ⟨rfl, hw7⟩
                rw [hw7]
                clear hw7
                go_wp2_with fail
                refine HOp.out.mono ?_
                rintro e' w8 ⟨rfl, hw8⟩
                rw [hw8]
                clear hw8
                go_wp2_with (at_builtin; refine wpList_append_bys _ rfl _ _ rfl (w.heap.size + 1) g cp xs.length w6.heap.size 0 1 1 xs [b] rfl rfl rfl rfl ?hO ?hc ?hl ?hb ?_)
                case hO => exact HJ6.out.own.below ((Below.refl _ _).alloc (Nat.le_refl _) _)
                case hc => exact (ownY_one w6 (Nat.le_refl _) b rfl).at
                case hl => first | omega | (simp; omega)
                case hb => first | omega | (simp; omega)
                intro g' cp' w' hO' hgr hat
                have HJ7 : Hid (PsJ p n w ts (j0 + 1) g' cp' (xs ++ [b]) us' w') := by
                  have hb7 : Below w6.heap.size w6 (w6.alloc (Obj.cells #[.int .u8 (b.toNat : Int)] 5)) := (Below.refl _ _).alloc (Nat.le_refl _) _
                  have hC : Chg (fun j => j = g) (w6.alloc (Obj.cells #[.int .u8 (b.toNat : Int)] 5)) w' := Chg.of_grown hgr (fun j hj => by cases hj; rfl)
                  have hJ' := HJ6.out.move hb7
                  exact ⟨HB.out.2, HP.out, hO', hJ'.res.chg hC (by omega), Chg.below hJ'.below hC hJ'.below.size (fun j q => by omega)⟩
                clear hO' hgr hat
                go_wp2_with fail
                go_roundw
                case rel => exact ⟨j0 + 1, g', cp', xs ++ [b], us', by go_num, by omega, by simp; omega, by simp, HJ7.out⟩
                case measure => simp [intOf]; omega
            · have zjl : ¬ (j0 : Int) + 1 < (p.size : Int) := by omega
              rcases hs with hs | rfl
              · skip
                have HSp : Hid (Calls Try.prog 39 #[.int .u8 (c.toNat : Int)] w6 fun e w' => e = .returned (.bool false) ∧ w' = w6) := by
                  have := l4Special_core c w6
                  rw [decide_eq_false hs] at this
                  exact this
                clear hs
                go_wp2_with fail
                refine HSp.out.mono ?_
                rintro e' w7 ⟨rfl, hw7⟩
                rw [hw7]
                clear hw7
                go_wp2_with (at_builtin; refine wpList_append_bys _ rfl _ _ rfl (w.heap.size + 1) g cp xs.length w6.heap.size 0 1 1 xs [b] rfl rfl rfl rfl ?hO ?hc ?hl ?hb ?_)
                case hO => exact HJ6.out.own.below ((Below.refl _ _).alloc (Nat.le_refl _) _)
                case hc => exact (ownY_one w6 (Nat.le_refl _) b rfl).at
                case hl => first | omega | (simp; omega)
                case hb => first | omega | (simp; omega)
                intro g' cp' w' hO' hgr hat
                have HJ7 : Hid (PsJ p n w ts (j0 + 1) g' cp' (xs ++ [b]) us' w') := by
                  have hb7 : Below w6.heap.size w6 (w6.alloc (Obj.cells #[.int .u8 (b.toNat : Int)] 5)) := (Below.refl _ _).alloc (Nat.le_refl _) _
                  have hC : Chg (fun j => j = g) (w6.alloc (Obj.cells #[.int .u8 (b.toNat : Int)] 5)) w' := Chg.of_grown hgr (fun j hj => by cases hj; rfl)
                  have hJ' := HJ6.out.move hb7
                  exact ⟨HB.out.2, HP.out, hO', hJ'.res.chg hC (by omega), Chg.below hJ'.below hC hJ'.below.size (fun j q => by omega)⟩
                clear hO' hgr hat
                go_wp2_with fail
                go_roundw
                case rel => exact ⟨j0 + 1, g', cp', xs ++ [b], us', by go_num, by omega, by simp; omega, by simp, HJ7.out⟩
                case measure => simp [intOf]; omega
              · skip
                have HSp : Hid (Calls Try.prog 39 #[.int .u8 92] w6 fun e w' => e = .returned (.bool true) ∧ w' = w6) := l4Special_core 92 w6
                go_wp2_with fail
                refine HSp.out.mono ?_
                rintro e' w7 ⟨rfl, hw7⟩
                rw [hw7]
                clear hw7
                go_wp2_with (at_builtin; refine wpList_append_bys _ rfl _ _ rfl (w.heap.size + 1) g cp xs.length w6.heap.size 0 1 1 xs [b] rfl rfl rfl rfl ?hO ?hc ?hl ?hb ?_)
                case hO => exact HJ6.out.own.below ((Below.refl _ _).alloc (Nat.le_refl _) _)
                case hc => exact (ownY_one w6 (Nat.le_refl _) b rfl).at
                case hl => first | omega | (simp; omega)
                case hb => first | omega | (simp; omega)
                intro g' cp' w' hO' hgr hat
                have HJ7 : Hid (PsJ p n w ts (j0 + 1) g' cp' (xs ++ [b]) us' w') := by
                  have hb7 : Below w6.heap.size w6 (w6.alloc (Obj.cells #[.int .u8 (b.toNat : Int)] 5)) := (Below.refl _ _).alloc (Nat.le_refl _) _
                  have hC : Chg (fun j => j = g) (w6.alloc (Obj.cells #[.int .u8 (b.toNat : Int)] 5)) w' := Chg.of_grown hgr (fun j hj => by cases hj; rfl)
                  have hJ' := HJ6.out.move hb7
                  exact ⟨HB.out.2, HP.out, hO', hJ'.res.chg hC (by omega), Chg.below hJ'.below hC hJ'.below.size (fun j q => by omega)⟩
                clear hO' hgr hat
                go_wp2_with fail
                go_roundw
                case rel => exact ⟨j0 + 1, g', cp', xs ++ [b], us', by go_num, by omega, by simp; omega, by simp, HJ7.out⟩
                case measure => simp [intOf]; omega
          · have HP : Hid (prefM ts = (xs, false)) := by
              show prefM ts = _
              rw [HJ6.out.pre, HSt.out.1, prefM_not hnb]; simp
            clear HSt hnb
            rcases hw with ⟨hs, h92⟩ | ⟨hs, d, hd, hop, hjl⟩
            · have z92 : ((c.toNat : Int) != 92) = true := by have := ne_u8 (c := 92) h92; simpa using this
              have HSp : Hid (Calls Try.prog 39 #[.int .u8 (c.toNat : Int)] w6 fun e w' => e = .returned (.bool true) ∧ w' = w6) := by
                have := l4Special_core c w6
                rw [decide_eq_true hs] at this
                exact this
              clear hs h92
              go_wp2_with fail
              refine HSp.out.mono ?_
              rintro e' w7 ⟨rfl, hw7⟩
              rw [hw7]
              clear hw7
              have hcv := conv_ownY HJ6.out.own
              have r0 := HJ6.out.res.cell (j := 0) rfl
              have r1 := HJ6.out.res.cell (j := 1) rfl
              have f0 := HJ6.out.res.frozen 0
              have f1 := HJ6.out.res.frozen 1
              obtain ⟨W9, hW9⟩ : ∃ W9 : World, W9 = set2 w6 w.heap.size (.string ⟨xs.toArray⟩) (.bool false) := ⟨_, rfl⟩
              have HW9 : Hid (BoxAt W9 w.heap.size 51 2 w.heap.size [.string ⟨xs.toArray⟩, .bool false] ∧ Below w.heap.size w W9) := by
                rw [hW9]; exact ⟨set2_cells HJ6.out.res _ _, below_set (below_set HJ6.out.below (Nat.le_refl _) 0 _) (Nat.le_refl _) 1 _⟩
              have p0 := HW9.out.1.cell (j := 0) rfl
              have p1 := HW9.out.1.cell (j := 1) rfl
              unfold set2 at hW9
              go_wp2_with fail
              rw [← hW9, HP.out]
              refine bodyPost_ret (v := .agg #[.string ⟨xs.toArray⟩, .bool false]) (by simp [results, Try.results26, go_sem, p0, p1]) rfl ⟨rfl, HW9.out.2⟩
            · obtain ⟨_, gd⟩ := sb_get hd
              have zjl : (j : Int) < (p.size : Int) := by omega
              have HOp : Hid (Calls Try.prog 34 #[.int .u8 (d.toNat : Int)] w6 fun e w' => e = .returned (.bool true) ∧ w' = w6) := by
                have := l4Op_core d w6
                rw [decide_eq_true hop] at this
                exact this
              clear hd hop
              rcases hs with hs | rfl
              · skip
                have HSp : Hid (Calls Try.prog 39 #[.int .u8 (c.toNat : Int)] w6 fun e w' => e = .returned (.bool false) ∧ w' = w6) := by
                  have := l4Special_core c w6
                  rw [decide_eq_false hs] at this
                  exact this
                clear hs
                go_wp2_with fail
                refine HSp.out.mono ?_
                rintro e' w7 ⟨rfl, hw7⟩
                rw [hw7]
                clear hw7
                go_wp2_with fail
                refine HOp.out.mono ?_
                rintro e' w8 ⟨rfl, hw8⟩
                rw [hw8]
                clear hw8
                have hcv := conv_ownY HJ6.out.own
                have r0 := HJ6.out.res.cell (j := 0) rfl
                have r1 := HJ6.out.res.cell (j := 1) rfl
                have f0 := HJ6.out.res.frozen 0
                have f1 := HJ6.out.res.frozen 1
                obtain ⟨W9, hW9⟩ : ∃ W9 : World, W9 = set2 w6 w.heap.size (.string ⟨xs.toArray⟩) (.bool false) := ⟨_, rfl⟩
                have HW9 : Hid (BoxAt W9 w.heap.size 51 2 w.heap.size [.string ⟨xs.toArray⟩, .bool false] ∧ Below w.heap.size w W9) := by
                  rw [hW9]; exact ⟨set2_cells HJ6.out.res _ _, below_set (below_set HJ6.out.below (Nat.le_refl _) 0 _) (Nat.le_refl _) 1 _⟩
                have p0 := HW9.out.1.cell (j := 0) rfl
                have p1 := HW9.out.1.cell (j := 1) rfl
                unfold set2 at hW9
                go_wp2_with fail
                rw [← hW9, HP.out]
                refine bodyPost_ret (v := .agg #[.string ⟨xs.toArray⟩, .bool false]) (by simp [results, Try.results26, go_sem, p0, p1]) rfl ⟨rfl, HW9.out.2⟩
              · skip
                have HSp : Hid (Calls Try.prog 39 #[.int .u8 92] w6 fun e w' => e = .returned (.bool true) ∧ w' = w6) := l4Special_core 92 w6
                go_wp2_with fail
                refine HSp.out.mono ?_
                rintro e' w7 ⟨rfl, hw7⟩
                rw [hw7]
                clear hw7
                go_wp2_with fail
                refine HOp.out.mono ?_
                rintro e' w8 ⟨rfl, hw8⟩
                rw [hw8]
                clear hw8
                have hcv := conv_ownY HJ6.out.own
                have r0 := HJ6.out.res.cell (j := 0) rfl
                have r1 := HJ6.out.res.cell (j := 1) rfl
                have f0 := HJ6.out.res.frozen 0
                have f1 := HJ6.out.res.frozen 1
                obtain ⟨W9, hW9⟩ : ∃ W9 : World, W9 = set2 w6 w.heap.size (.string ⟨xs.toArray⟩) (.bool false) := ⟨_, rfl⟩
                have HW9 : Hid (BoxAt W9 w.heap.size 51 2 w.heap.size [.string ⟨xs.toArray⟩, .bool false] ∧ Below w.heap.size w W9) := by
                  rw [hW9]; exact ⟨set2_cells HJ6.out.res _ _, below_set (below_set HJ6.out.below (Nat.le_refl _) 0 _) (Nat.le_refl _) 1 _⟩
                have p0 := HW9.out.1.cell (j := 0) rfl
                have p1 := HW9.out.1.cell (j := 1) rfl
                unfold set2 at hW9
                go_wp2_with fail
                rw [← hW9, HP.out]
                refine bodyPost_ret (v := .agg #[.string ⟨xs.toArray⟩, .bool false]) (by simp [results, Try.results26, go_sem, p0, p1]) rfl ⟨rfl, HW9.out.2⟩
        · have zi : ¬ (i : Int) < (p.size : Int) := by omega
          obtain rfl : i = p.size := by omega
          have HP : Hid (prefM ts = (xs, true)) := by
            show prefM ts = _
            rw [HJ.out.pre, seq_done HJ.out.seq (by rw [sb_len]; exact Nat.le_refl _)]; simp [prefM]
          have hcv := conv_ownY HJ.out.own
          have r0 := HJ.out.res.cell (j := 0) rfl
          have r1 := HJ.out.res.cell (j := 1) rfl
          have f0 := HJ.out.res.frozen 0
          have f1 := HJ.out.res.frozen 1
          obtain ⟨W9, hW9⟩ : ∃ W9 : World, W9 = set2 wr w.heap.size (.string ⟨xs.toArray⟩) (.bool true) := ⟨_, rfl⟩
          have HW9 : Hid (BoxAt W9 w.heap.size 51 2 w.heap.size [.string ⟨xs.toArray⟩, .bool true] ∧ Below w.heap.size w W9) := by
            rw [hW9]; exact ⟨set2_cells HJ.out.res _ _, below_set (below_set HJ.out.below (Nat.le_refl _) 0 _) (Nat.le_refl _) 1 _⟩
          have p0 := HW9.out.1.cell (j := 0) rfl
          have p1 := HW9.out.1.cell (j := 1) rfl
          unfold set2 at hW9
          go_wp2_with fail
          rw [← hW9, HP.out]
          refine bodyPost_ret (v := .agg #[.string ⟨xs.toArray⟩, .bool true]) (by simp [results, Try.results26, go_sem, p0, p1]) rfl ⟨rfl, HW9.out.2⟩
    · have hr0 : r = ([], false) := by
        have h1 := HT.out.1
        rw [HRo.out]
        match os, h1 with
        | [], _ => rfl
        | [_], h1 => simp at h1; omega
        | _ :: _ :: _, _ => rfl
      subst hr0
      have zm : (1 : Int) < (m : Int) + 1 := by omega
      have HZ9 := HZ.out w2 HW2.out.1 HW2.out.2.1
      have p0 := HZ9.out.1.cell (j := 0) rfl
      have p1 := HZ9.out.1.cell (j := 1) rfl
      obtain ⟨W9, hW9⟩ : ∃ W9 : World, W9 = (w2.setCell ⟨w.heap.size, 0, none⟩ (.string ⟨#[]⟩)).setCell ⟨w.heap.size, 1, none⟩ (.bool false) := ⟨_, rfl⟩
      rw [← hW9] at p0 p1 HZ9
      go_wp2_with fail
      rw [← hW9]
      refine bodyPost_ret (v := .agg #[.string ⟨#[]⟩, .bool false]) (by simp [results, Try.results26, go_sem, p0, p1]) rfl ⟨rfl, HZ9.out.2⟩
  · have hr0 : r = ([], false) := HR.out.1 (by rw [← HC.out]; exact hc0)
    subst hr0
    have zc : (c != 0) = true := by simpa using hc0
    clear HR HC
    go_wp2_with fail
    refine (HS.out W0).mono ?_
    rintro e w1 ⟨rfl, hb1⟩
    have HW1 : Hid (BoxAt w1 w.heap.size 51 2 w.heap.size [.string ⟨#[]⟩, .bool false] ∧ Below w.heap.size w w1) := ⟨HW0.out.1.below hb1, HW0.out.2.1.trans (hb1.mono s0)⟩
    clear hb1 HW0
    have r0 := HW1.out.1.cell (j := 0) rfl
    have r1 := HW1.out.1.cell (j := 1) rfl
    have f0 := HW1.out.1.frozen 0
    have f1 := HW1.out.1.frozen 1
    have HZ9 := HZ.out w1 HW1.out.1 HW1.out.2
    have p0 := HZ9.out.1.cell (j := 0) rfl
    have p1 := HZ9.out.1.cell (j := 1) rfl
    obtain ⟨W9, hW9⟩ : ∃ W9 : World, W9 = (w1.setCell ⟨w.heap.size, 0, none⟩ (.string ⟨#[]⟩)).setCell ⟨w.heap.size, 1, none⟩ (.bool false) := ⟨_, rfl⟩
    rw [← hW9] at p0 p1 HZ9
    go_wp2_with fail
    rw [← hW9]
    refine bodyPost_ret (v := .agg #[.string ⟨#[]⟩, .bool false]) (by simp [results, Try.results26, go_sem, p0, p1]) rfl ⟨rfl, HZ9.out.2⟩
end Go.Proofs.Ythkmecppjhcidaa
