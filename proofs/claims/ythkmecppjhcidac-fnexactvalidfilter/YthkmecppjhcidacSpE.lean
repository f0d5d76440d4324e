/-
  spec.CheckRegex.
-/
import Derived.Test.YthkmecppjhcidacSpD
namespace Go.Proofs.Ythkmecppjhcidac
open Go.ChangeShapes Go.WideShapes Go.ChangeAt Go.RowKit Go.Deep
set_option linter.unusedVariables false
set_option linter.unusedSimpArgs false
set_option maxRecDepth 100000

/-- What the check of a pattern comes to. -/
def specM (p : List UInt8) : Int × Nat := if 200 < p.length then (1, 0) else chkM p 0 0 false
theorem chk_ret {base rb : Nat} {w : World} {a : Act} {y z : Value} (ht : a.tmps.getD 2 undef = .pointer (some ⟨rb, 0, none⟩)) (he : BoxAt w base 118 2 rb [y, z]) :
    (results Try.f67 a.tmps).run Try.prog w = .ok (.agg #[y, z]) w := by
  have q0 := he.cell (j := 0) rfl
  have q1 := he.cell (j := 1) rfl
  have h2 : a.tmps[2]?.getD undef = .pointer (some ⟨rb, 0, none⟩) := by rw [← Array.getD_eq_getD_getElem?]; exact ht
  simp [results, Try.results67, go_sem, h2, q0, q1]
/-- How the answer is told. -/
def ChkP (p : ByteArray) (w : World) (e : Ending) (w' : World) : Prop := e = .returned (.agg #[.int .i64 (specM (sb p)).1, .int .i64 ((specM (sb p)).2 : Int)]) ∧ Below w.heap.size w w'
theorem chk_fin {p : ByteArray} {w wr : World} {a : Act} {c : Int} {k : Nat} (hM : specM (sb p) = (c, k)) (hd : a.defers = []) (ht : a.tmps.getD 2 undef = .pointer (some ⟨w.heap.size, 0, none⟩)) (hx : BoxAt wr w.heap.size 118 2 w.heap.size [.int .i64 0, .int .i64 0]) (hb : Below w.heap.size w wr) :
    bodyPost Try.prog Try.f67 (ChkP p w) .ret a ((wr.setCell ⟨w.heap.size, 0, none⟩ (.int .i64 c)).setCell ⟨w.heap.size, 1, none⟩ (.int .i64 (k : Int))) :=
  bodyPost_ret (v := .agg #[.int .i64 c, .int .i64 (k : Int)]) (chk_ret ht ((hx.set 0 _).set 1 _)) hd ⟨by rw [hM], below_set (below_set hb (Nat.le_refl _) 0 _) (Nat.le_refl _) 1 _⟩

set_option maxHeartbeats 8000000 in
theorem specCheck_core (p : ByteArray) (w : World) (hpm : p.size ≤ maxLen) : Calls Try.prog 67 #[.string p] w (ChkP p w) := by
  obtain ⟨W0, hW0⟩ : ∃ W0 : World, W0 = w.alloc (Obj.cells #[.int .i64 0, .int .i64 0] 118) := ⟨_, rfl⟩
  have HW0 : Hid (BoxAt W0 w.heap.size 118 2 w.heap.size [.int .i64 0, .int .i64 0] ∧ Below w.heap.size w W0) := by
    rw [hW0]; exact ⟨boxAt_new w _ (Nat.le_refl _) rfl, (Below.refl _ _).alloc (Nat.le_refl _) _⟩
  unfold maxLen at hpm
  by_cases hp : 200 < p.size
  · have HM : Hid (specM (sb p) = (1, 0)) := by
      show specM (sb p) = _
      unfold specM; rw [if_pos (by rw [sb_len]; exact hp)]
    have z2 : (200 : Int) < (p.size : Int) := by omega
    have r0 := HW0.out.1.cell (j := 0) rfl
    have r1 := HW0.out.1.cell (j := 1) rfl
    have f0 := HW0.out.1.frozen 0
    have f1 := HW0.out.1.frozen 1
    go_enter Try.func67, Try.ntmps67
    go_upto_region 1 with fail
    rw [← hW0]
    clear hW0
    go_wp2_with fail
    exact chk_fin HM.out rfl rfl HW0.out.1 HW0.out.2
  have hp2 : p.size ≤ 200 := by omega
  have HM : Hid (specM (sb p) = chkM (sb p) 0 0 false) := by
    show specM (sb p) = _
    unfold specM; rw [if_neg (by rw [sb_len]; exact hp)]
  have z2 : ¬ (200 : Int) < (p.size : Int) := by omega
  go_enter Try.func67, Try.ntmps67
  go_upto_region 1 with fail
  rw [← hW0]
  clear hW0 hp
  go_wp2_with fail
  go_loopw [3, 4, 5] (fun ov av iv wr => ∃ (i o : Nat) (a : Bool), i ≤ p.size ∧ o ≤ i ∧ ov = .int .i64 (o : Int) ∧ av = .bool a ∧ iv = .int .i64 (i : Int) ∧ specM (sb p) = chkM (sb p) i o a ∧ Below W0.heap.size W0 wr) (fun _ _ iv _ => p.size - (intOf iv).toNat)
  case atStart => exact ⟨0, 0, false, Nat.zero_le _, Nat.zero_le _, rfl, rfl, rfl, HM.out, Below.refl _ _⟩
  case round =>
    obtain ⟨i, o, a, hi, hoi, rfl, rfl, rfl, hE, hb⟩ := hrel
    have HE : Hid (specM (sb p) = chkM (sb p) i o a) := hE
    have HX : Hid (BoxAt wr w.heap.size 118 2 w.heap.size [.int .i64 0, .int .i64 0] ∧ Below w.heap.size w wr) := ⟨HW0.out.1.below hb, HW0.out.2.trans (hb.mono HW0.out.2.size)⟩
    have HB : Hid (Below W0.heap.size W0 wr) := hb
    have r0 := HX.out.1.cell (j := 0) rfl
    have r1 := HX.out.1.cell (j := 1) rfl
    have f0 := HX.out.1.frozen 0
    have f1 := HX.out.1.frozen 1
    clear hE hb HM
    by_cases hlt : i < p.size
    · obtain ⟨c, hc⟩ : ∃ x, (sb p)[i]? = some x := ⟨_, List.getElem?_eq_getElem (by rw [sb_len]; exact hlt)⟩
      obtain ⟨_, gc⟩ := sb_get hc
      have HC : Hid ((sb p)[i]? = some c) := hc
      have zi : (i : Int) < (p.size : Int) := by omega
      clear hc
      by_cases h40 : c = 40
      · subst h40
        by_cases ho : o = 20
        · subst ho
          have HF : Hid (specM (sb p) = (3, i)) := by
            show specM (sb p) = _
            rw [HE.out, chk_open HC.out, if_pos rfl]
          go_wp2_with fail
          exact chk_fin HF.out rfl rfl HX.out.1 HX.out.2
        · have zo : ¬ (o : Int) = 20 := by omega
          have HF : Hid (specM (sb p) = chkM (sb p) (i + 1) (o + 1) false) := by
            show specM (sb p) = _
            rw [HE.out, chk_open HC.out, if_neg ho]
          go_wp2_with fail
          go_roundw
          case rel => exact ⟨i + 1, o + 1, false, by omega, by omega, by go_num, rfl, by go_num, HF.out, HB.out⟩
          case measure => simp [intOf]; omega
      have z40 : ((c.toNat : Int) == 40) = false := beq_eq_false_iff_ne.2 (ne_u8 (c := 40) h40)
      by_cases h41 : c = 41
      · subst h41
        by_cases ho : o = 0
        · subst ho
          have HF : Hid (specM (sb p) = (2, i)) := by
            show specM (sb p) = _
            rw [HE.out, chk_close HC.out, if_pos rfl]
          go_wp2_with fail
          exact chk_fin HF.out rfl rfl HX.out.1 HX.out.2
        · have zo : ¬ (o : Int) = 0 := by omega
          have HF : Hid (specM (sb p) = chkM (sb p) (i + 1) (o - 1) true) := by
            show specM (sb p) = _
            rw [HE.out, chk_close HC.out, if_neg ho]
          go_wp2_with fail
          go_roundw
          case rel => exact ⟨i + 1, o - 1, true, by omega, by omega, congrArg (Value.int .i64) (by omega), rfl, by go_num, HF.out, HB.out⟩
          case measure => simp [intOf]; omega
      have z41 : ((c.toNat : Int) == 41) = false := beq_eq_false_iff_ne.2 (ne_u8 (c := 41) h41)
      by_cases h124 : c = 124
      · subst h124
        have HF : Hid (specM (sb p) = chkM (sb p) (i + 1) o false) := by
          show specM (sb p) = _
          rw [HE.out, chk_bar HC.out]
        go_wp2_with fail
        go_roundw
        case rel => exact ⟨i + 1, o, false, by omega, by omega, rfl, rfl, by go_num, HF.out, HB.out⟩
        case measure => simp [intOf]; omega
      have z124 : ((c.toNat : Int) == 124) = false := beq_eq_false_iff_ne.2 (ne_u8 (c := 124) h124)
      have HL : Hid (∀ q : Bool, decide (isOp c) = q → Calls Try.prog 94 #[.int .u8 (c.toNat : Int)] wr fun e w' => e = .returned (.bool q) ∧ w' = wr) := fun q hq => by rw [← hq]; exact l4Op_core c wr
      by_cases hop : isOp c
      · go_wp2_with fail
        refine (HL.out true (decide_eq_true hop)).mono ?_
        rintro e w3 ⟨rfl, hw3⟩
        rw [hw3]
        clear hw3 HL
        cases a
        · have HF : Hid (specM (sb p) = (2, i)) := by
            show specM (sb p) = _
            rw [HE.out, chk_op HC.out hop]; rfl
          clear hop
          go_wp2_with fail
          exact chk_fin HF.out rfl rfl HX.out.1 HX.out.2
        · have HF : Hid (specM (sb p) = chkM (sb p) (i + 1) o true) := by
            show specM (sb p) = _
            rw [HE.out, chk_op HC.out hop, if_pos rfl]
          clear hop
          go_wp2_with fail
          go_roundw
          case rel => exact ⟨i + 1, o, true, by omega, by omega, rfl, rfl, by go_num, HF.out, HB.out⟩
          case measure => simp [intOf]; omega
      go_wp2_with fail
      refine (HL.out false (decide_eq_false hop)).mono ?_
      rintro e w3 ⟨rfl, hw3⟩
      rw [hw3]
      have HOp : Hid (¬ isOp c) := hop
      clear hw3 HL hop
      by_cases h91 : c = 91
      · subst h91
        go_wp2_with fail
        refine (l4Class_core p i wr hp2 hlt).mono ?_
        rintro e w4 ⟨hP, hb4⟩
        have hB4 : Below W0.heap.size W0 w4 := HB.out.trans (hb4.mono HB.out.size)
        have hs4 := hb4.size
        have hsw := HX.out.2.size
        rcases hP with ⟨f, k, hk, rfl⟩ | ⟨c4, k, hk, rfl⟩
        · have hkp := classM_gt hk
          rw [sb_len] at hkp
          obtain ⟨W5, hW5⟩ : ∃ W5 : World, W5 = w4.alloc (Obj.cells #[.int .i64 0, .int .i64 0] 118) := ⟨_, rfl⟩
          have HF : Hid (specM (sb p) = chkM (sb p) k o true ∧ Below W0.heap.size W0 W5) := by
            refine ⟨by rw [HE.out, chk_class HC.out, hk], ?_⟩
            rw [hW5]; exact hB4.trans ((Below.refl _ _).alloc (by have := HB.out.size; omega) _)
          clear hk hb4 hB4 r0 r1 f0 f1
          go_wp2_with fail
          rw [← hW5]
          go_roundw
          case rel => exact ⟨k, o, true, hkp.2, by omega, rfl, rfl, rfl, HF.out.1, HF.out.2⟩
          case measure => simp [intOf]; omega
        · have hc4 := classM_err hk
          obtain ⟨W5, hW5⟩ : ∃ W5 : World, W5 = w4.alloc (Obj.cells #[.int .i64 c4, .int .i64 (k : Int)] 118) := ⟨_, rfl⟩
          have HF : Hid (specM (sb p) = (c4, k) ∧ BoxAt W5 w.heap.size 118 2 w.heap.size [.int .i64 0, .int .i64 0] ∧ Below w.heap.size w W5 ∧ BoxAt W5 w.heap.size 118 2 w4.heap.size [.int .i64 c4, .int .i64 (k : Int)]) := by
            have hb5 : Below w4.heap.size w4 W5 := by rw [hW5]; exact (Below.refl _ _).alloc (Nat.le_refl _) _
            refine ⟨by rw [HE.out, chk_class HC.out, hk], (HX.out.1.below hb4).below hb5, (HX.out.2.trans (hb4.mono hsw)).trans (hb5.mono (by omega)), ?_⟩
            rw [hW5]; exact boxAt_new w4 _ (by omega) rfl
          have hc4' : (c4 != 0) = true := by simpa using hc4
          clear hk hb4 hB4 r0 r1 f0 f1
          go_upto_region 29 with fail
          rw [← hW5]
          clear hW5
          have b0 := HF.out.2.2.2.cell (j := 0) rfl
          have b1 := HF.out.2.2.2.cell (j := 1) rfl
          have r0 := HF.out.2.1.cell (j := 0) rfl
          have r1 := HF.out.2.1.cell (j := 1) rfl
          have f0 := HF.out.2.1.frozen 0
          have f1 := HF.out.2.1.frozen 1
          go_wp2_with fail
          exact chk_fin HF.out.1 rfl rfl HF.out.2.1 HF.out.2.2.1
      have z91 : ((c.toNat : Int) == 91) = false := beq_eq_false_iff_ne.2 (ne_u8 (c := 91) h91)
      by_cases h93 : c = 93
      · subst h93
        have HF : Hid (specM (sb p) = (2, i)) := by
          show specM (sb p) = _
          rw [HE.out, chk_rb HC.out]
        go_wp2_with fail
        exact chk_fin HF.out rfl rfl HX.out.1 HX.out.2
      have z93 : ((c.toNat : Int) == 93) = false := beq_eq_false_iff_ne.2 (ne_u8 (c := 93) h93)
      by_cases h92 : c = 92
      · subst h92
        by_cases hl1 : i + 1 = p.size
        · have HF : Hid (specM (sb p) = (2, p.size)) := by
            show specM (sb p) = _
            rw [HE.out, chk_esc HC.out, if_pos (by rw [sb_len]; exact hl1), sb_len]
          have zl : (i : Int) + 1 = (p.size : Int) := by omega
          go_wp2_with fail
          exact chk_fin HF.out rfl rfl HX.out.1 HX.out.2
        · have HF : Hid (specM (sb p) = chkM (sb p) (i + 2) o true) := by
            show specM (sb p) = _
            rw [HE.out, chk_esc HC.out, if_neg (by rw [sb_len]; exact hl1)]
          have zl : ¬ (i : Int) + 1 = (p.size : Int) := by omega
          go_wp2_with fail
          go_roundw
          case rel => exact ⟨i + 2, o, true, by omega, by omega, rfl, rfl, by go_num, HF.out, HB.out⟩
          case measure => simp [intOf]; omega
      have z92 : ((c.toNat : Int) == 92) = false := beq_eq_false_iff_ne.2 (ne_u8 (c := 92) h92)
      have HF : Hid (specM (sb p) = chkM (sb p) (i + 1) o true) := by
        show specM (sb p) = _
        rw [HE.out, chk_plain HC.out (fun q => q.elim HOp.out (fun q => q.elim h124 (fun q => q.elim h41 h93))) h40 h91 h92]
      go_wp2_with fail
      go_roundw
      case rel => exact ⟨i + 1, o, true, by omega, by omega, rfl, rfl, by go_num, HF.out, HB.out⟩
      case measure => simp [intOf]; omega
    · have zi : ¬ (i : Int) < (p.size : Int) := by omega
      by_cases ho : 0 < o
      · have HF : Hid (specM (sb p) = (2, p.size)) := by
          show specM (sb p) = _
          rw [HE.out, chk_end (by rw [sb_len]; exact hlt), if_pos ho, sb_len]
        have zo : (0 : Int) < (o : Int) := by omega
        go_wp2_with fail
        exact chk_fin HF.out rfl rfl HX.out.1 HX.out.2
      · have HF : Hid (specM (sb p) = (0, 0)) := by
          show specM (sb p) = _
          rw [HE.out, chk_end (by rw [sb_len]; exact hlt), if_neg ho]
        have zo : ¬ (0 : Int) < (o : Int) := by omega
        go_wp2_with fail
        exact chk_fin HF.out rfl rfl HX.out.1 HX.out.2
end Go.Proofs.Ythkmecppjhcidac
