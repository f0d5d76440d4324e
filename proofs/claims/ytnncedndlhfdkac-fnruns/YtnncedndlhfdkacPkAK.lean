import Derived.Test.YtnncedndlhfdkacPkAF
import Derived.Test.YtnncedndlhfdkacPkAJ
import Derived.Test.YtnncedndlhfdkacPkAI
/-
  The marks that a law lays into rows of cells and looks for.
-/
namespace Go.Proofs.Ytnncedndlhfdkac
open Go.ChangeShapes Go.WideShapes Go.ChangeAt Go.RowKit Go.Deep
set_option linter.unusedVariables false
set_option linter.unusedSimpArgs false

/-- The cell that the marks from 'k' on make. -/
def mCel (k : Int) : Ent := ⟨mText k.toNat, mText (k + 1).toNat, mText (k + 1 + 1).toNat, k + 1 + 1 + 1, 0, mText (k + 1 + 1 + 1 + 1).toNat⟩
def markedC (k : Int) (es : List Ent) (i : Nat) : Prop := ∀ j : Nat, j < i → (es[j]?.map Ent.five) = some (mCel (k + j * 5)).five
theorem markedC_set {k : Int} {fs : List Ent} {m : Nat} {e : Ent} (h : markedC k fs m) (hm : m < fs.length) (he : e.five = (mCel (k + m * 5)).five) : markedC k (fs.set m e) (m + 1) := by
  intro j hj
  by_cases e1 : j = m
  · subst e1; simp [hm]; simpa using he
  · rw [List.getElem?_set_ne (by omega)]; exact h j (by omega)

set_option maxHeartbeats 1000000 in
theorem markCellS_core (base g cap : Nat) (es : List Ent) (k : Int) (w : World) (hO : OwnC w base g cap es) (h0 : 0 < k) (h1 : k ≤ 2 ^ 30) (hn : es.length ≤ 1048576) :
    Calls Try.prog 16 #[.slice (some ⟨g, 0, none⟩) es.length cap, .int .i64 k] w fun e w' =>
      ∃ fs, e = .returned (.int .i64 (k + es.length * 5)) ∧ OwnC w' base g cap fs ∧ fs.length = es.length ∧ markedC k fs es.length ∧ w.grownBy w' (some g) := by
  have HO : Hid (OwnC w base g cap es) := hO
  clear hO
  go_enter Try.func16, Try.ntmps16
  go_wp2
  go_loopw [1, 5] (fun c i wr => ∃ (m : Nat) (a : Int) (fs : List Ent), m ≤ es.length ∧ i = .int .i64 m ∧ c = .int .i64 a ∧ a = k + m * 5 ∧ OwnC wr base g cap fs ∧ fs.length = es.length ∧ markedC k fs m ∧ w.grownBy wr (some g)) (fun _ i _ => es.length - (intOf i).toNat)
  case atStart => exact ⟨0, k, es, Nat.zero_le _, rfl, rfl, by simp, HO.out, rfl, fun j hj => by omega, grown_of_below (Below.refl _ _) _⟩
  case round =>
    obtain ⟨m, a, fs, hm, rfl, rfl, ha, hO, hfl, hmk, hgr⟩ := hrel
    have HR : Hid (a = k + m * 5 ∧ OwnC wr base g cap fs ∧ fs.length = es.length ∧ markedC k fs m) := ⟨ha, hO, hfl, hmk⟩
    have ha0 : 0 < a := by omega
    have ha1 : a ≤ 2 ^ 31 := by omega
    have HG : Hid (w.grownBy wr (some g)) := hgr
    clear hO hfl hmk ha hgr
    by_cases hlt : m < es.length
    · obtain ⟨f, hf⟩ : ∃ f, fs[m]? = some f := ⟨_, List.getElem?_eq_getElem (by rw [HR.out.2.2.1]; exact hlt)⟩
      have HF : Hid (fs[m]? = some f ∧ m < fs.length) := ⟨hf, by rw [HR.out.2.2.1]; exact hlt⟩
      clear hf
      go_wp2_with fail
      refine (markText_any a _ (by omega) (by omega)).mono ?_
      rintro e w1 ⟨rfl, hb1⟩
      have hO1 := HR.out.2.1.below hb1 HR.out.2.1.lt.2
      have c1 := (hO1.at m f HF.out.1).1
      simp only [Nat.zero_add] at c1
      have z1 := fun j => World.ownsRow.frozenAt hO1 j
      have hO1' := hO1.set m 0 f { f with row := mText a.toNat } (.string (mText a.toNat)) HF.out.1 (by omega) rfl
      have H1 : Hid (OwnC (w1.setCell ⟨g, m * 5, none⟩ (.string (mText a.toNat))) base g cap (fs.set m { f with row := mText a.toNat }) ∧ w.grownBy (w1.setCell ⟨g, m * 5, none⟩ (.string (mText a.toNat))) (some g)) := ⟨hO1', (HG.out.trans (grown_of_below hb1 _)).trans (grown_set _ _ _ _)⟩
      clear hO1 hO1' hb1
      go_wp2_with fail
      refine (markText_any (a + 1) _ (by omega) (by omega)).mono ?_
      rintro e w2 ⟨rfl, hb2⟩
      have hO2 := H1.out.1.below hb2 H1.out.1.lt.2
      have c2 := (hO2.at m _ (by simp [HF.out.2]; rfl)).2.1
      simp only [Nat.zero_add] at c2
      have z2 := fun j => World.ownsRow.frozenAt hO2 j
      have H2 : Hid (OwnC (w2.setCell ⟨g, m * 5 + 1, none⟩ (.string (mText (a + 1).toNat))) base g cap (fs.set m { f with row := mText a.toNat, fam := mText (a + 1).toNat }) ∧ w.grownBy (w2.setCell ⟨g, m * 5 + 1, none⟩ (.string (mText (a + 1).toNat))) (some g)) :=
        ⟨hO2.upd HF.out.2 (by omega) rfl, (H1.out.2.trans (grown_of_below hb2 _)).trans (grown_set _ _ _ _)⟩
      clear hO2 hb2 c1 z1
      go_wp2_with fail
      refine (markText_any (a + 1 + 1) _ (by omega) (by omega)).mono ?_
      rintro e w3 ⟨rfl, hb3⟩
      have hO3 := H2.out.1.below hb3 H2.out.1.lt.2
      obtain ⟨_, _, c3, c4, _⟩ := hO3.at m _ (by simp [HF.out.2]; rfl)
      simp only [Nat.zero_add] at c3 c4
      have z3 := fun j => World.ownsRow.frozenAt hO3 j
      have H3 : Hid (OwnC w3 base g cap (fs.set m { f with row := mText a.toNat, fam := mText (a + 1).toNat }) ∧ w.grownBy w3 (some g)) := ⟨hO3, H2.out.2.trans (grown_of_below hb3 _)⟩
      clear hO3 hb3 c2 z2
      go_wp2_with fail
      refine (markText_any (a + 1 + 1 + 1 + 1) _ (by omega) (by omega)).mono ?_
      rintro e w4 ⟨rfl, hb4⟩
      have hO3 := (H3.out.1.upd (j := 2) (u := .string (mText (a + 1 + 1).toNat)) (f' := { f with row := mText a.toNat, fam := mText (a + 1).toNat, qual := mText (a + 1 + 1).toNat }) HF.out.2 (by omega) rfl).upd (j := 3) (u := .int .u64 (a + 1 + 1 + 1))
        (f' := { f with row := mText a.toNat, fam := mText (a + 1).toNat, qual := mText (a + 1 + 1).toNat, ts := a + 1 + 1 + 1 }) HF.out.2 (by omega) rfl
      have hO4 := hO3.below hb4 hO3.lt.2
      have c6 := (hO4.at m _ (by simp [HF.out.2]; rfl)).2.2.2.2
      simp only [Nat.zero_add] at c6
      have z4 := fun j => World.ownsRow.frozenAt hO4 j
      have H4 : Hid (OwnC (w4.setCell ⟨g, m * 5 + 4, none⟩ (.string (mText (a + 1 + 1 + 1 + 1).toNat))) base g cap (fs.set m (mCel a)) ∧ w.grownBy (w4.setCell ⟨g, m * 5 + 4, none⟩ (.string (mText (a + 1 + 1 + 1 + 1).toNat))) (some g)) :=
        ⟨hO4.upd HF.out.2 (by omega) rfl, (((((H3.out.2.trans (grown_set _ _ _ _)).trans (grown_set _ _ _ _))).trans (grown_of_below hb4 _)).trans (grown_set _ _ _ _))⟩
      have HE : Hid (a = k + m * 5) := HR.out.1
      clear hO3 hO4 hb4 c3 c4 z3
      go_wp2_with fail
      refine ⟨⟨m + 1, a + 1 + 1 + 1 + 1 + 1, fs.set m (mCel a), by omega, by go_num, rfl, ?_, H4.out.1, by rw [List.length_set]; exact HR.out.2.2.1, ?_, H4.out.2⟩, ?_⟩
      · go_light
        have := HE.out
        omega
      · go_light
        exact markedC_set HR.out.2.2.2 HF.out.2 (by rw [← HE.out])
      · go_light
        simp [intOf]; omega
    · go_wp2_with fail
      go_ret
      have e1 : m = es.length := by omega
      refine ⟨fs, ?_, HR.out.2.1, HR.out.2.2.1, ?_, HG.out⟩
      · rw [HR.out.1, e1]; rfl
      · rw [← e1]; exact HR.out.2.2.2

set_option maxHeartbeats 2000000 in
theorem heldCellS_core (b off cap : Nat) (es : List Ent) (k : Int) (w : World) (hE : CelsAt w b off es) (hmk : markedC k es es.length) (hB : b < w.heap.size) (h0 : 0 < k) (h1 : k ≤ 2 ^ 30) (hn : es.length ≤ 1048576) :
    Calls Try.prog 17 #[.slice (some ⟨b, off, none⟩) es.length cap, .int .i64 k] w fun e w' =>
      e = .returned (.int .i64 (k + es.length * 5)) ∧ Below w.heap.size w w' := by
  have HE : Hid (CelsAt w b off es ∧ markedC k es es.length) := ⟨hE, hmk⟩
  clear hE hmk
  go_enter Try.func17, Try.ntmps17
  go_wp2
  go_loopw [1, 5] (fun c i wr => ∃ (m : Nat) (a : Int), m ≤ es.length ∧ i = .int .i64 m ∧ c = .int .i64 a ∧ a = k + m * 5 ∧ Below w.heap.size w wr) (fun _ i _ => es.length - (intOf i).toNat)
  case atStart => exact ⟨0, k, Nat.zero_le _, rfl, rfl, by simp, Below.refl _ _⟩
  case round =>
    obtain ⟨m, a, hm, rfl, rfl, ha, hb⟩ := hrel
    have ha0 : 0 < a := by omega
    have ha1 : a ≤ 2 ^ 31 := by omega
    have HA : Hid (a = k + m * 5) := ha
    clear ha
    have hs := hb.size
    by_cases hlt : m < es.length
    · obtain ⟨f, he⟩ : ∃ f, es[m]? = some f := ⟨_, List.getElem?_eq_getElem hlt⟩
      have hf : f.five = (mCel a).five := by
        have h := HE.out.2 m hlt
        rw [he, ← HA.out] at h
        simpa using h
      simp only [Ent.five, List.cons.injEq, Value.string.injEq, Value.int.injEq, and_true, true_and] at hf
      obtain ⟨f1, f2, f3, f4, f5⟩ := hf
      have HM : Hid (es[m]? = some f) := he
      clear he
      have z2 : (m : Int) < (es.length : Int) := by omega
      have hce : ∀ wx, Below w.heap.size w wx → wx.cell? ⟨b, off + m * 5, none⟩ = some (.string (mText a.toNat)) ∧ wx.cell? ⟨b, off + m * 5 + 1, none⟩ = some (.string (mText (a + 1).toNat)) ∧ wx.cell? ⟨b, off + m * 5 + 2, none⟩ = some (.string (mText (a + 1 + 1).toNat)) ∧
          wx.cell? ⟨b, off + m * 5 + 3, none⟩ = some (.int .u64 (a + 1 + 1 + 1)) ∧ wx.cell? ⟨b, off + m * 5 + 4, none⟩ = some (.string (mText (a + 1 + 1 + 1 + 1).toNat)) := by
        intro wx hx
        have h := (HE.out.1.below hx hB) m _ HM.out
        rw [f1, f2, f3, f4, f5] at h
        exact h
      have HC : Hid (∀ wx, Below w.heap.size w wx → wx.cell? ⟨b, off + m * 5, none⟩ = some (.string (mText a.toNat)) ∧ wx.cell? ⟨b, off + m * 5 + 1, none⟩ = some (.string (mText (a + 1).toNat)) ∧ wx.cell? ⟨b, off + m * 5 + 2, none⟩ = some (.string (mText (a + 1 + 1).toNat)) ∧
          wx.cell? ⟨b, off + m * 5 + 3, none⟩ = some (.int .u64 (a + 1 + 1 + 1)) ∧ wx.cell? ⟨b, off + m * 5 + 4, none⟩ = some (.string (mText (a + 1 + 1 + 1 + 1).toNat))) := hce
      clear f1 f2 f3 f4 f5
      clear hce
      have c1 := (HC.out wr hb).1
      go_upto_region 4 with fail
      go_cut [19] (fun s wx => s = .bool false ∧ Below w.heap.size w wx)
      case first =>
        go_region_with (go_at_call 47; refine (markText_in w _ _ ?hB (by omega) (by omega)).mono ?_; (case hB => (repeat (first | assumption | refine Below.drew ?_))); rintro e' w' ⟨rfl, hbb⟩; have cx := (HC.out w' hbb).1)
        all_goals go_wp2_with fail
        all_goals go_meet
        all_goals exact ⟨rfl, by assumption⟩
      case rest =>
      obtain ⟨rfl, h2⟩ := hcut
      clear c1
      obtain ⟨wa, rfl⟩ : ∃ wa : World, wa = wc := ⟨_, rfl⟩
      have c2 := (HC.out wa h2).2.1
      go_upto_region 7 with fail
      go_cut [29] (fun s wx => s = .bool false ∧ Below w.heap.size w wx)
      case first =>
        go_region_with (go_at_call 47; refine (markText_in w _ _ ?hB (by omega) (by omega)).mono ?_; (case hB => (repeat (first | assumption | refine Below.drew ?_))); rintro e' w' ⟨rfl, hbb⟩; have cx := (HC.out w' hbb).2.1)
        all_goals go_wp2_with fail
        all_goals go_meet
        all_goals exact ⟨rfl, by assumption⟩
      case rest =>
      obtain ⟨rfl, h3⟩ := hcut
      clear c2
      obtain ⟨wb, rfl⟩ : ∃ wb : World, wb = wc := ⟨_, rfl⟩
      have c3 := (HC.out wb h3).2.2.1
      go_upto_region 10 with fail
      go_cut [39] (fun s wx => s = .bool false ∧ Below w.heap.size w wx)
      case first =>
        go_region_with (go_at_call 47; refine (markText_in w _ _ ?hB (by omega) (by omega)).mono ?_; (case hB => (repeat (first | assumption | refine Below.drew ?_))); rintro e' w' ⟨rfl, hbb⟩; have cx := (HC.out w' hbb).2.2.1)
        all_goals go_wp2_with fail
        all_goals go_meet
        all_goals exact ⟨rfl, by assumption⟩
      case rest =>
      obtain ⟨rfl, h4⟩ := hcut
      clear c3
      obtain ⟨wd, rfl⟩ : ∃ wd : World, wd = wc := ⟨_, rfl⟩
      have c4 := (HC.out wd h4).2.2.2.1
      have c5 := (HC.out wd h4).2.2.2.2
      go_upto_region 16 with fail
      go_cut [59] (fun s wx => s = .bool false ∧ Below w.heap.size w wx)
      case first =>
        go_region_with (go_at_call 47; refine (markText_in w _ _ ?hB (by omega) (by omega)).mono ?_; (case hB => (repeat (first | assumption | refine Below.drew ?_))); rintro e' w' ⟨rfl, hbb⟩; have cx := (HC.out w' hbb).2.2.2.2)
        all_goals go_wp2_with fail
        all_goals go_meet
        all_goals exact ⟨rfl, by assumption⟩
      case rest =>
      obtain ⟨rfl, h5⟩ := hcut
      clear c4 c5
      go_wp2_with fail
      refine ⟨⟨m + 1, a + 1 + 1 + 1 + 1 + 1, by omega, by go_num, rfl, ?_, h5⟩, ?_⟩
      · go_light
        have := HA.out
        omega
      · go_light
        simp [intOf]; omega
    · go_wp2_with fail
      go_ret
      have e1 : m = es.length := by omega
      refine ⟨?_, hb⟩
      rw [HA.out, e1]; rfl
end Go.Proofs.Ytnncedndlhfdkac

/-
  impl.Replay.
-/
namespace Go.Proofs.Ytnncedndlhfdkac
open Go.ChangeShapes Go.WideShapes Go.ChangeAt Go.RowKit Go.Deep
set_option linter.unusedVariables false
set_option linter.unusedSimpArgs false
set_option maxRecDepth 100000

theorem puts_take {R : List Ent} {k : Nat} {x : Ent} (hx : R[k]? = some x) : puts (R.take (k + 1)) = puts (R.take k) ++ (if x.kind = 0 then [x] else []) := by
  unfold puts
  rw [List.take_add_one, hx, List.filter_append]
  by_cases h : x.kind = 0 <;> simp [h]
theorem puts_take_len (R : List Ent) (k : Nat) : (puts (R.take k)).length ≤ R.length :=
  Nat.le_trans (length_puts _) (by rw [List.length_take]; exact Nat.min_le_right _ _)
set_option maxHeartbeats 4000000 in
theorem implReplay_at (b off cap : Nat) (ws : List Ent) (w : World) (hE : EntsAt w b off ws) (hok : ∀ e ∈ ws, e.ok) (hB : b < w.heap.size) (hl : ws.length ≤ cap) (hcap : cap ≤ maxLen) (hlen : ws.length ≤ 1048576) :
    Calls Try.prog 29 #[.slice (some ⟨b, off, none⟩) ws.length cap] w fun r w' =>
      ∃ (g cp : Nat) (R : List Ent), r = .returned (.slice (some ⟨g, 0, none⟩) (puts R).length cp) ∧ OwnC w' w.heap.size g cp (puts R) ∧ RunOf ws R ∧ Below w.heap.size w w' := by
  obtain ⟨W0, hW0⟩ : ∃ W0 : World, W0 = w.alloc (Obj.cells #[] 69) := ⟨_, rfl⟩
  have hb0 : Below w.heap.size w W0 := by rw [hW0]; exact (Below.refl _ _).alloc (Nat.le_refl _) _
  have hz0 : w.heap.size < W0.heap.size := by rw [hW0]; simp
  have HC0 : Hid (OwnC W0 w.heap.size w.heap.size 0 []) := by show OwnC W0 w.heap.size w.heap.size 0 []; rw [hW0]; exact ownC_new w
  have HO0 : Hid (EntsAt W0 b off ws ∧ (∀ e ∈ ws, e.ok) ∧ b < W0.heap.size ∧ ws.length ≤ cap ∧ cap ≤ maxLen) := ⟨hE.below hb0 hB, hok, by omega, hl, hcap⟩
  clear hE hok hB hl hcap
  go_enter Try.func29, Try.ntmps29
  go_wp2_with fail
  rw [← hW0]
  clear hW0
  refine (implBuild_at b off cap ws _ HO0.out.1 HO0.out.2.1 HO0.out.2.2.1 HO0.out.2.2.2.1 HO0.out.2.2.2.2 hlen).mono ?_
  rintro e w1 ⟨a, n, c, R, rfl, hU, hR, hb1⟩
  have hs1 := hb1.size
  have hRl := runOf_len hR
  have HR : Hid (RunOf ws R) := hR
  have HC1 : Hid (OwnC w1 w.heap.size w.heap.size 0 []) := HC0.out.below hb1 hz0
  have k1 : Below w.heap.size w w1 := hb0.trans (hb1.mono (by omega))
  clear hR
  rcases hU with ⟨hu, hRn⟩ | ⟨g, cp, hu, hO⟩
  · obtain ⟨rfl, rfl, rfl⟩ : a = none ∧ n = 0 ∧ c = 0 := by simpa using hu
    have HN : Hid (R = []) := hRn
    clear hRn hu
    have hfl := runField none 0 0 w1
    go_wp2_with fail
    go_loopw [3, 11] (fun o i wr => o = .slice (some ⟨w.heap.size, 0, none⟩) 0 0 ∧ i = .int .i64 0 ∧ wr = w1) (fun _ i _ => 0)
    case atStart => exact ⟨rfl, rfl, rfl⟩
    case round =>
      obtain ⟨rfl, rfl, rfl⟩ := hrel
      go_wp2_with fail
      go_ret
      refine ⟨w.heap.size, 0, R, ?_, ?_, HR.out, k1⟩
      · rw [HN.out]; rfl
      · rw [HN.out]; exact HC1.out
  · obtain ⟨rfl, rfl, rfl⟩ : a = some ⟨g, 0, none⟩ ∧ n = R.length ∧ c = cp := by simpa using hu
    have HL1 : Hid (OwnE w1 W0.heap.size g c R) := hO
    clear hO hu
    have hfl := runField (some ⟨g, 0, none⟩) R.length c w1
    go_wp2_with fail
    clear hfl
    go_loopw [3, 11] (fun o i wr => ∃ (m g5 cp5 : Nat), m ≤ R.length ∧ i = .int .i64 m ∧ o = .slice (some ⟨g5, 0, none⟩) (puts (R.take m)).length cp5 ∧ OwnC wr w.heap.size g5 cp5 (puts (R.take m)) ∧ OwnE wr W0.heap.size g c R ∧ Below w.heap.size w wr) (fun _ i _ => R.length - (intOf i).toNat)
    case atStart => exact ⟨0, _, 0, Nat.zero_le _, rfl, rfl, HC1.out, HL1.out, k1⟩
    case round =>
      obtain ⟨m, g5, cp5, hm, rfl, rfl, hC, hL, hbm⟩ := hrel
      have HM : Hid (OwnC wr w.heap.size g5 cp5 (puts (R.take m)) ∧ OwnE wr W0.heap.size g c R) := ⟨hC, hL⟩
      have hg5 := hC.lt
      have hgl := hL.lt
      have hne := hC.ne_ent hL
      have hsm := hbm.size
      have htl := puts_take_len R m
      obtain ⟨P, hP⟩ : ∃ P, P = puts (R.take m) := ⟨_, rfl⟩
      have HP : Hid (P = puts (R.take m)) := hP
      rw [← hP] at htl hC ⊢
      clear hP hL
      have HC : Hid (OwnC wr w.heap.size g5 cp5 P) := hC
      clear hC
      by_cases hlt : m < R.length
      · obtain ⟨x, hx⟩ : ∃ x, R[m]? = some x := ⟨_, List.getElem?_eq_getElem hlt⟩
        have HX : Hid (puts (R.take (m + 1)) = P ++ (if x.kind = 0 then [x] else [])) := by show puts (R.take (m + 1)) = P ++ _; rw [HP.out]; exact puts_take hx
        obtain ⟨c0, c1, c2, c3, c4, c5⟩ := HM.out.2.at m x hx
        simp only [Nat.zero_add, Nat.zero_mul] at c0 c1 c2 c3 c4 c5
        clear hx
        have hbv : Below w.heap.size w (wr.alloc (Obj.cells #[.string x.row, .string x.fam, .string x.qual, .int .u64 x.ts, .int .i64 x.kind, .string x.val] 63)) := hbm.alloc hbm.size _
        have hba : Below wr.heap.size wr (wr.alloc (Obj.cells #[.string x.row, .string x.fam, .string x.qual, .int .u64 x.ts, .int .i64 x.kind, .string x.val] 63)) := (Below.refl _ _).alloc (Nat.le_refl _) _
        cases hk : (x.kind == 0)
        · have HE : Hid (puts (R.take (m + 1)) = P) := by
            show puts (R.take (m + 1)) = P
            rw [HX.out, if_neg (by simpa using hk)]; simp
          have HM2 : Hid (OwnC (wr.alloc (Obj.cells #[.string x.row, .string x.fam, .string x.qual, .int .u64 x.ts, .int .i64 x.kind, .string x.val] 63)) w.heap.size g5 cp5 P ∧ OwnE (wr.alloc (Obj.cells #[.string x.row, .string x.fam, .string x.qual, .int .u64 x.ts, .int .i64 x.kind, .string x.val] 63)) W0.heap.size g c R) := ⟨HC.out.below hba hg5.2, HM.out.2.below hba hgl.2⟩
          go_wp2_with fail
          go_roundw
          case rel => exact ⟨m + 1, g5, cp5, by omega, by go_num, by rw [HE.out], by rw [HE.out]; exact HM2.out.1, HM2.out.2, hbv⟩
          case measure => go_light; simp [intOf]; omega
        · have HE : Hid (puts (R.take (m + 1)) = P ++ [x]) := by
            show puts (R.take (m + 1)) = P ++ [x]
            rw [HX.out, if_pos (by simpa using hk)]
          go_wp2_with fail
          refine (implCell_any x _).mono ?_
          rintro e' w3 ⟨rfl, hb3⟩
          have hs3 := hb3.size
          have hsa := hba.size
          have HM3 : Hid (OwnC w3 w.heap.size g5 cp5 P ∧ OwnE w3 W0.heap.size g c R) := ⟨(HC.out.below hba hg5.2).below hb3 (by omega), (HM.out.2.below hba hgl.2).below hb3 (by omega)⟩
          have hbm3 : Below w.heap.size w w3 := hbv.trans (hb3.mono (by omega))
          have hs4 : wr.heap.size ≤ w3.heap.size := by omega
          clear c0 c1 c2 c3 c4 c5 hb3 hba hbv hs3 hsa
          go_wp2_with (at_builtin; refine wpList_append_cel _ rfl _ _ rfl w.heap.size g5 cp5 _ _ P x rfl rfl rfl ?hO ?hc ?hl ?hb ?_)
          case hO => exact HM3.out.1.below ((Below.refl _ _).alloc (Nat.le_refl _) _) (by omega)
          case hc => exact cel_new w3 x
          case hl => omega
          case hb => simp; omega
          intro g' cp' w' hO' hgr
          have HO' : Hid (OwnC w' w.heap.size g' cp' (P ++ [x])) := hO'
          have hb' : Below w.heap.size w w' := (hbm3.alloc hbm3.size _).grown hgr (by simp; omega) (fun j hj => by cases hj; omega)
          have HL' : Hid (OwnE w' W0.heap.size g c R) := OwnE.keptG (HM3.out.2.below ((Below.refl _ _).alloc (Nat.le_refl _) _) (by omega)) hgr (fun q => hne (Option.some.inj q).symm)
          clear hO' hgr
          go_wp2_with fail
          go_roundw
          case rel => exact ⟨m + 1, g', cp', by omega, by go_num, by rw [HE.out]; simp, by rw [HE.out]; exact HO'.out, HL'.out, hb'⟩
          case measure => go_light; simp [intOf]; omega
      · have HT : Hid (P = puts R) := by show P = puts R; rw [HP.out, List.take_of_length_le (by omega)]
        go_wp2_with fail
        go_ret
        refine ⟨g5, cp5, R, ?_, ?_, HR.out, hbm⟩
        · rw [← HT.out]; rfl
        · rw [← HT.out]; exact HC.out
theorem implReplay_any (gx : Nat) (ws : List Ent) (base : Nat) (w : World) (hO : OwnE w base gx ws.length ws) (hok : ∀ e ∈ ws, e.ok) (hlen : ws.length ≤ 1048576) :
    Calls Try.prog 29 #[.slice (some ⟨gx, 0, none⟩) ws.length ws.length] w fun r w' =>
      ∃ (g cp : Nat) (R : List Ent), r = .returned (.slice (some ⟨g, 0, none⟩) (puts R).length cp) ∧ OwnC w' w.heap.size g cp (puts R) ∧ RunOf ws R ∧ Below w.heap.size w w' :=
  implReplay_at gx 0 ws.length ws w hO.at hok hO.lt.2 hO.caps.1 hO.caps.2 hlen
end Go.Proofs.Ytnncedndlhfdkac

/-
  The law FnRuns.
-/
namespace Go.Proofs.Ytnncedndlhfdkac.fnRuns
open Go.ChangeShapes Go.WideShapes Go.ChangeAt Go.RowKit Go.Deep
set_option linter.unusedVariables false
set_option linter.unusedSimpArgs false
set_option maxRecDepth 100000

theorem own : ownKnob Try.prog.godebug = none := by kernel_rfl
theorem laidOut : laidOutB Try.prog = true := by kernel_rfl

theorem lifted (os : Os) (started : os.Started) (H : Type) (enc : TypeId × Value → H) :
    ReturnsInHanded {} Try.checked os 6 .any (Rows.fnRunsSpec.pre6 enc Try.prog Try.f6 Rows.fnRunsRow.domain false) (Rows.fnRunsSpec.post enc Try.prog Try.f6 false true false false) := by
  refine returnsInHanded_of_change (C := Try.checked) own started (by kernel_rfl) Try.func6
    (ChangeSpec.witness6 (enc := enc) (C := Try.checked) false ⟨#[], #[.slice none 0 0, .slice none 0 0], []⟩ 8 (by kernel_rfl) (by kernel_rfl) (by kernel_rfl) (by kernel_rfl)) ?_
  intro W base args ds gs before hval0 hW hcnd _
  have hval : ∀ (j : Nat) t v, Try.f6.params[j]? = some t → args[j]? = some v → Value.okWide Try.prog W .any base t v := hval0
  have hW' := hW
  obtain ⟨p, q, hA0, hV, rfl, hfz, hnd⟩ := hW
  have hA : DataW.TrodAll enc Try.prog W 0 (fun _ => true) true Try.f6.params.toList args.toList ds p := hA0
  rw [Try.params6] at hA hval
  obtain ⟨v0, vs0, d0, ds0, p0, q0, hargs, rfl, rfl, h0, r0⟩ := trodAll_cons hA
  obtain ⟨v1, vs1, d1, ds1, p1, q1, rfl, rfl, rfl, h1, r1⟩ := trodAll_cons r0
  obtain ⟨rfl, rfl, rfl⟩ := trodAll_nil r1
  obtain rfl : args = #[v0, v1] := by cases args; simp_all
  obtain ⟨rfl, rfl⟩ := trodVars_none hV
  have k0 := h0
  have k1 := h1
  have lt0 : ∀ x ∈ p0, x.block < W.heap.size := by obtain ⟨m, hm⟩ := k0; exact DataW.trod_lt m _ _ _ hm
  have lt1 : ∀ x ∈ p1, x.block < W.heap.size := by obtain ⟨m, hm⟩ := k1; exact DataW.trod_lt m _ _ _ hm
  obtain ⟨n, hin⟩ : ∃ n, BytesIn W v0 n := by
    obtain ⟨a0, len0, cap0, rfl⟩ := okWide_slice Try.underlying45 (hval 0 45 v0 rfl rfl)
    obtain ⟨fuel, hf⟩ := h0
    exact bytes_of_trod (by simpa [Value.cells] using hf) lt0
  obtain ⟨m, hin1⟩ : ∃ m, BytesIn W v1 m := by
    obtain ⟨a0, len0, cap0, rfl⟩ := okWide_slice Try.underlying45 (hval 1 45 v1 rfl rfl)
    obtain ⟨fuel, hf⟩ := h1
    exact bytes_of_trod (by simpa [Value.cells] using hf) lt1
  clear hA0 hval0
  refine (runsWalk (fun b off cap ws w => implBuild_at b off cap ws w) (fun b off cap ws w => implReplay_at b off cap ws w) v0 n v1 m W hin hin1).mono fun e W' ⟨he, bel⟩ => ?_
  subst he
  exact ⟨_, rfl, _, _, _, [], _, [], hW', trodAll_mk1 (shut_bool Try.underlying4 _), (trodAll_cons_mk (Below.trod laidOut (by kernel_rfl) (of_decide_eq_true (by kernel_rfl)) k0 bel lt0) (trodAll_cons_mk (Below.trod laidOut (by kernel_rfl) (of_decide_eq_true (by kernel_rfl)) k1 bel lt1) trodAll_mk0)), rfl, bel.frame _, fun h => by cases h⟩

theorem over : Rows.fnRunsRow.holds Try.pinned (OpenSpec.ofChange Rows.fnRunsSpec) :=
  OpenClaim.holds_of_wide 6 Try.f6 rfl rfl rfl rfl rfl rfl rfl ⟨rfl, rfl, rfl, rfl, rfl⟩ rfl rfl rfl rfl rfl (by kernel_rfl) Try.func6 (by kernel_rfl)
    (of_decide_eq_true (by kernel_rfl)) (by unfold Func.isWrapper; first | (rw [if_pos (by decide +kernel)]; kernel_rfl) | (rw [if_neg (by decide +kernel)]; exact ⟨rfl, rfl⟩))
    (fun os started H enc _ => lifted os started H enc)

end Go.Proofs.Ytnncedndlhfdkac.fnRuns
namespace Go.Proofs.Ytnncedndlhfdkac
theorem fnRuns_holds : Rows.FnRunsSaid := fnRuns.over
#print axioms fnRuns_holds
end Go.Proofs.Ytnncedndlhfdkac

