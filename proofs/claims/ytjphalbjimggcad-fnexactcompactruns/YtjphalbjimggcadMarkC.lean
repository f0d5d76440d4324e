/-
  The marks that a law lays into rows of cells and looks for.
-/
import Derived.Test.YtjphalbjimggcadCel
import Derived.Test.YtjphalbjimggcadHeld
namespace Go.Proofs.Ytjphalbjimggcad
open Go.ChangeShapes Go.WideShapes Go.ChangeAt Go.RowKit Go.Deep
set_option linter.unusedVariables false
set_option linter.unusedSimpArgs false

/-- The cell that the marks from 'k' on make. -/
def mCel (k : Int) : Ent := ⟨mText k.toNat, mText (k + 1).toNat, mText (k + 1 + 1).toNat, k + 1 + 1 + 1, 0, mText (k + 1 + 1 + 1 + 1).toNat⟩
def markedC (k : Int) (es : List Ent) (i : Nat) : Prop := ∀ j : Nat, j < i → (es[j]?.map Ent.five) = some (mCel (k + j * 5)).five
theorem markedC_set {k : Int} {fs : List Ent} {m : Nat} {e : Ent} (h : markedC k fs m) (hm : m < fs.length) (he : e.five = (mCel (k + m * 5)).five) : markedC k (fs.set m e) (m + 1) := by
  intro j hj
  by_cases e1 : j = m
  · subst e1; simp [hm]; simpa using he
  · rw [List.getElem?_set_ne (by omega)]; exact h j (by omega)

set_option maxHeartbeats 1000000 in
theorem markCellS_core (base g cap : Nat) (es : List Ent) (k : Int) (w : World) (hO : OwnC w base g cap es) (h0 : 0 < k) (h1 : k ≤ 2 ^ 30) (hn : es.length ≤ 1048576) :
    Calls Try.prog 15 #[.slice (some ⟨g, 0, none⟩) es.length cap, .int .i64 k] w fun e w' =>
      ∃ fs, e = .returned (.int .i64 (k + es.length * 5)) ∧ OwnC w' base g cap fs ∧ fs.length = es.length ∧ markedC k fs es.length ∧ w.grownBy w' (some g) := by
  have HO : Hid (OwnC w base g cap es) := hO
  clear hO
  go_enter Try.func15, Try.ntmps15
  go_wp2
  go_loopw [1, 5] (fun c i wr => ∃ (m : Nat) (a : Int) (fs : List Ent), m ≤ es.length ∧ i = .int .i64 m ∧ c = .int .i64 a ∧ a = k + m * 5 ∧ OwnC wr base g cap fs ∧ fs.length = es.length ∧ markedC k fs m ∧ w.grownBy wr (some g)) (fun _ i _ => es.length - (intOf i).toNat)
  case atStart => exact ⟨0, k, es, Nat.zero_le _, rfl, rfl, by simp, HO.out, rfl, fun j hj => by omega, grown_of_below (Below.refl _ _) _⟩
  case round =>
    obtain ⟨m, a, fs, hm, rfl, rfl, ha, hO, hfl, hmk, hgr⟩ := hrel
    have HR : Hid (a = k + m * 5 ∧ OwnC wr base g cap fs ∧ fs.length = es.length ∧ markedC k fs m) := ⟨ha, hO, hfl, hmk⟩
    have ha0 : 0 < a := by omega
    have ha1 : a ≤ 2 ^ 31 := by omega
    have HG : Hid (w.grownBy wr (some g)) := hgr
    clear hO hfl hmk ha hgr
    by_cases hlt : m < es.length
    · obtain ⟨f, hf⟩ : ∃ f, fs[m]? = some f := ⟨_, List.getElem?_eq_getElem (by rw [HR.out.2.2.1]; exact hlt)⟩
      have HF : Hid (fs[m]? = some f ∧ m < fs.length) := ⟨hf, by rw [HR.out.2.2.1]; exact hlt⟩
      clear hf
      go_wp2_with fail
      refine (markText_any a _ (by omega) (by omega)).mono ?_
      rintro e w1 ⟨rfl, hb1⟩
      have hO1 := HR.out.2.1.below hb1 HR.out.2.1.lt.2
      have c1 := (hO1.at m f HF.out.1).1
      simp only [Nat.zero_add] at c1
      have z1 := fun j => World.ownsRow.frozenAt hO1 j
      have hO1' := hO1.set m 0 f { f with row := mText a.toNat } (.string (mText a.toNat)) HF.out.1 (by omega) rfl
      have H1 : Hid (OwnC (w1.setCell ⟨g, m * 5, none⟩ (.string (mText a.toNat))) base g cap (fs.set m { f with row := mText a.toNat }) ∧ w.grownBy (w1.setCell ⟨g, m * 5, none⟩ (.string (mText a.toNat))) (some g)) := ⟨hO1', (HG.out.trans (grown_of_below hb1 _)).trans (grown_set _ _ _ _)⟩
      clear hO1 hO1' hb1
      go_wp2_with fail
      refine (markText_any (a + 1) _ (by omega) (by omega)).mono ?_
      rintro e w2 ⟨rfl, hb2⟩
      have hO2 := H1.out.1.below hb2 H1.out.1.lt.2
      have c2 := (hO2.at m _ (by simp [HF.out.2]; rfl)).2.1
      simp only [Nat.zero_add] at c2
      have z2 := fun j => World.ownsRow.frozenAt hO2 j
      have H2 : Hid (OwnC (w2.setCell ⟨g, m * 5 + 1, none⟩ (.string (mText (a + 1).toNat))) base g cap (fs.set m { f with row := mText a.toNat, fam := mText (a + 1).toNat }) ∧ w.grownBy (w2.setCell ⟨g, m * 5 + 1, none⟩ (.string (mText (a + 1).toNat))) (some g)) :=
        ⟨hO2.upd HF.out.2 (by omega) rfl, (H1.out.2.trans (grown_of_below hb2 _)).trans (grown_set _ _ _ _)⟩
      clear hO2 hb2 c1 z1
      go_wp2_with fail
      refine (markText_any (a + 1 + 1) _ (by omega) (by omega)).mono ?_
      rintro e w3 ⟨rfl, hb3⟩
      have hO3 := H2.out.1.below hb3 H2.out.1.lt.2
      obtain ⟨_, _, c3, c4, _⟩ := hO3.at m _ (by simp [HF.out.2]; rfl)
      simp only [Nat.zero_add] at c3 c4
      have z3 := fun j => World.ownsRow.frozenAt hO3 j
      have H3 : Hid (OwnC w3 base g cap (fs.set m { f with row := mText a.toNat, fam := mText (a + 1).toNat }) ∧ w.grownBy w3 (some g)) := ⟨hO3, H2.out.2.trans (grown_of_below hb3 _)⟩
      clear hO3 hb3 c2 z2
      go_wp2_with fail
      refine (markText_any (a + 1 + 1 + 1 + 1) _ (by omega) (by omega)).mono ?_
      rintro e w4 ⟨rfl, hb4⟩
      have hO3 := (H3.out.1.upd (j := 2) (u := .string (mText (a + 1 + 1).toNat)) (f' := { f with row := mText a.toNat, fam := mText (a + 1).toNat, qual := mText (a + 1 + 1).toNat }) HF.out.2 (by omega) rfl).upd (j := 3) (u := .int .u64 (a + 1 + 1 + 1))
        (f' := { f with row := mText a.toNat, fam := mText (a + 1).toNat, qual := mText (a + 1 + 1).toNat, ts := a + 1 + 1 + 1 }) HF.out.2 (by omega) rfl
      have hO4 := hO3.below hb4 hO3.lt.2
      have c6 := (hO4.at m _ (by simp [HF.out.2]; rfl)).2.2.2.2
      simp only [Nat.zero_add] at c6
      have z4 := fun j => World.ownsRow.frozenAt hO4 j
      have H4 : Hid (OwnC (w4.setCell ⟨g, m * 5 + 4, none⟩ (.string (mText (a + 1 + 1 + 1 + 1).toNat))) base g cap (fs.set m (mCel a)) ∧ w.grownBy (w4.setCell ⟨g, m * 5 + 4, none⟩ (.string (mText (a + 1 + 1 + 1 + 1).toNat))) (some g)) :=
        ⟨hO4.upd HF.out.2 (by omega) rfl, (((((H3.out.2.trans (grown_set _ _ _ _)).trans (grown_set _ _ _ _))).trans (grown_of_below hb4 _)).trans (grown_set _ _ _ _))⟩
      have HE : Hid (a = k + m * 5) := HR.out.1
      clear hO3 hO4 hb4 c3 c4 z3
      go_wp2_with fail
      refine ⟨⟨m + 1, a + 1 + 1 + 1 + 1 + 1, fs.set m (mCel a), by omega, by go_num, rfl, ?_, H4.out.1, by rw [List.length_set]; exact HR.out.2.2.1, ?_, H4.out.2⟩, ?_⟩
      · go_light
        have := HE.out
        omega
      · go_light
        exact markedC_set HR.out.2.2.2 HF.out.2 (by rw [← HE.out])
      · go_light
        simp [intOf]; omega
    · go_wp2_with fail
      go_ret
      have e1 : m = es.length := by omega
      refine ⟨fs, ?_, HR.out.2.1, HR.out.2.2.1, ?_, HG.out⟩
      · rw [HR.out.1, e1]; rfl
      · rw [← e1]; exact HR.out.2.2.2

set_option maxHeartbeats 2000000 in
theorem heldCellS_core (b off cap : Nat) (es : List Ent) (k : Int) (w : World) (hE : CelsAt w b off es) (hmk : markedC k es es.length) (hB : b < w.heap.size) (h0 : 0 < k) (h1 : k ≤ 2 ^ 30) (hn : es.length ≤ 1048576) :
    Calls Try.prog 16 #[.slice (some ⟨b, off, none⟩) es.length cap, .int .i64 k] w fun e w' =>
      e = .returned (.int .i64 (k + es.length * 5)) ∧ Below w.heap.size w w' := by
  have HE : Hid (CelsAt w b off es ∧ markedC k es es.length) := ⟨hE, hmk⟩
  clear hE hmk
  go_enter Try.func16, Try.ntmps16
  go_wp2
  go_loopw [1, 5] (fun c i wr => ∃ (m : Nat) (a : Int), m ≤ es.length ∧ i = .int .i64 m ∧ c = .int .i64 a ∧ a = k + m * 5 ∧ Below w.heap.size w wr) (fun _ i _ => es.length - (intOf i).toNat)
  case atStart => exact ⟨0, k, Nat.zero_le _, rfl, rfl, by simp, Below.refl _ _⟩
  case round =>
    obtain ⟨m, a, hm, rfl, rfl, ha, hb⟩ := hrel
    have ha0 : 0 < a := by omega
    have ha1 : a ≤ 2 ^ 31 := by omega
    have HA : Hid (a = k + m * 5) := ha
    clear ha
    have hs := hb.size
    by_cases hlt : m < es.length
    · obtain ⟨f, he⟩ : ∃ f, es[m]? = some f := ⟨_, List.getElem?_eq_getElem hlt⟩
      have hf : f.five = (mCel a).five := by
        have h := HE.out.2 m hlt
        rw [he, ← HA.out] at h
        simpa using h
      simp only [Ent.five, List.cons.injEq, Value.string.injEq, Value.int.injEq, and_true, true_and] at hf
      obtain ⟨f1, f2, f3, f4, f5⟩ := hf
      have HM : Hid (es[m]? = some f) := he
      clear he
      have z2 : (m : Int) < (es.length : Int) := by omega
      have hce : ∀ wx, Below w.heap.size w wx → wx.cell? ⟨b, off + m * 5, none⟩ = some (.string (mText a.toNat)) ∧ wx.cell? ⟨b, off + m * 5 + 1, none⟩ = some (.string (mText (a + 1).toNat)) ∧ wx.cell? ⟨b, off + m * 5 + 2, none⟩ = some (.string (mText (a + 1 + 1).toNat)) ∧
          wx.cell? ⟨b, off + m * 5 + 3, none⟩ = some (.int .u64 (a + 1 + 1 + 1)) ∧ wx.cell? ⟨b, off + m * 5 + 4, none⟩ = some (.string (mText (a + 1 + 1 + 1 + 1).toNat)) := by
        intro wx hx
        have h := (HE.out.1.below hx hB) m _ HM.out
        rw [f1, f2, f3, f4, f5] at h
        exact h
      have HC : Hid (∀ wx, Below w.heap.size w wx → wx.cell? ⟨b, off + m * 5, none⟩ = some (.string (mText a.toNat)) ∧ wx.cell? ⟨b, off + m * 5 + 1, none⟩ = some (.string (mText (a + 1).toNat)) ∧ wx.cell? ⟨b, off + m * 5 + 2, none⟩ = some (.string (mText (a + 1 + 1).toNat)) ∧
          wx.cell? ⟨b, off + m * 5 + 3, none⟩ = some (.int .u64 (a + 1 + 1 + 1)) ∧ wx.cell? ⟨b, off + m * 5 + 4, none⟩ = some (.string (mText (a + 1 + 1 + 1 + 1).toNat))) := hce
      clear f1 f2 f3 f4 f5
      clear hce
      have c1 := (HC.out wr hb).1
      go_upto_region 4 with fail
      go_cut [19] (fun s wx => s = .bool false ∧ Below w.heap.size w wx)
      case first =>
        go_region_with (go_at_call 43; refine (markText_in w _ _ ?hB (by omega) (by omega)).mono ?_; (case hB => (repeat (first | assumption | refine Below.drew ?_))); rintro e' w' ⟨rfl, hbb⟩; have cx := (HC.out w' hbb).1)
        all_goals go_wp2_with fail
        all_goals go_meet
        all_goals exact ⟨rfl, by assumption⟩
      case rest =>
      obtain ⟨rfl, h2⟩ := hcut
      clear c1
      obtain ⟨wa, rfl⟩ : ∃ wa : World, wa = wc := ⟨_, rfl⟩
      have c2 := (HC.out wa h2).2.1
      go_upto_region 7 with fail
      go_cut [29] (fun s wx => s = .bool false ∧ Below w.heap.size w wx)
      case first =>
        go_region_with (go_at_call 43; refine (markText_in w _ _ ?hB (by omega) (by omega)).mono ?_; (case hB => (repeat (first | assumption | refine Below.drew ?_))); rintro e' w' ⟨rfl, hbb⟩; have cx := (HC.out w' hbb).2.1)
        all_goals go_wp2_with fail
        all_goals go_meet
        all_goals exact ⟨rfl, by assumption⟩
      case rest =>
      obtain ⟨rfl, h3⟩ := hcut
      clear c2
      obtain ⟨wb, rfl⟩ : ∃ wb : World, wb = wc := ⟨_, rfl⟩
      have c3 := (HC.out wb h3).2.2.1
      go_upto_region 10 with fail
      go_cut [39] (fun s wx => s = .bool false ∧ Below w.heap.size w wx)
      case first =>
        go_region_with (go_at_call 43; refine (markText_in w _ _ ?hB (by omega) (by omega)).mono ?_; (case hB => (repeat (first | assumption | refine Below.drew ?_))); rintro e' w' ⟨rfl, hbb⟩; have cx := (HC.out w' hbb).2.2.1)
        all_goals go_wp2_with fail
        all_goals go_meet
        all_goals exact ⟨rfl, by assumption⟩
      case rest =>
      obtain ⟨rfl, h4⟩ := hcut
      clear c3
      obtain ⟨wd, rfl⟩ : ∃ wd : World, wd = wc := ⟨_, rfl⟩
      have c4 := (HC.out wd h4).2.2.2.1
      have c5 := (HC.out wd h4).2.2.2.2
      go_upto_region 16 with fail
      go_cut [59] (fun s wx => s = .bool false ∧ Below w.heap.size w wx)
      case first =>
        go_region_with (go_at_call 43; refine (markText_in w _ _ ?hB (by omega) (by omega)).mono ?_; (case hB => (repeat (first | assumption | refine Below.drew ?_))); rintro e' w' ⟨rfl, hbb⟩; have cx := (HC.out w' hbb).2.2.2.2)
        all_goals go_wp2_with fail
        all_goals go_meet
        all_goals exact ⟨rfl, by assumption⟩
      case rest =>
      obtain ⟨rfl, h5⟩ := hcut
      clear c4 c5
      go_wp2_with fail
      refine ⟨⟨m + 1, a + 1 + 1 + 1 + 1 + 1, by omega, by go_num, rfl, ?_, h5⟩, ?_⟩
      · go_light
        have := HA.out
        omega
      · go_light
        simp [intOf]; omega
    · go_wp2_with fail
      go_ret
      have e1 : m = es.length := by omega
      refine ⟨?_, hb⟩
      rw [HA.out, e1]; rfl
end Go.Proofs.Ytjphalbjimggcad
