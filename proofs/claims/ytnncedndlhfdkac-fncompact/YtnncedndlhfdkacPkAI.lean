import Derived.Deep.DeepCutAuto
import Derived.Deep.RegionWith
import Derived.Maps.RangeWalk
import Derived.Maps.OwnSet
import Derived.Maps.OwnOps
import Derived.DeepKeys4
import Derived.Maps.AppendAt
import Derived.Laws.IdiomRangeMap
import Derived.Test.YtnncedndlhfdkacPkAA
import Derived.Test.YtnncedndlhfdkacPkAG
import Derived.Test.YtnncedndlhfdkacPkAE
import Derived.Test.YtnncedndlhfdkacPkAH
import Derived.Test.YtnncedndlhfdkacPkAD
/-
  The marks, looked for.
-/
namespace Go.Proofs.Ytnncedndlhfdkac
open Go.ChangeShapes Go.WideShapes Go.ChangeAt Go.RowKit Go.Deep
set_option linter.unusedVariables false

theorem markText_in (W0 : World) (a : Int) (w : World) (hb : Below W0.heap.size W0 w) (h0 : 0 < a) (h1 : a ≤ 2 ^ 40) :
    Calls Try.prog 47 #[.int .i64 a] w fun e w' => e = .returned (.string (mText a.toNat)) ∧ Below W0.heap.size W0 w' := by
  refine (markText_any a w h0 h1).mono ?_
  rintro e w' ⟨he, hb'⟩
  exact ⟨he, hb.trans (hb'.mono hb.size)⟩

set_option maxHeartbeats 2000000 in
theorem heldEntryS_core (b off cap : Nat) (es : List Ent) (k : Int) (w : World) (hE : EntsAt w b off es) (hmk : marked k es es.length) (hB : b < w.heap.size) (h0 : 0 < k) (h1 : k ≤ 2 ^ 30) (hn : es.length ≤ 1048576) :
    Calls Try.prog 51 #[.slice (some ⟨b, off, none⟩) es.length cap, .int .i64 k] w fun e w' =>
      e = .returned (.int .i64 (k + es.length * 6)) ∧ Below w.heap.size w w' := by
  have HE : Hid (EntsAt w b off es ∧ marked k es es.length) := ⟨hE, hmk⟩
  clear hE hmk
  go_enter Try.func51, Try.ntmps51
  go_wp2
  go_loopw [1, 5] (fun c i wr => ∃ (m : Nat) (a : Int), m ≤ es.length ∧ i = .int .i64 m ∧ c = .int .i64 a ∧ a = k + m * 6 ∧ Below w.heap.size w wr) (fun _ i _ => es.length - (intOf i).toNat)
  case atStart => exact ⟨0, k, Nat.zero_le _, rfl, rfl, by simp, Below.refl _ _⟩
  case round =>
    obtain ⟨m, a, hm, rfl, rfl, ha, hb⟩ := hrel
    have ha0 : 0 < a := by omega
    have ha1 : a ≤ 2 ^ 31 := by omega
    have HA : Hid (a = k + m * 6) := ha
    clear ha
    have hs := hb.size
    by_cases hlt : m < es.length
    · have he : es[m]? = some (mEnt a) := by rw [HA.out]; exact HE.out.2 m hlt
      have HM : Hid (es[m]? = some (mEnt a)) := he
      clear he
      have z2 : (m : Int) < (es.length : Int) := by omega
      have hce : ∀ wx, Below w.heap.size w wx → wx.cell? ⟨b, off + m * 6, none⟩ = some (.string (mText a.toNat)) ∧ wx.cell? ⟨b, off + m * 6 + 1, none⟩ = some (.string (mText (a + 1).toNat)) ∧ wx.cell? ⟨b, off + m * 6 + 2, none⟩ = some (.string (mText (a + 1 + 1).toNat)) ∧
          wx.cell? ⟨b, off + m * 6 + 3, none⟩ = some (.int .u64 (a + 1 + 1 + 1)) ∧ wx.cell? ⟨b, off + m * 6 + 4, none⟩ = some (.int .i64 (a + 1 + 1 + 1 + 1)) ∧ wx.cell? ⟨b, off + m * 6 + 5, none⟩ = some (.string (mText (a + 1 + 1 + 1 + 1 + 1).toNat)) :=
        fun wx hx => (HE.out.1.below hx hB) m _ HM.out
      have HC : Hid (∀ wx, Below w.heap.size w wx → wx.cell? ⟨b, off + m * 6, none⟩ = some (.string (mText a.toNat)) ∧ wx.cell? ⟨b, off + m * 6 + 1, none⟩ = some (.string (mText (a + 1).toNat)) ∧ wx.cell? ⟨b, off + m * 6 + 2, none⟩ = some (.string (mText (a + 1 + 1).toNat)) ∧
          wx.cell? ⟨b, off + m * 6 + 3, none⟩ = some (.int .u64 (a + 1 + 1 + 1)) ∧ wx.cell? ⟨b, off + m * 6 + 4, none⟩ = some (.int .i64 (a + 1 + 1 + 1 + 1)) ∧ wx.cell? ⟨b, off + m * 6 + 5, none⟩ = some (.string (mText (a + 1 + 1 + 1 + 1 + 1).toNat))) := hce
      clear hce
      have c1 := (HC.out wr hb).1
      go_upto_region 4 with fail
      go_cut [19] (fun s wx => s = .bool false ∧ Below w.heap.size w wx)
      case first =>
        go_region_with (go_at_call 47; refine (markText_in w _ _ ?hB (by omega) (by omega)).mono ?_; (case hB => (repeat (first | assumption | refine Below.drew ?_))); rintro e' w' ⟨rfl, hbb⟩; have cx := (HC.out w' hbb).1)
        all_goals go_wp2_with fail
        all_goals go_meet
        all_goals exact ⟨rfl, by assumption⟩
      case rest =>
      obtain ⟨rfl, h2⟩ := hcut
      clear c1
      obtain ⟨wa, rfl⟩ : ∃ wa : World, wa = wc := ⟨_, rfl⟩
      have c2 := (HC.out wa h2).2.1
      go_upto_region 7 with fail
      go_cut [29] (fun s wx => s = .bool false ∧ Below w.heap.size w wx)
      case first =>
        go_region_with (go_at_call 47; refine (markText_in w _ _ ?hB (by omega) (by omega)).mono ?_; (case hB => (repeat (first | assumption | refine Below.drew ?_))); rintro e' w' ⟨rfl, hbb⟩; have cx := (HC.out w' hbb).2.1)
        all_goals go_wp2_with fail
        all_goals go_meet
        all_goals exact ⟨rfl, by assumption⟩
      case rest =>
      obtain ⟨rfl, h3⟩ := hcut
      clear c2
      obtain ⟨wb, rfl⟩ : ∃ wb : World, wb = wc := ⟨_, rfl⟩
      have c3 := (HC.out wb h3).2.2.1
      go_upto_region 10 with fail
      go_cut [39] (fun s wx => s = .bool false ∧ Below w.heap.size w wx)
      case first =>
        go_region_with (go_at_call 47; refine (markText_in w _ _ ?hB (by omega) (by omega)).mono ?_; (case hB => (repeat (first | assumption | refine Below.drew ?_))); rintro e' w' ⟨rfl, hbb⟩; have cx := (HC.out w' hbb).2.2.1)
        all_goals go_wp2_with fail
        all_goals go_meet
        all_goals exact ⟨rfl, by assumption⟩
      case rest =>
      obtain ⟨rfl, h4⟩ := hcut
      clear c3
      obtain ⟨wd, rfl⟩ : ∃ wd : World, wd = wc := ⟨_, rfl⟩
      have c4 := (HC.out wd h4).2.2.2.1
      have c5 := (HC.out wd h4).2.2.2.2.1
      have c6 := (HC.out wd h4).2.2.2.2.2
      go_upto_region 19 with fail
      go_cut [68] (fun s wx => s = .bool false ∧ Below w.heap.size w wx)
      case first =>
        go_region_with (go_at_call 47; refine (markText_in w _ _ ?hB (by omega) (by omega)).mono ?_; (case hB => (repeat (first | assumption | refine Below.drew ?_))); rintro e' w' ⟨rfl, hbb⟩; have cx := (HC.out w' hbb).2.2.2.2.2)
        all_goals go_wp2_with fail
        all_goals go_meet
        all_goals exact ⟨rfl, by assumption⟩
      case rest =>
      obtain ⟨rfl, h5⟩ := hcut
      clear c4 c5 c6
      go_wp2_with fail
      refine ⟨⟨m + 1, a + 1 + 1 + 1 + 1 + 1 + 1, by omega, by go_num, rfl, ?_, h5⟩, ?_⟩
      · go_light
        have := HA.out
        omega
      · go_light
        simp [intOf]; omega
    · go_wp2_with fail
      go_ret
      have e1 : m = es.length := by omega
      refine ⟨?_, hb⟩
      rw [HA.out, e1]; rfl
end Go.Proofs.Ytnncedndlhfdkac

/-
  The marks that a law lays into rows of cells and looks for.
-/
namespace Go.Proofs.Ytnncedndlhfdkac
open Go.ChangeShapes Go.WideShapes Go.ChangeAt Go.RowKit Go.Deep
set_option linter.unusedVariables false
set_option linter.unusedSimpArgs false

/-- The cell that the marks from 'k' on make. -/
def mCel (k : Int) : Ent := ⟨mText k.toNat, mText (k + 1).toNat, mText (k + 1 + 1).toNat, k + 1 + 1 + 1, 0, mText (k + 1 + 1 + 1 + 1).toNat⟩
def markedC (k : Int) (es : List Ent) (i : Nat) : Prop := ∀ j : Nat, j < i → (es[j]?.map Ent.five) = some (mCel (k + j * 5)).five
theorem markedC_set {k : Int} {fs : List Ent} {m : Nat} {e : Ent} (h : markedC k fs m) (hm : m < fs.length) (he : e.five = (mCel (k + m * 5)).five) : markedC k (fs.set m e) (m + 1) := by
  intro j hj
  by_cases e1 : j = m
  · subst e1; simp [hm]; simpa using he
  · rw [List.getElem?_set_ne (by omega)]; exact h j (by omega)

set_option maxHeartbeats 1000000 in
theorem markCellS_core (base g cap : Nat) (es : List Ent) (k : Int) (w : World) (hO : OwnC w base g cap es) (h0 : 0 < k) (h1 : k ≤ 2 ^ 30) (hn : es.length ≤ 1048576) :
    Calls Try.prog 16 #[.slice (some ⟨g, 0, none⟩) es.length cap, .int .i64 k] w fun e w' =>
      ∃ fs, e = .returned (.int .i64 (k + es.length * 5)) ∧ OwnC w' base g cap fs ∧ fs.length = es.length ∧ markedC k fs es.length ∧ w.grownBy w' (some g) := by
  have HO : Hid (OwnC w base g cap es) := hO
  clear hO
  go_enter Try.func16, Try.ntmps16
  go_wp2
  go_loopw [1, 5] (fun c i wr => ∃ (m : Nat) (a : Int) (fs : List Ent), m ≤ es.length ∧ i = .int .i64 m ∧ c = .int .i64 a ∧ a = k + m * 5 ∧ OwnC wr base g cap fs ∧ fs.length = es.length ∧ markedC k fs m ∧ w.grownBy wr (some g)) (fun _ i _ => es.length - (intOf i).toNat)
  case atStart => exact ⟨0, k, es, Nat.zero_le _, rfl, rfl, by simp, HO.out, rfl, fun j hj => by omega, grown_of_below (Below.refl _ _) _⟩
  case round =>
    obtain ⟨m, a, fs, hm, rfl, rfl, ha, hO, hfl, hmk, hgr⟩ := hrel
    have HR : Hid (a = k + m * 5 ∧ OwnC wr base g cap fs ∧ fs.length = es.length ∧ markedC k fs m) := ⟨ha, hO, hfl, hmk⟩
    have ha0 : 0 < a := by omega
    have ha1 : a ≤ 2 ^ 31 := by omega
    have HG : Hid (w.grownBy wr (some g)) := hgr
    clear hO hfl hmk ha hgr
    by_cases hlt : m < es.length
    · obtain ⟨f, hf⟩ : ∃ f, fs[m]? = some f := ⟨_, List.getElem?_eq_getElem (by rw [HR.out.2.2.1]; exact hlt)⟩
      have HF : Hid (fs[m]? = some f ∧ m < fs.length) := ⟨hf, by rw [HR.out.2.2.1]; exact hlt⟩
      clear hf
      go_wp2_with fail
      refine (markText_any a _ (by omega) (by omega)).mono ?_
      rintro e w1 ⟨rfl, hb1⟩
      have hO1 := HR.out.2.1.below hb1 HR.out.2.1.lt.2
      have c1 := (hO1.at m f HF.out.1).1
      simp only [Nat.zero_add] at c1
      have z1 := fun j => World.ownsRow.frozenAt hO1 j
      have hO1' := hO1.set m 0 f { f with row := mText a.toNat } (.string (mText a.toNat)) HF.out.1 (by omega) rfl
      have H1 : Hid (OwnC (w1.setCell ⟨g, m * 5, none⟩ (.string (mText a.toNat))) base g cap (fs.set m { f with row := mText a.toNat }) ∧ w.grownBy (w1.setCell ⟨g, m * 5, none⟩ (.string (mText a.toNat))) (some g)) := ⟨hO1', (HG.out.trans (grown_of_below hb1 _)).trans (grown_set _ _ _ _)⟩
      clear hO1 hO1' hb1
      go_wp2_with fail
      refine (markText_any (a + 1) _ (by omega) (by omega)).mono ?_
      rintro e w2 ⟨rfl, hb2⟩
      have hO2 := H1.out.1.below hb2 H1.out.1.lt.2
      have c2 := (hO2.at m _ (by simp [HF.out.2]; rfl)).2.1
      simp only [Nat.zero_add] at c2
      have z2 := fun j => World.ownsRow.frozenAt hO2 j
      have H2 : Hid (OwnC (w2.setCell ⟨g, m * 5 + 1, none⟩ (.string (mText (a + 1).toNat))) base g cap (fs.set m { f with row := mText a.toNat, fam := mText (a + 1).toNat }) ∧ w.grownBy (w2.setCell ⟨g, m * 5 + 1, none⟩ (.string (mText (a + 1).toNat))) (some g)) :=
        ⟨hO2.upd HF.out.2 (by omega) rfl, (H1.out.2.trans (grown_of_below hb2 _)).trans (grown_set _ _ _ _)⟩
      clear hO2 hb2 c1 z1
      go_wp2_with fail
      refine (markText_any (a + 1 + 1) _ (by omega) (by omega)).mono ?_
      rintro e w3 ⟨rfl, hb3⟩
      have hO3 := H2.out.1.below hb3 H2.out.1.lt.2
      obtain ⟨_, _, c3, c4, _⟩ := hO3.at m _ (by simp [HF.out.2]; rfl)
      simp only [Nat.zero_add] at c3 c4
      have z3 := fun j => World.ownsRow.frozenAt hO3 j
      have H3 : Hid (OwnC w3 base g cap (fs.set m { f with row := mText a.toNat, fam := mText (a + 1).toNat }) ∧ w.grownBy w3 (some g)) := ⟨hO3, H2.out.2.trans (grown_of_below hb3 _)⟩
      clear hO3 hb3 c2 z2
      go_wp2_with fail
      refine (markText_any (a + 1 + 1 + 1 + 1) _ (by omega) (by omega)).mono ?_
      rintro e w4 ⟨rfl, hb4⟩
      have hO3 := (H3.out.1.upd (j := 2) (u := .string (mText (a + 1 + 1).toNat)) (f' := { f with row := mText a.toNat, fam := mText (a + 1).toNat, qual := mText (a + 1 + 1).toNat }) HF.out.2 (by omega) rfl).upd (j := 3) (u := .int .u64 (a + 1 + 1 + 1))
        (f' := { f with row := mText a.toNat, fam := mText (a + 1).toNat, qual := mText (a + 1 + 1).toNat, ts := a + 1 + 1 + 1 }) HF.out.2 (by omega) rfl
      have hO4 := hO3.below hb4 hO3.lt.2
      have c6 := (hO4.at m _ (by simp [HF.out.2]; rfl)).2.2.2.2
      simp only [Nat.zero_add] at c6
      have z4 := fun j => World.ownsRow.frozenAt hO4 j
      have H4 : Hid (OwnC (w4.setCell ⟨g, m * 5 + 4, none⟩ (.string (mText (a + 1 + 1 + 1 + 1).toNat))) base g cap (fs.set m (mCel a)) ∧ w.grownBy (w4.setCell ⟨g, m * 5 + 4, none⟩ (.string (mText (a + 1 + 1 + 1 + 1).toNat))) (some g)) :=
        ⟨hO4.upd HF.out.2 (by omega) rfl, (((((H3.out.2.trans (grown_set _ _ _ _)).trans (grown_set _ _ _ _))).trans (grown_of_below hb4 _)).trans (grown_set _ _ _ _))⟩
      have HE : Hid (a = k + m * 5) := HR.out.1
      clear hO3 hO4 hb4 c3 c4 z3
      go_wp2_with fail
      refine ⟨⟨m + 1, a + 1 + 1 + 1 + 1 + 1, fs.set m (mCel a), by omega, by go_num, rfl, ?_, H4.out.1, by rw [List.length_set]; exact HR.out.2.2.1, ?_, H4.out.2⟩, ?_⟩
      · go_light
        have := HE.out
        omega
      · go_light
        exact markedC_set HR.out.2.2.2 HF.out.2 (by rw [← HE.out])
      · go_light
        simp [intOf]; omega
    · go_wp2_with fail
      go_ret
      have e1 : m = es.length := by omega
      refine ⟨fs, ?_, HR.out.2.1, HR.out.2.2.1, ?_, HG.out⟩
      · rw [HR.out.1, e1]; rfl
      · rw [← e1]; exact HR.out.2.2.2

set_option maxHeartbeats 2000000 in
theorem heldCellS_core (b off cap : Nat) (es : List Ent) (k : Int) (w : World) (hE : CelsAt w b off es) (hmk : markedC k es es.length) (hB : b < w.heap.size) (h0 : 0 < k) (h1 : k ≤ 2 ^ 30) (hn : es.length ≤ 1048576) :
    Calls Try.prog 17 #[.slice (some ⟨b, off, none⟩) es.length cap, .int .i64 k] w fun e w' =>
      e = .returned (.int .i64 (k + es.length * 5)) ∧ Below w.heap.size w w' := by
  have HE : Hid (CelsAt w b off es ∧ markedC k es es.length) := ⟨hE, hmk⟩
  clear hE hmk
  go_enter Try.func17, Try.ntmps17
  go_wp2
  go_loopw [1, 5] (fun c i wr => ∃ (m : Nat) (a : Int), m ≤ es.length ∧ i = .int .i64 m ∧ c = .int .i64 a ∧ a = k + m * 5 ∧ Below w.heap.size w wr) (fun _ i _ => es.length - (intOf i).toNat)
  case atStart => exact ⟨0, k, Nat.zero_le _, rfl, rfl, by simp, Below.refl _ _⟩
  case round =>
    obtain ⟨m, a, hm, rfl, rfl, ha, hb⟩ := hrel
    have ha0 : 0 < a := by omega
    have ha1 : a ≤ 2 ^ 31 := by omega
    have HA : Hid (a = k + m * 5) := ha
    clear ha
    have hs := hb.size
    by_cases hlt : m < es.length
    · obtain ⟨f, he⟩ : ∃ f, es[m]? = some f := ⟨_, List.getElem?_eq_getElem hlt⟩
      have hf : f.five = (mCel a).five := by
        have h := HE.out.2 m hlt
        rw [he, ← HA.out] at h
        simpa using h
      simp only [Ent.five, List.cons.injEq, Value.string.injEq, Value.int.injEq, and_true, true_and] at hf
      obtain ⟨f1, f2, f3, f4, f5⟩ := hf
      have HM : Hid (es[m]? = some f) := he
      clear he
      have z2 : (m : Int) < (es.length : Int) := by omega
      have hce : ∀ wx, Below w.heap.size w wx → wx.cell? ⟨b, off + m * 5, none⟩ = some (.string (mText a.toNat)) ∧ wx.cell? ⟨b, off + m * 5 + 1, none⟩ = some (.string (mText (a + 1).toNat)) ∧ wx.cell? ⟨b, off + m * 5 + 2, none⟩ = some (.string (mText (a + 1 + 1).toNat)) ∧
          wx.cell? ⟨b, off + m * 5 + 3, none⟩ = some (.int .u64 (a + 1 + 1 + 1)) ∧ wx.cell? ⟨b, off + m * 5 + 4, none⟩ = some (.string (mText (a + 1 + 1 + 1 + 1).toNat)) := by
        intro wx hx
        have h := (HE.out.1.below hx hB) m _ HM.out
        rw [f1, f2, f3, f4, f5] at h
        exact h
      have HC : Hid (∀ wx, Below w.heap.size w wx → wx.cell? ⟨b, off + m * 5, none⟩ = some (.string (mText a.toNat)) ∧ wx.cell? ⟨b, off + m * 5 + 1, none⟩ = some (.string (mText (a + 1).toNat)) ∧ wx.cell? ⟨b, off + m * 5 + 2, none⟩ = some (.string (mText (a + 1 + 1).toNat)) ∧
          wx.cell? ⟨b, off + m * 5 + 3, none⟩ = some (.int .u64 (a + 1 + 1 + 1)) ∧ wx.cell? ⟨b, off + m * 5 + 4, none⟩ = some (.string (mText (a + 1 + 1 + 1 + 1).toNat))) := hce
      clear f1 f2 f3 f4 f5
      clear hce
      have c1 := (HC.out wr hb).1
      go_upto_region 4 with fail
      go_cut [19] (fun s wx => s = .bool false ∧ Below w.heap.size w wx)
      case first =>
        go_region_with (go_at_call 47; refine (markText_in w _ _ ?hB (by omega) (by omega)).mono ?_; (case hB => (repeat (first | assumption | refine Below.drew ?_))); rintro e' w' ⟨rfl, hbb⟩; have cx := (HC.out w' hbb).1)
        all_goals go_wp2_with fail
        all_goals go_meet
        all_goals exact ⟨rfl, by assumption⟩
      case rest =>
      obtain ⟨rfl, h2⟩ := hcut
      clear c1
      obtain ⟨wa, rfl⟩ : ∃ wa : World, wa = wc := ⟨_, rfl⟩
      have c2 := (HC.out wa h2).2.1
      go_upto_region 7 with fail
      go_cut [29] (fun s wx => s = .bool false ∧ Below w.heap.size w wx)
      case first =>
        go_region_with (go_at_call 47; refine (markText_in w _ _ ?hB (by omega) (by omega)).mono ?_; (case hB => (repeat (first | assumption | refine Below.drew ?_))); rintro e' w' ⟨rfl, hbb⟩; have cx := (HC.out w' hbb).2.1)
        all_goals go_wp2_with fail
        all_goals go_meet
        all_goals exact ⟨rfl, by assumption⟩
      case rest =>
      obtain ⟨rfl, h3⟩ := hcut
      clear c2
      obtain ⟨wb, rfl⟩ : ∃ wb : World, wb = wc := ⟨_, rfl⟩
      have c3 := (HC.out wb h3).2.2.1
      go_upto_region 10 with fail
      go_cut [39] (fun s wx => s = .bool false ∧ Below w.heap.size w wx)
      case first =>
        go_region_with (go_at_call 47; refine (markText_in w _ _ ?hB (by omega) (by omega)).mono ?_; (case hB => (repeat (first | assumption | refine Below.drew ?_))); rintro e' w' ⟨rfl, hbb⟩; have cx := (HC.out w' hbb).2.2.1)
        all_goals go_wp2_with fail
        all_goals go_meet
        all_goals exact ⟨rfl, by assumption⟩
      case rest =>
      obtain ⟨rfl, h4⟩ := hcut
      clear c3
      obtain ⟨wd, rfl⟩ : ∃ wd : World, wd = wc := ⟨_, rfl⟩
      have c4 := (HC.out wd h4).2.2.2.1
      have c5 := (HC.out wd h4).2.2.2.2
      go_upto_region 16 with fail
      go_cut [59] (fun s wx => s = .bool false ∧ Below w.heap.size w wx)
      case first =>
        go_region_with (go_at_call 47; refine (markText_in w _ _ ?hB (by omega) (by omega)).mono ?_; (case hB => (repeat (first | assumption | refine Below.drew ?_))); rintro e' w' ⟨rfl, hbb⟩; have cx := (HC.out w' hbb).2.2.2.2)
        all_goals go_wp2_with fail
        all_goals go_meet
        all_goals exact ⟨rfl, by assumption⟩
      case rest =>
      obtain ⟨rfl, h5⟩ := hcut
      clear c4 c5
      go_wp2_with fail
      refine ⟨⟨m + 1, a + 1 + 1 + 1 + 1 + 1, by omega, by go_num, rfl, ?_, h5⟩, ?_⟩
      · go_light
        have := HA.out
        omega
      · go_light
        simp [intOf]; omega
    · go_wp2_with fail
      go_ret
      have e1 : m = es.length := by omega
      refine ⟨?_, hb⟩
      rw [HA.out, e1]; rfl
end Go.Proofs.Ytnncedndlhfdkac

/-
  eqRunS, markRunS over runs of the call's own.
-/
namespace Go.Proofs.Ytnncedndlhfdkac
open Go.ChangeShapes Go.WideShapes Go.ChangeAt Go.RowKit Go.Deep
set_option linter.unusedVariables false
set_option linter.unusedSimpArgs false
set_option maxRecDepth 100000

def RowsOf (l : List (Nat × List Ent)) (k : Nat) : Prop := ∃ p ∈ l, k = p.1
set_option maxHeartbeats 2000000 in
theorem markRunS_core (base g : Nat) (l : List (Nat × List Ent)) (w : World) (h : OwnRuns w base g l) (hn : l.length + totL l ≤ 1048576) :
    Calls Try.prog 15 #[.slice (some ⟨g, 0, none⟩) l.length l.length, .int .i64 1] w fun e w' =>
      ∃ a : Int, e = .returned (.int .i64 a) ∧ 0 ≤ a ∧ Chg (RowsOf l) w w' := by
  have HO : Hid (OwnRuns w base g l) := h
  clear h
  go_enter Try.func15, Try.ntmps15
  go_wp2_with fail
  go_loopw [1, 5] (fun c i wr => ∃ (m : Nat) (a : Int), m ≤ l.length ∧ i = .int .i64 m ∧ c = .int .i64 a ∧ 0 < a ∧ a ≤ 1 + totL (l.take m) * 6 ∧ OwnR wr base g (usOf l) ∧ (∀ p ∈ l.drop m, OwnE wr base p.1 p.2.length p.2) ∧ Chg (RowsOf l) w wr) (fun _ i _ => l.length - (intOf i).toNat)
  case atStart => exact ⟨0, 1, Nat.zero_le _, rfl, rfl, by omega, by simp [totL], HO.out.row, fun p hp => HO.out.rows.2 p (by simpa using hp), Chg.refl _ _⟩
  case round =>
    obtain ⟨m, a, hm, rfl, rfl, ha0, ha1, hR, hE, hC⟩ := hrel
    have HR : Hid (OwnR wr base g (usOf l) ∧ (∀ p ∈ l.drop m, OwnE wr base p.1 p.2.length p.2) ∧ Chg (RowsOf l) w wr) := ⟨hR, hE, hC⟩
    have HA : Hid (a ≤ 1 + totL (l.take m) * 6) := ha1
    have hab : a ≤ 2 ^ 30 := by have := totL_le l m; omega
    clear hR hE hC ha1
    by_cases hlt : m < l.length
    · obtain ⟨p, hp⟩ : ∃ p, l[m]? = some p := ⟨_, List.getElem?_eq_getElem hlt⟩
      have c0 := HR.out.1.cell (usOf_get hp)
      have hpl : p.2.length ≤ 1048576 := by have := totL_take hp; have := totL_le l (m + 1); omega
      have hdr : l.drop m = p :: l.drop (m + 1) := by
        obtain ⟨h1, h2⟩ := List.getElem?_eq_some_iff.1 hp
        rw [← h2]; exact List.drop_eq_getElem_cons h1
      have HP : Hid (l[m]? = some p ∧ l.drop m = p :: l.drop (m + 1)) := ⟨hp, hdr⟩
      have HPo : Hid (OwnE wr base p.1 p.2.length p.2) := HR.out.2.1 p (by rw [hdr]; simp)
      clear hp hdr
      have zm : (m : Int) < (l.length : Int) := by omega
      go_wp2_with fail
      refine (markEntryS_core base p.1 p.2.length p.2 a _ HPo.out ha0 hab hpl).mono ?_
      rintro e w1 ⟨fs, rfl, _, _, _, hg1⟩
      have hlg := List.mem_of_getElem? HP.out.1
      have hpw : ∀ q ∈ l.drop (m + 1), q.1 ≠ p.1 := by
        have h1 : (l.drop m).Pairwise (fun p q => p.1 < q.1) := HO.out.rows.1.drop
        rw [HP.out.2] at h1
        intro q hq
        have := (List.pairwise_cons.1 h1).1 q hq
        omega
      have HN : Hid (OwnR w1 base g (usOf l) ∧ (∀ q ∈ l.drop (m + 1), OwnE w1 base q.1 q.2.length q.2) ∧ Chg (RowsOf l) w w1) := by
        refine ⟨World.ownsRow.kept HR.out.1 hg1 (.inr (fun q => ?_)), fun q hq => World.ownsRow.kept (HR.out.2.1 q (by rw [HP.out.2]; exact List.mem_cons_of_mem _ hq)) hg1 (.inr (fun x => hpw q hq (Option.some.inj x))), HR.out.2.2.trans (Chg.of_grown hg1 (fun k hk => by cases hk; exact ⟨p, hlg, rfl⟩))⟩
        have h1 := HO.out.ne p hlg
        have h2 : g = p.1 := Option.some.inj q
        omega
      have HA2 : Hid (a + p.2.length * 6 ≤ 1 + totL (l.take (m + 1)) * 6) := by
        have := HA.out
        have := totL_take HP.out.1
        show a + p.2.length * 6 ≤ 1 + totL (l.take (m + 1)) * 6
        omega
      clear hg1 hpw hlg c0
      go_wp2_with fail
      go_roundw
      case rel => exact ⟨m + 1, a + p.2.length * 6, by omega, by go_num, rfl, by omega, HA2.out, HN.out.1, HN.out.2.1, HN.out.2.2⟩
      case measure => go_light; simp [intOf]; omega
    · have zm : ¬ (m : Int) < (l.length : Int) := by omega
      go_wp2_with fail
      go_ret
      exact ⟨a, rfl, by omega, HR.out.2.2⟩
end Go.Proofs.Ytnncedndlhfdkac

/-
  The merge over runs of the call's own.
-/
namespace Go.Proofs.Ytnncedndlhfdkac
open Go.ChangeShapes Go.WideShapes Go.ChangeAt Go.RowKit Go.Deep
set_option linter.unusedVariables false
set_option linter.unusedSimpArgs false
set_option maxRecDepth 100000

theorem specMerge_own (base g : Nat) (l : List (Nat × List Ent)) (lo hi : ByteArray) (hh : Bool) (w : World) (h : OwnRuns w base g l) (ho : okL l) (hn : l.length ≤ 1048576) :
    Calls Try.prog 9 #[.slice (some ⟨g, 0, none⟩) l.length l.length, .agg #[.string lo, .bool hh, .string hi]] w fun r w' =>
      ∃ (g cp : Nat) (L : List Ent), r = .returned (.slice (some ⟨g, 0, none⟩) L.length cp) ∧ OwnC w' w.heap.size g cp L ∧ Below w.heap.size w w' ∧ L.length ≤ 500000 ∧ MrgOf (l.map Prod.snd) (inR lo hh hi) L := by
  have := specMerge_core g 0 l.length (rmsOf l) lo hi hh w h.at (okM_of ho) h.lt.2 (by rw [rmsOf_len]; exact hn)
  rw [rmsOf_len, esM_rms] at this
  exact this
theorem implMerge_own (base g : Nat) (l : List (Nat × List Ent)) (lo hi : ByteArray) (hh : Bool) (w : World) (h : OwnRuns w base g l) (ho : okL l) (hn : l.length ≤ 1048576) :
    Calls Try.prog 12 #[.slice (some ⟨g, 0, none⟩) l.length l.length, .agg #[.string lo, .bool hh, .string hi]] w fun r w' =>
      ∃ (g cp : Nat) (L : List Ent), r = .returned (.slice (some ⟨g, 0, none⟩) L.length cp) ∧ OwnC w' w.heap.size g cp L ∧ Below w.heap.size w w' ∧ MrgOf (l.map Prod.snd) (inR lo hh hi) L := by
  have := implMerge_core g 0 l.length (rmsOf l) lo hi hh w h.at (okM_of ho) h.lt.2 (by rw [rmsOf_len]; exact hn)
  rw [rmsOf_len, esM_rms] at this
  exact this
theorem OwnC.chg {T : Nat → Prop} {w w' : World} {base g cp : Nat} {L : List Ent} (h : OwnC w base g cp L) (hb : Chg T w w') (hn : ¬ T g) : OwnC w' base g cp L := own_chg h hb (fun k q => by simp [Value.ownBlock] at q; subst q; exact hn)
end Go.Proofs.Ytnncedndlhfdkac

/-
  A run that came back: of the call's own, or nil; its marks.
-/
namespace Go.Proofs.Ytnncedndlhfdkac
open Go.ChangeShapes Go.WideShapes Go.ChangeAt Go.RowKit Go.Deep
set_option linter.unusedVariables false
set_option maxRecDepth 100000

/-- A slice of the call's own, or nil. -/
def OwnU (w : World) (base : Nat) (u : Value) (R : List Ent) : Prop := (u = .slice none 0 0 ∧ R = []) ∨ ∃ g cp, u = .slice (some ⟨g, 0, none⟩) R.length cp ∧ OwnE w base g cp R
theorem OwnE.caps {w : World} {base g cp : Nat} {R : List Ent} (h : OwnE w base g cp R) : R.length ≤ cp ∧ cp ≤ maxLen := by
  rcases h.2 with ⟨h0, _⟩ | ⟨g', cap', cur, hv, _, _, hn, hcap, _, _⟩
  · cases h0
  · simp only [Value.slice.injEq, Option.some.injEq, Addr.mk.injEq, and_true, true_and] at hv
    obtain ⟨rfl, rfl⟩ := hv
    exact ⟨hn, hcap⟩
theorem OwnU.ins {w : World} {base : Nat} {u : Value} {R : List Ent} (h : OwnU w base u R) : InEnts w u R := by
  rcases h with ⟨rfl, rfl⟩ | ⟨g, cp, rfl, hO⟩
  · exact .inl ⟨_, _, rfl, rfl⟩
  · exact InEnts.own hO hO.caps.1 hO.caps.2
theorem OwnU.kept {w w' : World} {base : Nat} {u : Value} {R : List Ent} {row : Option Nat} (h : OwnU w base u R) (hg : w.grownBy w' row) (hne : ∀ g, row = some g → g < base) : OwnU w' base u R := by
  rcases h with h | ⟨g, cp, rfl, hO⟩
  · exact .inl h
  · exact .inr ⟨g, cp, rfl, World.ownsRow.kept hO hg (.inr (fun q => by have := hne g q.symm; have := hO.lt.1; omega))⟩
theorem OwnU.row {w : World} {base : Nat} {u : Value} {R : List Ent} (h : OwnU w base u R) : ∀ g, u.ownBlock = some g → base ≤ g ∧ g < w.heap.size := by
  intro g hg
  rcases h with ⟨rfl, _⟩ | ⟨g', cp, rfl, hO⟩
  · cases hg
  · have : g' = g := Option.some.inj hg
    subst this
    exact hO.lt
theorem OwnU.keptNe {w w' : World} {base : Nat} {u : Value} {R : List Ent} {row : Option Nat} (h : OwnU w base u R) (hg : w.grownBy w' row) (hne : ∀ g, u.ownBlock = some g → row ≠ some g) : OwnU w' base u R := by
  rcases h with h | ⟨g, cp, rfl, hO⟩
  · exact .inl h
  · exact .inr ⟨g, cp, rfl, World.ownsRow.kept hO hg (.inr (fun q => hne g rfl q.symm))⟩
theorem OwnU.ownCells {w : World} {base : Nat} {u : Value} {R : List Ent} (h : OwnU w base u R) : u.cells = #[u] := by
  rcases h with ⟨rfl, _⟩ | ⟨g, cp, rfl, _⟩ <;> rfl

set_option maxHeartbeats 400000 in
theorem markEntryS_zero (a : Option Addr) (cap : Nat) (k : Int) (w : World) :
    Calls Try.prog 46 #[.slice a 0 cap, .int .i64 k] w fun e w' => e = .returned (.int .i64 k) ∧ Below w.heap.size w w' := by
  go_enter Try.func46, Try.ntmps46
  go_wp2
  go_loopw [1, 5] (fun c i wr => c = .int .i64 k ∧ i = .int .i64 0 ∧ wr = w) (fun _ i _ => 0)
  case atStart => exact ⟨rfl, rfl, rfl⟩
  case round =>
    obtain ⟨rfl, rfl, rfl⟩ := hrel
    go_wp2_with fail
    go_ret
    exact ⟨rfl, Below.refl _ _⟩
set_option maxHeartbeats 400000 in
theorem heldEntryS_zero (a : Option Addr) (cap : Nat) (k : Int) (w : World) :
    Calls Try.prog 51 #[.slice a 0 cap, .int .i64 k] w fun e w' => e = .returned (.int .i64 k) ∧ Below w.heap.size w w' := by
  go_enter Try.func51, Try.ntmps51
  go_wp2
  go_loopw [1, 5] (fun c i wr => c = .int .i64 k ∧ i = .int .i64 0 ∧ wr = w) (fun _ i _ => 0)
  case atStart => exact ⟨rfl, rfl, rfl⟩
  case round =>
    obtain ⟨rfl, rfl, rfl⟩ := hrel
    go_wp2_with fail
    go_ret
    exact ⟨rfl, Below.refl _ _⟩

/-- Marks laid: only blocks from 'base' on have turned. -/
theorem markEntryS_own (base : Nat) (u : Value) (R : List Ent) (k : Int) (w : World) (h : OwnU w base u R) (h0 : 0 < k) (h1 : k ≤ 2 ^ 30) (hn : R.length ≤ 1048576) (hbase : base ≤ w.heap.size) :
    Calls Try.prog 46 #[u, .int .i64 k] w fun e w' =>
      ∃ R', e = .returned (.int .i64 (k + R.length * 6)) ∧ OwnU w' base u R' ∧ R'.length = R.length ∧ marked k R' R'.length ∧ w.grownBy w' u.ownBlock := by
  rcases h with ⟨rfl, rfl⟩ | ⟨g, cp, rfl, hO⟩
  · refine (markEntryS_zero none 0 k w).mono ?_
    rintro e w' ⟨rfl, hb⟩
    exact ⟨[], by simp, .inl ⟨rfl, rfl⟩, rfl, fun j hj => by simp at hj, grown_of_below hb _⟩
  · refine (markEntryS_core base g cp R k w hO h0 h1 hn).mono ?_
    rintro e w' ⟨fs, rfl, hO', hl, hm, hg⟩
    exact ⟨fs, rfl, .inr ⟨g, cp, by rw [hl], hO'⟩, hl, by rw [hl]; exact hm, hg⟩
theorem heldEntryS_own (base : Nat) (u : Value) (R : List Ent) (k : Int) (w : World) (h : OwnU w base u R) (hm : marked k R R.length) (h0 : 0 < k) (h1 : k ≤ 2 ^ 30) (hn : R.length ≤ 1048576) :
    Calls Try.prog 51 #[u, .int .i64 k] w fun e w' => e = .returned (.int .i64 (k + R.length * 6)) ∧ Below w.heap.size w w' := by
  rcases h with ⟨rfl, rfl⟩ | ⟨g, cp, rfl, hO⟩
  · refine (heldEntryS_zero none 0 k w).mono ?_
    rintro e w' ⟨rfl, hb⟩
    exact ⟨by simp, hb⟩
  · exact heldEntryS_core g 0 cp R k w hO.at hm hO.lt.2 h0 h1 hn

set_option maxHeartbeats 400000 in
theorem markRun_own (base : Nat) (u : Value) (R : List Ent) (k : Int) (w : World) (h : OwnU w base u R) (h0 : 0 < k) (h1 : k ≤ 2 ^ 30) (hn : R.length ≤ 1048576) (hbase : base ≤ w.heap.size) :
    Calls Try.prog 21 #[.agg #[u], .int .i64 k] w fun e w' =>
      ∃ R', e = .returned (.int .i64 (k + R.length * 6)) ∧ OwnU w' base u R' ∧ R'.length = R.length ∧ marked k R' R'.length ∧ w.grownBy w' u.ownBlock := by
  have hu := h.ownCells
  have hb0 : Below w.heap.size w (w.alloc (Obj.cells #[u] 40)) := (Below.refl _ _).alloc (Nat.le_refl _) _
  have HU : Hid (OwnU (w.alloc (Obj.cells #[u] 40)) base u R) := h.kept (grown_of_below hb0 none) (fun g q => by cases q)
  clear h
  go_enter Try.func21, Try.ntmps21
  go_wp2_with fail
  refine (markEntryS_own base u R k _ HU.out h0 h1 hn (by simp; omega)).mono ?_
  rintro e w1 ⟨R', rfl, hU', hl, hm, hb1⟩
  have HF : Hid (OwnU w1 base u R' ∧ R'.length = R.length ∧ marked k R' R'.length) := ⟨hU', hl, hm⟩
  clear hU' hl hm
  go_wp2_with fail
  go_ret
  exact ⟨R', rfl, HF.out.1, HF.out.2.1, HF.out.2.2, (grown_of_below hb0 _).trans hb1⟩
set_option maxHeartbeats 400000 in
theorem heldRun_own (base : Nat) (u : Value) (R : List Ent) (k : Int) (w : World) (h : OwnU w base u R) (hm : marked k R R.length) (h0 : 0 < k) (h1 : k ≤ 2 ^ 30) (hn : R.length ≤ 1048576) :
    Calls Try.prog 22 #[.agg #[u], .int .i64 k] w fun e w' => e = .returned (.int .i64 (k + R.length * 6)) ∧ Below w.heap.size w w' := by
  have hu := h.ownCells
  have hb0 : Below w.heap.size w (w.alloc (Obj.cells #[u] 40)) := (Below.refl _ _).alloc (Nat.le_refl _) _
  have HU : Hid (OwnU (w.alloc (Obj.cells #[u] 40)) base u R ∧ marked k R R.length) := ⟨h.kept (grown_of_below hb0 none) (fun g q => by cases q), hm⟩
  clear h hm
  go_enter Try.func22, Try.ntmps22
  go_wp2_with fail
  refine (heldEntryS_own base u R k _ HU.out.1 HU.out.2 h0 h1 hn).mono ?_
  rintro e w1 ⟨rfl, hb1⟩
  have hge : 0 ≤ k + (R.length : Int) * 6 := by omega
  go_wp2_with fail
  go_ret
  exact ⟨rfl, hb0.trans (hb1.mono (by simp))⟩

end Go.Proofs.Ytnncedndlhfdkac

/-
  The maps of impl.gatherColumns: by column (a struct of three texts), and by timestamp.
-/
namespace Go.Proofs.Ytnncedndlhfdkac
open Go.ChangeShapes Go.WideShapes Go.ChangeAt Go.RowKit Go.Deep Go.Maps
set_option linter.unusedVariables false
set_option maxRecDepth 100000

theorem mapLaid : laidOutB Try.prog = true := by kernel_rfl
theorem rowCol : (73 : TypeId) < Try.prog.types.size := of_decide_eq_true (by kernel_rfl)
theorem wideCol : (match Try.prog.underlying 73 with | some (.array _ _) | some (.struct _) => true | _ => false) = true := by kernel_rfl
theorem lawCol : Keyed Try.prog 73 := Keyed.of_law (deep_law_laid mapLaid (m := 2) (by omega) rowCol (by kernel_rfl) wideCol)
theorem lawTs : Keyed Try.prog 61 := int_keyed Try.underlying61

abbrev colV (r f q : ByteArray) : Value := .agg #[.string r, .string f, .string q]
/-- What a column reads as. -/
def colL (r f q : ByteArray) : Lit := .string (keyBytes [.string r.data.toList, .string f.data.toList, .string q.data.toList])
theorem typesSome : ∃ n, Try.prog.types.size = n + 1 := ⟨Try.prog.types.size - 1, by have h : (73 : Nat) < Try.prog.types.size := rowCol; omega⟩
theorem keyCol {r f q : ByteArray} (hr : r.size ≤ maxLen) (hf : f.size ≤ maxLen) (hq : q.size ≤ maxLen) : keyOf Try.prog 73 (colV r f q) = some (colL r f q) := by
  have h1 : Try.prog.keyType 73 = true := by kernel_rfl
  have h2 : Try.prog.cellsOf 73 = 3 := by kernel_rfl
  obtain ⟨n, hn⟩ := typesSome
  unfold keyOf
  rw [Try.underlying73]
  simp only [h1, Value.formed, Try.underlying73, h2, hn]
  simp [Program.keyLits, Try.underlying73, Try.underlying9, h2, Try.cellsStr, Value.cells, hr, hf, hq, colL]
theorem keyTs {t : Int} (h : (Lit.int .u64 t).wf = true) : keyOf Try.prog 61 (.int .u64 t) = some (.int .u64 t) := keyOf_int_mk Try.underlying61 h

/-- An element reads as its own value. -/
def Rh : Value → Option (DataW Value × List MemPlace) := fun v => some (.held v, [])
theorem Rh_eq {v : Value} {x : DataW Value} {ps : List MemPlace} (h : Rh v = some (x, ps)) : x = .held v ∧ ps = [] := by
  unfold Rh at h
  simp at h
  exact ⟨h.1.symm, h.2⟩

/-- Block 'b' is a map from timestamps to entries: the function 'f'. -/
def Inn (w : World) (b n : Nat) (f : Int → Option Ent) : Prop :=
  ∃ D, w.ownsMap Try.prog 61 Rh b n D ∧ ∀ t, (Lit.int .u64 t).wf = true → (f t = none ∧ Maps.has D (.int .u64 t) = false) ∨ ∃ e, f t = some e ∧ Maps.has D (.int .u64 t) = true ∧ ∀ z, D.atKey (.int .u64 t) z = .held e.v
theorem Inn.lt {w : World} {b n : Nat} {f : Int → Option Ent} (h : Inn w b n f) : b < w.heap.size := by
  obtain ⟨D, h, _⟩ := h
  exact h.lt
theorem Inn.kept {w w' : World} {b n : Nat} {f : Int → Option Ent} {row : Option Nat} (h : Inn w b n f) (hg : w.grownBy w' row) (hne : some b ≠ row) : Inn w' b n f := by
  obtain ⟨D, h, k⟩ := h
  exact ⟨D, h.kept hg hne, k⟩
theorem Inn.mono {w : World} {b n n' : Nat} {f : Int → Option Ent} (h : Inn w b n f) (hn : n ≤ n') : Inn w b n' f := by
  obtain ⟨D, h, k⟩ := h
  exact ⟨D, h.mono hn, k⟩
theorem Inn.setCell {w : World} {b n : Nat} {f : Int → Option Ent} (h : Inn w b n f) {a : Addr} (ha : b ≠ a.block) (u : Value) : Inn (w.setCell a u) b n f := by
  obtain ⟨D, h, k⟩ := h
  exact ⟨D, h.setCell ha u, k⟩
theorem grown_setNew {w w' : World} {row : Option Nat} (h : w.grownBy w' row) {a : Addr} (ha : w.heap.size ≤ a.block) (u : Value) : w.grownBy (w'.setCell a u) row := by
  have k := (Below.refl a.block w').setCell (Nat.le_refl _) (p := a) u
  exact ⟨k.os.trans h.os, k.tape.trans h.tape, k.output.trans h.output, Nat.le_trans h.size k.size, fun j hj hne => (Below.heap_setCell w' a u j (by omega)).trans (h.block j hj hne)⟩
theorem below4 (w : World) (a b c d : Obj) : Below w.heap.size w ((((w.alloc a).alloc b).alloc c).alloc d) := ((((Below.refl _ _).alloc (Nat.le_refl _) _).alloc (by simp) _).alloc (by simp; omega) _).alloc (by simp; omega) _
theorem Inn.made (w : World) : Inn (w.alloc (.map #[] 0)) w.heap.size 0 (fun _ => none) :=
  ⟨.map [], World.ownsMap_made w Try.prog 61 Rh, fun t _ => .inl ⟨rfl, rfl⟩⟩

set_option maxHeartbeats 1000000 in
theorem withEarlier_del (d : Bool) (u : Int) (m : Option Nat) (e : Ent) (w : World) (hk : e.kind = 2) :
    Calls Try.prog 90 #[.agg #[.bool d, .int .u64 u, .map m], e.v] w fun r w' =>
      r = .returned (.agg #[.bool true, .int .u64 (max u e.ts), .map m]) ∧ Below w.heap.size w w' := by
  have g2 : (e.kind == 2) = true := by simp [hk]
  clear hk
  unfold Ent.v
  go_enter Try.func90, Try.ntmps90
  go_wp2
  refine bodyPost_ret (v := .agg #[.bool true, .int .u64 (max u e.ts), .map m]) (by simp [results, Try.results90, go_sem]) rfl ⟨rfl, ?_⟩
  exact (((Below.refl _ _).alloc (Nat.le_refl _) _).alloc (by simp) _).alloc (by simp; omega) _

set_option maxHeartbeats 1000000 in
theorem withEarlier_gone (u : Int) (m : Option Nat) (e : Ent) (w : World) (hk : ¬ e.kind = 2) (hu : e.ts ≤ u) :
    Calls Try.prog 90 #[.agg #[.bool true, .int .u64 u, .map m], e.v] w fun r w' =>
      r = .returned (.agg #[.bool true, .int .u64 u, .map m]) ∧ Below w.heap.size w w' := by
  have g2 : (e.kind == 2) = false := by simp [hk]
  clear hk
  unfold Ent.v
  go_enter Try.func90, Try.ntmps90
  go_wp2
  refine bodyPost_ret (v := .agg #[.bool true, .int .u64 u, .map m]) (by simp [results, Try.results90, go_sem]) rfl ⟨rfl, ?_⟩
  exact (((Below.refl _ _).alloc (Nat.le_refl _) _).alloc (by simp) _).alloc (by simp; omega) _

theorem zeroE6 (w : World) : (zeroValue 63).run Try.prog w = .ok (.agg #[.string ⟨#[]⟩, .string ⟨#[]⟩, .string ⟨#[]⟩, .int .u64 0, .int .i64 0, .string ⟨#[]⟩]) w := by kernel_rfl
/-- 'v, ok := m[t]' in a map of entries. -/
theorem Inn.look {w : World} {b n : Nat} {f : Int → Option Ent} (h : Inn w b n f) {t : Int} (ht : (Lit.int .u64 t).wf = true) :
    ∃ v : Ent, (Instr.lookup 107 (.map (some b)) (.int .u64 t) true).run Try.prog w = .ok (.tuple #[v.v, .bool (f t).isSome]) w := by
  obtain ⟨D, hD, hv⟩ := h
  obtain ⟨v, ps, hrun, hR⟩ := hD.look_ok lawTs Try.underlying107 (zeroE6 w) (zd := .held zeroE.v) (zp := []) rfl (keyTs ht)
  have hR' := (Rh_eq hR).1
  rcases hv t ht with ⟨h1, h2⟩ | ⟨e, h1, h2, h3⟩
  · rw [Maps.atKey_of_not_has h2] at hR'
    simp only [DataW.held.injEq] at hR'
    rw [← hR', h2] at hrun
    exact ⟨zeroE, by rw [h1]; exact hrun⟩
  · rw [h3] at hR'
    simp only [DataW.held.injEq] at hR'
    rw [← hR', h2] at hrun
    exact ⟨e, by rw [h1]; exact hrun⟩
theorem Inn.put {w : World} {b n : Nat} {f : Int → Option Ent} (h : Inn w b n f) (hn : n < maxLen) (e : Ent) (ht : (Lit.int .u64 e.ts).wf = true) :
    ∃ w', (Instr.mapUpdate 107 (.map (some b)) (.int .u64 e.ts) e.v).run Try.prog w = .ok () w' ∧ Inn w' b (n + 1) (fun t => if t = e.ts then some e else f t) ∧ w.grownBy w' (some b) := by
  obtain ⟨D, hD, hv⟩ := h
  obtain ⟨w', hrun, ho, hg⟩ := hD.update lawTs Try.underlying107 hn (keyTs ht) (val := e.v) (d := .held e.v) (ps := []) rfl
  refine ⟨w', hrun, ⟨_, ho, fun t hw => ?_⟩, hg⟩
  by_cases he : t = e.ts
  · subst he
    refine .inr ⟨e, by simp, Maps.has_put_same hD.isMap (lawTs.key (keyTs ht)) _, fun z => Maps.atKey_put_same hD.isMap (lawTs.key (keyTs ht)) _ z⟩
  · have hne : (Lit.int .u64 t) ≠ (Lit.int .u64 e.ts) := fun q => he (by injection q)
    rcases hv t hw with ⟨h1, h2⟩ | ⟨e', h1, h2, h3⟩
    · exact .inl ⟨by simp [he, h1], by rw [Maps.has_put_other hne]; exact h2⟩
    · exact .inr ⟨e', by simp [he, h1], by rw [Maps.has_put_other hne]; exact h2, fun z => by rw [Maps.atKey_put_other hne]; exact h3 z⟩

set_option maxHeartbeats 1000000 in
set_option maxRecDepth 100000 in
theorem withEarlier_old (d : Bool) (u : Int) (b n : Nat) (f : Int → Option Ent) (e : Ent) (w : World) (hk : ¬ e.kind = 2) (hu : d = true → ¬ e.ts ≤ u) (hI : Inn w b n f) (hn : n < maxLen) (hw : (Lit.int .u64 e.ts).wf = true) :
    Calls Try.prog 90 #[.agg #[.bool d, .int .u64 u, .map (some b)], e.v] w fun r w' =>
      r = .returned (.agg #[.bool d, .int .u64 u, .map (some b)]) ∧ Inn w' b (n + 1) (fun t => if t = e.ts then (if (f t).isSome then f t else some e) else f t) ∧ w.grownBy w' (some b) := by
  have g2 : (e.kind == 2) = false := by simp [hk]
  have hb := hI.lt
  have HI : Hid (Inn w b n f ∧ n < maxLen ∧ (Lit.int .u64 e.ts).wf = true) := ⟨hI, hn, hw⟩
  clear hk hI hn hw
  have hnil : ∀ wx, (binOp .eql 107 (.map (some b)) (.map none)).run Try.prog wx = .ok (.bool false) wx :=
    fun wx => run_eql_map_nil wx _ _ _ (some b) Try.underlying107
  have hbox : Below w.heap.size w (((w.alloc (Obj.cells #[.bool d, .int .u64 u, .map (some b)] 109)).alloc (Obj.cells #[.string e.row, .string e.fam, .string e.qual, .int .u64 e.ts, .int .i64 e.kind, .string e.val] 63)).alloc (Obj.cells #[.bool false, .int .u64 0, .map none] 109)) :=
    (((Below.refl _ _).alloc (Nat.le_refl _) _).alloc (by simp) _).alloc (by simp; omega) _
  have hIb := HI.out.1.kept (row := none) ⟨hbox.os, hbox.tape, hbox.output, hbox.size, fun k hk _ => hbox.block k hk⟩ (by simp)
  obtain ⟨v, hlook⟩ := hIb.look HI.out.2.2
  have HIb : Hid (Inn (((w.alloc (Obj.cells #[.bool d, .int .u64 u, .map (some b)] 109)).alloc (Obj.cells #[.string e.row, .string e.fam, .string e.qual, .int .u64 e.ts, .int .i64 e.kind, .string e.val] 63)).alloc (Obj.cells #[.bool false, .int .u64 0, .map none] 109)) b n f) := hIb
  clear hIb hbox
  have hIc := HIb.out.kept (row := none) (World.grownBy_alloc _ (Obj.cells #[.string v.row, .string v.fam, .string v.qual, .int .u64 v.ts, .int .i64 v.kind, .string v.val] 63) none) (by simp)
  obtain ⟨w4, hput, hI4, hg4⟩ := hIc.put HI.out.2.1 e HI.out.2.2
  have hbx : Below w.heap.size w ((((w.alloc (Obj.cells #[.bool d, .int .u64 u, .map (some b)] 109)).alloc (Obj.cells #[.string e.row, .string e.fam, .string e.qual, .int .u64 e.ts, .int .i64 e.kind, .string e.val] 63)).alloc (Obj.cells #[.bool false, .int .u64 0, .map none] 109)).alloc (Obj.cells #[.string v.row, .string v.fam, .string v.qual, .int .u64 v.ts, .int .i64 v.kind, .string v.val] 63)) := ((((Below.refl _ _).alloc (Nat.le_refl _) _).alloc (by simp) _).alloc (by simp; omega) _).alloc (by simp; omega) _
  have hs4 := hg4.size
  simp at hs4
  have hbl : ∀ j, j ≠ b → j < w.heap.size + 4 → w4.heap[j]? = ((((w.alloc (Obj.cells #[.bool d, .int .u64 u, .map (some b)] 109)).alloc (Obj.cells #[.string e.row, .string e.fam, .string e.qual, .int .u64 e.ts, .int .i64 e.kind, .string e.val] 63)).alloc (Obj.cells #[.bool false, .int .u64 0, .map none] 109)).alloc (Obj.cells #[.string v.row, .string v.fam, .string v.qual, .int .u64 v.ts, .int .i64 v.kind, .string v.val] 63)).heap[j]? := fun j h1 h2 => hg4.block j (by simp; omega) (fun q => h1 (by injection q))
  have c40 : ∀ o, w4.cell? ⟨w.heap.size, o, none⟩ = ((((w.alloc (Obj.cells #[.bool d, .int .u64 u, .map (some b)] 109)).alloc (Obj.cells #[.string e.row, .string e.fam, .string e.qual, .int .u64 e.ts, .int .i64 e.kind, .string e.val] 63)).alloc (Obj.cells #[.bool false, .int .u64 0, .map none] 109)).alloc (Obj.cells #[.string v.row, .string v.fam, .string v.qual, .int .u64 v.ts, .int .i64 v.kind, .string v.val] 63)).cell? ⟨w.heap.size, o, none⟩ := fun o => World.cell?_of_block (hbl _ (by show w.heap.size ≠ b; omega) (by show w.heap.size < _; omega))
  have c42 : ∀ o, w4.cell? ⟨w.heap.size + 1 + 1, o, none⟩ = ((((w.alloc (Obj.cells #[.bool d, .int .u64 u, .map (some b)] 109)).alloc (Obj.cells #[.string e.row, .string e.fam, .string e.qual, .int .u64 e.ts, .int .i64 e.kind, .string e.val] 63)).alloc (Obj.cells #[.bool false, .int .u64 0, .map none] 109)).alloc (Obj.cells #[.string v.row, .string v.fam, .string v.qual, .int .u64 v.ts, .int .i64 v.kind, .string v.val] 63)).cell? ⟨w.heap.size + 1 + 1, o, none⟩ := fun o => World.cell?_of_block (hbl _ (by show w.heap.size + 1 + 1 ≠ b; omega) (by show w.heap.size + 1 + 1 < _; omega))
  have f42 : ∀ o, w4.frozen? ⟨w.heap.size + 1 + 1, o, none⟩ = ((((w.alloc (Obj.cells #[.bool d, .int .u64 u, .map (some b)] 109)).alloc (Obj.cells #[.string e.row, .string e.fam, .string e.qual, .int .u64 e.ts, .int .i64 e.kind, .string e.val] 63)).alloc (Obj.cells #[.bool false, .int .u64 0, .map none] 109)).alloc (Obj.cells #[.string v.row, .string v.fam, .string v.qual, .int .u64 v.ts, .int .i64 v.kind, .string v.val] 63)).frozen? ⟨w.heap.size + 1 + 1, o, none⟩ := fun o => World.frozen?_of_block (hbl _ (by show w.heap.size + 1 + 1 ≠ b; omega) (by show w.heap.size + 1 + 1 < _; omega))
  have H4 : Hid (Inn w4 b (n + 1) (fun t => if t = e.ts then some e else f t) ∧ w.grownBy w4 (some b)) :=
    ⟨hI4, ⟨hg4.os.trans hbx.os, hg4.tape.trans hbx.tape, hg4.output.trans hbx.output, by omega, fun j hj hne => (hg4.block j (by simp; omega) hne).trans (hbx.block j hj)⟩⟩
  clear hIc hI4 hg4 hbl hbx
  unfold Ent.v at *
  cases hf : (f e.ts).isSome
  · rw [hf] at hlook
    have HF : Hid ((f e.ts).isSome = false) := hf
    clear hf
    cases d
    · clear hu
      go_enter Try.func90, Try.ntmps90
      go_wp2_with fail
      refine bodyPost_ret (v := .agg #[.bool false, .int .u64 u, .map (some b)]) (by simp [results, Try.results90, go_sem, c42]) rfl ⟨rfl, ?_, ?_⟩
      · rw [show (fun t => if t = e.ts then (if (f t).isSome then f t else some e) else f t) = (fun t => if t = e.ts then some e else f t) from funext fun t => by
          by_cases q : t = e.ts
          · subst q; simp [HF.out]
          · simp [q]]
        exact ((H4.out.1.setCell (by show b ≠ w.heap.size + 1 + 1; omega) _).setCell (by show b ≠ w.heap.size + 1 + 1; omega) _).setCell (by show b ≠ w.heap.size + 1 + 1; omega) _
      · exact grown_setNew (grown_setNew (grown_setNew H4.out.2 (by show w.heap.size ≤ w.heap.size + 1 + 1; omega) _) (by show w.heap.size ≤ w.heap.size + 1 + 1; omega) _) (by show w.heap.size ≤ w.heap.size + 1 + 1; omega) _
    · have hu' : ¬ e.ts ≤ u := hu rfl
      clear hu
      go_enter Try.func90, Try.ntmps90
      go_wp2_with fail
      refine bodyPost_ret (v := .agg #[.bool true, .int .u64 u, .map (some b)]) (by simp [results, Try.results90, go_sem, c42]) rfl ⟨rfl, ?_, ?_⟩
      · rw [show (fun t => if t = e.ts then (if (f t).isSome then f t else some e) else f t) = (fun t => if t = e.ts then some e else f t) from funext fun t => by
          by_cases q : t = e.ts
          · subst q; simp [HF.out]
          · simp [q]]
        exact ((H4.out.1.setCell (by show b ≠ w.heap.size + 1 + 1; omega) _).setCell (by show b ≠ w.heap.size + 1 + 1; omega) _).setCell (by show b ≠ w.heap.size + 1 + 1; omega) _
      · exact grown_setNew (grown_setNew (grown_setNew H4.out.2 (by show w.heap.size ≤ w.heap.size + 1 + 1; omega) _) (by show w.heap.size ≤ w.heap.size + 1 + 1; omega) _) (by show w.heap.size ≤ w.heap.size + 1 + 1; omega) _
  · rw [hf] at hlook
    have HF : Hid ((f e.ts).isSome = true) := hf
    clear hf hput c40 c42 f42
    cases d
    · clear hu
      go_enter Try.func90, Try.ntmps90
      go_wp2_with fail
      refine bodyPost_ret (v := .agg #[.bool false, .int .u64 u, .map (some b)]) (by simp [results, Try.results90, go_sem]) rfl ⟨rfl, ?_, ?_⟩
      · rw [show (fun t => if t = e.ts then (if (f t).isSome then f t else some e) else f t) = f from funext fun t => by
          by_cases q : t = e.ts
          · subst q; simp [HF.out]
          · simp [q]]
        exact (HI.out.1.kept (row := none) (grown_of_below (below4 w _ _ _ _) none) (by simp)).mono (by omega)
      · exact grown_of_below (below4 w _ _ _ _) _
    · have hu' : ¬ e.ts ≤ u := hu rfl
      clear hu
      go_enter Try.func90, Try.ntmps90
      go_wp2_with fail
      refine bodyPost_ret (v := .agg #[.bool true, .int .u64 u, .map (some b)]) (by simp [results, Try.results90, go_sem]) rfl ⟨rfl, ?_, ?_⟩
      · rw [show (fun t => if t = e.ts then (if (f t).isSome then f t else some e) else f t) = f from funext fun t => by
          by_cases q : t = e.ts
          · subst q; simp [HF.out]
          · simp [q]]
        exact (HI.out.1.kept (row := none) (grown_of_below (below4 w _ _ _ _) none) (by simp)).mono (by omega)
      · exact grown_of_below (below4 w _ _ _ _) _

set_option maxHeartbeats 1000000 in
set_option maxRecDepth 100000 in
theorem withEarlier_new (d : Bool) (u : Int) (e : Ent) (w : World) (hk : ¬ e.kind = 2) (hu : d = true → ¬ e.ts ≤ u) (hw : (Lit.int .u64 e.ts).wf = true) :
    Calls Try.prog 90 #[.agg #[.bool d, .int .u64 u, .map none], e.v] w fun r w' =>
      ∃ b, r = .returned (.agg #[.bool d, .int .u64 u, .map (some b)]) ∧ w.heap.size ≤ b ∧ Inn w' b 1 (fun t => if t = e.ts then some e else none) ∧ Below w.heap.size w w' := by
  have g2 : (e.kind == 2) = false := by simp [hk]
  have HI : Hid ((Lit.int .u64 e.ts).wf = true) := hw
  clear hk hw
  have hnil : ∀ wx, (binOp .eql 107 (.map none) (.map none)).run Try.prog wx = .ok (.bool true) wx :=
    fun wx => run_eql_map_nil wx _ _ _ none Try.underlying107
  have hmm := @run_makeMap Try.prog
  have hI4 : Inn ((((w.alloc (Obj.cells #[.bool d, .int .u64 u, .map (some (w.heap.size + 1 + 1 + 1))] 109)).alloc (Obj.cells #[.string e.row, .string e.fam, .string e.qual, .int .u64 e.ts, .int .i64 e.kind, .string e.val] 63)).alloc (Obj.cells #[.bool false, .int .u64 0, .map none] 109)).alloc (Obj.map #[] 0)) (w.heap.size + 1 + 1 + 1) 0 (fun _ => none) := by
    have h := Inn.made (((w.alloc (Obj.cells #[.bool d, .int .u64 u, .map (some (w.heap.size + 1 + 1 + 1))] 109)).alloc (Obj.cells #[.string e.row, .string e.fam, .string e.qual, .int .u64 e.ts, .int .i64 e.kind, .string e.val] 63)).alloc (Obj.cells #[.bool false, .int .u64 0, .map none] 109))
    have hz : (((w.alloc (Obj.cells #[.bool d, .int .u64 u, .map (some (w.heap.size + 1 + 1 + 1))] 109)).alloc (Obj.cells #[.string e.row, .string e.fam, .string e.qual, .int .u64 e.ts, .int .i64 e.kind, .string e.val] 63)).alloc (Obj.cells #[.bool false, .int .u64 0, .map none] 109)).heap.size = w.heap.size + 1 + 1 + 1 := by simp
    rw [hz] at h
    exact h
  obtain ⟨v, hlook⟩ := hI4.look HI.out
  have hI5 := hI4.kept (row := none) (World.grownBy_alloc _ (Obj.cells #[.string v.row, .string v.fam, .string v.qual, .int .u64 v.ts, .int .i64 v.kind, .string v.val] 63) none) (by simp)
  obtain ⟨w6, hput, hI6, hg6⟩ := hI5.put (by unfold maxLen; omega) e HI.out
  have hbx : Below w.heap.size w (((((w.alloc (Obj.cells #[.bool d, .int .u64 u, .map (some (w.heap.size + 1 + 1 + 1))] 109)).alloc (Obj.cells #[.string e.row, .string e.fam, .string e.qual, .int .u64 e.ts, .int .i64 e.kind, .string e.val] 63)).alloc (Obj.cells #[.bool false, .int .u64 0, .map none] 109)).alloc (Obj.map #[] 0)).alloc (Obj.cells #[.string v.row, .string v.fam, .string v.qual, .int .u64 v.ts, .int .i64 v.kind, .string v.val] 63)) := (below4 w _ _ _ _).alloc (by simp; omega) _
  have hs6 := hg6.size
  simp at hs6
  have hbl : ∀ j, j ≠ w.heap.size + 1 + 1 + 1 → j < w.heap.size + 5 → w6.heap[j]? = (((((w.alloc (Obj.cells #[.bool d, .int .u64 u, .map (some (w.heap.size + 1 + 1 + 1))] 109)).alloc (Obj.cells #[.string e.row, .string e.fam, .string e.qual, .int .u64 e.ts, .int .i64 e.kind, .string e.val] 63)).alloc (Obj.cells #[.bool false, .int .u64 0, .map none] 109)).alloc (Obj.map #[] 0)).alloc (Obj.cells #[.string v.row, .string v.fam, .string v.qual, .int .u64 v.ts, .int .i64 v.kind, .string v.val] 63)).heap[j]? := fun j h1 h2 => hg6.block j (by simp; omega) (fun q => h1 (by injection q))
  have c60 : ∀ o, w6.cell? ⟨w.heap.size, o, none⟩ = (((((w.alloc (Obj.cells #[.bool d, .int .u64 u, .map (some (w.heap.size + 1 + 1 + 1))] 109)).alloc (Obj.cells #[.string e.row, .string e.fam, .string e.qual, .int .u64 e.ts, .int .i64 e.kind, .string e.val] 63)).alloc (Obj.cells #[.bool false, .int .u64 0, .map none] 109)).alloc (Obj.map #[] 0)).alloc (Obj.cells #[.string v.row, .string v.fam, .string v.qual, .int .u64 v.ts, .int .i64 v.kind, .string v.val] 63)).cell? ⟨w.heap.size, o, none⟩ := fun o => World.cell?_of_block (hbl _ (by show w.heap.size ≠ _; omega) (by show w.heap.size < _; omega))
  have c62 : ∀ o, w6.cell? ⟨w.heap.size + 1 + 1, o, none⟩ = (((((w.alloc (Obj.cells #[.bool d, .int .u64 u, .map (some (w.heap.size + 1 + 1 + 1))] 109)).alloc (Obj.cells #[.string e.row, .string e.fam, .string e.qual, .int .u64 e.ts, .int .i64 e.kind, .string e.val] 63)).alloc (Obj.cells #[.bool false, .int .u64 0, .map none] 109)).alloc (Obj.map #[] 0)).alloc (Obj.cells #[.string v.row, .string v.fam, .string v.qual, .int .u64 v.ts, .int .i64 v.kind, .string v.val] 63)).cell? ⟨w.heap.size + 1 + 1, o, none⟩ := fun o => World.cell?_of_block (hbl _ (by show w.heap.size + 1 + 1 ≠ _; omega) (by show w.heap.size + 1 + 1 < _; omega))
  have f62 : ∀ o, w6.frozen? ⟨w.heap.size + 1 + 1, o, none⟩ = (((((w.alloc (Obj.cells #[.bool d, .int .u64 u, .map (some (w.heap.size + 1 + 1 + 1))] 109)).alloc (Obj.cells #[.string e.row, .string e.fam, .string e.qual, .int .u64 e.ts, .int .i64 e.kind, .string e.val] 63)).alloc (Obj.cells #[.bool false, .int .u64 0, .map none] 109)).alloc (Obj.map #[] 0)).alloc (Obj.cells #[.string v.row, .string v.fam, .string v.qual, .int .u64 v.ts, .int .i64 v.kind, .string v.val] 63)).frozen? ⟨w.heap.size + 1 + 1, o, none⟩ := fun o => World.frozen?_of_block (hbl _ (by show w.heap.size + 1 + 1 ≠ _; omega) (by show w.heap.size + 1 + 1 < _; omega))
  have H6 : Hid (Inn w6 (w.heap.size + 1 + 1 + 1) 1 (fun t => if t = e.ts then some e else none) ∧ Below w.heap.size w w6) :=
    ⟨hI6, ⟨hg6.os.trans hbx.os, hg6.tape.trans hbx.tape, hg6.output.trans hbx.output, by omega, fun j hj => (hg6.block j (by simp; omega) (fun q => by injection q; omega)).trans (hbx.block j hj)⟩⟩
  clear hI4 hI5 hI6 hg6 hbl hbx
  unfold Ent.v at *
  cases d
  · clear hu
    go_enter Try.func90, Try.ntmps90
    go_wp2_with fail
    refine bodyPost_ret (v := .agg #[.bool false, .int .u64 u, .map (some (w.heap.size + 1 + 1 + 1))]) (by simp [results, Try.results90, go_sem, c62]) rfl ⟨_, rfl, by omega, ?_, ?_⟩
    · exact ((H6.out.1.setCell (by show w.heap.size + 1 + 1 + 1 ≠ w.heap.size + 1 + 1; omega) _).setCell (by show w.heap.size + 1 + 1 + 1 ≠ w.heap.size + 1 + 1; omega) _).setCell (by show w.heap.size + 1 + 1 + 1 ≠ w.heap.size + 1 + 1; omega) _
    · exact ((H6.out.2.setCell (by show w.heap.size ≤ w.heap.size + 1 + 1; omega) _).setCell (by show w.heap.size ≤ w.heap.size + 1 + 1; omega) _).setCell (by show w.heap.size ≤ w.heap.size + 1 + 1; omega) _
  · have hu' : ¬ e.ts ≤ u := hu rfl
    clear hu
    go_enter Try.func90, Try.ntmps90
    go_wp2_with fail
    refine bodyPost_ret (v := .agg #[.bool true, .int .u64 u, .map (some (w.heap.size + 1 + 1 + 1))]) (by simp [results, Try.results90, go_sem, c62]) rfl ⟨_, rfl, by omega, ?_, ?_⟩
    · exact ((H6.out.1.setCell (by show w.heap.size + 1 + 1 + 1 ≠ w.heap.size + 1 + 1; omega) _).setCell (by show w.heap.size + 1 + 1 + 1 ≠ w.heap.size + 1 + 1; omega) _).setCell (by show w.heap.size + 1 + 1 + 1 ≠ w.heap.size + 1 + 1; omega) _
    · exact ((H6.out.2.setCell (by show w.heap.size ≤ w.heap.size + 1 + 1; omega) _).setCell (by show w.heap.size ≤ w.heap.size + 1 + 1; omega) _).setCell (by show w.heap.size ≤ w.heap.size + 1 + 1; omega) _
end Go.Proofs.Ytnncedndlhfdkac

/-
  The columns of a list of writes: the model, and the map that holds them.
-/
namespace Go.Proofs.Ytnncedndlhfdkac
open Go.ChangeShapes Go.WideShapes Go.ChangeAt Go.RowKit Go.Deep Go.Maps
set_option linter.unusedVariables false
set_option maxRecDepth 100000

/-- What a list of writes leaves of one column. -/
structure CW where
  d : Bool
  u : Int
  f : Int → Option Ent
def cw0 : CW := ⟨false, 0, fun _ => none⟩
def cwAdd (c : CW) (e : Ent) : CW :=
  if e.kind = 2 then ⟨true, max c.u e.ts, c.f⟩
  else if c.d = true ∧ e.ts ≤ c.u then c
  else ⟨c.d, c.u, fun t => if t = e.ts then (if (c.f t).isSome then c.f t else some e) else c.f t⟩
/-- A column's name. -/
abbrev Col := ByteArray × ByteArray × ByteArray
def Ent.wcol (e : Ent) : Col := (e.row, e.fam, e.qual)
def colsOf : List Ent → Col → Option CW
  | [], _ => none
  | w :: rest, c => if c = w.wcol then some (cwAdd ((colsOf rest c).getD cw0) w) else colsOf rest c

def Col.okc (c : Col) : Prop := c.1.size ≤ maxLen ∧ c.2.1.size ≤ maxLen ∧ c.2.2.size ≤ maxLen
abbrev Col.v (c : Col) : Value := colV c.1 c.2.1 c.2.2
def Col.l (c : Col) : Lit := colL c.1 c.2.1 c.2.2
theorem Col.key {c : Col} (h : c.okc) : keyOf Try.prog 73 c.v = some c.l := keyCol h.1 h.2.1 h.2.2
theorem Col.inj {c c' : Col} (h : c.okc) (h' : c'.okc) (e : c.l = c'.l) : c = c' := by
  have h1 := Col.key h
  have h2 := Col.key h'
  rw [← e] at h2
  have := lawCol.inj h1 h2
  obtain ⟨a, b, d⟩ := c
  obtain ⟨a', b', d'⟩ := c'
  simp at this
  obtain ⟨rfl, rfl, rfl⟩ := this
  rfl

/-- The inner map of a column. -/
def Inner (w : World) (base N : Nat) (m : Option Nat) (f : Int → Option Ent) : Prop :=
  (m = none ∧ f = fun _ => none) ∨ ∃ b n, m = some b ∧ Inn w b n f ∧ n ≤ N ∧ base ≤ b
theorem Inner.kept {w w' : World} {base N : Nat} {m : Option Nat} {f : Int → Option Ent} {row : Option Nat} (h : Inner w base N m f) (hg : w.grownBy w' row) (hne : m = none ∨ m ≠ row) : Inner w' base N m f := by
  rcases h with h | ⟨b, n, rfl, h, hn, hb⟩
  · exact .inl h
  · refine .inr ⟨b, n, rfl, h.kept hg ?_, hn, hb⟩
    rcases hne with e | e
    · cases e
    · exact e
theorem Inner.mono {w : World} {base N N' : Nat} {m : Option Nat} {f : Int → Option Ent} (h : Inner w base N m f) (hn : N ≤ N') : Inner w base N' m f := by
  rcases h with h | ⟨b, n, rfl, h, h1, hb⟩
  · exact .inl h
  · exact .inr ⟨b, n, rfl, h, by omega, hb⟩

/-- Block 'B' is the map of the columns 'G'; 'M' says where their inner maps lie. -/
structure Outer (w : World) (base B N : Nat) (G : Col → Option CW) (M : Col → Option Nat) : Prop where
  map : ∃ D, w.ownsMap Try.prog 73 Rh B N D ∧ ∀ c, Col.okc c → (G c = none ∧ Maps.has D c.l = false) ∨ ∃ k, G c = some k ∧ Maps.has D c.l = true ∧ ∀ z, D.atKey c.l z = .held (.agg #[.bool k.d, .int .u64 k.u, .map (M c)])
  inner : ∀ c k, G c = some k → Inner w base N (M c) k.f
  nom : ∀ c, G c = none → M c = none
  apart : ∀ c c' b, M c = some b → M c' = some b → c = c'
  off : ∀ c b, M c = some b → b ≠ B
  ok : ∀ c k, G c = some k → Col.okc c

theorem zeroCW (w : World) : (zeroValue 109).run Try.prog w = .ok (.agg #[.bool false, .int .u64 0, .map none]) w := by kernel_rfl

theorem Outer.look {w : World} {base B N : Nat} {G : Col → Option CW} {M : Col → Option Nat} (h : Outer w base B N G M) {c : Col} (hc : Col.okc c) :
    (Instr.lookup 105 (.map (some B)) c.v false).run Try.prog w = .ok (.agg #[.bool ((G c).getD cw0).d, .int .u64 ((G c).getD cw0).u, .map (M c)]) w := by
  obtain ⟨D, hD, hv⟩ := h.map
  obtain ⟨v, ps, hrun, hR⟩ := hD.lookup lawCol Try.underlying105 (zeroCW w) (zd := .held (.agg #[.bool false, .int .u64 0, .map none])) (zp := []) rfl (Col.key hc)
  have hR' := (Rh_eq hR).1
  rcases hv c hc with ⟨h1, h2⟩ | ⟨k, h1, h2, h3⟩
  · rw [Maps.atKey_of_not_has h2] at hR'
    simp only [DataW.held.injEq] at hR'
    rw [h1, h.nom c h1, hrun, ← hR']; rfl
  · rw [h3] at hR'
    simp only [DataW.held.injEq] at hR'
    rw [h1, hrun, ← hR']; rfl

theorem Outer.lt {w : World} {base B N : Nat} {G : Col → Option CW} {M : Col → Option Nat} (h : Outer w base B N G M) : B < w.heap.size := by
  obtain ⟨D, hD, _⟩ := h.map
  exact hD.lt
theorem Outer.inLt {w : World} {base B N : Nat} {G : Col → Option CW} {M : Col → Option Nat} (h : Outer w base B N G M) {c : Col} {b : Nat} (hb : M c = some b) : b < w.heap.size ∧ base ≤ b := by
  cases hg : G c with
  | none => rw [h.nom c hg] at hb; cases hb
  | some k =>
    rcases h.inner c k hg with ⟨e, _⟩ | ⟨b', n, e, hi, _, hbb⟩
    · rw [e] at hb; cases hb
    · rw [e] at hb
      injection hb with hb
      subst hb
      exact ⟨hi.lt, hbb⟩
theorem Outer.kept {w w' : World} {base B N : Nat} {G : Col → Option CW} {M : Col → Option Nat} (h : Outer w base B N G M) (hg : w.grownBy w' none) : Outer w' base B N G M := by
  obtain ⟨D, hD, hv⟩ := h.map
  exact ⟨⟨D, hD.kept hg (by simp), hv⟩, fun c k hk => (h.inner c k hk).kept hg (by cases M c <;> simp), h.nom, h.apart, h.off, h.ok⟩
theorem Outer.made (w : World) (base : Nat) : Outer (w.alloc (.map #[] 0)) base w.heap.size 0 (fun _ => none) (fun _ => none) :=
  ⟨⟨.map [], World.ownsMap_made w Try.prog 73 Rh, fun c _ => .inl ⟨rfl, rfl⟩⟩, fun c k h => (by cases h), fun _ _ => rfl, fun _ _ _ h => (by cases h), fun _ _ h => (by cases h), fun _ _ h => (by cases h)⟩

theorem Outer.put {w w' : World} {base B N : Nat} {G : Col → Option CW} {M : Col → Option Nat} (h : Outer w base B N G M) {c : Col} (hc : Col.okc c) (hN : N < maxLen) (hg : w.grownBy w' (M c)) (k : CW) (m : Option Nat)
    (hi : Inner w' base (N + 1) m k.f) (hm : m = M c ∨ (M c = none ∧ ∃ b, m = some b ∧ w.heap.size ≤ b)) :
    ∃ w'', (Instr.mapUpdate 105 (.map (some B)) c.v (.agg #[.bool k.d, .int .u64 k.u, .map m])).run Try.prog w' = .ok () w'' ∧
      Outer w'' base B (N + 1) (fun x => if x = c then some k else G x) (fun x => if x = c then m else M x) ∧ w'.grownBy w'' (some B) := by
  obtain ⟨D, hD, hv⟩ := h.map
  have hne : some B ≠ M c := fun q => h.off c B q.symm rfl
  obtain ⟨w'', hrun, ho, hg2⟩ := (hD.kept hg hne).update lawCol Try.underlying105 hN (Col.key hc) (val := .agg #[.bool k.d, .int .u64 k.u, .map m]) (d := .held (.agg #[.bool k.d, .int .u64 k.u, .map m])) (ps := []) rfl
  clear hN
  have hmB : ∀ b, m = some b → b ≠ B := fun b hb => by
    rcases hm with e | ⟨_, b', e, hlt⟩
    · rw [e] at hb; exact h.off c b hb
    · rw [e] at hb
      injection hb with hb
      have := h.lt
      omega
  refine ⟨w'', hrun, ⟨⟨_, ho, fun x hx => ?_⟩, fun x kx hk => ?_, fun x hx => ?_, fun x y b hx hy => ?_, fun x b hx => ?_, fun x kx hk => ?_⟩, hg2⟩
  · by_cases e : x = c
    · subst e
      exact .inr ⟨k, by simp, Maps.has_put_same (hD.kept hg hne).isMap (lawCol.key (Col.key hc)) _, fun z => by rw [if_pos rfl]; exact Maps.atKey_put_same (hD.kept hg hne).isMap (lawCol.key (Col.key hc)) _ z⟩
    · have hl : x.l ≠ c.l := fun q => e (Col.inj hx hc q)
      rcases hv x hx with ⟨h1, h2⟩ | ⟨kk, h1, h2, h3⟩
      · exact .inl ⟨by simp [e, h1], by rw [Maps.has_put_other hl]; exact h2⟩
      · exact .inr ⟨kk, by simp [e, h1], by rw [Maps.has_put_other hl]; exact h2, fun z => by rw [Maps.atKey_put_other hl, if_neg e]; exact h3 z⟩
  · by_cases e : x = c
    · subst e
      simp at hk
      subst hk
      simp only [if_true]
      refine hi.kept hg2 ?_
      cases hq : m with
      | none => exact .inl rfl
      | some b => exact .inr (fun q => hmB b hq (by injection q))
    · simp [e] at hk
      simp only [e, if_false]
      have h0 := h.inner x kx hk
      have h1 : Inner w' base N (M x) kx.f := h0.kept hg (by
        cases hq : M x with
        | none => exact .inl rfl
        | some b => exact .inr (fun q => e (h.apart x c b hq q.symm)))
      refine (h1.kept hg2 ?_).mono (by omega)
      cases hq : M x with
      | none => exact .inl rfl
      | some b => exact .inr (fun q => h.off x b hq (by injection q))
  · by_cases e : x = c
    · simp [e] at hx
    · simp [e] at hx ⊢
      exact h.nom x hx
  · by_cases e : x = c
    · by_cases e' : y = c
      · rw [e, e']
      · simp [e] at hx
        simp [e'] at hy
        rcases hm with q | ⟨_, b', q, hlt⟩
        · rw [q] at hx; rw [e]; exact h.apart c y b hx hy
        · rw [q] at hx
          have hx' : b' = b := Option.some.inj hx
          exact absurd (h.inLt hy).1 (by rw [← hx']; exact Nat.not_lt.2 hlt)
    · by_cases e' : y = c
      · simp [e] at hx
        simp [e'] at hy
        rcases hm with q | ⟨_, b', q, hlt⟩
        · rw [q] at hy; rw [e']; exact h.apart x c b hx hy
        · rw [q] at hy
          have hy' : b' = b := Option.some.inj hy
          exact absurd (h.inLt hx).1 (by rw [← hy']; exact Nat.not_lt.2 hlt)
      · simp [e] at hx
        simp [e'] at hy
        exact h.apart x y b hx hy
  · by_cases e : x = c
    · simp [e] at hx; exact hmB b hx
    · simp [e] at hx; exact h.off x b hx
  · by_cases e : x = c
    · rw [e]; exact hc
    · simp [e] at hk; exact h.ok x kx hk
end Go.Proofs.Ytnncedndlhfdkac

/-
  impl.appendEntries: what a column leaves, appended.
-/
namespace Go.Proofs.Ytnncedndlhfdkac
open Go.ChangeShapes Go.WideShapes Go.ChangeAt Go.RowKit Go.Deep Go.Maps
set_option linter.unusedVariables false
set_option maxRecDepth 100000

/-- One entry appended to a row of the call's own: and where the row then lies. -/
theorem wpList_append_entAt {ops : Array Oper} {rest : List Oper} {o : Oper} {a : Act} {Q : Exit → Act → World → Prop} (w : World) (hgd : o.guard = none) (s x : Operand)
    (ho : o.op = .call { callee := .builtin .append, args := #[s, x], argTypes := #[38, 38] })
    (base g cp n blk : Nat) (fs : List Ent) (e : Ent) (hs : a.eval s = .slice (some ⟨g, 0, none⟩) n cp) (hx : a.eval x = .slice (some ⟨blk, 0, none⟩) 1 1) (hn : n = fs.length) (hO : OwnE w base g cp fs)
    (hc : EntsAt w blk 0 [e]) (hlen : fs.length ≤ 2 ^ 30) (hbase : base ≤ w.heap.size)
    (h : ∀ g' cp' w', OwnE w' base g' cp' (fs ++ [e]) → w.grownBy w' (some g) → (g' = g ∨ g' = w.heap.size) → wpList Try.prog ops Q rest (a.put o.dst (.slice (some ⟨g', 0, none⟩) (n + 1) cp')) w') : wpList Try.prog ops Q (o :: rest) a w := by
  obtain ⟨i, hi, hz0, hz1, hz2⟩ := info_parts Try.infoEnt
  subst hn
  obtain ⟨c0, c1, c2, c3, c4, c5⟩ := hc 0 e rfl
  refine wpList_append_own_at w hgd s x 38 ho base 63 i _ 6 80 Try.underlying38 hi hz0 hz1 hz2 rfl (by decide) (.slice (some ⟨g, 0, none⟩) fs.length cp) fs.length (cellsE fs) hs hO ⟨blk, 0, none⟩ 1 1 (cellsE [e]) hx rfl ?_ ?_ ?_ ?_ hbase ?_
  · intro j u hu
    have hj : j < 6 := by
      have := (List.getElem?_eq_some_iff.1 hu).1
      rw [length_cellsE] at this
      simpa using this
    rw [Addr.add_mid, Nat.zero_add]
    simp only [Nat.zero_mul, Nat.zero_add] at c0 c1 c2 c3 c4 c5
    match j, hj, hu with
    | 0, _, hu => simp [cellsE] at hu; rw [← hu]; exact c0
    | 1, _, hu => simp [cellsE] at hu; rw [← hu]; exact c1
    | 2, _, hu => simp [cellsE] at hu; rw [← hu]; exact c2
    | 3, _, hu => simp [cellsE] at hu; rw [← hu]; exact c3
    | 4, _, hu => simp [cellsE] at hu; rw [← hu]; exact c4
    | 5, _, hu => simp [cellsE] at hu; rw [← hu]; exact c5
  · intro u hu
    simp [cellsE] at hu
    rcases hu with rfl | rfl | rfl | rfl | rfl | rfl <;> rfl
  · unfold maxLen; omega
  · omega
  · intro v' w' hown hgr hnil hloc
    rw [← cellsE_append] at hown
    have hlen' : (fs ++ [e]).length = fs.length + 1 := by simp
    rcases hown.2 with ⟨hv, _⟩ | ⟨g', cap', cur, hv, h1, h2, h3⟩
    · have := (hnil.1 hv).1
      simp at this
    · subst hv
      refine h g' cap' w' (by unfold OwnE; rw [hlen']; exact hown) hgr ?_
      rcases hloc with q | q
      · exact .inl (Option.some.inj q)
      · exact .inr (Option.some.inj q)

theorem OwnE.kept {w w' : World} {base g cp : Nat} {fs : List Ent} {row : Option Nat} (h : OwnE w base g cp fs) (hg : w.grownBy w' row) (hne : some g ≠ row) : OwnE w' base g cp fs :=
  World.ownsRow.kept h hg (.inr hne)
theorem OwnE.ne_map {w : World} {base g cp b : Nat} {fs : List Ent} {es : Array MapEntry} {ck : Nat} (h : OwnE w base g cp fs) (hb : w.heap[b]? = some (.map es ck)) : g ≠ b := by
  rcases h.2 with ⟨h0, _⟩ | ⟨g', cap', cur, hv, _, hc, _⟩
  · cases h0
  · simp only [Value.slice.injEq, Option.some.injEq, Addr.mk.injEq, and_true, true_and] at hv
    obtain ⟨rfl, rfl⟩ := hv
    intro q
    rw [q, hb] at hc
    cases hc

/-- The delete that a column's state tells. -/
def delE (c : Col) (u : Int) : Ent := ⟨c.1, c.2.1, c.2.2, u, 2, ⟨#[]⟩⟩
def del0 (d : Bool) (c : Col) (u : Int) : List Ent := if d = true then [delE c u] else []

set_option maxHeartbeats 4000000 in
set_option maxRecDepth 100000 in
theorem appendE_none (d : Bool) (u : Int) (c : Col) (base g cp : Nat) (fs : List Ent) (w : World) (hO : OwnE w base g cp fs) (hlen : fs.length ≤ 2 ^ 28) (hbase : base ≤ w.heap.size) :
    Calls Try.prog 69 #[.agg #[.bool d, .int .u64 u, .map none], .slice (some ⟨g, 0, none⟩) fs.length cp, c.v] w fun r w' =>
      ∃ g' cp', r = .returned (.slice (some ⟨g', 0, none⟩) (fs ++ del0 d c u).length cp') ∧ OwnE w' base g' cp' (fs ++ del0 d c u) ∧ w.grownBy w' (some g) ∧ (g' = g ∨ w.heap.size ≤ g') := by
  have hg := hO.lt
  have HO : Hid (OwnE w base g cp fs) := hO
  clear hO
  obtain ⟨r, f, q⟩ := c
  unfold Col.v colV
  simp only
  cases d
  · have hrg := run_range_nilMap (P := Try.prog) ((w.alloc (Obj.cells #[.bool false, .int .u64 u, .map none] 109)).alloc (Obj.cells #[.string r, .string f, .string q] 73)) 107 _ _ Try.underlying107
    have hnx : ∀ ty, (Instr.next (.pointer (some ⟨((w.alloc (Obj.cells #[.bool false, .int .u64 u, .map none] 109)).alloc (Obj.cells #[.string r, .string f, .string q] 73)).heap.size, 0, none⟩)) false ty).run Try.prog (((w.alloc (Obj.cells #[.bool false, .int .u64 u, .map none] 109)).alloc (Obj.cells #[.string r, .string f, .string q] 73)).alloc (.mapIter none 0 #[] 0)) = _ := fun ty => run_next_nilMap _ ty 0 0 #[]
    have e1 : ((w.alloc (Obj.cells #[.bool false, .int .u64 u, .map none] 109)).alloc (Obj.cells #[.string r, .string f, .string q] 73)).heap.size = w.heap.size + 1 + 1 := by simp
    rw [e1] at hrg hnx
    clear e1
    go_enter Try.func69, Try.ntmps69
    go_wp2_with fail
    go_loopw [1] (fun s wr => s = .slice (some ⟨g, 0, none⟩) fs.length cp ∧ wr = (((w.alloc (Obj.cells #[.bool false, .int .u64 u, .map none] 109)).alloc (Obj.cells #[.string r, .string f, .string q] 73)).alloc (.mapIter none 0 #[] 0))) (fun _ _ => 0)
    case atStart => exact ⟨rfl, rfl⟩
    case round =>
      obtain ⟨rfl, rfl⟩ := hrel
      go_wp2_with fail
      go_ret
      have hb : Below w.heap.size w (((w.alloc (Obj.cells #[.bool false, .int .u64 u, .map none] 109)).alloc (Obj.cells #[.string r, .string f, .string q] 73)).alloc (.mapIter none 0 #[] 0)) := (((Below.refl _ _).alloc (Nat.le_refl _) _).alloc (by simp) _).alloc (by simp; omega) _
      refine ⟨g, cp, by simp [del0], ?_, grown_of_below hb _, .inl rfl⟩
      simp only [del0, List.append_nil, Bool.false_eq_true, if_false]
      exact HO.out.below hb hg.2
  · have hrg : ∀ W : World, (Instr.range 107 (.map none)).run Try.prog W = .ok (.pointer (some ⟨W.heap.size, 0, none⟩)) (W.alloc (.mapIter none 0 #[] 0)) := fun W => run_range_nilMap (P := Try.prog) W 107 _ _ Try.underlying107
    have hnx : ∀ (W : World) ty, (Instr.next (.pointer (some ⟨W.heap.size, 0, none⟩)) false ty).run Try.prog (W.alloc (.mapIter none 0 #[] 0)) = .ok (.tuple #[.bool false]) (W.alloc (.mapIter none 0 #[] 0)) := fun W ty => run_next_nilMap W ty 0 0 #[]
    go_enter Try.func69, Try.ntmps69
    go_wp2_with (at_builtin; refine wpList_append_entAt _ rfl _ _ rfl base g cp _ _ fs (delE (r, f, q) u) rfl rfl rfl ?hO ?hc ?hl ?hb ?_)
    case hO => exact HO.out.below ((((Below.refl _ _).alloc (Nat.le_refl _) _).alloc (by simp) _).alloc (by simp; omega) _) hg.2
    case hc =>
      have h := ent_new ((w.alloc (Obj.cells #[.bool true, .int .u64 u, .map none] 109)).alloc (Obj.cells #[.string r, .string f, .string q] 73)) (delE (r, f, q) u)
      simpa [delE] using h
    case hl => omega
    case hb => simp; omega
    intro g' cp' w' hO' hgr hloc
    have hb3 : Below w.heap.size w (((w.alloc (Obj.cells #[.bool true, .int .u64 u, .map none] 109)).alloc (Obj.cells #[.string r, .string f, .string q] 73)).alloc (Obj.cells #[.string r, .string f, .string q, .int .u64 u, .int .i64 2, .string ⟨#[]⟩] 63)) := (((Below.refl _ _).alloc (Nat.le_refl _) _).alloc (by simp) _).alloc (by simp; omega) _
    have c2 : w'.cell? ⟨w.heap.size, 2, none⟩ = some (.map none) := by
      have hk := hgr.block w.heap.size (by simp; omega) (fun q => by injection q; omega)
      rw [World.cell?_of_block (a := ⟨w.heap.size, 2, none⟩) hk]
      go_simp
    have hgw : w.grownBy w' (some g) := ⟨hgr.os.trans hb3.os, hgr.tape.trans hb3.tape, hgr.output.trans hb3.output, Nat.le_trans hb3.size hgr.size, fun j hj hne => (hgr.block j (by simp; omega) hne).trans (hb3.block j hj)⟩
    have HO' : Hid (OwnE w' base g' cp' (fs ++ [delE (r, f, q) u]) ∧ w.grownBy w' (some g) ∧ (g' = g ∨ w.heap.size ≤ g')) := ⟨hO', hgw, hloc.imp id (fun q => by first | omega | (rw [q]; omega) | (rw [q]; simp; omega))⟩
    clear hO' hgr hloc hb3 hgw
    go_wp2_with fail
    go_loopw [1] (fun s wr => s = .slice (some ⟨g', 0, none⟩) (fs.length + 1) cp' ∧ wr = w'.alloc (.mapIter none 0 #[] 0)) (fun _ _ => 0)
    case atStart => exact ⟨rfl, rfl⟩
    case round =>
      obtain ⟨rfl, rfl⟩ := hrel
      go_wp2_with fail
      go_ret
      have hb : Below w'.heap.size w' (w'.alloc (.mapIter none 0 #[] 0)) := (Below.refl _ _).alloc (Nat.le_refl _) _
      refine ⟨g', cp', by simp [del0], ?_, HO'.out.2.1.trans (grown_of_below hb _), HO'.out.2.2⟩
      simp only [del0, if_true]
      exact HO'.out.1.below hb HO'.out.1.lt.2

/-- The entries that a map from timestamps holds. -/
def Holds6 (F : Int → Option Ent) (S : List Ent) : Prop := (∀ x, x ∈ S ↔ ∃ t, (Lit.int .u64 t).wf = true ∧ F t = some x) ∧ S.Nodup
def HoldsTo (F : Int → Option Ent) (left : Lit → Bool) (S : List Ent) : Prop := (∀ x, x ∈ S ↔ ∃ t, (Lit.int .u64 t).wf = true ∧ F t = some x ∧ left (.int .u64 t) = false) ∧ S.Nodup
theorem holdsTo_step {F : Int → Option Ent} {left : Lit → Bool} {S : List Ent} {t : Int} {e : Ent} (h : HoldsTo F left S) (hts : ∀ t e, F t = some e → e.ts = t) (hw : (Lit.int .u64 t).wf = true) (he : F t = some e) (hl : left (.int .u64 t) = true) :
    HoldsTo F (fun z => left z && !z.sameKey (.int .u64 t)) (S ++ [e]) := by
  have hkey : WideAt.IsKeyLit (.int .u64 t) := lawTs.key (keyTs hw)
  have hne : e ∉ S := fun hm => by
    obtain ⟨t', h1, h2, h3⟩ := (h.1 e).1 hm
    have : t' = t := (hts t' e h2).symm.trans (hts t e he)
    subst this
    rw [hl] at h3
    cases h3
  refine ⟨fun x => ?_, ?_⟩
  · rw [List.mem_append, h.1 x]
    constructor
    · rintro (⟨t', h1, h2, h3⟩ | hx)
      · exact ⟨t', h1, h2, by simp [h3]⟩
      · simp at hx
        subst hx
        exact ⟨t, hw, he, by simp [Lit.sameKey]⟩
    · rintro ⟨t', h1, h2, h3⟩
      by_cases q : t' = t
      · subst q
        rw [he] at h2
        simp at h2
        right; simp [h2]
      · left
        have hs : (Lit.int .u64 t').sameKey (.int .u64 t) = false := Maps.sameKey_ne (fun e => q (by injection e))
        refine ⟨t', h1, h2, ?_⟩
        simpa [hs] using h3
  · rw [List.nodup_append]
    exact ⟨h.2, by simp, fun a ha b hb => by simp at hb; subst hb; exact fun q => hne (q ▸ ha)⟩

set_option maxHeartbeats 4000000 in
set_option maxRecDepth 100000 in
theorem appendE_some (d : Bool) (u : Int) (c : Col) (b n base g cp : Nat) (F : Int → Option Ent) (fs : List Ent) (w : World) (hI : Inn w b n F) (hts : ∀ t e, F t = some e → e.ts = t) (hO : OwnE w base g cp fs) (hlen : fs.length ≤ 2 ^ 28) (hn : n ≤ 2 ^ 20) (hbase : base ≤ w.heap.size) :
    Calls Try.prog 69 #[.agg #[.bool d, .int .u64 u, .map (some b)], .slice (some ⟨g, 0, none⟩) fs.length cp, c.v] w fun r w' =>
      ∃ g' cp' S, r = .returned (.slice (some ⟨g', 0, none⟩) (fs ++ del0 d c u ++ S).length cp') ∧ OwnE w' base g' cp' (fs ++ del0 d c u ++ S) ∧ Holds6 F S ∧ w.grownBy w' (some g) ∧ (g' = g ∨ w.heap.size ≤ g') ∧ S.length ≤ n := by
  have hg := hO.lt
  have hbl := hI.lt
  have HO : Hid (OwnE w base g cp fs ∧ Inn w b n F ∧ ∀ t e, F t = some e → e.ts = t) := ⟨hO, hI, hts⟩
  have hgb : g ≠ b := by
    obtain ⟨D, ⟨es, ck, hh, _⟩, _⟩ := hI
    exact hO.ne_map hh
  clear hO hI hts
  obtain ⟨r, f, q⟩ := c
  unfold Col.v colV
  simp only
  go_enter Try.func69, Try.ntmps69
  go_upto_if 10 with fail
  go_cut [1] (fun s wx => ∃ g1 cp1, s = .slice (some ⟨g1, 0, none⟩) (fs ++ del0 d (r, f, q) u).length cp1 ∧ OwnE wx base g1 cp1 (fs ++ del0 d (r, f, q) u) ∧ w.grownBy wx (some g) ∧ (g1 = g ∨ w.heap.size ≤ g1) ∧ wx.cell? ⟨w.heap.size, 2, none⟩ = some (.map (some b)) ∧ w.heap.size + 2 ≤ wx.heap.size)
  case first =>
    cases d
    · go_wp2_with fail
      go_meet
      have hb2 : Below w.heap.size w ((w.alloc (Obj.cells #[.bool false, .int .u64 u, .map (some b)] 109)).alloc (Obj.cells #[.string r, .string f, .string q] 73)) := ((Below.refl _ _).alloc (Nat.le_refl _) _).alloc (by simp) _
      refine ⟨g, cp, by simp [del0], ?_, grown_of_below hb2 _, .inl rfl, by go_simp, by simp⟩
      simp only [del0, List.append_nil, Bool.false_eq_true, if_false]
      exact HO.out.1.below hb2 hg.2
    · go_wp2_with (at_builtin; refine wpList_append_entAt _ rfl _ _ rfl base g cp _ _ fs (delE (r, f, q) u) rfl rfl rfl ?hO ?hc ?hl ?hb ?_)
      case hO => exact HO.out.1.below ((((Below.refl _ _).alloc (Nat.le_refl _) _).alloc (by simp) _).alloc (by simp; omega) _) hg.2
      case hc =>
        have h := ent_new ((w.alloc (Obj.cells #[.bool true, .int .u64 u, .map (some b)] 109)).alloc (Obj.cells #[.string r, .string f, .string q] 73)) (delE (r, f, q) u)
        simpa [delE] using h
      case hl => omega
      case hb => simp; omega
      intro g' cp' w' hO' hgr hloc
      have hb3 : Below w.heap.size w (((w.alloc (Obj.cells #[.bool true, .int .u64 u, .map (some b)] 109)).alloc (Obj.cells #[.string r, .string f, .string q] 73)).alloc (Obj.cells #[.string r, .string f, .string q, .int .u64 u, .int .i64 2, .string ⟨#[]⟩] 63)) := (((Below.refl _ _).alloc (Nat.le_refl _) _).alloc (by simp) _).alloc (by simp; omega) _
      have c2 : w'.cell? ⟨w.heap.size, 2, none⟩ = some (.map (some b)) := by
        have hk := hgr.block w.heap.size (by simp; omega) (fun q => by injection q; omega)
        rw [World.cell?_of_block (a := ⟨w.heap.size, 2, none⟩) hk]
        go_simp
      have hgw : w.grownBy w' (some g) := ⟨hgr.os.trans hb3.os, hgr.tape.trans hb3.tape, hgr.output.trans hb3.output, Nat.le_trans hb3.size hgr.size, fun j hj hne => (hgr.block j (by simp; omega) hne).trans (hb3.block j hj)⟩
      have HO' : Hid (OwnE w' base g' cp' (fs ++ [delE (r, f, q) u]) ∧ w.grownBy w' (some g) ∧ (g' = g ∨ w.heap.size ≤ g') ∧ w.heap.size + 2 ≤ w'.heap.size) := ⟨hO', hgw, hloc.imp id (fun q => by first | omega | (rw [q]; omega) | (rw [q]; simp; omega)), by have := hgr.size; simp at this; omega⟩
      clear hO' hgr hloc hb3 hgw
      go_wp2_with fail
      go_meet
      refine ⟨g', cp', by simp [del0], ?_, HO'.out.2.1, HO'.out.2.2.1, c2, HO'.out.2.2.2⟩
      simp only [del0, if_true]
      exact HO'.out.1
  case rest =>
  obtain ⟨g1, cp1, rfl, hO1, hgw, hloc, c2, hsz⟩ := hcut
  obtain ⟨D, hD, hv⟩ := HO.out.2.1.kept hgw (fun q => hgb (Option.some.inj q).symm)
  obtain ⟨fs1, hfs1⟩ : ∃ fs1 : List Ent, fs1 = fs ++ del0 d (r, f, q) u := ⟨_, rfl⟩
  rw [← hfs1] at hO1 ⊢
  have hfl : fs1.length ≤ 2 ^ 28 + 1 := by
    rw [hfs1]; unfold del0; split <;> simp <;> omega
  have HO1 : Hid (OwnE wc base g1 cp1 fs1 ∧ w.grownBy wc (some g) ∧ (g1 = g ∨ w.heap.size ≤ g1)) := ⟨hO1, hgw, hloc⟩
  have HV : Hid (∀ t, (Lit.int .u64 t).wf = true → (F t = none ∧ Maps.has D (.int .u64 t) = false) ∨ ∃ e, F t = some e ∧ Maps.has D (.int .u64 t) = true ∧ ∀ z, D.atKey (.int .u64 t) z = .held e.v) := hv
  have hsd := hD.size_le
  have hbw := hD.lt
  have HFS : Hid (fs1 = fs ++ del0 d (r, f, q) u) := hfs1
  have hg1 := hO1.lt
  have hgs := hgw.size
  clear hv hfs1 hO1 hgw hloc
  go_wp2_with (at_range; refine wpList_range_own _ rfl _ 107 rfl 61 63 lawTs Try.underlying107 Rh b n D rfl hD ?_; intro w0 hrg0 hg0 hs0)
  go_frame
  have HS0 : Hid (HoldsTo F (Maps.has D) []) := by
    refine ⟨fun x => ⟨fun h => by simp at h, ?_⟩, List.nodup_nil⟩
    rintro ⟨t, h1, h2, h3⟩
    rcases HV.out t h1 with ⟨q1, _⟩ | ⟨e, _, q2, _⟩
    · rw [q1] at h2; cases h2
    · rw [q2] at h3; cases h3
  have hgb1 : g1 ≠ b := by
    obtain ⟨es, ck, hh, _⟩ := hD
    exact HO1.out.1.ne_map hh
  go_loopw [1] (fun s wr => ∃ (left : Lit → Bool) (cnt : Nat) (S : List Ent) (g2 cp2 : Nat), s = .slice (some ⟨g2, 0, none⟩) (fs1.length + S.length) cp2 ∧ OwnE wr base g2 cp2 (fs1 ++ S) ∧ wr.ranges Try.prog 61 Rh b wc.heap.size n D left cnt ∧ HoldsTo F left S ∧ S.length + cnt ≤ n ∧ w.grownBy wr (some g) ∧ (g2 = g ∨ w.heap.size ≤ g2) ∧ g2 ≠ b ∧ g2 ≠ wc.heap.size) (fun _ wr => wr.rangeLeft b wc.heap.size)
  case atStart =>
    exact ⟨Maps.has D, Maps.size D, [], g1, cp1, by simp, by rw [List.append_nil]; exact HO1.out.1.kept hg0 (by simp), hrg0, HS0.out, by simpa using hsd, HO1.out.2.1.trans (hg0.but _), HO1.out.2.2, hgb1, by omega⟩
  case round =>
    obtain ⟨left, cnt, S, g2, cp2, rfl, hO2, hrg, hH, hcn, hgr2, hloc2, hne1, hne2⟩ := hrel
    have HR : Hid (OwnE wr base g2 cp2 (fs1 ++ S) ∧ HoldsTo F left S ∧ w.grownBy wr (some g) ∧ (g2 = g ∨ w.heap.size ≤ g2)) := ⟨hO2, hH, hgr2, hloc2⟩
    have hg2 := hO2.lt
    have hs2 := hgr2.size
    have hrl := hrg.lt
    clear hO2 hH hgr2 hloc2
    go_wp2_with (at_next; refine wpList_next_ranges _ rfl _ rfl 61 lawTs Rh (fun t : Int => Value.int .u64 t) (fun v : Value => v) (fun key kl h => by obtain ⟨x, h1, _⟩ := Maps.keyOf_int_inv Try.underlying61 h; exact ⟨x, h1⟩) (fun v y _ => ⟨v, rfl⟩) b wc.heap.size n D left cnt rfl hrg ?_ ?_)
    · intro h0 hl
      have HL : Hid (∀ kl, left kl = false) := hl
      clear hl
      go_wp2_with fail
      go_ret
      refine ⟨g2, cp2, S, ?_, ?_, ?_, HR.out.2.2.1, HR.out.2.2.2, by omega⟩
      · rw [← HFS.out, List.length_append]; rfl
      · rw [← HFS.out]; exact HR.out.1
      · refine ⟨fun x => (HR.out.2.1.1 x).trans ⟨fun ⟨t, a1, a2, _⟩ => ⟨t, a1, a2⟩, fun ⟨t, a1, a2⟩ => ⟨t, a1, a2, HL.out _⟩⟩, HR.out.2.1.2⟩
    · intro x c kl y1 y2 w1 cnt1 hkey hlk hvv hat hrg1 hlt1 hg1' hs1 hen
      obtain ⟨x', q1, q2, q3⟩ := Maps.keyOf_int_inv Try.underlying61 hkey
      have q4 : x' = x := by injection q1 with _ q; exact q.symm
      subst q4
      subst q2
      obtain ⟨e, he, hce⟩ : ∃ e, F x' = some e ∧ c = e.v := by
        rcases HV.out x' q3 with ⟨_, h2⟩ | ⟨e, h1, h2, h3⟩
        · have := hat (.held (.bool true))
          rw [Maps.atKey_of_not_has h2] at this
          have h5 := hat (.held (.bool false))
          rw [Maps.atKey_of_not_has h2] at h5
          rw [← h5] at this
          cases this
        · refine ⟨e, h1, ?_⟩
          have h4 := hat (.held (.bool true))
          rw [h3] at h4
          have h5 := (Rh_eq hvv).1
          rw [h5] at h4
          injection h4 with h4
          exact h4.symm
      subst hce
      have HE : Hid (F x' = some e ∧ (Lit.int .u64 x').wf = true ∧ left (.int .u64 x') = true) := ⟨he, q3, hlk⟩
      clear he q3 hlk hat hvv hkey q1
      unfold Ent.v at *
      have HO3 : Hid (OwnE w1 base g2 cp2 (fs1 ++ S)) := HR.out.1.kept hg1' (fun q => hne2 (Option.some.inj q))
      have hs1' : w1.heap.size = wr.heap.size := hs1
      have HS1 : Hid (w1.heap.size = wr.heap.size) := hs1'
      have hle1 : wr.heap.size ≤ w1.heap.size := by omega
      have hle2 : w1.heap.size ≤ wr.heap.size := by omega
      have HG1 : Hid (wr.grownBy w1 (some wc.heap.size)) := hg1'
      clear hs1 hs1' hg1'
      go_wp2_with (at_builtin; refine wpList_append_entAt _ rfl _ _ rfl base g2 cp2 _ _ (fs1 ++ S) e rfl rfl (by simp) ?hO ?hc ?hl ?hb ?_)
      case hO => exact HO3.out.below (((Below.refl _ _).alloc (Nat.le_refl _) _).alloc (by simp) _) (by omega)
      case hc =>
        have h := ent_new (w1.alloc (Obj.cells #[.string e.row, .string e.fam, .string e.qual, .int .u64 e.ts, .int .i64 e.kind, .string e.val] 63)) e
        simpa using h
      case hl => simp; omega
      case hb => simp; omega
      intro g' cp' w' hO' hgr hloc
      have hbx : Below w1.heap.size w1 ((w1.alloc (Obj.cells #[.string e.row, .string e.fam, .string e.qual, .int .u64 e.ts, .int .i64 e.kind, .string e.val] 63)).alloc (Obj.cells #[.string e.row, .string e.fam, .string e.qual, .int .u64 e.ts, .int .i64 e.kind, .string e.val] 63)) := ((Below.refl _ _).alloc (Nat.le_refl _) _).alloc (by simp) _
      have hg4 : w1.grownBy w' (some g2) := ⟨hgr.os.trans hbx.os, hgr.tape.trans hbx.tape, hgr.output.trans hbx.output, Nat.le_trans hbx.size hgr.size, fun j hj hne => (hgr.block j (by simp; omega) hne).trans (hbx.block j hj)⟩
      have hrg4 := hrg1.kept hg4 (fun q => hne1 (Option.some.inj q).symm) (fun q => hne2 (Option.some.inj q).symm)
      have hgw' : w.grownBy w' (some g) := by
        have a1 := HR.out.2.2.1.andThen HG1.out (fun j hj => by cases hj; left; omega)
        exact a1.andThen hg4 (fun j hj => by
          cases hj
          rcases HR.out.2.2.2 with q | q
          · right; rw [q]
          · left; exact q)
      have hloc' : g' = g ∨ w.heap.size ≤ g' := by
        rcases hloc with q | q
        · rw [q]; exact HR.out.2.2.2
        · right
          first
            | omega
            | (rw [q]; simp; omega)
      have hne1' : g' ≠ b := by
        obtain ⟨es, ck, hh, _⟩ := hrg4.owns
        exact hO'.ne_map hh
      have hne2' : g' ≠ wc.heap.size := by
        rcases hloc with q | q
        · rw [q]; exact hne2
        · intro q2
          have h5 := q.symm.trans q2
          first
            | omega
            | (simp at h5; omega)
      have HF : Hid (OwnE w' base g' cp' (fs1 ++ (S ++ [e])) ∧ HoldsTo F (fun z => left z && !z.sameKey (.int .u64 x')) (S ++ [e]) ∧ w.grownBy w' (some g) ∧ (g' = g ∨ w.heap.size ≤ g')) := ⟨hO', holdsTo_step HR.out.2.1 HO.out.2.2 HE.out.2.1 HE.out.1 HE.out.2.2, hgw', hloc'⟩
      clear hO' hgr hloc hbx hg4 hgw' hloc' hrg1 hen
      go_wp2_with fail
      go_roundw
      case rel =>
        refine ⟨_, cnt1, S ++ [e], g', cp', ?_, ?_, hrg4, HF.out.2.1, ?_, HF.out.2.2.1, HF.out.2.2.2, hne1', hne2'⟩
        · simp; omega
        · exact HF.out.1
        · simp; omega
      case measure => rw [hrg4.left_eq, hrg.left_eq]; exact hlt1
end Go.Proofs.Ytnncedndlhfdkac

