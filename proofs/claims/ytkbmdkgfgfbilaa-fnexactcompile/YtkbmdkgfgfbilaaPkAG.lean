import Derived.Test.YtkbmdkgfgfbilaaPkAF
import Derived.Test.YtkbmdkgfgfbilaaPkAE
/-
  Instructions with marks: markInsS, heldInsS.
-/
namespace Go.Proofs.Ytkbmdkgfgfbilaa
open Go.ChangeShapes Go.WideShapes Go.ChangeAt Go.RowKit Go.Deep
set_option linter.unusedVariables false
set_option linter.unusedSimpArgs false
set_option maxRecDepth 100000

/-- The instruction that the marks from 'k' on make. -/
def mIx (k : Int) : Ix := ⟨k, k + 1, k + 1 + 1, thirdB (k + 1 + 1 + 1), mNd (k + 1 + 1 + 1 + 1)⟩
def markedX (k : Int) (es : List Ix) (i : Nat) : Prop := ∀ j : Nat, j < i → es[j]? = some (mIx (k + j * 11))
theorem OwnX.upd {w : World} {base g cap m j : Nat} {fs : List Ix} {f f' : Ix} {u : Value} (h : OwnX w base g cap (fs.set m f)) (hm : m < fs.length) (hj : j < 11) (hc : f'.ten = f.ten.set j u) :
    OwnX (w.setCell ⟨g, m * 11 + j, none⟩ u) base g cap (fs.set m f') := by
  have := h.set m j f f' u (by simp [hm]) hj hc
  rwa [List.set_set] at this
theorem markedX_set {k : Int} {fs : List Ix} {m : Nat} (h : markedX k fs m) (hm : m < fs.length) : markedX k (fs.set m (mIx (k + m * 11))) (m + 1) := by
  intro j hj
  by_cases e : j = m
  · subst e; simp [hm]
  · rw [List.getElem?_set_ne (by omega)]; exact h j (by omega)
set_option maxHeartbeats 8000000 in
theorem markInsS_core (base g cap : Nat) (es : List Ix) (k : Int) (w : World) (hO : OwnX w base g cap es) (h0 : 0 < k) (h1 : k ≤ 2 ^ 30) (hn : es.length ≤ 1048576) :
    Calls Try.prog 56 #[.slice (some ⟨g, 0, none⟩) es.length cap, .int .i64 k] w fun e w' =>
      ∃ fs, e = .returned (.int .i64 (k + es.length * 11)) ∧ OwnX w' base g cap fs ∧ fs.length = es.length ∧ markedX k fs es.length ∧ w.grownBy w' (some g) := by
  have HO : Hid (OwnX w base g cap es) := hO
  clear hO
  go_enter Try.func56, Try.ntmps56
  go_wp2
  go_loopw [1, 5] (fun c i wr => ∃ (m : Nat) (a : Int) (fs : List Ix), m ≤ es.length ∧ i = .int .i64 m ∧ c = .int .i64 a ∧ a = k + m * 11 ∧ OwnX wr base g cap fs ∧ fs.length = es.length ∧ markedX k fs m ∧ w.grownBy wr (some g)) (fun _ i _ => es.length - (intOf i).toNat)
  case atStart => exact ⟨0, k, es, Nat.zero_le _, rfl, rfl, by simp, HO.out, rfl, fun j hj => by omega, grown_of_below (Below.refl _ _) _⟩
  case round =>
    obtain ⟨m, a, fs, hm, rfl, rfl, ha, hO, hfl, hmk, hgr⟩ := hrel
    have HR : Hid (a = k + m * 11 ∧ OwnX wr base g cap fs ∧ fs.length = es.length ∧ markedX k fs m) := ⟨ha, hO, hfl, hmk⟩
    have ha0 : 0 < a := by omega
    have ha1 : a ≤ 2 ^ 31 := by omega
    have HG : Hid (w.grownBy wr (some g)) := hgr
    clear hO hfl hmk ha hgr
    by_cases hlt : m < es.length
    · obtain ⟨f, hf⟩ : ∃ f, fs[m]? = some f := ⟨_, List.getElem?_eq_getElem (by rw [HR.out.2.2.1]; exact hlt)⟩
      have HF : Hid (fs[m]? = some f ∧ m < fs.length) := ⟨hf, by rw [HR.out.2.2.1]; exact hlt⟩
      have hsf : fs.set m f = fs := by
        have h9 : fs[m]'(HF.out.2) = f := Option.some.inj ((List.getElem?_eq_getElem HF.out.2).symm.trans hf)
        rw [← h9]; exact List.set_getElem_self HF.out.2
      clear hf
      obtain ⟨c0, c1, c2, c3, c4, _⟩ := HR.out.2.1.at m f HF.out.1
      simp only [Nat.zero_add] at c0 c1 c2 c3 c4
      have z0 := fun j => World.ownsRow.frozenAt HR.out.2.1 j
      have hOf : OwnX wr base g cap (fs.set m f) := by rw [hsf]; exact HR.out.2.1
      have H0 : Hid (OwnX (((((wr.setCell ⟨g, m * 11, none⟩ (.int .i64 a)).setCell ⟨g, m * 11 + 1, none⟩ (.int .i64 (a + 1))).setCell ⟨g, m * 11 + 2, none⟩ (.int .i64 (a + 1 + 1))).setCell ⟨g, m * 11 + 3, none⟩ (.bool ((a + 1 + 1 + 1) % 3 == 0))).setCell ⟨g, m * 11 + 4, none⟩ (.int .i64 (a + 1 + 1 + 1 + 1))) base g cap (fs.set m { f with op := a, a := a + 1, b := a + 1 + 1, free := ((a + 1 + 1 + 1) % 3 == 0), leaf := { f.leaf with kind := a + 1 + 1 + 1 + 1 } }) ∧ w.grownBy (((((wr.setCell ⟨g, m * 11, none⟩ (.int .i64 a)).setCell ⟨g, m * 11 + 1, none⟩ (.int .i64 (a + 1))).setCell ⟨g, m * 11 + 2, none⟩ (.int .i64 (a + 1 + 1))).setCell ⟨g, m * 11 + 3, none⟩ (.bool ((a + 1 + 1 + 1) % 3 == 0))).setCell ⟨g, m * 11 + 4, none⟩ (.int .i64 (a + 1 + 1 + 1 + 1))) (some g)) :=
        ⟨(((((hOf.upd (j := 0) (u := .int .i64 a) (f' := { f with op := a }) HF.out.2 (by omega) rfl).upd (j := 1) (u := .int .i64 (a + 1)) (f' := { f with op := a, a := a + 1 }) HF.out.2 (by omega) rfl).upd (j := 2) (u := .int .i64 (a + 1 + 1)) (f' := { f with op := a, a := a + 1, b := a + 1 + 1 }) HF.out.2 (by omega) rfl).upd (j := 3) (u := .bool ((a + 1 + 1 + 1) % 3 == 0)) (f' := { f with op := a, a := a + 1, b := a + 1 + 1, free := ((a + 1 + 1 + 1) % 3 == 0) }) HF.out.2 (by omega) rfl).upd (j := 4) (u := .int .i64 (a + 1 + 1 + 1 + 1)) (f' := { f with op := a, a := a + 1, b := a + 1 + 1, free := ((a + 1 + 1 + 1) % 3 == 0), leaf := { f.leaf with kind := a + 1 + 1 + 1 + 1 } }) HF.out.2 (by omega) rfl), (((((HG.out.trans (grown_set _ g (m * 11) (.int .i64 a))).trans (grown_set _ g (m * 11 + 1) (.int .i64 (a + 1)))).trans (grown_set _ g (m * 11 + 2) (.int .i64 (a + 1 + 1)))).trans (grown_set _ g (m * 11 + 3) (.bool ((a + 1 + 1 + 1) % 3 == 0)))).trans (grown_set _ g (m * 11 + 4) (.int .i64 (a + 1 + 1 + 1 + 1))))⟩
      clear hOf hsf
      go_wp2_with fail
      refine (markText_any (a + 1 + 1 + 1 + 1 + 1) _ (by omega) (by omega)).mono ?_
      rintro e w1 ⟨rfl, hb1⟩
      have hO1 := H0.out.1.below hb1 H0.out.1.lt.2
      obtain ⟨_, _, _, _, _, c5, c6, _⟩ := hO1.at m _ (by simp [HF.out.2]; rfl)
      simp only [Nat.zero_add] at c5 c6
      have z1 := fun j => World.ownsRow.frozenAt hO1 j
      have hO2 := ((hO1.upd (j := 5) (u := .string (mText (a + 1 + 1 + 1 + 1 + 1).toNat)) (f' := { f with op := a, a := a + 1, b := a + 1 + 1, free := ((a + 1 + 1 + 1) % 3 == 0), leaf := { f.leaf with kind := a + 1 + 1 + 1 + 1, s := mText (a + 1 + 1 + 1 + 1 + 1).toNat } }) HF.out.2 (by omega) rfl).upd (j := 6) (u := .bool ((a + 1 + 1 + 1 + 1 + 1 + 1) % 3 == 0)) (f' := { f with op := a, a := a + 1, b := a + 1 + 1, free := ((a + 1 + 1 + 1) % 3 == 0), leaf := { f.leaf with kind := a + 1 + 1 + 1 + 1, s := mText (a + 1 + 1 + 1 + 1 + 1).toNat, hi := ((a + 1 + 1 + 1 + 1 + 1 + 1) % 3 == 0) } }) HF.out.2 (by omega) rfl)
      have H1 : Hid (OwnX ((w1.setCell ⟨g, m * 11 + 5, none⟩ (.string (mText (a + 1 + 1 + 1 + 1 + 1).toNat))).setCell ⟨g, m * 11 + 6, none⟩ (.bool ((a + 1 + 1 + 1 + 1 + 1 + 1) % 3 == 0))) base g cap (fs.set m { f with op := a, a := a + 1, b := a + 1 + 1, free := ((a + 1 + 1 + 1) % 3 == 0), leaf := { f.leaf with kind := a + 1 + 1 + 1 + 1, s := mText (a + 1 + 1 + 1 + 1 + 1).toNat, hi := ((a + 1 + 1 + 1 + 1 + 1 + 1) % 3 == 0) } }) ∧ w.grownBy ((w1.setCell ⟨g, m * 11 + 5, none⟩ (.string (mText (a + 1 + 1 + 1 + 1 + 1).toNat))).setCell ⟨g, m * 11 + 6, none⟩ (.bool ((a + 1 + 1 + 1 + 1 + 1 + 1) % 3 == 0))) (some g)) :=
        ⟨hO2, (((H0.out.2.trans (grown_of_below hb1 _)).trans (grown_set _ g (m * 11 + 5) (.string (mText (a + 1 + 1 + 1 + 1 + 1).toNat)))).trans (grown_set _ g (m * 11 + 6) (.bool ((a + 1 + 1 + 1 + 1 + 1 + 1) % 3 == 0))))⟩
      clear hO1 hO2 hb1 c0 c1 c2 c3 c4 z0
      go_wp2_with fail
      refine (markText_any (a + 1 + 1 + 1 + 1 + 1 + 1 + 1) _ (by omega) (by omega)).mono ?_
      rintro e w2 ⟨rfl, hb2⟩
      have hO3 := H1.out.1.below hb2 H1.out.1.lt.2
      obtain ⟨_, _, _, _, _, _, _, c7, c8, c9, c10⟩ := hO3.at m _ (by simp [HF.out.2]; rfl)
      simp only [Nat.zero_add] at c7 c8 c9 c10
      have z3 := fun j => World.ownsRow.frozenAt hO3 j
      have hO4 := ((((hO3.upd (j := 7) (u := .string (mText (a + 1 + 1 + 1 + 1 + 1 + 1 + 1).toNat)) (f' := { f with op := a, a := a + 1, b := a + 1 + 1, free := ((a + 1 + 1 + 1) % 3 == 0), leaf := { f.leaf with kind := a + 1 + 1 + 1 + 1, s := mText (a + 1 + 1 + 1 + 1 + 1).toNat, hi := ((a + 1 + 1 + 1 + 1 + 1 + 1) % 3 == 0), t := mText (a + 1 + 1 + 1 + 1 + 1 + 1 + 1).toNat } }) HF.out.2 (by omega) rfl).upd (j := 8) (u := .int .u64 (a + 1 + 1 + 1 + 1 + 1 + 1 + 1 + 1)) (f' := { f with op := a, a := a + 1, b := a + 1 + 1, free := ((a + 1 + 1 + 1) % 3 == 0), leaf := { f.leaf with kind := a + 1 + 1 + 1 + 1, s := mText (a + 1 + 1 + 1 + 1 + 1).toNat, hi := ((a + 1 + 1 + 1 + 1 + 1 + 1) % 3 == 0), t := mText (a + 1 + 1 + 1 + 1 + 1 + 1 + 1).toNat, lo := a + 1 + 1 + 1 + 1 + 1 + 1 + 1 + 1 } }) HF.out.2 (by omega) rfl).upd (j := 9) (u := .int .u64 (a + 1 + 1 + 1 + 1 + 1 + 1 + 1 + 1 + 1)) (f' := { f with op := a, a := a + 1, b := a + 1 + 1, free := ((a + 1 + 1 + 1) % 3 == 0), leaf := { f.leaf with kind := a + 1 + 1 + 1 + 1, s := mText (a + 1 + 1 + 1 + 1 + 1).toNat, hi := ((a + 1 + 1 + 1 + 1 + 1 + 1) % 3 == 0), t := mText (a + 1 + 1 + 1 + 1 + 1 + 1 + 1).toNat, lo := a + 1 + 1 + 1 + 1 + 1 + 1 + 1 + 1, up := a + 1 + 1 + 1 + 1 + 1 + 1 + 1 + 1 + 1 } }) HF.out.2 (by omega) rfl).upd (j := 10) (u := .int .i64 (a + 1 + 1 + 1 + 1 + 1 + 1 + 1 + 1 + 1 + 1)) (f' := mIx a) HF.out.2 (by omega) rfl)
      have hG4 := (((((H1.out.2.trans (grown_of_below hb2 _)).trans (grown_set _ g (m * 11 + 7) (.string (mText (a + 1 + 1 + 1 + 1 + 1 + 1 + 1).toNat)))).trans (grown_set _ g (m * 11 + 8) (.int .u64 (a + 1 + 1 + 1 + 1 + 1 + 1 + 1 + 1)))).trans (grown_set _ g (m * 11 + 9) (.int .u64 (a + 1 + 1 + 1 + 1 + 1 + 1 + 1 + 1 + 1)))).trans (grown_set _ g (m * 11 + 10) (.int .i64 (a + 1 + 1 + 1 + 1 + 1 + 1 + 1 + 1 + 1 + 1))))
      have H4 : Hid (_ ∧ _) := ⟨hO4, hG4⟩
      have HE : Hid (a = k + m * 11) := HR.out.1
      clear hO3 hO4 hG4 hb2 c5 c6 z1
      go_wp2_with fail
      refine ⟨⟨m + 1, a + 1 + 1 + 1 + 1 + 1 + 1 + 1 + 1 + 1 + 1 + 1, fs.set m (mIx a), by omega, by go_num, rfl, ?_, H4.out.1, by rw [List.length_set]; exact HR.out.2.2.1, ?_, H4.out.2⟩, ?_⟩
      · go_light
        have := HE.out
        omega
      · go_light
        have := markedX_set HR.out.2.2.2 HF.out.2
        rw [← HE.out] at this
        exact this
      · go_light
        simp [intOf]; omega
    · go_wp2_with fail
      go_ret
      have e1 : m = es.length := by omega
      refine ⟨fs, ?_, HR.out.2.1, HR.out.2.2.1, ?_, HG.out⟩
      · rw [HR.out.1, e1]; rfl
      · rw [← e1]; exact HR.out.2.2.2
set_option maxHeartbeats 8000000 in
theorem heldInsS_core (b off cap : Nat) (es : List Ix) (k : Int) (w : World) (hE : IxsAt w b off es) (hmk : markedX k es es.length) (hB : b < w.heap.size) (h0 : 0 < k) (h1 : k ≤ 2 ^ 30) (hn : es.length ≤ 1048576) :
    Calls Try.prog 57 #[.slice (some ⟨b, off, none⟩) es.length cap, .int .i64 k] w fun e w' =>
      e = .returned (.int .i64 (k + es.length * 11)) ∧ Below w.heap.size w w' := by
  have HE : Hid (IxsAt w b off es ∧ markedX k es es.length) := ⟨hE, hmk⟩
  clear hE hmk
  go_enter Try.func57, Try.ntmps57
  go_wp2
  go_loopw [1, 5] (fun c i wr => ∃ (m : Nat) (a : Int), m ≤ es.length ∧ i = .int .i64 m ∧ c = .int .i64 a ∧ a = k + m * 11 ∧ Below w.heap.size w wr) (fun _ i _ => es.length - (intOf i).toNat)
  case atStart => exact ⟨0, k, Nat.zero_le _, rfl, rfl, by simp, Below.refl _ _⟩
  case round =>
    obtain ⟨m, a, hm, rfl, rfl, ha, hb⟩ := hrel
    have ha0 : 0 < a := by omega
    have ha1 : a ≤ 2 ^ 31 := by omega
    have HA : Hid (a = k + m * 11) := ha
    clear ha
    have hs := hb.size
    by_cases hlt : m < es.length
    · have he : es[m]? = some (mIx a) := by rw [HA.out]; exact HE.out.2 m hlt
      have HM : Hid (es[m]? = some (mIx a)) := he
      clear he
      have z2 : (m : Int) < (es.length : Int) := by omega
      have HC : Hid (∀ wx, Below w.heap.size w wx → wx.cell? ⟨b, off + m * 11, none⟩ = some (.int .i64 a) ∧ wx.cell? ⟨b, off + m * 11 + 1, none⟩ = some (.int .i64 (a + 1)) ∧ wx.cell? ⟨b, off + m * 11 + 2, none⟩ = some (.int .i64 (a + 1 + 1)) ∧ wx.cell? ⟨b, off + m * 11 + 3, none⟩ = some (.bool ((a + 1 + 1 + 1) % 3 == 0)) ∧ wx.cell? ⟨b, off + m * 11 + 4, none⟩ = some (.int .i64 (a + 1 + 1 + 1 + 1)) ∧ wx.cell? ⟨b, off + m * 11 + 5, none⟩ = some (.string (mText (a + 1 + 1 + 1 + 1 + 1).toNat)) ∧ wx.cell? ⟨b, off + m * 11 + 6, none⟩ = some (.bool ((a + 1 + 1 + 1 + 1 + 1 + 1) % 3 == 0)) ∧ wx.cell? ⟨b, off + m * 11 + 7, none⟩ = some (.string (mText (a + 1 + 1 + 1 + 1 + 1 + 1 + 1).toNat)) ∧ wx.cell? ⟨b, off + m * 11 + 8, none⟩ = some (.int .u64 (a + 1 + 1 + 1 + 1 + 1 + 1 + 1 + 1)) ∧ wx.cell? ⟨b, off + m * 11 + 9, none⟩ = some (.int .u64 (a + 1 + 1 + 1 + 1 + 1 + 1 + 1 + 1 + 1)) ∧ wx.cell? ⟨b, off + m * 11 + 10, none⟩ = some (.int .i64 (a + 1 + 1 + 1 + 1 + 1 + 1 + 1 + 1 + 1 + 1))) := fun wx hx => (HE.out.1.below hx hB) m _ HM.out
      have c0 := (HC.out wr hb).1
      have c1 := (HC.out wr hb).2.1
      have c2 := (HC.out wr hb).2.2.1
      have c3 := (HC.out wr hb).2.2.2.1
      have c4 := (HC.out wr hb).2.2.2.2.1
      have c5 := (HC.out wr hb).2.2.2.2.2.1
      go_upto_region 19 with fail
      go_cut [68] (fun s wx => s = .bool false ∧ Below w.heap.size w wx)
      case first =>
        go_region_with (go_at_call 55; refine (markText_in w _ _ ?hB (by omega) (by omega)).mono ?_; (case hB => (repeat (first | assumption | refine Below.drew ?_))); rintro e' w' ⟨rfl, hbb⟩; have cx := (HC.out w' hbb).2.2.2.2.2.1)
        all_goals go_wp2_with fail
        all_goals go_meet
        all_goals exact ⟨rfl, by assumption⟩
      case rest =>
      obtain ⟨rfl, h2⟩ := hcut
      clear c0 c1 c2 c3 c4 c5
      obtain ⟨wa, rfl⟩ : ∃ wa : World, wa = wc := ⟨_, rfl⟩
      have c6 := (HC.out wa h2).2.2.2.2.2.2.1
      have c7 := (HC.out wa h2).2.2.2.2.2.2.2.1
      go_upto_region 25 with fail
      go_cut [91] (fun s wx => s = .bool false ∧ Below w.heap.size w wx)
      case first =>
        go_region_with (go_at_call 55; refine (markText_in w _ _ ?hB (by omega) (by omega)).mono ?_; (case hB => (repeat (first | assumption | refine Below.drew ?_))); rintro e' w' ⟨rfl, hbb⟩; have cx := (HC.out w' hbb).2.2.2.2.2.2.2.1)
        all_goals go_wp2_with fail
        all_goals go_meet
        all_goals exact ⟨rfl, by assumption⟩
      case rest =>
      obtain ⟨rfl, h3⟩ := hcut
      clear c6 c7
      obtain ⟨wb, rfl⟩ : ∃ wb : World, wb = wc := ⟨_, rfl⟩
      have c8 := (HC.out wb h3).2.2.2.2.2.2.2.2.1
      have c9 := (HC.out wb h3).2.2.2.2.2.2.2.2.2.1
      have c10 := (HC.out wb h3).2.2.2.2.2.2.2.2.2.2
      go_wp2_with fail
      refine ⟨⟨m + 1, a + 1 + 1 + 1 + 1 + 1 + 1 + 1 + 1 + 1 + 1 + 1, by omega, by go_num, rfl, ?_, h3⟩, ?_⟩
      · go_light
        have := HA.out
        omega
      · go_light
        simp [intOf]; omega
    · go_wp2_with fail
      go_ret
      have e1 : m = es.length := by omega
      refine ⟨?_, hb⟩
      rw [HA.out, e1]; rfl
set_option maxHeartbeats 400000 in
theorem markInsS_zero (a : Option Addr) (cap : Nat) (k : Int) (w : World) :
    Calls Try.prog 56 #[.slice a 0 cap, .int .i64 k] w fun e w' => e = .returned (.int .i64 k) ∧ Below w.heap.size w w' := by
  go_enter Try.func56, Try.ntmps56
  go_wp2
  go_loopw [1, 5] (fun c i wr => c = .int .i64 k ∧ i = .int .i64 0 ∧ wr = w) (fun _ i _ => 0)
  case atStart => exact ⟨rfl, rfl, rfl⟩
  case round =>
    obtain ⟨rfl, rfl, rfl⟩ := hrel
    go_wp2_with fail
    go_ret
    exact ⟨rfl, Below.refl _ _⟩
set_option maxHeartbeats 400000 in
theorem heldInsS_zero (a : Option Addr) (cap : Nat) (k : Int) (w : World) :
    Calls Try.prog 57 #[.slice a 0 cap, .int .i64 k] w fun e w' => e = .returned (.int .i64 k) ∧ Below w.heap.size w w' := by
  go_enter Try.func57, Try.ntmps57
  go_wp2
  go_loopw [1, 5] (fun c i wr => c = .int .i64 k ∧ i = .int .i64 0 ∧ wr = w) (fun _ i _ => 0)
  case atStart => exact ⟨rfl, rfl, rfl⟩
  case round =>
    obtain ⟨rfl, rfl, rfl⟩ := hrel
    go_wp2_with fail
    go_ret
    exact ⟨rfl, Below.refl _ _⟩
theorem markInsS_own (base : Nat) (u : Value) (R : List Ix) (k : Int) (w : World) (h : RowX w base u R) (h0 : 0 < k) (h1 : k ≤ 2 ^ 30) (hn : R.length ≤ 1048576) :
    Calls Try.prog 56 #[u, .int .i64 k] w fun e w' =>
      ∃ R', e = .returned (.int .i64 (k + R.length * 11)) ∧ RowX w' base u R' ∧ R'.length = R.length ∧ markedX k R' R'.length ∧ w.grownBy w' u.ownBlock := by
  rcases h.cases with ⟨rfl, rfl⟩ | ⟨g, cp, rfl, hO⟩
  · refine (markInsS_zero none 0 k w).mono ?_
    rintro e w' ⟨rfl, hb⟩
    exact ⟨[], by simp, rowX_nil _ _, rfl, fun j hj => by simp at hj, grown_of_below hb _⟩
  · refine (markInsS_core base g cp R k w hO h0 h1 hn).mono ?_
    rintro e w' ⟨fs, rfl, hO', hl, hm, hg⟩
    refine ⟨fs, rfl, ?_, hl, by rw [hl]; exact hm, hg⟩
    have h9 : RowX w' base (.slice (some ⟨g, 0, none⟩) fs.length cp) fs := hO'
    rw [hl] at h9
    exact h9
theorem heldInsS_own (base : Nat) (u : Value) (R : List Ix) (k : Int) (w : World) (h : RowX w base u R) (hm : markedX k R R.length) (h0 : 0 < k) (h1 : k ≤ 2 ^ 30) (hn : R.length ≤ 1048576) :
    Calls Try.prog 57 #[u, .int .i64 k] w fun e w' => e = .returned (.int .i64 (k + R.length * 11)) ∧ Below w.heap.size w w' := by
  rcases h.cases with ⟨rfl, rfl⟩ | ⟨g, cp, rfl, hO⟩
  · refine (heldInsS_zero none 0 k w).mono ?_
    rintro e w' ⟨rfl, hb⟩
    exact ⟨by simp, hb⟩
  · exact heldInsS_core g 0 cp R k w hO.at hm hO.lt.2 h0 h1 hn
end Go.Proofs.Ytkbmdkgfgfbilaa

/-
  impl's emitter: add.
-/
namespace Go.Proofs.Ytkbmdkgfgfbilaa
open Go.ChangeShapes Go.WideShapes Go.ChangeAt Go.RowKit Go.Deep
set_option linter.unusedVariables false
set_option linter.unusedSimpArgs false
set_option maxRecDepth 100000

/-- An emitter in memory: its instructions and how many counters. -/
structure EmAt (w : World) (eb : Nat) (v : Value) (X : List Ix) (c : Nat) : Prop where
  box : BoxAt w eb 56 2 eb [v, .int .i64 (c : Int)]
  row : RowX w (eb + 1) v X
theorem EmAt.lt {w : World} {eb c : Nat} {v : Value} {X : List Ix} (h : EmAt w eb v X c) : eb < w.heap.size := h.box.lt.2
theorem EmAt.below {w w' : World} {eb c : Nat} {v : Value} {X : List Ix} (h : EmAt w eb v X c) (hb : Below w.heap.size w w') : EmAt w' eb v X c := ⟨h.box.below hb, h.row.below hb⟩
def EmS (eb : Nat) (v : Value) (b : Nat) : Prop := b = eb ∨ v.ownBlock = some b
/-- From 'w' to 'w'' the emitter alone has turned. -/
structure EmTo (w w' : World) (eb : Nat) (v v' : Value) (X : List Ix) (c : Nat) : Prop where
  at_ : EmAt w' eb v' X c
  chg : Chg (EmS eb v) w w'
  new : ∀ k, v'.ownBlock = some k → v.ownBlock = some k ∨ w.heap.size ≤ k
theorem EmTo.trans {w w1 w2 : World} {eb c1 c2 : Nat} {v v1 v2 : Value} {X1 X2 : List Ix} (h : EmTo w w1 eb v v1 X1 c1) (k : EmTo w1 w2 eb v1 v2 X2 c2) : EmTo w w2 eb v v2 X2 c2 := by
  refine ⟨k.at_, ⟨k.chg.os.trans h.chg.os, k.chg.tape.trans h.chg.tape, k.chg.output.trans h.chg.output, Nat.le_trans h.chg.size k.chg.size, fun i hi hn => ?_⟩, fun i hi => ?_⟩
  · refine (k.chg.block i (Nat.lt_of_lt_of_le hi h.chg.size) ?_).trans (h.chg.block i hi hn)
    rintro (q | q)
    · exact hn (.inl q)
    · rcases h.new i q with q | q
      · exact hn (.inr q)
      · omega
  · rcases k.new i hi with q | q
    · exact h.new i q
    · exact .inr (Nat.le_trans h.chg.size q)
theorem EmTo.of_below {w w' : World} {eb c : Nat} {v : Value} {X : List Ix} (h : EmAt w eb v X c) (hb : Below w.heap.size w w') : EmTo w w' eb v v X c := ⟨h.below hb, Chg.of_below hb, fun k hk => .inl hk⟩
theorem EmTo.below {w w' : World} {eb c c' : Nat} {v v' : Value} {X X' : List Ix} (h : EmAt w eb v X c) (k : EmTo w w' eb v v' X' c') : Below eb w w' :=
  ⟨k.chg.os, k.chg.tape, k.chg.output, k.chg.size, fun i hi => k.chg.block i (by have := h.lt; omega) (by
    rintro (q | q)
    · omega
    · have := (h.row.blk q).1; omega)⟩
/-- Instructions appended, and the slice stored. -/
theorem EmAt.app {w w' : World} {eb c : Nat} {v v' : Value} {X Y : List Ix} (h : EmAt w eb v X c) (hA : AppX w w' (eb + 1) v v' X Y) : EmTo w (w'.setCell ⟨eb, 0, none⟩ v') eb v v' (X ++ Y) c := by
  have hch : Chg (fun k => v.ownBlock = some k) w w' := Chg.of_grown hA.grown (fun k hk => hk)
  have hne : ¬ v.ownBlock = some eb := fun q => by have := (h.row.blk q).1; omega
  have hbx := h.box.chg hch hne
  have hset : Chg (fun b => b = eb) w' (w'.setCell ⟨eb, 0, none⟩ v') := Chg.of_set _ _ _ _ rfl
  refine ⟨⟨?_, hA.own.chg hset (fun k hk q => by have := (hA.own.blk hk).1; omega)⟩, (hch.mono (fun k hk => .inr hk)).trans (hset.mono (fun k hk => .inl hk)), fun k hk => ?_⟩
  · have := hbx.set 0 v'
    simpa using this
  · rcases hA.at_ with q | q
    · rw [q] at hk; exact .inl hk
    · rw [q] at hk; cases hk; exact .inr (Nat.le_refl _)
set_option maxHeartbeats 4000000 in
theorem add_core {w : World} {eb c : Nat} {v : Value} {X : List Ix} (h : EmAt w eb v X c) (x : Ix) (hl : X.length ≤ 100000) : Calls Try.prog 50 #[.pointer (some ⟨eb, 0, none⟩), x.v] w fun r w' => r = .returned (.tuple #[]) ∧ ∃ v', EmTo w w' eb v v' (X ++ [x]) c := by
  obtain ⟨va, vc, hv⟩ := h.row.slice
  obtain ⟨vn, hvn⟩ : ∃ vn, vn = X.length := ⟨_, rfl⟩
  rw [← hvn] at hv
  subst hv
  have HE : Hid (EmAt w eb (.slice va vn vc) X c) := h
  have HL : Hid (X.length ≤ 100000) := hl
  have hlt := h.lt
  clear h hvn hl
  obtain ⟨W0, hW0⟩ : ∃ W0 : World, W0 = w.alloc (Obj.cells #[.int .i64 x.op, .int .i64 x.a, .int .i64 x.b, .bool x.free, .int .i64 x.leaf.kind, .string x.leaf.s, .bool x.leaf.hi, .string x.leaf.t, .int .u64 x.leaf.lo, .int .u64 x.leaf.up, .int .i64 x.leaf.n] 77) := ⟨_, rfl⟩
  obtain ⟨P, hP⟩ : ∃ P, P = w.heap.size := ⟨_, rfl⟩
  have HB0 : Hid (BoxAt W0 P 77 11 P x.ten ∧ Below w.heap.size w W0 ∧ P = w.heap.size) := by rw [hW0, hP]; exact ⟨boxAt_new w _ (Nat.le_refl _) rfl, (Below.refl _ _).alloc (Nat.le_refl _) _, rfl⟩
  have HE0 : Hid (EmAt W0 eb (.slice va vn vc) X c) := HE.out.below HB0.out.2.1
  have q0 : W0.cell? ⟨eb, 0, none⟩ = some (.slice va vn vc) := HE0.out.box.cell (j := 0) rfl
  have hSd : (fun w' : World => w'.cell? ⟨eb, 0, none⟩ = some (.slice va vn vc) ∧ w'.cell? ⟨P, 0, none⟩ = some (.int .i64 x.op) ∧ w'.cell? ⟨P, 1, none⟩ = some (.int .i64 x.a) ∧ w'.cell? ⟨P, 2, none⟩ = some (.int .i64 x.b) ∧ w'.cell? ⟨P, 3, none⟩ = some (.bool x.free) ∧ w'.cell? ⟨P, 4, none⟩ = some (.int .i64 x.leaf.kind) ∧ w'.cell? ⟨P, 5, none⟩ = some (.string x.leaf.s) ∧ w'.cell? ⟨P, 6, none⟩ = some (.bool x.leaf.hi) ∧ w'.cell? ⟨P, 7, none⟩ = some (.string x.leaf.t) ∧ w'.cell? ⟨P, 8, none⟩ = some (.int .u64 x.leaf.lo) ∧ w'.cell? ⟨P, 9, none⟩ = some (.int .u64 x.leaf.up) ∧ w'.cell? ⟨P, 10, none⟩ = some (.int .i64 x.leaf.n)) W0.drew := ⟨q0, HB0.out.1.cell (j := 0) rfl, HB0.out.1.cell (j := 1) rfl, HB0.out.1.cell (j := 2) rfl, HB0.out.1.cell (j := 3) rfl, HB0.out.1.cell (j := 4) rfl, HB0.out.1.cell (j := 5) rfl, HB0.out.1.cell (j := 6) rfl, HB0.out.1.cell (j := 7) rfl, HB0.out.1.cell (j := 8) rfl, HB0.out.1.cell (j := 9) rfl, HB0.out.1.cell (j := 10) rfl⟩
  go_enter Try.func50, Try.ntmps50
  go_upto_region 1 with fail
  rw [← hW0, ← hP]
  clear hW0 hP
  refine wp_region_T 12 (fun w' : World => w'.cell? ⟨eb, 0, none⟩ = some (.slice va vn vc) ∧ w'.cell? ⟨P, 0, none⟩ = some (.int .i64 x.op) ∧ w'.cell? ⟨P, 1, none⟩ = some (.int .i64 x.a) ∧ w'.cell? ⟨P, 2, none⟩ = some (.int .i64 x.b) ∧ w'.cell? ⟨P, 3, none⟩ = some (.bool x.free) ∧ w'.cell? ⟨P, 4, none⟩ = some (.int .i64 x.leaf.kind) ∧ w'.cell? ⟨P, 5, none⟩ = some (.string x.leaf.s) ∧ w'.cell? ⟨P, 6, none⟩ = some (.bool x.leaf.hi) ∧ w'.cell? ⟨P, 7, none⟩ = some (.string x.leaf.t) ∧ w'.cell? ⟨P, 8, none⟩ = some (.int .u64 x.leaf.lo) ∧ w'.cell? ⟨P, 9, none⟩ = some (.int .u64 x.leaf.up) ∧ w'.cell? ⟨P, 10, none⟩ = some (.int .i64 x.leaf.n)) (by kernel_rfl) ?_
  refine anyT_take (i := 0) (v := ?va0) rfl (by kernel_rfl) (by kernel_rfl) (by kernel_rfl) (by kernel_rfl) (by decide) (fun _ _ _ h => h) (Or.inl ⟨by rfl, ?ya0⟩) hSd ?_
  case ya0 => (intro wz hSw; obtain ⟨hz, hy0, hy1, hy2, hy3, hy4, hy5, hy6, hy7, hy8, hy9, hy10⟩ := hSw; go_simp; (try with_reducible rfl))
  try simp only [Act.put, List.getElem_toArray, List.getElem_cons_zero, List.getElem_cons_succ, List.setIfInBounds_toArray, List.set_cons_zero, List.set_cons_succ]
  refine anyT_take (i := 1) (v := ?va1) rfl (by kernel_rfl) (by kernel_rfl) (by kernel_rfl) (by kernel_rfl) (by decide) (fun _ _ _ h => h) (Or.inl ⟨by rfl, ?ya1⟩) hSd ?_
  case ya1 => (intro wz hSw; obtain ⟨hz, hy0, hy1, hy2, hy3, hy4, hy5, hy6, hy7, hy8, hy9, hy10⟩ := hSw; go_simp; (try with_reducible rfl))
  try simp only [Act.put, List.getElem_toArray, List.getElem_cons_zero, List.getElem_cons_succ, List.setIfInBounds_toArray, List.set_cons_zero, List.set_cons_succ]
  refine anyT_take (i := 2) (v := ?va2) rfl (by kernel_rfl) (by kernel_rfl) (by kernel_rfl) (by kernel_rfl) (by decide) (fun _ _ _ h => h) (Or.inl ⟨by rfl, ?ya2⟩) hSd ?_
  case ya2 => (intro wz hSw; obtain ⟨hz, hy0, hy1, hy2, hy3, hy4, hy5, hy6, hy7, hy8, hy9, hy10⟩ := hSw; go_simp; (try with_reducible rfl))
  try simp only [Act.put, List.getElem_toArray, List.getElem_cons_zero, List.getElem_cons_succ, List.setIfInBounds_toArray, List.set_cons_zero, List.set_cons_succ]
  refine anyT_take (i := 3) (v := ?va3) rfl (by kernel_rfl) (by kernel_rfl) (by kernel_rfl) (by kernel_rfl) (by decide) (fun _ _ _ h => h) (Or.inl ⟨by rfl, ?ya3⟩) hSd ?_
  case ya3 => (intro wz hSw; obtain ⟨hz, hy0, hy1, hy2, hy3, hy4, hy5, hy6, hy7, hy8, hy9, hy10⟩ := hSw; go_simp; (try with_reducible rfl))
  try simp only [Act.put, List.getElem_toArray, List.getElem_cons_zero, List.getElem_cons_succ, List.setIfInBounds_toArray, List.set_cons_zero, List.set_cons_succ]
  refine anyT_take (i := 4) (v := ?va4) rfl (by kernel_rfl) (by kernel_rfl) (by kernel_rfl) (by kernel_rfl) (by decide) (fun _ _ _ h => h) (Or.inl ⟨by rfl, ?ya4⟩) hSd ?_
  case ya4 => (intro wz hSw; obtain ⟨hz, hy0, hy1, hy2, hy3, hy4, hy5, hy6, hy7, hy8, hy9, hy10⟩ := hSw; go_simp; (try with_reducible rfl))
  try simp only [Act.put, List.getElem_toArray, List.getElem_cons_zero, List.getElem_cons_succ, List.setIfInBounds_toArray, List.set_cons_zero, List.set_cons_succ]
  refine anyT_take (i := 5) (v := ?va5) rfl (by kernel_rfl) (by kernel_rfl) (by kernel_rfl) (by kernel_rfl) (by decide) (fun _ _ _ h => h) (Or.inl ⟨by rfl, ?ya5⟩) hSd ?_
  case ya5 => (intro wz hSw; obtain ⟨hz, hy0, hy1, hy2, hy3, hy4, hy5, hy6, hy7, hy8, hy9, hy10⟩ := hSw; go_simp; (try with_reducible rfl))
  try simp only [Act.put, List.getElem_toArray, List.getElem_cons_zero, List.getElem_cons_succ, List.setIfInBounds_toArray, List.set_cons_zero, List.set_cons_succ]
  refine anyT_take (i := 6) (v := ?va6) rfl (by kernel_rfl) (by kernel_rfl) (by kernel_rfl) (by kernel_rfl) (by decide) (fun _ _ _ h => h) (Or.inl ⟨by rfl, ?ya6⟩) hSd ?_
  case ya6 => (intro wz hSw; obtain ⟨hz, hy0, hy1, hy2, hy3, hy4, hy5, hy6, hy7, hy8, hy9, hy10⟩ := hSw; go_simp; (try with_reducible rfl))
  try simp only [Act.put, List.getElem_toArray, List.getElem_cons_zero, List.getElem_cons_succ, List.setIfInBounds_toArray, List.set_cons_zero, List.set_cons_succ]
  obtain ⟨V1, hV1⟩ : ∃ V1 : World, V1 = (W0.alloc (Obj.cells #[.int .i64 x.op, .int .i64 x.a, .int .i64 x.b, .bool x.free, .int .i64 x.leaf.kind, .string x.leaf.s, .bool x.leaf.hi, .string x.leaf.t, .int .u64 x.leaf.lo, .int .u64 x.leaf.up, .int .i64 x.leaf.n] 77)).drew := ⟨_, rfl⟩
  obtain ⟨G1, hG1⟩ : ∃ G1, G1 = W0.heap.size := ⟨_, rfl⟩
  have hbV : Below W0.heap.size W0 V1 := by rw [hV1]; exact ((Below.refl _ _).alloc (Nat.le_refl _) _).drew
  have HV : Hid (IxsAt V1 G1 0 [x] ∧ EmAt V1 eb (.slice va vn vc) X c ∧ eb + 1 ≤ V1.heap.size) := by
    refine ⟨?_, HE0.out.below hbV, (HE0.out.below hbV).lt⟩
    rw [hV1, hG1]; exact (ownX_one W0 x).at
  have HBV : Hid (BoxAt V1 P 77 11 P x.ten) := HB0.out.1.below hbV
  have HbV : Hid (Below w.heap.size w V1) := HB0.out.2.1.trans (hbV.mono HB0.out.2.1.size)
  have hS1 : (fun w' : World => w'.cell? ⟨eb, 0, none⟩ = some (.slice va vn vc) ∧ w'.cell? ⟨P, 0, none⟩ = some (.int .i64 x.op) ∧ w'.cell? ⟨P, 1, none⟩ = some (.int .i64 x.a) ∧ w'.cell? ⟨P, 2, none⟩ = some (.int .i64 x.b) ∧ w'.cell? ⟨P, 3, none⟩ = some (.bool x.free) ∧ w'.cell? ⟨P, 4, none⟩ = some (.int .i64 x.leaf.kind) ∧ w'.cell? ⟨P, 5, none⟩ = some (.string x.leaf.s) ∧ w'.cell? ⟨P, 6, none⟩ = some (.bool x.leaf.hi) ∧ w'.cell? ⟨P, 7, none⟩ = some (.string x.leaf.t) ∧ w'.cell? ⟨P, 8, none⟩ = some (.int .u64 x.leaf.lo) ∧ w'.cell? ⟨P, 9, none⟩ = some (.int .u64 x.leaf.up) ∧ w'.cell? ⟨P, 10, none⟩ = some (.int .i64 x.leaf.n)) V1 := ⟨HV.out.2.1.box.cell (j := 0) rfl, HBV.out.cell (j := 0) rfl, HBV.out.cell (j := 1) rfl, HBV.out.cell (j := 2) rfl, HBV.out.cell (j := 3) rfl, HBV.out.cell (j := 4) rfl, HBV.out.cell (j := 5) rfl, HBV.out.cell (j := 6) rfl, HBV.out.cell (j := 7) rfl, HBV.out.cell (j := 8) rfl, HBV.out.cell (j := 9) rfl, HBV.out.cell (j := 10) rfl⟩
  clear hbV
  refine anyT_one (i := 7) (by kernel_rfl) rfl (fun K hK => ?_)
  go_simp
  rw [← hV1, ← hG1]
  clear hV1 hG1
  refine hK.out _ _ (.inr hS1) ?_
  clear hK
  try simp only [Act.put, List.getElem_toArray, List.getElem_cons_zero, List.getElem_cons_succ, List.setIfInBounds_toArray, List.set_cons_zero, List.set_cons_succ]
  refine anyT_one (i := 8) (by kernel_rfl) rfl (fun K hK => ?_)
  refine step_append_ixV _ rfl _ _ rfl (eb + 1) (.slice va vn vc) G1 0 1 1 X [x] rfl rfl rfl HV.out.2.1.row HV.out.1 (by have := HL.out; simp; omega) HV.out.2.2 ?_
  intro v' w2 hA
  have HT : Hid (EmTo V1 (w2.setCell ⟨eb, 0, none⟩ v') eb (.slice va vn vc) v' (X ++ [x]) c) := HV.out.2.1.app hA
  have hgr : Chg (fun k => (Value.slice va vn vc).ownBlock = some k) V1 w2 := Chg.of_grown hA.grown (fun k hk => hk)
  have HB2 : Hid (BoxAt w2 eb 56 2 eb [.slice va vn vc, .int .i64 (c : Int)]) := HV.out.2.1.box.chg hgr (fun q => by have := (HV.out.2.1.row.blk q).1; omega)
  have HB3 : Hid (BoxAt w2 P 77 11 P x.ten) := HBV.out.chg hgr (fun q => by have := (HE.out.row.blk q).2; rw [← HB0.out.2.2] at this; omega)
  have hS2 : (fun w' : World => w'.cell? ⟨eb, 0, none⟩ = some (.slice va vn vc) ∧ w'.cell? ⟨P, 0, none⟩ = some (.int .i64 x.op) ∧ w'.cell? ⟨P, 1, none⟩ = some (.int .i64 x.a) ∧ w'.cell? ⟨P, 2, none⟩ = some (.int .i64 x.b) ∧ w'.cell? ⟨P, 3, none⟩ = some (.bool x.free) ∧ w'.cell? ⟨P, 4, none⟩ = some (.int .i64 x.leaf.kind) ∧ w'.cell? ⟨P, 5, none⟩ = some (.string x.leaf.s) ∧ w'.cell? ⟨P, 6, none⟩ = some (.bool x.leaf.hi) ∧ w'.cell? ⟨P, 7, none⟩ = some (.string x.leaf.t) ∧ w'.cell? ⟨P, 8, none⟩ = some (.int .u64 x.leaf.lo) ∧ w'.cell? ⟨P, 9, none⟩ = some (.int .u64 x.leaf.up) ∧ w'.cell? ⟨P, 10, none⟩ = some (.int .i64 x.leaf.n)) w2 := ⟨HB2.out.cell (j := 0) rfl, HB3.out.cell (j := 0) rfl, HB3.out.cell (j := 1) rfl, HB3.out.cell (j := 2) rfl, HB3.out.cell (j := 3) rfl, HB3.out.cell (j := 4) rfl, HB3.out.cell (j := 5) rfl, HB3.out.cell (j := 6) rfl, HB3.out.cell (j := 7) rfl, HB3.out.cell (j := 8) rfl, HB3.out.cell (j := 9) rfl, HB3.out.cell (j := 10) rfl⟩
  obtain ⟨a9, c9, hv9⟩ := hA.own.slice
  obtain ⟨n9, hn9⟩ : ∃ n9, n9 = (X ++ [x]).length := ⟨_, rfl⟩
  rw [← hn9] at hv9
  clear hn9
  subst hv9
  clear hA hgr
  refine hK.out _ _ (.inr hS2) ?_
  clear hK
  try simp only [Act.put, List.getElem_toArray, List.getElem_cons_zero, List.getElem_cons_succ, List.setIfInBounds_toArray, List.set_cons_zero, List.set_cons_succ]
  refine anyT_one (i := 9) (by kernel_rfl) rfl (fun K hK => ?_)
  go_simp
  refine hK.out _ _ (.inr hS2) ?_
  clear hK
  try simp only [Act.put, List.getElem_toArray, List.getElem_cons_zero, List.getElem_cons_succ, List.setIfInBounds_toArray, List.set_cons_zero, List.set_cons_succ]
  refine anyT_one (i := 10) (by kernel_rfl) rfl (fun K hK => ?_)
  go_simp
  refine hK.out _ _ (.inr hS2) ?_
  clear hK
  try simp only [Act.put, List.getElem_toArray, List.getElem_cons_zero, List.getElem_cons_succ, List.setIfInBounds_toArray, List.set_cons_zero, List.set_cons_succ]
  refine anyT_one (i := 11) (by kernel_rfl) rfl (fun K hK => ?_)
  go_simp
  refine hK.out _ _ (.inr hS2) ?_
  clear hK
  try simp only [Act.put, List.getElem_toArray, List.getElem_cons_zero, List.getElem_cons_succ, List.setIfInBounds_toArray, List.set_cons_zero, List.set_cons_succ]
  have z0 := HB2.out.frozen 0
  have e0 := HB2.out.cell (j := 0) rfl
  refine anyT_one (i := 12) (by kernel_rfl) rfl (fun K hK => ?_)
  go_simp
  refine hK.out _ _ (.inl rfl) ?_
  clear hK
  try simp only [Act.put, List.getElem_toArray, List.getElem_cons_zero, List.getElem_cons_succ, List.setIfInBounds_toArray, List.set_cons_zero, List.set_cons_succ]
  refine anyT_done (by kernel_rfl) ?_
  go_wp2_with fail
  refine bodyPost_end (results_none rfl _ _ _) rfl ?_
  exact ⟨rfl, _, (EmTo.of_below HE.out HbV.out).trans HT.out⟩
end Go.Proofs.Ytkbmdkgfgfbilaa

/-
  impl's emitter: addJump and its labels, addLeaf.
-/
namespace Go.Proofs.Ytkbmdkgfgfbilaa
open Go.ChangeShapes Go.WideShapes Go.ChangeAt Go.RowKit Go.Deep
set_option linter.unusedVariables false
set_option linter.unusedSimpArgs false
set_option maxRecDepth 100000

/-- A label's variables. -/
structure LabAt (w : World) (P1 P3 eb k : Nat) : Prop where
  e : BoxAt w P1 53 1 P1 [.pointer (some ⟨eb, 0, none⟩)]
  at_ : BoxAt w P3 3 1 P3 [.int .i64 (k : Int)]
theorem box_off {w : World} {eb c base t sz P : Nat} {v : Value} {X : List Ix} {vs : List Value} (h : BoxAt w base t sz P vs) (hE : EmAt w eb v X c) (h1 : t ≠ 56) (h2 : t ≠ 77) : ¬ EmS eb v P := by
  rintro (q | q)
  · have := own_apart h hE.box h1 P rfl
    rw [q] at this
    exact this rfl
  · exact own_apart h hE.row h2 P rfl q
theorem LabAt.move {w w' : World} {P1 P3 eb k c c' : Nat} {v v' : Value} {X X' : List Ix} (h : LabAt w P1 P3 eb k) (hE : EmAt w eb v X c) (hT : EmTo w w' eb v v' X' c') : LabAt w' P1 P3 eb k :=
  ⟨h.e.chg hT.chg (box_off h.e hE (by decide) (by decide)), h.at_.chg hT.chg (box_off h.at_ hE (by decide) (by decide))⟩
abbrev labV (P1 P3 : Nat) : Value := .func (Fn.func 66) #[] #[.pointer (some ⟨P1, 0, none⟩), .pointer (some ⟨P3, 0, none⟩)]
/-- The target set. -/
theorem EmAt.jump {w : World} {eb c g n cp k : Nat} {X : List Ix} {y : Ix} (h : EmAt w eb (.slice (some ⟨g, 0, none⟩) n cp) X c) (hk : X[k]? = some y) (b : Int) :
    EmTo w (w.setCell ⟨g, k * 11 + 2, none⟩ (.int .i64 b)) eb (.slice (some ⟨g, 0, none⟩) n cp) (.slice (some ⟨g, 0, none⟩) n cp) (X.set k { y with b := b }) c := by
  have hn : n = X.length := by
    obtain ⟨a, c', hv⟩ := h.row.slice
    cases hv; rfl
  subst hn
  have hO : OwnX w (eb + 1) g cp X := h.row
  have hg := hO.lt
  have hch : Chg (fun b => b = g) w (w.setCell ⟨g, k * 11 + 2, none⟩ (.int .i64 b)) := Chg.of_set _ _ _ _ rfl
  refine ⟨⟨h.box.chg hch (by omega), ?_⟩, hch.mono (fun j hj => .inr (by subst hj; rfl)), fun j hj => .inl hj⟩
  have := hO.set k 2 y { y with b := b } (.int .i64 b) hk (by omega) rfl
  unfold RowX
  unfold OwnX at this
  rw [List.length_set] at this ⊢
  exact this
set_option maxHeartbeats 4000000 in
theorem label_core {w : World} {P1 P3 eb k c : Nat} {v : Value} {X : List Ix} {y : Ix} (h : EmAt w eb v X c) (hL : LabAt w P1 P3 eb k) (hk : X[k]? = some y) (hl : X.length ≤ 100000) : Calls Try.prog 66 #[.pointer (some ⟨P1, 0, none⟩), .pointer (some ⟨P3, 0, none⟩)] w fun r w' => r = .returned (.tuple #[]) ∧ EmTo w w' eb v v (X.set k { y with b := (X.length : Int) }) c := by
  have hkl : k < X.length := (List.getElem?_eq_some_iff.1 hk).1
  rcases h.row.cases with ⟨_, h0⟩ | ⟨g, cp, hv, hO⟩
  · rw [h0] at hkl; simp at hkl
  subst hv
  obtain ⟨n, hn⟩ : ∃ n, n = X.length := ⟨_, rfl⟩
  rw [← hn] at hkl hl h
  have HJ : Hid (EmTo w (w.setCell ⟨g, k * 11 + 2, none⟩ (.int .i64 (n : Int))) eb (.slice (some ⟨g, 0, none⟩) n cp) (.slice (some ⟨g, 0, none⟩) n cp) (X.set k { y with b := (n : Int) }) c) := h.jump hk _
  have hcp := hO.caps
  rw [← hn] at hcp
  have HX : Hid (OwnX w (eb + 1) g cp X ∧ X[k]? = some y ∧ n = X.length) := ⟨hO, hk, hn⟩
  have HB : Hid (EmAt w eb (.slice (some ⟨g, 0, none⟩) n cp) X c ∧ LabAt w P1 P3 eb k) := ⟨h, hL⟩
  have zk : (k : Int) < (n : Int) := by omega
  have hSd : (fun w' : World => w'.cell? ⟨eb, 0, none⟩ = some (.slice (some ⟨g, 0, none⟩) n cp) ∧ w'.cell? ⟨P1, 0, none⟩ = some (.pointer (some ⟨eb, 0, none⟩)) ∧ w'.cell? ⟨P3, 0, none⟩ = some (.int .i64 (k : Int))) w.drew := ⟨h.box.cell (j := 0) rfl, hL.e.cell (j := 0) rfl, hL.at_.cell (j := 0) rfl⟩
  have cb : w.cell? ⟨g, k * 11 + 2, none⟩ = some (.int .i64 y.b) := by have := (hO.at k y hk).2.2.1; simpa using this
  have fb : w.frozen? ⟨g, k * 11 + 2, none⟩ = false := World.ownsRow.frozenAt hO _
  rw [← hn]
  clear h hL hk hn hO
  go_enter Try.func66, Try.ntmps66
  refine wp_region_T 14 (fun w' : World => w'.cell? ⟨eb, 0, none⟩ = some (.slice (some ⟨g, 0, none⟩) n cp) ∧ w'.cell? ⟨P1, 0, none⟩ = some (.pointer (some ⟨eb, 0, none⟩)) ∧ w'.cell? ⟨P3, 0, none⟩ = some (.int .i64 (k : Int))) (by kernel_rfl) ?_
  refine anyT_take (i := 0) (v := ?vj0) rfl (by kernel_rfl) (by kernel_rfl) (by kernel_rfl) (by kernel_rfl) (by decide) (fun _ _ _ h => h) (Or.inl ⟨by rfl, ?yj0⟩) hSd ?_
  case yj0 => (intro wz hSw; obtain ⟨hz, hy0, hy1⟩ := hSw; go_simp; (try with_reducible rfl))
  try simp only [Act.put, List.getElem_toArray, List.getElem_cons_zero, List.getElem_cons_succ, List.setIfInBounds_toArray, List.set_cons_zero, List.set_cons_succ]
  refine anyT_take (i := 1) (v := ?vj1) rfl (by kernel_rfl) (by kernel_rfl) (by kernel_rfl) (by kernel_rfl) (by decide) (fun _ _ _ h => h) (Or.inl ⟨by rfl, ?yj1⟩) hSd ?_
  case yj1 => (intro wz hSw; obtain ⟨hz, hy0, hy1⟩ := hSw; go_simp; (try with_reducible rfl))
  try simp only [Act.put, List.getElem_toArray, List.getElem_cons_zero, List.getElem_cons_succ, List.setIfInBounds_toArray, List.set_cons_zero, List.set_cons_succ]
  refine anyT_take (i := 2) (v := ?vj2) rfl (by kernel_rfl) (by kernel_rfl) (by kernel_rfl) (by kernel_rfl) (by decide) (fun _ _ _ h => h) (Or.inl ⟨by rfl, ?yj2⟩) hSd ?_
  case yj2 => (intro wz hSw; obtain ⟨hz, hy0, hy1⟩ := hSw; go_simp; (try with_reducible rfl))
  try simp only [Act.put, List.getElem_toArray, List.getElem_cons_zero, List.getElem_cons_succ, List.setIfInBounds_toArray, List.set_cons_zero, List.set_cons_succ]
  refine anyT_take (i := 3) (v := ?vj3) rfl (by kernel_rfl) (by kernel_rfl) (by kernel_rfl) (by kernel_rfl) (by decide) (fun _ _ _ h => h) (Or.inl ⟨by rfl, ?yj3⟩) hSd ?_
  case yj3 => (intro wz hSw; obtain ⟨hz, hy0, hy1⟩ := hSw; go_simp; (try with_reducible rfl))
  try simp only [Act.put, List.getElem_toArray, List.getElem_cons_zero, List.getElem_cons_succ, List.setIfInBounds_toArray, List.set_cons_zero, List.set_cons_succ]
  refine anyT_take (i := 4) (v := ?vj4) rfl (by kernel_rfl) (by kernel_rfl) (by kernel_rfl) (by kernel_rfl) (by decide) (fun _ _ _ h => h) (Or.inl ⟨by rfl, ?yj4⟩) hSd ?_
  case yj4 => (intro wz hSw; obtain ⟨hz, hy0, hy1⟩ := hSw; go_simp; (try with_reducible rfl))
  try simp only [Act.put, List.getElem_toArray, List.getElem_cons_zero, List.getElem_cons_succ, List.setIfInBounds_toArray, List.set_cons_zero, List.set_cons_succ]
  refine anyT_take (i := 5) (v := ?vj5) rfl (by kernel_rfl) (by kernel_rfl) (by kernel_rfl) (by kernel_rfl) (by decide) (fun _ _ _ h => h) (Or.inl ⟨by rfl, ?yj5⟩) hSd ?_
  case yj5 => (intro wz hSw; obtain ⟨hz, hy0, hy1⟩ := hSw; go_simp; (try with_reducible rfl))
  try simp only [Act.put, List.getElem_toArray, List.getElem_cons_zero, List.getElem_cons_succ, List.setIfInBounds_toArray, List.set_cons_zero, List.set_cons_succ]
  refine anyT_take (i := 6) (v := ?vj6) rfl (by kernel_rfl) (by kernel_rfl) (by kernel_rfl) (by kernel_rfl) (by decide) (fun _ _ _ h => h) (Or.inl ⟨by rfl, ?yj6⟩) hSd ?_
  case yj6 => (intro wz hSw; obtain ⟨hz, hy0, hy1⟩ := hSw; go_simp; (try with_reducible rfl))
  try simp only [Act.put, List.getElem_toArray, List.getElem_cons_zero, List.getElem_cons_succ, List.setIfInBounds_toArray, List.set_cons_zero, List.set_cons_succ]
  refine anyT_take (i := 7) (v := ?vj7) rfl (by kernel_rfl) (by kernel_rfl) (by kernel_rfl) (by kernel_rfl) (by decide) (fun _ _ _ h => h) (Or.inl ⟨by rfl, ?yj7⟩) hSd ?_
  case yj7 => (intro wz hSw; obtain ⟨hz, hy0, hy1⟩ := hSw; go_simp; (try with_reducible rfl))
  try simp only [Act.put, List.getElem_toArray, List.getElem_cons_zero, List.getElem_cons_succ, List.setIfInBounds_toArray, List.set_cons_zero, List.set_cons_succ]
  refine anyT_take (i := 8) (v := ?vj8) rfl (by kernel_rfl) (by kernel_rfl) (by kernel_rfl) (by kernel_rfl) (by decide) (fun _ _ _ h => h) (Or.inl ⟨by rfl, ?yj8⟩) hSd ?_
  case yj8 => (intro wz hSw; obtain ⟨hz, hy0, hy1⟩ := hSw; go_simp; (try with_reducible rfl))
  try simp only [Act.put, List.getElem_toArray, List.getElem_cons_zero, List.getElem_cons_succ, List.setIfInBounds_toArray, List.set_cons_zero, List.set_cons_succ]
  refine anyT_take (i := 9) (v := ?vj9) rfl (by kernel_rfl) (by kernel_rfl) (by kernel_rfl) (by kernel_rfl) (by decide) (fun _ _ _ h => h) (Or.inl ⟨by rfl, ?yj9⟩) hSd ?_
  case yj9 => (intro wz hSw; obtain ⟨hz, hy0, hy1⟩ := hSw; go_simp; (try with_reducible rfl))
  try simp only [Act.put, List.getElem_toArray, List.getElem_cons_zero, List.getElem_cons_succ, List.setIfInBounds_toArray, List.set_cons_zero, List.set_cons_succ]
  refine anyT_take (i := 10) (v := ?vj10) rfl (by kernel_rfl) (by kernel_rfl) (by kernel_rfl) (by kernel_rfl) (by decide) (fun _ _ _ h => h) (Or.inl ⟨by rfl, ?yj10⟩) hSd ?_
  case yj10 => (intro wz hSw; obtain ⟨hz, hy0, hy1⟩ := hSw; go_simp; (try with_reducible rfl))
  try simp only [Act.put, List.getElem_toArray, List.getElem_cons_zero, List.getElem_cons_succ, List.setIfInBounds_toArray, List.set_cons_zero, List.set_cons_succ]
  refine anyT_take (i := 11) (v := ?vj11) rfl (by kernel_rfl) (by kernel_rfl) (by kernel_rfl) (by kernel_rfl) (by decide) (fun _ _ _ h => h) (Or.inl ⟨by rfl, ?yj11⟩) hSd ?_
  case yj11 => (intro wz hSw; obtain ⟨hz, hy0, hy1⟩ := hSw; go_simp; (try with_reducible rfl))
  try simp only [Act.put, List.getElem_toArray, List.getElem_cons_zero, List.getElem_cons_succ, List.setIfInBounds_toArray, List.set_cons_zero, List.set_cons_succ]
  refine anyT_one (i := 12) (by kernel_rfl) rfl (fun K hK => ?_)
  go_simp
  refine hK.out _ _ (.inr hSd) ?_
  clear hK
  try simp only [Act.put, List.getElem_toArray, List.getElem_cons_zero, List.getElem_cons_succ, List.setIfInBounds_toArray, List.set_cons_zero, List.set_cons_succ]
  refine anyT_one (i := 13) (by kernel_rfl) rfl (fun K hK => ?_)
  go_simp
  refine hK.out _ _ (.inr hSd) ?_
  clear hK
  try simp only [Act.put, List.getElem_toArray, List.getElem_cons_zero, List.getElem_cons_succ, List.setIfInBounds_toArray, List.set_cons_zero, List.set_cons_succ]
  refine anyT_one (i := 14) (by kernel_rfl) rfl (fun K hK => ?_)
  go_simp
  refine hK.out _ _ (.inl rfl) ?_
  clear hK
  try simp only [Act.put, List.getElem_toArray, List.getElem_cons_zero, List.getElem_cons_succ, List.setIfInBounds_toArray, List.set_cons_zero, List.set_cons_succ]
  refine anyT_done (by kernel_rfl) ?_
  go_wp2_with fail
  refine bodyPost_end (results_none rfl _ _ _) rfl ?_
  exact ⟨rfl, HJ.out.trans (EmTo.of_below HJ.out.at_ ((Below.refl _ _).drew))⟩
def JmpP (w : World) (eb c : Nat) (v : Value) (X : List Ix) (x : Ix) (r : Ending) (w' : World) : Prop := ∃ P1 P3 v', r = .returned (labV P1 P3) ∧ LabAt w' P1 P3 eb X.length ∧ EmTo w w' eb v v' (X ++ [x]) c
set_option maxHeartbeats 4000000 in
theorem addJump_core {w : World} {eb c : Nat} {v : Value} {X : List Ix} (h : EmAt w eb v X c) (x : Ix) (hl : X.length ≤ 100000) : Calls Try.prog 51 #[.pointer (some ⟨eb, 0, none⟩), x.v] w (JmpP w eb c v X x) := by
  obtain ⟨va, vc, hv⟩ := h.row.slice
  obtain ⟨vn, hvn⟩ : ∃ vn, vn = X.length := ⟨_, rfl⟩
  rw [← hvn] at hv
  subst hv
  have HE : Hid (EmAt w eb (.slice va vn vc) X c ∧ vn = X.length) := ⟨h, hvn⟩
  have HL : Hid (X.length ≤ 100000) := hl
  clear h hvn hl
  obtain ⟨W0, hW0⟩ : ∃ W0 : World, W0 = (w.alloc (Obj.cells #[.pointer (some ⟨eb, 0, none⟩)] 53)).alloc (Obj.cells #[.int .i64 x.op, .int .i64 x.a, .int .i64 x.b, .bool x.free, .int .i64 x.leaf.kind, .string x.leaf.s, .bool x.leaf.hi, .string x.leaf.t, .int .u64 x.leaf.lo, .int .u64 x.leaf.up, .int .i64 x.leaf.n] 77) := ⟨_, rfl⟩
  obtain ⟨P1, hP1⟩ : ∃ P1, P1 = w.heap.size := ⟨_, rfl⟩
  obtain ⟨P2, hP2⟩ : ∃ P2, P2 = w.heap.size + 1 := ⟨_, rfl⟩
  have z1 : (w.alloc (Obj.cells #[.pointer (some ⟨eb, 0, none⟩)] 53)).heap.size = w.heap.size + 1 := by simp
  have HB0 : Hid (BoxAt W0 P1 53 1 P1 [.pointer (some ⟨eb, 0, none⟩)] ∧ BoxAt W0 P2 77 11 P2 x.ten ∧ Below w.heap.size w W0) := by
    have hb2 := boxAt_new (w.alloc (Obj.cells #[.pointer (some ⟨eb, 0, none⟩)] 53)) (base := w.heap.size + 1) (t := 77) (sz := 11) #[.int .i64 x.op, .int .i64 x.a, .int .i64 x.b, .bool x.free, .int .i64 x.leaf.kind, .string x.leaf.s, .bool x.leaf.hi, .string x.leaf.t, .int .u64 x.leaf.lo, .int .u64 x.leaf.up, .int .i64 x.leaf.n] (by rw [z1]; exact Nat.le_refl _) rfl
    rw [z1] at hb2
    rw [hW0, hP1, hP2]
    exact ⟨(boxAt_new w _ (Nat.le_refl _) rfl).below ((Below.refl _ _).alloc (Nat.le_refl _) _), hb2, ((Below.refl _ _).alloc (Nat.le_refl _) _).alloc (by simp) _⟩
  clear z1
  have HE0 : Hid (EmAt W0 eb (.slice va vn vc) X c) := HE.out.1.below HB0.out.2.2
  have q0 : W0.cell? ⟨eb, 0, none⟩ = some (.slice va vn vc) := HE0.out.box.cell (j := 0) rfl
  have q1 : W0.cell? ⟨P1, 0, none⟩ = some (.pointer (some ⟨eb, 0, none⟩)) := HB0.out.1.cell (j := 0) rfl
  obtain ⟨W1, hW1⟩ : ∃ W1 : World, W1 = W0.alloc (Obj.cells #[.int .i64 (vn : Int)] 3) := ⟨_, rfl⟩
  obtain ⟨P3, hP3⟩ : ∃ P3, P3 = W0.heap.size := ⟨_, rfl⟩
  have hbA : Below W0.heap.size W0 W1 := by rw [hW1]; exact (Below.refl _ _).alloc (Nat.le_refl _) _
  have HB1 : Hid (BoxAt W1 P3 3 1 P3 [.int .i64 (vn : Int)] ∧ BoxAt W1 P1 53 1 P1 [.pointer (some ⟨eb, 0, none⟩)] ∧ BoxAt W1 P2 77 11 P2 x.ten ∧ EmAt W1 eb (.slice va vn vc) X c ∧ Below w.heap.size w W1) := by
    refine ⟨?_, HB0.out.1.below hbA, HB0.out.2.1.below hbA, HE0.out.below hbA, HB0.out.2.2.trans (hbA.mono HB0.out.2.2.size)⟩
    rw [hW1, hP3]; exact boxAt_new W0 _ (Nat.le_refl _) rfl
  clear hbA
  go_enter Try.func51, Try.ntmps51
  go_upto_region 1 with fail
  rw [← hW0, ← hP2, ← hP1]
  clear hW0 hP1 hP2
  go_upto_region 2 with fail
  rw [← hW1, ← hP3]
  clear hW1 hP3 q0 q1
  have q1 : W1.cell? ⟨P1, 0, none⟩ = some (.pointer (some ⟨eb, 0, none⟩)) := HB1.out.2.1.cell (j := 0) rfl
  have d0 : W1.cell? ⟨P2, 0, none⟩ = some (.int .i64 x.op) := HB1.out.2.2.1.cell (j := 0) rfl
  have d1 : W1.cell? ⟨P2, 1, none⟩ = some (.int .i64 x.a) := HB1.out.2.2.1.cell (j := 1) rfl
  have d2 : W1.cell? ⟨P2, 2, none⟩ = some (.int .i64 x.b) := HB1.out.2.2.1.cell (j := 2) rfl
  have d3 : W1.cell? ⟨P2, 3, none⟩ = some (.bool x.free) := HB1.out.2.2.1.cell (j := 3) rfl
  have d4 : W1.cell? ⟨P2, 4, none⟩ = some (.int .i64 x.leaf.kind) := HB1.out.2.2.1.cell (j := 4) rfl
  have d5 : W1.cell? ⟨P2, 5, none⟩ = some (.string x.leaf.s) := HB1.out.2.2.1.cell (j := 5) rfl
  have d6 : W1.cell? ⟨P2, 6, none⟩ = some (.bool x.leaf.hi) := HB1.out.2.2.1.cell (j := 6) rfl
  have d7 : W1.cell? ⟨P2, 7, none⟩ = some (.string x.leaf.t) := HB1.out.2.2.1.cell (j := 7) rfl
  have d8 : W1.cell? ⟨P2, 8, none⟩ = some (.int .u64 x.leaf.lo) := HB1.out.2.2.1.cell (j := 8) rfl
  have d9 : W1.cell? ⟨P2, 9, none⟩ = some (.int .u64 x.leaf.up) := HB1.out.2.2.1.cell (j := 9) rfl
  have d10 : W1.cell? ⟨P2, 10, none⟩ = some (.int .i64 x.leaf.n) := HB1.out.2.2.1.cell (j := 10) rfl
  go_wp2_with fail
  refine (add_core HB1.out.2.2.2.1 x HL.out).mono ?_
  rintro r w2 ⟨rfl, v', hT⟩
  have HR : Hid (JmpP w eb c (.slice va vn vc) X x (.returned (labV P1 P3)) w2) := by
    have hl : LabAt W1 P1 P3 eb X.length := ⟨HB1.out.2.1, by rw [← HE.out.2]; exact HB1.out.1⟩
    exact ⟨P1, P3, v', rfl, hl.move HB1.out.2.2.2.1 hT, (EmTo.of_below HE.out.1 HB1.out.2.2.2.2).trans hT⟩
  clear hT q1 d0 d1 d2 d3 d4 d5 d6 d7 d8 d9 d10
  go_wp2_with fail
  go_ret
  exact HR.out
set_option maxHeartbeats 1000000 in
theorem hasC_core (k : Int) (w : World) : Calls Try.prog 67 #[.int .i64 k] w fun r w' => r = .returned (.bool (isCnt k)) ∧ w' = w := by
  go_enter Try.func67, Try.ntmps67
  go_wp2_with fail
  all_goals go_ret
  all_goals exact ⟨by (have e0 : isCnt k = (k == 11 || k == 12 || k == 13) := by simp only [isCnt, Bool.decide_or, Bool.or_assoc]; rfl); rw [e0]; simp_all, rfl⟩
/-- The count set. -/
theorem EmAt.count {w : World} {eb c : Nat} {v : Value} {X : List Ix} (h : EmAt w eb v X c) (c' : Nat) : EmTo w (w.setCell ⟨eb, 1, none⟩ (.int .i64 (c' : Int))) eb v v X c' := by
  have hset : Chg (fun b => b = eb) w (w.setCell ⟨eb, 1, none⟩ (.int .i64 (c' : Int))) := Chg.of_set _ _ _ _ rfl
  refine ⟨⟨?_, h.row.chg hset (fun k hk q => by have := (h.row.blk hk).1; omega)⟩, hset.mono (fun k hk => .inl hk), fun k hk => .inl hk⟩
  have := h.box.set 1 (.int .i64 (c' : Int))
  simpa using this
theorem absLeaf_no {n : Nd} {k c : Nat} {f : Bool} (h : isCnt n.kind = false) : absG k c [⟨1, 0, 0, f, n⟩] = [⟨1, 0, 0, f, n⟩] ∧ cntL [⟨1, 0, 0, f, n⟩] = 0 := by simp [absG, fixI, cntL, cntI, h]
theorem absLeaf_yes {n : Nd} {k c : Nat} {f : Bool} (h : isCnt n.kind = true) : absG k c [⟨1, 0, 0, f, n⟩] = [⟨1, (c : Int), 0, f, n⟩] ∧ cntL [⟨1, 0, 0, f, n⟩] = 1 := by simp [absG, fixI, cntL, cntI, h]
def LfP (w : World) (eb c : Nat) (v : Value) (X : List Ix) (n : Nd) (s : Bool) (r : Ending) (w' : World) : Prop := ∃ v', r = .returned (.bool (s || isCnt n.kind)) ∧ EmTo w w' eb v v' (X ++ absG X.length c [⟨1, 0, 0, !s, n⟩]) (c + cntL [⟨1, 0, 0, !s, n⟩])
set_option maxHeartbeats 4000000 in
theorem addLeaf_core {w : World} {eb c : Nat} {v : Value} {X : List Ix} (h : EmAt w eb v X c) (n : Nd) (s : Bool) (hl : X.length ≤ 100000) (hc : c ≤ 100000) : Calls Try.prog 52 #[.pointer (some ⟨eb, 0, none⟩), n.v, .bool s] w (LfP w eb c v X n s) := by
  have HE : Hid (EmAt w eb v X c) := h
  have HL : Hid (X.length ≤ 100000) := hl
  clear h hl
  obtain ⟨W1, hW1⟩ : ∃ W1 : World, W1 = (w.alloc (Obj.cells #[.int .i64 n.kind, .string n.s, .bool n.hi, .string n.t, .int .u64 n.lo, .int .u64 n.up, .int .i64 n.n] 69)).alloc (Obj.cells #[.int .i64 1, .int .i64 0, .int .i64 0, .bool (!s), .int .i64 n.kind, .string n.s, .bool n.hi, .string n.t, .int .u64 n.lo, .int .u64 n.up, .int .i64 n.n] 77) := ⟨_, rfl⟩
  obtain ⟨P1, hP1⟩ : ∃ P1, P1 = w.heap.size := ⟨_, rfl⟩
  obtain ⟨P2, hP2⟩ : ∃ P2, P2 = w.heap.size + 1 := ⟨_, rfl⟩
  have z1 : (w.alloc (Obj.cells #[.int .i64 n.kind, .string n.s, .bool n.hi, .string n.t, .int .u64 n.lo, .int .u64 n.up, .int .i64 n.n] 69)).heap.size = w.heap.size + 1 := by simp
  have HB1 : Hid (BoxAt W1 P1 69 7 P1 [.int .i64 n.kind, .string n.s, .bool n.hi, .string n.t, .int .u64 n.lo, .int .u64 n.up, .int .i64 n.n] ∧ BoxAt W1 P2 77 11 P2 (Ix.ten ⟨1, 0, 0, !s, n⟩) ∧ Below w.heap.size w W1 ∧ w.heap.size ≤ P2) := by
    have hb2 := boxAt_new (w.alloc (Obj.cells #[.int .i64 n.kind, .string n.s, .bool n.hi, .string n.t, .int .u64 n.lo, .int .u64 n.up, .int .i64 n.n] 69)) (base := w.heap.size + 1) (t := 77) (sz := 11) #[.int .i64 1, .int .i64 0, .int .i64 0, .bool (!s), .int .i64 n.kind, .string n.s, .bool n.hi, .string n.t, .int .u64 n.lo, .int .u64 n.up, .int .i64 n.n] (by rw [z1]; exact Nat.le_refl _) rfl
    rw [z1] at hb2
    rw [hW1, hP1, hP2]
    exact ⟨(boxAt_new w _ (Nat.le_refl _) rfl).below ((Below.refl _ _).alloc (Nat.le_refl _) _), hb2, ((Below.refl _ _).alloc (Nat.le_refl _) _).alloc (by simp) _, by omega⟩
  clear z1
  have HE1 : Hid (EmAt W1 eb v X c) := HE.out.below HB1.out.2.2.1
  have HOf : Hid (∀ k, v.ownBlock = some k → k ≠ P2) := fun k hk q => by have := (HE.out.row.blk hk).2; have := HB1.out.2.2.2; omega
  have HeP : Hid (¬ eb = P2) := fun q => by have := HE.out.lt; have := HB1.out.2.2.2; omega
  go_enter Try.func52, Try.ntmps52
  go_upto_region 2 with fail
  rw [← hW1, ← hP2, ← hP1]
  clear hW1 hP1 hP2
  have q0 : W1.cell? ⟨P1, 0, none⟩ = some (.int .i64 n.kind) := HB1.out.1.cell (j := 0) rfl
  go_wp2_with fail
  refine (hasC_core n.kind W1).mono ?_
  rintro r w1' ⟨rfl, hw1⟩
  rw [hw1]
  clear hw1 q0
  obtain ⟨ct, hct⟩ : ∃ ct, ct = isCnt n.kind := ⟨_, rfl⟩
  rw [← hct]
  have HCt : Hid (ct = isCnt n.kind) := hct
  clear hct
  cases ct
  case false =>
    have HY : Hid (absG X.length c [⟨1, 0, 0, !s, n⟩] = [⟨1, 0, 0, !s, n⟩] ∧ cntL [⟨1, 0, 0, !s, n⟩] = 0) := absLeaf_no HCt.out.symm
    have d0 : W1.cell? ⟨P2, 0, none⟩ = some (.int .i64 1) := HB1.out.2.1.cell (j := 0) rfl
    have d1 : W1.cell? ⟨P2, 1, none⟩ = some (.int .i64 0) := HB1.out.2.1.cell (j := 1) rfl
    have d2 : W1.cell? ⟨P2, 2, none⟩ = some (.int .i64 0) := HB1.out.2.1.cell (j := 2) rfl
    have d3 : W1.cell? ⟨P2, 3, none⟩ = some (.bool (!s)) := HB1.out.2.1.cell (j := 3) rfl
    have d4 : W1.cell? ⟨P2, 4, none⟩ = some (.int .i64 n.kind) := HB1.out.2.1.cell (j := 4) rfl
    have d5 : W1.cell? ⟨P2, 5, none⟩ = some (.string n.s) := HB1.out.2.1.cell (j := 5) rfl
    have d6 : W1.cell? ⟨P2, 6, none⟩ = some (.bool n.hi) := HB1.out.2.1.cell (j := 6) rfl
    have d7 : W1.cell? ⟨P2, 7, none⟩ = some (.string n.t) := HB1.out.2.1.cell (j := 7) rfl
    have d8 : W1.cell? ⟨P2, 8, none⟩ = some (.int .u64 n.lo) := HB1.out.2.1.cell (j := 8) rfl
    have d9 : W1.cell? ⟨P2, 9, none⟩ = some (.int .u64 n.up) := HB1.out.2.1.cell (j := 9) rfl
    have d10 : W1.cell? ⟨P2, 10, none⟩ = some (.int .i64 n.n) := HB1.out.2.1.cell (j := 10) rfl
    go_wp2_with fail
    refine (add_core HE1.out ⟨1, 0, 0, !s, n⟩ HL.out).mono ?_
    rintro r w2 ⟨rfl, v', hT⟩
    have HR : Hid (LfP w eb c v X n s (.returned (.bool s)) w2) := by
      refine ⟨v', by rw [← HCt.out]; simp, ?_⟩
      rw [HY.out.1, HY.out.2]
      exact (EmTo.of_below HE.out HB1.out.2.2.1).trans hT
    clear hT d0 d1 d2 d3 d4 d5 d6 d7 d8 d9 d10
    go_wp2_with fail
    go_ret
    exact HR.out
  case true =>
    have HY : Hid (absG X.length c [⟨1, 0, 0, !s, n⟩] = [⟨1, (c : Int), 0, !s, n⟩] ∧ cntL [⟨1, 0, 0, !s, n⟩] = 1) := absLeaf_yes HCt.out.symm
    have q1 : W1.cell? ⟨eb, 1, none⟩ = some (.int .i64 (c : Int)) := HE1.out.box.cell (j := 1) rfl
    have q2 : W1.cell? ⟨P2, 1, none⟩ = some (.int .i64 0) := HB1.out.2.1.cell (j := 1) rfl
    have f2 := HB1.out.2.1.frozen 1
    obtain ⟨W2, hW2⟩ : ∃ W2 : World, W2 = W1.setCell ⟨P2, 1, none⟩ (.int .i64 (c : Int)) := ⟨_, rfl⟩
    have hset : Chg (fun b => b = P2) W1 W2 := by rw [hW2]; exact Chg.of_set _ _ _ _ rfl
    have HE2 : Hid (EmAt W2 eb v X c ∧ BoxAt W2 P2 77 11 P2 (Ix.ten ⟨1, (c : Int), 0, !s, n⟩) ∧ Below w.heap.size w W2) := by
      refine ⟨⟨HE1.out.box.chg hset HeP.out, HE1.out.row.chg hset (fun k hk q => HOf.out k hk q)⟩, ?_, ?_⟩
      · rw [hW2]; exact HB1.out.2.1.set 1 _
      · rw [hW2]; exact below_set HB1.out.2.2.1 HB1.out.2.2.2 _ _
    clear hset
    go_upto_region 4 with fail
    rw [← hW2]
    clear hW2 q1 q2 f2
    have q1 : W2.cell? ⟨eb, 1, none⟩ = some (.int .i64 (c : Int)) := HE2.out.1.box.cell (j := 1) rfl
    have f2 := HE2.out.1.box.frozen 1
    obtain ⟨W3, hW3⟩ : ∃ W3 : World, W3 = W2.setCell ⟨eb, 1, none⟩ (.int .i64 ((c : Int) + 1)) := ⟨_, rfl⟩
    have HE3 : Hid (EmTo W2 W3 eb v v X (c + 1) ∧ BoxAt W3 P2 77 11 P2 (Ix.ten ⟨1, (c : Int), 0, !s, n⟩)) := by
      rw [hW3]
      refine ⟨by have := HE2.out.1.count (c + 1); rwa [Int.natCast_add] at this, HE2.out.2.1.beside (fun q => HeP.out q.symm) _ _⟩
    go_upto_region 5 with fail
    rw [← hW3]
    clear hW3 q1 f2
    have d0 : W3.cell? ⟨P2, 0, none⟩ = some (.int .i64 1) := HE3.out.2.cell (j := 0) rfl
    have d1 : W3.cell? ⟨P2, 1, none⟩ = some (.int .i64 (c : Int)) := HE3.out.2.cell (j := 1) rfl
    have d2 : W3.cell? ⟨P2, 2, none⟩ = some (.int .i64 0) := HE3.out.2.cell (j := 2) rfl
    have d3 : W3.cell? ⟨P2, 3, none⟩ = some (.bool (!s)) := HE3.out.2.cell (j := 3) rfl
    have d4 : W3.cell? ⟨P2, 4, none⟩ = some (.int .i64 n.kind) := HE3.out.2.cell (j := 4) rfl
    have d5 : W3.cell? ⟨P2, 5, none⟩ = some (.string n.s) := HE3.out.2.cell (j := 5) rfl
    have d6 : W3.cell? ⟨P2, 6, none⟩ = some (.bool n.hi) := HE3.out.2.cell (j := 6) rfl
    have d7 : W3.cell? ⟨P2, 7, none⟩ = some (.string n.t) := HE3.out.2.cell (j := 7) rfl
    have d8 : W3.cell? ⟨P2, 8, none⟩ = some (.int .u64 n.lo) := HE3.out.2.cell (j := 8) rfl
    have d9 : W3.cell? ⟨P2, 9, none⟩ = some (.int .u64 n.up) := HE3.out.2.cell (j := 9) rfl
    have d10 : W3.cell? ⟨P2, 10, none⟩ = some (.int .i64 n.n) := HE3.out.2.cell (j := 10) rfl
    go_wp2_with fail
    refine (add_core HE3.out.1.at_ ⟨1, (c : Int), 0, !s, n⟩ HL.out).mono ?_
    rintro r w2 ⟨rfl, v', hT⟩
    have HR : Hid (LfP w eb c v X n s (.returned (.bool true)) w2) := by
      refine ⟨v', by rw [← HCt.out]; simp, ?_⟩
      rw [HY.out.1, HY.out.2]
      exact ((EmTo.of_below HE.out HE2.out.2.2).trans HE3.out.1).trans hT
    clear hT d0 d1 d2 d3 d4 d5 d6 d7 d8 d9 d10
    go_wp2_with fail
    go_ret
    exact HR.out
end Go.Proofs.Ytkbmdkgfgfbilaa

/-
  Code trees in memory.
-/
namespace Go.Proofs.Ytkbmdkgfgfbilaa
open Go.ChangeShapes Go.WideShapes Go.ChangeAt Go.RowKit Go.Deep
set_option linter.unusedVariables false
set_option linter.unusedSimpArgs false
set_option maxRecDepth 100000

abbrev ptrV (p : Nat) : Value := .pointer (some ⟨p, 0, none⟩)
/-- A tree's node: its operands' slice and its number. -/
abbrev tnode (n : Nd) (v : Value) (k : Int) : List Value := [.int .i64 n.kind, .string n.s, .bool n.hi, .string n.t, .int .u64 n.lo, .int .u64 n.up, .int .i64 n.n, v, .int .i64 k]
def BoxT (w : World) (base p : Nat) (n : Nd) (v : Value) (k : Int) : Prop := BoxAt w base 89 9 p (tnode n v k)
def PRow (w : World) (base q cq : Nat) (ps : List Nat) : Prop := w.ownsRow base 48 1 (.slice (some ⟨q, 0, none⟩) ps.length cq) ps.length (ps.map ptrV)
/-- The tree 't' lies in blocks lo .. hi, its node at 'p'; with 'f' its ifs have their numbers from f on. -/
def TrAt (w : World) : CT → Nat → Nat → Nat → Option Nat → Prop
  | .leaf n, lo, hi, p, _ => arity n.kind = 0 ∧ ∃ v k, BoxT w lo p n v k ∧ p < hi
  | .chain n a b, lo, hi, p, f => n.kind = 14 ∧ ∃ m m2 pa pb q cq k, TrAt w a lo m pa f ∧ TrAt w b m m2 pb (f.map (· + a.ifs)) ∧ lo ≤ m ∧ m ≤ m2 ∧ BoxT w m2 p n (.slice (some ⟨q, 0, none⟩) 2 cq) k ∧ PRow w m2 q cq [pa, pb] ∧ p < hi ∧ q < hi
  | .inter n a b, lo, hi, p, f => n.kind = 15 ∧ ∃ m m2 pa pb q cq k, TrAt w a lo m pa f ∧ TrAt w b m m2 pb (f.map (· + a.ifs)) ∧ lo ≤ m ∧ m ≤ m2 ∧ BoxT w m2 p n (.slice (some ⟨q, 0, none⟩) 2 cq) k ∧ PRow w m2 q cq [pa, pb] ∧ p < hi ∧ q < hi
  | .cond n a b c, lo, hi, p, f => n.kind = 16 ∧ ∃ m m2 m3 pa pb pc q cq k, TrAt w a lo m pa f ∧ TrAt w b m m2 pb (f.map (· + a.ifs + 1)) ∧ TrAt w c m2 m3 pc (f.map (· + a.ifs + 1 + b.ifs)) ∧ lo ≤ m ∧ m ≤ m2 ∧ m2 ≤ m3 ∧ BoxT w m3 p n (.slice (some ⟨q, 0, none⟩) 3 cq) k ∧ PRow w m3 q cq [pa, pb, pc] ∧ p < hi ∧ q < hi ∧ ∀ f0, f = some f0 → k = ((f0 + a.ifs : Nat) : Int)
theorem PRow.chg {S : Nat → Prop} {w w' : World} {base q cq : Nat} {ps : List Nat} (h : PRow w base q cq ps) (hc : Chg S w w') (hn : ¬ S q) : PRow w' base q cq ps := own_chg h hc (fun k hk => by simp [Value.ownBlock] at hk; subst hk; exact hn)
theorem PRow.lt {w : World} {base q cq : Nat} {ps : List Nat} (h : PRow w base q cq ps) : base ≤ q ∧ q < w.heap.size := World.ownsRow.lt h q rfl
theorem PRow.cell {w : World} {base q cq : Nat} {ps : List Nat} (h : PRow w base q cq ps) {j p : Nat} (hj : ps[j]? = some p) : w.cell? ⟨q, j, none⟩ = some (ptrV p) := by
  have hl := (List.getElem?_eq_some_iff.1 hj).1
  rw [World.ownsRow.cellAt h j (by omega), List.getElem?_map, hj]; rfl
theorem PRow.caps {w : World} {base q cq : Nat} {ps : List Nat} (h : PRow w base q cq ps) : ps.length ≤ cq ∧ cq ≤ maxLen := by
  rcases h.2 with ⟨h0, _⟩ | ⟨g', cap', cur, hv, _, _, hn, hcap, _, _⟩
  · cases h0
  · simp only [Value.slice.injEq, Option.some.injEq, Addr.mk.injEq, and_true, true_and] at hv
    obtain ⟨rfl, rfl⟩ := hv
    exact ⟨hn, hcap⟩
theorem TrAt.lt {w : World} {t : CT} {lo hi p : Nat} {f : Option Nat} (h : TrAt w t lo hi p f) : lo ≤ p ∧ p < hi ∧ p < w.heap.size := by
  cases t with
  | leaf n => obtain ⟨_, v, k, hb, hp⟩ := h; exact ⟨hb.lt.1, hp, hb.lt.2⟩
  | chain n a b => obtain ⟨_, m, m2, pa, pb, q, cq, k, _, _, h1, h2, hb, _, hp, _⟩ := h; have := hb.lt; exact ⟨by omega, hp, this.2⟩
  | inter n a b => obtain ⟨_, m, m2, pa, pb, q, cq, k, _, _, h1, h2, hb, _, hp, _⟩ := h; have := hb.lt; exact ⟨by omega, hp, this.2⟩
  | cond n a b c => obtain ⟨_, m, m2, m3, pa, pb, pc, q, cq, k, _, _, _, h1, h2, h3, hb, _, hp, _⟩ := h; have := hb.lt; exact ⟨by omega, hp, this.2⟩
theorem TrAt.chg {S : Nat → Prop} {w w' : World} (hc : Chg S w w') : ∀ {t : CT} {lo hi p : Nat} {f : Option Nat}, TrAt w t lo hi p f → (∀ b, lo ≤ b → b < hi → ¬ S b) → TrAt w' t lo hi p f := by
  intro t
  induction t with
  | leaf n => intro lo hi p f h hS; obtain ⟨h0, v, k, hb, hp⟩ := h; exact ⟨h0, v, k, hb.chg hc (hS p hb.lt.1 hp), hp⟩
  | chain n a b ha hb' =>
    intro lo hi p f h hS
    obtain ⟨h0, m, m2, pa, pb, q, cq, k, h1, h2, l1, l2, hb, hr, hp, hq⟩ := h
    have := hb.lt; have := hr.lt
    exact ⟨h0, m, m2, pa, pb, q, cq, k, ha h1 (fun b h3 h4 => hS b h3 (by omega)), hb' h2 (fun b h3 h4 => hS b (by omega) (by omega)), l1, l2, hb.chg hc (hS p (by omega) hp), hr.chg hc (hS q (by omega) hq), hp, hq⟩
  | inter n a b ha hb' =>
    intro lo hi p f h hS
    obtain ⟨h0, m, m2, pa, pb, q, cq, k, h1, h2, l1, l2, hb, hr, hp, hq⟩ := h
    have := hb.lt; have := hr.lt
    exact ⟨h0, m, m2, pa, pb, q, cq, k, ha h1 (fun b h3 h4 => hS b h3 (by omega)), hb' h2 (fun b h3 h4 => hS b (by omega) (by omega)), l1, l2, hb.chg hc (hS p (by omega) hp), hr.chg hc (hS q (by omega) hq), hp, hq⟩
  | cond n a b c ha hb' hc' =>
    intro lo hi p f h hS
    obtain ⟨h0, m, m2, m3, pa, pb, pc, q, cq, k, h1, h2, h3, l1, l2, l3, hb, hr, hp, hq, hk⟩ := h
    have := hb.lt; have := hr.lt
    exact ⟨h0, m, m2, m3, pa, pb, pc, q, cq, k, ha h1 (fun b h3 h4 => hS b h3 (by omega)), hb' h2 (fun b h3 h4 => hS b (by omega) (by omega)), hc' h3 (fun b h3 h4 => hS b (by omega) (by omega)), l1, l2, l3, hb.chg hc (hS p (by omega) hp), hr.chg hc (hS q (by omega) hq), hp, hq, hk⟩
theorem TrAt.below {w w' : World} {t : CT} {lo hi p B : Nat} {f : Option Nat} (h : TrAt w t lo hi p f) (hb : Below B w w') (hB : hi ≤ B) (hs : B ≤ w.heap.size) : TrAt w' t lo hi p f :=
  h.chg (S := fun b => B ≤ b) ⟨hb.os, hb.tape, hb.output, hb.size, fun k hk hn => hb.block k (by omega)⟩ (fun b h1 h2 h3 => by omega)
theorem TrAt.high {w : World} {t : CT} {lo hi hi' p : Nat} {f : Option Nat} (h : TrAt w t lo hi p f) (hh : hi ≤ hi') : TrAt w t lo hi' p f := by
  cases t with
  | leaf n => obtain ⟨h0, v, k, hb, hp⟩ := h; exact ⟨h0, v, k, hb, by omega⟩
  | chain n a b => obtain ⟨h0, m, m2, pa, pb, q, cq, k, h1, h2, l1, l2, hb, hr, hp, hq⟩ := h; exact ⟨h0, m, m2, pa, pb, q, cq, k, h1, h2, l1, l2, hb, hr, by omega, by omega⟩
  | inter n a b => obtain ⟨h0, m, m2, pa, pb, q, cq, k, h1, h2, l1, l2, hb, hr, hp, hq⟩ := h; exact ⟨h0, m, m2, pa, pb, q, cq, k, h1, h2, l1, l2, hb, hr, by omega, by omega⟩
  | cond n a b c => obtain ⟨h0, m, m2, m3, pa, pb, pc, q, cq, k, h1, h2, h3, l1, l2, l3, hb, hr, hp, hq, hk⟩ := h; exact ⟨h0, m, m2, m3, pa, pb, pc, q, cq, k, h1, h2, h3, l1, l2, l3, hb, hr, by omega, by omega, hk⟩
/-- What emit says. -/
def EmP (w : World) (eb c : Nat) (v : Value) (X : List Ix) (t : CT) (s : Bool) (f : Nat) (r : Ending) (w' : World) : Prop := ∃ v', r = .returned (.bool (s || t.passes)) ∧ EmTo w w' eb v v' (X ++ absG X.length c (t.gen s f)) (c + cntL (t.gen s f))
def EmC (t : CT) : Prop := ∀ (w : World) (lo hi p f eb c : Nat) (v : Value) (X : List Ix) (s : Bool), TrAt w t lo hi p (some f) → EmAt w eb v X c → hi ≤ eb → X.length + 3 * t.size ≤ 50000 → c + t.size ≤ 50000 → f + t.ifs ≤ 50000 →
  Calls Try.prog 24 #[ptrV p, ptrV eb, .bool s] w (EmP w eb c v X t s f)
theorem absG_op {o : Int} (h1 : o ≠ 1) (h5 : o ≠ 5) (h6 : o ≠ 6) (k c : Nat) : absG k c [opI o] = [opI o] ∧ cntL [opI o] = 0 := by
  simp [absG, fixI, opI, cntL, cntI, h1, h5, h6]
end Go.Proofs.Ytkbmdkgfgfbilaa

/-
  (*impl.codeTree).emit: a leaf.
-/
namespace Go.Proofs.Ytkbmdkgfgfbilaa
open Go.ChangeShapes Go.WideShapes Go.ChangeAt Go.RowKit Go.Deep
set_option linter.unusedVariables false
set_option linter.unusedSimpArgs false
set_option maxRecDepth 100000

set_option maxHeartbeats 4000000 in
theorem emit_leaf (n : Nd) : EmC (.leaf n) := by
  intro w lo hi p f eb c v X s hT hE hh hl hc hf
  obtain ⟨h0, vv, k, hb, hp⟩ := hT
  have z14 : (n.kind == 14) = false := by rw [beq_eq_false_iff_ne]; exact fun q => by rw [q] at h0; simp [arity] at h0
  have z15 : (n.kind == 15) = false := by rw [beq_eq_false_iff_ne]; exact fun q => by rw [q] at h0; simp [arity] at h0
  have z16 : (n.kind == 16) = false := by rw [beq_eq_false_iff_ne]; exact fun q => by rw [q] at h0; simp [arity] at h0
  have d0 : w.cell? ⟨p, 0, none⟩ = some (.int .i64 n.kind) := BoxAt.cell hb (j := 0) rfl
  have d1 : w.cell? ⟨p, 1, none⟩ = some (.string n.s) := BoxAt.cell hb (j := 1) rfl
  have d2 : w.cell? ⟨p, 2, none⟩ = some (.bool n.hi) := BoxAt.cell hb (j := 2) rfl
  have d3 : w.cell? ⟨p, 3, none⟩ = some (.string n.t) := BoxAt.cell hb (j := 3) rfl
  have d4 : w.cell? ⟨p, 4, none⟩ = some (.int .u64 n.lo) := BoxAt.cell hb (j := 4) rfl
  have d5 : w.cell? ⟨p, 5, none⟩ = some (.int .u64 n.up) := BoxAt.cell hb (j := 5) rfl
  have d6 : w.cell? ⟨p, 6, none⟩ = some (.int .i64 n.n) := BoxAt.cell hb (j := 6) rfl
  have HC : Hid (Calls Try.prog 52 #[.pointer (some ⟨eb, 0, none⟩), n.v, .bool s] w (LfP w eb c v X n s)) := addLeaf_core hE n s (by simp only [CT.size] at hl; omega) (by simp only [CT.size] at hc; omega)
  clear hE hb h0
  go_enter Try.func24, Try.ntmps24
  go_wp2_with fail
  refine HC.out.mono ?_
  rintro r w2 ⟨v', rfl, hT⟩
  have HR : Hid (EmP w eb c v X (.leaf n) s f (.returned (.bool (s || isCnt n.kind))) w2) := ⟨v', rfl, hT⟩
  obtain ⟨bb, hbb⟩ : ∃ bb, bb = (s || isCnt n.kind) := ⟨_, rfl⟩
  rw [← hbb] at HR ⊢
  clear hT d0 d1 d2 d3 d4 d5 d6 hbb
  go_wp2_with fail
  go_ret
  exact HR.out
end Go.Proofs.Ytkbmdkgfgfbilaa

/-
  (*impl.codeTree).emit: a chain.
-/
namespace Go.Proofs.Ytkbmdkgfgfbilaa
open Go.ChangeShapes Go.WideShapes Go.ChangeAt Go.RowKit Go.Deep
set_option linter.unusedVariables false
set_option linter.unusedSimpArgs false
set_option maxRecDepth 100000

set_option maxHeartbeats 8000000 in
theorem emit_chain (n : Nd) (a b : CT) (Ha : EmC a) (Hb : EmC b) : EmC (.chain n a b) := by
  intro w lo hi p f eb c v X s hT hE hh hl hc hf
  obtain ⟨h0, m, m2, pa, pb, q, cq, k, hA, hB, l1, l2, hb, hr, hp, hq⟩ := hT
  have hcq : 2 ≤ cq := hr.caps.1
  have hcm := hr.caps.2
  have hbl := BoxAt.lt hb
  have hrl := hr.lt
  have hebl := hE.lt
  have HCL : Hid (∀ wx, Below eb w wx → wx.cell? ⟨p, 7, none⟩ = some (.slice (some ⟨q, 0, none⟩) 2 cq) ∧ wx.cell? ⟨q, 0, none⟩ = some (ptrV pa) ∧ wx.cell? ⟨q, 1, none⟩ = some (ptrV pb) ∧ TrAt wx a lo m pa (some f) ∧ TrAt wx b m m2 pb (some (f + a.ifs))) := fun wx hx =>
    ⟨by rw [hx.cell (p := ⟨p, 7, none⟩) (by show p < eb; omega)]; exact BoxAt.cell hb (j := 7) rfl, by rw [hx.cell (p := ⟨q, 0, none⟩) (by show q < eb; omega)]; exact hr.cell (j := 0) rfl, by rw [hx.cell (p := ⟨q, 1, none⟩) (by show q < eb; omega)]; exact hr.cell (j := 1) rfl, hA.below hx (by omega) (by omega), hB.below hx (by omega) (by omega)⟩
  have d0 : w.cell? ⟨p, 0, none⟩ = some (.int .i64 n.kind) := BoxAt.cell hb (j := 0) rfl
  have HE : Hid (EmAt w eb v X c) := hE
  simp only [CT.size] at hl hc
  simp only [CT.ifs] at hf
  have hga := gen_len a s f
  have hca := cntL_gen a s f
  have hm1 : m ≤ eb := by omega
  have hm2 : m2 ≤ eb := by omega
  have z14 : (n.kind == 14) = true := by rw [beq_iff_eq]; exact h0
  have HA : Hid (Calls Try.prog 24 #[ptrV pa, ptrV eb, .bool s] w.drew (EmP w.drew eb c v X a s f)) := Ha w.drew lo m pa f eb c v X s (HCL.out _ ((Below.refl _ _).drew)).2.2.2.1 (hE.below ((Below.refl _ _).drew)) hm1 (by omega) (by omega) (by omega)
  have HB : Hid (∀ (wx : World) (v1 : Value), Below eb w wx → EmAt wx eb v1 (X ++ absG X.length c (a.gen s f)) (c + cntL (a.gen s f)) → Calls Try.prog 24 #[ptrV pb, ptrV eb, .bool (s || a.passes)] wx (EmP wx eb (c + cntL (a.gen s f)) v1 (X ++ absG X.length c (a.gen s f)) b (s || a.passes) (f + a.ifs))) := fun wx v1 hx hEx =>
    Hb wx m m2 pb (f + a.ifs) eb _ v1 _ (s || a.passes) (HCL.out wx hx).2.2.2.2 hEx hm2 (by rw [List.length_append, absG_length]; omega) (by omega) (by omega)
  obtain ⟨c0, c1, c2, _, _⟩ := HCL.out w (Below.refl _ _)
  clear hA hB hb hr Ha Hb hE h0 hga hca
  have hSd : (fun w' : World => w'.cell? ⟨p, 7, none⟩ = some (.slice (some ⟨q, 0, none⟩) 2 cq) ∧ w'.cell? ⟨q, 0, none⟩ = some (ptrV pa) ∧ w'.cell? ⟨q, 1, none⟩ = some (ptrV pb)) w.drew := ⟨c0, c1, c2⟩
  go_enter Try.func24, Try.ntmps24
  go_upto_region 3 with fail
  refine wp_region_T 99 (fun w' : World => w'.cell? ⟨p, 7, none⟩ = some (.slice (some ⟨q, 0, none⟩) 2 cq) ∧ w'.cell? ⟨q, 0, none⟩ = some (ptrV pa) ∧ w'.cell? ⟨q, 1, none⟩ = some (ptrV pb)) (by kernel_rfl) ?_
  refine anyT_takeN (i := 0) (v := ?vch0) rfl (by kernel_rfl) (by kernel_rfl) (by kernel_rfl) (by rfl) (fun _ _ _ h => h) (Or.inl ⟨by rfl, ?ych0⟩) hSd ?_
  case ych0 => (intro wz hSw; obtain ⟨hz0, hz1, hz2⟩ := hSw; go_simp; (try with_reducible rfl))
  try simp only [Act.put, List.getElem_toArray, List.getElem_cons_zero, List.getElem_cons_succ, List.setIfInBounds_toArray, List.set_cons_zero, List.set_cons_succ]
  refine anyT_takeN (i := 1) (v := ?vch1) rfl (by kernel_rfl) (by kernel_rfl) (by kernel_rfl) (by rfl) (fun _ _ _ h => h) (Or.inl ⟨by rfl, ?ych1⟩) hSd ?_
  case ych1 => (intro wz hSw; obtain ⟨hz0, hz1, hz2⟩ := hSw; go_simp; (try with_reducible rfl))
  try simp only [Act.put, List.getElem_toArray, List.getElem_cons_zero, List.getElem_cons_succ, List.setIfInBounds_toArray, List.set_cons_zero, List.set_cons_succ]
  refine anyT_takeN (i := 2) (v := ?vch2) rfl (by kernel_rfl) (by kernel_rfl) (by kernel_rfl) (by rfl) (fun _ _ _ h => h) (Or.inl ⟨by rfl, ?ych2⟩) hSd ?_
  case ych2 => (intro wz hSw; obtain ⟨hz0, hz1, hz2⟩ := hSw; go_simp; (try with_reducible rfl))
  try simp only [Act.put, List.getElem_toArray, List.getElem_cons_zero, List.getElem_cons_succ, List.setIfInBounds_toArray, List.set_cons_zero, List.set_cons_succ]
  refine anyT_takeN (i := 3) (v := ?vch3) rfl (by kernel_rfl) (by kernel_rfl) (by kernel_rfl) (by rfl) (fun _ _ _ h => h) (Or.inl ⟨by rfl, ?ych3⟩) hSd ?_
  case ych3 => (intro wz hSw; obtain ⟨hz0, hz1, hz2⟩ := hSw; go_simp; (try with_reducible rfl))
  try simp only [Act.put, List.getElem_toArray, List.getElem_cons_zero, List.getElem_cons_succ, List.setIfInBounds_toArray, List.set_cons_zero, List.set_cons_succ]
  refine anyT_takeN (i := 4) (v := ?vch4) rfl (by kernel_rfl) (by kernel_rfl) (by kernel_rfl) (by rfl) (fun _ _ _ h => h) (Or.inl ⟨by rfl, ?ych4⟩) hSd ?_
  case ych4 => (intro wz hSw; obtain ⟨hz0, hz1, hz2⟩ := hSw; go_simp; (try with_reducible rfl))
  try simp only [Act.put, List.getElem_toArray, List.getElem_cons_zero, List.getElem_cons_succ, List.setIfInBounds_toArray, List.set_cons_zero, List.set_cons_succ]
  refine anyT_takeN (i := 5) (v := ?vch5) rfl (by kernel_rfl) (by kernel_rfl) (by kernel_rfl) (by rfl) (fun _ _ _ h => h) (Or.inl ⟨by rfl, ?ych5⟩) hSd ?_
  case ych5 => (intro wz hSw; obtain ⟨hz0, hz1, hz2⟩ := hSw; go_simp; (try with_reducible rfl))
  try simp only [Act.put, List.getElem_toArray, List.getElem_cons_zero, List.getElem_cons_succ, List.setIfInBounds_toArray, List.set_cons_zero, List.set_cons_succ]
  refine anyT_takeN (i := 6) (v := ?vch6) rfl (by kernel_rfl) (by kernel_rfl) (by kernel_rfl) (by rfl) (fun _ _ _ h => h) (Or.inl ⟨by rfl, ?ych6⟩) hSd ?_
  case ych6 => (intro wz hSw; obtain ⟨hz0, hz1, hz2⟩ := hSw; go_simp; (try with_reducible rfl))
  try simp only [Act.put, List.getElem_toArray, List.getElem_cons_zero, List.getElem_cons_succ, List.setIfInBounds_toArray, List.set_cons_zero, List.set_cons_succ]
  refine anyT_takeN (i := 7) (v := ?vch7) rfl (by kernel_rfl) (by kernel_rfl) (by kernel_rfl) (by rfl) (fun _ _ _ h => h) (Or.inl ⟨by rfl, ?ych7⟩) hSd ?_
  case ych7 => (intro wz hSw; obtain ⟨hz0, hz1, hz2⟩ := hSw; go_simp; (try with_reducible rfl))
  try simp only [Act.put, List.getElem_toArray, List.getElem_cons_zero, List.getElem_cons_succ, List.setIfInBounds_toArray, List.set_cons_zero, List.set_cons_succ]
  refine anyT_takeN (i := 8) (v := ?vch8) rfl (by kernel_rfl) (by kernel_rfl) (by kernel_rfl) (by rfl) (fun _ _ _ h => h) (Or.inl ⟨by rfl, ?ych8⟩) hSd ?_
  case ych8 => (intro wz hSw; obtain ⟨hz0, hz1, hz2⟩ := hSw; go_simp; (try with_reducible rfl))
  try simp only [Act.put, List.getElem_toArray, List.getElem_cons_zero, List.getElem_cons_succ, List.setIfInBounds_toArray, List.set_cons_zero, List.set_cons_succ]
  refine anyT_takeN (i := 9) (v := ?vch9) rfl (by kernel_rfl) (by kernel_rfl) (by kernel_rfl) (by rfl) (fun _ _ _ h => h) (Or.inl ⟨by rfl, ?ych9⟩) hSd ?_
  case ych9 => (intro wz hSw; obtain ⟨hz0, hz1, hz2⟩ := hSw; go_simp; (try with_reducible rfl))
  try simp only [Act.put, List.getElem_toArray, List.getElem_cons_zero, List.getElem_cons_succ, List.setIfInBounds_toArray, List.set_cons_zero, List.set_cons_succ]
  refine anyT_takeN (i := 10) (v := ?vch10) rfl (by kernel_rfl) (by kernel_rfl) (by kernel_rfl) (by rfl) (fun _ _ _ h => h) (Or.inl ⟨by rfl, ?ych10⟩) hSd ?_
  case ych10 => (intro wz hSw; obtain ⟨hz0, hz1, hz2⟩ := hSw; go_simp; (try with_reducible rfl))
  try simp only [Act.put, List.getElem_toArray, List.getElem_cons_zero, List.getElem_cons_succ, List.setIfInBounds_toArray, List.set_cons_zero, List.set_cons_succ]
  refine anyT_takeN (i := 11) (v := ?vch11) rfl (by kernel_rfl) (by kernel_rfl) (by kernel_rfl) (by rfl) (fun _ _ _ h => h) (Or.inl ⟨by rfl, ?ych11⟩) hSd ?_
  case ych11 => (intro wz hSw; obtain ⟨hz0, hz1, hz2⟩ := hSw; go_simp; (try with_reducible rfl))
  try simp only [Act.put, List.getElem_toArray, List.getElem_cons_zero, List.getElem_cons_succ, List.setIfInBounds_toArray, List.set_cons_zero, List.set_cons_succ]
  refine anyT_takeN (i := 12) (v := ?vch12) rfl (by kernel_rfl) (by kernel_rfl) (by kernel_rfl) (by rfl) (fun _ _ _ h => h) (Or.inl ⟨by rfl, ?ych12⟩) hSd ?_
  case ych12 => (intro wz hSw; obtain ⟨hz0, hz1, hz2⟩ := hSw; go_simp; (try with_reducible rfl))
  try simp only [Act.put, List.getElem_toArray, List.getElem_cons_zero, List.getElem_cons_succ, List.setIfInBounds_toArray, List.set_cons_zero, List.set_cons_succ]
  refine anyT_takeN (i := 13) (v := ?vch13) rfl (by kernel_rfl) (by kernel_rfl) (by kernel_rfl) (by rfl) (fun _ _ _ h => h) (Or.inl ⟨by rfl, ?ych13⟩) hSd ?_
  case ych13 => (intro wz hSw; obtain ⟨hz0, hz1, hz2⟩ := hSw; go_simp; (try with_reducible rfl))
  try simp only [Act.put, List.getElem_toArray, List.getElem_cons_zero, List.getElem_cons_succ, List.setIfInBounds_toArray, List.set_cons_zero, List.set_cons_succ]
  refine anyT_takeN (i := 14) (v := ?vch14) rfl (by kernel_rfl) (by kernel_rfl) (by kernel_rfl) (by rfl) (fun _ _ _ h => h) (Or.inl ⟨by rfl, ?ych14⟩) hSd ?_
  case ych14 => (intro wz hSw; obtain ⟨hz0, hz1, hz2⟩ := hSw; go_simp; (try with_reducible rfl))
  try simp only [Act.put, List.getElem_toArray, List.getElem_cons_zero, List.getElem_cons_succ, List.setIfInBounds_toArray, List.set_cons_zero, List.set_cons_succ]
  refine anyT_one (i := 15) (by kernel_rfl) rfl (fun K hK => ?_)
  go_simp
  go_at_call 24
  refine HA.out.mono ?_
  rintro r w1 ⟨v1, rfl, hT1⟩
  have HT1 : Hid (EmTo w w1 eb v v1 (X ++ absG X.length c (a.gen s f)) (c + cntL (a.gen s f))) := (EmTo.of_below HE.out ((Below.refl _ _).drew)).trans hT1
  have hx1 : Below eb w w1 := HT1.out.below HE.out
  have hS1 : (fun w' : World => w'.cell? ⟨p, 7, none⟩ = some (.slice (some ⟨q, 0, none⟩) 2 cq) ∧ w'.cell? ⟨q, 0, none⟩ = some (ptrV pa) ∧ w'.cell? ⟨q, 1, none⟩ = some (ptrV pb)) w1 := ⟨(HCL.out w1 hx1).1, (HCL.out w1 hx1).2.1, (HCL.out w1 hx1).2.2.1⟩
  have HB1 : Hid (Calls Try.prog 24 #[ptrV pb, ptrV eb, .bool (s || a.passes)] w1 (EmP w1 eb (c + cntL (a.gen s f)) v1 (X ++ absG X.length c (a.gen s f)) b (s || a.passes) (f + a.ifs))) := HB.out w1 v1 hx1 HT1.out.at_
  obtain ⟨sa, hsa⟩ : ∃ sa, sa = (s || a.passes) := ⟨_, rfl⟩
  rw [← hsa] at HB1 ⊢
  have HSA : Hid (sa = (s || a.passes)) := hsa
  clear hT1 hsa HB HA
  refine hK.out _ _ (.inr hS1) ?_
  clear hK
  try simp only [Act.put, List.getElem_toArray, List.getElem_cons_zero, List.getElem_cons_succ, List.setIfInBounds_toArray, List.set_cons_zero, List.set_cons_succ]
  refine anyT_one (i := 16) (by kernel_rfl) rfl (fun K hK => ?_)
  go_simp
  go_at_call 24
  refine HB1.out.mono ?_
  rintro r w2 ⟨v2, rfl, hT2⟩
  have HR : Hid (EmP w eb c v X (.chain n a b) s f (.returned (.bool (sa || b.passes))) w2) := by
    refine ⟨v2, by rw [HSA.out]; simp only [CT.passes, Bool.or_assoc], ?_⟩
    have h9 := HT1.out.trans hT2
    simp only [CT.gen, absG_append, cntL_append]
    rw [List.length_append, absG_length, HSA.out] at h9
    rw [← List.append_assoc, ← Nat.add_assoc]
    exact h9
  have hx2 : Below eb w w2 := by obtain ⟨v3, _, h3⟩ := HR.out; exact h3.below HE.out
  have hS2 : (fun w' : World => w'.cell? ⟨p, 7, none⟩ = some (.slice (some ⟨q, 0, none⟩) 2 cq) ∧ w'.cell? ⟨q, 0, none⟩ = some (ptrV pa) ∧ w'.cell? ⟨q, 1, none⟩ = some (ptrV pb)) w2 := ⟨(HCL.out w2 hx2).1, (HCL.out w2 hx2).2.1, (HCL.out w2 hx2).2.2.1⟩
  obtain ⟨sb, hsb⟩ : ∃ sb, sb = (sa || b.passes) := ⟨_, rfl⟩
  rw [← hsb] at HR ⊢
  clear hT2 hsb HB1
  refine hK.out _ _ (.inr hS2) ?_
  clear hK
  try simp only [Act.put, List.getElem_toArray, List.getElem_cons_zero, List.getElem_cons_succ, List.setIfInBounds_toArray, List.set_cons_zero, List.set_cons_succ]
  refine anyT_one (i := 17) (by kernel_rfl) rfl (fun K hK => ?_)
  go_simp
  refine hK.out _ _ (.inr hS2) ?_
  clear hK
  try simp only [Act.put, List.getElem_toArray, List.getElem_cons_zero, List.getElem_cons_succ, List.setIfInBounds_toArray, List.set_cons_zero, List.set_cons_succ]
  refine anyT_done (by kernel_rfl) ?_
  go_wp2_with fail
  go_ret
  exact HR.out
end Go.Proofs.Ytkbmdkgfgfbilaa

/-
  (*impl.codeTree).emit: an interleave.
-/
namespace Go.Proofs.Ytkbmdkgfgfbilaa
open Go.ChangeShapes Go.WideShapes Go.ChangeAt Go.RowKit Go.Deep
set_option linter.unusedVariables false
set_option linter.unusedSimpArgs false
set_option maxRecDepth 100000

theorem inter_list (a b : CT) (n : Nd) (X : List Ix) (c : Nat) (s : Bool) (f : Nat) :
    X ++ absG X.length c ((CT.inter n a b).gen s f) = ((((X ++ [opI 2]) ++ absG (X ++ [opI 2]).length c (a.gen s f)) ++ [opI 3]) ++ absG (((X ++ [opI 2]) ++ absG (X ++ [opI 2]).length c (a.gen s f)) ++ [opI 3]).length (c + cntL (a.gen s f)) (b.gen s (f + a.ifs))) ++ [opI 4] ∧ cntL ((CT.inter n a b).gen s f) = cntL (a.gen s f) + cntL (b.gen s (f + a.ifs)) := by
  have e2 := fun k c => absG_op (o := 2) (by decide) (by decide) (by decide) k c
  have e3 := fun k c => absG_op (o := 3) (by decide) (by decide) (by decide) k c
  have e4 := fun k c => absG_op (o := 4) (by decide) (by decide) (by decide) k c
  have n2 := (e2 0 0).2
  have n3 := (e3 0 0).2
  have n4 := (e4 0 0).2
  refine ⟨?_, ?_⟩
  · simp only [CT.gen, absG_append, (e2 _ _).1, (e3 _ _).1, (e4 _ _).1, List.length_append, List.length_singleton, absG_length, cntL_append, n2, n3, Nat.zero_add, Nat.add_zero, List.append_assoc, Nat.add_assoc]
  · simp only [CT.gen, cntL_append, n2, n3, n4]; omega
set_option maxHeartbeats 8000000 in
theorem emit_inter (n : Nd) (a b : CT) (Ha : EmC a) (Hb : EmC b) : EmC (.inter n a b) := by
  intro w lo hi p f eb c v X s hT hE hh hl hc hf
  obtain ⟨h0, m, m2, pa, pb, q, cq, k, hA, hB, l1, l2, hb, hr, hp, hq⟩ := hT
  have hcq : 2 ≤ cq := hr.caps.1
  have hcm := hr.caps.2
  have hbl := BoxAt.lt hb
  have hrl := hr.lt
  have hebl := hE.lt
  have HCL : Hid (∀ wx, Below eb w wx → wx.cell? ⟨p, 7, none⟩ = some (.slice (some ⟨q, 0, none⟩) 2 cq) ∧ wx.cell? ⟨q, 0, none⟩ = some (ptrV pa) ∧ wx.cell? ⟨q, 1, none⟩ = some (ptrV pb) ∧ TrAt wx a lo m pa (some f) ∧ TrAt wx b m m2 pb (some (f + a.ifs))) := fun wx hx =>
    ⟨by rw [hx.cell (p := ⟨p, 7, none⟩) (by show p < eb; omega)]; exact BoxAt.cell hb (j := 7) rfl, by rw [hx.cell (p := ⟨q, 0, none⟩) (by show q < eb; omega)]; exact hr.cell (j := 0) rfl, by rw [hx.cell (p := ⟨q, 1, none⟩) (by show q < eb; omega)]; exact hr.cell (j := 1) rfl, hA.below hx (by omega) (by omega), hB.below hx (by omega) (by omega)⟩
  have d0 : w.cell? ⟨p, 0, none⟩ = some (.int .i64 n.kind) := BoxAt.cell hb (j := 0) rfl
  have HE : Hid (EmAt w eb v X c) := hE
  simp only [CT.size] at hl hc
  simp only [CT.ifs] at hf
  have hga := gen_len a s f
  have hca := cntL_gen a s f
  have hm1 : m ≤ eb := by omega
  have hm2 : m2 ≤ eb := by omega
  have z14 : (n.kind == 14) = false := by rw [beq_eq_false_iff_ne]; omega
  have z15 : (n.kind == 15) = true := by rw [beq_iff_eq]; exact h0
  have HL0 : Hid (X.length ≤ 100000) := by show _ ≤ _; omega
  have HA : Hid (∀ (wx : World) (v1 : Value), Below eb w wx → EmAt wx eb v1 (X ++ [opI 2]) c → Calls Try.prog 24 #[ptrV pa, ptrV eb, .bool s] wx (EmP wx eb c v1 (X ++ [opI 2]) a s f)) := fun wx v1 hx hEx => Ha wx lo m pa f eb c v1 _ s (HCL.out wx hx).2.2.2.1 hEx hm1 (by rw [List.length_append, List.length_singleton]; omega) (by omega) (by omega)
  obtain ⟨X2, hX2⟩ : ∃ X2, X2 = (X ++ [opI 2]) ++ absG (X ++ [opI 2]).length c (a.gen s f) := ⟨_, rfl⟩
  have hx2l : X2.length = X.length + 1 + (a.gen s f).length := by rw [hX2, List.length_append, List.length_append, List.length_singleton, absG_length]
  have HL2 : Hid (X2.length ≤ 100000) := by show _ ≤ _; omega
  obtain ⟨cA, hcA⟩ : ∃ cA, cA = c + cntL (a.gen s f) := ⟨_, rfl⟩
  have HB : Hid (∀ (wx : World) (v1 : Value), Below eb w wx → EmAt wx eb v1 (X2 ++ [opI 3]) cA → Calls Try.prog 24 #[ptrV pb, ptrV eb, .bool s] wx (EmP wx eb cA v1 (X2 ++ [opI 3]) b s (f + a.ifs))) := fun wx v1 hx hEx => Hb wx m m2 pb (f + a.ifs) eb cA v1 _ s (HCL.out wx hx).2.2.2.2 hEx hm2 (by rw [List.length_append, List.length_singleton]; omega) (by omega) (by omega)
  have hgb := gen_len b s (f + a.ifs)
  obtain ⟨X4, hX4⟩ : ∃ X4, X4 = (X2 ++ [opI 3]) ++ absG (X2 ++ [opI 3]).length cA (b.gen s (f + a.ifs)) := ⟨_, rfl⟩
  have HL4 : Hid (X4.length ≤ 100000) := by show _ ≤ _; rw [hX4, List.length_append, List.length_append, List.length_singleton, absG_length]; omega
  have HX : Hid (X2 = (X ++ [opI 2]) ++ absG (X ++ [opI 2]).length c (a.gen s f) ∧ cA = c + cntL (a.gen s f) ∧ X4 = (X2 ++ [opI 3]) ++ absG (X2 ++ [opI 3]).length cA (b.gen s (f + a.ifs))) := ⟨hX2, hcA, hX4⟩
  clear hA hB hb hr Ha Hb hE h0 hga hca hgb hX2 hcA hX4 hx2l
  have HQ : Hid (opI 2 = ⟨2, 0, 0, false, zeroN⟩) := rfl
  go_enter Try.func24, Try.ntmps24
  go_wp2_with fail
  refine (add_core HE.out (opI 2) HL0.out).mono ?_
  rintro r w1 ⟨rfl, v1, hT1⟩
  have HT1 : Hid (EmTo w w1 eb v v1 (X ++ [opI 2]) c) := hT1
  have hx1 : Below eb w w1 := hT1.below HE.out
  obtain ⟨c0, c1, c2, _, _⟩ := HCL.out w1 hx1
  clear hT1 d0
  go_wp2_with fail
  refine (HA.out w1 v1 hx1 HT1.out.at_).mono ?_
  rintro r w2 ⟨v2, rfl, hT2⟩
  rw [← HX.out.1, ← HX.out.2.1] at hT2
  have HT2 : Hid (EmTo w w2 eb v v2 X2 cA) := HT1.out.trans hT2
  have hx2 : Below eb w w2 := HT2.out.below HE.out
  obtain ⟨sa, hsa⟩ : ∃ sa, sa = (s || a.passes) := ⟨_, rfl⟩
  rw [← hsa]
  have HSA : Hid (sa = (s || a.passes)) := hsa
  clear hT2 hsa HT1 hx1 c0 c1 c2 HA
  go_wp2_with fail
  refine (add_core HT2.out.at_ (opI 3) HL2.out).mono ?_
  rintro r w3 ⟨rfl, v3, hT3⟩
  have HT3 : Hid (EmTo w w3 eb v v3 (X2 ++ [opI 3]) cA) := HT2.out.trans hT3
  have hx3 : Below eb w w3 := HT3.out.below HE.out
  obtain ⟨c0, c1, c2, _, _⟩ := HCL.out w3 hx3
  clear hT3 HT2 hx2
  go_wp2_with fail
  refine (HB.out w3 v3 hx3 HT3.out.at_).mono ?_
  rintro r w4 ⟨v4, rfl, hT4⟩
  rw [← HX.out.2.2] at hT4
  have HT4 : Hid (EmTo w w4 eb v v4 X4 (cA + cntL (b.gen s (f + a.ifs)))) := HT3.out.trans hT4
  obtain ⟨sb, hsb⟩ : ∃ sb, sb = (s || b.passes) := ⟨_, rfl⟩
  rw [← hsb]
  have HSB : Hid (sb = (s || b.passes)) := hsb
  clear hT4 hsb HT3 hx3 c0 c1 c2 HB
  go_wp2_with fail
  refine (add_core HT4.out.at_ (opI 4) HL4.out).mono ?_
  rintro r w5 ⟨rfl, v5, hT5⟩
  have HR : Hid (EmP w eb c v X (.inter n a b) s f (.returned (.bool (sa || sb))) w5) := by
    refine ⟨v5, ?_, ?_⟩
    · rw [HSA.out, HSB.out]; simp only [CT.passes]; cases s <;> simp
    · have h9 := HT4.out.trans hT5
      obtain ⟨e1, e2⟩ := inter_list a b n X c s f
      rw [e1, e2, ← HX.out.1, ← Nat.add_assoc, ← HX.out.2.1, ← HX.out.2.2]
      exact h9
  clear hT5 HT4
  cases sa
  case false =>
    have HR2 : Hid (EmP w eb c v X (.inter n a b) s f (.returned (.bool sb)) w5) := by have := HR.out; rwa [Bool.false_or] at this
    go_wp2_with fail
    go_ret
    exact HR2.out
  case true =>
    have HR2 : Hid (EmP w eb c v X (.inter n a b) s f (.returned (.bool true)) w5) := by have := HR.out; rwa [Bool.true_or] at this
    go_wp2_with fail
    go_ret
    exact HR2.out
end Go.Proofs.Ytkbmdkgfgfbilaa

