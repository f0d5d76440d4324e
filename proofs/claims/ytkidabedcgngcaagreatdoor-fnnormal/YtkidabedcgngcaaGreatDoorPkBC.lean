import Derived.Deep.DeepCutAuto
import Derived.Deep.RegionWith
import Derived.Lib.AppendZeros
import Derived.Test.YtkidabedcgngcaaGreatDoorPkBB
import Derived.Test.YtkidabedcgngcaaGreatDoorPkAW
import Derived.Test.YtkidabedcgngcaaGreatDoorPkAH
import Derived.Test.YtkidabedcgngcaaGreatDoorPkAF
/-
  impl.foldTree, walked.
-/
namespace Go.Proofs.YtkidabedcgngcaaGreatDoor
open Go.ChangeShapes Go.WideShapes Go.ChangeAt Go.RowKit Go.Deep
set_option linter.unusedVariables false
set_option linter.unusedSimpArgs false
set_option maxRecDepth 100000

/-- The state with the node and its shape laid. -/
structure FoK (w : World) (xs : List Nd) (j g cp : Nat) (ss : List Shape) (SB : Nat) (y : Shape) (wr : World) : Prop where
  fo : FoJ w xs j g cp ss wr
  box : BoxAt wr w.heap.size 96 3 SB y.three
  ne : ¬ SB = g
  ge : w.heap.size + 1 ≤ SB
theorem fo_after {w : World} {xs : List Nd} {j g cp : Nat} {ss : List Shape} {W1 w' : World} (y : Shape) (h : FoJ w xs j g cp ss W1) (hb : Below W1.drew.heap.size W1.drew w') : FoK w xs j g cp ss w'.heap.size y (w'.alloc (Obj.cells #[.bool y.valid, .int .i64 y.kind, .int .i64 (y.nest : Int)] 96)) := by
  have h1 : Below W1.heap.size W1 w' := ((Below.refl W1.heap.size W1).drew).trans hb
  have h2 := h1.size
  have h3 : Below W1.heap.size W1 (w'.alloc (Obj.cells #[.bool y.valid, .int .i64 y.kind, .int .i64 (y.nest : Int)] 96)) := h1.alloc h2 _
  have h4 := h.own.lt
  have h5 := h.below.size
  have h6 := h.res.lt
  exact ⟨h.move h3, boxAt_new w' _ (by omega) rfl, by omega, by omega⟩
theorem fo_before {w : World} {xs : List Nd} {j g cp : Nat} {ss : List Shape} {W1 w' : World} (y : Shape) (h : FoJ w xs j g cp ss W1) (hb : Below (W1.drew.alloc (Obj.cells #[.bool false, .int .i64 0, .int .i64 0] 96)).heap.size (W1.drew.alloc (Obj.cells #[.bool false, .int .i64 0, .int .i64 0] 96)) w') :
    FoK w xs j g cp ss W1.heap.size y (((w'.setCell ⟨W1.heap.size, 0, none⟩ (.bool y.valid)).setCell ⟨W1.heap.size, 1, none⟩ (.int .i64 y.kind)).setCell ⟨W1.heap.size, 2, none⟩ (.int .i64 (y.nest : Int))) := by
  have hd : W1.drew.heap.size = W1.heap.size := by simp
  have h0 : Below W1.heap.size W1 (W1.drew.alloc (Obj.cells #[.bool false, .int .i64 0, .int .i64 0] 96)) := ((Below.refl W1.heap.size W1).drew).alloc (by simp) _
  have h1 : Below W1.heap.size W1 w' := h0.trans (hb.mono (by simp))
  have h4 := h.own.lt
  have h5 := h.below.size
  have h6 := h.res.lt
  have hB : BoxAt w' w.heap.size 96 3 W1.heap.size [.bool false, .int .i64 0, .int .i64 0] := by
    have := boxAt_new W1.drew (base := w.heap.size) (t := 96) (sz := 3) #[.bool false, .int .i64 0, .int .i64 0] (by simp; omega) rfl
    rw [hd] at this
    exact this.below hb
  have hJ := h.move h1
  have hC : Chg (fun k => k = W1.heap.size) w' (((w'.setCell ⟨W1.heap.size, 0, none⟩ (.bool y.valid)).setCell ⟨W1.heap.size, 1, none⟩ (.int .i64 y.kind)).setCell ⟨W1.heap.size, 2, none⟩ (.int .i64 (y.nest : Int))) :=
    ((Chg.of_set w' W1.heap.size 0 _ (S := fun k => k = W1.heap.size) rfl).trans (Chg.of_set _ W1.heap.size 1 _ (S := fun k => k = W1.heap.size) rfl)).trans (Chg.of_set _ W1.heap.size 2 _ (S := fun k => k = W1.heap.size) rfl)
  refine ⟨⟨hJ.fold, own_chg hJ.own hC (fun k q => by simp [Value.ownBlock] at q; omega), hJ.res.chg hC (by omega), ?_⟩, ((hB.set 0 _).set 1 _).set 2 _, by omega, by omega⟩
  exact below_set (below_set (below_set hJ.below (by omega) 0 _) (by omega) 1 _) (by omega) 2 _
theorem sh_new (X : World) (y : Shape) (B : Nat) (hB : X.heap.size = B) : ShsAt (X.alloc (Obj.cells #[.bool y.valid, .int .i64 y.kind, .int .i64 (y.nest : Int)] 96)) B 0 [y] := by
  subst hB
  intro i s hs
  have hi : i = 0 := by have := (List.getElem?_eq_some_iff.1 hs).1; simpa using this
  subst hi
  simp at hs
  subst hs
  exact ⟨by simp, by simp, by simp⟩
theorem fo_push {w wc X w' : World} {xs : List Nd} {j g cp g' cp' fr : Nat} {ss : List Shape} {y : Shape} (h : FoJ w xs j g cp ss wc) (hX : Below wc.heap.size wc X) (hY : foldM goodB [] (xs.take (j + 1)) = some (ss.take fr ++ [y])) (hO : OwnSh w' (w.heap.size + 1) g' cp' (ss.take fr ++ [y])) (hgr : X.grownBy w' (some g)) (hm : fr = (ss.take fr).length) : FoJ w xs (j + 1) g' cp' (ss.take fr ++ [y]) w' ∧ fr + 1 ≤ cp' := by
  have hJ := h.move hX
  have h1 := hJ.own.lt
  have hC : Chg (fun k => k = g) X w' := Chg.of_grown hgr (fun k hk => by cases hk; rfl)
  refine ⟨⟨hY, hO, hJ.res.chg hC (by omega), Chg.below hJ.below hC hJ.below.size (fun k q => by omega)⟩, ?_⟩
  have := hO.caps.1
  rw [List.length_append, List.length_singleton, ← hm] at this
  exact this
set_option maxHeartbeats 16000000 in
theorem foldTree_win {w : World} {gN oN cpN : Nat} {xs : List Nd} (h : NdsAt w gN oN xs) (hg : gN < w.heap.size) (hok : ∀ e ∈ xs, e.ok) (hl : xs.length ≤ 200) :
    Calls Tryz.prog 56 #[.slice (some ⟨gN, oN, none⟩) xs.length cpN, .func (Fn.func 57) #[] #[]] w (FoldPost xs w) := by
  have HF : Hid (NdsAt w gN oN xs ∧ ∀ e ∈ xs, e.ok) := ⟨h, hok⟩
  obtain ⟨n, hn⟩ : ∃ n, n = xs.length := ⟨_, rfl⟩
  have HL : Hid (n = xs.length) := hn
  rw [← hn] at hl ⊢
  clear h hok hn
  obtain ⟨W0, hW0⟩ : ∃ W0 : World, W0 = (w.alloc (Obj.cells #[.bool false, .int .i64 0, .int .i64 0] 96)).alloc (Obj.cells #[] 96) := ⟨_, rfl⟩
  have HW0 : Hid (FoJ w xs 0 (w.heap.size + 1) 0 [] W0) := by
    obtain ⟨V, hV⟩ : ∃ V : World, V = w.alloc (Obj.cells #[.bool false, .int .i64 0, .int .i64 0] 96) := ⟨_, rfl⟩
    have hz : V.heap.size = w.heap.size + 1 := by rw [hV]; simp
    have hb : Below V.heap.size V W0 := by rw [hW0, ← hV]; exact (Below.refl _ _).alloc (Nat.le_refl _) _
    have hbV : Below w.heap.size w V := by rw [hV]; exact (Below.refl _ _).alloc (Nat.le_refl _) _
    have hB : BoxAt V w.heap.size 96 3 w.heap.size [.bool false, .int .i64 0, .int .i64 0] := by rw [hV]; exact boxAt_new w _ (Nat.le_refl _) rfl
    refine ⟨rfl, ?_, hB.below hb, hbV.trans (hb.mono (by omega))⟩
    rw [hW0, ← hV, ← hz]
    exact ownSh_new V (Nat.le_refl _)
  go_enter Tryz.func56, Tryz.ntmps56
  go_upto_region 2 with fail
  rw [← hW0]
  clear hW0
  go_wp2_with fail
  go_loopw [6, 14] (fun sv iv wr => ∃ (j m g cp : Nat) (ss : List Shape), iv = .int .i64 (j : Int) ∧ j ≤ n ∧ m = ss.length ∧ m ≤ j ∧ m ≤ cp ∧ sv = .slice (some ⟨g, 0, none⟩) m cp ∧ FoJ w xs j g cp ss wr) (fun _ iv _ => n - (intOf iv).toNat)
  case atStart => exact ⟨0, 0, _, 0, [], rfl, Nat.zero_le _, rfl, Nat.le_refl _, Nat.zero_le _, rfl, HW0.out⟩
  case round =>
    obtain ⟨j, m, g, cp, ss, rfl, hj, hm, hmj, hmc, rfl, hJ⟩ := hrel
    have HJ : Hid (m = ss.length ∧ FoJ w xs j g cp ss wr) := ⟨hm, hJ⟩
    have hgl := hJ.own.lt
    have hcp : cp ≤ 9223372036854775807 := by have := hJ.own.caps.2; unfold maxLen at this; omega
    have hsz := hJ.below.size
    have hrl := hJ.res.lt.2
    have r0 := hJ.res.cell (j := 0) rfl
    have r1 := hJ.res.cell (j := 1) rfl
    have r2 := hJ.res.cell (j := 2) rfl
    have f0 := hJ.res.frozen 0
    have f1 := hJ.res.frozen 1
    have f2 := hJ.res.frozen 2
    clear hm hJ HW0
    by_cases hlt : j < n
    · have zj : (j : Int) < (n : Int) := by omega
      obtain ⟨e, he⟩ : ∃ e, xs[j]? = some e := ⟨_, List.getElem?_eq_getElem (by have := HL.out; omega)⟩
      obtain ⟨d0, d1, d2, d3, d4, d5, d6⟩ := (HF.out.1.below HJ.out.2.below hg) j e he
      have ok := HF.out.2 e (List.mem_of_getElem? he)
      have HE : Hid (xs[j]? = some e ∧ e.s.size ≤ maxLen ∧ e.t.size ≤ maxLen) := ⟨he, ok.s, ok.t⟩
      clear ok he
      obtain ⟨W1, hW1⟩ : ∃ W1 : World, W1 = wr.alloc (Obj.cells #[.int .i64 e.kind, .string e.s, .bool e.hi, .string e.t, .int .u64 e.lo, .int .u64 e.up, .int .i64 e.n] 75) := ⟨_, rfl⟩
      have hb1 : Below wr.heap.size wr W1 := by rw [hW1]; exact (Below.refl _ _).alloc (Nat.le_refl _) _
      have hz1 : W1.heap.size = wr.heap.size + 1 := by rw [hW1]; simp
      have HJ1 : Hid (m = ss.length ∧ FoJ w xs j g cp ss W1 ∧ BoxAt W1 w.heap.size 75 7 wr.heap.size e.seven) := by
        refine ⟨HJ.out.1, HJ.out.2.move hb1, ?_⟩
        rw [hW1]; exact boxAt_new wr _ hsz rfl
      go_upto_region 5 with fail
      rw [← hW1]
      clear hW1 d0 d1 d2 d3 d4 d5 d6 r0 r1 r2 f0 f1 f2 HJ hb1
      have c0 := HJ1.out.2.2.cell (j := 0) rfl
      have c1 := HJ1.out.2.2.cell (j := 1) rfl
      have c2 := HJ1.out.2.2.cell (j := 2) rfl
      have c3 := HJ1.out.2.2.cell (j := 3) rfl
      have c4 := HJ1.out.2.2.cell (j := 4) rfl
      have c5 := HJ1.out.2.2.cell (j := 5) rfl
      have c6 := HJ1.out.2.2.cell (j := 6) rfl
      obtain ⟨a, ha⟩ : ∃ a, a = arity e.kind := ⟨_, rfl⟩
      have ha3 : a ≤ 3 := by rw [ha]; exact arity_le _
      have HAr : Hid (Calls Tryz.prog 61 #[.int .i64 e.kind] W1 fun r w' => r = .returned (.int .i64 (a : Int)) ∧ w' = W1) := by rw [ha]; exact operandCount_core e.kind W1
      have HAk : Hid (a = arity e.kind) := ha
      clear ha
      go_wp2_with fail
      refine HAr.out.mono ?_
      rintro r w9 ⟨rfl, hw9⟩
      rw [hw9]
      clear hw9 HAr
      by_cases hfr : m < a
      · have zf : (m : Int) - (a : Int) < 0 := by omega
        have r0 := HJ1.out.2.1.res.cell (j := 0) rfl
        have r1 := HJ1.out.2.1.res.cell (j := 1) rfl
        have r2 := HJ1.out.2.1.res.cell (j := 2) rfl
        have f0 := HJ1.out.2.1.res.frozen 0
        have f1 := HJ1.out.2.1.res.frozen 1
        have f2 := HJ1.out.2.1.res.frozen 2
        have HS : Hid (foldM goodB [] xs = none) := fold_stop HJ1.out.2.1.fold HE.out.1 (by rw [← HJ1.out.1, ← HAk.out]; exact hfr)
        obtain ⟨W9, hW9⟩ : ∃ W9 : World, W9 = set3 W1 w.heap.size (.bool false) (.int .i64 0) (.int .i64 0) := ⟨_, rfl⟩
        have HW9 : Hid (BoxAt W9 w.heap.size 96 3 w.heap.size [.bool false, .int .i64 0, .int .i64 0] ∧ Below w.heap.size w W9) := by
          rw [hW9]; exact ⟨HJ1.out.2.1.res.set3 _ _ _, below_set3 HJ1.out.2.1.below (Nat.le_refl _) _ _ _⟩
        have p0 := HW9.out.1.cell (j := 0) rfl
        have p1 := HW9.out.1.cell (j := 1) rfl
        have p2 := HW9.out.1.cell (j := 2) rfl
        unfold set3 at hW9
        go_wp2_with fail
        rw [← hW9]
        refine bodyPost_ret (v := .tuple #[.agg #[.bool false, .int .i64 0, .int .i64 0], .bool false]) (by simp [results, Tryz.results56, go_sem, p0, p1, p2]) rfl ⟨HW9.out.2, .inr ⟨fun s q => (by rw [HS.out] at q; cases q), rfl⟩⟩
      · obtain ⟨fr, hfrm⟩ : ∃ fr : Nat, (m : Int) - (a : Int) = (fr : Int) := ⟨m - a, by omega⟩
        have hfrle : fr ≤ m := by omega
        have HFr : Hid (fr = ss.length - arity e.kind ∧ arity e.kind ≤ ss.length) := by
          have h1 := HJ1.out.1
          have h2 := HAk.out
          exact ⟨by omega, by omega⟩
        have zf : ¬ (fr : Int) < 0 := by omega
        have z2 : (fr : Int) ≤ (m : Int) := by omega
        have z3 : (m : Int) ≤ (cp : Int) := by omega
        obtain ⟨y, hy⟩ : ∃ y, y = shapeM goodB e (ss.drop fr) := ⟨_, rfl⟩
        have HY : Hid (foldM goodB [] (xs.take (j + 1)) = some (ss.take fr ++ [y])) := by
          show _ = _
          rw [hy, HFr.out.1]
          exact fold_next HJ1.out.2.1.fold HE.out.1 HFr.out.2
        obtain ⟨ad, had⟩ : ∃ ad : Option Addr, (if cp = fr then some (⟨g, 0, none⟩ : Addr) else some ⟨g, fr * 3, none⟩) = ad := ⟨_, rfl⟩
        have HSh : Hid (∀ X, Below W1.heap.size W1 X → Calls Tryz.prog 57 #[.agg #[.int .i64 e.kind, .string e.s, .bool e.hi, .string e.t, .int .u64 e.lo, .int .u64 e.up, .int .i64 e.n], .slice ad (m - fr) (cp - fr)] X fun r w' => r = .returned (.agg #[.bool y.valid, .int .i64 y.kind, .int .i64 (y.nest : Int)]) ∧ Below X.heap.size X w') := fun X hX => by
          have hs1 := HJ1.out.2.1.own.at.below hX HJ1.out.2.1.own.lt.2
          have hs2 := hs1.drop fr
          rw [Nat.zero_add] at hs2
          have hlen : (ss.drop fr).length = m - fr := by rw [List.length_drop, ← HJ1.out.1]
          have hX2 := hX.size
          have hg2 := HJ1.out.2.1.own.lt.2
          have hnest : ∀ x ∈ ss.drop fr, x.nest ≤ 1000 := fun x hx => by
            have h1 := fold_nest HJ1.out.2.1.fold x (List.mem_of_mem_drop hx)
            rw [List.length_take] at h1
            omega
          have hos : (ss.drop fr).length ≤ 3 := by rw [hlen]; have := HFr.out.1; have := HAk.out; have := HJ1.out.1; omega
          rw [hy, ← had]
          by_cases hcf : cp = fr
          · rw [if_pos hcf]
            have hnil : ss.drop fr = [] := List.length_eq_zero_iff.1 (by rw [hlen]; omega)
            have h9 := shapeOf_core (w := X) (b := g) (o := 0) (cap := cp - fr) (os := ss.drop fr) e (by rw [hnil]; intro i s hs; simp at hs) (by omega) (by rw [hlen]; omega) hos (by omega) hnest HE.out.2.1 HE.out.2.2
            rw [hlen] at h9
            exact h9
          · rw [if_neg hcf]
            have h9 := shapeOf_core (w := X) (b := g) (o := fr * 3) (cap := cp - fr) (os := ss.drop fr) e hs2 (by omega) (by rw [hlen]; omega) hos (by omega) hnest HE.out.2.1 HE.out.2.2
            rw [hlen] at h9
            exact h9
        clear hy hfr
        go_upto_region 8 with fail
        go_cut [10] (fun sv wx => ∃ SB, sv = .pointer (some ⟨SB, 0, none⟩) ∧ FoK w xs j g cp ss SB y wx)
        case first =>
          go_region_law ((go_simp; go_at_call 57; refine (HSh.out _ ?hX).mono ?_; (case hX => (repeat (first | exact Below.refl _ _ | refine Below.drew ?_ | refine Below.alloc ?_ (by simp) _))); rintro r w' ⟨rfl, hbb⟩; obtain ⟨hcc, hff⟩ := bcell hbb; have hsz' := hbb.size))
          all_goals go_wp2_with fail
          all_goals go_meet
          all_goals first
            | exact ⟨_, rfl, fo_after y HJ1.out.2.1 hbb⟩
            | exact ⟨_, rfl, by have h9 := fo_before y HJ1.out.2.1 hbb; rw [hz1] at h9; exact h9⟩
        case rest =>
        obtain ⟨SB, rfl, hK⟩ := hcut
        have HK : Hid (FoK w xs j g cp ss SB y wc) := hK
        have b0 := hK.box.cell (j := 0) rfl
        have b1 := hK.box.cell (j := 1) rfl
        have b2 := hK.box.cell (j := 2) rfl
        have hgl2 := hK.fo.own.lt
        have hsb := hK.box.lt.2
        have hnsb := hK.ne
        have hsz2 := hK.fo.below.size
        have HM : Hid (fr = (ss.take fr).length) := by
          show fr = _
          rw [List.length_take, ← HJ1.out.1]
          omega
        clear hK c0 c1 c2 c3 c4 c5 c6 HSh
        go_upto_region 9 with fail
        have hfl : fr ≤ ss.length := by rw [← HJ1.out.1]; exact hfrle
        have z4 : (fr : Int) ≤ (cp : Int) := by omega
        have z5 : fr ≤ cp := by omega
        go_region_law ((refine step_append_shape _ (by rfl) _ _ (by rfl) (w.heap.size + 1) fr g cp wc.heap.size (ss.take fr) y HM.out (by rfl) (by rfl) ?hO ?hc ?hl ?hb ?_
                        case hO => (refine OwnSh.below (HK.out.fo.own.take hfl) ?_; repeat (first | exact Below.refl _ _ | refine Below.drew ?_ | refine Below.alloc ?_ (by simp) _))
                        case hc => exact sh_new _ y _ (by simp)
                        case hl => rw [← HM.out]; omega
                        case hb => simp; omega
                        intro g' cp' w' hO' hgr' hat'
                        have fin : Hid (FoJ w xs (j + 1) g' cp' (ss.take fr ++ [y]) w' ∧ fr + 1 ≤ cp') := fo_push HK.out.fo (by repeat (first | exact Below.refl _ _ | refine Below.drew ?_ | refine Below.alloc ?_ (by simp) _)) HY.out hO' hgr' HM.out
                        clear hO' hgr' hat'))
        all_goals go_wp2_with fail
        all_goals go_roundw
        all_goals first
          | exact ⟨j + 1, fr + 1, g', cp', ss.take fr ++ [y], by go_num, by omega, by rw [List.length_append, List.length_singleton, ← HM.out], by omega, fin.out.2, rfl, fin.out.1⟩
          | (simp [intOf]; omega)
    · have zj : ¬ (j : Int) < (n : Int) := by omega
      have HFo : Hid (foldM goodB [] xs = some ss) := by
        have h1 := HJ.out.2.fold
        rw [List.take_of_length_le (by have := HL.out; omega)] at h1
        exact h1
      by_cases hm1 : m = 1
      · subst hm1
        obtain ⟨s, rfl⟩ : ∃ s, ss = [s] := by
          have h1 := HJ.out.1
          match ss, h1 with
          | [s], _ => exact ⟨s, rfl⟩
        obtain ⟨e0, e1, e2⟩ := HJ.out.2.own.at 0 s rfl
        simp only [Nat.zero_add, Nat.zero_mul] at e0 e1 e2
        obtain ⟨W9, hW9⟩ : ∃ W9 : World, W9 = set3 wr w.heap.size (.bool s.valid) (.int .i64 s.kind) (.int .i64 (s.nest : Int)) := ⟨_, rfl⟩
        have HW9 : Hid (BoxAt W9 w.heap.size 96 3 w.heap.size [.bool s.valid, .int .i64 s.kind, .int .i64 (s.nest : Int)] ∧ Below w.heap.size w W9) := by
          rw [hW9]; exact ⟨HJ.out.2.res.set3 _ _ _, below_set3 HJ.out.2.below (Nat.le_refl _) _ _ _⟩
        have p0 := HW9.out.1.cell (j := 0) rfl
        have p1 := HW9.out.1.cell (j := 1) rfl
        have p2 := HW9.out.1.cell (j := 2) rfl
        unfold set3 at hW9
        go_wp2_with fail
        rw [← hW9]
        refine bodyPost_ret (v := .tuple #[.agg #[.bool s.valid, .int .i64 s.kind, .int .i64 (s.nest : Int)], .bool true]) (by simp [results, Tryz.results56, go_sem, p0, p1, p2]) rfl ⟨HW9.out.2, .inl ⟨s, HFo.out, rfl⟩⟩
      · have zm : ((m : Int) != 1) = true := by have : ¬ (m : Int) = 1 := (by omega); simpa using this
        obtain ⟨W9, hW9⟩ : ∃ W9 : World, W9 = set3 wr w.heap.size (.bool false) (.int .i64 0) (.int .i64 0) := ⟨_, rfl⟩
        have HW9 : Hid (BoxAt W9 w.heap.size 96 3 w.heap.size [.bool false, .int .i64 0, .int .i64 0] ∧ Below w.heap.size w W9) := by
          rw [hW9]; exact ⟨HJ.out.2.res.set3 _ _ _, below_set3 HJ.out.2.below (Nat.le_refl _) _ _ _⟩
        have p0 := HW9.out.1.cell (j := 0) rfl
        have p1 := HW9.out.1.cell (j := 1) rfl
        have p2 := HW9.out.1.cell (j := 2) rfl
        unfold set3 at hW9
        go_wp2_with fail
        rw [← hW9]
        refine bodyPost_ret (v := .tuple #[.agg #[.bool false, .int .i64 0, .int .i64 0], .bool false]) (by simp [results, Tryz.results56, go_sem, p0, p1, p2]) rfl ⟨HW9.out.2, .inr ⟨fun s q => ?_, rfl⟩⟩
        rw [HFo.out] at q
        have h1 := HJ.out.1
        rw [Option.some.inj q] at h1
        exact hm1 h1
theorem foldTree_core {w : World} {gN cpN : Nat} {xs : List Nd} (h : NdsAt w gN 0 xs) (hg : gN < w.heap.size) (hok : ∀ e ∈ xs, e.ok) (hl : xs.length ≤ 200) :
    Calls Tryz.prog 56 #[.slice (some ⟨gN, 0, none⟩) xs.length cpN, .func (Fn.func 57) #[] #[]] w (FoldPost xs w) := foldTree_win h hg hok hl
end Go.Proofs.YtkidabedcgngcaaGreatDoor

/-
  impl.ValidFilter.
-/
namespace Go.Proofs.YtkidabedcgngcaaGreatDoor
open Go.ChangeShapes Go.WideShapes Go.ChangeAt Go.RowKit Go.Deep
set_option linter.unusedVariables false
set_option linter.unusedSimpArgs false
set_option maxRecDepth 100000

set_option maxHeartbeats 4000000 in
theorem implFilter_win {w : World} {g o cp : Nat} {xs : List Nd} (h : WdN w g o cp xs) (hok : ∀ e ∈ xs, e.ok) : Calls Tryz.prog 28 #[.agg #[.slice (some ⟨g, o, none⟩) xs.length cp]] w (FltPost xs w) := by
  have HO : Hid (WdN w g o cp xs ∧ ∀ e ∈ xs, e.ok) := ⟨h, hok⟩
  have hg := h.lt
  obtain ⟨n, hn⟩ : ∃ n, n = xs.length := ⟨_, rfl⟩
  have HN : Hid (n = xs.length) := hn
  have hcp := h.caps
  rw [← hn] at hcp ⊢
  unfold maxLen at hcp
  clear h hok hn
  obtain ⟨W0, hW0⟩ : ∃ W0 : World, W0 = w.alloc (Obj.cells #[.slice (some ⟨g, o, none⟩) n cp] 32) := ⟨_, rfl⟩
  have HW0 : Hid (BoxAt W0 w.heap.size 32 1 w.heap.size [.slice (some ⟨g, o, none⟩) n cp] ∧ Below w.heap.size w W0) := by
    rw [hW0]; exact ⟨boxAt_new w _ (Nat.le_refl _) rfl, (Below.refl _ _).alloc (Nat.le_refl _) _⟩
  have c0 := HW0.out.1.cell (j := 0) rfl
  have s0 := HW0.out.2.size
  go_enter Tryz.func28, Tryz.ntmps28
  go_upto_region 1 with fail
  rw [← hW0]
  clear hW0
  by_cases hbig : 200 < n
  · have zb : (200 : Int) < (n : Int) := by omega
    have HF : Hid (¬ GoodF xs) := fun q => by have := q.1; have := HN.out; omega
    go_wp2_with fail
    go_ret
    exact ⟨_, rfl, by simp [HF.out], HW0.out.2⟩
  have zb : ¬ (200 : Int) < (n : Int) := by omega
  have HC : Hid (Calls Tryz.prog 56 #[.slice (some ⟨g, o, none⟩) n cp, .func (Fn.func 57) #[] #[]] W0 (FoldPost xs W0)) := by
    have hl : xs.length ≤ 200 := by rw [← HN.out]; omega
    have := foldTree_win (w := W0) (gN := g) (oN := o) (cpN := cp) (HO.out.1.at.below HW0.out.2 hg) (by omega) HO.out.2 hl
    rw [← HN.out] at this
    exact this
  go_wp2_with fail
  refine HC.out.mono ?_
  rintro r w2 ⟨hb2, (⟨s, hs, rfl⟩ | ⟨hs, rfl⟩)⟩
  · have HF : Hid (GoodF xs ↔ (s.valid = true ∧ s.nest ≤ 20)) := by
      show GoodF xs ↔ _
      have hsh := fold_tree goodB hs
      constructor
      · rintro ⟨_, t, ht, hv, hn⟩
        rw [sh_one hsh ht]; exact ⟨hv, hn⟩
      · rintro ⟨hv, hn⟩
        exact ⟨by have := HN.out; omega, s, hsh, hv, hn⟩
    have HB : Hid (Below w.heap.size w w2) := HW0.out.2.trans (hb2.mono s0)
    obtain ⟨v, hv⟩ : ∃ v, v = s.valid := ⟨_, rfl⟩
    obtain ⟨k, hk⟩ : ∃ k, k = s.nest := ⟨_, rfl⟩
    obtain ⟨kd, hkd⟩ : ∃ kd, kd = s.kind := ⟨_, rfl⟩
    rw [← hv, ← hk] at HF
    rw [← hv, ← hk, ← hkd]
    clear hs hb2 c0 HC hv hk hkd
    cases v
    · go_wp2_with fail
      go_ret
      exact ⟨_, rfl, by rw [HF.out]; simp, HB.out.trans ((Below.refl _ _).alloc HB.out.size _)⟩
    · go_wp2_with fail
      go_ret
      exact ⟨_, rfl, by rw [HF.out]; simp <;> omega, HB.out.trans ((Below.refl _ _).alloc HB.out.size _)⟩
  · have HF : Hid (¬ GoodF xs) := fun q => by
      obtain ⟨_, s, hsh, _⟩ := q
      have := ShT.fold goodB hsh []
      exact hs s (by simpa using this)
    have HB : Hid (Below w.heap.size w w2) := HW0.out.2.trans (hb2.mono s0)
    clear hs hb2 c0 HC
    go_wp2_with fail
    go_ret
    exact ⟨_, rfl, by simp [HF.out], HB.out.trans ((Below.refl _ _).alloc HB.out.size _)⟩
theorem implFilter_core {w : World} {base g cp : Nat} {xs : List Nd} (h : OwnNd w base g cp xs) (hok : ∀ e ∈ xs, e.ok) : Calls Tryz.prog 28 #[.agg #[.slice (some ⟨g, 0, none⟩) xs.length cp]] w (FltPost xs w) := implFilter_win h.wd hok
end Go.Proofs.YtkidabedcgngcaaGreatDoor

/-
  impl.Meaning.
-/
namespace Go.Proofs.YtkidabedcgngcaaGreatDoor
open Go.ChangeShapes Go.WideShapes Go.ChangeAt Go.RowKit Go.Deep Go.Shelf
set_option linter.unusedVariables false
set_option linter.unusedSimpArgs false
set_option maxRecDepth 100000
attribute [local go_sem] Oper.semAt_some run_store_fn

theorem step_append_cels {ops : Array Oper} {oo : Oper} {a : Act} {K : Act → World → Prop} {Q : Exit → Act → World → Prop} {E : Prop} (w : World) (hgd : oo.guard = none) (s x : Operand)
    (ho : oo.op = .call { callee := .builtin .append, args := #[s, x], argTypes := #[28, 28] })
    (base g cp n b off m cx : Nat) (fs es : List Ent) (hs : a.eval s = .slice (some ⟨g, 0, none⟩) n cp) (hx : a.eval x = .slice (some ⟨b, off, none⟩) m cx) (hn : n = fs.length) (hm : m = es.length) (hO : OwnC w base g cp fs)
    (hc : CelsAt w b off es) (hlen : fs.length + es.length ≤ 2 ^ 30) (hbase : base ≤ w.heap.size)
    (h : ∀ g' cp' w', OwnC w' base g' cp' (fs ++ es) → w.grownBy w' (some g) → (g' = g ∨ g' = w.heap.size) → K (a.put oo.dst (.slice (some ⟨g', 0, none⟩) (n + m) cp')) w') : if Region.wanted oo (yielded ops a.tmps) = true then Oper.wp Tryz.prog oo a w K Q else E := by
  have hw : Region.wanted oo (yielded ops a.tmps) = true := by simp [Region.wanted, hgd]
  rw [if_pos hw]
  subst hn
  subst hm
  obtain ⟨i, hi, hz0, hz1, hz2⟩ := info_parts Tryz.infoCel
  obtain ⟨v', w', hr, hO', hgr, hnil, hat⟩ := run_append_own_at (P := Tryz.prog) w base 28 oo.type 55 i _ 5 72 Tryz.underlying28 hi hz0 hz1 hz2 rfl (by decide) (.slice (some ⟨g, 0, none⟩) fs.length cp) fs.length (cellsC fs) hO ⟨b, off, none⟩ es.length cx (cellsC es) (length_cellsC es) (fun j u hu => by rw [Addr.add_mid]; exact hc.flat j u hu) (five_one es) (by unfold maxLen; omega) (by omega) hbase
  rw [← cellsC_append] at hO'
  have hlen' : (fs ++ es).length = fs.length + es.length := by simp
  rcases hO'.2 with ⟨hv, _⟩ | ⟨g', cap', cur, hv, h1, h2, h3⟩
  · have := (hnil.1 hv).1
    simp at this
  · subst hv
    have hfin := h g' cap' w' (by unfold OwnC; rw [hlen']; exact hO') hgr (by simp [Value.ownBlock] at hat; exact hat)
    unfold Oper.wp
    simp [execOp, ho, resolve, invoke, builtin, hs, hx, hr, Result.andThen]
    exact hfin
/-- Meaning under way: the rows from index i on are still to come. -/
structure MiI (w : World) (es : List Ent) (t : CT) (gc cc sb fk : Nat) (fc : Array Value) (R : Nat → Prop) (i : Nat) (W : World) : Prop where
  told : ∃ (P : List (Nat × Nat)) (g cp : Nat), allC es 0 = P ++ allC es i ∧ BoxAt W w.heap.size 28 1 (w.heap.size + 1 + 1) [.slice (some ⟨g, 0, none⟩) (P.flatMap fun q => mean t (segE es q)).length cp] ∧ OwnC W w.heap.size g cp (P.flatMap fun q => mean t (segE es q)) ∧ (g = w.heap.size + 1 ∨ sb + 1 < g)
  stp : BoxAt W w.heap.size 58 1 sb [.func (Fn.func fk) #[] fc]
  step : StepAt W t R (.func (Fn.func fk) #[] fc)
  row : RwI (sb + 1) gc 0 cc es W
  below : Below w.heap.size w W
structure MiS (w : World) (gc sb : Nat) (R : Nat → Prop) : Prop where
  aR : ∀ k, R k → w.heap.size + 1 + 1 < k ∧ k < sb
  aS : w.heap.size + 1 + 1 < sb
  aG : gc < w.heap.size
  aV : 1 < w.heap.size
theorem RwI.chg {S : Nat → Prop} {p b off cap : Nat} {es : List Ent} {W W' : World} (h : RwI p b off cap es W) (hc : Chg S W W') (h1 : ¬ S p) (h2 : ¬ S b) : RwI p b off cap es W' := by
  refine ⟨?_, h.sl.chg hc h2⟩
  rw [hc.cell (p := ⟨p, 0, none⟩) (by
      have := h.box
      unfold World.cell? at this
      by_cases q : p < W.heap.size
      · exact q
      · rw [Array.getElem?_eq_none (by show W.heap.size ≤ p; omega)] at this; simp at this) h1]
  exact h.box
theorem MiI.grow {w : World} {es : List Ent} {t : CT} {gc cc sb fk : Nat} {fc : Array Value} {R : Nat → Prop} {i : Nat} {W W' : World} (h : MiI w es t gc cc sb fk fc R i W) (hs : MiS w gc sb R) {row : Option Nat} (hg : W.grownBy W' row) (hr : ∀ r, row = some r → sb + 1 < r ∧ ∃ o : Obj, W.heap[r]? = some o ∧ o.isCells = false) : MiI w es t gc cc sb fk fc R i W' := by
  have hc : Chg (fun j => row = some j) W W' := Chg.of_grown hg (fun j q => q)
  have hl : ∀ j, row = some j → sb + 1 < j := fun j q => (hr j q).1
  have s1 := hs.aS
  have s6 := hs.aG
  have s7 := hs.aV
  obtain ⟨P, g, cp, h1, h2, h3, h4⟩ := h.told
  have hng : ¬ row = some g := fun q => by
    obtain ⟨_, o, ho, hoc⟩ := hr g q
    rcases h3.2 with ⟨q, _⟩ | ⟨g', cap', cur, hv, _, hh, _⟩
    · cases q
    · simp at hv
      rw [← hv.1, ho] at hh
      cases hh
      simp [Obj.isCells] at hoc
  exact ⟨⟨P, g, cp, h1, h2.chg hc (fun q => by have := hl _ q; omega), own_chg h3 hc (fun k q z => by simp [Value.ownBlock] at q; subst q; exact hng z), h4⟩, h.stp.chg hc (fun q => by have := hl _ q; omega), h.step.chg hc (fun q => by have := hl _ q; omega) (fun k q z => by have := hl _ q; have := (hs.aR k z).2; omega), h.row.chg hc (fun q => by have := hl _ q; omega) (fun q => by have := hl _ q; omega), Chg.below h.below hc h.below.size (fun k q => by have := hl _ q; omega)⟩
theorem end_same {es : List Ent} {i j : Nat} (h : IsEnd es i j) : SameRow (segE es (i, j)) := by
  have hx : ∀ x ∈ segE es (i, j), (es[i]?.map fun x => x.row.toList) = some x.row.toList := fun x hx => by
    obtain ⟨k, hk⟩ := List.mem_iff_getElem?.1 hx
    unfold segE at hk
    rw [List.getElem?_drop, List.getElem?_take] at hk
    split at hk
    · rename_i hlt
      have h9 := h.same (i + k) (by omega) hlt
      unfold sameR at h9
      simp only [hk] at h9
      have h10 := eq_of_beq h9
      rw [← h10]; rfl
    · cases hk
  intro x h1 y h2
  have q := (hx x h1).symm.trans (hx y h2)
  have q2 : x.row.toList = y.row.toList := by simpa using q
  cases hxr : x.row with
  | mk a => cases hyr : y.row with
    | mk b =>
      rw [hxr, hyr] at q2
      have : a.toList = b.toList := by simpa [ByteArray.toList_eq] using q2
      rw [Array.toList_inj.1 this]
set_option maxHeartbeats 2000000 in
theorem rowsOf_core {w : World} {gc N cc : Nat} : Calls Tryz.prog 32 #[.slice (some ⟨gc, 0, none⟩) N cc] w fun e w' => e = .returned (.func (Fn.func 75) #[] #[ptrC w.heap.size]) ∧ w' = w.alloc (Obj.cells #[.slice (some ⟨gc, 0, none⟩) N cc] 28) := by
  go_enter Tryz.func32, Tryz.ntmps32
  go_wp2_with fail
  go_ret
  exact ⟨rfl, rfl⟩
set_option maxHeartbeats 8000000 in
theorem implMeaning_core {w : World} {base g cp : Nat} {xs : List Nd} (h : OwnNd w base g cp xs) (hok : ∀ e ∈ xs, e.ok) {bc gc cc : Nat} {es : List Ent} (hC : OwnC w bc gc cc es) (hoe : ∀ e ∈ es, e.ok) (hk : ∀ e ∈ es, e.kind = 0) (hl : es.length ≤ 1048576) (hT : TabD w) :
    Calls Tryz.prog 10 #[.agg #[.slice (some ⟨g, 0, none⟩) xs.length cp], .slice (some ⟨gc, 0, none⟩) es.length cc] w (MeaP xs es w) := by
  have HO : Hid (OwnNd w base g cp xs ∧ (∀ e ∈ xs, e.ok) ∧ OwnC w bc gc cc es ∧ (∀ e ∈ es, e.ok) ∧ (∀ e ∈ es, e.kind = 0) ∧ TabD w) := ⟨h, hok, hC, hoe, hk, hT⟩
  obtain ⟨n, hn⟩ : ∃ n, n = xs.length := ⟨_, rfl⟩
  obtain ⟨N, hN⟩ : ∃ N, N = es.length := ⟨_, rfl⟩
  have HN : Hid (n = xs.length ∧ N = es.length) := ⟨hn, hN⟩
  obtain ⟨W0, hW0⟩ : ∃ W0 : World, W0 = ((w.alloc (Obj.cells #[.slice (some ⟨g, 0, none⟩) n cp] 32)).alloc (Obj.cells #[] 55)).alloc (Obj.cells #[.slice (some ⟨w.heap.size + 1, 0, none⟩) 0 0] 28) := ⟨_, rfl⟩
  have HB0 : Hid (BoxAt W0 w.heap.size 32 1 w.heap.size [.slice (some ⟨g, 0, none⟩) n cp] ∧ OwnC W0 w.heap.size (w.heap.size + 1) 0 [] ∧ BoxAt W0 w.heap.size 28 1 (w.heap.size + 1 + 1) [.slice (some ⟨w.heap.size + 1, 0, none⟩) 0 0] ∧ Below w.heap.size w W0) := by
    have b1 := boxAt_new w (base := w.heap.size) (t := 32) (sz := 1) #[.slice (some ⟨g, 0, none⟩) n cp] (Nat.le_refl _) rfl
    obtain ⟨X1, hX1⟩ : ∃ X, X = w.alloc (Obj.cells #[.slice (some ⟨g, 0, none⟩) n cp] 32) := ⟨_, rfl⟩
    have z1 : X1.heap.size = w.heap.size + 1 := by rw [hX1]; simp
    have k1 : Below w.heap.size w X1 := by rw [hX1]; exact (Below.refl _ _).alloc (Nat.le_refl _) _
    rw [← hX1] at b1 hW0
    have b2 := (ownC_new X1).mono (base' := w.heap.size) (by omega)
    obtain ⟨X2, hX2⟩ : ∃ X, X = X1.alloc (Obj.cells #[] 55) := ⟨_, rfl⟩
    have z2 : X2.heap.size = w.heap.size + 1 + 1 := by rw [hX2]; simp [z1]
    have k2 : Below X1.heap.size X1 X2 := by rw [hX2]; exact (Below.refl _ _).alloc (Nat.le_refl _) _
    rw [← hX2] at b2 hW0
    have b3 := boxAt_new X2 (base := w.heap.size) (t := 28) (sz := 1) #[.slice (some ⟨w.heap.size + 1, 0, none⟩) 0 0] (by omega) rfl
    have k3 : Below X2.heap.size X2 W0 := by rw [hW0]; exact (Below.refl _ _).alloc (Nat.le_refl _) _
    rw [← hW0, z2] at b3
    rw [z1] at b2
    exact ⟨(b1.below k2).below k3, b2.below k3 b2.lt.2, b3, (k1.trans (k2.mono (by omega))).trans (k3.mono (by omega))⟩
  have HF : Hid (Calls Tryz.prog 28 #[.agg #[.slice (some ⟨g, 0, none⟩) n cp]] W0 (FltPost xs W0)) := by
    rw [hn]; exact implFilter_core (h.below HB0.out.2.2.2 h.lt.2) hok
  have HV : Hid (∀ wx, Below w.heap.size w wx → Calls Tryz.prog 29 #[.slice (some ⟨gc, 0, none⟩) N cc] wx (ValPost (GoodR es) wx)) := fun wx hx => by
    have h9 := implCells_core gc cc es bc wx (hC.below hx hC.lt.2) hoe hl
    rw [put_self hk] at h9
    rw [hN]; exact h9
  rw [← hn, ← hN]
  rw [← hN] at hl
  clear h hok hC hoe hk hn hN hT
  have c0 := HB0.out.1.cell (j := 0) rfl
  refine (callsIn_wide (n := 9)).1 ?_
  refine callsIn_of_wp_marks Tryz.func10 rfl trivial ?_ rfl
  simp only [Tryz.ntmps10, List.size_toArray, List.length_cons, List.length_nil, Nat.reduceAdd, Nat.reduceSub, Array.replicate_succ, Array.replicate_zero, List.push_toArray, List.append_toArray, List.nil_append, List.cons_append]
  gi_wp2
  rw [← hW0]
  clear hW0 c0
  refine ⟨trivial, (callsIn_wide.2 HF.out).mono ?_⟩
  rintro e w1 ⟨r, rfl, hr, hb1⟩
  have HR1 : Hid ((r = true ↔ GoodF xs) ∧ BoxAt w1 w.heap.size 32 1 w.heap.size [.slice (some ⟨g, 0, none⟩) n cp] ∧ OwnC w1 w.heap.size (w.heap.size + 1) 0 [] ∧ BoxAt w1 w.heap.size 28 1 (w.heap.size + 1 + 1) [.slice (some ⟨w.heap.size + 1, 0, none⟩) 0 0] ∧ Below w.heap.size w w1) := ⟨hr, HB0.out.1.below hb1, HB0.out.2.1.below hb1 HB0.out.2.1.lt.2, HB0.out.2.2.1.below hb1, HB0.out.2.2.2.trans (hb1.mono HB0.out.2.2.2.size)⟩
  clear hr hb1 HF HB0
  cases r
  case false =>
    have c5 := HR1.out.2.2.2.1.cell (j := 0) rfl
    have HE : Hid (MeaOf xs es [] ∧ OwnC w1 w.heap.size (w.heap.size + 1) 0 [] ∧ Below w.heap.size w w1) := ⟨.inl ⟨fun q => Bool.noConfusion (HR1.out.1.2 q.1), rfl⟩, HR1.out.2.2.1, HR1.out.2.2.2.2⟩
    gi_wp2
    refine ⟨trivial, ?_⟩
    gi_wp2
    exact ⟨_, results_tmp rfl _ _ _, w.heap.size + 1, 0, [], rfl, HE.out⟩
  case true =>
  have hgf : GoodF xs := by have h9 := HR1.out.1; simpa using h9
  have HV1 : Hid (Calls Tryz.prog 29 #[.slice (some ⟨gc, 0, none⟩) N cc] w1 (ValPost (GoodR es) w1)) := HV.out w1 HR1.out.2.2.2.2
  have HGF : Hid (GoodF xs) := hgf
  clear hgf
  gi_wp2
  refine ⟨trivial, (callsIn_wide.2 HV1.out).mono ?_⟩
  rintro e w2 ⟨r2, rfl, hr2, hb2⟩
  have HR2 : Hid ((r2 = true ↔ GoodR es) ∧ BoxAt w2 w.heap.size 32 1 w.heap.size [.slice (some ⟨g, 0, none⟩) n cp] ∧ OwnC w2 w.heap.size (w.heap.size + 1) 0 [] ∧ BoxAt w2 w.heap.size 28 1 (w.heap.size + 1 + 1) [.slice (some ⟨w.heap.size + 1, 0, none⟩) 0 0] ∧ Below w.heap.size w w2) := ⟨hr2, HR1.out.2.1.below hb2, HR1.out.2.2.1.below hb2 HR1.out.2.2.1.lt.2, HR1.out.2.2.2.1.below hb2, HR1.out.2.2.2.2.trans (hb2.mono HR1.out.2.2.2.2.size)⟩
  clear hr2 hb2 HV1 HR1
  cases r2
  case false =>
    have c5 := HR2.out.2.2.2.1.cell (j := 0) rfl
    have HE : Hid (MeaOf xs es [] ∧ OwnC w2 w.heap.size (w.heap.size + 1) 0 [] ∧ Below w.heap.size w w2) := ⟨.inl ⟨fun q => Bool.noConfusion (HR2.out.1.2 q.2), rfl⟩, HR2.out.2.2.1, HR2.out.2.2.2.2⟩
    gi_wp2
    exact ⟨_, results_tmp rfl _ _ _, w.heap.size + 1, 0, [], rfl, HE.out⟩
  case true =>
  have hgr : GoodR es := by have h9 := HR2.out.1; simpa using h9
  obtain ⟨t, ht⟩ := goodF_tree HGF.out
  have HT : Hid (MeaOf xs es (meanAll t es) ∧ GoodR es ∧ Sub es es) := ⟨.inr ⟨⟨HGF.out, hgr⟩, t, ht, rfl⟩, hgr, sub_good hgr HO.out.2.2.2.2.1 HO.out.2.2.2.1⟩
  have hN10 : N ≤ 10000 := by rw [HN.out.2]; exact hgr.1.1
  have HFo : Hid (Calls Tryz.prog 30 #[.slice (some ⟨g, 0, none⟩) n cp, .func (Fn.func 31) #[] #[]] w2 (FsPost t w2)) := by
    rw [HN.out.1]
    have hNd := HO.out.1.below HR2.out.2.2.2.2 HO.out.1.lt.2
    exact foldStep_core hNd.at hNd.lt.2 ht HGF.out.1 (goodF_all HGF.out) (HO.out.2.2.2.2.2.chg (S := fun _ => False) (Chg.of_below HR2.out.2.2.2.2) (fun q => q))
  have c0 := HR2.out.2.1.cell (j := 0) rfl
  clear hgr ht
  gi_wp2
  refine ⟨trivial, (callsIn_wide.2 HFo.out).mono ?_⟩
  rintro e w3 ⟨⟨fk, fc⟩, rfl, H3⟩
  clear HFo c0
  obtain ⟨R, hSt, hRb, hb3⟩ := H3.out
  clear H3
  obtain ⟨W4, hW4⟩ : ∃ W4 : World, W4 = w3.alloc (Obj.cells #[.func (Fn.func fk) #[] fc] 58) := ⟨_, rfl⟩
  have hb4 : Below w3.heap.size w3 W4 := by rw [hW4]; exact (Below.refl _ _).alloc (Nat.le_refl _) _
  have hz4 : W4.heap.size = w3.heap.size + 1 := by rw [hW4]; simp
  have hz3 := hb3.size
  have hb5 : Below W4.heap.size W4 (W4.alloc (Obj.cells #[.slice (some ⟨gc, 0, none⟩) N cc] 28)) := (Below.refl _ _).alloc (Nat.le_refl _) _
  obtain ⟨sb, hsb⟩ : ∃ sb, sb = w3.heap.size := ⟨_, rfl⟩
  obtain ⟨W5, hW5⟩ : ∃ W5 : World, W5 = W4.alloc (Obj.cells #[.slice (some ⟨gc, 0, none⟩) N cc] 28) := ⟨_, rfl⟩
  rw [← hW5] at hb5
  have hz5 : W5.heap.size = sb + 1 + 1 := by rw [hW5, hsb]; simp [hz4]
  have HM : Hid (MiI w es t gc cc sb fk fc R 0 W5 ∧ MiS w gc sb R ∧ CallOk fk) := by
    have k24 : Below w2.heap.size w2 W4 := hb3.trans (hb4.mono hz3)
    have k25 : Below w2.heap.size w2 W5 := k24.trans (hb5.mono (by omega))
    have s2 := HR2.out.2.2.2.2.size
    have b2 := HR2.out.2.2.2.1.lt.2
    have hbb : Below w.heap.size w W5 := HR2.out.2.2.2.2.trans (k25.mono s2)
    refine ⟨⟨⟨[], w.heap.size + 1, 0, rfl, HR2.out.2.2.2.1.below k25, HR2.out.2.2.1.below k25 HR2.out.2.2.1.lt.2, .inl rfl⟩, ?_, (hSt.below hb4).below hb5, ⟨?_, (HO.out.2.2.1.sl).below hbb⟩, hbb⟩, ⟨fun k z => by have := hRb k z; omega, by omega, HO.out.2.2.1.lt.2, HO.out.2.2.2.2.2.lt⟩, hSt.callOk⟩
    · have h9 := boxAt_new w3 (base := w.heap.size) (t := 58) (sz := 1) #[.func (Fn.func fk) #[] fc] (by omega) rfl
      rw [← hW4, ← hsb] at h9
      exact h9.below hb5
    · have h9 := boxAt_new W4 (base := w.heap.size) (t := 28) (sz := 1) #[.slice (some ⟨gc, 0, none⟩) N cc] (by omega) rfl
      rw [← hW5, hz4, ← hsb] at h9
      rw [← HN.out.2]
      exact h9.cell (j := 0) rfl
  have HW5 : Hid (W5.heap.size = sb + 1 + 1) := hz5
  have hp4 : W4.heap.size = sb + 1 := by omega
  clear hSt hRb hb3 hb4 hb5 hz4 hz3 hz5 HR2
  gi_wp2
  rw [← hW4, ← hsb]
  refine ⟨trivial, (callsIn_wide.2 (rowsOf_core (w := W4) (gc := gc) (N := N) (cc := cc))).mono ?_⟩
  rintro e w5 ⟨rfl, rfl⟩
  rw [← hW5, hp4]
  clear hW5 hW4 hp4 hsb
  gi_wp2
  refine wp_range_rows (by decide) es (sb + 1) gc 0 cc (by rw [← HN.out.2]; exact hN10) rfl rfl (fun i W => MiI w es t gc cc sb fk fc R i W) ?hI ?hIt HM.out.1 (fun i j => { tmps := #[.agg #[.slice (some ⟨g, 0, none⟩) n cp], .slice (some ⟨gc, 0, none⟩) N cc, .pointer (some ⟨w.heap.size, 0, none⟩), undef, .slice none 0 0, .pointer (some ⟨w.heap.size + 1 + 1, 0, none⟩), .pointer (some ⟨sb, 0, none⟩), .bool true, segV gc 0 cc (i, j), .slice (some ⟨w.heap.size + 1, 0, none⟩) 0 0, .agg #[.slice (some ⟨g, 0, none⟩) n cp], .bool true, .bool false, .bool false, .slice (some ⟨gc, 0, none⟩) N cc, .bool true, .bool false, .bool false, undef, .tuple #[fvC (fk, fc), .bool true], .pointer (some ⟨w.heap.size, 0, none⟩), .slice (some ⟨g, 0, none⟩) n cp, .tuple #[fvC (fk, fc), .bool true], fvC (fk, fc), .bool true, .slice (some ⟨gc, 0, none⟩) N cc, .func (Fn.func 75) #[] #[ptrC (sb + 1)], segV gc 0 cc (i, j), undef, undef, undef, undef, undef, undef], defers := [] }) ?assign ?body ?done
  case hI =>
    rintro k A B row hA hg hr
    exact hA.grow HM.out.2.1 hg (fun r q => by have := hr r q; have hz := HW5.out; exact ⟨by omega, this.2⟩)
  case hIt => exact fun k W hA => hA.row
  case assign =>
    intro l i j W K hK
    gi_wp2
    exact hK
  case body =>
    intro l i j W hA hE
    obtain ⟨P, gt, ct, hP, hB, hO, hgt⟩ := hA.told
    have hel : es.length ≤ 10000 := by rw [← HN.out.2]; exact hN10
    have hmt : (P.flatMap fun q => mean t (segE es q)).length ≤ 100000000 := by
      refine Nat.le_trans (flat_len HT.out.2.2 hel _) ?_
      have h8 : (allC es 0).length ≤ es.length := cutsF_len es _ 0
      rw [hP, List.length_append] at h8
      omega
    have hseg := segE_sub HT.out.2.2 (i, j)
    have hsl : (segE es (i, j)).length = j - i := segE_len hE.le
    have hml : (mean t (segE es (i, j))).length ≤ 10000 := by
      have h8 := (mean_sub t hseg).len hseg.ord
      rw [hsl] at h8
      have := hE.le
      omega
    have hd : Below W.heap.size W W.drew := (Below.refl _ _).drew
    have sS := HM.out.2.1
    have sbl := hA.stp.lt.2
    have HCall : Hid (Calls Tryz.prog fk (#[.slice (some ⟨gc, i * 5, none⟩) (j - i) (cc - i)] ++ fc) W.drew (StpP t R (.func (Fn.func fk) #[] fc) gc (segE es (i, j)) W.drew)) := by
      have h9 := step_all t W.drew R fk fc gc (0 + i * 5) (cc - i) (segE es (i, j)) (hA.step.below hd) (fun k z => by have := (sS.aR k z).2; show k < W.drew.heap.size; have : W.drew.heap.size = W.heap.size := rfl; omega) (fun z => by have := (sS.aR _ z).1; have := sS.aV; omega) ⟨(hA.row.sl.below hd).seg (Nat.le_of_lt hE.lt) hE.le, fun z => by have := (sS.aR _ z).1; have := sS.aG; omega, hseg, end_same hE, by rw [hsl]; have := hE.le; omega⟩
      rw [hsl, Nat.zero_add] at h9
      exact h9
    obtain ⟨m, hm⟩ : ∃ m, m = (P.flatMap fun q => mean t (segE es q)).length := ⟨_, rfl⟩
    rw [← hm] at hB hmt
    have HA : Hid (MiI w es t gc cc sb fk fc R i W ∧ IsEnd es i j ∧ allC es 0 = P ++ allC es i ∧ BoxAt W w.heap.size 28 1 (w.heap.size + 1 + 1) [.slice (some ⟨gt, 0, none⟩) m ct] ∧ OwnC W w.heap.size gt ct (P.flatMap fun q => mean t (segE es q)) ∧ (gt = w.heap.size + 1 ∨ sb + 1 < gt) ∧ m = (P.flatMap fun q => mean t (segE es q)).length) := ⟨hA, hE, hP, hB, hO, hgt, hm⟩
    have hS0 : (fun w' : World => w'.cell? ⟨w.heap.size + 1 + 1, 0, none⟩ = some (.slice (some ⟨gt, 0, none⟩) m ct) ∧ w'.cell? ⟨sb, 0, none⟩ = some (.func (Fn.func fk) #[] fc)) W.drew := ⟨hB.cell (j := 0) rfl, hA.stp.cell (j := 0) rfl⟩
    have HMl : Hid ((mean t (segE es (i, j))).length ≤ 10000) := hml
    have hka : ∀ (args : Array Value) (w : World), (callFunc fk args).run Tryz.prog w = .ok (.enter fk args) w := HM.out.2.2
    have hsg : segV gc 0 cc (i, j) = .slice (some ⟨gc, i * 5, none⟩) (j - i) (cc - i) := by unfold segV; simp only [Nat.zero_add]
    rw [hsg]
    clear hA hE hP hB hO hgt hm hel hseg hsl hml hd sS sbl hsg
    gi_wp2
    refine wpIn_region_T 5 (fun w' : World => w'.cell? ⟨w.heap.size + 1 + 1, 0, none⟩ = some (.slice (some ⟨gt, 0, none⟩) m ct) ∧ w'.cell? ⟨sb, 0, none⟩ = some (.func (Fn.func fk) #[] fc)) (by kernel_rfl) (by kernel_rfl) ?hlet ?_
    case hlet => rintro ⟨a0, w0, hq⟩; exact nomatch (show Exit.outgrown = Exit.normal from hq.1)
    refine anyT_take (i := 0) (v := ?vih0) rfl (by kernel_rfl) (by kernel_rfl) (by kernel_rfl) (by kernel_rfl) (by decide) (fun _ _ _ h => h) (Or.inl ⟨by rfl, ?yih0⟩) hS0 ?_
    case yih0 => (intro wz hSw; obtain ⟨d0, d1⟩ := hSw; go_simp; (try with_reducible rfl))
    try simp only [Act.put, List.getElem_toArray, List.getElem_cons_zero, List.getElem_cons_succ, List.setIfInBounds_toArray, List.set_cons_zero, List.set_cons_succ]
    refine anyT_take (i := 1) (v := ?vih1) rfl (by kernel_rfl) (by kernel_rfl) (by kernel_rfl) (by kernel_rfl) (by decide) (fun _ _ _ h => h) (Or.inl ⟨by rfl, ?yih1⟩) hS0 ?_
    case yih1 => (intro wz hSw; obtain ⟨d0, d1⟩ := hSw; go_simp; (try with_reducible rfl))
    try simp only [Act.put, List.getElem_toArray, List.getElem_cons_zero, List.getElem_cons_succ, List.setIfInBounds_toArray, List.set_cons_zero, List.set_cons_succ]
    refine anyT_take (i := 2) (v := ?vih2) rfl (by kernel_rfl) (by kernel_rfl) (by kernel_rfl) (by kernel_rfl) (by decide) (fun _ _ _ h => h) (Or.inl ⟨by rfl, ?yih2⟩) hS0 ?_
    case yih2 => (intro wz hSw; obtain ⟨d0, d1⟩ := hSw; go_simp; (try with_reducible rfl))
    try simp only [Act.put, List.getElem_toArray, List.getElem_cons_zero, List.getElem_cons_succ, List.setIfInBounds_toArray, List.set_cons_zero, List.set_cons_succ]
    refine anyT_one (i := 3) (by kernel_rfl) rfl (fun K hK => ?_)
    go_simp
    refine HCall.out.mono ?_
    rintro e v5 ⟨b5, o5, c5, rfl, H5⟩
    have HV : Hid (BoxAt v5 w.heap.size 28 1 (w.heap.size + 1 + 1) [.slice (some ⟨gt, 0, none⟩) m ct] ∧ OwnC v5 w.heap.size gt ct (P.flatMap fun q => mean t (segE es q)) ∧ BoxAt v5 w.heap.size 58 1 sb [.func (Fn.func fk) #[] fc] ∧ RwI (sb + 1) gc 0 cc es v5 ∧ Below w.heap.size w v5 ∧ Chg R W v5) := by
      have hc5 : Chg R W v5 := (Chg.of_below ((Below.refl W.heap.size W).drew)).trans H5.out.2.2.2
      have sS := HM.out.2.1
      have hA := HA.out
      have s1 := sS.aS
      have s2 := sS.aG
      have s3 := hA.2.2.2.2.2.1
      refine ⟨hA.2.2.2.1.chg hc5 (fun z => by have := sS.aR _ z; omega), own_chg hA.2.2.2.2.1 hc5 (fun k q z => by simp [Value.ownBlock] at q; have := sS.aR _ z; omega), hA.1.stp.chg hc5 (fun z => by have := sS.aR _ z; omega), hA.1.row.chg hc5 (fun z => by have := sS.aR _ z; omega) (fun z => by have := sS.aR _ z; omega), Chg.below hA.1.below hc5 hA.1.below.size (fun k z => by have := sS.aR _ z; omega), hc5⟩
    have hS5 : (fun w' : World => w'.cell? ⟨w.heap.size + 1 + 1, 0, none⟩ = some (.slice (some ⟨gt, 0, none⟩) m ct) ∧ w'.cell? ⟨sb, 0, none⟩ = some (.func (Fn.func fk) #[] fc)) v5 := ⟨HV.out.1.cell (j := 0) rfl, HV.out.2.2.1.cell (j := 0) rfl⟩
    refine hK.out _ _ (.inr hS5) ?_
    clear hK HCall hS0 hka
    try simp only [Act.put, List.getElem_toArray, List.getElem_cons_zero, List.getElem_cons_succ, List.setIfInBounds_toArray, List.set_cons_zero, List.set_cons_succ]
    refine anyT_one (i := 4) (by kernel_rfl) rfl (fun K hK => ?_)
    refine step_append_cels v5 rfl _ _ rfl w.heap.size gt ct m b5 o5 _ c5 (P.flatMap fun q => mean t (segE es q)) (mean t (segE es (i, j))) rfl rfl HA.out.2.2.2.2.2.2 rfl HV.out.2.1 H5.out.1.at_ (by have := HA.out.2.2.2.2.2.2; have := HMl.out; omega) HV.out.2.2.2.2.1.size (fun g6 c6 v6 hO6 hg6 ha6 => ?_)
    have HV6 : Hid (BoxAt v6 w.heap.size 28 1 (w.heap.size + 1 + 1) [.slice (some ⟨gt, 0, none⟩) m ct] ∧ OwnC v6 w.heap.size g6 c6 ((P.flatMap fun q => mean t (segE es q)) ++ mean t (segE es (i, j))) ∧ BoxAt v6 w.heap.size 58 1 sb [.func (Fn.func fk) #[] fc] ∧ RwI (sb + 1) gc 0 cc es v6 ∧ Below w.heap.size w v6 ∧ Chg (fun k => R k ∨ k = gt) W v6 ∧ StepAt v6 t R (.func (Fn.func fk) #[] fc) ∧ (g6 = w.heap.size + 1 ∨ sb + 1 < g6)) := by
      have hc6 : Chg (fun k => k = gt) v5 v6 := Chg.of_grown hg6 (fun k q => by cases q; rfl)
      have sS := HM.out.2.1
      have s1 := sS.aS
      have s2 := sS.aG
      have s4 := sS.aV
      have s3 := HA.out.2.2.2.2.2.1
      have s5 := HV.out.2.1.lt.1
      have s6 := HV.out.2.2.2.1.sl.lt
      have s7 : sb + 1 < v5.heap.size := by
        have hz := HV.out.2.2.2.1.box
        unfold World.cell? at hz
        by_cases q : sb + 1 < v5.heap.size
        · exact q
        · rw [Array.getElem?_eq_none (by show v5.heap.size ≤ sb + 1; omega)] at hz; simp at hz
      refine ⟨HV.out.1.chg hc6 (by omega), hO6, HV.out.2.2.1.chg hc6 (by omega), HV.out.2.2.2.1.chg hc6 (by omega) (by omega), Chg.below HV.out.2.2.2.2.1 hc6 HV.out.2.2.2.2.1.size (fun k z => by omega), ⟨hc6.os.trans HV.out.2.2.2.2.2.os, hc6.tape.trans HV.out.2.2.2.2.2.tape, hc6.output.trans HV.out.2.2.2.2.2.output, Nat.le_trans HV.out.2.2.2.2.2.size hc6.size, fun k hk hn => (hc6.block k (Nat.lt_of_lt_of_le hk HV.out.2.2.2.2.2.size) (fun z => hn (.inr z))).trans (HV.out.2.2.2.2.2.block k hk (fun z => hn (.inl z)))⟩, H5.out.2.2.1.chg hc6 (by omega) (fun k z y => by have := sS.aR _ y; omega), ?_⟩
      rcases ha6 with z | z
      · rw [z]; exact s3
      · right; omega
    have hS6 : (fun w' : World => w'.cell? ⟨w.heap.size + 1 + 1, 0, none⟩ = some (.slice (some ⟨gt, 0, none⟩) m ct) ∧ w'.cell? ⟨sb, 0, none⟩ = some (.func (Fn.func fk) #[] fc)) v6 := ⟨HV6.out.1.cell (j := 0) rfl, HV6.out.2.2.1.cell (j := 0) rfl⟩
    obtain ⟨m6, hm6⟩ : ∃ m6, m6 = m + (mean t (segE es (i, j))).length := ⟨_, rfl⟩
    have HM6 : Hid (m6 = ((P ++ [(i, j)]).flatMap fun q => mean t (segE es q)).length) := by
      show _ = _
      rw [List.flatMap_append, List.length_append, hm6, HA.out.2.2.2.2.2.2]
      simp
    rw [← hm6]
    refine hK.out _ _ (.inr hS6) ?_
    clear hK hS5 HV hO6 hg6 ha6 hm6
    have o6 := HV6.out.1.frozen 0
    have y6 := HV6.out.1.cell (j := 0) rfl
    try simp only [Act.put, List.getElem_toArray, List.getElem_cons_zero, List.getElem_cons_succ, List.setIfInBounds_toArray, List.set_cons_zero, List.set_cons_succ]
    refine anyT_one (i := 5) (by kernel_rfl) rfl (fun K hK => ?_)
    go_simp
    refine hK.out _ _ (.inl rfl) ?_
    clear hK
    try simp only [Act.put, List.getElem_toArray, List.getElem_cons_zero, List.getElem_cons_succ, List.setIfInBounds_toArray, List.set_cons_zero, List.set_cons_succ]
    refine anyT_done (by kernel_rfl) ?_
    have hc7 : Chg (fun k => k = w.heap.size + 1 + 1) v6 (v6.setCell ⟨w.heap.size + 1 + 1, 0, none⟩ (.slice (some ⟨g6, 0, none⟩) m6 c6)) := Chg.of_set v6 _ 0 _ rfl
    have h6 := HV6.out
    have sS := HM.out.2.1
    have s1 := sS.aS
    have s2 := sS.aG
    have s4 := sS.aV
    have hz := HW5.out
    have h7 := h6.1.set 0 (.slice (some ⟨g6, 0, none⟩) m6 c6)
    refine ⟨rfl, ⟨Nat.le_trans h6.2.2.2.2.2.1.size hc7.size, fun k o hk ho hoc => (hc7.block k (Nat.lt_of_lt_of_le (Array.getElem?_eq_some_iff.1 ho).1 h6.2.2.2.2.2.1.size) (by omega)).trans ((h6.2.2.2.2.2.1.block k (Array.getElem?_eq_some_iff.1 ho).1 (fun z => ?_)).trans ho)⟩, ?_⟩
    · rcases z with z | z
      · have := sS.aR k z; omega
      · subst z
        rcases HA.out.2.2.2.2.1.2 with ⟨q, _⟩ | ⟨g', cap', cur, hv, _, hh, _⟩
        · cases q
        · simp at hv
          rw [← hv.1, ho] at hh
          cases hh
          simp [Obj.isCells] at hoc
    · refine ⟨⟨P ++ [(i, j)], g6, c6, ?_, ?_, ?_, h6.2.2.2.2.2.2.2⟩, h6.2.2.1.chg hc7 (by omega), h6.2.2.2.2.2.2.1.chg hc7 (by omega) (fun k z y => by have := sS.aR k y; omega), h6.2.2.2.1.chg hc7 (by omega) (by omega), Chg.below h6.2.2.2.2.1 hc7 h6.2.2.2.2.1.size (fun k z => by omega)⟩
      · rw [HA.out.2.2.1, allC_step HA.out.2.1]; simp
      · rw [← HM6.out]; exact h7
      · have h8 := own_chg h6.2.1 hc7 (fun k q z => by simp [Value.ownBlock] at q; have := h6.2.2.2.2.2.2.2; omega)
        rw [List.flatMap_append]
        simpa [OwnC] using h8
  case done =>
    rintro Dd W hD hA hKD
    obtain ⟨P, gt, ct, hP, hB, hO, hgt⟩ := hA.told
    rw [allC_done (Nat.le_refl _), List.append_nil] at hP
    have HE : Hid (MeaOf xs es (meanAll t es) ∧ OwnC (W.putObj Dd (.deferred none)) w.heap.size gt ct (meanAll t es) ∧ Below w.heap.size w (W.putObj Dd (.deferred none))) := by
      have hc8 : Chg (fun k => k = Dd) W (W.putObj Dd (.deferred none)) := Chg.of_grown (grownBy_putObj' W Dd _) (fun j q => by cases q; rfl)
      have hz := HW5.out
      have s1 := HM.out.2.1.aS
      refine ⟨HT.out.1, ?_, Chg.below hA.below hc8 hA.below.size (fun k z => by omega)⟩
      unfold meanAll
      rw [hP]
      refine own_chg hO hc8 (fun k q z => ?_)
      simp [Value.ownBlock] at q
      subst q
      subst z
      rcases hO.2 with ⟨q, _⟩ | ⟨g', cap', cur, hv, _, hh, _⟩
      · cases q
      · simp at hv
        rw [← hv.1, hKD] at hh
        cases hh
    have hme : (P.flatMap fun q => mean t (segE es q)) = meanAll t es := by unfold meanAll; rw [hP]
    rw [hme] at hB
    have c9 := hB.cell (j := 0) rfl
    obtain ⟨m, hm⟩ : ∃ m, m = (meanAll t es).length := ⟨_, rfl⟩
    have HMm : Hid (m = (meanAll t es).length) := hm
    rw [← hm] at c9
    clear hA hP hB hO hgt hme hm
    gi_wp2
    refine ⟨by simp, .inl ⟨_, _, rfl, run_takeDeferred hKD, ?_⟩⟩
    exact ⟨_, results_tmp rfl _ _ _, gt, ct, meanAll t es, by rw [← HMm.out]; rfl, HE⟩
end Go.Proofs.YtkidabedcgngcaaGreatDoor

/-
  laws.lwCells.
-/
namespace Go.Proofs.YtkidabedcgngcaaGreatDoor
open Go.ChangeShapes Go.WideShapes Go.ChangeAt Go.RowKit Go.Deep
set_option linter.unusedVariables false
set_option linter.unusedSimpArgs false
set_option maxRecDepth 100000

set_option maxHeartbeats 1000000 in
theorem lwCells_same (b off cap b' off' cap' : Nat) (es : List Ent) (w : World) (hE : CelsAt w b off es) (hE' : CelsAt w b' off' es) (hB : b < w.heap.size) (hB' : b' < w.heap.size) (hlen : es.length ≤ maxLen) :
    Calls Tryz.prog 21 #[.slice (some ⟨b, off, none⟩) es.length cap, .slice (some ⟨b', off', none⟩) es.length cap'] w fun e w' => e = .returned (.bool true) ∧ Below w.heap.size w w' := by
  have HE : Hid (CelsAt w b off es ∧ CelsAt w b' off' es) := ⟨hE, hE'⟩
  clear hE hE'
  unfold maxLen at hlen
  go_enter Tryz.func21, Tryz.ntmps21
  go_wp2
  go_loopw [5] (fun i wr => ∃ (k : Nat), k ≤ es.length ∧ i = .int .i64 k ∧ Below w.heap.size w wr) (fun i _ => es.length - (intOf i).toNat)
  case atStart => exact ⟨0, Nat.zero_le _, rfl, Below.refl _ _⟩
  case round =>
    obtain ⟨k, hk, rfl, hb⟩ := hrel
    have hs2 := hb.size
    by_cases hlt : k < es.length
    · obtain ⟨e, he⟩ : ∃ e, es[k]? = some e := ⟨_, List.getElem?_eq_getElem hlt⟩
      obtain ⟨c0, c1, c2, c3, c4⟩ := HE.out.1.below hb hB k e he
      obtain ⟨d0, d1, d2, d3, d4⟩ := HE.out.2.below hb hB' k e he
      clear he
      go_upto_region 6 with fail
      go_cut [25] (fun s wx => s = .bool false ∧ Below w.heap.size w wx)
      case first =>
        have z2 : (k : Int) < (es.length : Int) := by omega
        go_region
        all_goals go_wp2_with fail
        all_goals go_meet
        all_goals exact ⟨rfl, hb.drew⟩
      case rest =>
      obtain ⟨rfl, h3⟩ := hcut
      clear c0 c1 c2 c3 c4 d0 d1 d2 d3 d4
      go_wp2_with fail
      go_roundw
      case rel => exact ⟨k + 1, by omega, by go_num, h3⟩
      case measure => simp [intOf]; omega
    · go_wp2_with fail
      go_ret
      exact ⟨rfl, hb⟩
theorem lwCells_own {w : World} {base g cp base' g' cp' : Nat} {es : List Ent} (h : OwnC w base g cp es) (h' : OwnC w base' g' cp' es) :
    Calls Tryz.prog 21 #[.slice (some ⟨g, 0, none⟩) es.length cp, .slice (some ⟨g', 0, none⟩) es.length cp'] w fun e w' => e = .returned (.bool true) ∧ Below w.heap.size w w' :=
  lwCells_same g 0 cp g' 0 cp' es w h.at h'.at h.lt.2 h'.lt.2 (Nat.le_trans h.caps.1 h.caps.2)
end Go.Proofs.YtkidabedcgngcaaGreatDoor

/-
  impl's isSingle, slices.Equal, slices.Grow and slices.Concat over nodes.
-/
namespace Go.Proofs.YtkidabedcgngcaaGreatDoor
open Go.ChangeShapes Go.WideShapes Go.ChangeAt Go.RowKit Go.Deep
set_option linter.unusedVariables false
set_option linter.unusedSimpArgs false
set_option maxRecDepth 100000

set_option maxHeartbeats 1000000 in
theorem isSingle_core (v : Value) (xs : List Nd) (k : Int) (w : World) (h : InNds w v xs) (hl : xs.length ≤ 1000000) : Calls Tryz.prog 116 #[v, .int .i64 k] w fun r w' => r = .returned (.bool (isKB xs k)) ∧ w' = w := by
  obtain ⟨a, c, rfl, hf⟩ := h.form
  obtain ⟨B, hB⟩ : ∃ B, B = isKB xs k := ⟨_, rfl⟩
  rw [← hB]
  have HB : Hid (B = isKB xs k) := hB
  clear hB h
  by_cases h1 : xs.length = 1
  · obtain ⟨n, rfl⟩ : ∃ n, xs = [n] := List.length_eq_one_iff.1 h1
    obtain ⟨b, o, rfl, hE, _⟩ := hf (by simp)
    obtain ⟨c0, _⟩ := hE 0 n rfl
    simp only [Nat.zero_mul, Nat.add_zero] at c0
    clear hf hE h1
    by_cases hk : n.kind = k
    · have hb : B = true := by rw [HB.out]; exact (isKB_iff _ _).2 ⟨n, rfl, hk⟩
      subst hb
      go_enter Tryz.func116, Tryz.ntmps116
      go_wp2_with fail
      go_ret
      exact ⟨by simp [hk], rfl⟩
    · have hb : B = false := by rw [HB.out]; exact isKB_no (fun ⟨m, q, r⟩ => by cases q; exact hk r)
      subst hb
      go_enter Tryz.func116, Tryz.ntmps116
      go_wp2_with fail
      go_ret
      exact ⟨by simp [hk], rfl⟩
  · have hb : B = false := by rw [HB.out]; exact isKB_no (fun ⟨m, q, r⟩ => by rw [q] at h1; simp at h1)
    subst hb
    have z1 : ((xs.length : Int) == 1) = false := by rw [beq_eq_false_iff_ne]; omega
    clear hf
    go_enter Tryz.func116, Tryz.ntmps116
    go_wp2_with fail
    go_ret
    exact ⟨rfl, rfl⟩
set_option maxHeartbeats 4000000 in
theorem equalN_core (v v' : Value) (xs ys : List Nd) (w : World) (h : InNds w v xs) (h' : InNds w v' ys) (hl : xs.length ≤ 1000000) (hl' : ys.length ≤ 1000000) : Calls Tryz.prog 118 #[v, v'] w fun r w' => r = .returned (.bool (sameB xs ys)) ∧ ∃ m, w' = w.drewN m := by
  obtain ⟨a, c, rfl, hf⟩ := h.form
  obtain ⟨a', c', rfl, hf'⟩ := h'.form
  obtain ⟨B, hB⟩ : ∃ B, B = sameB xs ys := ⟨_, rfl⟩
  rw [← hB]
  have HB : Hid (B = sameB xs ys) := hB
  have HF : Hid ((xs ≠ [] → ∃ b o, a = some ⟨b, o, none⟩ ∧ NdsAt w b o xs ∧ b < w.heap.size ∧ xs.length ≤ c ∧ c ≤ maxLen) ∧ (ys ≠ [] → ∃ b o, a' = some ⟨b, o, none⟩ ∧ NdsAt w b o ys ∧ b < w.heap.size ∧ ys.length ≤ c' ∧ c' ≤ maxLen)) := ⟨hf, hf'⟩
  clear hB h h' hf hf'
  by_cases hle : xs.length = ys.length
  case neg =>
    have hb : B = false := by rw [HB.out]; exact sameB_no (fun q => hle (by rw [q]))
    subst hb
    have z1 : ((xs.length : Int) != (ys.length : Int)) = true := bne_iff_ne.2 (by omega)
    go_enter Tryz.func118, Tryz.ntmps118
    go_wp2_with fail
    go_ret
    exact ⟨rfl, 0, rfl⟩
  obtain ⟨n, hn⟩ : ∃ n, n = xs.length := ⟨_, rfl⟩
  have HN : Hid (n = xs.length ∧ n = ys.length) := ⟨hn, by omega⟩
  rw [← hle, ← hn]
  have hn1 : n ≤ 1000000 := by omega
  clear hn hle hl hl'
  go_enter Tryz.func118, Tryz.ntmps118
  go_wp2_with fail
  go_loopw [13] (fun i wr => ∃ (k m : Nat), k ≤ n ∧ i = .int .i64 k ∧ Hid (xs.take k = ys.take k) ∧ wr = w.drewN m) (fun i _ => n - (intOf i).toNat)
  case atStart => exact ⟨0, 0, Nat.zero_le _, rfl, rfl, rfl⟩
  case round =>
    obtain ⟨k, m, hk, rfl, HT, rfl⟩ := hrel
    by_cases hlt : k < n
    · have zk : (k : Int) < (n : Int) := by omega
      obtain ⟨x, hx⟩ : ∃ x, xs[k]? = some x := ⟨_, List.getElem?_eq_getElem (by have := HN.out.1; omega)⟩
      obtain ⟨y, hy⟩ : ∃ y, ys[k]? = some y := ⟨_, List.getElem?_eq_getElem (by have := HN.out.2; omega)⟩
      obtain ⟨b, o, hab, hE, _⟩ := HF.out.1 (by rintro rfl; simp at hx)
      obtain ⟨b', o', hab', hE', _⟩ := HF.out.2 (by rintro rfl; simp at hy)
      obtain ⟨c0, c1, c2, c3, c4, c5, c6⟩ := hE k x hx
      obtain ⟨d0, d1, d2, d3, d4, d5, d6⟩ := hE' k y hy
      obtain ⟨Q, hQ, hq⟩ := ndNe_any x y
      have HX : Hid (xs[k]? = some x ∧ ys[k]? = some y ∧ (Q = false ↔ x = y)) := ⟨hx, hy, hQ⟩
      subst hab hab'
      clear hx hy hE hE' hQ HF
      cases Q
      case true =>
        have hb : B = false := by
          rw [HB.out]
          refine sameB_no (fun q => ?_)
          have h1 := HX.out.1
          rw [q, HX.out.2.1] at h1
          have := HX.out.2.2.2 (Option.some.inj h1).symm
          cases this
        subst hb
        go_wp2_with fail
        go_quiet (fail)
        go_wp2_with fail
        go_ret
        exact ⟨rfl, _, World.drewN_drewN ..⟩
      case false =>
        have HT2 : Hid (xs.take (k + 1) = ys.take (k + 1)) := by
          show _ = _
          rw [List.take_add_one, List.take_add_one, HT.out, HX.out.1, HX.out.2.1, HX.out.2.2.1 rfl]
        go_wp2_with fail
        go_quiet (fail)
        go_wp2_with fail
        go_roundw
        case rel => exact ⟨k + 1, _, by omega, by go_num, HT2, rfl⟩
        case measure => simp [intOf]; omega
    · have zk : ¬ (k : Int) < (n : Int) := by omega
      have hb : B = true := by
        rw [HB.out]
        refine (sameB_iff _ _).2 ?_
        have := HT.out
        rw [List.take_of_length_le (by have := HN.out.1; omega), List.take_of_length_le (by have := HN.out.2; omega)] at this
        exact this
      subst hb
      go_wp2_with fail
      go_ret
      exact ⟨rfl, m, rfl⟩
/-- Nodes appended to a row of the call's own, or to none. -/
theorem wpList_append_ndV {ops : Array Oper} {rest : List Oper} {o : Oper} {a : Act} {Q : Exit → Act → World → Prop} (w : World) (hgd : o.guard = none) (s x : Operand)
    (ho : o.op = .call { callee := .builtin .append, args := #[s, x], argTypes := #[30, 30] })
    (base : Nat) (v : Value) (b off m cx : Nat) (fs es : List Nd) (hs : a.eval s = v) (hx : a.eval x = .slice (some ⟨b, off, none⟩) m cx) (hm : m = es.length) (hO : w.ownsRow base 75 7 v fs.length (cellsN fs))
    (hc : NdsAt w b off es) (hlen : fs.length + es.length ≤ 2 ^ 30) (hbase : base ≤ w.heap.size)
    (h : ∀ v' w', w'.ownsRow base 75 7 v' (fs ++ es).length (cellsN (fs ++ es)) → w.grownBy w' v.ownBlock → wpList Tryz.prog ops Q rest (a.put o.dst v') w') : wpList Tryz.prog ops Q (o :: rest) a w := by
  subst hm
  obtain ⟨i, hi, hz0, hz1, hz2⟩ := info_parts Tryz.infoNd
  refine wpList_append_own_at w hgd s x 30 ho base 75 i _ 7 72 Tryz.underlying30 hi hz0 hz1 hz2 rfl (by decide) v fs.length (cellsN fs) hs hO ⟨b, off, none⟩ es.length cx (cellsN es) hx (length_cellsN es) (nds_cells hc) (nds_one es) ?_ ?_ hbase ?_
  · unfold maxLen; omega
  · omega
  · intro v' w' hO' hgr hnil hat
    refine h v' w' ?_ hgr
    rw [List.length_append, cellsN_append]
    exact hO'
theorem growN_row (w : World) (t : TypeId) (z : Array Value) (size n c : Nat) (hz : z.size = size) (hn : n ≤ c) (hc : c ≤ maxLen) :
    (w.drew.alloc (.cells (Builtin.zeroCells z n ++ Builtin.zeroCells z (c - n)) t)).ownsRow w.heap.size t size (.slice (some ⟨w.heap.size, 0, none⟩) 0 c) 0 [] := by
  refine ⟨by simp, .inr ⟨w.heap.size, c, _, rfl, Nat.le_refl _, heap_alloc_new w.drew _, Nat.zero_le _, hc, ?_, by simp⟩⟩
  rw [Array.size_append, size_zeroCells, size_zeroCells, hz, ← Nat.add_mul]
  congr 1
  omega
def GrowN (w : World) (r : Ending) (w' : World) : Prop := ∃ v : Value, r = .returned v ∧ w'.ownsRow w.heap.size 75 7 v 0 [] ∧ Below w.heap.size w w'
set_option maxHeartbeats 2000000 in
theorem growN_core (n : Nat) (w : World) (hn : n ≤ 2 ^ 30) :
    Calls Tryz.prog 146 #[.slice none 0 0, .int .i64 n] w fun r w' => GrowN w r w' := by
  obtain ⟨i, hi, hz0, hz1, hz2⟩ := info_parts Tryz.infoNd
  by_cases h0 : n = 0
  · subst h0
    go_enter Tryz.func146, Tryz.ntmps146
    go_wp2_with fail
    go_ret
    exact ⟨_, rfl, World.ownsRow_nil .., Below.refl _ _⟩
  · have hp : 0 < n := by omega
    have HG : Hid (n ≤ grownCap w n 0 75 ∧ grownCap w n 0 75 ≤ maxLen) := ⟨grownCap_ge w n 0 _, grownCap_le_maxLen w n 0 _ (by unfold maxLen; omega)⟩
    have HRun : Hid (∀ ty, (Builtin.append_ #[30, 3] ty #[.slice none 0 0, .int .i64 n]).run Tryz.prog w = .ok (.slice (some ⟨w.heap.size, 0, none⟩) n (grownCap w n 0 75)) (w.drew.alloc (.cells (Builtin.zeroCells #[.int .i64 0, .string ⟨#[]⟩, .bool false, .string ⟨#[]⟩, .int .u64 0, .int .u64 0, .int .i64 0] n ++ Builtin.zeroCells #[.int .i64 0, .string ⟨#[]⟩, .bool false, .string ⟨#[]⟩, .int .u64 0, .int .u64 0, .int .i64 0] (grownCap w n 0 75 - n)) 75))) := fun ty =>
      Go.Lib.run_append_nil_zeros w 30 3 ty 75 i (.agg #[.int .i64 0, .string ⟨#[]⟩, .bool false, .string ⟨#[]⟩, .int .u64 0, .int .u64 0, .int .i64 0]) .i64 .i64 Tryz.underlying30 Tryz.underlying3 hi hz0 n hp (by omega) (by omega) (by rw [hz2]; omega)
    obtain ⟨c, hc⟩ : ∃ c, c = grownCap w n 0 75 := ⟨_, rfl⟩
    rw [← hc] at HG HRun
    have hcm := HG.out.2
    have hcn := HG.out.1
    unfold maxLen at hcm
    have zp : (0 : Int) < (n : Int) := by omega
    clear h0 hc hi hz0 hz1 hz2
    go_enter Tryz.func146, Tryz.ntmps146
    go_wp2_with (at_builtin; refine Go.Lib.wpList_append_run _ rfl _ _ _ _ rfl _ _ rfl rfl _ _ (HRun.out _) ?_)
    obtain ⟨W1, hW1⟩ : ∃ W1 : World, W1 = (w.drew.alloc (.cells (Builtin.zeroCells #[.int .i64 0, .string ⟨#[]⟩, .bool false, .string ⟨#[]⟩, .int .u64 0, .int .u64 0, .int .i64 0] n ++ Builtin.zeroCells #[.int .i64 0, .string ⟨#[]⟩, .bool false, .string ⟨#[]⟩, .int .u64 0, .int .u64 0, .int .i64 0] (c - n)) 75)) := ⟨_, rfl⟩
    have HO : Hid (W1.ownsRow w.heap.size 75 7 (.slice (some ⟨w.heap.size, 0, none⟩) 0 c) 0 [] ∧ Below w.heap.size w W1) := by
      rw [hW1]
      exact ⟨growN_row w _ _ 7 n c rfl hcn (by unfold maxLen; omega), (Below.refl _ _).drew.alloc (by simp) _⟩
    go_ret
    rw [hW1] at HO
    exact ⟨_, rfl, HO.out.1, HO.out.2⟩
end Go.Proofs.YtkidabedcgngcaaGreatDoor

/-
  slices.Concat over nodes.
-/
namespace Go.Proofs.YtkidabedcgngcaaGreatDoor
open Go.ChangeShapes Go.WideShapes Go.ChangeAt Go.RowKit Go.Deep
set_option linter.unusedVariables false
set_option linter.unusedSimpArgs false
set_option maxRecDepth 100000

def CatN (w : World) (xs : List Nd) (r : Ending) (w' : World) : Prop := ∃ v : Value, r = .returned v ∧ w'.ownsRow w.heap.size 75 7 v xs.length (cellsN xs) ∧ Below w.heap.size w w'
/-- Slices of nodes, none of them empty, in a row. -/
structure Parts (w : World) (sb : Nat) (ns : List (List Nd)) : Prop where
  lt : sb < w.heap.size
  at_ : ∀ (j : Nat) (y : List Nd), ns[j]? = some y → ∃ b o c, w.cell? ⟨sb, j, none⟩ = some (.slice (some ⟨b, o, none⟩) y.length c) ∧ NdsAt w b o y ∧ b < w.heap.size
theorem Parts.below {w w' : World} {sb : Nat} {ns : List (List Nd)} (h : Parts w sb ns) (hb : Below w.heap.size w w') : Parts w' sb ns := by
  refine ⟨by have := hb.size; have := h.lt; omega, fun j y hy => ?_⟩
  obtain ⟨b, o, c, h1, h2, h3⟩ := h.at_ j y hy
  exact ⟨b, o, c, by rw [hb.cell (p := ⟨sb, j, none⟩) h.lt]; exact h1, h2.below hb h3, by have := hb.size; omega⟩
set_option maxHeartbeats 4000000 in
theorem concatN_core (sb n : Nat) (ns : List (List Nd)) (w : World) (h : Parts w sb ns) (hn : ns.flatten.length ≤ 1000000) (hm : n = ns.length) (hn2 : n ≤ 1000) :
    Calls Tryz.prog 117 #[.slice (some ⟨sb, 0, none⟩) n n] w (CatN w ns.flatten) := by
  have HP : Hid (Parts w sb ns ∧ n = ns.length ∧ ns.flatten.length ≤ 1000000) := ⟨h, hm, hn⟩
  clear h hm hn
  go_enter Tryz.func117, Tryz.ntmps117
  go_wp2_with fail
  go_loopw [3, 11] (fun s i wr => ∃ (k x : Nat), k ≤ n ∧ i = .int .i64 k ∧ s = .int .i64 x ∧ Hid (x = (ns.take k).flatten.length) ∧ x ≤ 1000000 ∧ Below w.heap.size w wr) (fun _ i _ => n - (intOf i).toNat)
  case atStart => exact ⟨0, 0, Nat.zero_le _, rfl, rfl, rfl, by omega, Below.refl _ _⟩
  case round =>
    obtain ⟨k, x, hk, rfl, rfl, HX, hxl, hb0⟩ := hrel
    have hs0 := hb0.size
    by_cases hlt : k < n
    · obtain ⟨y, hy⟩ : ∃ y, ns[k]? = some y := ⟨_, List.getElem?_eq_getElem (by have := HP.out.2.1; omega)⟩
      obtain ⟨b, o, c, c0, _⟩ := (HP.out.1.below hb0).at_ k y hy
      have HX2 : Hid (x + y.length = (ns.take (k + 1)).flatten.length) := by
        show _ = _
        rw [flat_take hy, List.length_append, ← HX.out]
      have hx2 : x + y.length ≤ 1000000 := by
        have h1 := HX2.out
        have h2 := flat_le ns (k + 1)
        have h3 := HP.out.2.2
        omega
      clear hy
      have zk : (k : Int) < (n : Int) := by omega
      have zz : ¬ (x : Int) + (y.length : Int) < 0 := by omega
      go_wp2_with fail
      go_roundw
      case rel => exact ⟨k + 1, x + y.length, by omega, by go_num, by go_num, HX2, hx2, hb0⟩
      case measure => simp [intOf]; omega
    · have zk : ¬ (k : Int) < (n : Int) := by omega
      go_wp2_with fail
      refine (growN_core x _ (by omega)).mono ?_
      rintro e w1 ⟨v, rfl, hO1, hb1⟩
      have HO1 : Hid (w1.ownsRow wr.heap.size 75 7 v 0 [] ∧ Below w.heap.size w w1) := ⟨hO1, hb0.trans (hb1.mono hs0)⟩
      have hs1 := hb1.size
      clear hO1 hb1
      obtain ⟨B0, hB0⟩ : ∃ B0, B0 = wr.heap.size := ⟨_, rfl⟩
      rw [← hB0] at HO1
      have hB1 : w.heap.size ≤ B0 ∧ B0 ≤ w1.heap.size := by omega
      clear hB0
      go_wp2_with fail
      go_loopw [6, 27] (fun ov i wr => ∃ (k : Nat) (v : Value), k ≤ n ∧ i = .int .i64 k ∧ ov = v ∧ Hid (wr.ownsRow B0 75 7 v ((ns.take k).flatten).length (cellsN ((ns.take k).flatten))) ∧ B0 ≤ wr.heap.size ∧ Below w.heap.size w wr) (fun _ i _ => n - (intOf i).toNat)
      case atStart => exact ⟨0, v, Nat.zero_le _, rfl, rfl, HO1.out.1, hB1.2, HO1.out.2⟩
      case round =>
        obtain ⟨v0, hv0⟩ : ∃ v0 : Value, v0 = u6 := ⟨_, rfl⟩
        subst hv0
        obtain ⟨k, v, hk, rfl, hov, HO, hBr, hb⟩ := hrel
        rw [← hov] at HO
        clear hov
        have hs := hb.size
        by_cases hlt : k < n
        · obtain ⟨y, hy⟩ : ∃ y, ns[k]? = some y := ⟨_, List.getElem?_eq_getElem (by have := HP.out.2.1; omega)⟩
          obtain ⟨b, o, c, c0, hE, _⟩ := (HP.out.1.below hb).at_ k y hy
          have HD : Hid (ns[k]? = some y ∧ NdsAt wr b o y ∧ ((ns.take k).flatten).length + y.length ≤ 2 ^ 30) := by
            refine ⟨hy, hE, ?_⟩
            have h1 := flat_le ns (k + 1)
            rw [flat_take hy, List.length_append] at h1
            have := HP.out.2.2
            omega
          clear hy hE
          have zk : (k : Int) < (n : Int) := by omega
          go_wp2_with (at_builtin; refine wpList_append_ndV _ rfl _ _ rfl B0 v0 b o y.length c ((ns.take k).flatten) y rfl rfl rfl HO.out HD.out.2.1 HD.out.2.2 ?hb ?_)
          case hb => omega
          intro v' w2 hO' hgr
          have HN : Hid (w2.ownsRow B0 75 7 v' ((ns.take (k + 1)).flatten).length (cellsN ((ns.take (k + 1)).flatten))) := by
            show World.ownsRow _ _ _ _ _ _ _
            rw [flat_take HD.out.1]
            simpa using hO'
          have hb2 : Below w.heap.size w w2 := hb.grown hgr hs (fun q hq => by have := (World.ownsRow.lt HO.out q hq).1; omega)
          have hB2 : B0 ≤ w2.heap.size := by have := hgr.size; omega
          clear hO' hgr
          go_wp2_with fail
          go_roundw
          case rel => exact ⟨k + 1, v', by omega, by go_num, rfl, HN, hB2, hb2⟩
          case measure => simp [intOf]; omega
        · have zk : ¬ (k : Int) < (n : Int) := by omega
          have HF : Hid (wr.ownsRow w.heap.size 75 7 v0 ns.flatten.length (cellsN ns.flatten)) := by
            have h1 := HO.out
            rw [List.take_of_length_le (by have := HP.out.2.1; omega)] at h1
            refine ⟨h1.1, ?_⟩
            rcases h1.2 with q | ⟨g', cap', cur, hv, h2, rest⟩
            · exact .inl q
            · exact .inr ⟨g', cap', cur, hv, by omega, rest⟩
          go_wp2_with fail
          go_ret
          exact ⟨v0, rfl, HF.out, hb⟩
end Go.Proofs.YtkidabedcgngcaaGreatDoor

