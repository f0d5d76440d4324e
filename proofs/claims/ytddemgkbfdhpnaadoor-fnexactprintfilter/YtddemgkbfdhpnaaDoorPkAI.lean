import Derived.Deep.DeepCutAuto
import Derived.Deep.RegionWith
import Derived.OwnWalk
import Derived.Test.YtddemgkbfdhpnaaDoorPkAH
import Derived.Test.YtddemgkbfdhpnaaDoorPkAA
import Derived.Test.YtddemgkbfdhpnaaDoorPkAE
/-
  impl.foldTree, walked.
-/
namespace Go.Proofs.YtddemgkbfdhpnaaDoor
open Go.ChangeShapes Go.WideShapes Go.ChangeAt Go.RowKit Go.Deep
set_option linter.unusedVariables false
set_option linter.unusedSimpArgs false
set_option maxRecDepth 100000

/-- The state with the node and its shape laid. -/
structure FoK (w : World) (xs : List Nd) (j g cp : Nat) (ss : List Shape) (SB : Nat) (y : Shape) (wr : World) : Prop where
  fo : FoJ w xs j g cp ss wr
  box : BoxAt wr w.heap.size 63 3 SB y.three
  ne : ¬ SB = g
  ge : w.heap.size + 1 ≤ SB
theorem fo_after {w : World} {xs : List Nd} {j g cp : Nat} {ss : List Shape} {W1 w' : World} (y : Shape) (h : FoJ w xs j g cp ss W1) (hb : Below W1.drew.heap.size W1.drew w') : FoK w xs j g cp ss w'.heap.size y (w'.alloc (Obj.cells #[.bool y.valid, .int .i64 y.kind, .int .i64 (y.nest : Int)] 63)) := by
  have h1 : Below W1.heap.size W1 w' := ((Below.refl W1.heap.size W1).drew).trans hb
  have h2 := h1.size
  have h3 : Below W1.heap.size W1 (w'.alloc (Obj.cells #[.bool y.valid, .int .i64 y.kind, .int .i64 (y.nest : Int)] 63)) := h1.alloc h2 _
  have h4 := h.own.lt
  have h5 := h.below.size
  have h6 := h.res.lt
  exact ⟨h.move h3, boxAt_new w' _ (by omega) rfl, by omega, by omega⟩
theorem fo_before {w : World} {xs : List Nd} {j g cp : Nat} {ss : List Shape} {W1 w' : World} (y : Shape) (h : FoJ w xs j g cp ss W1) (hb : Below (W1.drew.alloc (Obj.cells #[.bool false, .int .i64 0, .int .i64 0] 63)).heap.size (W1.drew.alloc (Obj.cells #[.bool false, .int .i64 0, .int .i64 0] 63)) w') :
    FoK w xs j g cp ss W1.heap.size y (((w'.setCell ⟨W1.heap.size, 0, none⟩ (.bool y.valid)).setCell ⟨W1.heap.size, 1, none⟩ (.int .i64 y.kind)).setCell ⟨W1.heap.size, 2, none⟩ (.int .i64 (y.nest : Int))) := by
  have hd : W1.drew.heap.size = W1.heap.size := by simp
  have h0 : Below W1.heap.size W1 (W1.drew.alloc (Obj.cells #[.bool false, .int .i64 0, .int .i64 0] 63)) := ((Below.refl W1.heap.size W1).drew).alloc (by simp) _
  have h1 : Below W1.heap.size W1 w' := h0.trans (hb.mono (by simp))
  have h4 := h.own.lt
  have h5 := h.below.size
  have h6 := h.res.lt
  have hB : BoxAt w' w.heap.size 63 3 W1.heap.size [.bool false, .int .i64 0, .int .i64 0] := by
    have := boxAt_new W1.drew (base := w.heap.size) (t := 63) (sz := 3) #[.bool false, .int .i64 0, .int .i64 0] (by simp; omega) rfl
    rw [hd] at this
    exact this.below hb
  have hJ := h.move h1
  have hC : Chg (fun k => k = W1.heap.size) w' (((w'.setCell ⟨W1.heap.size, 0, none⟩ (.bool y.valid)).setCell ⟨W1.heap.size, 1, none⟩ (.int .i64 y.kind)).setCell ⟨W1.heap.size, 2, none⟩ (.int .i64 (y.nest : Int))) :=
    ((Chg.of_set w' W1.heap.size 0 _ (S := fun k => k = W1.heap.size) rfl).trans (Chg.of_set _ W1.heap.size 1 _ (S := fun k => k = W1.heap.size) rfl)).trans (Chg.of_set _ W1.heap.size 2 _ (S := fun k => k = W1.heap.size) rfl)
  refine ⟨⟨hJ.fold, own_chg hJ.own hC (fun k q => by simp [Value.ownBlock] at q; omega), hJ.res.chg hC (by omega), ?_⟩, ((hB.set 0 _).set 1 _).set 2 _, by omega, by omega⟩
  exact below_set (below_set (below_set hJ.below (by omega) 0 _) (by omega) 1 _) (by omega) 2 _
theorem sh_new (X : World) (y : Shape) (B : Nat) (hB : X.heap.size = B) : ShsAt (X.alloc (Obj.cells #[.bool y.valid, .int .i64 y.kind, .int .i64 (y.nest : Int)] 63)) B 0 [y] := by
  subst hB
  intro i s hs
  have hi : i = 0 := by have := (List.getElem?_eq_some_iff.1 hs).1; simpa using this
  subst hi
  simp at hs
  subst hs
  exact ⟨by simp, by simp, by simp⟩
theorem fo_push {w wc X w' : World} {xs : List Nd} {j g cp g' cp' fr : Nat} {ss : List Shape} {y : Shape} (h : FoJ w xs j g cp ss wc) (hX : Below wc.heap.size wc X) (hY : foldM goodB [] (xs.take (j + 1)) = some (ss.take fr ++ [y])) (hO : OwnSh w' (w.heap.size + 1) g' cp' (ss.take fr ++ [y])) (hgr : X.grownBy w' (some g)) (hm : fr = (ss.take fr).length) : FoJ w xs (j + 1) g' cp' (ss.take fr ++ [y]) w' ∧ fr + 1 ≤ cp' := by
  have hJ := h.move hX
  have h1 := hJ.own.lt
  have hC : Chg (fun k => k = g) X w' := Chg.of_grown hgr (fun k hk => by cases hk; rfl)
  refine ⟨⟨hY, hO, hJ.res.chg hC (by omega), Chg.below hJ.below hC hJ.below.size (fun k q => by omega)⟩, ?_⟩
  have := hO.caps.1
  rw [List.length_append, List.length_singleton, ← hm] at this
  exact this
set_option maxHeartbeats 16000000 in
theorem foldTree_core {w : World} {gN cpN : Nat} {xs : List Nd} (h : NdsAt w gN 0 xs) (hg : gN < w.heap.size) (hok : ∀ e ∈ xs, e.ok) (hl : xs.length ≤ 200) :
    Calls Tryd.prog 31 #[.slice (some ⟨gN, 0, none⟩) xs.length cpN, .func (Fn.func 32) #[] #[]] w (FoldPost xs w) := by
  have HF : Hid (NdsAt w gN 0 xs ∧ ∀ e ∈ xs, e.ok) := ⟨h, hok⟩
  obtain ⟨n, hn⟩ : ∃ n, n = xs.length := ⟨_, rfl⟩
  have HL : Hid (n = xs.length) := hn
  rw [← hn] at hl ⊢
  clear h hok hn
  obtain ⟨W0, hW0⟩ : ∃ W0 : World, W0 = (w.alloc (Obj.cells #[.bool false, .int .i64 0, .int .i64 0] 63)).alloc (Obj.cells #[] 63) := ⟨_, rfl⟩
  have HW0 : Hid (FoJ w xs 0 (w.heap.size + 1) 0 [] W0) := by
    obtain ⟨V, hV⟩ : ∃ V : World, V = w.alloc (Obj.cells #[.bool false, .int .i64 0, .int .i64 0] 63) := ⟨_, rfl⟩
    have hz : V.heap.size = w.heap.size + 1 := by rw [hV]; simp
    have hb : Below V.heap.size V W0 := by rw [hW0, ← hV]; exact (Below.refl _ _).alloc (Nat.le_refl _) _
    have hbV : Below w.heap.size w V := by rw [hV]; exact (Below.refl _ _).alloc (Nat.le_refl _) _
    have hB : BoxAt V w.heap.size 63 3 w.heap.size [.bool false, .int .i64 0, .int .i64 0] := by rw [hV]; exact boxAt_new w _ (Nat.le_refl _) rfl
    refine ⟨rfl, ?_, hB.below hb, hbV.trans (hb.mono (by omega))⟩
    rw [hW0, ← hV, ← hz]
    exact ownSh_new V (Nat.le_refl _)
  go_enter Tryd.func31, Tryd.ntmps31
  go_upto_region 2 with fail
  rw [← hW0]
  clear hW0
  go_wp2_with fail
  go_loopw [6, 14] (fun sv iv wr => ∃ (j m g cp : Nat) (ss : List Shape), iv = .int .i64 (j : Int) ∧ j ≤ n ∧ m = ss.length ∧ m ≤ j ∧ m ≤ cp ∧ sv = .slice (some ⟨g, 0, none⟩) m cp ∧ FoJ w xs j g cp ss wr) (fun _ iv _ => n - (intOf iv).toNat)
  case atStart => exact ⟨0, 0, _, 0, [], rfl, Nat.zero_le _, rfl, Nat.le_refl _, Nat.zero_le _, rfl, HW0.out⟩
  case round =>
    obtain ⟨j, m, g, cp, ss, rfl, hj, hm, hmj, hmc, rfl, hJ⟩ := hrel
    have HJ : Hid (m = ss.length ∧ FoJ w xs j g cp ss wr) := ⟨hm, hJ⟩
    have hgl := hJ.own.lt
    have hcp : cp ≤ 9223372036854775807 := by have := hJ.own.caps.2; unfold maxLen at this; omega
    have hsz := hJ.below.size
    have hrl := hJ.res.lt.2
    have r0 := hJ.res.cell (j := 0) rfl
    have r1 := hJ.res.cell (j := 1) rfl
    have r2 := hJ.res.cell (j := 2) rfl
    have f0 := hJ.res.frozen 0
    have f1 := hJ.res.frozen 1
    have f2 := hJ.res.frozen 2
    clear hm hJ HW0
    by_cases hlt : j < n
    · have zj : (j : Int) < (n : Int) := by omega
      obtain ⟨e, he⟩ : ∃ e, xs[j]? = some e := ⟨_, List.getElem?_eq_getElem (by have := HL.out; omega)⟩
      obtain ⟨d0, d1, d2, d3, d4, d5, d6⟩ := (HF.out.1.below HJ.out.2.below hg) j e he
      simp only [Nat.zero_add] at d0 d1 d2 d3 d4 d5 d6
      have ok := HF.out.2 e (List.mem_of_getElem? he)
      have HE : Hid (xs[j]? = some e ∧ e.s.size ≤ maxLen ∧ e.t.size ≤ maxLen) := ⟨he, ok.s, ok.t⟩
      clear ok he
      obtain ⟨W1, hW1⟩ : ∃ W1 : World, W1 = wr.alloc (Obj.cells #[.int .i64 e.kind, .string e.s, .bool e.hi, .string e.t, .int .u64 e.lo, .int .u64 e.up, .int .i64 e.n] 53) := ⟨_, rfl⟩
      have hb1 : Below wr.heap.size wr W1 := by rw [hW1]; exact (Below.refl _ _).alloc (Nat.le_refl _) _
      have hz1 : W1.heap.size = wr.heap.size + 1 := by rw [hW1]; simp
      have HJ1 : Hid (m = ss.length ∧ FoJ w xs j g cp ss W1 ∧ BoxAt W1 w.heap.size 53 7 wr.heap.size e.seven) := by
        refine ⟨HJ.out.1, HJ.out.2.move hb1, ?_⟩
        rw [hW1]; exact boxAt_new wr _ hsz rfl
      go_upto_region 5 with fail
      rw [← hW1]
      clear hW1 d0 d1 d2 d3 d4 d5 d6 r0 r1 r2 f0 f1 f2 HJ hb1
      have c0 := HJ1.out.2.2.cell (j := 0) rfl
      have c1 := HJ1.out.2.2.cell (j := 1) rfl
      have c2 := HJ1.out.2.2.cell (j := 2) rfl
      have c3 := HJ1.out.2.2.cell (j := 3) rfl
      have c4 := HJ1.out.2.2.cell (j := 4) rfl
      have c5 := HJ1.out.2.2.cell (j := 5) rfl
      have c6 := HJ1.out.2.2.cell (j := 6) rfl
      obtain ⟨a, ha⟩ : ∃ a, a = arity e.kind := ⟨_, rfl⟩
      have ha3 : a ≤ 3 := by rw [ha]; exact arity_le _
      have HAr : Hid (Calls Tryd.prog 33 #[.int .i64 e.kind] W1 fun r w' => r = .returned (.int .i64 (a : Int)) ∧ w' = W1) := by rw [ha]; exact operandCount_core e.kind W1
      have HAk : Hid (a = arity e.kind) := ha
      clear ha
      go_wp2_with fail
      refine HAr.out.mono ?_
      rintro r w9 ⟨rfl, hw9⟩
      rw [hw9]
      clear hw9 HAr
      by_cases hfr : m < a
      · have zf : (m : Int) - (a : Int) < 0 := by omega
        have r0 := HJ1.out.2.1.res.cell (j := 0) rfl
        have r1 := HJ1.out.2.1.res.cell (j := 1) rfl
        have r2 := HJ1.out.2.1.res.cell (j := 2) rfl
        have f0 := HJ1.out.2.1.res.frozen 0
        have f1 := HJ1.out.2.1.res.frozen 1
        have f2 := HJ1.out.2.1.res.frozen 2
        have HS : Hid (foldM goodB [] xs = none) := fold_stop HJ1.out.2.1.fold HE.out.1 (by rw [← HJ1.out.1, ← HAk.out]; exact hfr)
        obtain ⟨W9, hW9⟩ : ∃ W9 : World, W9 = set3 W1 w.heap.size (.bool false) (.int .i64 0) (.int .i64 0) := ⟨_, rfl⟩
        have HW9 : Hid (BoxAt W9 w.heap.size 63 3 w.heap.size [.bool false, .int .i64 0, .int .i64 0] ∧ Below w.heap.size w W9) := by
          rw [hW9]; exact ⟨HJ1.out.2.1.res.set3 _ _ _, below_set3 HJ1.out.2.1.below (Nat.le_refl _) _ _ _⟩
        have p0 := HW9.out.1.cell (j := 0) rfl
        have p1 := HW9.out.1.cell (j := 1) rfl
        have p2 := HW9.out.1.cell (j := 2) rfl
        unfold set3 at hW9
        go_wp2_with fail
        rw [← hW9]
        refine bodyPost_ret (v := .tuple #[.agg #[.bool false, .int .i64 0, .int .i64 0], .bool false]) (by simp [results, Tryd.results31, go_sem, p0, p1, p2]) rfl ⟨HW9.out.2, .inr ⟨fun s q => (by rw [HS.out] at q; cases q), rfl⟩⟩
      · obtain ⟨fr, hfrm⟩ : ∃ fr : Nat, (m : Int) - (a : Int) = (fr : Int) := ⟨m - a, by omega⟩
        have hfrle : fr ≤ m := by omega
        have HFr : Hid (fr = ss.length - arity e.kind ∧ arity e.kind ≤ ss.length) := by
          have h1 := HJ1.out.1
          have h2 := HAk.out
          exact ⟨by omega, by omega⟩
        have zf : ¬ (fr : Int) < 0 := by omega
        have z2 : (fr : Int) ≤ (m : Int) := by omega
        have z3 : (m : Int) ≤ (cp : Int) := by omega
        obtain ⟨y, hy⟩ : ∃ y, y = shapeM goodB e (ss.drop fr) := ⟨_, rfl⟩
        have HY : Hid (foldM goodB [] (xs.take (j + 1)) = some (ss.take fr ++ [y])) := by
          show _ = _
          rw [hy, HFr.out.1]
          exact fold_next HJ1.out.2.1.fold HE.out.1 HFr.out.2
        obtain ⟨ad, had⟩ : ∃ ad : Option Addr, (if cp = fr then some (⟨g, 0, none⟩ : Addr) else some ⟨g, fr * 3, none⟩) = ad := ⟨_, rfl⟩
        have HSh : Hid (∀ X, Below W1.heap.size W1 X → Calls Tryd.prog 32 #[.agg #[.int .i64 e.kind, .string e.s, .bool e.hi, .string e.t, .int .u64 e.lo, .int .u64 e.up, .int .i64 e.n], .slice ad (m - fr) (cp - fr)] X fun r w' => r = .returned (.agg #[.bool y.valid, .int .i64 y.kind, .int .i64 (y.nest : Int)]) ∧ Below X.heap.size X w') := fun X hX => by
          have hs1 := HJ1.out.2.1.own.at.below hX HJ1.out.2.1.own.lt.2
          have hs2 := hs1.drop fr
          rw [Nat.zero_add] at hs2
          have hlen : (ss.drop fr).length = m - fr := by rw [List.length_drop, ← HJ1.out.1]
          have hX2 := hX.size
          have hg2 := HJ1.out.2.1.own.lt.2
          have hnest : ∀ x ∈ ss.drop fr, x.nest ≤ 1000 := fun x hx => by
            have h1 := fold_nest HJ1.out.2.1.fold x (List.mem_of_mem_drop hx)
            rw [List.length_take] at h1
            omega
          have hos : (ss.drop fr).length ≤ 3 := by rw [hlen]; have := HFr.out.1; have := HAk.out; have := HJ1.out.1; omega
          rw [hy, ← had]
          by_cases hcf : cp = fr
          · rw [if_pos hcf]
            have hnil : ss.drop fr = [] := List.length_eq_zero_iff.1 (by rw [hlen]; omega)
            have h9 := shapeOf_core (w := X) (b := g) (o := 0) (cap := cp - fr) (os := ss.drop fr) e (by rw [hnil]; intro i s hs; simp at hs) (by omega) (by rw [hlen]; omega) hos (by omega) hnest HE.out.2.1 HE.out.2.2
            rw [hlen] at h9
            exact h9
          · rw [if_neg hcf]
            have h9 := shapeOf_core (w := X) (b := g) (o := fr * 3) (cap := cp - fr) (os := ss.drop fr) e hs2 (by omega) (by rw [hlen]; omega) hos (by omega) hnest HE.out.2.1 HE.out.2.2
            rw [hlen] at h9
            exact h9
        clear hy hfr
        go_upto_region 8 with fail
        go_cut [10] (fun sv wx => ∃ SB, sv = .pointer (some ⟨SB, 0, none⟩) ∧ FoK w xs j g cp ss SB y wx)
        case first =>
          go_region_law ((go_simp; go_at_call 32; refine (HSh.out _ ?hX).mono ?_; (case hX => (repeat (first | exact Below.refl _ _ | refine Below.drew ?_ | refine Below.alloc ?_ (by simp) _))); rintro r w' ⟨rfl, hbb⟩; obtain ⟨hcc, hff⟩ := bcell hbb; have hsz' := hbb.size))
          all_goals go_wp2_with fail
          all_goals go_meet
          all_goals first
            | exact ⟨_, rfl, fo_after y HJ1.out.2.1 hbb⟩
            | exact ⟨_, rfl, by have h9 := fo_before y HJ1.out.2.1 hbb; rw [hz1] at h9; exact h9⟩
        case rest =>
        obtain ⟨SB, rfl, hK⟩ := hcut
        have HK : Hid (FoK w xs j g cp ss SB y wc) := hK
        have b0 := hK.box.cell (j := 0) rfl
        have b1 := hK.box.cell (j := 1) rfl
        have b2 := hK.box.cell (j := 2) rfl
        have hgl2 := hK.fo.own.lt
        have hsb := hK.box.lt.2
        have hnsb := hK.ne
        have hsz2 := hK.fo.below.size
        have HM : Hid (fr = (ss.take fr).length) := by
          show fr = _
          rw [List.length_take, ← HJ1.out.1]
          omega
        clear hK c0 c1 c2 c3 c4 c5 c6 HSh
        go_upto_region 9 with fail
        have hfl : fr ≤ ss.length := by rw [← HJ1.out.1]; exact hfrle
        have z4 : (fr : Int) ≤ (cp : Int) := by omega
        have z5 : fr ≤ cp := by omega
        go_region_law ((refine step_append_shape _ (by rfl) _ _ (by rfl) (w.heap.size + 1) fr g cp wc.heap.size (ss.take fr) y HM.out (by rfl) (by rfl) ?hO ?hc ?hl ?hb ?_
                        case hO => (refine OwnSh.below (HK.out.fo.own.take hfl) ?_; repeat (first | exact Below.refl _ _ | refine Below.drew ?_ | refine Below.alloc ?_ (by simp) _))
                        case hc => exact sh_new _ y _ (by simp)
                        case hl => rw [← HM.out]; omega
                        case hb => simp; omega
                        intro g' cp' w' hO' hgr' hat'
                        have fin : Hid (FoJ w xs (j + 1) g' cp' (ss.take fr ++ [y]) w' ∧ fr + 1 ≤ cp') := fo_push HK.out.fo (by repeat (first | exact Below.refl _ _ | refine Below.drew ?_ | refine Below.alloc ?_ (by simp) _)) HY.out hO' hgr' HM.out
                        clear hO' hgr' hat'))
        all_goals go_wp2_with fail
        all_goals go_roundw
        all_goals first
          | exact ⟨j + 1, fr + 1, g', cp', ss.take fr ++ [y], by go_num, by omega, by rw [List.length_append, List.length_singleton, ← HM.out], by omega, fin.out.2, rfl, fin.out.1⟩
          | (simp [intOf]; omega)
    · have zj : ¬ (j : Int) < (n : Int) := by omega
      have HFo : Hid (foldM goodB [] xs = some ss) := by
        have h1 := HJ.out.2.fold
        rw [List.take_of_length_le (by have := HL.out; omega)] at h1
        exact h1
      by_cases hm1 : m = 1
      · subst hm1
        obtain ⟨s, rfl⟩ : ∃ s, ss = [s] := by
          have h1 := HJ.out.1
          match ss, h1 with
          | [s], _ => exact ⟨s, rfl⟩
        obtain ⟨e0, e1, e2⟩ := HJ.out.2.own.at 0 s rfl
        simp only [Nat.zero_add, Nat.zero_mul] at e0 e1 e2
        obtain ⟨W9, hW9⟩ : ∃ W9 : World, W9 = set3 wr w.heap.size (.bool s.valid) (.int .i64 s.kind) (.int .i64 (s.nest : Int)) := ⟨_, rfl⟩
        have HW9 : Hid (BoxAt W9 w.heap.size 63 3 w.heap.size [.bool s.valid, .int .i64 s.kind, .int .i64 (s.nest : Int)] ∧ Below w.heap.size w W9) := by
          rw [hW9]; exact ⟨HJ.out.2.res.set3 _ _ _, below_set3 HJ.out.2.below (Nat.le_refl _) _ _ _⟩
        have p0 := HW9.out.1.cell (j := 0) rfl
        have p1 := HW9.out.1.cell (j := 1) rfl
        have p2 := HW9.out.1.cell (j := 2) rfl
        unfold set3 at hW9
        go_wp2_with fail
        rw [← hW9]
        refine bodyPost_ret (v := .tuple #[.agg #[.bool s.valid, .int .i64 s.kind, .int .i64 (s.nest : Int)], .bool true]) (by simp [results, Tryd.results31, go_sem, p0, p1, p2]) rfl ⟨HW9.out.2, .inl ⟨s, HFo.out, rfl⟩⟩
      · have zm : ((m : Int) != 1) = true := by have : ¬ (m : Int) = 1 := (by omega); simpa using this
        obtain ⟨W9, hW9⟩ : ∃ W9 : World, W9 = set3 wr w.heap.size (.bool false) (.int .i64 0) (.int .i64 0) := ⟨_, rfl⟩
        have HW9 : Hid (BoxAt W9 w.heap.size 63 3 w.heap.size [.bool false, .int .i64 0, .int .i64 0] ∧ Below w.heap.size w W9) := by
          rw [hW9]; exact ⟨HJ.out.2.res.set3 _ _ _, below_set3 HJ.out.2.below (Nat.le_refl _) _ _ _⟩
        have p0 := HW9.out.1.cell (j := 0) rfl
        have p1 := HW9.out.1.cell (j := 1) rfl
        have p2 := HW9.out.1.cell (j := 2) rfl
        unfold set3 at hW9
        go_wp2_with fail
        rw [← hW9]
        refine bodyPost_ret (v := .tuple #[.agg #[.bool false, .int .i64 0, .int .i64 0], .bool false]) (by simp [results, Tryd.results31, go_sem, p0, p1, p2]) rfl ⟨HW9.out.2, .inr ⟨fun s q => ?_, rfl⟩⟩
        rw [HFo.out] at q
        have h1 := HJ.out.1
        rw [Option.some.inj q] at h1
        exact hm1 h1
end Go.Proofs.YtddemgkbfdhpnaaDoor

/-
  impl.ValidFilter.
-/
namespace Go.Proofs.YtddemgkbfdhpnaaDoor
open Go.ChangeShapes Go.WideShapes Go.ChangeAt Go.RowKit Go.Deep
set_option linter.unusedVariables false
set_option linter.unusedSimpArgs false
set_option maxRecDepth 100000

set_option maxHeartbeats 4000000 in
theorem implFilter_core {w : World} {base g cp : Nat} {xs : List Nd} (h : OwnNd w base g cp xs) (hok : ∀ e ∈ xs, e.ok) : Calls Tryd.prog 17 #[.agg #[.slice (some ⟨g, 0, none⟩) xs.length cp]] w (FltPost xs w) := by
  have HO : Hid (OwnNd w base g cp xs ∧ ∀ e ∈ xs, e.ok) := ⟨h, hok⟩
  have hg := h.lt.2
  obtain ⟨n, hn⟩ : ∃ n, n = xs.length := ⟨_, rfl⟩
  have HN : Hid (n = xs.length) := hn
  have hcp := h.caps
  rw [← hn] at hcp ⊢
  unfold maxLen at hcp
  clear h hok hn
  obtain ⟨W0, hW0⟩ : ∃ W0 : World, W0 = w.alloc (Obj.cells #[.slice (some ⟨g, 0, none⟩) n cp] 30) := ⟨_, rfl⟩
  have HW0 : Hid (BoxAt W0 w.heap.size 30 1 w.heap.size [.slice (some ⟨g, 0, none⟩) n cp] ∧ Below w.heap.size w W0) := by
    rw [hW0]; exact ⟨boxAt_new w _ (Nat.le_refl _) rfl, (Below.refl _ _).alloc (Nat.le_refl _) _⟩
  have c0 := HW0.out.1.cell (j := 0) rfl
  have s0 := HW0.out.2.size
  go_enter Tryd.func17, Tryd.ntmps17
  go_upto_region 1 with fail
  rw [← hW0]
  clear hW0
  by_cases hbig : 200 < n
  · have zb : (200 : Int) < (n : Int) := by omega
    have HF : Hid (¬ GoodF xs) := fun q => by have := q.1; have := HN.out; omega
    go_wp2_with fail
    go_ret
    exact ⟨_, rfl, by simp [HF.out], HW0.out.2⟩
  have zb : ¬ (200 : Int) < (n : Int) := by omega
  have HC : Hid (Calls Tryd.prog 31 #[.slice (some ⟨g, 0, none⟩) n cp, .func (Fn.func 32) #[] #[]] W0 (FoldPost xs W0)) := by
    have hl : xs.length ≤ 200 := by rw [← HN.out]; omega
    have := foldTree_core (w := W0) (gN := g) (cpN := cp) (HO.out.1.at.below HW0.out.2 hg) (by omega) HO.out.2 hl
    rw [← HN.out] at this
    exact this
  go_wp2_with fail
  refine HC.out.mono ?_
  rintro r w2 ⟨hb2, (⟨s, hs, rfl⟩ | ⟨hs, rfl⟩)⟩
  · have HF : Hid (GoodF xs ↔ (s.valid = true ∧ s.nest ≤ 20)) := by
      show GoodF xs ↔ _
      have hsh := fold_tree goodB hs
      constructor
      · rintro ⟨_, t, ht, hv, hn⟩
        rw [sh_one hsh ht]; exact ⟨hv, hn⟩
      · rintro ⟨hv, hn⟩
        exact ⟨by have := HN.out; omega, s, hsh, hv, hn⟩
    have HB : Hid (Below w.heap.size w w2) := HW0.out.2.trans (hb2.mono s0)
    obtain ⟨v, hv⟩ : ∃ v, v = s.valid := ⟨_, rfl⟩
    obtain ⟨k, hk⟩ : ∃ k, k = s.nest := ⟨_, rfl⟩
    obtain ⟨kd, hkd⟩ : ∃ kd, kd = s.kind := ⟨_, rfl⟩
    rw [← hv, ← hk] at HF
    rw [← hv, ← hk, ← hkd]
    clear hs hb2 c0 HC hv hk hkd
    cases v
    · go_wp2_with fail
      go_ret
      exact ⟨_, rfl, by rw [HF.out]; simp, HB.out.trans ((Below.refl _ _).alloc HB.out.size _)⟩
    · go_wp2_with fail
      go_ret
      exact ⟨_, rfl, by rw [HF.out]; simp <;> omega, HB.out.trans ((Below.refl _ _).alloc HB.out.size _)⟩
  · have HF : Hid (¬ GoodF xs) := fun q => by
      obtain ⟨_, s, hsh, _⟩ := q
      have := ShT.fold goodB hsh []
      exact hs s (by simpa using this)
    have HB : Hid (Below w.heap.size w w2) := HW0.out.2.trans (hb2.mono s0)
    clear hs hb2 c0 HC
    go_wp2_with fail
    go_ret
    exact ⟨_, rfl, by simp [HF.out], HB.out.trans ((Below.refl _ _).alloc HB.out.size _)⟩
end Go.Proofs.YtddemgkbfdhpnaaDoor

/-
  The marks, looked for.
-/
namespace Go.Proofs.YtddemgkbfdhpnaaDoor
open Go.ChangeShapes Go.WideShapes Go.ChangeAt Go.RowKit Go.Deep
set_option linter.unusedVariables false

theorem markText_in (W0 : World) (a : Int) (w : World) (hb : Below W0.heap.size W0 w) (h0 : 0 < a) (h1 : a ≤ 2 ^ 40) :
    Calls Tryd.prog 38 #[.int .i64 a] w fun e w' => e = .returned (.string (mText a.toNat)) ∧ Below W0.heap.size W0 w' := by
  refine (markText_any a w h0 h1).mono ?_
  rintro e w' ⟨he, hb'⟩
  exact ⟨he, hb.trans (hb'.mono hb.size)⟩

end Go.Proofs.YtddemgkbfdhpnaaDoor

/-
  Nodes with marks: markNodeS, heldNodeS, markFilter, heldFilter.
-/
namespace Go.Proofs.YtddemgkbfdhpnaaDoor
open Go.ChangeShapes Go.WideShapes Go.ChangeAt Go.RowKit Go.Deep
set_option linter.unusedVariables false
set_option linter.unusedSimpArgs false
set_option maxRecDepth 100000

/-- Whether a third mark. -/
def thirdB (k : Int) : Bool := k % 3 == 0
/-- The node that the marks from 'k' on make. -/
def mNd (k : Int) : Nd := ⟨k, mText (k + 1).toNat, thirdB (k + 1 + 1), mText (k + 1 + 1 + 1).toNat, k + 1 + 1 + 1 + 1, k + 1 + 1 + 1 + 1 + 1, k + 1 + 1 + 1 + 1 + 1 + 1⟩
/-- The first 'i' of the nodes are marked, from 'k' on. -/
def markedN (k : Int) (es : List Nd) (i : Nat) : Prop := ∀ j : Nat, j < i → es[j]? = some (mNd (k + j * 7))
theorem OwnNd.upd {w : World} {base g cap m j : Nat} {fs : List Nd} {f f' : Nd} {u : Value} (h : OwnNd w base g cap (fs.set m f)) (hm : m < fs.length) (hj : j < 7) (hc : f'.seven = f.seven.set j u) :
    OwnNd (w.setCell ⟨g, m * 7 + j, none⟩ u) base g cap (fs.set m f') := by
  have := h.set m j f f' u (by simp [hm]) hj hc
  rwa [List.set_set] at this
theorem markedN_set {k : Int} {fs : List Nd} {m : Nat} (h : markedN k fs m) (hm : m < fs.length) : markedN k (fs.set m (mNd (k + m * 7))) (m + 1) := by
  intro j hj
  by_cases e : j = m
  · subst e; simp [hm]
  · rw [List.getElem?_set_ne (by omega)]; exact h j (by omega)
set_option maxHeartbeats 2000000 in
theorem markNodeS_core (base g cap : Nat) (es : List Nd) (k : Int) (w : World) (hO : OwnNd w base g cap es) (h0 : 0 < k) (h1 : k ≤ 2 ^ 30) (hn : es.length ≤ 1048576) :
    Calls Tryd.prog 21 #[.slice (some ⟨g, 0, none⟩) es.length cap, .int .i64 k] w fun e w' =>
      ∃ fs, e = .returned (.int .i64 (k + es.length * 7)) ∧ OwnNd w' base g cap fs ∧ fs.length = es.length ∧ markedN k fs es.length ∧ w.grownBy w' (some g) := by
  have HO : Hid (OwnNd w base g cap es) := hO
  clear hO
  go_enter Tryd.func21, Tryd.ntmps21
  go_wp2
  go_loopw [1, 5] (fun c i wr => ∃ (m : Nat) (a : Int) (fs : List Nd), m ≤ es.length ∧ i = .int .i64 m ∧ c = .int .i64 a ∧ a = k + m * 7 ∧ OwnNd wr base g cap fs ∧ fs.length = es.length ∧ markedN k fs m ∧ w.grownBy wr (some g)) (fun _ i _ => es.length - (intOf i).toNat)
  case atStart => exact ⟨0, k, es, Nat.zero_le _, rfl, rfl, by simp, HO.out, rfl, fun j hj => by omega, grown_of_below (Below.refl _ _) _⟩
  case round =>
    obtain ⟨m, a, fs, hm, rfl, rfl, ha, hO, hfl, hmk, hgr⟩ := hrel
    have HR : Hid (a = k + m * 7 ∧ OwnNd wr base g cap fs ∧ fs.length = es.length ∧ markedN k fs m) := ⟨ha, hO, hfl, hmk⟩
    have ha0 : 0 < a := by omega
    have ha1 : a ≤ 2 ^ 31 := by omega
    have HG : Hid (w.grownBy wr (some g)) := hgr
    clear hO hfl hmk ha hgr
    by_cases hlt : m < es.length
    · obtain ⟨f, hf⟩ : ∃ f, fs[m]? = some f := ⟨_, List.getElem?_eq_getElem (by rw [HR.out.2.2.1]; exact hlt)⟩
      have HF : Hid (fs[m]? = some f ∧ m < fs.length) := ⟨hf, by rw [HR.out.2.2.1]; exact hlt⟩
      clear hf
      have c0 := (HR.out.2.1.at m f HF.out.1).1
      simp only [Nat.zero_add] at c0
      have z0 := fun j => World.ownsRow.frozenAt HR.out.2.1 j
      have H0 : Hid (OwnNd (wr.setCell ⟨g, m * 7, none⟩ (.int .i64 a)) base g cap (fs.set m { f with kind := a }) ∧ w.grownBy (wr.setCell ⟨g, m * 7, none⟩ (.int .i64 a)) (some g)) :=
        ⟨HR.out.2.1.set m 0 f { f with kind := a } (.int .i64 a) HF.out.1 (by omega) rfl, HG.out.trans (grown_set _ _ _ _)⟩
      go_wp2_with fail
      refine (markText_any (a + 1) _ (by omega) (by omega)).mono ?_
      rintro e w1 ⟨rfl, hb1⟩
      have hO1 := H0.out.1.below hb1 H0.out.1.lt.2
      obtain ⟨_, c1, c2, _⟩ := hO1.at m _ (by simp [HF.out.2]; rfl)
      simp only [Nat.zero_add] at c1 c2
      have z1 := fun j => World.ownsRow.frozenAt hO1 j
      have hO2 := (hO1.upd (j := 1) (u := .string (mText (a + 1).toNat)) (f' := { f with kind := a, s := mText (a + 1).toNat }) HF.out.2 (by omega) rfl).upd (j := 2) (u := .bool ((a + 1 + 1) % 3 == 0)) (f' := { f with kind := a, s := mText (a + 1).toNat, hi := ((a + 1 + 1) % 3 == 0) }) HF.out.2 (by omega) rfl
      have H1 : Hid (OwnNd ((w1.setCell ⟨g, m * 7 + 1, none⟩ (.string (mText (a + 1).toNat))).setCell ⟨g, m * 7 + 2, none⟩ (.bool ((a + 1 + 1) % 3 == 0))) base g cap (fs.set m { f with kind := a, s := mText (a + 1).toNat, hi := ((a + 1 + 1) % 3 == 0) }) ∧ w.grownBy ((w1.setCell ⟨g, m * 7 + 1, none⟩ (.string (mText (a + 1).toNat))).setCell ⟨g, m * 7 + 2, none⟩ (.bool ((a + 1 + 1) % 3 == 0))) (some g)) :=
        ⟨hO2, ((H0.out.2.trans (grown_of_below hb1 _)).trans (grown_set _ _ _ _)).trans (grown_set _ _ _ _)⟩
      clear hO1 hO2 hb1 c0 z0
      go_wp2_with fail
      refine (markText_any (a + 1 + 1 + 1) _ (by omega) (by omega)).mono ?_
      rintro e w2 ⟨rfl, hb2⟩
      have hO3 := H1.out.1.below hb2 H1.out.1.lt.2
      obtain ⟨_, _, _, c3, c4, c5, c6⟩ := hO3.at m _ (by simp [HF.out.2]; rfl)
      simp only [Nat.zero_add] at c3 c4 c5 c6
      have z3 := fun j => World.ownsRow.frozenAt hO3 j
      have hO4 := (((hO3.upd (j := 3) (u := .string (mText (a + 1 + 1 + 1).toNat)) (f' := { f with kind := a, s := mText (a + 1).toNat, hi := ((a + 1 + 1) % 3 == 0), t := mText (a + 1 + 1 + 1).toNat }) HF.out.2 (by omega) rfl).upd (j := 4) (u := .int .u64 (a + 1 + 1 + 1 + 1))
        (f' := { f with kind := a, s := mText (a + 1).toNat, hi := ((a + 1 + 1) % 3 == 0), t := mText (a + 1 + 1 + 1).toNat, lo := a + 1 + 1 + 1 + 1 }) HF.out.2 (by omega) rfl).upd (j := 5) (u := .int .u64 (a + 1 + 1 + 1 + 1 + 1))
        (f' := { f with kind := a, s := mText (a + 1).toNat, hi := ((a + 1 + 1) % 3 == 0), t := mText (a + 1 + 1 + 1).toNat, lo := a + 1 + 1 + 1 + 1, up := a + 1 + 1 + 1 + 1 + 1 }) HF.out.2 (by omega) rfl).upd (j := 6) (u := .int .i64 (a + 1 + 1 + 1 + 1 + 1 + 1)) (f' := mNd a) HF.out.2 (by omega) rfl
      have hG4 := ((((H1.out.2.trans (grown_of_below hb2 _)).trans (grown_set w2 g (m * 7 + 3) (.string (mText (a + 1 + 1 + 1).toNat)))).trans (grown_set _ g (m * 7 + 4) (.int .u64 (a + 1 + 1 + 1 + 1)))).trans (grown_set _ g (m * 7 + 5) (.int .u64 (a + 1 + 1 + 1 + 1 + 1)))).trans (grown_set _ g (m * 7 + 6) (.int .i64 (a + 1 + 1 + 1 + 1 + 1 + 1)))
      have H4 : Hid (_ ∧ _) := ⟨hO4, hG4⟩
      have HE : Hid (a = k + m * 7) := HR.out.1
      clear hO3 hO4 hG4 hb2 c1 c2 z1
      go_wp2_with fail
      refine ⟨⟨m + 1, a + 1 + 1 + 1 + 1 + 1 + 1 + 1, fs.set m (mNd a), by omega, by go_num, rfl, ?_, H4.out.1, by rw [List.length_set]; exact HR.out.2.2.1, ?_, H4.out.2⟩, ?_⟩
      · go_light
        have := HE.out
        omega
      · go_light
        have := markedN_set HR.out.2.2.2 HF.out.2
        rw [← HE.out] at this
        exact this
      · go_light
        simp [intOf]; omega
    · go_wp2_with fail
      go_ret
      have e1 : m = es.length := by omega
      refine ⟨fs, ?_, HR.out.2.1, HR.out.2.2.1, ?_, HG.out⟩
      · rw [HR.out.1, e1]; rfl
      · rw [← e1]; exact HR.out.2.2.2
/-- A slice of the call's own, or nil. -/
def OwnUN (w : World) (base : Nat) (u : Value) (R : List Nd) : Prop := (u = .slice none 0 0 ∧ R = []) ∨ ∃ g cp, u = .slice (some ⟨g, 0, none⟩) R.length cp ∧ OwnNd w base g cp R
theorem OwnUN.ins {w : World} {base : Nat} {u : Value} {R : List Nd} (h : OwnUN w base u R) : InNds w u R := by
  rcases h with ⟨rfl, rfl⟩ | ⟨g, cp, rfl, hO⟩
  · exact .inl ⟨_, _, rfl, rfl⟩
  · exact InNds.own hO rfl
theorem OwnUN.row {w : World} {base : Nat} {u : Value} {R : List Nd} (h : OwnUN w base u R) : ∀ g, u.ownBlock = some g → base ≤ g ∧ g < w.heap.size := by
  intro g hg
  rcases h with ⟨rfl, _⟩ | ⟨g', cp, rfl, hO⟩
  · cases hg
  · have : g' = g := Option.some.inj hg
    subst this
    exact hO.lt
theorem OwnUN.keptNe {w w' : World} {base : Nat} {u : Value} {R : List Nd} {row : Option Nat} (h : OwnUN w base u R) (hg : w.grownBy w' row) (hne : ∀ g, u.ownBlock = some g → row ≠ some g) : OwnUN w' base u R := by
  rcases h with h | ⟨g, cp, rfl, hO⟩
  · exact .inl h
  · exact .inr ⟨g, cp, rfl, World.ownsRow.kept hO hg (.inr (fun q => hne g rfl q.symm))⟩
theorem OwnUN.below {w w' : World} {base : Nat} {u : Value} {R : List Nd} (h : OwnUN w base u R) (hb : Below w.heap.size w w') : OwnUN w' base u R := h.keptNe (grown_of_below hb none) (fun g q z => by cases z)
theorem OwnUN.ownCells {w : World} {base : Nat} {u : Value} {R : List Nd} (h : OwnUN w base u R) : u.cells = #[u] := by
  rcases h with ⟨rfl, _⟩ | ⟨g, cp, rfl, _⟩ <;> rfl
set_option maxHeartbeats 400000 in
theorem markNodeS_zero (a : Option Addr) (cap : Nat) (k : Int) (w : World) :
    Calls Tryd.prog 21 #[.slice a 0 cap, .int .i64 k] w fun e w' => e = .returned (.int .i64 k) ∧ Below w.heap.size w w' := by
  go_enter Tryd.func21, Tryd.ntmps21
  go_wp2
  go_loopw [1, 5] (fun c i wr => c = .int .i64 k ∧ i = .int .i64 0 ∧ wr = w) (fun _ i _ => 0)
  case atStart => exact ⟨rfl, rfl, rfl⟩
  case round =>
    obtain ⟨rfl, rfl, rfl⟩ := hrel
    go_wp2_with fail
    go_ret
    exact ⟨rfl, Below.refl _ _⟩
theorem markNodeS_own (base : Nat) (u : Value) (R : List Nd) (k : Int) (w : World) (h : OwnUN w base u R) (h0 : 0 < k) (h1 : k ≤ 2 ^ 30) (hn : R.length ≤ 1048576) :
    Calls Tryd.prog 21 #[u, .int .i64 k] w fun e w' =>
      ∃ R', e = .returned (.int .i64 (k + R.length * 7)) ∧ OwnUN w' base u R' ∧ R'.length = R.length ∧ markedN k R' R'.length ∧ w.grownBy w' u.ownBlock := by
  rcases h with ⟨rfl, rfl⟩ | ⟨g, cp, rfl, hO⟩
  · refine (markNodeS_zero none 0 k w).mono ?_
    rintro e w' ⟨rfl, hb⟩
    exact ⟨[], by simp, .inl ⟨rfl, rfl⟩, rfl, fun j hj => by simp at hj, grown_of_below hb _⟩
  · refine (markNodeS_core base g cp R k w hO h0 h1 hn).mono ?_
    rintro e w' ⟨fs, rfl, hO', hl, hm, hg⟩
    exact ⟨fs, rfl, .inr ⟨g, cp, by rw [hl], hO'⟩, hl, by rw [hl]; exact hm, hg⟩
set_option maxHeartbeats 400000 in
theorem markFilter_own (base : Nat) (u : Value) (R : List Nd) (k : Int) (w : World) (h : OwnUN w base u R) (h0 : 0 < k) (h1 : k ≤ 2 ^ 30) (hn : R.length ≤ 1048576) :
    Calls Tryd.prog 10 #[.agg #[u], .int .i64 k] w fun e w' =>
      ∃ R', e = .returned (.int .i64 (k + R.length * 7)) ∧ OwnUN w' base u R' ∧ R'.length = R.length ∧ markedN k R' R'.length ∧ w.grownBy w' u.ownBlock := by
  have hu := h.ownCells
  have hb0 : Below w.heap.size w (w.alloc (Obj.cells #[u] 30)) := (Below.refl _ _).alloc (Nat.le_refl _) _
  have HU : Hid (OwnUN (w.alloc (Obj.cells #[u] 30)) base u R) := h.below hb0
  clear h
  go_enter Tryd.func10, Tryd.ntmps10
  go_wp2_with fail
  refine (markNodeS_own base u R k _ HU.out h0 h1 hn).mono ?_
  rintro e w1 ⟨R', rfl, hU', hl, hm, hb1⟩
  have HF : Hid (OwnUN w1 base u R' ∧ R'.length = R.length ∧ markedN k R' R'.length) := ⟨hU', hl, hm⟩
  clear hU' hl hm
  go_wp2_with fail
  go_ret
  exact ⟨R', rfl, HF.out.1, HF.out.2.1, HF.out.2.2, (grown_of_below hb0 _).trans hb1⟩
end Go.Proofs.YtddemgkbfdhpnaaDoor

/-
  A run that came back: of the call's own, or nil; its marks.
-/
namespace Go.Proofs.YtddemgkbfdhpnaaDoor
open Go.ChangeShapes Go.WideShapes Go.ChangeAt Go.RowKit Go.Deep
set_option linter.unusedVariables false
set_option maxRecDepth 100000

end Go.Proofs.YtddemgkbfdhpnaaDoor

/-
  laws.toByteS, laws.eqByteS.
-/
namespace Go.Proofs.YtddemgkbfdhpnaaDoor
open Go.ChangeShapes Go.WideShapes Go.ChangeAt Go.RowKit Go.Deep
set_option linter.unusedVariables false
set_option linter.unusedSimpArgs false
set_option maxRecDepth 100000

theorem OwnY.set {w : World} {base g cp : Nat} {xs : List UInt8} (h : OwnY w base g cp xs) (k : Nat) (x : UInt8) : OwnY (w.setCell ⟨g, k, none⟩ (ub x)) base g cp (xs.set k x) := by
  have := (World.ownsRow.stored h k (ub x)).1
  unfold OwnY
  rw [List.length_set, List.map_set]
  exact this
set_option maxHeartbeats 1000000 in
theorem eqByteS_same (b off cap b' off' cap' : Nat) (xs : List UInt8) (w : World) (h : BysAt w b off xs) (h' : BysAt w b' off' xs) (hb : b < w.heap.size) (hb' : b' < w.heap.size) (hlen : xs.length ≤ maxLen) :
    Calls Tryd.prog 8 #[.slice (some ⟨b, off, none⟩) xs.length cap, .slice (some ⟨b', off', none⟩) xs.length cap'] w fun e w' => e = .returned (.bool true) ∧ Below w.heap.size w w' := by
  have HE : Hid (BysAt w b off xs ∧ BysAt w b' off' xs) := ⟨h, h'⟩
  clear h h'
  unfold maxLen at hlen
  go_enter Tryd.func8, Tryd.ntmps8
  go_wp2_with fail
  go_loopw [5] (fun i wr => ∃ (k : Nat), k ≤ xs.length ∧ i = .int .i64 k ∧ Below w.heap.size w wr) (fun i _ => xs.length - (intOf i).toNat)
  case atStart => exact ⟨0, Nat.zero_le _, rfl, Below.refl _ _⟩
  case round =>
    obtain ⟨k, hk, rfl, hbr⟩ := hrel
    by_cases hlt : k < xs.length
    · obtain ⟨x, hx⟩ : ∃ x, xs[k]? = some x := ⟨_, List.getElem?_eq_getElem hlt⟩
      have c0 := (HE.out.1.below hbr hb) k x hx
      have c1 := (HE.out.2.below hbr hb') k x hx
      have z : (k : Int) < (xs.length : Int) := by omega
      clear hx
      go_upto_region 6 with fail
      go_cut [25] (fun s wx => s = .bool false ∧ Below w.heap.size w wx)
      case first =>
        go_region
        all_goals go_wp2_with fail
        all_goals go_meet
        all_goals exact ⟨by simp, hbr.drew⟩
      case rest =>
      obtain ⟨rfl, h3⟩ := hcut
      clear c0 c1
      go_wp2_with fail
      go_roundw
      case rel => exact ⟨k + 1, by omega, by go_num, h3⟩
      case measure => simp [intOf]; omega
    · have z : ¬ (k : Int) < (xs.length : Int) := by omega
      go_wp2_with fail
      go_ret
      exact ⟨rfl, hbr⟩

theorem made_zeroY (n : Nat) : (madeCells #[.int .u8 0] n).toList = (List.replicate n (0 : UInt8)).map ub := by
  apply List.ext_getElem?
  intro j
  by_cases hj : j < n
  · rw [List.getElem?_map, List.getElem?_replicate, if_pos hj]
    simp [madeCells, hj, Nat.mod_one]
  · rw [List.getElem?_map, List.getElem?_replicate, if_neg hj]
    simp [madeCells, hj]
end Go.Proofs.YtddemgkbfdhpnaaDoor

/-
  A text of bytes that comes in, opened.
-/
namespace Go.Proofs.YtddemgkbfdhpnaaDoor
open Go.ChangeShapes Go.WideShapes Go.ChangeAt Go.RowKit Go.Deep
set_option linter.unusedVariables false
set_option linter.unusedSimpArgs false
set_option maxRecDepth 100000

def BysIn (w : World) (v : Value) (xs : List UInt8) : Prop :=
  xs.length ≤ maxLen ∧ ((xs = [] ∧ ∃ a cap, v = .slice a 0 cap) ∨ ∃ b off cap, v = .slice (some ⟨b, off, none⟩) xs.length cap ∧ b < w.heap.size ∧ BysAt w b off xs)
theorem BysIn.slice {w : World} {v : Value} {xs : List UInt8} (h : BysIn w v xs) : ∃ a cap, v = .slice a xs.length cap := by
  rcases h.2 with ⟨rfl, a, cap, rfl⟩ | ⟨b, off, cap, rfl, _⟩
  · exact ⟨_, _, rfl⟩
  · exact ⟨_, _, rfl⟩
theorem BysIn.below {w w' : World} {v : Value} {xs : List UInt8} (h : BysIn w v xs) (hb : Below w.heap.size w w') : BysIn w' v xs := by
  refine ⟨h.1, ?_⟩
  rcases h.2 with k | ⟨b, off, cap, hv, hlt, hA⟩
  · exact .inl k
  · exact .inr ⟨b, off, cap, hv, Nat.lt_of_lt_of_le hlt hb.size, hA.below hb hlt⟩
theorem bysIn_of_trod {H : Type} {enc : TypeId × Value → H} {w : World} {fuel : Nat} {v : Value} {x : DataW H × List MemPlace}
    (h : DataW.trod enc Tryd.prog w 0 (fun _ => true) true fuel 26 [v] = some x) (hlt : ∀ p ∈ x.2, p.block < w.heap.size) : ∃ xs, BysIn w v xs := by
  have hc : Tryd.prog.cellsOf 5 = 1 := by kernel_rfl
  rcases open_ints Tryd.underlying26 Tryd.underlying5 hc h with ⟨hcs, hx⟩ | ⟨a, len, cap, zs, hcs, _, hl, hm, hz, hx, hcell, hwz⟩
  · simp only [List.cons.injEq, and_true] at hcs
    exact ⟨[], Nat.zero_le _, .inl ⟨rfl, none, 0, hcs⟩⟩
  · simp only [List.cons.injEq, and_true] at hcs
    simp only [if_true] at hz
    by_cases h0 : len = 0
    · subst h0; exact ⟨[], Nat.zero_le _, .inl ⟨rfl, some a, cap, hcs⟩⟩
    · obtain ⟨ab, ao, spot⟩ := a
      have hspot : spot = none := by simpa [Addr.add] using World.cell?_spot (hcell 0 (by omega))
      subst hspot
      have hlen : ((zs.take len).map fun z => UInt8.ofNat z.toNat).length = len := by
        rw [List.length_map, List.length_take]; omega
      refine ⟨(zs.take len).map fun z => UInt8.ofNat z.toNat, by rw [hlen]; omega, .inr ⟨ab, ao, cap, by rw [hlen]; exact hcs, ?_, ?_⟩⟩
      · rw [hx] at hlt
        exact hlt (.cell ab (ao + 0)) (by simp only [MemPlace.row, List.mem_map, List.mem_range]; exact ⟨0, by omega, rfl⟩)
      · intro k y hy
        have hk : k < len := by
          have := (List.getElem?_eq_some_iff.1 hy).1
          rw [hlen] at this
          exact this
        have h1 := hcell k (by omega)
        rw [Addr.add_lit] at h1
        have hb := range_u8 hwz k
        rw [List.getD_eq_getElem?_getD] at h1
        rw [h1]
        rw [List.getElem?_map, List.getElem?_take_of_lt hk] at hy
        cases hq : zs[k]? with
        | none => rw [hq] at hy; cases hy
        | some z =>
          rw [hq] at hy hb
          simp only [Option.getD_some, Option.map_some, Option.some.injEq] at hy hb ⊢
          rw [← hy]
          show Value.int .u8 z = Value.int .u8 ((UInt8.ofNat z.toNat).toNat : Int)
          congr 1
          rw [UInt8.toNat_ofNat']
          have : z.toNat % 2 ^ 8 = z.toNat := Nat.mod_eq_of_lt (by omega)
          rw [this]; omega

end Go.Proofs.YtddemgkbfdhpnaaDoor

/-
  laws' eqFileRes, markFileRes, heldFileRes, markByteS.
-/
namespace Go.Proofs.YtddemgkbfdhpnaaDoor
open Go.ChangeShapes Go.WideShapes Go.ChangeAt Go.RowKit Go.Deep
set_option linter.unusedVariables false
set_option linter.unusedSimpArgs false
set_option maxRecDepth 100000

set_option maxHeartbeats 1000000 in
theorem markByteS_own (base g cp : Nat) (xs : List UInt8) (w : World) (h : OwnY w base g cp xs) (hn : xs.length ≤ 1048576) :
    Calls Tryd.prog 11 #[.slice (some ⟨g, 0, none⟩) xs.length cp, .int .i64 1] w fun e w' => e = .returned (.int .i64 (1 + xs.length)) ∧ w.grownBy w' (some g) := by
  have HO : Hid (OwnY w base g cp xs) := h
  clear h
  go_enter Tryd.func11, Tryd.ntmps11
  go_wp2_with fail
  go_loopw [1, 5] (fun c i wr => ∃ (k : Nat) (ys : List UInt8), k ≤ xs.length ∧ c = .int .i64 (1 + (k : Int)) ∧ i = .int .i64 k ∧ ys.length = xs.length ∧ OwnY wr base g cp ys ∧ w.grownBy wr (some g)) (fun _ i _ => xs.length - (intOf i).toNat)
  case atStart => exact ⟨0, xs, Nat.zero_le _, rfl, rfl, rfl, HO.out, grown_of_below (Below.refl _ _) _⟩
  case round =>
    obtain ⟨k, ys, hk, rfl, rfl, hyl, hY, hG⟩ := hrel
    have HY : Hid (OwnY wr base g cp ys ∧ w.grownBy wr (some g) ∧ ys.length = xs.length) := ⟨hY, hG, hyl⟩
    clear hY hG hyl
    by_cases hlt : k < xs.length
    · obtain ⟨y, hy⟩ : ∃ y, ys[k]? = some y := ⟨_, List.getElem?_eq_getElem (by rw [HY.out.2.2]; exact hlt)⟩
      have d0 := HY.out.1.at k y hy
      rw [Nat.zero_add] at d0
      have fz : wr.frozen? ⟨g, k, none⟩ = false := World.ownsRow.frozenAt HY.out.1 k
      have z : (k : Int) < (xs.length : Int) := by omega
      obtain ⟨x, hx⟩ : ∃ x : UInt8, x = UInt8.ofNat (1 + k) := ⟨_, rfl⟩
      have hv : IntKind.u8.wrap (1 + (k : Int)) = (x.toNat : Int) := by
        rw [hx, UInt8.toNat_ofNat']
        simp only [IntKind.wrap, IntKind.bits, IntKind.signed, Bool.false_and, Bool.false_eq_true, if_false]
        omega
      have HN : Hid (OwnY (wr.setCell ⟨g, k, none⟩ (ub x)) base g cp (ys.set k x) ∧ w.grownBy (wr.setCell ⟨g, k, none⟩ (ub x)) (some g)) := ⟨HY.out.1.set k x, HY.out.2.1.trans (grown_set wr g k (ub x))⟩
      clear hy hx
      go_wp2_with fail
      exact ⟨⟨k + 1, ys.set k x, by omega, by (first | rfl | (congr 1 <;> omega)), by go_num, by rw [List.length_set]; exact HY.out.2.2, HN.out.1, HN.out.2⟩, by simp [intOf]; omega⟩
    · have z : ¬ (k : Int) < (xs.length : Int) := by omega
      obtain rfl : k = xs.length := by omega
      go_wp2_with fail
      go_ret
      exact ⟨rfl, HY.out.2.1⟩
end Go.Proofs.YtddemgkbfdhpnaaDoor

/-
  The file of blocks (mathematics).
-/
namespace Go.Proofs.YtddemgkbfdhpnaaDoor
set_option linter.unusedVariables false
set_option linter.unusedSimpArgs false

/-- The first row of a block. -/
def row0 : List Ent → List UInt8
  | [] => []
  | e :: _ => bl e.row
def sumOf (xs : List UInt8) : List UInt8 := fixed (crc xs).toNat
theorem sumOf_len (xs : List UInt8) : (sumOf xs).length = 4 := rfl
def fblock (es : List Ent) : List UInt8 := body [] es ++ sumOf (body [] es)
def fblocks (bs : List (List Ent)) : List UInt8 := bs.flatMap fblock
def fone (es : List Ent) : List UInt8 := num (body [] es).length ++ num es.length ++ strB (row0 es)
def fones (bs : List (List Ent)) : List UInt8 := bs.flatMap fone
def findex (bs : List (List Ent)) : List UInt8 := num bs.length ++ fones bs
def headB : List UInt8 := [82, 85, 78, 49]
def fileM (bs : List (List Ent)) : List UInt8 := headB ++ fblocks bs ++ findex bs ++ sumOf (findex bs) ++ fixed (findex bs).length
theorem fblocks_snoc (bs : List (List Ent)) (es : List Ent) : fblocks (bs ++ [es]) = fblocks bs ++ body [] es ++ sumOf (body [] es) := by
  simp [fblocks, fblock]
theorem fones_snoc (bs : List (List Ent)) (es : List Ent) : fones (bs ++ [es]) = fones bs ++ num (body [] es).length ++ num es.length ++ strB (row0 es) := by
  simp [fones, fone]
/-- What a block may be. -/
structure OkB (es : List Ent) : Prop where
  vld : ∀ e ∈ es, e.vld = true
  ok : ∀ e ∈ es, e.ok
  ne : 0 < es.length
theorem OkB.ts {es : List Ent} (h : OkB es) : ∀ e ∈ es, e.ts.toNat < 2 ^ 64 := fun e he => by have := wf_u64 (h.ok e he).ts; omega
theorem row0_len {es : List Ent} (h : OkB es) : (row0 es).length ≤ 64 := by
  cases es with
  | nil => simp [row0]
  | cons e es => have := vld_parts (h.vld e (by simp)); simp only [row0, bl_len]; omega
theorem fblocks_len : ∀ (bs : List (List Ent)), (∀ es ∈ bs, OkB es) → (fblocks bs).length ≤ 500 * bs.flatten.length + 4 * bs.length
  | [], _ => by simp [fblocks]
  | es :: bs, h => by
    have h1 := body_len es [] (h es (by simp)).vld (h es (by simp)).ts
    have h2 := fblocks_len bs (fun x hx => h x (by simp [hx]))
    simp only [fblocks, List.flatMap_cons, List.length_append, fblock, sumOf_len, List.flatten_cons, List.length_cons] at h2 ⊢
    omega
theorem fone_len {es : List Ent} (h : OkB es) (hl : es.length ≤ 10000) : (fone es).length ≤ 100 := by
  have h1 := body_len es [] h.vld h.ts
  have l1 := num_len64 (n := (body [] es).length) (by omega)
  have l2 := num_len64 (n := es.length) (by omega)
  have l3 := row0_len h
  have l4 := strB_len (s := row0 es) (by omega)
  simp only [fone, List.length_append]
  omega
theorem fones_len : ∀ (bs : List (List Ent)), (∀ es ∈ bs, OkB es) → bs.flatten.length ≤ 10000 → (fones bs).length ≤ 100 * bs.length
  | [], _, _ => by simp [fones]
  | es :: bs, h, hl => by
    simp only [List.flatten_cons, List.length_append] at hl
    have h1 := fone_len (h es (by simp)) (by omega)
    have h2 := fones_len bs (fun x hx => h x (by simp [hx])) (by omega)
    simp only [fones, List.flatMap_cons, List.length_append, List.length_cons] at h2 ⊢
    omega
theorem flatten_take (bs : List (List Ent)) (k : Nat) : (bs.take k).flatten.length ≤ bs.flatten.length := by
  have : bs.flatten = (bs.take k).flatten ++ (bs.drop k).flatten := by rw [← List.flatten_append, List.take_append_drop]
  rw [this, List.length_append]
  omega
theorem flatten_mem {bs : List (List Ent)} {es : List Ent} (h : es ∈ bs) : es.length ≤ bs.flatten.length := by
  obtain ⟨s, t, rfl⟩ := List.append_of_mem h
  simp
  omega
theorem blocks_many : ∀ (bs : List (List Ent)), (∀ es ∈ bs, OkB es) → bs.length ≤ bs.flatten.length
  | [], _ => by simp
  | es :: bs, h => by
    have h1 := (h es (by simp)).ne
    have h2 := blocks_many bs (fun x hx => h x (by simp [hx]))
    simp only [List.flatten_cons, List.length_append, List.length_cons]
    omega
end Go.Proofs.YtddemgkbfdhpnaaDoor

/-
  A run cut into blocks (mathematics).
-/
namespace Go.Proofs.YtddemgkbfdhpnaaDoor
set_option linter.unusedVariables false
set_option linter.unusedSimpArgs false

def chunks (p : Nat) (es : List Ent) : List (List Ent) :=
  if h : p < es.length ∧ 0 < p then es.take p :: chunks p (es.drop p) else if es.length = 0 then [] else [es]
termination_by es.length
decreasing_by simp; omega
theorem chunks_more {p : Nat} {es : List Ent} (h : p < es.length) (hp : 0 < p) : chunks p es = es.take p :: chunks p (es.drop p) := by
  rw [chunks, dif_pos ⟨h, hp⟩]
theorem chunks_nil (p : Nat) : chunks p [] = [] := by
  rw [chunks, dif_neg (by simp)]; rfl
theorem chunks_last {p : Nat} {es : List Ent} (h : ¬ p < es.length) (h0 : 0 < es.length) : chunks p es = [es] := by
  rw [chunks, dif_neg (by omega), if_neg (by omega)]
theorem chunks_flatten (p : Nat) : ∀ (n : Nat) (es : List Ent), es.length ≤ n → (chunks p es).flatten = es
  | 0, es, h => by rw [List.length_eq_zero_iff.1 (Nat.le_zero.1 h), chunks_nil]; rfl
  | n + 1, es, h => by
    by_cases h1 : p < es.length ∧ 0 < p
    · rw [chunks_more h1.1 h1.2, List.flatten_cons, chunks_flatten p n (es.drop p) (by simp; omega), List.take_append_drop]
    · by_cases h0 : es.length = 0
      · rw [List.length_eq_zero_iff.1 h0, chunks_nil]; rfl
      · rw [chunks, dif_neg h1, if_neg h0]; simp
theorem chunks_mem (p : Nat) : ∀ (n : Nat) (es : List Ent), es.length ≤ n → ∀ c ∈ chunks p es, 0 < c.length ∧ (0 < p → c.length ≤ p) ∧ ∀ e ∈ c, e ∈ es
  | 0, es, h, c, hc => by rw [List.length_eq_zero_iff.1 (Nat.le_zero.1 h), chunks_nil] at hc; simp at hc
  | n + 1, es, h, c, hc => by
    by_cases h1 : p < es.length ∧ 0 < p
    · rw [chunks_more h1.1 h1.2] at hc
      rcases List.mem_cons.1 hc with rfl | hc
      · exact ⟨by simp; omega, fun _ => by simp; omega, fun e he => List.mem_of_mem_take he⟩
      · obtain ⟨q1, q2, q3⟩ := chunks_mem p n (es.drop p) (by simp; omega) c hc
        exact ⟨q1, q2, fun e he => List.mem_of_mem_drop (q3 e he)⟩
    · by_cases h0 : es.length = 0
      · rw [List.length_eq_zero_iff.1 h0, chunks_nil] at hc; simp at hc
      · rw [chunks, dif_neg h1, if_neg h0] at hc
        simp at hc
        subst hc
        exact ⟨by omega, fun hp => by omega, fun e he => he⟩
theorem chunks_ok {p : Nat} {es : List Ent} (hv : ∀ e ∈ es, e.vld = true) (hk : ∀ e ∈ es, e.ok) : ∀ c ∈ chunks p es, OkB c := by
  intro c hc
  obtain ⟨h1, _, h3⟩ := chunks_mem p _ es (Nat.le_refl _) c hc
  exact ⟨fun e he => hv e (h3 e he), fun e he => hk e (h3 e he), h1⟩
/-- What spec.EncodeRun answers. -/
def EncOf (es : List Ent) (per : Int) (xs : List UInt8) : Prop := (GoodR es ∧ 1 ≤ per ∧ per ≤ 1000 → xs = fileM (chunks per.toNat es)) ∧ (¬ (GoodR es ∧ 1 ≤ per ∧ per ≤ 1000) → xs = [])
theorem encOf_uniq {es : List Ent} {per : Int} {xs ys : List UInt8} (h : EncOf es per xs) (k : EncOf es per ys) : xs = ys := by
  by_cases g : GoodR es ∧ 1 ≤ per ∧ per ≤ 1000
  · rw [h.1 g, k.1 g]
  · rw [h.2 g, k.2 g]
end Go.Proofs.YtddemgkbfdhpnaaDoor

/-
  The laws' marks of bytes, laid and looked for; how long a file of a run is.
-/
namespace Go.Proofs.YtddemgkbfdhpnaaDoor
open Go.ChangeShapes Go.WideShapes Go.ChangeAt Go.RowKit Go.Deep
set_option linter.unusedVariables false
set_option maxRecDepth 100000

theorem encOf_len {es : List Ent} {per : Int} {xs : List UInt8} (h : EncOf es per xs) (hok : ∀ e ∈ es, e.ok) : xs.length ≤ 20000000 := by
  by_cases hg : GoodR es ∧ 1 ≤ per ∧ per ≤ 1000
  · have hx := h.1 hg
    have h1 : ∀ c ∈ chunks per.toNat es, OkB c := chunks_ok hg.1.1.2 hok
    have h2 : (chunks per.toNat es).flatten.length ≤ 10000 := by rw [chunks_flatten _ _ es (Nat.le_refl _)]; exact hg.1.1.1
    have h3 := blocks_many _ h1
    have h4 := fblocks_len _ h1
    have h5 := fones_len _ h1 h2
    have h6 := num_len64 (n := (chunks per.toNat es).length) (by omega)
    rw [hx]
    unfold fileM findex
    have h7 : headB.length = 4 := rfl
    have h8 : ∀ l, (sumOf l).length = 4 := sumOf_len
    have h9 : ∀ n, (fixed n).length = 4 := fun _ => rfl
    simp only [List.length_append, h7, h8, h9]
    omega
  · rw [h.2 hg]; simp

/-- The bytes from 'k' on are marks. -/
def MarkY (ys : List UInt8) (n : Nat) : Prop := ∀ i y, i < n → ys[i]? = some y → IntKind.u8.wrap (1 + (i : Int)) = (y.toNat : Int)

set_option maxHeartbeats 1000000 in
theorem markByteS_all (base g cp : Nat) (xs : List UInt8) (w : World) (h : OwnY w base g cp xs) (hn : xs.length ≤ 20000000) :
    Calls Tryd.prog 11 #[.slice (some ⟨g, 0, none⟩) xs.length cp, .int .i64 1] w fun e w' => e = .returned (.int .i64 (1 + xs.length)) ∧ w.grownBy w' (some g) ∧ ∃ ys, ys.length = xs.length ∧ OwnY w' base g cp ys ∧ MarkY ys ys.length := by
  have HO : Hid (OwnY w base g cp xs) := h
  clear h
  go_enter Tryd.func11, Tryd.ntmps11
  go_wp2_with fail
  go_loopw [1, 5] (fun c i wr => ∃ (k : Nat) (ys : List UInt8), k ≤ xs.length ∧ c = .int .i64 (1 + (k : Int)) ∧ i = .int .i64 k ∧ ys.length = xs.length ∧ OwnY wr base g cp ys ∧ w.grownBy wr (some g) ∧ MarkY ys k) (fun _ i _ => xs.length - (intOf i).toNat)
  case atStart => exact ⟨0, xs, Nat.zero_le _, rfl, rfl, rfl, HO.out, grown_of_below (Below.refl _ _) _, fun i y q => absurd q (Nat.not_lt_zero _)⟩
  case round =>
    obtain ⟨k, ys, hk, rfl, rfl, hyl, hY, hG, hMk⟩ := hrel
    have HY : Hid (OwnY wr base g cp ys ∧ w.grownBy wr (some g) ∧ ys.length = xs.length ∧ MarkY ys k) := ⟨hY, hG, hyl, hMk⟩
    clear hY hG hyl hMk
    by_cases hlt : k < xs.length
    · obtain ⟨y, hy⟩ : ∃ y, ys[k]? = some y := ⟨_, List.getElem?_eq_getElem (by rw [HY.out.2.2.1]; exact hlt)⟩
      have d0 := HY.out.1.at k y hy
      rw [Nat.zero_add] at d0
      have fz : wr.frozen? ⟨g, k, none⟩ = false := World.ownsRow.frozenAt HY.out.1 k
      have z : (k : Int) < (xs.length : Int) := by omega
      obtain ⟨x, hx⟩ : ∃ x : UInt8, x = UInt8.ofNat (1 + k) := ⟨_, rfl⟩
      have hv : IntKind.u8.wrap (1 + (k : Int)) = (x.toNat : Int) := by
        rw [hx, UInt8.toNat_ofNat']
        simp only [IntKind.wrap, IntKind.bits, IntKind.signed, Bool.false_and, Bool.false_eq_true, if_false]
        omega
      have HN : Hid (OwnY (wr.setCell ⟨g, k, none⟩ (ub x)) base g cp (ys.set k x) ∧ w.grownBy (wr.setCell ⟨g, k, none⟩ (ub x)) (some g) ∧ MarkY (ys.set k x) (k + 1)) := by
        refine ⟨HY.out.1.set k x, HY.out.2.1.trans (grown_set wr g k (ub x)), ?_⟩
        intro i y' hi hy'
        by_cases hik : i = k
        · subst hik
          rw [List.getElem?_set_self (by rw [HY.out.2.2.1]; exact hlt)] at hy'
          cases hy'
          exact hv
        · rw [List.getElem?_set_ne (fun q => hik q.symm)] at hy'
          exact HY.out.2.2.2 i y' (by omega) hy'
      clear hy hx
      go_wp2_with fail
      exact ⟨⟨k + 1, ys.set k x, by omega, by (first | rfl | (congr 1 <;> omega)), by go_num, by rw [List.length_set]; exact HY.out.2.2.1, HN.out.1, HN.out.2.1, HN.out.2.2⟩, by simp [intOf]; omega⟩
    · have z : ¬ (k : Int) < (xs.length : Int) := by omega
      obtain rfl : k = xs.length := by omega
      go_wp2_with fail
      go_ret
      exact ⟨rfl, HY.out.2.1, ys, HY.out.2.2.1, HY.out.1, by rw [HY.out.2.2.1]; exact HY.out.2.2.2⟩

set_option maxHeartbeats 1000000 in
theorem heldByteS_own (base g cp m : Nat) (ys : List UInt8) (w : World) (h : OwnY w base g cp ys) (hm : MarkY ys ys.length) (hl : ys.length = m) (hn : m ≤ 20000000) :
    Calls Tryd.prog 12 #[.slice (some ⟨g, 0, none⟩) m cp, .int .i64 1] w fun e w' => e = .returned (.int .i64 (1 + m)) ∧ Below w.heap.size w w' := by
  have HO : Hid (OwnY w base g cp ys ∧ MarkY ys ys.length ∧ ys.length = m) := ⟨h, hm, hl⟩
  clear h hm hl
  go_enter Tryd.func12, Tryd.ntmps12
  go_wp2_with fail
  go_loopw [1, 5] (fun c i wr => ∃ (k : Nat), k ≤ m ∧ c = .int .i64 (1 + (k : Int)) ∧ i = .int .i64 k ∧ Below w.heap.size w wr) (fun _ i _ => m - (intOf i).toNat)
  case atStart => exact ⟨0, Nat.zero_le _, rfl, rfl, Below.refl _ _⟩
  case round =>
    obtain ⟨k, hk, rfl, rfl, hB⟩ := hrel
    have HB : Hid (Below w.heap.size w wr) := hB
    by_cases hlt : k < m
    · obtain ⟨y, hy⟩ : ∃ y, ys[k]? = some y := ⟨_, List.getElem?_eq_getElem (by rw [HO.out.2.2]; exact hlt)⟩
      have d0 := (HO.out.1.below hB).at k y hy
      rw [Nat.zero_add] at d0
      have z : (k : Int) < (m : Int) := by omega
      have hv := HO.out.2.1 k y (by rw [HO.out.2.2]; exact hlt) hy
      clear hy hB
      go_wp2_with fail
      exact ⟨⟨k + 1, by omega, by (first | rfl | (congr 1 <;> omega)), by go_num, by have := HB.out; exact this⟩, by simp [intOf]; omega⟩
    · have z : ¬ (k : Int) < (m : Int) := by omega
      obtain rfl : k = m := by omega
      clear hB
      go_wp2_with fail
      go_ret
      exact ⟨rfl, HB.out⟩
end Go.Proofs.YtddemgkbfdhpnaaDoor

