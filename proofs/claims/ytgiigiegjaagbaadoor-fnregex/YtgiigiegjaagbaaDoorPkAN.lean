import Derived.Test.YtgiigiegjaagbaaDoorTie
import Derived.Test.YtgiigiegjaagbaaDoorCards
import Derived.ProofKit
import Derived.LaidMore
import Derived.OpenShut
import Derived.Lib.LaidTab
import Derived.Stop.Joined
import Derived.Test.YtgiigiegjaagbaaDoorPkAM
import Derived.Test.YtgiigiegjaagbaaDoorPkAK
/-
  The draws: a pattern and a string (DrawMatchRegex).
-/
namespace Go.Proofs.YtgiigiegjaagbaaDoor
open Go.ChangeShapes Go.WideShapes Go.ChangeAt Go.RowKit Go.Deep
set_option linter.unusedVariables false
set_option linter.unusedSimpArgs false
set_option maxRecDepth 100000

def DrmP (w : World) (e : Ending) (w' : World) : Prop := ∃ p s : ByteArray, e = .returned (.tuple #[.string p, .string s]) ∧ p.size ≤ 100000 ∧ s.size ≤ 10000 ∧ Below w.heap.size w w'
theorem Chg.belowN {w w1 w2 : World} (h : Below w.heap.size w w1) (hc : Chg (fun k => k = w.heap.size) w1 w2) : Below w.heap.size w w2 := Chg.below h hc h.size (fun k q => by omega)

set_option maxHeartbeats 4000000 in
theorem drawMatch_core (bv : Value) (n : Nat) (w : World) (h : CodeAt w w.heap.size bv n) : Calls Tryd.prog 4 #[bv] w (DrmP w) := by
  obtain ⟨a, cap, rfl⟩ := h.slice
  have HC : Hid (CodeAt w w.heap.size (.slice a n cap) n) := h
  clear h
  go_enter Tryd.func4, Tryd.ntmps4
  go_wp2_with fail
  refine (new_core _ n w HC.out).mono ?_
  rintro e w1 ⟨rfl, hd1, hb1⟩
  have H1 : Hid (DrawAt w.heap.size w.heap.size (.slice a n cap) n w1 ∧ Below w.heap.size w w1) := ⟨hd1, hb1⟩
  clear hd1 hb1
  go_wp2_with fail
  refine (pattern_core _ _ _ n _ H1.out.1).mono ?_
  rintro e w2 ⟨p, rfl, hp, hD2, hC2⟩
  have H2 : Hid (DrawAt w.heap.size w.heap.size (.slice a n cap) n w2 ∧ Below w.heap.size w w2) := ⟨hD2, Chg.belowN H1.out.2 hC2⟩
  clear hD2 hC2
  go_wp2_with fail
  refine (once_core _ _ _ n 12 _ H2.out.1 (by omega) (by omega)).mono ?_
  rintro e w3 ⟨v, rfl, hv, hD3, hC3⟩
  have H3 : Hid (DrawAt w.heap.size w.heap.size (.slice a n cap) n w3 ∧ Below w.heap.size w w3) := ⟨hD3, Chg.belowN H2.out.2 hC3⟩
  clear hD3 hC3
  rcases hv with rfl | rfl
  · go_wp2_with fail
    refine (faulty_core _ _ _ n _ H3.out.1).mono ?_
    rintro e w4 ⟨p2, rfl, hp2, hD4, hC4⟩
    have H4 : Hid (DrawAt w.heap.size w.heap.size (.slice a n cap) n w4 ∧ Below w.heap.size w w4) := ⟨hD4, Chg.belowN H3.out.2 hC4⟩
    clear hD4 hC4
    go_wp2_with fail
    refine (letters_core _ _ _ n 0 5 _ H4.out.1 (by omega) (by omega) (by omega)).mono ?_
    rintro e w5 ⟨s, rfl, hs, hD5, hC5⟩
    have H5 : Hid (DrawAt w.heap.size w.heap.size (.slice a n cap) n w5 ∧ Below w.heap.size w w5) := ⟨hD5, Chg.belowN H4.out.2 hC5⟩
    clear hD5 hC5
    go_wp2_with fail
    refine (once_core _ _ _ n 50 _ H5.out.1 (by omega) (by omega)).mono ?_
    rintro e w6 ⟨v, rfl, hv, hD6, hC6⟩
    have H6 : Hid (DrawAt w.heap.size w.heap.size (.slice a n cap) n w6 ∧ Below w.heap.size w w6) := ⟨hD6, Chg.belowN H5.out.2 hC6⟩
    clear hD6 hC6
    rcases hv with rfl | rfl
    · go_wp2_with fail
      refine (below_core _ _ _ n 2 _ H6.out.1 (by omega) (by omega)).mono ?_
      rintro e w7 ⟨x, rfl, hx0, hx1, hD7, hC7⟩
      have H7 : Hid (DrawAt w.heap.size w.heap.size (.slice a n cap) n w7 ∧ Below w.heap.size w w7) := ⟨hD7, Chg.belowN H6.out.2 hC7⟩
      clear hD7 hC7
      obtain ⟨q, rfl⟩ := Int.eq_ofNat_of_zero_le hx0
      have HQ : Hid ((200 : Int) + (q : Int) = ((200 + q : Nat) : Int)) := by show (200 : Int) + (q : Int) = _; omega
      go_wp2_with fail
      rw [HQ.out]
      refine (many_core 97 (200 + q) _ (by omega)).mono ?_
      rintro e w8 ⟨t, rfl, ht, hb8⟩
      have H8 : Hid (Below w.heap.size w w8) := H7.out.2.trans (hb8.mono H7.out.2.size)
      clear hb8
      go_wp2_with fail
      refine bodyPost_ret (v := .tuple #[.string ⟨#[97, 42, 98, 63]⟩, .string t]) (by simp [results, Tryd.results4, go_sem]) rfl ⟨_, t, rfl, by decide, by omega, H8.out⟩
    go_wp2_with fail
    refine (once_core _ _ _ n 8 _ H6.out.1 (by omega) (by omega)).mono ?_
    rintro e w7 ⟨v, rfl, hv, hD7, hC7⟩
    have H7 : Hid (DrawAt w.heap.size w.heap.size (.slice a n cap) n w7 ∧ Below w.heap.size w w7) := ⟨hD7, Chg.belowN H6.out.2 hC7⟩
    have hcl := hD7.lt.2
    clear hD7 hC7
    rcases hv with rfl | rfl
    · go_wp2_with fail
      refine (pick_core _ _ _ n _ 6 _ (H7.out.1.below ((Below.refl _ _).alloc (Nat.le_refl _) _)) (by omega) (by omega) (by omega) (by simp) ?_).mono ?_
      · intro k hk
        match k, hk with
        | 0, _ => exact ⟨_, by simp; rfl, by decide⟩
        | 1, _ => exact ⟨_, by simp; rfl, by decide⟩
        | 2, _ => exact ⟨_, by simp; rfl, by decide⟩
        | 3, _ => exact ⟨_, by simp; rfl, by decide⟩
        | 4, _ => exact ⟨_, by simp; rfl, by decide⟩
        | 5, _ => exact ⟨_, by simp; rfl, by decide⟩
      · rintro e w8 ⟨t, rfl, ht, hD8, hC8⟩
        have H8 : Hid (Below w.heap.size w w8) := Chg.belowN (H7.out.2.alloc H7.out.2.size _) hC8
        clear hD8 hC8
        go_wp2_with fail
        refine bodyPost_ret (v := .tuple #[.string p2, .string (s ++ t)]) (by simp [results, Tryd.results4, go_sem]) rfl ⟨p2, _, rfl, by omega, by rw [size_app]; omega, H8.out⟩
    · go_wp2_with fail
      refine bodyPost_ret (v := .tuple #[.string p2, .string s]) (by simp [results, Tryd.results4, go_sem]) rfl ⟨p2, s, rfl, by omega, by omega, H7.out.2⟩
  · obtain ⟨w4, hw4⟩ : ∃ w4, w4 = w3 := ⟨_, rfl⟩
    have H4 : Hid (DrawAt w.heap.size w.heap.size (.slice a n cap) n w4 ∧ Below w.heap.size w w4) := by rw [hw4]; exact H3
    rw [← hw4]
    clear H3 hw4
    go_wp2_with fail
    refine (letters_core _ _ _ n 0 5 _ H4.out.1 (by omega) (by omega) (by omega)).mono ?_
    rintro e w5 ⟨s, rfl, hs, hD5, hC5⟩
    have H5 : Hid (DrawAt w.heap.size w.heap.size (.slice a n cap) n w5 ∧ Below w.heap.size w w5) := ⟨hD5, Chg.belowN H4.out.2 hC5⟩
    clear hD5 hC5
    go_wp2_with fail
    refine (once_core _ _ _ n 50 _ H5.out.1 (by omega) (by omega)).mono ?_
    rintro e w6 ⟨v, rfl, hv, hD6, hC6⟩
    have H6 : Hid (DrawAt w.heap.size w.heap.size (.slice a n cap) n w6 ∧ Below w.heap.size w w6) := ⟨hD6, Chg.belowN H5.out.2 hC6⟩
    clear hD6 hC6
    rcases hv with rfl | rfl
    · go_wp2_with fail
      refine (below_core _ _ _ n 2 _ H6.out.1 (by omega) (by omega)).mono ?_
      rintro e w7 ⟨x, rfl, hx0, hx1, hD7, hC7⟩
      have H7 : Hid (DrawAt w.heap.size w.heap.size (.slice a n cap) n w7 ∧ Below w.heap.size w w7) := ⟨hD7, Chg.belowN H6.out.2 hC7⟩
      clear hD7 hC7
      obtain ⟨q, rfl⟩ := Int.eq_ofNat_of_zero_le hx0
      have HQ : Hid ((200 : Int) + (q : Int) = ((200 + q : Nat) : Int)) := by show (200 : Int) + (q : Int) = _; omega
      go_wp2_with fail
      rw [HQ.out]
      refine (many_core 97 (200 + q) _ (by omega)).mono ?_
      rintro e w8 ⟨t, rfl, ht, hb8⟩
      have H8 : Hid (Below w.heap.size w w8) := H7.out.2.trans (hb8.mono H7.out.2.size)
      clear hb8
      go_wp2_with fail
      refine bodyPost_ret (v := .tuple #[.string ⟨#[97, 42, 98, 63]⟩, .string t]) (by simp [results, Tryd.results4, go_sem]) rfl ⟨_, t, rfl, by decide, by omega, H8.out⟩
    go_wp2_with fail
    refine (once_core _ _ _ n 8 _ H6.out.1 (by omega) (by omega)).mono ?_
    rintro e w7 ⟨v, rfl, hv, hD7, hC7⟩
    have H7 : Hid (DrawAt w.heap.size w.heap.size (.slice a n cap) n w7 ∧ Below w.heap.size w w7) := ⟨hD7, Chg.belowN H6.out.2 hC7⟩
    have hcl := hD7.lt.2
    clear hD7 hC7
    rcases hv with rfl | rfl
    · go_wp2_with fail
      refine (pick_core _ _ _ n _ 6 _ (H7.out.1.below ((Below.refl _ _).alloc (Nat.le_refl _) _)) (by omega) (by omega) (by omega) (by simp) ?_).mono ?_
      · intro k hk
        match k, hk with
        | 0, _ => exact ⟨_, by simp; rfl, by decide⟩
        | 1, _ => exact ⟨_, by simp; rfl, by decide⟩
        | 2, _ => exact ⟨_, by simp; rfl, by decide⟩
        | 3, _ => exact ⟨_, by simp; rfl, by decide⟩
        | 4, _ => exact ⟨_, by simp; rfl, by decide⟩
        | 5, _ => exact ⟨_, by simp; rfl, by decide⟩
      · rintro e w8 ⟨t, rfl, ht, hD8, hC8⟩
        have H8 : Hid (Below w.heap.size w w8) := Chg.belowN (H7.out.2.alloc H7.out.2.size _) hC8
        clear hD8 hC8
        go_wp2_with fail
        refine bodyPost_ret (v := .tuple #[.string p, .string (s ++ t)]) (by simp [results, Tryd.results4, go_sem]) rfl ⟨p, _, rfl, by omega, by rw [size_app]; omega, H8.out⟩
    · go_wp2_with fail
      refine bodyPost_ret (v := .tuple #[.string p, .string s]) (by simp [results, Tryd.results4, go_sem]) rfl ⟨p, s, rfl, by omega, by omega, H7.out.2⟩
end Go.Proofs.YtgiigiegjaagbaaDoor

/-
  spec.PrefixOf.
-/
namespace Go.Proofs.YtgiigiegjaagbaaDoor
open Go.ChangeShapes Go.WideShapes Go.ChangeAt Go.RowKit Go.Deep
set_option linter.unusedVariables false
set_option linter.unusedSimpArgs false
set_option maxRecDepth 100000

structure PsJ (p : ByteArray) (n : Nat) (w : World) (ts : List Pat) (i g cp : Nat) (xs : List UInt8) (us : List Pat) (wr : World) : Prop where
  seq : SeqG (AtomG n) us (cut (sb p) i p.size)
  pre : prefM ts = (xs ++ (prefM us).1, (prefM us).2)
  own : OwnY wr (w.heap.size + 1) g cp xs
  res : BoxAt wr w.heap.size 27 2 w.heap.size [.string ⟨#[]⟩, .bool false]
  below : Below w.heap.size w wr
theorem PsJ.move {p : ByteArray} {n : Nat} {w : World} {ts : List Pat} {i g cp : Nat} {xs : List UInt8} {us : List Pat} {wr w' : World} (h : PsJ p n w ts i g cp xs us wr) (hb : Below wr.heap.size wr w') : PsJ p n w ts i g cp xs us w' :=
  ⟨h.seq, h.pre, h.own.below hb, h.res.below hb, h.below.trans (hb.mono h.below.size)⟩
theorem reg_field (c k : Int) (w : World) : (Instr.field 30 (.agg #[.int .i64 c, .int .i64 k]) 0).run Tryd.prog w = .ok (.int .i64 c) w := by kernel_rfl
set_option maxHeartbeats 8000000 in
theorem specPrefix_core (p : ByteArray) (w : World) (hpm : p.size ≤ maxLen) (r : List UInt8 × Bool) (hr : PrefIs p r) : Calls Tryd.prog 8 #[.string p] w fun e w' => e = .returned (.agg #[.string ⟨r.1.toArray⟩, .bool r.2]) ∧ Below w.heap.size w w' := by
  have HR : Hid (PrefIs p r) := hr
  clear hr
  obtain ⟨W0, hW0⟩ : ∃ W0 : World, W0 = w.alloc (Obj.cells #[.string ⟨#[]⟩, .bool false] 27) := ⟨_, rfl⟩
  have HW0 : Hid (BoxAt W0 w.heap.size 27 2 w.heap.size [.string ⟨#[]⟩, .bool false] ∧ Below w.heap.size w W0 ∧ w.heap.size + 1 ≤ W0.heap.size) := by
    rw [hW0]; exact ⟨boxAt_new w _ (Nat.le_refl _) rfl, (Below.refl _ _).alloc (Nat.le_refl _) _, by simp⟩
  obtain ⟨c, hc⟩ : ∃ c, c = (checkM (sb p)).1 := ⟨_, rfl⟩
  obtain ⟨k, hk⟩ : ∃ k : Int, k = ((checkM (sb p)).2 : Int) := ⟨_, rfl⟩
  have HC : Hid (c = (checkM (sb p)).1) := hc
  have HS : Hid (∀ w, Calls Tryd.prog 10 #[.string p] w fun e w' => e = .returned (.agg #[.int .i64 c, .int .i64 k]) ∧ Below w.heap.size w w') := fun w => by
    rw [hc, hk]; exact specCheck_core p w hpm
  have hfd := reg_field c k
  clear hc hk
  have zero : ∀ w2 : World, BoxAt w2 w.heap.size 27 2 w.heap.size [.string ⟨#[]⟩, .bool false] → Below w.heap.size w w2 → Hid (BoxAt ((w2.setCell ⟨w.heap.size, 0, none⟩ (.string ⟨#[]⟩)).setCell ⟨w.heap.size, 1, none⟩ (.bool false)) w.heap.size 27 2 w.heap.size [.string ⟨#[]⟩, .bool false] ∧ Below w.heap.size w ((w2.setCell ⟨w.heap.size, 0, none⟩ (.string ⟨#[]⟩)).setCell ⟨w.heap.size, 1, none⟩ (.bool false))) := fun w2 h1 h2 =>
    ⟨set2_cells h1 _ _, below_set (below_set h2 (Nat.le_refl _) 0 _) (Nat.le_refl _) 1 _⟩
  have HZ : Hid (∀ w2 : World, BoxAt w2 w.heap.size 27 2 w.heap.size [.string ⟨#[]⟩, .bool false] → Below w.heap.size w w2 → Hid (BoxAt ((w2.setCell ⟨w.heap.size, 0, none⟩ (.string ⟨#[]⟩)).setCell ⟨w.heap.size, 1, none⟩ (.bool false)) w.heap.size 27 2 w.heap.size [.string ⟨#[]⟩, .bool false] ∧ Below w.heap.size w ((w2.setCell ⟨w.heap.size, 0, none⟩ (.string ⟨#[]⟩)).setCell ⟨w.heap.size, 1, none⟩ (.bool false)))) := zero
  clear zero
  go_enter Tryd.func8, Tryd.ntmps8
  go_upto_region 1 with fail
  rw [← hW0]
  clear hW0
  have s0 := HW0.out.2.1.size
  by_cases hc0 : c = 0
  · have q0 : (checkM (sb p)).1 = 0 := by rw [← HC.out]; exact hc0
    obtain ⟨os, ho⟩ := pref_is p hpm q0
    have hp : p.size ≤ 200 := by
      apply Classical.byContradiction
      intro h6
      unfold checkM at q0
      rw [if_pos (by rw [sb_len]; omega)] at q0
      exact absurd q0 (by decide)
    have HRo : Hid (r = prefOf os) := HR.out.2 q0 os ho
    obtain ⟨n, hg⟩ := ho.gr
    obtain ⟨m, hm, hT⟩ := hg.tokn
    have HT : Hid (os.length = m + 1 ∧ TokN (AtomG n) m (cut (sb p) 0 p.size) ∧ AltG (AtomG n) os (cut (sb p) 0 p.size)) := ⟨hm, hT, hg⟩
    subst hc0
    clear q0 ho hg hm hT HR HC
    go_wp2_with fail
    refine (HS.out W0).mono ?_
    rintro e w1 ⟨rfl, hb1⟩
    have HW1 : Hid (BoxAt w1 w.heap.size 27 2 w.heap.size [.string ⟨#[]⟩, .bool false] ∧ Below w.heap.size w w1 ∧ w.heap.size + 1 ≤ w1.heap.size) := ⟨HW0.out.1.below hb1, HW0.out.2.1.trans (hb1.mono s0), by have := HW0.out.2.2; have := hb1.size; omega⟩
    have s1 := HW1.out.2.1.size
    clear hb1 HW0 HS
    go_wp2_with fail
    refine (l4Parts_core hp HT.out.2.1 w1).mono ?_
    rintro e w2 ⟨g2, cp2, rfl, hb2⟩
    have HW2 : Hid (BoxAt w2 w.heap.size 27 2 w.heap.size [.string ⟨#[]⟩, .bool false] ∧ Below w.heap.size w w2 ∧ w.heap.size + 1 ≤ w2.heap.size) := ⟨HW1.out.1.below hb2, HW1.out.2.1.trans (hb2.mono s1), by have := HW1.out.2.2; have := hb2.size; omega⟩
    clear hb2 HW1
    have r0 := HW2.out.1.cell (j := 0) rfl
    have r1 := HW2.out.1.cell (j := 1) rfl
    have f0 := HW2.out.1.frozen 0
    have f1 := HW2.out.1.frozen 1
    by_cases hm0 : m = 0
    · subst hm0
      obtain ⟨ts, hts, hS⟩ : ∃ ts, r = prefM ts ∧ SeqG (AtomG n) ts (cut (sb p) 0 p.size) := by
        have h1 := HT.out.1
        have h2 := HT.out.2.2
        have h3 := HRo.out
        match os, h1, h2, h3 with
        | [ts], _, h2, h3 => exact ⟨ts, h3, h2⟩
      subst hts
      have hz2 := HW2.out.2.2
      obtain ⟨W3, hW3⟩ : ∃ W3 : World, W3 = w2.alloc (Obj.cells #[] 5) := ⟨_, rfl⟩
      have HW3 : Hid (PsJ p n w ts 0 w2.heap.size 0 [] ts W3) := by
        have hb3 : Below w2.heap.size w2 W3 := by rw [hW3]; exact (Below.refl _ _).alloc (Nat.le_refl _) _
        refine ⟨hS, by simp, ?_, HW2.out.1.below hb3, HW2.out.2.1.trans (hb3.mono (by omega))⟩
        rw [hW3]
        exact ownY_new w2 hz2
      clear hS HW2 HT HRo r0 r1 f0 f1 HZ
      go_upto_region 4 with fail
      rw [← hW3]
      clear hW3
      go_wp2_with fail
      go_loopw [3, 4] (fun o iv wr => ∃ (i g cp : Nat) (xs : List UInt8) (us : List Pat), iv = .int .i64 (i : Int) ∧ i ≤ p.size ∧ xs.length ≤ i ∧ o = .slice (some ⟨g, 0, none⟩) xs.length cp ∧ PsJ p n w ts i g cp xs us wr) (fun _ iv _ => p.size - (intOf iv).toNat)
      case atStart => exact ⟨0, _, 0, [], ts, rfl, Nat.zero_le _, Nat.zero_le _, rfl, HW3.out⟩
      case round =>
        obtain ⟨i, g, cp, xs, us, rfl, hip, hxi, rfl, hJ⟩ := hrel
        have HJ : Hid (PsJ p n w ts i g cp xs us wr) := hJ
        have hgl := hJ.own.lt
        have hsz := hJ.below.size
        clear hJ HW3
        by_cases hlt : i < p.size
        · have zi : (i : Int) < (p.size : Int) := by omega
          obtain ⟨t, us', j, c, a, hus, hSt⟩ := seq_step HJ.out.seq (by rw [sb_len]; exact Nat.le_refl _) hlt
          have HSt : Hid (us = t :: us' ∧ SeqStep n (sb p) i p.size j c a t us') := ⟨hus, hSt⟩
          have hij := hSt.lt
          have hjp := hSt.le
          obtain ⟨_, gi⟩ := sb_get hSt.at0
          clear hus hSt
          go_wp2_with fail
          refine (end_all hp n i j a wr HSt.out.2.atom hjp).mono ?_
          rintro e w6 ⟨rfl, hb6⟩
          have HJ6 : Hid (PsJ p n w ts i g cp xs us w6) := HJ.out.move hb6
          have hs6 := hb6.size
          clear hb6 HJ
          rcases HSt.out.2.what with ⟨b, rfl, hs, hn, hb, hS⟩ | ⟨hnb, hw⟩
          · obtain ⟨j0, rfl⟩ : ∃ j0, j = j0 + 1 := ⟨j - 1, by omega⟩
            obtain ⟨_, gb⟩ := sb_get (show (sb p)[j0]? = some b from hb)
            have HB : Hid ((∀ d, (sb p)[j0 + 1]? = some d → j0 + 1 < p.size → ¬ isOp d) ∧ SeqG (AtomG n) us' (cut (sb p) (j0 + 1) p.size)) := ⟨hn, hS⟩
            have HP : Hid (prefM ts = (xs ++ [b] ++ (prefM us').1, (prefM us').2)) := by
              show prefM ts = _
              rw [HJ6.out.pre, HSt.out.1]; simp [prefM]
            have zj0 : (j0 : Int) < (p.size : Int) := by omega
            clear hn hb hS HSt
            by_cases hjl : j0 + 1 < p.size
            · obtain ⟨d, hd⟩ : ∃ d, (sb p)[j0 + 1]? = some d := ⟨_, List.getElem?_eq_getElem (by rw [sb_len]; exact hjl)⟩
              obtain ⟨_, gd⟩ := sb_get hd
              have hnd := HB.out.1 d hd hjl
              have zjl : (j0 : Int) + 1 < (p.size : Int) := by omega
              have HOp : Hid (Calls Tryd.prog 27 #[.int .u8 (d.toNat : Int)] w6 fun e w' => e = .returned (.bool false) ∧ w' = w6) := by
                have := l4Op_core d w6
                rw [decide_eq_false hnd] at this
                exact this
              clear hd hnd
              rcases hs with hs | rfl
              · skip
                have HSp : Hid (Calls Tryd.prog 26 #[.int .u8 (c.toNat : Int)] w6 fun e w' => e = .returned (.bool false) ∧ w' = w6) := by
                  have := l4Special_core c w6
                  rw [decide_eq_false hs] at this
                  exact this
                clear hs
                go_wp2_with fail
                refine HSp.out.mono ?_
                rintro e' w7 ⟨rfl, hw7⟩
                rw [hw7]
                clear hw7
                go_wp2_with fail
                refine HOp.out.mono ?_
                rintro e' w8 ⟨rfl, hw8⟩
                rw [hw8]
                clear hw8
                go_wp2_with (at_builtin; refine wpList_append_bys _ rfl _ _ rfl (w.heap.size + 1) g cp xs.length w6.heap.size 0 1 1 xs [b] rfl rfl rfl rfl ?hO ?hc ?hl ?hb ?_)
                case hO => exact HJ6.out.own.below ((Below.refl _ _).alloc (Nat.le_refl _) _)
                case hc => exact (ownY_one w6 (Nat.le_refl _) b rfl).at
                case hl => first | omega | (simp; omega)
                case hb => first | omega | (simp; omega)
                intro g' cp' w' hO' hgr hat
                have HJ7 : Hid (PsJ p n w ts (j0 + 1) g' cp' (xs ++ [b]) us' w') := by
                  have hb7 : Below w6.heap.size w6 (w6.alloc (Obj.cells #[.int .u8 (b.toNat : Int)] 5)) := (Below.refl _ _).alloc (Nat.le_refl _) _
                  have hC : Chg (fun j => j = g) (w6.alloc (Obj.cells #[.int .u8 (b.toNat : Int)] 5)) w' := Chg.of_grown hgr (fun j hj => by cases hj; rfl)
                  have hJ' := HJ6.out.move hb7
                  exact ⟨HB.out.2, HP.out, hO', hJ'.res.chg hC (by omega), Chg.below hJ'.below hC hJ'.below.size (fun j q => by omega)⟩
                clear hO' hgr hat
                go_wp2_with fail
                go_roundw
                case rel => exact ⟨j0 + 1, g', cp', xs ++ [b], us', by go_num, by omega, by simp; omega, by simp, HJ7.out⟩
                case measure => simp [intOf]; omega
              · skip
                have HSp : Hid (Calls Tryd.prog 26 #[.int .u8 92] w6 fun e w' => e = .returned (.bool true) ∧ w' = w6) := l4Special_core 92 w6
                go_wp2_with fail
                refine HSp.out.mono ?_
                rintro e' w7 ⟨rfl, hw7⟩
                rw [hw7]
                clear hw7
                go_wp2_with fail
                refine HOp.out.mono ?_
                rintro e' w8 ⟨rfl, hw8⟩
                rw [hw8]
                clear hw8
                go_wp2_with (at_builtin; refine wpList_append_bys _ rfl _ _ rfl (w.heap.size + 1) g cp xs.length w6.heap.size 0 1 1 xs [b] rfl rfl rfl rfl ?hO ?hc ?hl ?hb ?_)
                case hO => exact HJ6.out.own.below ((Below.refl _ _).alloc (Nat.le_refl _) _)
                case hc => exact (ownY_one w6 (Nat.le_refl _) b rfl).at
                case hl => first | omega | (simp; omega)
                case hb => first | omega | (simp; omega)
                intro g' cp' w' hO' hgr hat
                have HJ7 : Hid (PsJ p n w ts (j0 + 1) g' cp' (xs ++ [b]) us' w') := by
                  have hb7 : Below w6.heap.size w6 (w6.alloc (Obj.cells #[.int .u8 (b.toNat : Int)] 5)) := (Below.refl _ _).alloc (Nat.le_refl _) _
                  have hC : Chg (fun j => j = g) (w6.alloc (Obj.cells #[.int .u8 (b.toNat : Int)] 5)) w' := Chg.of_grown hgr (fun j hj => by cases hj; rfl)
                  have hJ' := HJ6.out.move hb7
                  exact ⟨HB.out.2, HP.out, hO', hJ'.res.chg hC (by omega), Chg.below hJ'.below hC hJ'.below.size (fun j q => by omega)⟩
                clear hO' hgr hat
                go_wp2_with fail
                go_roundw
                case rel => exact ⟨j0 + 1, g', cp', xs ++ [b], us', by go_num, by omega, by simp; omega, by simp, HJ7.out⟩
                case measure => simp [intOf]; omega
            · have zjl : ¬ (j0 : Int) + 1 < (p.size : Int) := by omega
              rcases hs with hs | rfl
              · skip
                have HSp : Hid (Calls Tryd.prog 26 #[.int .u8 (c.toNat : Int)] w6 fun e w' => e = .returned (.bool false) ∧ w' = w6) := by
                  have := l4Special_core c w6
                  rw [decide_eq_false hs] at this
                  exact this
                clear hs
                go_wp2_with fail
                refine HSp.out.mono ?_
                rintro e' w7 ⟨rfl, hw7⟩
                rw [hw7]
                clear hw7
                go_wp2_with (at_builtin; refine wpList_append_bys _ rfl _ _ rfl (w.heap.size + 1) g cp xs.length w6.heap.size 0 1 1 xs [b] rfl rfl rfl rfl ?hO ?hc ?hl ?hb ?_)
                case hO => exact HJ6.out.own.below ((Below.refl _ _).alloc (Nat.le_refl _) _)
                case hc => exact (ownY_one w6 (Nat.le_refl _) b rfl).at
                case hl => first | omega | (simp; omega)
                case hb => first | omega | (simp; omega)
                intro g' cp' w' hO' hgr hat
                have HJ7 : Hid (PsJ p n w ts (j0 + 1) g' cp' (xs ++ [b]) us' w') := by
                  have hb7 : Below w6.heap.size w6 (w6.alloc (Obj.cells #[.int .u8 (b.toNat : Int)] 5)) := (Below.refl _ _).alloc (Nat.le_refl _) _
                  have hC : Chg (fun j => j = g) (w6.alloc (Obj.cells #[.int .u8 (b.toNat : Int)] 5)) w' := Chg.of_grown hgr (fun j hj => by cases hj; rfl)
                  have hJ' := HJ6.out.move hb7
                  exact ⟨HB.out.2, HP.out, hO', hJ'.res.chg hC (by omega), Chg.below hJ'.below hC hJ'.below.size (fun j q => by omega)⟩
                clear hO' hgr hat
                go_wp2_with fail
                go_roundw
                case rel => exact ⟨j0 + 1, g', cp', xs ++ [b], us', by go_num, by omega, by simp; omega, by simp, HJ7.out⟩
                case measure => simp [intOf]; omega
              · skip
                have HSp : Hid (Calls Tryd.prog 26 #[.int .u8 92] w6 fun e w' => e = .returned (.bool true) ∧ w' = w6) := l4Special_core 92 w6
                go_wp2_with fail
                refine HSp.out.mono ?_
                rintro e' w7 ⟨rfl, hw7⟩
                rw [hw7]
                clear hw7
                go_wp2_with (at_builtin; refine wpList_append_bys _ rfl _ _ rfl (w.heap.size + 1) g cp xs.length w6.heap.size 0 1 1 xs [b] rfl rfl rfl rfl ?hO ?hc ?hl ?hb ?_)
                case hO => exact HJ6.out.own.below ((Below.refl _ _).alloc (Nat.le_refl _) _)
                case hc => exact (ownY_one w6 (Nat.le_refl _) b rfl).at
                case hl => first | omega | (simp; omega)
                case hb => first | omega | (simp; omega)
                intro g' cp' w' hO' hgr hat
                have HJ7 : Hid (PsJ p n w ts (j0 + 1) g' cp' (xs ++ [b]) us' w') := by
                  have hb7 : Below w6.heap.size w6 (w6.alloc (Obj.cells #[.int .u8 (b.toNat : Int)] 5)) := (Below.refl _ _).alloc (Nat.le_refl _) _
                  have hC : Chg (fun j => j = g) (w6.alloc (Obj.cells #[.int .u8 (b.toNat : Int)] 5)) w' := Chg.of_grown hgr (fun j hj => by cases hj; rfl)
                  have hJ' := HJ6.out.move hb7
                  exact ⟨HB.out.2, HP.out, hO', hJ'.res.chg hC (by omega), Chg.below hJ'.below hC hJ'.below.size (fun j q => by omega)⟩
                clear hO' hgr hat
                go_wp2_with fail
                go_roundw
                case rel => exact ⟨j0 + 1, g', cp', xs ++ [b], us', by go_num, by omega, by simp; omega, by simp, HJ7.out⟩
                case measure => simp [intOf]; omega
          · have HP : Hid (prefM ts = (xs, false)) := by
              show prefM ts = _
              rw [HJ6.out.pre, HSt.out.1, prefM_not hnb]; simp
            clear HSt hnb
            rcases hw with ⟨hs, h92⟩ | ⟨hs, d, hd, hop, hjl⟩
            · have z92 : ((c.toNat : Int) != 92) = true := by have := ne_u8 (c := 92) h92; simpa using this
              have HSp : Hid (Calls Tryd.prog 26 #[.int .u8 (c.toNat : Int)] w6 fun e w' => e = .returned (.bool true) ∧ w' = w6) := by
                have := l4Special_core c w6
                rw [decide_eq_true hs] at this
                exact this
              clear hs h92
              go_wp2_with fail
              refine HSp.out.mono ?_
              rintro e' w7 ⟨rfl, hw7⟩
              rw [hw7]
              clear hw7
              have hcv := conv_ownY HJ6.out.own
              have r0 := HJ6.out.res.cell (j := 0) rfl
              have r1 := HJ6.out.res.cell (j := 1) rfl
              have f0 := HJ6.out.res.frozen 0
              have f1 := HJ6.out.res.frozen 1
              obtain ⟨W9, hW9⟩ : ∃ W9 : World, W9 = set2 w6 w.heap.size (.string ⟨xs.toArray⟩) (.bool false) := ⟨_, rfl⟩
              have HW9 : Hid (BoxAt W9 w.heap.size 27 2 w.heap.size [.string ⟨xs.toArray⟩, .bool false] ∧ Below w.heap.size w W9) := by
                rw [hW9]; exact ⟨set2_cells HJ6.out.res _ _, below_set (below_set HJ6.out.below (Nat.le_refl _) 0 _) (Nat.le_refl _) 1 _⟩
              have p0 := HW9.out.1.cell (j := 0) rfl
              have p1 := HW9.out.1.cell (j := 1) rfl
              unfold set2 at hW9
              go_wp2_with fail
              rw [← hW9, HP.out]
              refine bodyPost_ret (v := .agg #[.string ⟨xs.toArray⟩, .bool false]) (by simp [results, Tryd.results8, go_sem, p0, p1]) rfl ⟨rfl, HW9.out.2⟩
            · obtain ⟨_, gd⟩ := sb_get hd
              have zjl : (j : Int) < (p.size : Int) := by omega
              have HOp : Hid (Calls Tryd.prog 27 #[.int .u8 (d.toNat : Int)] w6 fun e w' => e = .returned (.bool true) ∧ w' = w6) := by
                have := l4Op_core d w6
                rw [decide_eq_true hop] at this
                exact this
              clear hd hop
              rcases hs with hs | rfl
              · skip
                have HSp : Hid (Calls Tryd.prog 26 #[.int .u8 (c.toNat : Int)] w6 fun e w' => e = .returned (.bool false) ∧ w' = w6) := by
                  have := l4Special_core c w6
                  rw [decide_eq_false hs] at this
                  exact this
                clear hs
                go_wp2_with fail
                refine HSp.out.mono ?_
                rintro e' w7 ⟨rfl, hw7⟩
                rw [hw7]
                clear hw7
                go_wp2_with fail
                refine HOp.out.mono ?_
                rintro e' w8 ⟨rfl, hw8⟩
                rw [hw8]
                clear hw8
                have hcv := conv_ownY HJ6.out.own
                have r0 := HJ6.out.res.cell (j := 0) rfl
                have r1 := HJ6.out.res.cell (j := 1) rfl
                have f0 := HJ6.out.res.frozen 0
                have f1 := HJ6.out.res.frozen 1
                obtain ⟨W9, hW9⟩ : ∃ W9 : World, W9 = set2 w6 w.heap.size (.string ⟨xs.toArray⟩) (.bool false) := ⟨_, rfl⟩
                have HW9 : Hid (BoxAt W9 w.heap.size 27 2 w.heap.size [.string ⟨xs.toArray⟩, .bool false] ∧ Below w.heap.size w W9) := by
                  rw [hW9]; exact ⟨set2_cells HJ6.out.res _ _, below_set (below_set HJ6.out.below (Nat.le_refl _) 0 _) (Nat.le_refl _) 1 _⟩
                have p0 := HW9.out.1.cell (j := 0) rfl
                have p1 := HW9.out.1.cell (j := 1) rfl
                unfold set2 at hW9
                go_wp2_with fail
                rw [← hW9, HP.out]
                refine bodyPost_ret (v := .agg #[.string ⟨xs.toArray⟩, .bool false]) (by simp [results, Tryd.results8, go_sem, p0, p1]) rfl ⟨rfl, HW9.out.2⟩
              · skip
                have HSp : Hid (Calls Tryd.prog 26 #[.int .u8 92] w6 fun e w' => e = .returned (.bool true) ∧ w' = w6) := l4Special_core 92 w6
                go_wp2_with fail
                refine HSp.out.mono ?_
                rintro e' w7 ⟨rfl, hw7⟩
                rw [hw7]
                clear hw7
                go_wp2_with fail
                refine HOp.out.mono ?_
                rintro e' w8 ⟨rfl, hw8⟩
                rw [hw8]
                clear hw8
                have hcv := conv_ownY HJ6.out.own
                have r0 := HJ6.out.res.cell (j := 0) rfl
                have r1 := HJ6.out.res.cell (j := 1) rfl
                have f0 := HJ6.out.res.frozen 0
                have f1 := HJ6.out.res.frozen 1
                obtain ⟨W9, hW9⟩ : ∃ W9 : World, W9 = set2 w6 w.heap.size (.string ⟨xs.toArray⟩) (.bool false) := ⟨_, rfl⟩
                have HW9 : Hid (BoxAt W9 w.heap.size 27 2 w.heap.size [.string ⟨xs.toArray⟩, .bool false] ∧ Below w.heap.size w W9) := by
                  rw [hW9]; exact ⟨set2_cells HJ6.out.res _ _, below_set (below_set HJ6.out.below (Nat.le_refl _) 0 _) (Nat.le_refl _) 1 _⟩
                have p0 := HW9.out.1.cell (j := 0) rfl
                have p1 := HW9.out.1.cell (j := 1) rfl
                unfold set2 at hW9
                go_wp2_with fail
                rw [← hW9, HP.out]
                refine bodyPost_ret (v := .agg #[.string ⟨xs.toArray⟩, .bool false]) (by simp [results, Tryd.results8, go_sem, p0, p1]) rfl ⟨rfl, HW9.out.2⟩
        · have zi : ¬ (i : Int) < (p.size : Int) := by omega
          obtain rfl : i = p.size := by omega
          have HP : Hid (prefM ts = (xs, true)) := by
            show prefM ts = _
            rw [HJ.out.pre, seq_done HJ.out.seq (by rw [sb_len]; exact Nat.le_refl _)]; simp [prefM]
          have hcv := conv_ownY HJ.out.own
          have r0 := HJ.out.res.cell (j := 0) rfl
          have r1 := HJ.out.res.cell (j := 1) rfl
          have f0 := HJ.out.res.frozen 0
          have f1 := HJ.out.res.frozen 1
          obtain ⟨W9, hW9⟩ : ∃ W9 : World, W9 = set2 wr w.heap.size (.string ⟨xs.toArray⟩) (.bool true) := ⟨_, rfl⟩
          have HW9 : Hid (BoxAt W9 w.heap.size 27 2 w.heap.size [.string ⟨xs.toArray⟩, .bool true] ∧ Below w.heap.size w W9) := by
            rw [hW9]; exact ⟨set2_cells HJ.out.res _ _, below_set (below_set HJ.out.below (Nat.le_refl _) 0 _) (Nat.le_refl _) 1 _⟩
          have p0 := HW9.out.1.cell (j := 0) rfl
          have p1 := HW9.out.1.cell (j := 1) rfl
          unfold set2 at hW9
          go_wp2_with fail
          rw [← hW9, HP.out]
          refine bodyPost_ret (v := .agg #[.string ⟨xs.toArray⟩, .bool true]) (by simp [results, Tryd.results8, go_sem, p0, p1]) rfl ⟨rfl, HW9.out.2⟩
    · have hr0 : r = ([], false) := by
        have h1 := HT.out.1
        rw [HRo.out]
        match os, h1 with
        | [], _ => rfl
        | [_], h1 => simp at h1; omega
        | _ :: _ :: _, _ => rfl
      subst hr0
      have zm : (1 : Int) < (m : Int) + 1 := by omega
      have HZ9 := HZ.out w2 HW2.out.1 HW2.out.2.1
      have p0 := HZ9.out.1.cell (j := 0) rfl
      have p1 := HZ9.out.1.cell (j := 1) rfl
      obtain ⟨W9, hW9⟩ : ∃ W9 : World, W9 = (w2.setCell ⟨w.heap.size, 0, none⟩ (.string ⟨#[]⟩)).setCell ⟨w.heap.size, 1, none⟩ (.bool false) := ⟨_, rfl⟩
      rw [← hW9] at p0 p1 HZ9
      go_wp2_with fail
      rw [← hW9]
      refine bodyPost_ret (v := .agg #[.string ⟨#[]⟩, .bool false]) (by simp [results, Tryd.results8, go_sem, p0, p1]) rfl ⟨rfl, HZ9.out.2⟩
  · have hr0 : r = ([], false) := HR.out.1 (by rw [← HC.out]; exact hc0)
    subst hr0
    have zc : (c != 0) = true := by simpa using hc0
    clear HR HC
    go_wp2_with fail
    refine (HS.out W0).mono ?_
    rintro e w1 ⟨rfl, hb1⟩
    have HW1 : Hid (BoxAt w1 w.heap.size 27 2 w.heap.size [.string ⟨#[]⟩, .bool false] ∧ Below w.heap.size w w1) := ⟨HW0.out.1.below hb1, HW0.out.2.1.trans (hb1.mono s0)⟩
    clear hb1 HW0
    have r0 := HW1.out.1.cell (j := 0) rfl
    have r1 := HW1.out.1.cell (j := 1) rfl
    have f0 := HW1.out.1.frozen 0
    have f1 := HW1.out.1.frozen 1
    have HZ9 := HZ.out w1 HW1.out.1 HW1.out.2
    have p0 := HZ9.out.1.cell (j := 0) rfl
    have p1 := HZ9.out.1.cell (j := 1) rfl
    obtain ⟨W9, hW9⟩ : ∃ W9 : World, W9 = (w1.setCell ⟨w.heap.size, 0, none⟩ (.string ⟨#[]⟩)).setCell ⟨w.heap.size, 1, none⟩ (.bool false) := ⟨_, rfl⟩
    rw [← hW9] at p0 p1 HZ9
    go_wp2_with fail
    rw [← hW9]
    refine bodyPost_ret (v := .agg #[.string ⟨#[]⟩, .bool false]) (by simp [results, Tryd.results8, go_sem, p0, p1]) rfl ⟨rfl, HZ9.out.2⟩
end Go.Proofs.YtgiigiegjaagbaaDoor

/-
  The walk of the law FnRegex.
-/
namespace Go.Proofs.YtgiigiegjaagbaaDoor
open Go.ChangeShapes Go.WideShapes Go.ChangeAt Go.RowKit Go.Deep
set_option linter.unusedVariables false
set_option linter.unusedSimpArgs false
set_option maxRecDepth 100000

theorem baInj2 {a b : ByteArray} (h : a.toList = b.toList) : a = b := by
  rw [ByteArray.toList_eq, ByteArray.toList_eq] at h
  cases a with
  | mk a => cases b with
    | mk b =>
      simp only at h
      congr 1
      exact Array.toList_inj.1 h
structure RgF (p s c : ByteArray) (b k : Bool) (er : Int) : Prop where
  bad : ¬ er = 0 → b = false ∧ c = ⟨#[]⟩
  word : b = true → c.size ≤ s.size ∧ s.extract 0 c.size = c
  exact : er = 0 → k = true → (b = true ↔ s = c)
  spec : ∀ w, Calls Tryd.prog 5 #[.string p, .string s] w fun e w' => e = .returned (.bool b) ∧ Below w.heap.size w w'
  impl : ∀ w, TabD w → Calls Tryd.prog 7 #[.string p, .string s] w fun e w' => e = .returned (.bool b) ∧ Below w.heap.size w w'
  pi : ∀ w, Calls Tryd.prog 6 #[.string p] w fun e w' => e = .returned (.agg #[.string c, .bool k]) ∧ Below w.heap.size w w'
  ps : ∀ w, Calls Tryd.prog 8 #[.string p] w fun e w' => e = .returned (.agg #[.string c, .bool k]) ∧ Below w.heap.size w w'
  again : ∀ w, TabD w → er = 0 → k = true → Calls Tryd.prog 7 #[.string p, .string c] w fun e w' => e = .returned (.bool true) ∧ Below w.heap.size w w'
theorem rgF (p s : ByteArray) (hp : p.size ≤ maxLen) : ∃ (c : ByteArray) (b k : Bool), RgF p s c b k (checkM (sb p)).1 := by
  obtain ⟨r, hr⟩ := prefIs_some p hp
  obtain ⟨b, hb⟩ := matB_some p s hp
  obtain ⟨b2, hb2⟩ := matB_some p ⟨r.1.toArray⟩ hp
  refine ⟨⟨r.1.toArray⟩, b, r.2, fun q => ?_, fun q => ?_, fun q z => mat_exact hp hb hr q z, specMatch_at hb hp, implMatch_at hb hp, fun w => implPrefix_core p w hp r hr, fun w => specPrefix_core p w hp r hr, fun w ht q z => ?_⟩
  · obtain ⟨h1, h2⟩ := mat_bad hb hr q
    exact ⟨h1, by rw [h2]⟩
  · have := mat_word hp hb hr q
    have e : (⟨r.1.toArray⟩ : ByteArray).size = r.1.length := by show r.1.toArray.size = _; simp
    rw [e]
    exact this
  · obtain rfl : b2 = true := (mat_exact hp hb2 hr q z).2 rfl
    exact implMatch_at hb2 hp w ht
set_option maxHeartbeats 8000000 in
theorem fnRegex_walk (v : Value) (n : Nat) (w : World) (h : BytesIn w v n) (hg : TabD w) : Calls Tryd.prog 3 #[v] w fun e w' => e = .returned (.bool true) ∧ Below w.heap.size w w' := by
  obtain ⟨a, cap, hv⟩ := h.slice
  subst hv
  have HI : Hid (BytesIn w (.slice a n cap) n ∧ TabD w) := ⟨h, hg⟩
  have hr := h.1
  unfold maxLen at hr
  clear h hg
  by_cases hbig : 1048576 < n
  · have z : (1048576 : Int) < (n : Int) := by omega
    go_enter Tryd.func3, Tryd.ntmps3
    go_wp2_with fail
    go_ret
    exact ⟨rfl, Below.refl _ _⟩
  have h1 : n ≤ 1048576 := by omega
  have z : ¬ (1048576 : Int) < (n : Int) := by omega
  go_enter Tryd.func3, Tryd.ntmps3
  go_wp2_with fail
  refine (drawMatch_core _ n _ (HI.out.1.code h1)).mono ?_
  rintro e w1 ⟨p, s, rfl, hp, hs, hb1⟩
  have hpm : p.size ≤ maxLen := by unfold maxLen; omega
  obtain ⟨c, b, k, hF⟩ := rgF p s hpm
  obtain ⟨er, her⟩ : ∃ er : Int, er = (checkM (sb p)).1 := ⟨_, rfl⟩
  obtain ⟨ea, hea⟩ : ∃ ea : Int, ea = ((checkM (sb p)).2 : Int) := ⟨_, rfl⟩
  rw [← her] at hF
  have HF : Hid (RgF p s c b k er) := hF
  have HCI : Hid (∀ w, Calls Tryd.prog 9 #[.string p] w fun e w' => e = .returned (.agg #[.int .i64 er, .int .i64 ea]) ∧ Below w.heap.size w w') := fun w => by
    rw [her, hea]; exact implCheck_core p w hpm
  have HCS : Hid (∀ w, Calls Tryd.prog 10 #[.string p] w fun e w' => e = .returned (.agg #[.int .i64 er, .int .i64 ea]) ∧ Below w.heap.size w w') := fun w => by
    rw [her, hea]; exact specCheck_core p w hpm
  clear her hea hF hpm
  have HT : Hid (∀ wx, Below w.heap.size w wx → TabD wx) := fun wx hx => HI.out.2.chg (S := fun _ => False) (Chg.of_below hx) (fun q => q)
  have HB1 : Hid (Below w.heap.size w w1) := hb1
  clear hb1
  go_wp2_with fail
  refine (HF.out.spec w1).mono ?_
  rintro e w2 ⟨rfl, hb2⟩
  have HB2 : Hid (Below w.heap.size w w2) := HB1.out.trans (hb2.mono HB1.out.size)
  clear hb2
  go_wp2_with fail
  refine (HF.out.pi w2).mono ?_
  rintro e w3 ⟨rfl, hb3⟩
  have HB3 : Hid (Below w.heap.size w w3) := HB2.out.trans (hb3.mono HB2.out.size)
  clear hb3
  obtain ⟨W3, hW3⟩ : ∃ W3 : World, W3 = w3.alloc (Obj.cells #[.string c, .bool k] 27) := ⟨_, rfl⟩
  have HW3 : Hid (BoxAt W3 w.heap.size 27 2 w3.heap.size [.string c, .bool k] ∧ Below w.heap.size w W3) := by
    rw [hW3]; exact ⟨boxAt_new w3 _ HB3.out.size rfl, HB3.out.trans ((Below.refl _ _).alloc HB3.out.size _)⟩
  obtain ⟨pb, hpb⟩ : ∃ pb, pb = w3.heap.size := ⟨_, rfl⟩
  rw [← hpb] at HW3
  go_upto_region 6 with fail
  rw [← hW3, ← hpb]
  clear hW3 hpb HB3
  have HS : Hid (∀ wx, Below W3.heap.size W3 wx → wx.cell? ⟨pb, 0, none⟩ = some (.string c) ∧ wx.cell? ⟨pb, 1, none⟩ = some (.bool k) ∧ TabD wx ∧ Below w.heap.size w wx) := fun wx hx => by
    have hk := HW3.out.2.trans (hx.mono HW3.out.2.size)
    have hbx := HW3.out.1.below hx
    exact ⟨hbx.cell (j := 0) rfl, hbx.cell (j := 1) rfl, HT.out wx hk, hk⟩
  --6
  have hS0 : (fun w' : World => w'.cell? ⟨pb, 0, none⟩ = some (.string c) ∧ w'.cell? ⟨pb, 1, none⟩ = some (.bool k)) W3.drew := ⟨(HS.out W3 (Below.refl _ _)).1, (HS.out W3 (Below.refl _ _)).2.1⟩
  have HBd : Hid (Below W3.heap.size W3 W3.drew) := (Below.refl _ _).drew
  have HMI : Hid (Calls Tryd.prog 7 #[.string p, .string s] W3.drew fun e w' => e = .returned (.bool b) ∧ Below W3.drew.heap.size W3.drew w') := HF.out.impl W3.drew (HS.out _ HBd.out).2.2.1
  refine wp_region_T 99 (fun w' : World => w'.cell? ⟨pb, 0, none⟩ = some (.string c) ∧ w'.cell? ⟨pb, 1, none⟩ = some (.bool k)) (by kernel_rfl) ?_
  refine anyT_takeN (i := 0) (v := ?vrw0) rfl (by kernel_rfl) (by kernel_rfl) (by kernel_rfl) (by rfl) (fun _ _ _ h => h) (Or.inl ⟨by rfl, ?yrw0⟩) hS0 ?_
  case yrw0 => (intro wz hSw; obtain ⟨hz0, hz1⟩ := hSw; go_simp; (try with_reducible rfl))
  try simp only [Act.put, List.getElem_toArray, List.getElem_cons_zero, List.getElem_cons_succ, List.setIfInBounds_toArray, List.set_cons_zero, List.set_cons_succ]
  refine anyT_takeN (i := 1) (v := ?vrw1) rfl (by kernel_rfl) (by kernel_rfl) (by kernel_rfl) (by rfl) (fun _ _ _ h => h) (Or.inl ⟨by rfl, ?yrw1⟩) hS0 ?_
  case yrw1 => (intro wz hSw; obtain ⟨hz0, hz1⟩ := hSw; go_simp; (try with_reducible rfl))
  try simp only [Act.put, List.getElem_toArray, List.getElem_cons_zero, List.getElem_cons_succ, List.setIfInBounds_toArray, List.set_cons_zero, List.set_cons_succ]
  refine anyT_takeN (i := 3) (v := ?vrw3) rfl (by kernel_rfl) (by kernel_rfl) (by kernel_rfl) (by rfl) (fun _ _ _ h => h) (Or.inl ⟨by rfl, ?yrw3⟩) hS0 ?_
  case yrw3 => (intro wz hSw; obtain ⟨hz0, hz1⟩ := hSw; go_simp; (try with_reducible rfl))
  try simp only [Act.put, List.getElem_toArray, List.getElem_cons_zero, List.getElem_cons_succ, List.setIfInBounds_toArray, List.set_cons_zero, List.set_cons_succ]
  refine anyT_one (i := 2) (by kernel_rfl) rfl (fun K hK => ?_)
  go_simp
  go_at_call 7
  refine HMI.out.mono ?_
  rintro e w4 ⟨rfl, hb4⟩
  have HBw4 : Hid (Below W3.heap.size W3 w4) := HBd.out.trans (hb4.mono HBd.out.size)
  have hSw4 : (fun w' : World => w'.cell? ⟨pb, 0, none⟩ = some (.string c) ∧ w'.cell? ⟨pb, 1, none⟩ = some (.bool k)) w4 := ⟨(HS.out w4 HBw4.out).1, (HS.out w4 HBw4.out).2.1⟩
  clear hb4
  refine hK.out _ _ (.inr hSw4) ?_
  clear hK
  try simp only [Act.put, List.getElem_toArray, List.getElem_cons_zero, List.getElem_cons_succ, List.setIfInBounds_toArray, List.set_cons_zero, List.set_cons_succ]
  refine anyT_takeN (i := 4) (v := .bool false) rfl (by kernel_rfl) (by kernel_rfl) (by kernel_rfl) (by rfl) (fun _ _ _ h => h) (Or.inl ⟨by rfl, ?yrw4⟩) hSw4 ?_
  case yrw4 => (intro wz hSw; obtain ⟨hz0, hz1⟩ := hSw; go_simp; (try simp); (try with_reducible rfl))
  try simp only [Act.put, List.getElem_toArray, List.getElem_cons_zero, List.getElem_cons_succ, List.setIfInBounds_toArray, List.set_cons_zero, List.set_cons_succ]
  refine anyT_takeN (i := 5) (v := ?vrw5) rfl (by kernel_rfl) (by kernel_rfl) (by kernel_rfl) (by rfl) (fun _ _ _ h => h) (Or.inl ⟨by rfl, ?yrw5⟩) hSw4 ?_
  case yrw5 => (intro wz hSw; obtain ⟨hz0, hz1⟩ := hSw; go_simp; (try with_reducible rfl))
  try simp only [Act.put, List.getElem_toArray, List.getElem_cons_zero, List.getElem_cons_succ, List.setIfInBounds_toArray, List.set_cons_zero, List.set_cons_succ]
  refine anyT_takeN (i := 6) (v := ?vrw6) rfl (by kernel_rfl) (by kernel_rfl) (by kernel_rfl) (by rfl) (fun _ _ _ h => h) (Or.inl ⟨by rfl, ?yrw6⟩) hSw4 ?_
  case yrw6 => (intro wz hSw; obtain ⟨hz0, hz1⟩ := hSw; go_simp; (try with_reducible rfl))
  try simp only [Act.put, List.getElem_toArray, List.getElem_cons_zero, List.getElem_cons_succ, List.setIfInBounds_toArray, List.set_cons_zero, List.set_cons_succ]
  refine anyT_takeN (i := 7) (v := ?vrw7) rfl (by kernel_rfl) (by kernel_rfl) (by kernel_rfl) (by rfl) (fun _ _ _ h => h) (Or.inl ⟨by rfl, ?yrw7⟩) hSw4 ?_
  case yrw7 => (intro wz hSw; obtain ⟨hz0, hz1⟩ := hSw; go_simp; (try with_reducible rfl))
  try simp only [Act.put, List.getElem_toArray, List.getElem_cons_zero, List.getElem_cons_succ, List.setIfInBounds_toArray, List.set_cons_zero, List.set_cons_succ]
  refine anyT_one (i := 8) (by kernel_rfl) rfl (fun K hK => ?_)
  go_simp
  go_at_call 8
  refine (HF.out.ps w4).mono ?_
  rintro e w5 ⟨rfl, hb5⟩
  have HBw5 : Hid (Below W3.heap.size W3 w5) := HBw4.out.trans (hb5.mono HBw4.out.size)
  have hSw5 : (fun w' : World => w'.cell? ⟨pb, 0, none⟩ = some (.string c) ∧ w'.cell? ⟨pb, 1, none⟩ = some (.bool k)) w5 := ⟨(HS.out w5 HBw5.out).1, (HS.out w5 HBw5.out).2.1⟩
  clear hb5
  refine hK.out _ _ (.inr hSw5) ?_
  clear hK
  try simp only [Act.put, List.getElem_toArray, List.getElem_cons_zero, List.getElem_cons_succ, List.setIfInBounds_toArray, List.set_cons_zero, List.set_cons_succ]
  refine anyT_takeN (i := 9) (v := .bool false) rfl (by kernel_rfl) (by kernel_rfl) (by kernel_rfl) (by rfl) (fun _ _ _ h => h) (Or.inl ⟨by rfl, ?yrw9⟩) hSw5 ?_
  case yrw9 => (intro wz hSw; obtain ⟨hz0, hz1⟩ := hSw; go_simp; (try simp); (try with_reducible rfl))
  try simp only [Act.put, List.getElem_toArray, List.getElem_cons_zero, List.getElem_cons_succ, List.setIfInBounds_toArray, List.set_cons_zero, List.set_cons_succ]
  refine anyT_takeN (i := 10) (v := ?vrw10) rfl (by kernel_rfl) (by kernel_rfl) (by kernel_rfl) (by rfl) (fun _ _ _ h => h) (Or.inl ⟨by rfl, ?yrw10⟩) hSw5 ?_
  case yrw10 => (intro wz hSw; obtain ⟨hz0, hz1⟩ := hSw; go_simp; (try with_reducible rfl))
  try simp only [Act.put, List.getElem_toArray, List.getElem_cons_zero, List.getElem_cons_succ, List.setIfInBounds_toArray, List.set_cons_zero, List.set_cons_succ]
  refine anyT_takeN (i := 11) (v := ?vrw11) rfl (by kernel_rfl) (by kernel_rfl) (by kernel_rfl) (by rfl) (fun _ _ _ h => h) (Or.inl ⟨by rfl, ?yrw11⟩) hSw5 ?_
  case yrw11 => (intro wz hSw; obtain ⟨hz0, hz1⟩ := hSw; go_simp; (try with_reducible rfl))
  try simp only [Act.put, List.getElem_toArray, List.getElem_cons_zero, List.getElem_cons_succ, List.setIfInBounds_toArray, List.set_cons_zero, List.set_cons_succ]
  refine anyT_takeN (i := 12) (v := ?vrw12) rfl (by kernel_rfl) (by kernel_rfl) (by kernel_rfl) (by rfl) (fun _ _ _ h => h) (Or.inl ⟨by rfl, ?yrw12⟩) hSw5 ?_
  case yrw12 => (intro wz hSw; obtain ⟨hz0, hz1⟩ := hSw; go_simp; (try with_reducible rfl))
  try simp only [Act.put, List.getElem_toArray, List.getElem_cons_zero, List.getElem_cons_succ, List.setIfInBounds_toArray, List.set_cons_zero, List.set_cons_succ]
  refine anyT_takeN (i := 14) (v := ?vrw14) rfl (by kernel_rfl) (by kernel_rfl) (by kernel_rfl) (by rfl) (fun _ _ _ h => h) (Or.inl ⟨by rfl, ?yrw14⟩) hSw5 ?_
  case yrw14 => (intro wz hSw; obtain ⟨hz0, hz1⟩ := hSw; go_simp; (try with_reducible rfl))
  try simp only [Act.put, List.getElem_toArray, List.getElem_cons_zero, List.getElem_cons_succ, List.setIfInBounds_toArray, List.set_cons_zero, List.set_cons_succ]
  refine anyT_one (i := 13) (by kernel_rfl) rfl (fun K hK => ?_)
  go_simp
  go_at_call 9
  refine (HCI.out w5).mono ?_
  rintro e w6 ⟨rfl, hb6⟩
  have HBw6 : Hid (Below W3.heap.size W3 w6) := HBw5.out.trans (hb6.mono HBw5.out.size)
  have hSw6 : (fun w' : World => w'.cell? ⟨pb, 0, none⟩ = some (.string c) ∧ w'.cell? ⟨pb, 1, none⟩ = some (.bool k)) w6 := ⟨(HS.out w6 HBw6.out).1, (HS.out w6 HBw6.out).2.1⟩
  clear hb6
  refine hK.out _ _ (.inr hSw6) ?_
  clear hK
  try simp only [Act.put, List.getElem_toArray, List.getElem_cons_zero, List.getElem_cons_succ, List.setIfInBounds_toArray, List.set_cons_zero, List.set_cons_succ]
  refine anyT_one (i := 15) (by kernel_rfl) rfl (fun K hK => ?_)
  go_simp
  go_at_call 10
  refine (HCS.out w6).mono ?_
  rintro e w7 ⟨rfl, hb7⟩
  have HBw7 : Hid (Below W3.heap.size W3 w7) := HBw6.out.trans (hb7.mono HBw6.out.size)
  have hSw7 : (fun w' : World => w'.cell? ⟨pb, 0, none⟩ = some (.string c) ∧ w'.cell? ⟨pb, 1, none⟩ = some (.bool k)) w7 := ⟨(HS.out w7 HBw7.out).1, (HS.out w7 HBw7.out).2.1⟩
  clear hb7
  refine hK.out _ _ (.inr hSw7) ?_
  clear hK
  try simp only [Act.put, List.getElem_toArray, List.getElem_cons_zero, List.getElem_cons_succ, List.setIfInBounds_toArray, List.set_cons_zero, List.set_cons_succ]
  refine anyT_takeN (i := 16) (v := .bool false) rfl (by kernel_rfl) (by kernel_rfl) (by kernel_rfl) (by rfl) (fun _ _ _ h => h) (Or.inl ⟨by rfl, ?yrw16⟩) hSw7 ?_
  case yrw16 => (intro wz hSw; obtain ⟨hz0, hz1⟩ := hSw; go_simp; (try simp); (try with_reducible rfl))
  try simp only [Act.put, List.getElem_toArray, List.getElem_cons_zero, List.getElem_cons_succ, List.setIfInBounds_toArray, List.set_cons_zero, List.set_cons_succ]
  refine anyT_takeN (i := 17) (v := .bool false) rfl (by kernel_rfl) (by kernel_rfl) (by kernel_rfl) (by rfl) (fun _ _ _ h => h) (Or.inl ⟨by rfl, ?yrw17⟩) hSw7 ?_
  case yrw17 => (intro wz hSw; obtain ⟨hz0, hz1⟩ := hSw; go_simp; (try with_reducible rfl))
  try simp only [Act.put, List.getElem_toArray, List.getElem_cons_zero, List.getElem_cons_succ, List.setIfInBounds_toArray, List.set_cons_zero, List.set_cons_succ]
  refine anyT_done (by kernel_rfl) ?_
  have hf := reg_fieldR er ea
  go_wp2_with fail
  refine (HCS.out w7).mono ?_
  rintro e w8 ⟨rfl, hb8⟩
  have HBw8 : Hid (Below W3.heap.size W3 w8) := HBw7.out.trans (hb8.mono HBw7.out.size)
  have hSw8 : (fun w' : World => w'.cell? ⟨pb, 0, none⟩ = some (.string c) ∧ w'.cell? ⟨pb, 1, none⟩ = some (.bool k)) w8 := ⟨(HS.out w8 HBw8.out).1, (HS.out w8 HBw8.out).2.1⟩
  clear hb8 hS0 hSw4 hSw5 hSw6 hSw7
  have hfd := hf w8
  clear hf
  have HBF : Hid (Below w.heap.size w w8) := (HS.out w8 HBw8.out).2.2.2
  have c0 := hSw8.1
  have c1 := hSw8.2
  by_cases her : er = 0
  · subst her
    go_upto_region 10 with fail
    have hS0 : (fun w' : World => w'.cell? ⟨pb, 0, none⟩ = some (.string c) ∧ w'.cell? ⟨pb, 1, none⟩ = some (.bool k)) w8.drew := hSw8
    clear c0 c1
    have HBd8 : Hid (Below W3.heap.size W3 w8.drew) := HBw8.out.trans (((Below.refl _ _).drew).mono HBw8.out.size)
    cases b
    · refine wp_region_T 99 (fun w' : World => w'.cell? ⟨pb, 0, none⟩ = some (.string c) ∧ w'.cell? ⟨pb, 1, none⟩ = some (.bool k)) (by kernel_rfl) ?_
      refine anyT_takeN (i := 0) (v := ?vrf0) rfl (by kernel_rfl) (by kernel_rfl) (by kernel_rfl) (by rfl) (fun _ _ _ h => h) (Or.inl ⟨by rfl, ?yrf0⟩) hS0 ?_
      case yrf0 => (intro wz hSw; obtain ⟨hz0, hz1⟩ := hSw; go_simp; (try with_reducible rfl))
      try simp only [Act.put, List.getElem_toArray, List.getElem_cons_zero, List.getElem_cons_succ, List.setIfInBounds_toArray, List.set_cons_zero, List.set_cons_succ]
      refine anyT_takeN (i := 1) (v := ?vrf1) rfl (by kernel_rfl) (by kernel_rfl) (by kernel_rfl) (by rfl) (fun _ _ _ h => h) (Or.inl ⟨by rfl, ?yrf1⟩) hS0 ?_
      case yrf1 => (intro wz hSw; obtain ⟨hz0, hz1⟩ := hSw; go_simp; (try with_reducible rfl))
      try simp only [Act.put, List.getElem_toArray, List.getElem_cons_zero, List.getElem_cons_succ, List.setIfInBounds_toArray, List.set_cons_zero, List.set_cons_succ]
      refine anyT_takeN (i := 2) (v := undef) rfl (by kernel_rfl) (by kernel_rfl) (by kernel_rfl) (by rfl) (fun _ _ _ h => h) (Or.inr ⟨by rfl, rfl⟩) hS0 ?_
      try simp only [Act.put, List.getElem_toArray, List.getElem_cons_zero, List.getElem_cons_succ, List.setIfInBounds_toArray, List.set_cons_zero, List.set_cons_succ]
      refine anyT_takeN (i := 3) (v := undef) rfl (by kernel_rfl) (by kernel_rfl) (by kernel_rfl) (by rfl) (fun _ _ _ h => h) (Or.inr ⟨by rfl, rfl⟩) hS0 ?_
      try simp only [Act.put, List.getElem_toArray, List.getElem_cons_zero, List.getElem_cons_succ, List.setIfInBounds_toArray, List.set_cons_zero, List.set_cons_succ]
      refine anyT_takeN (i := 4) (v := undef) rfl (by kernel_rfl) (by kernel_rfl) (by kernel_rfl) (by rfl) (fun _ _ _ h => h) (Or.inr ⟨by rfl, rfl⟩) hS0 ?_
      try simp only [Act.put, List.getElem_toArray, List.getElem_cons_zero, List.getElem_cons_succ, List.setIfInBounds_toArray, List.set_cons_zero, List.set_cons_succ]
      refine anyT_takeN (i := 5) (v := undef) rfl (by kernel_rfl) (by kernel_rfl) (by kernel_rfl) (by rfl) (fun _ _ _ h => h) (Or.inr ⟨by rfl, rfl⟩) hS0 ?_
      try simp only [Act.put, List.getElem_toArray, List.getElem_cons_zero, List.getElem_cons_succ, List.setIfInBounds_toArray, List.set_cons_zero, List.set_cons_succ]
      refine anyT_takeN (i := 6) (v := undef) rfl (by kernel_rfl) (by kernel_rfl) (by kernel_rfl) (by rfl) (fun _ _ _ h => h) (Or.inr ⟨by rfl, rfl⟩) hS0 ?_
      try simp only [Act.put, List.getElem_toArray, List.getElem_cons_zero, List.getElem_cons_succ, List.setIfInBounds_toArray, List.set_cons_zero, List.set_cons_succ]
      refine anyT_takeN (i := 7) (v := undef) rfl (by kernel_rfl) (by kernel_rfl) (by kernel_rfl) (by rfl) (fun _ _ _ h => h) (Or.inr ⟨by rfl, rfl⟩) hS0 ?_
      try simp only [Act.put, List.getElem_toArray, List.getElem_cons_zero, List.getElem_cons_succ, List.setIfInBounds_toArray, List.set_cons_zero, List.set_cons_succ]
      refine anyT_takeN (i := 8) (v := undef) rfl (by kernel_rfl) (by kernel_rfl) (by kernel_rfl) (by rfl) (fun _ _ _ h => h) (Or.inr ⟨by rfl, rfl⟩) hS0 ?_
      try simp only [Act.put, List.getElem_toArray, List.getElem_cons_zero, List.getElem_cons_succ, List.setIfInBounds_toArray, List.set_cons_zero, List.set_cons_succ]
      refine anyT_takeN (i := 9) (v := undef) rfl (by kernel_rfl) (by kernel_rfl) (by kernel_rfl) (by rfl) (fun _ _ _ h => h) (Or.inr ⟨by rfl, rfl⟩) hS0 ?_
      try simp only [Act.put, List.getElem_toArray, List.getElem_cons_zero, List.getElem_cons_succ, List.setIfInBounds_toArray, List.set_cons_zero, List.set_cons_succ]
      refine anyT_takeN (i := 10) (v := undef) rfl (by kernel_rfl) (by kernel_rfl) (by kernel_rfl) (by rfl) (fun _ _ _ h => h) (Or.inr ⟨by rfl, rfl⟩) hS0 ?_
      try simp only [Act.put, List.getElem_toArray, List.getElem_cons_zero, List.getElem_cons_succ, List.setIfInBounds_toArray, List.set_cons_zero, List.set_cons_succ]
      refine anyT_takeN (i := 11) (v := undef) rfl (by kernel_rfl) (by kernel_rfl) (by kernel_rfl) (by rfl) (fun _ _ _ h => h) (Or.inr ⟨by rfl, rfl⟩) hS0 ?_
      try simp only [Act.put, List.getElem_toArray, List.getElem_cons_zero, List.getElem_cons_succ, List.setIfInBounds_toArray, List.set_cons_zero, List.set_cons_succ]
      refine anyT_takeN (i := 12) (v := undef) rfl (by kernel_rfl) (by kernel_rfl) (by kernel_rfl) (by rfl) (fun _ _ _ h => h) (Or.inr ⟨by rfl, rfl⟩) hS0 ?_
      try simp only [Act.put, List.getElem_toArray, List.getElem_cons_zero, List.getElem_cons_succ, List.setIfInBounds_toArray, List.set_cons_zero, List.set_cons_succ]
      refine anyT_takeN (i := 13) (v := undef) rfl (by kernel_rfl) (by kernel_rfl) (by kernel_rfl) (by rfl) (fun _ _ _ h => h) (Or.inr ⟨by rfl, rfl⟩) hS0 ?_
      try simp only [Act.put, List.getElem_toArray, List.getElem_cons_zero, List.getElem_cons_succ, List.setIfInBounds_toArray, List.set_cons_zero, List.set_cons_succ]
      refine anyT_takeN (i := 14) (v := undef) rfl (by kernel_rfl) (by kernel_rfl) (by kernel_rfl) (by rfl) (fun _ _ _ h => h) (Or.inr ⟨by rfl, rfl⟩) hS0 ?_
      try simp only [Act.put, List.getElem_toArray, List.getElem_cons_zero, List.getElem_cons_succ, List.setIfInBounds_toArray, List.set_cons_zero, List.set_cons_succ]
      refine anyT_takeN (i := 15) (v := undef) rfl (by kernel_rfl) (by kernel_rfl) (by kernel_rfl) (by rfl) (fun _ _ _ h => h) (Or.inr ⟨by rfl, rfl⟩) hS0 ?_
      try simp only [Act.put, List.getElem_toArray, List.getElem_cons_zero, List.getElem_cons_succ, List.setIfInBounds_toArray, List.set_cons_zero, List.set_cons_succ]
      refine anyT_takeN (i := 16) (v := undef) rfl (by kernel_rfl) (by kernel_rfl) (by kernel_rfl) (by rfl) (fun _ _ _ h => h) (Or.inr ⟨by rfl, rfl⟩) hS0 ?_
      try simp only [Act.put, List.getElem_toArray, List.getElem_cons_zero, List.getElem_cons_succ, List.setIfInBounds_toArray, List.set_cons_zero, List.set_cons_succ]
      refine anyT_takeN (i := 17) (v := undef) rfl (by kernel_rfl) (by kernel_rfl) (by kernel_rfl) (by rfl) (fun _ _ _ h => h) (Or.inr ⟨by rfl, rfl⟩) hS0 ?_
      try simp only [Act.put, List.getElem_toArray, List.getElem_cons_zero, List.getElem_cons_succ, List.setIfInBounds_toArray, List.set_cons_zero, List.set_cons_succ]
      refine anyT_takeN (i := 18) (v := .bool false) rfl (by kernel_rfl) (by kernel_rfl) (by kernel_rfl) (by rfl) (fun _ _ _ h => h) (Or.inl ⟨by rfl, ?yrf18⟩) hS0 ?_
      case yrf18 => (intro wz hSw; obtain ⟨hz0, hz1⟩ := hSw; go_simp; (try with_reducible rfl))
      try simp only [Act.put, List.getElem_toArray, List.getElem_cons_zero, List.getElem_cons_succ, List.setIfInBounds_toArray, List.set_cons_zero, List.set_cons_succ]
      refine anyT_done (by kernel_rfl) ?_
      have d0 := hS0.1
      have d1 := hS0.2
      cases k
      · go_wp2_with fail
        go_ret
        exact ⟨rfl, HBF.out.trans (((Below.refl _ _).drew).mono HBF.out.size)⟩
      · have hex := HF.out.exact rfl rfl
        have HAg : Hid (Calls Tryd.prog 7 #[.string p, .string c] w8.drew fun e w' => e = .returned (.bool true) ∧ Below w8.drew.heap.size w8.drew w') := HF.out.again w8.drew (HS.out _ HBd8.out).2.2.1 rfl rfl
        have hne : ¬ s = c := fun q => by cases hex.2 q
        have hnl : (s.toList == c.toList) = false := by rw [beq_eq_false_iff_ne]; exact fun q => hne (baInj2 q)
        clear hex
        go_wp2_with fail
        refine HAg.out.mono ?_
        rintro e w9 ⟨rfl, hb9⟩
        have HB9 : Hid (Below w.heap.size w w9) := (HBF.out.trans (((Below.refl _ _).drew).mono HBF.out.size)).trans (hb9.mono HBF.out.size)
        clear hb9
        go_wp2_with fail
        go_ret
        exact ⟨rfl, HB9.out⟩
    · have hw := HF.out.word rfl
      have hlt : decide ((s.size : Int) < (c.size : Int)) = false := by rw [decide_eq_false_iff_not]; omega
      have hext := hw.2
      have hle := hw.1
      clear hw
      refine wp_region_T 99 (fun w' : World => w'.cell? ⟨pb, 0, none⟩ = some (.string c) ∧ w'.cell? ⟨pb, 1, none⟩ = some (.bool k)) (by kernel_rfl) ?_
      refine anyT_takeN (i := 0) (v := ?vrg0) rfl (by kernel_rfl) (by kernel_rfl) (by kernel_rfl) (by rfl) (fun _ _ _ h => h) (Or.inl ⟨by rfl, ?yrg0⟩) hS0 ?_
      case yrg0 => (intro wz hSw; obtain ⟨hz0, hz1⟩ := hSw; go_simp; (try with_reducible rfl))
      try simp only [Act.put, List.getElem_toArray, List.getElem_cons_zero, List.getElem_cons_succ, List.setIfInBounds_toArray, List.set_cons_zero, List.set_cons_succ]
      refine anyT_takeN (i := 1) (v := ?vrg1) rfl (by kernel_rfl) (by kernel_rfl) (by kernel_rfl) (by rfl) (fun _ _ _ h => h) (Or.inl ⟨by rfl, ?yrg1⟩) hS0 ?_
      case yrg1 => (intro wz hSw; obtain ⟨hz0, hz1⟩ := hSw; go_simp; (try with_reducible rfl))
      try simp only [Act.put, List.getElem_toArray, List.getElem_cons_zero, List.getElem_cons_succ, List.setIfInBounds_toArray, List.set_cons_zero, List.set_cons_succ]
      refine anyT_takeN (i := 2) (v := ?vrg2) rfl (by kernel_rfl) (by kernel_rfl) (by kernel_rfl) (by rfl) (fun _ _ _ h => h) (Or.inl ⟨by rfl, ?yrg2⟩) hS0 ?_
      case yrg2 => (intro wz hSw; obtain ⟨hz0, hz1⟩ := hSw; go_simp; (try with_reducible rfl))
      try simp only [Act.put, List.getElem_toArray, List.getElem_cons_zero, List.getElem_cons_succ, List.setIfInBounds_toArray, List.set_cons_zero, List.set_cons_succ]
      refine anyT_takeN (i := 3) (v := ?vrg3) rfl (by kernel_rfl) (by kernel_rfl) (by kernel_rfl) (by rfl) (fun _ _ _ h => h) (Or.inl ⟨by rfl, ?yrg3⟩) hS0 ?_
      case yrg3 => (intro wz hSw; obtain ⟨hz0, hz1⟩ := hSw; go_simp; (try with_reducible rfl))
      try simp only [Act.put, List.getElem_toArray, List.getElem_cons_zero, List.getElem_cons_succ, List.setIfInBounds_toArray, List.set_cons_zero, List.set_cons_succ]
      refine anyT_takeN (i := 4) (v := ?vrg4) rfl (by kernel_rfl) (by kernel_rfl) (by kernel_rfl) (by rfl) (fun _ _ _ h => h) (Or.inl ⟨by rfl, ?yrg4⟩) hS0 ?_
      case yrg4 => (intro wz hSw; obtain ⟨hz0, hz1⟩ := hSw; go_simp; (try with_reducible rfl))
      try simp only [Act.put, List.getElem_toArray, List.getElem_cons_zero, List.getElem_cons_succ, List.setIfInBounds_toArray, List.set_cons_zero, List.set_cons_succ]
      refine anyT_takeN (i := 5) (v := ?vrg5) rfl (by kernel_rfl) (by kernel_rfl) (by kernel_rfl) (by rfl) (fun _ _ _ h => h) (Or.inl ⟨by rfl, ?yrg5⟩) hS0 ?_
      case yrg5 => (intro wz hSw; obtain ⟨hz0, hz1⟩ := hSw; go_simp; (try with_reducible rfl))
      try simp only [Act.put, List.getElem_toArray, List.getElem_cons_zero, List.getElem_cons_succ, List.setIfInBounds_toArray, List.set_cons_zero, List.set_cons_succ]
      refine anyT_takeN (i := 6) (v := ?vrg6) rfl (by kernel_rfl) (by kernel_rfl) (by kernel_rfl) (by rfl) (fun _ _ _ h => h) (Or.inl ⟨by rfl, ?yrg6⟩) hS0 ?_
      case yrg6 => (intro wz hSw; obtain ⟨hz0, hz1⟩ := hSw; go_simp; (try with_reducible rfl))
      try simp only [Act.put, List.getElem_toArray, List.getElem_cons_zero, List.getElem_cons_succ, List.setIfInBounds_toArray, List.set_cons_zero, List.set_cons_succ]
      refine anyT_takeN (i := 7) (v := .bool false) rfl (by kernel_rfl) (by kernel_rfl) (by kernel_rfl) (by rfl) (fun _ _ _ h => h) (Or.inl ⟨by rfl, ?yrg7⟩) hS0 ?_
      case yrg7 => (intro wz hSw; obtain ⟨hz0, hz1⟩ := hSw; go_simp; (try simp [hlt]); (try omega); (try with_reducible rfl))
      try simp only [Act.put, List.getElem_toArray, List.getElem_cons_zero, List.getElem_cons_succ, List.setIfInBounds_toArray, List.set_cons_zero, List.set_cons_succ]
      refine anyT_takeN (i := 8) (v := ?vrg8) rfl (by kernel_rfl) (by kernel_rfl) (by kernel_rfl) (by rfl) (fun _ _ _ h => h) (Or.inl ⟨by rfl, ?yrg8⟩) hS0 ?_
      case yrg8 => (intro wz hSw; obtain ⟨hz0, hz1⟩ := hSw; go_simp; (try with_reducible rfl))
      try simp only [Act.put, List.getElem_toArray, List.getElem_cons_zero, List.getElem_cons_succ, List.setIfInBounds_toArray, List.set_cons_zero, List.set_cons_succ]
      refine anyT_takeN (i := 9) (v := ?vrg9) rfl (by kernel_rfl) (by kernel_rfl) (by kernel_rfl) (by rfl) (fun _ _ _ h => h) (Or.inl ⟨by rfl, ?yrg9⟩) hS0 ?_
      case yrg9 => (intro wz hSw; obtain ⟨hz0, hz1⟩ := hSw; go_simp; (try with_reducible rfl))
      try simp only [Act.put, List.getElem_toArray, List.getElem_cons_zero, List.getElem_cons_succ, List.setIfInBounds_toArray, List.set_cons_zero, List.set_cons_succ]
      refine anyT_takeN (i := 10) (v := ?vrg10) rfl (by kernel_rfl) (by kernel_rfl) (by kernel_rfl) (by rfl) (fun _ _ _ h => h) (Or.inl ⟨by rfl, ?yrg10⟩) hS0 ?_
      case yrg10 => (intro wz hSw; obtain ⟨hz0, hz1⟩ := hSw; go_simp; (try with_reducible rfl))
      try simp only [Act.put, List.getElem_toArray, List.getElem_cons_zero, List.getElem_cons_succ, List.setIfInBounds_toArray, List.set_cons_zero, List.set_cons_succ]
      refine anyT_takeN (i := 11) (v := ?vrg11) rfl (by kernel_rfl) (by kernel_rfl) (by kernel_rfl) (by rfl) (fun _ _ _ h => h) (Or.inl ⟨by rfl, ?yrg11⟩) hS0 ?_
      case yrg11 => (intro wz hSw; obtain ⟨hz0, hz1⟩ := hSw; go_simp; (try with_reducible rfl))
      try simp only [Act.put, List.getElem_toArray, List.getElem_cons_zero, List.getElem_cons_succ, List.setIfInBounds_toArray, List.set_cons_zero, List.set_cons_succ]
      refine anyT_takeN (i := 12) (v := ?vrg12) rfl (by kernel_rfl) (by kernel_rfl) (by kernel_rfl) (by rfl) (fun _ _ _ h => h) (Or.inl ⟨by rfl, ?yrg12⟩) hS0 ?_
      case yrg12 => (intro wz hSw; obtain ⟨hz0, hz1⟩ := hSw; go_simp; (try with_reducible rfl))
      try simp only [Act.put, List.getElem_toArray, List.getElem_cons_zero, List.getElem_cons_succ, List.setIfInBounds_toArray, List.set_cons_zero, List.set_cons_succ]
      refine anyT_takeN (i := 13) (v := ?vrg13) rfl (by kernel_rfl) (by kernel_rfl) (by kernel_rfl) (by rfl) (fun _ _ _ h => h) (Or.inl ⟨by rfl, ?yrg13⟩) hS0 ?_
      case yrg13 => (intro wz hSw; obtain ⟨hz0, hz1⟩ := hSw; go_simp; (try with_reducible rfl))
      try simp only [Act.put, List.getElem_toArray, List.getElem_cons_zero, List.getElem_cons_succ, List.setIfInBounds_toArray, List.set_cons_zero, List.set_cons_succ]
      refine anyT_takeN (i := 14) (v := ?vrg14) rfl (by kernel_rfl) (by kernel_rfl) (by kernel_rfl) (by rfl) (fun _ _ _ h => h) (Or.inl ⟨by rfl, ?yrg14⟩) hS0 ?_
      case yrg14 => (intro wz hSw; obtain ⟨hz0, hz1⟩ := hSw; go_simp; (try with_reducible rfl))
      try simp only [Act.put, List.getElem_toArray, List.getElem_cons_zero, List.getElem_cons_succ, List.setIfInBounds_toArray, List.set_cons_zero, List.set_cons_succ]
      refine anyT_takeN (i := 15) (v := ?vrg15) rfl (by kernel_rfl) (by kernel_rfl) (by kernel_rfl) (by rfl) (fun _ _ _ h => h) (Or.inl ⟨by rfl, ?yrg15⟩) hS0 ?_
      case yrg15 => (intro wz hSw; obtain ⟨hz0, hz1⟩ := hSw; go_simp; (try with_reducible rfl))
      try simp only [Act.put, List.getElem_toArray, List.getElem_cons_zero, List.getElem_cons_succ, List.setIfInBounds_toArray, List.set_cons_zero, List.set_cons_succ]
      refine anyT_takeN (i := 16) (v := .bool false) rfl (by kernel_rfl) (by kernel_rfl) (by kernel_rfl) (by rfl) (fun _ _ _ h => h) (Or.inl ⟨by rfl, ?yrg16⟩) hS0 ?_
      case yrg16 => (intro wz hSw; obtain ⟨hz0, hz1⟩ := hSw; go_simp; (try simp [hext]); (try with_reducible rfl))
      try simp only [Act.put, List.getElem_toArray, List.getElem_cons_zero, List.getElem_cons_succ, List.setIfInBounds_toArray, List.set_cons_zero, List.set_cons_succ]
      refine anyT_takeN (i := 17) (v := .bool false) rfl (by kernel_rfl) (by kernel_rfl) (by kernel_rfl) (by rfl) (fun _ _ _ h => h) (Or.inl ⟨by rfl, ?yrg17⟩) hS0 ?_
      case yrg17 => (intro wz hSw; obtain ⟨hz0, hz1⟩ := hSw; go_simp; (try with_reducible rfl))
      try simp only [Act.put, List.getElem_toArray, List.getElem_cons_zero, List.getElem_cons_succ, List.setIfInBounds_toArray, List.set_cons_zero, List.set_cons_succ]
      refine anyT_takeN (i := 18) (v := .bool false) rfl (by kernel_rfl) (by kernel_rfl) (by kernel_rfl) (by rfl) (fun _ _ _ h => h) (Or.inl ⟨by rfl, ?yrg18⟩) hS0 ?_
      case yrg18 => (intro wz hSw; obtain ⟨hz0, hz1⟩ := hSw; go_simp; (try with_reducible rfl))
      try simp only [Act.put, List.getElem_toArray, List.getElem_cons_zero, List.getElem_cons_succ, List.setIfInBounds_toArray, List.set_cons_zero, List.set_cons_succ]
      refine anyT_done (by kernel_rfl) ?_
      have d0 := hS0.1
      have d1 := hS0.2
      cases k
      · go_wp2_with fail
        go_ret
        exact ⟨rfl, HBF.out.trans (((Below.refl _ _).drew).mono HBF.out.size)⟩
      · have hex := HF.out.exact rfl rfl
        have HAg : Hid (Calls Tryd.prog 7 #[.string p, .string c] w8.drew fun e w' => e = .returned (.bool true) ∧ Below w8.drew.heap.size w8.drew w') := HF.out.again w8.drew (HS.out _ HBd8.out).2.2.1 rfl rfl
        obtain rfl : s = c := hex.1 rfl
        clear hex
        go_wp2_with fail
        refine HAg.out.mono ?_
        rintro e w9 ⟨rfl, hb9⟩
        have HB9 : Hid (Below w.heap.size w w9) := (HBF.out.trans (((Below.refl _ _).drew).mono HBF.out.size)).trans (hb9.mono HBF.out.size)
        clear hb9
        go_wp2_with fail
        go_ret
        exact ⟨rfl, HB9.out⟩
  · have ber : (er == 0) = false := by rw [beq_eq_false_iff_ne]; exact her
    obtain ⟨rfl, rfl⟩ := HF.out.bad her
    go_wp2_with fail
    go_ret
    exact ⟨rfl, HBF.out⟩
end Go.Proofs.YtgiigiegjaagbaaDoor

/-
  The law FnRegex.
-/
namespace Go.Proofs.YtgiigiegjaagbaaDoor.exFnRegex
open Go.ChangeMaps (open_string shut_string)
open Go.ChangeShapes Go.WideShapes Go.ChangeAt Go.WideMaps Go.WideElems Go.RowKit Go.Deep
set_option linter.unusedVariables false
set_option linter.unusedSimpArgs false
set_option maxRecDepth 100000

theorem own : ownKnob Tryd.prog.godebug = none := by kernel_rfl
theorem laidOut : laidOutB Tryd.prog = true := by kernel_rfl
theorem gD64 : Tryd.prog.globalNamed "math/bits.deBruijn64tab" = some 0 := by kernel_rfl
theorem tD64 : (Tryd.prog.globals[0]?).map (·.type) = some 122 := by kernel_rfl
theorem cU8 : Tryd.prog.cellsOf 5 = 1 := by kernel_rfl
theorem cD64 : Tryd.prog.cellsOf 122 = 64 := by kernel_rfl
theorem var_lt {P : Program} {W : World} {n : String} {g : Nat} {cs : Array Value} (hg : P.globalNamed n = some g) (h : W.var? P n = some cs) : g < W.heap.size := by
  unfold World.var? at h
  rw [hg] at h
  simp only [Option.bind_some] at h
  by_cases hlt : g < W.heap.size
  · exact hlt
  · rw [Array.getElem?_eq_none (by omega)] at h
    simp at h
theorem of_laid {W : World} (h : laidMetH Tryd.prog Rows.fnRegexRow.laid W) : TabD W := by
  have h' : laidMetH Tryd.prog [("math/bits.deBruijn64tab", Rows.laid_math_bits_deBruijn64tab)] W := h
  clear h
  rw [MakeChecks.laidMetH_plain _ _ _ (by kernel_rfl)] at h'
  obtain ⟨ps, ⟨g0, t0, cs0, f0, p0, q0, hg0, ht0, hv0, hd0, _, _⟩, _⟩ := h'
  obtain rfl := Option.some.inj (gD64.symm.trans hg0)
  obtain rfl := Option.some.inj (tD64.symm.trans ht0)
  have hc := Lib.cells_of_tab (zs := Lib.deBruijn64tab.map Int.ofNat) Tryd.underlying122 Tryd.underlying5 cU8 cD64 hd0
  intro j hj
  rw [World.var?_cell hg0 hv0 j]
  have hl : (cs0.toList)[j]? = some (.int .u8 (Lib.deBruijn64tab.getD j 0)) := by
    rw [hc, List.getElem?_map, List.getElem?_map]
    have : j < Lib.deBruijn64tab.length := hj
    rw [List.getElem?_eq_getElem this]
    simp [List.getD, List.getElem?_eq_getElem this]
  simpa using hl
/-- The door's own heap meets the condition. -/
theorem door_met (os : Os) (args : Array Value) : laidMetH Tryd.prog Rows.fnRegexRow.laid ((World.doorLaid Tryd.prog 400 os).forCall (fun _ _ => 0) ⟨#[], args, []⟩).memory :=
  laidMetH_of_parts3 (fuel := 8) (laidMet_of_run' 8 (by kernel_rfl) (by kernel_rfl)) (by kernel_rfl) (by kernel_rfl)
theorem var?_below {P : Program} {B g : Nat} {W W' : World} {n : String} {cs : Array Value} (h : Below B W W') (hg : P.globalNamed n = some g) (hgB : g < B) (hv : W.var? P n = some cs) : W'.var? P n = some cs := by
  unfold World.var? at hv ⊢
  simp only [hg, Option.bind_some] at hv ⊢
  rw [h.block g hgB]
  exact hv

set_option maxRecDepth 100000 in
theorem lifted (os : Os) (started : os.Started) (H : Type) (enc : TypeId × Value → H) :
    ReturnsInHanded {} Tryd.checked os 3 .any (fun w args => (Rows.fnRegexSpec.pre enc Tryd.prog Tryd.f3 [] false w args ∧ laidMetH Tryd.prog Rows.fnRegexRow.laid w) ∧ sizedMet enc Tryd.prog Tryd.f3 (OpenSpec.ofChange Rows.fnRegexSpec) false w args)
      (Rows.fnRegexSpec.post enc Tryd.prog Tryd.f3 false true false false) := by
  refine returnsInHanded_of_change_and (C := Tryd.checked) (X := fun w _ => laidMetH Tryd.prog Rows.fnRegexRow.laid w) (fun _ _ _ hh h => h.of_heap hh) own started (by kernel_rfl) Tryd.func3
    (ChangeSpec.witness_shaped (enc := enc) (C := Tryd.checked) (os := os) (X := fun w _ => laidMetH Tryd.prog Rows.fnRegexRow.laid w) false (World.doorLaid Tryd.prog 400 os) #[.slice none 0 0] 8 rfl (World.shaped_of_RefB (by kernel_rfl) (by kernel_rfl)) (by kernel_rfl) (by kernel_rfl) (by kernel_rfl) (door_met os _)) ?_
  intro W base args ds gs before hval0 hW _ _ hL _
  have hval : ∀ (j : Nat) t v, Tryd.f3.params[j]? = some t → args[j]? = some v → Value.okWide Tryd.prog W .any base t v := hval0
  have hW' := hW
  obtain ⟨p, q, hA0, hV, rfl, hfz, hnd⟩ := hW
  have hA : DataW.TrodAll enc Tryd.prog W 0 (fun _ => true) true Tryd.f3.params.toList args.toList ds p := hA0
  rw [Tryd.params3] at hA hval
  obtain ⟨v0, vs0, d0, ds0, p0, q0, hargs, rfl, rfl, h0, r0⟩ := trodAll_cons hA
  obtain ⟨rfl, rfl, rfl⟩ := trodAll_nil r0
  obtain rfl : args = #[v0] := by cases args; simp_all
  obtain ⟨rfl, rfl⟩ := trodVars_none hV
  have k0 := h0
  have lt0 : ∀ x ∈ p0, x.block < W.heap.size := by obtain ⟨m, hm⟩ := k0; exact DataW.trod_lt m _ _ _ hm
  obtain ⟨n, hxs⟩ : ∃ n, BytesIn W v0 n := by
    obtain ⟨a0, len0, cap0, rfl⟩ := okWide_slice Tryd.underlying22 (hval 0 22 v0 rfl rfl)
    obtain ⟨fuel, hf⟩ := h0
    exact bytes_of_trod (x := (d0, p0)) (by simpa [Value.cells] using hf) lt0
  clear hA0 hval0
  have hG := of_laid hL
  refine (fnRegex_walk v0 n W hxs hG).mono fun e W' ⟨he, bel⟩ => ?_
  subst he
  exact ⟨_, rfl, _, _, _, [], _, [], hW', trodAll_mk1 (shut_bool Tryd.underlying4 _), (trodAll_cons_mk (Below.trod laidOut (by kernel_rfl) (of_decide_eq_true (by kernel_rfl)) k0 bel lt0) trodAll_mk0), rfl, bel.frame _, fun h => by cases h⟩

theorem over : Rows.FnRegexSaid :=
  OpenClaim.holds_of_wide 3 Tryd.f3 rfl rfl rfl rfl rfl rfl rfl ⟨rfl, rfl, rfl, rfl, rfl⟩ rfl rfl rfl rfl rfl (by kernel_rfl) Tryd.func3 (by kernel_rfl)
    (of_decide_eq_true (by kernel_rfl)) (by unfold Func.isWrapper; first | (rw [if_pos (by decide +kernel)]; kernel_rfl) | (rw [if_neg (by decide +kernel)]; exact ⟨rfl, rfl⟩))
    (fun os started H enc _ => lifted os started H enc)

theorem card : Rows.FnRegexCardSaid :=
  Claim7.holds_tied_plain_at .later [] [.data] true Rows.fnRegexCard.stood.harness true
    over (fun _ h => by cases h) (by kernel_rfl) (fun _ h => by cases h) fnRegex_row_tie rfl ⟨rfl, rfl⟩ (by kernel_rfl) rfl
    (fun f fn hf hfn => by
      obtain rfl : f = 3 := Option.some.inj ((show Tryd.prog.funcNamed "loop.example/s01854/laws.FnRegex" = some 3 by kernel_rfl).symm.trans hf) |>.symm
      obtain rfl : fn = Tryd.f3 := (Option.some.inj (Tryd.func3.symm.trans hfn)).symm
      exact ⟨by kernel_rfl, fun j t ht => by
        rw [Tryd.params3] at ht
        have h3 : t = 22 := by
          rcases j with _ | j
          · simpa using ht.symm
          · simp at ht
        subst h3
        exact (show Tryd.prog.wantsStandIn 22 = false by kernel_rfl)⟩)
    (by kernel_rfl)
end Go.Proofs.YtgiigiegjaagbaaDoor.exFnRegex
namespace Go.Proofs.YtgiigiegjaagbaaDoor
theorem fnRegex_holds : Rows.FnRegexCardSaid := exFnRegex.card
#print axioms fnRegex_holds
end Go.Proofs.YtgiigiegjaagbaaDoor

