import Derived.Test.YtgiigiegjaagbaaDoorPkAI
import Derived.Test.YtgiigiegjaagbaaDoorPkAF
import Derived.Test.YtgiigiegjaagbaaDoorPkAG
import Derived.Test.YtgiigiegjaagbaaDoorPkAC
import Derived.Test.YtgiigiegjaagbaaDoorPkAD
import Derived.Test.YtgiigiegjaagbaaDoorPkAB
import Derived.Test.YtgiigiegjaagbaaDoorPkAA
/-
  The sets of positions that a string leads through.
-/
namespace Go.Proofs.YtgiigiegjaagbaaDoor
set_option linter.unusedVariables false
set_option linter.unusedSimpArgs false

/-- The set behind one byte more. -/
def stp (E T : Nat → PS) (S : PS) (c : UInt8) : PS := sAnd (ahd E S) (T c.toNat)
def runS (E T : Nat → PS) : PS → List UInt8 → PS
  | S, [] => S
  | S, c :: xs => runS E T (stp E T S c) xs
theorem runS_snoc (E T : Nat → PS) : ∀ (S : PS) (xs : List UInt8) (c : UInt8), runS E T S (xs ++ [c]) = stp E T (runS E T S xs) c
  | S, [], c => rfl
  | S, x :: xs, c => runS_snoc E T (stp E T S x) xs c
theorem ahd_iff (E : Nat → PS) (S : PS) (q : Nat) : ahd E S q = true ↔ ∃ p, p < 256 ∧ S p = true ∧ E p q = true := by
  unfold ahd ahdT
  rw [List.any_eq_true]
  constructor
  · rintro ⟨p, hp, hx⟩
    rw [Bool.and_eq_true] at hx
    exact ⟨p, List.mem_range.1 hp, hx.1, hx.2⟩
  · rintro ⟨p, hp, h1, h2⟩
    exact ⟨p, List.mem_range.2 hp, by rw [h1, h2]; rfl⟩
theorem stp_iff (l : Lay) (S : PS) (c : UInt8) (q : Nat) : stp (mkE l) (mkT l) S c q = true ↔ (∃ p, p < 256 ∧ S p = true ∧ mkE l p q = true) ∧ l.tk q c = true := by
  unfold stp sAnd
  rw [Bool.and_eq_true, ahd_iff]
  have : mkT l c.toNat q = l.tk q c := by unfold mkT; congr 1; simp
  rw [this]
theorem run_from (l : Lay) {a : Nat} (hs : Spt a l) (ha : 1 ≤ a) (hn : l.nx ≤ 256) : ∀ (xs : List UInt8) (S : PS), (∀ p, S p = true → 1 ≤ p ∧ p < 256) → ∀ q, runS (mkE l) (mkT l) S xs q = true ↔ ∃ p, S p = true ∧ Pth l p xs q
  | [], S, hS, q => by
    constructor
    · exact fun h => ⟨q, h, .nil q⟩
    · rintro ⟨p, hp, h⟩; cases h; exact hp
  | c :: xs, S, hS, q => by
    have hS' : ∀ p, stp (mkE l) (mkT l) S c p = true → 1 ≤ p ∧ p < 256 := fun p hp => by
      have := hs.tk p c ((stp_iff l S c p).1 hp).2
      omega
    show runS (mkE l) (mkT l) (stp (mkE l) (mkT l) S c) xs q = true ↔ _
    rw [run_from l hs ha hn xs _ hS' q]
    constructor
    · rintro ⟨p', hp', hP⟩
      obtain ⟨⟨p, _, hp, he⟩, ht⟩ := (stp_iff l S c p').1 hp'
      have h1 := (hS p hp).1
      have he' : l.ed p p' = true := by
        unfold mkE at he
        have : (p == 0) = false := by rw [beq_eq_false_iff_ne]; omega
        simpa [this] using he
      exact ⟨p, hp, .step he' ht hP⟩
    · rintro ⟨p, hp, hP⟩
      cases hP with
      | step he ht hP =>
        refine ⟨_, (stp_iff l S c _).2 ⟨⟨p, (hS p hp).2, hp, ?_⟩, ht⟩, hP⟩
        unfold mkE
        rw [he]; rfl
theorem run_all (l : Lay) (hs : Spt 1 l) (hn : l.nx ≤ 256) (em : Bool) (xs : List UInt8) : acc (mkN l em) (runS (mkE l) (mkT l) (sOne 0) xs) = true ↔ (xs = [] ∧ em = true) ∨ Wd l xs := by
  have hacc : ∀ S : PS, acc (mkN l em) S = true ↔ ∃ p, p < 256 ∧ S p = true ∧ mkN l em p = true := fun S => by
    unfold acc
    rw [List.any_eq_true]
    constructor
    · rintro ⟨p, hp, hx⟩
      rw [Bool.and_eq_true] at hx
      exact ⟨p, List.mem_range.1 hp, hx.1, hx.2⟩
    · rintro ⟨p, hp, h1, h2⟩
      exact ⟨p, List.mem_range.2 hp, by rw [h1, h2]; rfl⟩
  rw [hacc]
  cases xs with
  | nil =>
    constructor
    · rintro ⟨p, _, hp, hN⟩
      have h0 : p = 0 := by simpa [runS, sOne] using hp
      subst h0
      unfold mkN at hN
      have hl : l.lst 0 = false := by
        cases hx : l.lst 0 with
        | false => rfl
        | true => have := (hs.lst 0 hx).1; omega
      rw [hl] at hN
      exact .inl ⟨rfl, by simpa using hN⟩
    · rintro (⟨_, h⟩ | h)
      · exact ⟨0, by omega, rfl, by simp [mkN, h]⟩
      · exact (wd_ne h).elim
  | cons c xs =>
    have hS' : ∀ p, stp (mkE l) (mkT l) (sOne 0) c p = true → 1 ≤ p ∧ p < 256 := fun p hp => by
      have := hs.tk p c ((stp_iff l _ c p).1 hp).2
      omega
    have hst : ∀ p, stp (mkE l) (mkT l) (sOne 0) c p = true ↔ l.fst p = true ∧ l.tk p c = true := fun p => by
      rw [stp_iff]
      constructor
      · rintro ⟨⟨p0, _, h0, he⟩, ht⟩
        have : p0 = 0 := by simpa [sOne] using h0
        subst this
        refine ⟨?_, ht⟩
        have hl : l.ed 0 p = false := by
          cases hx : l.ed 0 p with
          | false => rfl
          | true => have := (hs.ed 0 p hx).1.1; omega
        simpa [mkE, hl] using he
      · rintro ⟨h1, h2⟩
        exact ⟨⟨0, by omega, rfl, by simp [mkE, h1]⟩, h2⟩
    constructor
    · rintro ⟨q, _, hq, hN⟩
      obtain ⟨p, hp, hP⟩ := (run_from l hs (Nat.le_refl _) hn xs _ hS' q).1 hq
      obtain ⟨h1, h2⟩ := (hst p).1 hp
      have hq1 := (Pth.in hs hP (hs.fst p h1)).1
      have hl : l.lst q = true := by
        unfold mkN at hN
        have : (q == 0) = false := by rw [beq_eq_false_iff_ne]; omega
        simpa [this] using hN
      exact .inr ⟨c, xs, p, q, rfl, h1, h2, hP, hl⟩
    · rintro (⟨h, _⟩ | ⟨c', xs', p, q, he, h1, h2, h3, h4⟩)
      · cases h
      · cases he
        refine ⟨q, by have := (hs.lst q h4).2; omega, ?_, by simp [mkN, h4]⟩
        exact (run_from l hs (Nat.le_refl _) hn xs _ hS' q).2 ⟨p, (hst p).2 ⟨h1, h2⟩, h3⟩
/-- The matcher accepts just the words of the pattern. -/
theorem run_words (os : List (List Pat)) (hn : (lyA os (Lay.no 1)).nx ≤ 256) (xs : List UInt8) : acc (mkN (lyA os (Lay.no 1)) (nulA os)) (runS (mkE (lyA os (Lay.no 1))) (mkT (lyA os (Lay.no 1))) (sOne 0) xs) = true ↔ LgA os xs := by
  have hc := cor_P (.alt os) 1
  have e1 : lyP (.alt os) 1 = lyA os (Lay.no 1) := by simp only [lyP]
  have e2 : nulB (.alt os) = nulA os := by simp only [nulB]
  rw [e1, e2] at hc
  rw [run_all _ hc.spt hn, ← hc.wd]
  simp only [Lg]
theorem runS_dead (E T : Nat → PS) : ∀ (xs : List UInt8) (S : PS), (∀ p, p < 256 → S p = false) → ∀ p, p < 256 → runS E T S xs p = false
  | [], S, h, p, hp => h p hp
  | c :: xs, S, h, p, hp => by
    refine runS_dead E T xs (stp E T S c) (fun q hq => ?_) p hp
    cases hx : stp E T S c q with
    | false => rfl
    | true =>
      unfold stp sAnd at hx
      rw [Bool.and_eq_true, ahd_iff] at hx
      obtain ⟨⟨r, hr, h1, _⟩, _⟩ := hx
      rw [h r hr] at h1
      cases h1
end Go.Proofs.YtgiigiegjaagbaaDoor

/-
  matches.
-/
namespace Go.Proofs.YtgiigiegjaagbaaDoor
open Go.ChangeShapes Go.WideShapes Go.ChangeAt Go.RowKit Go.Deep
set_option linter.unusedVariables false
set_option linter.unusedSimpArgs false
set_option maxRecDepth 100000

theorem state_core {base M : Nat} {T : Nat → PS} {G cp a : Nat} {E : Nat → PS} {en : PS} {mp n : Nat} (S : PS) (w : World) (h : MtrI w base M T G cp a E en mp) (hm : StI w mp n E en) (hS : ∀ p, S p = true → p < a) (ha : a ≤ 256) (hn : n < 900) (hbm : base ≤ mp) : Calls Tryd.prog 41 #[.pointer (some ⟨M, 0, none⟩), psV S] w (StP base M T G cp a E en mp n S w) := by
  obtain ⟨D, hD⟩ := hm
  cases hh : Maps.has D (psK S) with
  | true => exact state_known S w h hD hh
  | false => exact state_new S w h hD hh hS ha hn hbm
theorem runS_app (E T : Nat → PS) : ∀ (S : PS) (xs ys : List UInt8), runS E T S (xs ++ ys) = runS E T (runS E T S xs) ys
  | S, [], ys => rfl
  | S, x :: xs, ys => runS_app E T (stp E T S x) xs ys
/-- The matcher behind some bytes: the set is S. -/
structure MaI (w : World) (base M : Nat) (T : Nat → PS) (G cp a : Nat) (E : Nat → PS) (en : PS) (mp n b5 : Nat) (S : PS) (X : World) : Prop where
  mtr : MtrI X base M T G cp a E en mp
  map : StI X mp n E en
  box : BoxAt X w.heap.size 94 5 b5 (stL (ahd E S) (acc en S))
  chg : Chg (fun k => k = mp) w X
theorem MaI.below {w X X' : World} {base M : Nat} {T : Nat → PS} {G cp a : Nat} {E : Nat → PS} {en : PS} {mp n b5 : Nat} {S : PS} (h : MaI w base M T G cp a E en mp n b5 S X) (hb : Below X.heap.size X X') : MaI w base M T G cp a E en mp n b5 S X' :=
  ⟨h.mtr.below hb, h.map.chg (S := fun _ => False) (Chg.of_below hb) (fun q => q), h.box.below hb, h.chg.trans (Chg.of_below hb)⟩
theorem MaI.ne {w X : World} {base M : Nat} {T : Nat → PS} {G cp a : Nat} {E : Nat → PS} {en : PS} {mp n b5 : Nat} {S : PS} (h : MaI w base M T G cp a E en mp n b5 S X) : ¬ M = b5 ∧ ¬ G = b5 ∧ ¬ mp = b5 ∧ ¬ M = mp ∧ ¬ G = mp := by
  obtain ⟨D, hD⟩ := h.map
  exact ⟨fun q => own_apart h.mtr.box h.box (by decide) M rfl (by rw [q]; rfl), fun q => own_apart h.mtr.row h.box (by decide) G rfl (by rw [q]; rfl), StD.ne hD h.box, fun q => StD.ne hD h.mtr.box q.symm, fun q => StD.ne hD h.mtr.row q.symm⟩
def MaP2 (E T : Nat → PS) (en : PS) (s : ByteArray) (w : World) (mp : Nat) (e : Ending) (w' : World) : Prop := ∃ b : Bool, e = .returned (.bool b) ∧ Hid ((b = true ↔ acc en (runS E T (sOne 0) (sb s)) = true) ∧ Chg (fun k => k = mp) w w')
set_option maxHeartbeats 8000000 in
theorem matches_core {base M : Nat} {T : Nat → PS} {G cp a : Nat} {E : Nat → PS} {en : PS} {mp : Nat} (s : ByteArray) (hs : s.size ≤ 200) (w : World) (h : MtrI w base M T G cp a E en mp) (hm : StI w mp 0 E en) (hT : ∀ b p, T b p = true → p < a) (ha0 : 0 < a) (ha : a ≤ 256) (hbm : base ≤ mp) : Calls Tryd.prog 23 #[.pointer (some ⟨M, 0, none⟩), .string s] w (MaP2 E T en s w mp) := by
  have HI : Hid (MtrI w base M T G cp a E en mp ∧ StI w mp 0 E en ∧ base ≤ w.heap.size) := ⟨h, hm, by have := h.ltM; omega⟩
  have HT : Hid (∀ b p, T b p = true → p < a) := hT
  have HWi : Hid (∀ wx : World, Calls Tryd.prog 40 #[.agg #[.int .u64 0, .int .u64 0, .int .u64 0, .int .u64 0], .int .i64 0] wx fun e w' => e = .returned (psV (sOne 0)) ∧ Below wx.heap.size wx w') := fun wx => by
    have := with_core sNo 0 (by omega) wx
    rw [show sOr sNo (sOne 0) = sOne 0 by funext p; simp [sOr, sNo], psV_no] at this
    exact this
  have zs : ¬ (200 : Int) < (s.size : Int) := by omega
  have hone : ∀ p, sOne 0 p = true → p < a := fun p hp => by
    have h0 : p = 0 := by simpa [sOne] using hp
    omega
  clear h hm hT
  go_enter Tryd.func23, Tryd.ntmps23
  go_wp2_with fail
  refine (HWi.out _).mono ?_
  rintro e w1 ⟨rfl, hb1⟩
  have HSt : Hid (Calls Tryd.prog 41 #[.pointer (some ⟨M, 0, none⟩), psV (sOne 0)] w1 (StP base M T G cp a E en mp 0 (sOne 0) w1)) := state_core (sOne 0) w1 (HI.out.1.below hb1) (HI.out.2.1.chg (S := fun _ => False) (Chg.of_below hb1) (fun q => q)) hone ha (by omega) hbm
  go_wp2_with fail
  refine HSt.out.mono ?_
  rintro e w2 ⟨rfl, H2⟩
  obtain ⟨W3, hW3⟩ : ∃ W3 : World, W3 = w2.alloc (.cells (stL (ahd E (sOne 0)) (acc en (sOne 0))).toArray 94) := ⟨_, rfl⟩
  have k3 : Below w2.heap.size w2 W3 := by rw [hW3]; exact (Below.refl _ _).alloc (Nat.le_refl _) _
  have hsz : w.heap.size ≤ w2.heap.size := Nat.le_trans hb1.size H2.out.2.2.size
  have hx2 : Chg (fun k => k = mp) w w2 := (Chg.of_below hb1).trans H2.out.2.2
  obtain ⟨b5, hb5⟩ : ∃ b5, b5 = w2.heap.size := ⟨_, rfl⟩
  have HW3 : Hid (MaI w base M T G cp a E en mp 1 b5 (sOne 0) W3 ∧ w.heap.size ≤ b5) := by
    have b3 := boxAt_new w2 (base := w.heap.size) (t := 94) (sz := 5) (stL (ahd E (sOne 0)) (acc en (sOne 0))).toArray hsz rfl
    exact ⟨⟨H2.out.1.below k3, H2.out.2.1.chg (S := fun _ => False) (Chg.of_below k3) (fun q => q), by rw [hW3, hb5]; exact b3, hx2.trans (Chg.of_below k3)⟩, by omega⟩
  go_upto_region 4 with fail
  have hW3' := hW3
  simp only [stL] at hW3'
  rw [← hW3', ← hb5]
  clear hW3 hW3' k3 hsz hx2 hb5 H2 HSt hb1
  go_wp2_with fail
  go_loopw [6] (fun iv wr => ∃ k : Nat, k ≤ s.size ∧ iv = .int .i64 k ∧ Hid (MaI w base M T G cp a E en mp (k + 1) b5 (runS E T (sOne 0) ((sb s).take k)) wr)) (fun iv _ => s.size - (intOf iv).toNat)
  case atStart => exact ⟨0, Nat.zero_le _, rfl, HW3.out.1⟩
  case round =>
    obtain ⟨k, hk, rfl, HJ⟩ := hrel
    by_cases hlt : k < s.size
    · have zk : (k : Int) < (s.size : Int) := by omega
      obtain ⟨x, hx⟩ : ∃ x, (sb s)[k]? = some x := ⟨_, List.getElem?_eq_getElem (by rw [sb_len]; exact hlt)⟩
      obtain ⟨_, gx⟩ := sb_get hx
      obtain ⟨Sk, hSk⟩ : ∃ Sk, Sk = runS E T (sOne 0) ((sb s).take k) := ⟨_, rfl⟩
      have hxl : x.toNat < 256 := x.toNat_lt
      rw [← hSk] at HJ
      have HN : Hid (runS E T (sOne 0) ((sb s).take (k + 1)) = stp E T Sk x ∧ True ∧ runS E T (sOne 0) (sb s) = runS E T (stp E T Sk x) ((sb s).drop (k + 1))) := by
        have h1 : (sb s).take (k + 1) = (sb s).take k ++ [x] := by rw [List.take_add_one, hx]; rfl
        have h2 : runS E T (sOne 0) ((sb s).take (k + 1)) = stp E T Sk x := by rw [h1, runS_snoc, ← hSk]
        refine ⟨h2, trivial, ?_⟩
        rw [← h2, ← runS_app, List.take_append_drop]
      have HSk : Hid (∀ X, MaI w base M T G cp a E en mp (k + 1) b5 Sk X → (X.cell? ⟨b5, 0, none⟩ = some (.int .u64 (wdN (ahd E Sk) 0 : Int)) ∧ X.cell? ⟨b5, 1, none⟩ = some (.int .u64 (wdN (ahd E Sk) 1 : Int)) ∧ X.cell? ⟨b5, 2, none⟩ = some (.int .u64 (wdN (ahd E Sk) 2 : Int)) ∧ X.cell? ⟨b5, 3, none⟩ = some (.int .u64 (wdN (ahd E Sk) 3 : Int)) ∧ X.cell? ⟨M, x.toNat * 4, none⟩ = some (.int .u64 (wdN (T x.toNat) 0 : Int)) ∧ X.cell? ⟨M, x.toNat * 4 + 1, none⟩ = some (.int .u64 (wdN (T x.toNat) 1 : Int)) ∧ X.cell? ⟨M, x.toNat * 4 + 2, none⟩ = some (.int .u64 (wdN (T x.toNat) 2 : Int)) ∧ X.cell? ⟨M, x.toNat * 4 + 3, none⟩ = some (.int .u64 (wdN (T x.toNat) 3 : Int)))) := fun X h => by
        obtain ⟨g0, g1, g2, g3, _⟩ := h.mtr.taken4 hxl
        exact ⟨h.box.cell (j := 0) rfl, h.box.cell (j := 1) rfl, h.box.cell (j := 2) rfl, h.box.cell (j := 3) rfl, g0, g1, g2, g3⟩
      have HCm : Hid (∀ wx : World, Calls Tryd.prog 42 #[psV (ahd E Sk), psV (T x.toNat)] wx fun e w' => e = .returned (psV (stp E T Sk x)) ∧ Below wx.heap.size wx w') := fun wx => by
        have := common_core (ahd E Sk) (T x.toNat) wx
        unfold stp
        exact this
      have zx : (x.toNat : Int) < 256 := by omega
      have HX : Hid ((sb s)[k]? = some x) := hx
      clear hx hSk
      go_upto_region 7 with fail
      refine wp_region_T 99 (fun wz => wz.cell? ⟨b5, 0, none⟩ = some (.int .u64 (wdN (ahd E Sk) 0 : Int)) ∧ wz.cell? ⟨b5, 1, none⟩ = some (.int .u64 (wdN (ahd E Sk) 1 : Int)) ∧ wz.cell? ⟨b5, 2, none⟩ = some (.int .u64 (wdN (ahd E Sk) 2 : Int)) ∧ wz.cell? ⟨b5, 3, none⟩ = some (.int .u64 (wdN (ahd E Sk) 3 : Int)) ∧ wz.cell? ⟨M, x.toNat * 4, none⟩ = some (.int .u64 (wdN (T x.toNat) 0 : Int)) ∧ wz.cell? ⟨M, x.toNat * 4 + 1, none⟩ = some (.int .u64 (wdN (T x.toNat) 1 : Int)) ∧ wz.cell? ⟨M, x.toNat * 4 + 2, none⟩ = some (.int .u64 (wdN (T x.toNat) 2 : Int)) ∧ wz.cell? ⟨M, x.toNat * 4 + 3, none⟩ = some (.int .u64 (wdN (T x.toNat) 3 : Int))) (by kernel_rfl) ?_
      refine anyT_takeN (i := 0) (v := ?vh0) rfl (by kernel_rfl) (by kernel_rfl) (by kernel_rfl) (by rfl) (fun _ _ _ h => h) (Or.inl ⟨by rfl, ?yh0⟩) (HSk.out _ (HJ.out.below ((Below.refl _ _).drew))) ?_
      case yh0 => (intro wz hSw; obtain ⟨d0, d1, d2, d3, d4, d5, d6, d7⟩ := hSw; go_simp; (try with_reducible rfl))
      try simp only [Act.put, List.getElem_toArray, List.getElem_cons_zero, List.getElem_cons_succ, List.setIfInBounds_toArray, List.set_cons_zero, List.set_cons_succ]
      refine anyT_takeN (i := 1) (v := ?vh1) rfl (by kernel_rfl) (by kernel_rfl) (by kernel_rfl) (by rfl) (fun _ _ _ h => h) (Or.inl ⟨by rfl, ?yh1⟩) (HSk.out _ (HJ.out.below ((Below.refl _ _).drew))) ?_
      case yh1 => (intro wz hSw; obtain ⟨d0, d1, d2, d3, d4, d5, d6, d7⟩ := hSw; go_simp; (try with_reducible rfl))
      try simp only [Act.put, List.getElem_toArray, List.getElem_cons_zero, List.getElem_cons_succ, List.setIfInBounds_toArray, List.set_cons_zero, List.set_cons_succ]
      refine anyT_takeN (i := 2) (v := ?vh2) rfl (by kernel_rfl) (by kernel_rfl) (by kernel_rfl) (by rfl) (fun _ _ _ h => h) (Or.inl ⟨by rfl, ?yh2⟩) (HSk.out _ (HJ.out.below ((Below.refl _ _).drew))) ?_
      case yh2 => (intro wz hSw; obtain ⟨d0, d1, d2, d3, d4, d5, d6, d7⟩ := hSw; go_simp; (try with_reducible rfl))
      try simp only [Act.put, List.getElem_toArray, List.getElem_cons_zero, List.getElem_cons_succ, List.setIfInBounds_toArray, List.set_cons_zero, List.set_cons_succ]
      refine anyT_takeN (i := 3) (v := ?vh3) rfl (by kernel_rfl) (by kernel_rfl) (by kernel_rfl) (by rfl) (fun _ _ _ h => h) (Or.inl ⟨by rfl, ?yh3⟩) (HSk.out _ (HJ.out.below ((Below.refl _ _).drew))) ?_
      case yh3 => (intro wz hSw; obtain ⟨d0, d1, d2, d3, d4, d5, d6, d7⟩ := hSw; go_simp; (try with_reducible rfl))
      try simp only [Act.put, List.getElem_toArray, List.getElem_cons_zero, List.getElem_cons_succ, List.setIfInBounds_toArray, List.set_cons_zero, List.set_cons_succ]
      refine anyT_takeN (i := 4) (v := ?vh4) rfl (by kernel_rfl) (by kernel_rfl) (by kernel_rfl) (by rfl) (fun _ _ _ h => h) (Or.inl ⟨by rfl, ?yh4⟩) (HSk.out _ (HJ.out.below ((Below.refl _ _).drew))) ?_
      case yh4 => (intro wz hSw; obtain ⟨d0, d1, d2, d3, d4, d5, d6, d7⟩ := hSw; go_simp; (try with_reducible rfl))
      try simp only [Act.put, List.getElem_toArray, List.getElem_cons_zero, List.getElem_cons_succ, List.setIfInBounds_toArray, List.set_cons_zero, List.set_cons_succ]
      refine anyT_takeN (i := 5) (v := ?vh5) rfl (by kernel_rfl) (by kernel_rfl) (by kernel_rfl) (by rfl) (fun _ _ _ h => h) (Or.inl ⟨by rfl, ?yh5⟩) (HSk.out _ (HJ.out.below ((Below.refl _ _).drew))) ?_
      case yh5 => (intro wz hSw; obtain ⟨d0, d1, d2, d3, d4, d5, d6, d7⟩ := hSw; go_simp; (try with_reducible rfl))
      try simp only [Act.put, List.getElem_toArray, List.getElem_cons_zero, List.getElem_cons_succ, List.setIfInBounds_toArray, List.set_cons_zero, List.set_cons_succ]
      refine anyT_takeN (i := 6) (v := ?vh6) rfl (by kernel_rfl) (by kernel_rfl) (by kernel_rfl) (by rfl) (fun _ _ _ h => h) (Or.inl ⟨by rfl, ?yh6⟩) (HSk.out _ (HJ.out.below ((Below.refl _ _).drew))) ?_
      case yh6 => (intro wz hSw; obtain ⟨d0, d1, d2, d3, d4, d5, d6, d7⟩ := hSw; go_simp; (try with_reducible rfl))
      try simp only [Act.put, List.getElem_toArray, List.getElem_cons_zero, List.getElem_cons_succ, List.setIfInBounds_toArray, List.set_cons_zero, List.set_cons_succ]
      refine anyT_takeN (i := 7) (v := ?vh7) rfl (by kernel_rfl) (by kernel_rfl) (by kernel_rfl) (by rfl) (fun _ _ _ h => h) (Or.inl ⟨by rfl, ?yh7⟩) (HSk.out _ (HJ.out.below ((Below.refl _ _).drew))) ?_
      case yh7 => (intro wz hSw; obtain ⟨d0, d1, d2, d3, d4, d5, d6, d7⟩ := hSw; go_simp; (try with_reducible rfl))
      try simp only [Act.put, List.getElem_toArray, List.getElem_cons_zero, List.getElem_cons_succ, List.setIfInBounds_toArray, List.set_cons_zero, List.set_cons_succ]
      refine anyT_takeN (i := 8) (v := ?vh8) rfl (by kernel_rfl) (by kernel_rfl) (by kernel_rfl) (by rfl) (fun _ _ _ h => h) (Or.inl ⟨by rfl, ?yh8⟩) (HSk.out _ (HJ.out.below ((Below.refl _ _).drew))) ?_
      case yh8 => (intro wz hSw; obtain ⟨d0, d1, d2, d3, d4, d5, d6, d7⟩ := hSw; go_simp; (try with_reducible rfl))
      try simp only [Act.put, List.getElem_toArray, List.getElem_cons_zero, List.getElem_cons_succ, List.setIfInBounds_toArray, List.set_cons_zero, List.set_cons_succ]
      refine anyT_takeN (i := 9) (v := ?vh9) rfl (by kernel_rfl) (by kernel_rfl) (by kernel_rfl) (by rfl) (fun _ _ _ h => h) (Or.inl ⟨by rfl, ?yh9⟩) (HSk.out _ (HJ.out.below ((Below.refl _ _).drew))) ?_
      case yh9 => (intro wz hSw; obtain ⟨d0, d1, d2, d3, d4, d5, d6, d7⟩ := hSw; go_simp; (try with_reducible rfl))
      try simp only [Act.put, List.getElem_toArray, List.getElem_cons_zero, List.getElem_cons_succ, List.setIfInBounds_toArray, List.set_cons_zero, List.set_cons_succ]
      refine anyT_two (i := 10) (j := 11) (by kernel_rfl) rfl rfl (fun K hK => ?_) (fun K hK => ?_)
      · go_simp
        refine (HCm.out _).mono ?_
        rintro r v3 ⟨rfl, hb3⟩
        have HV : Hid (MaI w base M T G cp a E en mp (k + 1) b5 Sk v3) := HJ.out.below (((Below.refl wr.heap.size wr).drew).trans hb3)
        refine hK.out _ _ (.inr (HSk.out _ HV.out)) ?_
        clear hK hb3
        try simp only [Act.put, List.getElem_toArray, List.getElem_cons_zero, List.getElem_cons_succ, List.setIfInBounds_toArray, List.set_cons_zero, List.set_cons_succ]
        refine anyT_one (i := 11) (by kernel_rfl) rfl (fun K hK => ?_)
        go_simp
        refine hK.out _ _ (.inr (HSk.out _ (HV.out.below (by repeat (first | exact Below.refl _ _ | refine Below.drew ?_ | refine Below.alloc ?_ (Nat.le_refl _) _ | refine below_set ?_ (Nat.le_refl _) _ _))))) ?_
        clear hK
        try simp only [Act.put, List.getElem_toArray, List.getElem_cons_zero, List.getElem_cons_succ, List.setIfInBounds_toArray, List.set_cons_zero, List.set_cons_succ]
        refine anyT_one (i := 12) (by kernel_rfl) rfl (fun K hK => ?_)
        go_simp
        refine hK.out _ _ (.inr (HSk.out _ (HV.out.below (by repeat (first | exact Below.refl _ _ | refine Below.drew ?_ | refine Below.alloc ?_ (Nat.le_refl _) _ | refine below_set ?_ (Nat.le_refl _) _ _))))) ?_
        clear hK
        try simp only [Act.put, List.getElem_toArray, List.getElem_cons_zero, List.getElem_cons_succ, List.setIfInBounds_toArray, List.set_cons_zero, List.set_cons_succ]
        refine anyT_done (by kernel_rfl) ?_
        obtain ⟨W4, hW4⟩ : ∃ W4 : World, W4 = v3.alloc (.cells (psL (stp E T Sk x)).toArray 84) := ⟨_, rfl⟩
        have k4 : Below v3.heap.size v3 W4 := by rw [hW4]; exact (Below.refl _ _).alloc (Nat.le_refl _) _
        have HW4 : Hid (MaI w base M T G cp a E en mp (k + 1) b5 Sk W4 ∧ BoxAt W4 w.heap.size 84 4 v3.heap.size (psL (stp E T Sk x))) := by
          have b4 := boxAt_new v3 (base := w.heap.size) (t := 84) (sz := 4) (psL (stp E T Sk x)).toArray HV.out.chg.size rfl
          exact ⟨HV.out.below k4, by rw [hW4]; exact b4⟩
        have hW4' := hW4
        simp only [psL] at hW4'
        rw [← hW4']
        clear hW4 hW4' k4
        have heq := ps_equal (stp E T Sk x)
        have q0 := HW4.out.2.cell (j := 0) rfl
        have q1 := HW4.out.2.cell (j := 1) rfl
        have q2 := HW4.out.2.cell (j := 2) rfl
        have q3 := HW4.out.2.cell (j := 3) rfl
        cases hne : noE (stp E T Sk x) with
        | true =>
          rw [hne] at heq
          have HFn : Hid ((false = true ↔ acc en (runS E T (sOne 0) (sb s)) = true)) := by
            refine ⟨fun q => (by cases q), fun q => ?_⟩
            rw [HN.out.2.2] at q
            have hd : ∀ p, p < 256 → (stp E T Sk x) p = false := fun p hp => by
              cases hx : (stp E T Sk x) p with
              | false => rfl
              | true => have := (noE_iff (stp E T Sk x)).2 ⟨p, hp, hx⟩; rw [hne] at this; cases this
            unfold acc at q
            rw [List.any_eq_true] at q
            obtain ⟨p, hp, hx⟩ := q
            rw [runS_dead E T _ _ hd p (List.mem_range.1 hp)] at hx
            cases hx
          clear hne
          go_wp2_with fail
          go_ret
          exact ⟨false, rfl, HFn.out, HW4.out.1.chg⟩
        | false =>
          rw [hne] at heq
          clear hne
          have HSt : Hid (Calls Tryd.prog 41 #[.pointer (some ⟨M, 0, none⟩), psV (stp E T Sk x)] W4 (StP base M T G cp a E en mp (k + 1) (stp E T Sk x) W4)) := state_core (stp E T Sk x) W4 HW4.out.1.mtr HW4.out.1.map (fun p hp => by
            unfold stp sAnd at hp
            rw [Bool.and_eq_true] at hp
            exact HT.out _ _ hp.2) ha (by omega) hbm
          go_wp2_with fail
          refine HSt.out.mono ?_
          rintro e w5 ⟨rfl, H5⟩
          have hne5 := HW4.out.1.ne
          have HB5 := HW4.out.1.box.chg H5.out.2.2 (fun q => hne5.2.2.1 q.symm)
          have r0 := HB5.cell (j := 0) rfl
          have f0 := HB5.frozen 0
          have r1 := HB5.cell (j := 1) rfl
          have f1 := HB5.frozen 1
          have r2 := HB5.cell (j := 2) rfl
          have f2 := HB5.frozen 2
          have r3 := HB5.cell (j := 3) rfl
          have f3 := HB5.frozen 3
          have r4 := HB5.cell (j := 4) rfl
          have f4 := HB5.frozen 4
          have HJ2 : Hid (MaI w base M T G cp a E en mp (k + 1 + 1) b5 (runS E T (sOne 0) ((sb s).take (k + 1))) (set5 w5 b5 (ahd E (stp E T Sk x)) (acc en (stp E T Sk x)))) := by
            have hc : Chg (fun j => j = b5) w5 (set5 w5 b5 (ahd E (stp E T Sk x)) (acc en (stp E T Sk x))) := chg_set5 _ _ _ _ rfl
            have hbl := HW3.out.2
            have hbs := HI.out.2.2
            rw [HN.out.1]
            exact ⟨H5.out.1.chg hc hne5.1 hne5.2.1 (fun j q => by omega), H5.out.2.1.chg hc hne5.2.2.1, HB5.set5 _ _, chg_ownS (HW4.out.1.chg.trans H5.out.2.2) (hc.mono (fun j q => by omega))⟩
          simp only [set5] at HJ2
          clear HB5
          go_wp2_with fail
          refine ⟨⟨k + 1, by omega, by go_num, HJ2⟩, ?_⟩
          go_light
          simp [intOf]; omega
      · go_simp
        refine hK.out _ _ (.inr (HSk.out _ (HJ.out.below (by repeat (first | exact Below.refl _ _ | refine Below.drew ?_ | refine Below.alloc ?_ (Nat.le_refl _) _ | refine below_set ?_ (Nat.le_refl _) _ _))))) ?_
        clear hK
        try simp only [Act.put, List.getElem_toArray, List.getElem_cons_zero, List.getElem_cons_succ, List.setIfInBounds_toArray, List.set_cons_zero, List.set_cons_succ]
        have hX : Below wr.heap.size wr (wr.alloc (.cells z4 84)).drew := ((Below.refl _ _).alloc (Nat.le_refl _) _).drew
        have hBX : BoxAt (wr.alloc (.cells z4 84)).drew w.heap.size 84 4 wr.heap.size z4.toList := (boxAt_new wr z4 HJ.out.chg.size rfl).below ((Below.refl _ _).drew)
        refine anyT_one (i := 10) (by kernel_rfl) rfl (fun K hK => ?_)
        go_simp
        refine (HCm.out _).mono ?_
        rintro r v3 ⟨rfl, hb3⟩
        have HV : Hid (MaI w base M T G cp a E en mp (k + 1) b5 Sk v3) := HJ.out.below (hX.trans (hb3.mono hX.size))
        have HBx : Hid (BoxAt v3 w.heap.size 84 4 wr.heap.size z4.toList) := hBX.below hb3
        have y0 := HBx.out.cell (j := 0) rfl
        have o0 := HBx.out.frozen 0
        have y1 := HBx.out.cell (j := 1) rfl
        have o1 := HBx.out.frozen 1
        have y2 := HBx.out.cell (j := 2) rfl
        have o2 := HBx.out.frozen 2
        have y3 := HBx.out.cell (j := 3) rfl
        have o3 := HBx.out.frozen 3
        have hrow : ∀ cs : World, Chg (fun j => j = wr.heap.size) v3 cs → MaI w base M T G cp a E en mp (k + 1) b5 Sk cs := fun cs hc => by
          have h := HV.out
          have hbs := HI.out.2.2
          have hws := HJ.out.chg.size
          obtain ⟨D, hD⟩ := h.map
          have n1 : ¬ M = wr.heap.size := by have := HJ.out.mtr.ltM.2; omega
          have n2 : ¬ G = wr.heap.size := by have := HJ.out.mtr.ltG.2; omega
          have n3 : ¬ mp = wr.heap.size := StD.ne hD HBx.out
          have n4 : ¬ b5 = wr.heap.size := by have := HJ.out.box.lt.2; omega
          exact ⟨h.mtr.chg hc n1 n2 (fun j q => by omega), h.map.chg hc n3, h.box.chg hc n4, chg_ownS h.chg (hc.mono (fun j q => by omega))⟩
        have HRow : Hid (∀ cs : World, Chg (fun j => j = wr.heap.size) v3 cs → MaI w base M T G cp a E en mp (k + 1) b5 Sk cs) := hrow
        refine hK.out _ _ (.inr (HSk.out _ HV.out)) ?_
        clear hK hb3 hX hBX hrow
        try simp only [Act.put, List.getElem_toArray, List.getElem_cons_zero, List.getElem_cons_succ, List.setIfInBounds_toArray, List.set_cons_zero, List.set_cons_succ]
        refine anyT_one (i := 12) (by kernel_rfl) rfl (fun K hK => ?_)
        go_simp
        refine hK.out _ _ (.inr (HSk.out _ (HRow.out _ ((((Chg.of_set (S := fun j => j = wr.heap.size) _ wr.heap.size 0 _ rfl).trans (Chg.of_set (S := fun j => j = wr.heap.size) _ wr.heap.size 1 _ rfl)).trans (Chg.of_set (S := fun j => j = wr.heap.size) _ wr.heap.size 2 _ rfl)).trans (Chg.of_set (S := fun j => j = wr.heap.size) _ wr.heap.size 3 _ rfl))))) ?_
        clear hK
        try simp only [Act.put, List.getElem_toArray, List.getElem_cons_zero, List.getElem_cons_succ, List.setIfInBounds_toArray, List.set_cons_zero, List.set_cons_succ]
        refine anyT_done (by kernel_rfl) ?_
        obtain ⟨W4, hW4⟩ : ∃ W4 : World, W4 = set4 v3 wr.heap.size 0 (stp E T Sk x) := ⟨_, rfl⟩
        have HW4 : Hid (MaI w base M T G cp a E en mp (k + 1) b5 Sk W4 ∧ BoxAt W4 w.heap.size 84 4 wr.heap.size (psL (stp E T Sk x))) := by
          have hc : Chg (fun j => j = wr.heap.size) v3 W4 := by rw [hW4]; exact chg_set4 _ _ _ _ rfl
          have b4 := own_set4 HBx.out 0 (stp E T Sk x)
          rw [← hW4] at b4
          exact ⟨HRow.out _ hc, b4⟩
        have hW4' := hW4
        simp only [set4, Nat.zero_add] at hW4'
        rw [← hW4']
        clear hW4 hW4' y0 y1 y2 y3 o0 o1 o2 o3
        have heq := ps_equal (stp E T Sk x)
        have q0 := HW4.out.2.cell (j := 0) rfl
        have q1 := HW4.out.2.cell (j := 1) rfl
        have q2 := HW4.out.2.cell (j := 2) rfl
        have q3 := HW4.out.2.cell (j := 3) rfl
        cases hne : noE (stp E T Sk x) with
        | true =>
          rw [hne] at heq
          have HFn : Hid ((false = true ↔ acc en (runS E T (sOne 0) (sb s)) = true)) := by
            refine ⟨fun q => (by cases q), fun q => ?_⟩
            rw [HN.out.2.2] at q
            have hd : ∀ p, p < 256 → (stp E T Sk x) p = false := fun p hp => by
              cases hx : (stp E T Sk x) p with
              | false => rfl
              | true => have := (noE_iff (stp E T Sk x)).2 ⟨p, hp, hx⟩; rw [hne] at this; cases this
            unfold acc at q
            rw [List.any_eq_true] at q
            obtain ⟨p, hp, hx⟩ := q
            rw [runS_dead E T _ _ hd p (List.mem_range.1 hp)] at hx
            cases hx
          clear hne
          go_wp2_with fail
          go_ret
          exact ⟨false, rfl, HFn.out, HW4.out.1.chg⟩
        | false =>
          rw [hne] at heq
          clear hne
          have HSt : Hid (Calls Tryd.prog 41 #[.pointer (some ⟨M, 0, none⟩), psV (stp E T Sk x)] W4 (StP base M T G cp a E en mp (k + 1) (stp E T Sk x) W4)) := state_core (stp E T Sk x) W4 HW4.out.1.mtr HW4.out.1.map (fun p hp => by
            unfold stp sAnd at hp
            rw [Bool.and_eq_true] at hp
            exact HT.out _ _ hp.2) ha (by omega) hbm
          go_wp2_with fail
          refine HSt.out.mono ?_
          rintro e w5 ⟨rfl, H5⟩
          have hne5 := HW4.out.1.ne
          have HB5 := HW4.out.1.box.chg H5.out.2.2 (fun q => hne5.2.2.1 q.symm)
          have r0 := HB5.cell (j := 0) rfl
          have f0 := HB5.frozen 0
          have r1 := HB5.cell (j := 1) rfl
          have f1 := HB5.frozen 1
          have r2 := HB5.cell (j := 2) rfl
          have f2 := HB5.frozen 2
          have r3 := HB5.cell (j := 3) rfl
          have f3 := HB5.frozen 3
          have r4 := HB5.cell (j := 4) rfl
          have f4 := HB5.frozen 4
          have HJ2 : Hid (MaI w base M T G cp a E en mp (k + 1 + 1) b5 (runS E T (sOne 0) ((sb s).take (k + 1))) (set5 w5 b5 (ahd E (stp E T Sk x)) (acc en (stp E T Sk x)))) := by
            have hc : Chg (fun j => j = b5) w5 (set5 w5 b5 (ahd E (stp E T Sk x)) (acc en (stp E T Sk x))) := chg_set5 _ _ _ _ rfl
            have hbl := HW3.out.2
            have hbs := HI.out.2.2
            rw [HN.out.1]
            exact ⟨H5.out.1.chg hc hne5.1 hne5.2.1 (fun j q => by omega), H5.out.2.1.chg hc hne5.2.2.1, HB5.set5 _ _, chg_ownS (HW4.out.1.chg.trans H5.out.2.2) (hc.mono (fun j q => by omega))⟩
          simp only [set5] at HJ2
          clear HB5
          go_wp2_with fail
          refine ⟨⟨k + 1, by omega, by go_num, HJ2⟩, ?_⟩
          go_light
          simp [intOf]; omega
    · obtain rfl : k = s.size := by omega
      have zk : ¬ (s.size : Int) < (s.size : Int) := by omega
      have r4 := HJ.out.box.cell (j := 4) rfl
      have HFl : Hid ((sb s).take s.size = sb s) := by show _ = _; rw [← sb_len, List.take_length]
      go_wp2_with fail
      go_ret
      exact ⟨_, rfl, by rw [HFl.out], HJ.out.chg⟩
end Go.Proofs.YtgiigiegjaagbaaDoor

/-
  impl.MatchRegex.
-/
namespace Go.Proofs.YtgiigiegjaagbaaDoor
open Go.ChangeShapes Go.WideShapes Go.ChangeAt Go.RowKit Go.Deep
set_option linter.unusedVariables false
set_option linter.unusedSimpArgs false
set_option maxRecDepth 100000

set_option maxHeartbeats 1000000 in
theorem matches_long (M : Nat) (s : ByteArray) (hs : 200 < s.size) (w : World) : Calls Tryd.prog 23 #[.pointer (some ⟨M, 0, none⟩), .string s] w fun e w' => e = .returned (.bool false) ∧ w' = w := by
  have zs : (200 : Int) < (s.size : Int) := by omega
  go_enter Tryd.func23, Tryd.ntmps23
  go_wp2_with fail
  go_ret
  exact ⟨rfl, rfl⟩
/-- A pattern without a fault, made and matched. -/
theorem made_matches (os : List (List Pat)) (hwt : wtA os ≤ 250) (s : ByteArray) (w w' : World) {M G cp mp : Nat} (h : MtrI w' w.heap.size M (mkT (lyA os (Lay.no 1))) G cp (lyA os (Lay.no 1)).nx (mkE (lyA os (Lay.no 1))) (mkN (lyA os (Lay.no 1)) (nulA os)) mp) (hm : w'.heap[mp]? = some (.map #[] 0)) (hb : w.heap.size ≤ mp) : Calls Tryd.prog 23 #[.pointer (some ⟨M, 0, none⟩), .string s] w' fun e w2 => ∃ b : Bool, e = .returned (.bool b) ∧ Hid ((b = true ↔ s.size ≤ 200 ∧ LgA os (sb s)) ∧ Chg (fun k => k = mp) w' w2) := by
  have hc := cor_P (.alt os) 1
  have e1 : lyP (.alt os) 1 = lyA os (Lay.no 1) := by simp only [lyP]
  rw [e1] at hc
  have hnx : (lyA os (Lay.no 1)).nx ≤ 256 := by have := nx_A os (Lay.no 1); simp only [Lay.no] at this; simp only [Lay.no]; omega
  by_cases hs : s.size ≤ 200
  · refine (matches_core s hs w' h (StI.made hm) (fun b p hp => (hc.spt.tk p _ hp).2) hc.spt.le hnx hb).mono ?_
    rintro e w2 ⟨b, rfl, H⟩
    refine ⟨b, rfl, ?_, H.out.2⟩
    rw [H.out.1, run_words os hnx]
    exact ⟨fun q => ⟨hs, q⟩, fun q => q.2⟩
  · refine (matches_long M s (by omega) w').mono ?_
    rintro e w2 ⟨rfl, rfl⟩
    exact ⟨false, rfl, ⟨fun q => (by cases q), fun q => absurd q.1 hs⟩, Chg.refl _ _⟩
def MatR2 (p s : ByteArray) (w : World) (e : Ending) (w' : World) : Prop := ∃ b : Bool, e = .returned (.bool b) ∧ Hid (Below w.heap.size w w' ∧ ((¬ (checkM (sb p)).1 = 0 ∧ b = false) ∨ ((checkM (sb p)).1 = 0 ∧ ∃ n os, AltG (AtomG n) os (sb p) ∧ (b = true ↔ s.size ≤ 200 ∧ LgA os (sb s)))))
set_option maxHeartbeats 4000000 in
theorem implMatch_core (p s : ByteArray) (w : World) (hpm : p.size ≤ maxLen) (hT : TabD w) : Calls Tryd.prog 7 #[.string p, .string s] w (MatR2 p s w) := by
  obtain ⟨c, hc⟩ : ∃ c, c = (checkM (sb p)).1 := ⟨_, rfl⟩
  obtain ⟨k, hk⟩ : ∃ k, k = (checkM (sb p)).2 := ⟨_, rfl⟩
  have HC : Hid (c = (checkM (sb p)).1) := hc
  have HT : Hid (TabD w) := hT
  clear hT
  go_enter Tryd.func7, Tryd.ntmps7
  go_wp2_with fail
  refine (readPattern_core p w hpm).mono ?_
  rintro e w1 ⟨u, rfl, hb1, hu⟩
  rw [← hc, ← hk]
  obtain ⟨ua, un, uc, rfl⟩ : ∃ a n cp, u = .slice a n cp := by
    rcases hu with ⟨_, os, _, hU⟩ | ⟨_, rfl⟩
    · obtain ⟨g, n, cp, rfl⟩ := hU.slice; exact ⟨_, _, _, rfl⟩
    · exact ⟨_, _, _, rfl⟩
  obtain ⟨W2, hW2⟩ : ∃ W2 : World, W2 = (w1.alloc (Obj.cells #[.slice ua un uc] 47)).alloc (Obj.cells #[.int .i64 c, .int .i64 (k : Int)] 30) := ⟨_, rfl⟩
  have hb2 : Below w1.heap.size w1 W2 := by rw [hW2]; exact ((Below.refl _ _).alloc (Nat.le_refl _) _).alloc (by simp) _
  have h1 := hb1.size
  have HW2 : Hid (BoxAt W2 w.heap.size 30 2 (w1.heap.size + 1) [.int .i64 c, .int .i64 (k : Int)] ∧ BoxAt W2 w.heap.size 47 1 w1.heap.size [.slice ua un uc] ∧ Below w.heap.size w W2) := by
    refine ⟨?_, ?_, hb1.trans (hb2.mono h1)⟩
    · rw [hW2]
      exact BoxAt.ofHeap (vs := #[.int .i64 c, .int .i64 (k : Int)]) (heap_alloc2_new w1 _ _) (by omega) rfl
    · rw [hW2]
      exact BoxAt.ofHeap (vs := #[.slice ua un uc]) (heap_alloc2_old w1 _ _) (by omega) rfl
  have HU : Hid ((c = 0 ∧ ∃ os, AltOk (sb p) 0 0 p.size os ∧ AltAt W2 (Bet w.heap.size w1.heap.size) os (.slice ua un uc)) ∨ ¬ c = 0) := by
    rw [hc]
    rcases hu with ⟨q, os, ho, hU⟩ | ⟨q, _⟩
    · exact .inl ⟨q, os, ho, hU.move (S := fun _ => False) (Chg.of_below hb2) (fun q hq => hq.elim) (fun q _ z => z)⟩
    · exact .inr q
  have hsz : w1.heap.size ≤ W2.heap.size := hb2.size
  clear hu hc hk hb2
  go_upto_region 2 with fail
  rw [← hW2]
  clear hW2
  have b0 := HW2.out.1.cell (j := 0) rfl
  have a0 := HW2.out.2.1.cell (j := 0) rfl
  by_cases hc0 : c = 0
  · subst hc0
    rcases HU.out with ⟨_, os, ho, d, hU⟩ | q
    · obtain ⟨n, hg⟩ := ho.gr
      have ecut : cut (sb p) 0 p.size = sb p := by unfold cut; rw [List.drop_zero, Nat.sub_zero, ← sb_len, List.take_length]
      rw [ecut] at hg
      have hp : p.size ≤ 200 := by
        apply Classical.byContradiction
        intro h6
        have q0 : (checkM (sb p)).1 = 0 := HC.out.symm
        unfold checkM at q0
        rw [if_pos (by rw [sb_len]; omega)] at q0
        exact absurd q0 (by decide)
      have hwt : wtA os ≤ 250 := by have := wt_alt (fun xs t q => wt_atom n xs t q) hg; rw [sb_len] at this; omega
      have hTW : TabD W2 := HT.out.chg (S := fun _ => False) (Chg.of_below (HW2.out.2.2)) (fun q => q)
      obtain ⟨sa, sn, sc, hsl, hmk⟩ := makeMatcher_core W2 hTW (fun k hk => by have := hk.2; omega) hU hwt
      simp only [Value.slice.injEq] at hsl
      obtain ⟨rfl, rfl, rfl⟩ := hsl
      have HMk : Hid (Calls Tryd.prog 22 #[.agg #[.slice ua un uc]] W2 (MkR os W2)) := hmk
      have HG : Hid (AltG (AtomG n) os (sb p) ∧ wtA os ≤ 250) := ⟨hg, hwt⟩
      clear ho hU hg hp hwt hTW hmk ecut
      go_wp2_with fail
      refine HMk.out.mono ?_
      rintro e w3 ⟨M, G, cp, mp, rfl, H3⟩
      have HMa : Hid (Calls Tryd.prog 23 #[.pointer (some ⟨M, 0, none⟩), .string s] w3 fun e w2 => ∃ b : Bool, e = .returned (.bool b) ∧ Hid ((b = true ↔ s.size ≤ 200 ∧ LgA os (sb s)) ∧ Chg (fun k => k = mp) w3 w2)) := made_matches os HG.out.2 s W2 w3 H3.out.1 H3.out.2.1 H3.out.2.2.1
      go_wp2_with fail
      refine HMa.out.mono ?_
      rintro e w4 ⟨b, rfl, H4⟩
      have HF : Hid (MatR2 p s w (.returned (.bool b)) w4) := by
        have s2 := HW2.out.2.2.size
        have hx := HW2.out.2.2.trans (H3.out.2.2.2.mono s2)
        refine ⟨b, rfl, Chg.below hx H4.out.2 hx.size (fun k q => by have := H3.out.2.2.1; omega), .inr ⟨HC.out.symm, n, os, HG.out.1, H4.out.1⟩⟩
      go_wp2_with fail
      go_ret
      exact HF.out
    · exact absurd rfl q
  · go_wp2_with fail
    go_ret
    exact ⟨false, rfl, HW2.out.2.2, .inl ⟨by rw [← HC.out]; exact hc0, rfl⟩⟩
end Go.Proofs.YtgiigiegjaagbaaDoor

/-
  spec.l4Ch, l4Op, l4Class, CheckRegex.
-/
namespace Go.Proofs.YtgiigiegjaagbaaDoor
open Go.ChangeShapes Go.WideShapes Go.ChangeAt Go.RowKit Go.Deep
set_option linter.unusedVariables false
set_option linter.unusedSimpArgs false
set_option maxRecDepth 100000

theorem ne_u8 {x c : UInt8} (h : ¬ x = c) : ¬ (x.toNat : Int) = (c.toNat : Int) := fun q => h (UInt8.toNat_inj.1 (by omega))
set_option maxHeartbeats 2000000 in
theorem l4Ch_core (p : ByteArray) (i : Nat) (w : World) (hp : p.size ≤ 200) (hi : i ≤ 300) (c : UInt8) (k : Nat) (b : Bool) (h : chM (sb p) i = (c, k, b)) :
    Calls Tryd.prog 43 #[.string p, .int .i64 (i : Int)] w fun e w' => e = .returned (.tuple #[.int .u8 (c.toNat : Int), .int .i64 (k : Int), .bool b]) ∧ w' = w := by
  have HM : Hid (chM (sb p) i = (c, k, b)) := h
  clear h
  by_cases hlt : i < p.size
  · obtain ⟨x, hx⟩ : ∃ x, (sb p)[i]? = some x := ⟨_, List.getElem?_eq_getElem (by rw [sb_len]; exact hlt)⟩
    obtain ⟨_, gx⟩ := sb_get hx
    have z1 : (i : Int) < (p.size : Int) := by omega
    have hle : ¬ p.size ≤ i := by omega
    have HX : Hid ((sb p)[i]? = some x) := hx
    clear hx
    by_cases hend : x = 93 ∨ x = 45
    · have HF : c = 0 ∧ k = i ∧ b = false := by
        have h1 : chM (sb p) i = (0, i, false) := by unfold chM; rw [HX.out]; simp only []; rw [if_pos hend]
        rw [HM.out] at h1
        simpa using h1
      obtain ⟨rfl, rfl, rfl⟩ := HF
      rcases hend with rfl | rfl
      all_goals go_enter Tryd.func43, Tryd.ntmps43
      all_goals go_wp2_with fail
      all_goals refine bodyPost_ret (v := .tuple #[.int .u8 0, .int .i64 (k : Int), .bool false]) (by simp [results, Tryd.results43, go_sem]) rfl ⟨rfl, rfl⟩
    have h93 : ((x.toNat : Int) == 93) = false := beq_eq_false_iff_ne.2 (ne_u8 (c := 93) (fun q => hend (.inl q)))
    have h45 : ((x.toNat : Int) == 45) = false := beq_eq_false_iff_ne.2 (ne_u8 (c := 45) (fun q => hend (.inr q)))
    by_cases h92 : x = 92
    · subst h92
      by_cases hl2 : i + 1 < p.size
      · obtain ⟨y, hy⟩ : ∃ y, (sb p)[i + 1]? = some y := ⟨_, List.getElem?_eq_getElem (by rw [sb_len]; exact hl2)⟩
        obtain ⟨_, gy⟩ := sb_get hy
        have HF : c = y ∧ k = i + 2 ∧ b = true := by
          have h1 : chM (sb p) i = (y, i + 2, true) := by rw [chM_esc HX.out, hy]
          rw [HM.out] at h1
          simpa using h1
        obtain ⟨rfl, rfl, rfl⟩ := HF
        have z2 : (i : Int) + 1 < (p.size : Int) := by omega
        clear hy
        go_enter Tryd.func43, Tryd.ntmps43
        go_wp2_with fail
        refine bodyPost_ret (v := .tuple #[.int .u8 (c.toNat : Int), .int .i64 ((i + 2 : Nat) : Int), .bool true]) (by simp [results, Tryd.results43, go_sem]) rfl ⟨rfl, rfl⟩
      · have HF : c = 0 ∧ k = i + 1 ∧ b = false := by
          have h1 : chM (sb p) i = (0, i + 1, false) := by rw [chM_esc HX.out, List.getElem?_eq_none (by rw [sb_len]; omega)]
          rw [HM.out] at h1
          simpa using h1
        obtain ⟨rfl, rfl, rfl⟩ := HF
        have z2 : ¬ (i : Int) + 1 < (p.size : Int) := by omega
        go_enter Tryd.func43, Tryd.ntmps43
        go_wp2_with fail
        refine bodyPost_ret (v := .tuple #[.int .u8 0, .int .i64 ((i + 1 : Nat) : Int), .bool false]) (by simp [results, Tryd.results43, go_sem]) rfl ⟨rfl, rfl⟩
    · have z92 : ((x.toNat : Int) == 92) = false := beq_eq_false_iff_ne.2 (ne_u8 (c := 92) h92)
      have HF : c = x ∧ k = i + 1 ∧ b = true := by
        have h1 : chM (sb p) i = (x, i + 1, true) := by unfold chM; rw [HX.out]; simp only []; rw [if_neg hend, if_neg h92]
        rw [HM.out] at h1
        simpa using h1
      obtain ⟨rfl, rfl, rfl⟩ := HF
      go_enter Tryd.func43, Tryd.ntmps43
      go_wp2_with fail
      refine bodyPost_ret (v := .tuple #[.int .u8 (c.toNat : Int), .int .i64 ((i + 1 : Nat) : Int), .bool true]) (by simp [results, Tryd.results43, go_sem]) rfl ⟨rfl, rfl⟩
  · have HF : c = 0 ∧ k = i ∧ b = false := by
      have h1 : chM (sb p) i = (0, i, false) := chM_end (List.getElem?_eq_none (by rw [sb_len]; omega))
      rw [HM.out] at h1
      simpa using h1
    obtain ⟨rfl, rfl, rfl⟩ := HF
    have z1 : ¬ (k : Int) < (p.size : Int) := by omega
    have z2 : (p.size : Int) ≤ (k : Int) := by omega
    go_enter Tryd.func43, Tryd.ntmps43
    go_wp2_with fail
    refine bodyPost_ret (v := .tuple #[.int .u8 0, .int .i64 (k : Int), .bool false]) (by simp [results, Tryd.results43, go_sem]) rfl ⟨rfl, rfl⟩

set_option maxHeartbeats 1000000 in
theorem l4Op_core (c : UInt8) (w : World) : Calls Tryd.prog 27 #[.int .u8 (c.toNat : Int)] w fun e w' => e = .returned (.bool (decide (isOp c))) ∧ w' = w := by
  by_cases h42 : c = 42
  · subst h42
    go_enter Tryd.func27, Tryd.ntmps27
    go_wp2_with fail
    go_ret
    exact ⟨rfl, rfl⟩
  by_cases h43 : c = 43
  · subst h43
    go_enter Tryd.func27, Tryd.ntmps27
    go_wp2_with fail
    go_ret
    exact ⟨rfl, rfl⟩
  by_cases h63 : c = 63
  · subst h63
    go_enter Tryd.func27, Tryd.ntmps27
    go_wp2_with fail
    go_ret
    exact ⟨rfl, rfl⟩
  have z1 : ((c.toNat : Int) == 42) = false := beq_eq_false_iff_ne.2 (ne_u8 (c := 42) h42)
  have z2 : ((c.toNat : Int) == 43) = false := beq_eq_false_iff_ne.2 (ne_u8 (c := 43) h43)
  have z3 : ((c.toNat : Int) == 63) = false := beq_eq_false_iff_ne.2 (ne_u8 (c := 63) h63)
  have H : Hid (decide (isOp c) = false) := decide_eq_false (fun q => q.elim h42 (fun q => q.elim h43 h63))
  go_enter Tryd.func27, Tryd.ntmps27
  go_wp2_with fail
  go_ret
  exact ⟨by rw [H.out]; (first | rfl | simp [z3]), rfl⟩
end Go.Proofs.YtgiigiegjaagbaaDoor

/-
  spec.l4Class.
-/
namespace Go.Proofs.YtgiigiegjaagbaaDoor
open Go.ChangeShapes Go.WideShapes Go.ChangeAt Go.RowKit Go.Deep
set_option linter.unusedVariables false
set_option linter.unusedSimpArgs false
set_option maxRecDepth 100000

theorem cls_go {p : List UInt8} {j : Nat} {b : Bool} {f : UInt8 → Bool} (hj : j ≤ p.length) (h : ¬ (p[j]? = some 93 ∧ b = true)) : clsM p j b f = match itemM p j with | .inr e => .inr e | .inl (a, b, k) => clsM p k true (wider f a b) := by
  cases b
  · exact cls_first hj
  · exact cls_more hj (fun q => h ⟨q, rfl⟩)
/-- What l4Class hands back. -/
def ClassP (p : ByteArray) (i : Nat) (e : Ending) : Prop :=
  (∃ f k, classM (sb p) i = .inl (f, k) ∧ e = .returned (.tuple #[.int .i64 (k : Int), .agg #[.int .i64 0, .int .i64 0]])) ∨ (∃ c k, classM (sb p) i = .inr (c, k) ∧ e = .returned (.tuple #[.int .i64 0, .agg #[.int .i64 c, .int .i64 (k : Int)]]))
theorem class_ret {base rb : Nat} {w : World} {a : Act} {x y z : Value} (hx : a.tmps.getD 4 undef = x) (ht : a.tmps.getD 5 undef = .pointer (some ⟨rb, 0, none⟩)) (he : BoxAt w base 30 2 rb [y, z]) :
    (results Tryd.f28 a.tmps).run Tryd.prog w = .ok (.tuple #[x, .agg #[y, z]]) w := by
  have q0 := he.cell (j := 0) rfl
  have q1 := he.cell (j := 1) rfl
  have h1 : a.tmps[4]?.getD undef = x := by rw [← Array.getD_eq_getD_getElem?]; exact hx
  have h2 : a.tmps[5]?.getD undef = .pointer (some ⟨rb, 0, none⟩) := by rw [← Array.getD_eq_getD_getElem?]; exact ht
  simp [results, Tryd.results28, go_sem, h1, h2, q0, q1]

set_option maxHeartbeats 8000000 in
theorem l4Class_core (p : ByteArray) (i : Nat) (w : World) (hp : p.size ≤ 200) (hi : i < p.size) :
    Calls Tryd.prog 28 #[.string p, .int .i64 (i : Int)] w fun e w' => ClassP p (i + 1) e ∧ Below w.heap.size w w' := by
  obtain ⟨W0, hW0⟩ : ∃ W0 : World, W0 = w.alloc (Obj.cells #[.int .i64 0, .int .i64 0] 30) := ⟨_, rfl⟩
  have HW0 : Hid (BoxAt W0 w.heap.size 30 2 w.heap.size [.int .i64 0, .int .i64 0] ∧ Below w.heap.size w W0) := by
    rw [hW0]; exact ⟨boxAt_new w _ (Nat.le_refl _) rfl, (Below.refl _ _).alloc (Nat.le_refl _) _⟩
  have HS : Hid (∀ a b : Value, BoxAt ((W0.setCell ⟨w.heap.size, 0, none⟩ a).setCell ⟨w.heap.size, 1, none⟩ b) w.heap.size 30 2 w.heap.size [a, b] ∧ Below w.heap.size w ((W0.setCell ⟨w.heap.size, 0, none⟩ a).setCell ⟨w.heap.size, 1, none⟩ b)) := fun a b => ⟨(HW0.out.1.set 0 a).set 1 b, below_set (below_set HW0.out.2 (Nat.le_refl _) 0 _) (Nat.le_refl _) 1 _⟩
  have r0 := HW0.out.1.cell (j := 0) rfl
  have r1 := HW0.out.1.cell (j := 1) rfl
  have f0 := HW0.out.1.frozen 0
  have f1 := HW0.out.1.frozen 1
  clear HW0
  obtain ⟨ng, j0, hng, hj0, hM0⟩ : ∃ (ng : Bool) (j0 : Nat), j0 = (if ng = true then i + 2 else i + 1) ∧ j0 ≤ p.size ∧ (ClsEq (sb p) (i + 1) ng j0 false (fun _ => false) ∧ (ng = true ↔ (sb p)[i + 1]? = some 94)) := by
    by_cases hx : (sb p)[i + 1]? = some 94
    · refine ⟨true, i + 2, rfl, by have := lt_of_at hx; rw [sb_len] at this; omega, ?_, ⟨fun _ => hx, fun _ => rfl⟩⟩
      unfold ClsEq classM; rw [if_pos hx]; rfl
    · refine ⟨false, i + 1, rfl, by omega, ?_, ⟨fun q => (by cases q), fun q => absurd q hx⟩⟩
      unfold ClsEq classM; rw [if_neg hx]
      generalize clsM (sb p) (i + 1) false (fun _ => false) = r
      cases r <;> rfl
  have HM0 : Hid (ClsEq (sb p) (i + 1) ng j0 false (fun _ => false)) := hM0.1
  have HNG : Hid (ng = true ↔ (sb p)[i + 1]? = some 94) := hM0.2
  have HJ0 : Hid (j0 = if ng = true then i + 2 else i + 1) := hng
  clear hM0 hng
  go_enter Tryd.func28, Tryd.ntmps28
  go_upto_region 1 with fail
  rw [← hW0]
  clear hW0
  -- TAIL
  by_cases hi1 : i + 1 < p.size
  · obtain ⟨x0, hx0⟩ : ∃ x, (sb p)[i + 1]? = some x := ⟨_, List.getElem?_eq_getElem (by rw [sb_len]; exact hi1)⟩
    obtain ⟨_, gx0⟩ := sb_get hx0
    have zi1 : (i : Int) + 1 < (p.size : Int) := by omega
    cases ng
    · have z94 : ((x0.toNat : Int) == 94) = false := beq_eq_false_iff_ne.2 (ne_u8 (c := 94) (fun q => by have h1 := HNG.out.2 (by rw [hx0, q]); cases h1))
      clear hx0
      go_wp2_with fail
      go_loopw [6, 7] (fun jv nv wr => ∃ (j n : Nat) (f : UInt8 → Bool), j ≤ p.size ∧ n ≤ j ∧ jv = .int .i64 (j : Int) ∧ nv = .int .i64 (n : Int) ∧ ClsEq (sb p) (i + 1) false j (decide (0 < n)) f ∧ wr = W0) (fun jv _ _ => p.size - (intOf jv).toNat)
      case atStart => exact ⟨j0, 0, fun _ => false, hj0, Nat.zero_le _, congrArg (Value.int .i64) (by rw [HJ0.out]; simp <;> omega), rfl, HM0.out, rfl⟩
      case round =>
        obtain ⟨j, n, f, hj, hnj, rfl, rfl, hE, hwr⟩ := hrel
        have HE : Hid (ClsEq (sb p) (i + 1) false j (decide (0 < n)) f) := hE
        rw [hwr]
        clear hE hwr HM0 HJ0 HNG
        by_cases hlt : j < p.size
        · obtain ⟨x, hx⟩ : ∃ x, (sb p)[j]? = some x := ⟨_, List.getElem?_eq_getElem (by rw [sb_len]; exact hlt)⟩
          obtain ⟨_, gx⟩ := sb_get hx
          have HX : Hid ((sb p)[j]? = some x) := hx
          have zj : (j : Int) < (p.size : Int) := by omega
          clear hx
          by_cases hend : x = 93 ∧ 0 < n
          · obtain ⟨rfl, hn0⟩ := hend
            have zn : (0 : Int) < (n : Int) := by omega
            have HF : Hid (∃ f', classM (sb p) (i + 1) = .inl (f', j + 1)) := by
              refine ⟨if false = true then fun c => !f c else f, ?_⟩
              rw [HE.out.eq, decide_eq_true hn0, cls_shut HX.out]
            obtain ⟨f', hf'⟩ := HF.out
            have HF' : Hid (classM (sb p) (i + 1) = .inl (f', j + 1)) := hf'
            clear hf' HF
            go_wp2_with fail
            exact bodyPost_ret (v := .tuple #[.int .i64 ((j + 1 : Nat) : Int), .agg #[.int .i64 0, .int .i64 0]]) (class_ret rfl rfl (HS.out (.int .i64 0) (.int .i64 0)).1) rfl ⟨.inl ⟨f', j + 1, HF'.out, rfl⟩, (HS.out (.int .i64 0) (.int .i64 0)).2⟩
          · have HG : Hid (clsM (sb p) j (decide (0 < n)) f = match itemM (sb p) j with | .inr e => .inr e | .inl (a, b, k) => clsM (sb p) k true (wider f a b)) := cls_go (by rw [sb_len]; omega) (fun q => hend ⟨by have h1 := q.1; rw [HX.out] at h1; exact Option.some.inj h1, by simpa using q.2⟩)
            obtain ⟨lo, k, b, hch⟩ : ∃ lo k b, chM (sb p) j = (lo, k, b) := ⟨_, _, _, rfl⟩
            have HCh : Hid (chM (sb p) j = (lo, k, b)) := hch
            have hkl : b = true → k ≤ p.size ∧ j < k := fun q => by
              subst q
              have := chM_gt hch
              rw [sb_len] at this
              omega
            clear hch
            have hpick : ((x.toNat : Int) == 93) = false ∨ (¬ (0 : Int) < (n : Int)) := by
              by_cases h93 : x = 93
              · exact .inr (fun q => hend ⟨h93, by omega⟩)
              · exact .inl (beq_eq_false_iff_ne.2 (ne_u8 (c := 93) h93))
            clear hend
            have hpk : (((x.toNat : Int) == 93) = false) ∨ (((x.toNat : Int) == 93) = true ∧ n = 0) := by
              rcases hpick with q | q
              · exact .inl q
              · cases hq : ((x.toNat : Int) == 93)
                · exact .inl rfl
                · exact .inr ⟨rfl, by omega⟩
            clear hpick
            rcases hpk with h93 | ⟨h93, hn0⟩
            case' inr =>
              have zn : ¬ (0 : Int) < (n : Int) := by omega
              clear hn0
            all_goals
              go_wp2_with fail
              refine (l4Ch_core p j W0 hp (by omega) lo k b HCh.out).mono ?_
              rintro e w1 ⟨rfl, hw1⟩
              rw [hw1]
              clear hw1
              cases b
              case false =>
                have HF : Hid (classM (sb p) (i + 1) = .inr (2, k)) := by
                  show classM (sb p) (i + 1) = _
                  rw [HE.out.eq, HG.out]
                  unfold itemM
                  rw [HCh.out]
                go_wp2_with fail
                exact bodyPost_ret (v := .tuple #[.int .i64 0, .agg #[.int .i64 2, .int .i64 (k : Int)]]) (class_ret rfl rfl (HS.out (.int .i64 2) (.int .i64 (k : Int))).1) rfl ⟨.inr ⟨2, k, HF.out, rfl⟩, (HS.out (.int .i64 2) (.int .i64 (k : Int))).2⟩
              obtain ⟨hks, hjk⟩ := hkl rfl
              clear hkl
              by_cases h45 : (sb p)[k]? = some 45
              · obtain ⟨hk2, gk⟩ := sb_get h45
                have HK : Hid ((sb p)[k]? = some 45) := h45
                have zk : (k : Int) < (p.size : Int) := by omega
                obtain ⟨hh, m, b2, hch2⟩ : ∃ hh m b2, chM (sb p) (k + 1) = (hh, m, b2) := ⟨_, _, _, rfl⟩
                have HCh2 : Hid (chM (sb p) (k + 1) = (hh, m, b2)) := hch2
                have hml : b2 = true → m ≤ p.size ∧ k < m := fun q => by
                  subst q
                  have := chM_gt hch2
                  rw [sb_len] at this
                  omega
                clear hch2 h45
                go_wp2_with fail
                refine (l4Ch_core p (k + 1) W0 hp (by omega) hh m b2 HCh2.out).mono ?_
                rintro e w2 ⟨rfl, hw2⟩
                rw [hw2]
                clear hw2
                cases b2
                · have HF : Hid (classM (sb p) (i + 1) = .inr (2, m)) := by
                    show classM (sb p) (i + 1) = _
                    rw [HE.out.eq, HG.out]
                    unfold itemM
                    rw [HCh.out]
                    simp only []
                    rw [if_pos HK.out, HCh2.out]
                  go_wp2_with fail
                  exact bodyPost_ret (v := .tuple #[.int .i64 0, .agg #[.int .i64 2, .int .i64 (m : Int)]]) (class_ret rfl rfl (HS.out (.int .i64 2) (.int .i64 (m : Int))).1) rfl ⟨.inr ⟨2, m, HF.out, rfl⟩, (HS.out (.int .i64 2) (.int .i64 (m : Int))).2⟩
                · obtain ⟨hms, hkm⟩ := hml rfl
                  clear hml
                  by_cases hlo : hh < lo
                  · have zlo : (hh.toNat : Int) < (lo.toNat : Int) := by have := UInt8.lt_iff_toNat_lt.1 hlo; omega
                    have HF : Hid (classM (sb p) (i + 1) = .inr (4, j)) := by
                      show classM (sb p) (i + 1) = _
                      rw [HE.out.eq, HG.out]
                      unfold itemM
                      rw [HCh.out]
                      simp only []
                      rw [if_pos HK.out, HCh2.out]
                      simp only []
                      rw [if_pos hlo]
                    go_wp2_with fail
                    exact bodyPost_ret (v := .tuple #[.int .i64 0, .agg #[.int .i64 4, .int .i64 (j : Int)]]) (class_ret rfl rfl (HS.out (.int .i64 4) (.int .i64 (j : Int))).1) rfl ⟨.inr ⟨4, j, HF.out, rfl⟩, (HS.out (.int .i64 4) (.int .i64 (j : Int))).2⟩
                  · have zlo : (lo.toNat : Int) ≤ (hh.toNat : Int) := by have := UInt8.le_iff_toNat_le.1 (UInt8.not_lt.1 hlo); omega
                    have HF : Hid (ClsEq (sb p) (i + 1) false m true (wider f lo hh)) := by
                      show ClsEq _ _ _ _ _ _
                      unfold ClsEq
                      rw [HE.out.eq, HG.out]
                      unfold itemM
                      rw [HCh.out]
                      simp only []
                      rw [if_pos HK.out, HCh2.out]
                      simp only []
                      rw [if_neg hlo]
                    clear hlo
                    go_wp2_with fail
                    go_roundw
                    case rel => exact ⟨m, n + 1, wider f lo hh, hms, by omega, rfl, by go_num, by rw [decide_eq_true (Nat.succ_pos n)]; exact HF.out, trivial⟩
                    case measure => simp [intOf]; omega
              · have HK : Hid (¬ (sb p)[k]? = some 45) := h45
                have HF : Hid (ClsEq (sb p) (i + 1) false k true (wider f lo lo)) := by
                  show ClsEq _ _ _ _ _ _
                  unfold ClsEq
                  rw [HE.out.eq, HG.out]
                  unfold itemM
                  rw [HCh.out]
                  simp only []
                  rw [if_neg HK.out]
                clear h45
                by_cases hke : k < p.size
                · obtain ⟨y, hy⟩ : ∃ y, (sb p)[k]? = some y := ⟨_, List.getElem?_eq_getElem (by rw [sb_len]; exact hke)⟩
                  obtain ⟨_, gy⟩ := sb_get hy
                  have zk : (k : Int) < (p.size : Int) := by omega
                  have zy : ((y.toNat : Int) == 45) = false := beq_eq_false_iff_ne.2 (ne_u8 (c := 45) (fun q => HK.out (by rw [hy, q])))
                  clear hy
                  go_wp2_with fail
                  go_roundw
                  case rel => exact ⟨k, n + 1, wider f lo lo, hks, by omega, rfl, by go_num, by rw [decide_eq_true (Nat.succ_pos n)]; exact HF.out, trivial⟩
                  case measure => simp [intOf]; omega
                · have zk : ¬ (k : Int) < (p.size : Int) := by omega
                  go_wp2_with fail
                  go_roundw
                  case rel => exact ⟨k, n + 1, wider f lo lo, hks, by omega, rfl, by go_num, by rw [decide_eq_true (Nat.succ_pos n)]; exact HF.out, trivial⟩
                  case measure => simp [intOf]; omega
        · have HF : Hid (classM (sb p) (i + 1) = .inr (2, p.size)) := by
            show classM (sb p) (i + 1) = _
            rw [HE.out.eq, clsM, dif_neg (by rw [sb_len]; exact hlt), sb_len]
          have zj : ¬ (j : Int) < (p.size : Int) := by omega
          go_wp2_with fail
          exact bodyPost_ret (v := .tuple #[.int .i64 0, .agg #[.int .i64 2, .int .i64 (p.size : Int)]]) (class_ret rfl rfl (HS.out (.int .i64 2) (.int .i64 (p.size : Int))).1) rfl ⟨.inr ⟨2, p.size, HF.out, rfl⟩, (HS.out (.int .i64 2) (.int .i64 (p.size : Int))).2⟩
    · have h94 : x0 = 94 := by have h1 := HNG.out.1 rfl; rw [hx0] at h1; exact Option.some.inj h1
      subst h94
      clear hx0
      go_wp2_with fail
      go_loopw [6, 7] (fun jv nv wr => ∃ (j n : Nat) (f : UInt8 → Bool), j ≤ p.size ∧ n ≤ j ∧ jv = .int .i64 (j : Int) ∧ nv = .int .i64 (n : Int) ∧ ClsEq (sb p) (i + 1) true j (decide (0 < n)) f ∧ wr = W0) (fun jv _ _ => p.size - (intOf jv).toNat)
      case atStart => exact ⟨j0, 0, fun _ => false, hj0, Nat.zero_le _, congrArg (Value.int .i64) (by rw [HJ0.out]; simp <;> omega), rfl, HM0.out, rfl⟩
      case round =>
        obtain ⟨j, n, f, hj, hnj, rfl, rfl, hE, hwr⟩ := hrel
        have HE : Hid (ClsEq (sb p) (i + 1) true j (decide (0 < n)) f) := hE
        rw [hwr]
        clear hE hwr HM0 HJ0 HNG
        by_cases hlt : j < p.size
        · obtain ⟨x, hx⟩ : ∃ x, (sb p)[j]? = some x := ⟨_, List.getElem?_eq_getElem (by rw [sb_len]; exact hlt)⟩
          obtain ⟨_, gx⟩ := sb_get hx
          have HX : Hid ((sb p)[j]? = some x) := hx
          have zj : (j : Int) < (p.size : Int) := by omega
          clear hx
          by_cases hend : x = 93 ∧ 0 < n
          · obtain ⟨rfl, hn0⟩ := hend
            have zn : (0 : Int) < (n : Int) := by omega
            have HF : Hid (∃ f', classM (sb p) (i + 1) = .inl (f', j + 1)) := by
              refine ⟨if true = true then fun c => !f c else f, ?_⟩
              rw [HE.out.eq, decide_eq_true hn0, cls_shut HX.out]
            obtain ⟨f', hf'⟩ := HF.out
            have HF' : Hid (classM (sb p) (i + 1) = .inl (f', j + 1)) := hf'
            clear hf' HF
            go_wp2_with fail
            exact bodyPost_ret (v := .tuple #[.int .i64 ((j + 1 : Nat) : Int), .agg #[.int .i64 0, .int .i64 0]]) (class_ret rfl rfl (HS.out (.int .i64 0) (.int .i64 0)).1) rfl ⟨.inl ⟨f', j + 1, HF'.out, rfl⟩, (HS.out (.int .i64 0) (.int .i64 0)).2⟩
          · have HG : Hid (clsM (sb p) j (decide (0 < n)) f = match itemM (sb p) j with | .inr e => .inr e | .inl (a, b, k) => clsM (sb p) k true (wider f a b)) := cls_go (by rw [sb_len]; omega) (fun q => hend ⟨by have h1 := q.1; rw [HX.out] at h1; exact Option.some.inj h1, by simpa using q.2⟩)
            obtain ⟨lo, k, b, hch⟩ : ∃ lo k b, chM (sb p) j = (lo, k, b) := ⟨_, _, _, rfl⟩
            have HCh : Hid (chM (sb p) j = (lo, k, b)) := hch
            have hkl : b = true → k ≤ p.size ∧ j < k := fun q => by
              subst q
              have := chM_gt hch
              rw [sb_len] at this
              omega
            clear hch
            have hpick : ((x.toNat : Int) == 93) = false ∨ (¬ (0 : Int) < (n : Int)) := by
              by_cases h93 : x = 93
              · exact .inr (fun q => hend ⟨h93, by omega⟩)
              · exact .inl (beq_eq_false_iff_ne.2 (ne_u8 (c := 93) h93))
            clear hend
            have hpk : (((x.toNat : Int) == 93) = false) ∨ (((x.toNat : Int) == 93) = true ∧ n = 0) := by
              rcases hpick with q | q
              · exact .inl q
              · cases hq : ((x.toNat : Int) == 93)
                · exact .inl rfl
                · exact .inr ⟨rfl, by omega⟩
            clear hpick
            rcases hpk with h93 | ⟨h93, hn0⟩
            case' inr =>
              have zn : ¬ (0 : Int) < (n : Int) := by omega
              clear hn0
            all_goals
              go_wp2_with fail
              refine (l4Ch_core p j W0 hp (by omega) lo k b HCh.out).mono ?_
              rintro e w1 ⟨rfl, hw1⟩
              rw [hw1]
              clear hw1
              cases b
              case false =>
                have HF : Hid (classM (sb p) (i + 1) = .inr (2, k)) := by
                  show classM (sb p) (i + 1) = _
                  rw [HE.out.eq, HG.out]
                  unfold itemM
                  rw [HCh.out]
                go_wp2_with fail
                exact bodyPost_ret (v := .tuple #[.int .i64 0, .agg #[.int .i64 2, .int .i64 (k : Int)]]) (class_ret rfl rfl (HS.out (.int .i64 2) (.int .i64 (k : Int))).1) rfl ⟨.inr ⟨2, k, HF.out, rfl⟩, (HS.out (.int .i64 2) (.int .i64 (k : Int))).2⟩
              obtain ⟨hks, hjk⟩ := hkl rfl
              clear hkl
              by_cases h45 : (sb p)[k]? = some 45
              · obtain ⟨hk2, gk⟩ := sb_get h45
                have HK : Hid ((sb p)[k]? = some 45) := h45
                have zk : (k : Int) < (p.size : Int) := by omega
                obtain ⟨hh, m, b2, hch2⟩ : ∃ hh m b2, chM (sb p) (k + 1) = (hh, m, b2) := ⟨_, _, _, rfl⟩
                have HCh2 : Hid (chM (sb p) (k + 1) = (hh, m, b2)) := hch2
                have hml : b2 = true → m ≤ p.size ∧ k < m := fun q => by
                  subst q
                  have := chM_gt hch2
                  rw [sb_len] at this
                  omega
                clear hch2 h45
                go_wp2_with fail
                refine (l4Ch_core p (k + 1) W0 hp (by omega) hh m b2 HCh2.out).mono ?_
                rintro e w2 ⟨rfl, hw2⟩
                rw [hw2]
                clear hw2
                cases b2
                · have HF : Hid (classM (sb p) (i + 1) = .inr (2, m)) := by
                    show classM (sb p) (i + 1) = _
                    rw [HE.out.eq, HG.out]
                    unfold itemM
                    rw [HCh.out]
                    simp only []
                    rw [if_pos HK.out, HCh2.out]
                  go_wp2_with fail
                  exact bodyPost_ret (v := .tuple #[.int .i64 0, .agg #[.int .i64 2, .int .i64 (m : Int)]]) (class_ret rfl rfl (HS.out (.int .i64 2) (.int .i64 (m : Int))).1) rfl ⟨.inr ⟨2, m, HF.out, rfl⟩, (HS.out (.int .i64 2) (.int .i64 (m : Int))).2⟩
                · obtain ⟨hms, hkm⟩ := hml rfl
                  clear hml
                  by_cases hlo : hh < lo
                  · have zlo : (hh.toNat : Int) < (lo.toNat : Int) := by have := UInt8.lt_iff_toNat_lt.1 hlo; omega
                    have HF : Hid (classM (sb p) (i + 1) = .inr (4, j)) := by
                      show classM (sb p) (i + 1) = _
                      rw [HE.out.eq, HG.out]
                      unfold itemM
                      rw [HCh.out]
                      simp only []
                      rw [if_pos HK.out, HCh2.out]
                      simp only []
                      rw [if_pos hlo]
                    go_wp2_with fail
                    exact bodyPost_ret (v := .tuple #[.int .i64 0, .agg #[.int .i64 4, .int .i64 (j : Int)]]) (class_ret rfl rfl (HS.out (.int .i64 4) (.int .i64 (j : Int))).1) rfl ⟨.inr ⟨4, j, HF.out, rfl⟩, (HS.out (.int .i64 4) (.int .i64 (j : Int))).2⟩
                  · have zlo : (lo.toNat : Int) ≤ (hh.toNat : Int) := by have := UInt8.le_iff_toNat_le.1 (UInt8.not_lt.1 hlo); omega
                    have HF : Hid (ClsEq (sb p) (i + 1) true m true (wider f lo hh)) := by
                      show ClsEq _ _ _ _ _ _
                      unfold ClsEq
                      rw [HE.out.eq, HG.out]
                      unfold itemM
                      rw [HCh.out]
                      simp only []
                      rw [if_pos HK.out, HCh2.out]
                      simp only []
                      rw [if_neg hlo]
                    clear hlo
                    go_wp2_with fail
                    go_roundw
                    case rel => exact ⟨m, n + 1, wider f lo hh, hms, by omega, rfl, by go_num, by rw [decide_eq_true (Nat.succ_pos n)]; exact HF.out, trivial⟩
                    case measure => simp [intOf]; omega
              · have HK : Hid (¬ (sb p)[k]? = some 45) := h45
                have HF : Hid (ClsEq (sb p) (i + 1) true k true (wider f lo lo)) := by
                  show ClsEq _ _ _ _ _ _
                  unfold ClsEq
                  rw [HE.out.eq, HG.out]
                  unfold itemM
                  rw [HCh.out]
                  simp only []
                  rw [if_neg HK.out]
                clear h45
                by_cases hke : k < p.size
                · obtain ⟨y, hy⟩ : ∃ y, (sb p)[k]? = some y := ⟨_, List.getElem?_eq_getElem (by rw [sb_len]; exact hke)⟩
                  obtain ⟨_, gy⟩ := sb_get hy
                  have zk : (k : Int) < (p.size : Int) := by omega
                  have zy : ((y.toNat : Int) == 45) = false := beq_eq_false_iff_ne.2 (ne_u8 (c := 45) (fun q => HK.out (by rw [hy, q])))
                  clear hy
                  go_wp2_with fail
                  go_roundw
                  case rel => exact ⟨k, n + 1, wider f lo lo, hks, by omega, rfl, by go_num, by rw [decide_eq_true (Nat.succ_pos n)]; exact HF.out, trivial⟩
                  case measure => simp [intOf]; omega
                · have zk : ¬ (k : Int) < (p.size : Int) := by omega
                  go_wp2_with fail
                  go_roundw
                  case rel => exact ⟨k, n + 1, wider f lo lo, hks, by omega, rfl, by go_num, by rw [decide_eq_true (Nat.succ_pos n)]; exact HF.out, trivial⟩
                  case measure => simp [intOf]; omega
        · have HF : Hid (classM (sb p) (i + 1) = .inr (2, p.size)) := by
            show classM (sb p) (i + 1) = _
            rw [HE.out.eq, clsM, dif_neg (by rw [sb_len]; exact hlt), sb_len]
          have zj : ¬ (j : Int) < (p.size : Int) := by omega
          go_wp2_with fail
          exact bodyPost_ret (v := .tuple #[.int .i64 0, .agg #[.int .i64 2, .int .i64 (p.size : Int)]]) (class_ret rfl rfl (HS.out (.int .i64 2) (.int .i64 (p.size : Int))).1) rfl ⟨.inr ⟨2, p.size, HF.out, rfl⟩, (HS.out (.int .i64 2) (.int .i64 (p.size : Int))).2⟩
  · have zi1 : ¬ (i : Int) + 1 < (p.size : Int) := by omega
    cases ng
    case true => exact absurd (HNG.out.1 rfl) (by rw [List.getElem?_eq_none (by rw [sb_len]; omega)]; exact fun q => by cases q)
    go_wp2_with fail
    go_loopw [6, 7] (fun jv nv wr => ∃ (j n : Nat) (f : UInt8 → Bool), j ≤ p.size ∧ n ≤ j ∧ jv = .int .i64 (j : Int) ∧ nv = .int .i64 (n : Int) ∧ ClsEq (sb p) (i + 1) false j (decide (0 < n)) f ∧ wr = W0) (fun jv _ _ => p.size - (intOf jv).toNat)
    case atStart => exact ⟨j0, 0, fun _ => false, hj0, Nat.zero_le _, congrArg (Value.int .i64) (by rw [HJ0.out]; simp <;> omega), rfl, HM0.out, rfl⟩
    case round =>
      obtain ⟨j, n, f, hj, hnj, rfl, rfl, hE, hwr⟩ := hrel
      have HE : Hid (ClsEq (sb p) (i + 1) false j (decide (0 < n)) f) := hE
      rw [hwr]
      clear hE hwr HM0 HJ0 HNG
      by_cases hlt : j < p.size
      · obtain ⟨x, hx⟩ : ∃ x, (sb p)[j]? = some x := ⟨_, List.getElem?_eq_getElem (by rw [sb_len]; exact hlt)⟩
        obtain ⟨_, gx⟩ := sb_get hx
        have HX : Hid ((sb p)[j]? = some x) := hx
        have zj : (j : Int) < (p.size : Int) := by omega
        clear hx
        by_cases hend : x = 93 ∧ 0 < n
        · obtain ⟨rfl, hn0⟩ := hend
          have zn : (0 : Int) < (n : Int) := by omega
          have HF : Hid (∃ f', classM (sb p) (i + 1) = .inl (f', j + 1)) := by
            refine ⟨if false = true then fun c => !f c else f, ?_⟩
            rw [HE.out.eq, decide_eq_true hn0, cls_shut HX.out]
          obtain ⟨f', hf'⟩ := HF.out
          have HF' : Hid (classM (sb p) (i + 1) = .inl (f', j + 1)) := hf'
          clear hf' HF
          go_wp2_with fail
          exact bodyPost_ret (v := .tuple #[.int .i64 ((j + 1 : Nat) : Int), .agg #[.int .i64 0, .int .i64 0]]) (class_ret rfl rfl (HS.out (.int .i64 0) (.int .i64 0)).1) rfl ⟨.inl ⟨f', j + 1, HF'.out, rfl⟩, (HS.out (.int .i64 0) (.int .i64 0)).2⟩
        · have HG : Hid (clsM (sb p) j (decide (0 < n)) f = match itemM (sb p) j with | .inr e => .inr e | .inl (a, b, k) => clsM (sb p) k true (wider f a b)) := cls_go (by rw [sb_len]; omega) (fun q => hend ⟨by have h1 := q.1; rw [HX.out] at h1; exact Option.some.inj h1, by simpa using q.2⟩)
          obtain ⟨lo, k, b, hch⟩ : ∃ lo k b, chM (sb p) j = (lo, k, b) := ⟨_, _, _, rfl⟩
          have HCh : Hid (chM (sb p) j = (lo, k, b)) := hch
          have hkl : b = true → k ≤ p.size ∧ j < k := fun q => by
            subst q
            have := chM_gt hch
            rw [sb_len] at this
            omega
          clear hch
          have hpick : ((x.toNat : Int) == 93) = false ∨ (¬ (0 : Int) < (n : Int)) := by
            by_cases h93 : x = 93
            · exact .inr (fun q => hend ⟨h93, by omega⟩)
            · exact .inl (beq_eq_false_iff_ne.2 (ne_u8 (c := 93) h93))
          clear hend
          have hpk : (((x.toNat : Int) == 93) = false) ∨ (((x.toNat : Int) == 93) = true ∧ n = 0) := by
            rcases hpick with q | q
            · exact .inl q
            · cases hq : ((x.toNat : Int) == 93)
              · exact .inl rfl
              · exact .inr ⟨rfl, by omega⟩
          clear hpick
          rcases hpk with h93 | ⟨h93, hn0⟩
          case' inr =>
            have zn : ¬ (0 : Int) < (n : Int) := by omega
            clear hn0
          all_goals
            go_wp2_with fail
            refine (l4Ch_core p j W0 hp (by omega) lo k b HCh.out).mono ?_
            rintro e w1 ⟨rfl, hw1⟩
            rw [hw1]
            clear hw1
            cases b
            case false =>
              have HF : Hid (classM (sb p) (i + 1) = .inr (2, k)) := by
                show classM (sb p) (i + 1) = _
                rw [HE.out.eq, HG.out]
                unfold itemM
                rw [HCh.out]
              go_wp2_with fail
              exact bodyPost_ret (v := .tuple #[.int .i64 0, .agg #[.int .i64 2, .int .i64 (k : Int)]]) (class_ret rfl rfl (HS.out (.int .i64 2) (.int .i64 (k : Int))).1) rfl ⟨.inr ⟨2, k, HF.out, rfl⟩, (HS.out (.int .i64 2) (.int .i64 (k : Int))).2⟩
            obtain ⟨hks, hjk⟩ := hkl rfl
            clear hkl
            by_cases h45 : (sb p)[k]? = some 45
            · obtain ⟨hk2, gk⟩ := sb_get h45
              have HK : Hid ((sb p)[k]? = some 45) := h45
              have zk : (k : Int) < (p.size : Int) := by omega
              obtain ⟨hh, m, b2, hch2⟩ : ∃ hh m b2, chM (sb p) (k + 1) = (hh, m, b2) := ⟨_, _, _, rfl⟩
              have HCh2 : Hid (chM (sb p) (k + 1) = (hh, m, b2)) := hch2
              have hml : b2 = true → m ≤ p.size ∧ k < m := fun q => by
                subst q
                have := chM_gt hch2
                rw [sb_len] at this
                omega
              clear hch2 h45
              go_wp2_with fail
              refine (l4Ch_core p (k + 1) W0 hp (by omega) hh m b2 HCh2.out).mono ?_
              rintro e w2 ⟨rfl, hw2⟩
              rw [hw2]
              clear hw2
              cases b2
              · have HF : Hid (classM (sb p) (i + 1) = .inr (2, m)) := by
                  show classM (sb p) (i + 1) = _
                  rw [HE.out.eq, HG.out]
                  unfold itemM
                  rw [HCh.out]
                  simp only []
                  rw [if_pos HK.out, HCh2.out]
                go_wp2_with fail
                exact bodyPost_ret (v := .tuple #[.int .i64 0, .agg #[.int .i64 2, .int .i64 (m : Int)]]) (class_ret rfl rfl (HS.out (.int .i64 2) (.int .i64 (m : Int))).1) rfl ⟨.inr ⟨2, m, HF.out, rfl⟩, (HS.out (.int .i64 2) (.int .i64 (m : Int))).2⟩
              · obtain ⟨hms, hkm⟩ := hml rfl
                clear hml
                by_cases hlo : hh < lo
                · have zlo : (hh.toNat : Int) < (lo.toNat : Int) := by have := UInt8.lt_iff_toNat_lt.1 hlo; omega
                  have HF : Hid (classM (sb p) (i + 1) = .inr (4, j)) := by
                    show classM (sb p) (i + 1) = _
                    rw [HE.out.eq, HG.out]
                    unfold itemM
                    rw [HCh.out]
                    simp only []
                    rw [if_pos HK.out, HCh2.out]
                    simp only []
                    rw [if_pos hlo]
                  go_wp2_with fail
                  exact bodyPost_ret (v := .tuple #[.int .i64 0, .agg #[.int .i64 4, .int .i64 (j : Int)]]) (class_ret rfl rfl (HS.out (.int .i64 4) (.int .i64 (j : Int))).1) rfl ⟨.inr ⟨4, j, HF.out, rfl⟩, (HS.out (.int .i64 4) (.int .i64 (j : Int))).2⟩
                · have zlo : (lo.toNat : Int) ≤ (hh.toNat : Int) := by have := UInt8.le_iff_toNat_le.1 (UInt8.not_lt.1 hlo); omega
                  have HF : Hid (ClsEq (sb p) (i + 1) false m true (wider f lo hh)) := by
                    show ClsEq _ _ _ _ _ _
                    unfold ClsEq
                    rw [HE.out.eq, HG.out]
                    unfold itemM
                    rw [HCh.out]
                    simp only []
                    rw [if_pos HK.out, HCh2.out]
                    simp only []
                    rw [if_neg hlo]
                  clear hlo
                  go_wp2_with fail
                  go_roundw
                  case rel => exact ⟨m, n + 1, wider f lo hh, hms, by omega, rfl, by go_num, by rw [decide_eq_true (Nat.succ_pos n)]; exact HF.out, trivial⟩
                  case measure => simp [intOf]; omega
            · have HK : Hid (¬ (sb p)[k]? = some 45) := h45
              have HF : Hid (ClsEq (sb p) (i + 1) false k true (wider f lo lo)) := by
                show ClsEq _ _ _ _ _ _
                unfold ClsEq
                rw [HE.out.eq, HG.out]
                unfold itemM
                rw [HCh.out]
                simp only []
                rw [if_neg HK.out]
              clear h45
              by_cases hke : k < p.size
              · obtain ⟨y, hy⟩ : ∃ y, (sb p)[k]? = some y := ⟨_, List.getElem?_eq_getElem (by rw [sb_len]; exact hke)⟩
                obtain ⟨_, gy⟩ := sb_get hy
                have zk : (k : Int) < (p.size : Int) := by omega
                have zy : ((y.toNat : Int) == 45) = false := beq_eq_false_iff_ne.2 (ne_u8 (c := 45) (fun q => HK.out (by rw [hy, q])))
                clear hy
                go_wp2_with fail
                go_roundw
                case rel => exact ⟨k, n + 1, wider f lo lo, hks, by omega, rfl, by go_num, by rw [decide_eq_true (Nat.succ_pos n)]; exact HF.out, trivial⟩
                case measure => simp [intOf]; omega
              · have zk : ¬ (k : Int) < (p.size : Int) := by omega
                go_wp2_with fail
                go_roundw
                case rel => exact ⟨k, n + 1, wider f lo lo, hks, by omega, rfl, by go_num, by rw [decide_eq_true (Nat.succ_pos n)]; exact HF.out, trivial⟩
                case measure => simp [intOf]; omega
      · have HF : Hid (classM (sb p) (i + 1) = .inr (2, p.size)) := by
          show classM (sb p) (i + 1) = _
          rw [HE.out.eq, clsM, dif_neg (by rw [sb_len]; exact hlt), sb_len]
        have zj : ¬ (j : Int) < (p.size : Int) := by omega
        go_wp2_with fail
        exact bodyPost_ret (v := .tuple #[.int .i64 0, .agg #[.int .i64 2, .int .i64 (p.size : Int)]]) (class_ret rfl rfl (HS.out (.int .i64 2) (.int .i64 (p.size : Int))).1) rfl ⟨.inr ⟨2, p.size, HF.out, rfl⟩, (HS.out (.int .i64 2) (.int .i64 (p.size : Int))).2⟩
end Go.Proofs.YtgiigiegjaagbaaDoor

/-
  spec.l4AtomEnd.
-/
namespace Go.Proofs.YtgiigiegjaagbaaDoor
open Go.ChangeShapes Go.WideShapes Go.ChangeAt Go.RowKit Go.Deep
set_option linter.unusedVariables false
set_option linter.unusedSimpArgs false
set_option maxRecDepth 100000

theorem cut_head {p : List UInt8} {j m : Nat} {c : UInt8} {zs : List UInt8} (h : cut p j m = c :: zs) (hm : m ≤ p.length) : p[j]? = some c ∧ cut p (j + 1) m = zs ∧ j < m := by
  have hl := congrArg List.length h
  rw [cut_len hm] at hl
  simp at hl
  have hj : j < m := by omega
  obtain ⟨d, hd⟩ : ∃ d, p[j]? = some d := ⟨_, List.getElem?_eq_getElem (by omega)⟩
  rw [cut_cat (show j ≤ j + 1 by omega) (show j + 1 ≤ m by omega), cut_one hd] at h
  simp at h
  exact ⟨by rw [hd, h.1], h.2, hj⟩
theorem cut_two {p : List UInt8} {j m : Nat} {xs zs : List UInt8} (h : cut p j m = xs ++ zs) (hm : m ≤ p.length) : cut p j (j + xs.length) = xs ∧ cut p (j + xs.length) m = zs ∧ j + xs.length ≤ max j m := by
  have hl := congrArg List.length h
  rw [cut_len hm, List.length_append] at hl
  by_cases hjm : j ≤ m
  · have h1 := cut_cat (p := p) (show j ≤ j + xs.length by omega) (show j + xs.length ≤ m by omega)
    rw [h] at h1
    have h2 := List.append_inj h1 (by rw [cut_len (by omega)]; omega)
    exact ⟨h2.1.symm, h2.2.symm, by omega⟩
  · have hx : xs = [] := List.length_eq_zero_iff.1 (by omega)
    subst hx
    refine ⟨by simp [cut_nil], by simpa using h, by simp; omega⟩
theorem tok_step {A : List UInt8 → Pat → Prop} {xs : List UInt8} (h : TokG A xs) (hA : ∀ ys t, A ys t → ys ≠ []) : xs = [] ∨ (∃ c zs, xs = c :: zs ∧ (c = 124 ∨ isOp c) ∧ TokG A zs) ∨ (∃ ys zs t, xs = ys ++ zs ∧ A ys t ∧ TokG A zs) := by
  cases h with
  | nil => exact .inl rfl
  | sign hc h => exact .inr (.inl ⟨_, _, rfl, hc, h⟩)
  | atom ha h => exact .inr (.inr ⟨_, _, _, rfl, ha, h⟩)

/-- The contract, up to a depth. -/
def EndC (p : ByteArray) (n : Nat) : Prop := ∀ (i k : Nat) (t : Pat) (w : World), AtomG n (cut (sb p) i k) t → k ≤ p.size → Calls Tryd.prog 25 #[.string p, .int .i64 (i : Int)] w fun e w' => e = .returned (.int .i64 (k : Int)) ∧ Below w.heap.size w w'
set_option maxHeartbeats 8000000 in
theorem end_of {p : ByteArray} (hp : p.size ≤ 200) {n : Nat} (H : EndC p n) : EndC p (n + 1) := by
  intro i k t w hA hk
  have hkl : k ≤ (sb p).length := by rw [sb_len]; exact hk
  obtain ⟨c, ys, hc, _⟩ := hA.first
  obtain ⟨hpi, _, hik⟩ := cut_head hc hkl
  obtain ⟨hi, gi⟩ := sb_get hpi
  have zi : (i : Int) < (p.size : Int) := by omega
  have hlen := cut_len (p := sb p) (i := i) hkl
  have HP : Hid ((sb p)[i]? = some c ∧ (cut (sb p) i k).length = k - i) := ⟨hpi, hlen⟩
  clear hc hpi hlen
  have one : ∀ d, ¬ d = 92 → ¬ d = 91 → ¬ d = 40 → c = d → k = i + 1 → Calls Tryd.prog 25 #[.string p, .int .i64 (i : Int)] w fun e w' => e = .returned (.int .i64 (k : Int)) ∧ Below w.heap.size w w' := fun d h92 h91 h40 hcd hk1 => by
    subst hcd hk1
    have z92 : ((c.toNat : Int) == 92) = false := beq_eq_false_iff_ne.2 (ne_u8 (c := 92) h92)
    have z91 : ((c.toNat : Int) == 91) = false := beq_eq_false_iff_ne.2 (ne_u8 (c := 91) h91)
    have z40 : ((c.toNat : Int) != 40) = true := by have := ne_u8 (c := 40) h40; simpa using this
    go_enter Tryd.func25, Tryd.ntmps25
    go_wp2_with fail
    go_ret
    exact ⟨rfl, Below.refl _ _⟩
  have hA' := hA
  rcases hA with ⟨d, h1, hs, _⟩ | ⟨h1, _⟩ | ⟨d, h1, _⟩ | ⟨zs, os, h1, hT, _⟩ | ⟨q, j, m, f, h1, h2, h3, _⟩
  · have hk1 : k = i + 1 := by have := HP.out.2; rw [h1] at this; simp at this; omega
    have hcd : c = d := by have := (cut_head h1 hkl).1; rw [HP.out.1] at this; exact Option.some.inj this
    exact one d (fun q => hs (.inr (.inr (.inr (.inr q))))) (fun q => hs (.inr (.inr (.inl q)))) (fun q => hs (.inr (.inl q))) hcd hk1
  · have hk1 : k = i + 1 := by have := HP.out.2; rw [h1] at this; simp at this; omega
    have hcd : c = 46 := by have := (cut_head h1 hkl).1; rw [HP.out.1] at this; exact Option.some.inj this
    exact one 46 (by decide) (by decide) (by decide) hcd hk1
  · have hk1 : k = i + 2 := by have := HP.out.2; rw [h1] at this; simp at this; omega
    have hcd : c = 92 := by have := (cut_head h1 hkl).1; rw [HP.out.1] at this; exact Option.some.inj this
    subst hcd hk1
    clear one
    go_enter Tryd.func25, Tryd.ntmps25
    go_wp2_with fail
    go_ret
    exact ⟨rfl, Below.refl _ _⟩
  · obtain ⟨hp40, hrest, _⟩ := cut_head (zs := zs ++ [41]) (by simpa using h1) hkl
    have hc40 : c = 40 := by rw [HP.out.1] at hp40; exact Option.some.inj hp40
    subst hc40
    obtain ⟨hz1, hz2, hz3⟩ := cut_two hrest hkl
    obtain ⟨e, he⟩ : ∃ e, e = i + 1 + zs.length := ⟨_, rfl⟩
    rw [← he] at hz1 hz2 hz3
    obtain ⟨h41, hz4, hek⟩ := cut_head hz2 hkl
    have hk1 : k = e + 1 := by
      have h3 := cut_len (p := sb p) (i := e + 1) hkl
      rw [hz4] at h3
      simp at h3
      omega
    obtain ⟨hel, ge⟩ := sb_get h41
    have HT : Hid (TokG (AtomG n) (cut (sb p) (i + 1) e)) := by
      show TokG (AtomG n) (cut (sb p) (i + 1) e)
      rw [hz1]; exact hT.tok
    have hie : i + 1 ≤ e := by omega
    have HK : Hid (k = e + 1) := hk1
    have HH : Hid (EndC p n) := H
    clear one h1 hT hA' hrest hz1 hz2 hz3 hz4 h41 hp40 he hk1 H
    go_enter Tryd.func25, Tryd.ntmps25
    go_wp2_with fail
    go_loopw [7] (fun jv wr => ∃ (j : Nat), jv = .int .i64 (j : Int) ∧ i + 1 ≤ j ∧ j ≤ e ∧ TokG (AtomG n) (cut (sb p) j e) ∧ Below w.heap.size w wr) (fun jv _ => e - (intOf jv).toNat)
    case atStart => exact ⟨i + 1, by go_num, Nat.le_refl _, hie, HT.out, Below.refl _ _⟩
    case round =>
      obtain ⟨j, rfl, hj1, hj2, hTok, hb⟩ := hrel
      have HTk : Hid (TokG (AtomG n) (cut (sb p) j e)) := hTok
      have hs := hb.size
      clear hTok HT
      have hel2 : e ≤ (sb p).length := by rw [sb_len]; omega
      have hjp : j < p.size := by omega
      have zj : (j : Int) < (p.size : Int) := by omega
      by_cases hje : j = e
      · subst hje
        go_wp2_with fail
        go_ret
        exact ⟨by rw [HK.out]; rfl, hb⟩
      · have hst := tok_step HTk.out (fun ys t q => by obtain ⟨c, zs, h, _⟩ := q.first; rw [h]; simp)
        rcases hst with h0 | ⟨c', zs', h0, hsg, hTk'⟩ | ⟨ys', zs', t', h0, hA1, hTk'⟩
        · have h3 := cut_len (p := sb p) (i := j) hel2
          rw [h0] at h3
          simp at h3
          omega
        · obtain ⟨hpj, hcj, hlt⟩ := cut_head h0 hel2
          obtain ⟨_, gj⟩ := sb_get hpj
          have HN : Hid (TokG (AtomG n) (cut (sb p) (j + 1) e)) := by
            show TokG (AtomG n) (cut (sb p) (j + 1) e)
            rw [hcj]; exact hTk'
          have n41 : ((c'.toNat : Int) != 41) = true := by
            have h5 : ¬ c' = 41 := fun q => by subst q; rcases hsg with q | q | q | q <;> exact absurd q (by decide)
            have := ne_u8 (c := 41) h5
            simpa using this
          clear hpj hcj h0 hTk' HTk
          by_cases h124 : c' = 124
          · subst h124
            clear hsg
            go_wp2_with fail
            go_roundw
            case rel => exact ⟨j + 1, by go_num, by omega, by omega, HN.out, hb⟩
            case measure => simp [intOf]; omega
          · have z124 : ((c'.toNat : Int) == 124) = false := beq_eq_false_iff_ne.2 (ne_u8 (c := 124) h124)
            have hop : isOp c' := hsg.elim (fun q => absurd q h124) (fun q => q)
            have HOp : Hid (Calls Tryd.prog 27 #[.int .u8 (c'.toNat : Int)] wr fun e w' => e = .returned (.bool true) ∧ w' = wr) := by
              have := l4Op_core c' wr
              rw [decide_eq_true hop] at this
              exact this
            clear hsg hop
            go_wp2_with fail
            refine HOp.out.mono ?_
            rintro e' w5 ⟨rfl, hw5⟩
            rw [hw5]
            clear hw5
            go_wp2_with fail
            go_roundw
            case rel => exact ⟨j + 1, by go_num, by omega, by omega, HN.out, hb⟩
            case measure => simp [intOf]; omega
        · obtain ⟨hy1, hy2, hy3⟩ := cut_two h0 hel2
          obtain ⟨c', yt, hyc, n41, n124, nop⟩ := hA1.first
          have hylen : 0 < ys'.length := by rw [hyc]; simp
          have hje2 : j + ys'.length ≤ e := by omega
          obtain ⟨hpj, _, _⟩ := cut_head (c := c') (zs := yt) (by rw [hy1]; exact hyc) (by rw [sb_len]; omega)
          obtain ⟨_, gj⟩ := sb_get hpj
          have z41 : ((c'.toNat : Int) != 41) = true := by have := ne_u8 (c := 41) n41; simpa using this
          have z124 : ((c'.toNat : Int) == 124) = false := beq_eq_false_iff_ne.2 (ne_u8 (c := 124) n124)
          have HOp : Hid (Calls Tryd.prog 27 #[.int .u8 (c'.toNat : Int)] wr fun e w' => e = .returned (.bool false) ∧ w' = wr) := by
            have := l4Op_core c' wr
            rw [decide_eq_false nop] at this
            exact this
          have HN : Hid (TokG (AtomG n) (cut (sb p) (j + ys'.length) e)) := by
            show TokG (AtomG n) (cut (sb p) (j + ys'.length) e)
            rw [hy2]; exact hTk'
          obtain ⟨m, hm⟩ : ∃ m, m = j + ys'.length := ⟨_, rfl⟩
          have HCall : Hid (Calls Tryd.prog 25 #[.string p, .int .i64 (j : Int)] wr fun e w' => e = .returned (.int .i64 (m : Int)) ∧ Below wr.heap.size wr w') := by
            rw [hm]
            exact HH.out j (j + ys'.length) t' wr (by rw [hy1]; exact hA1) (by omega)
          rw [← hm] at HN hje2
          have hjm : j < m := by omega
          clear h0 hTk' HTk hA1 hy1 hy2 hy3 hyc hpj n41 n124 nop hm hylen
          go_wp2_with fail
          refine HOp.out.mono ?_
          rintro e' w5 ⟨rfl, hw5⟩
          rw [hw5]
          clear hw5
          go_wp2_with fail
          refine HCall.out.mono ?_
          rintro e' w6 ⟨rfl, hb6⟩
          have hb7 := hb.trans (hb6.mono hs)
          clear hb6
          go_wp2_with fail
          go_roundw
          case rel => exact ⟨m, rfl, by omega, hje2, HN.out, hb7⟩
          case measure => simp [intOf]; omega
  · have hcd := class_here h1 h2 h3 hkl hik
    have hc91 : c = 91 := by have := hcd.1; rw [HP.out.1] at this; exact Option.some.inj this
    subst hc91
    have HCl : Hid (classM (sb p) (i + 1) = .inl (f, k)) := hcd.2
    clear one h1 h2 h3 hcd hA'
    go_enter Tryd.func25, Tryd.ntmps25
    go_wp2_with fail
    refine (l4Class_core p i w hp hi).mono ?_
    rintro e w4 ⟨hP, hb4⟩
    rcases hP with ⟨f', k', hk', rfl⟩ | ⟨c4, k', hk', rfl⟩
    case inr => rw [HCl.out] at hk'; cases hk'
    obtain ⟨rfl, rfl⟩ : f = f' ∧ k = k' := by rw [HCl.out] at hk'; simpa using hk'
    go_wp2_with fail
    go_ret
    exact ⟨rfl, hb4.trans ((Below.refl _ _).alloc hb4.size _)⟩
theorem end_all {p : ByteArray} (hp : p.size ≤ 200) : ∀ n, EndC p n
  | 0 => fun i k t w h => h.elim
  | n + 1 => end_of hp (end_all hp n)
end Go.Proofs.YtgiigiegjaagbaaDoor

