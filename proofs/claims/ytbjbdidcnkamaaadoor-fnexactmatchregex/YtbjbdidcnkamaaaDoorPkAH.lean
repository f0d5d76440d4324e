import Derived.Deep.RegionLaw
import Derived.Deep.AppendLies
import Derived.Maps.AppendAt
import Derived.Test.YtbjbdidcnkamaaaDoorPkAG
import Derived.Test.YtbjbdidcnkamaaaDoorPkAC
import Derived.Test.YtbjbdidcnkamaaaDoorPkAD
import Derived.Test.YtbjbdidcnkamaaaDoorPkAE
/-
  The sets of positions that a string leads through.
-/
namespace Go.Proofs.YtbjbdidcnkamaaaDoor
set_option linter.unusedVariables false
set_option linter.unusedSimpArgs false

/-- The set behind one byte more. -/
def stp (E T : Nat → PS) (S : PS) (c : UInt8) : PS := sAnd (ahd E S) (T c.toNat)
def runS (E T : Nat → PS) : PS → List UInt8 → PS
  | S, [] => S
  | S, c :: xs => runS E T (stp E T S c) xs
theorem runS_snoc (E T : Nat → PS) : ∀ (S : PS) (xs : List UInt8) (c : UInt8), runS E T S (xs ++ [c]) = stp E T (runS E T S xs) c
  | S, [], c => rfl
  | S, x :: xs, c => runS_snoc E T (stp E T S x) xs c
theorem ahd_iff (E : Nat → PS) (S : PS) (q : Nat) : ahd E S q = true ↔ ∃ p, p < 256 ∧ S p = true ∧ E p q = true := by
  unfold ahd ahdT
  rw [List.any_eq_true]
  constructor
  · rintro ⟨p, hp, hx⟩
    rw [Bool.and_eq_true] at hx
    exact ⟨p, List.mem_range.1 hp, hx.1, hx.2⟩
  · rintro ⟨p, hp, h1, h2⟩
    exact ⟨p, List.mem_range.2 hp, by rw [h1, h2]; rfl⟩
theorem stp_iff (l : Lay) (S : PS) (c : UInt8) (q : Nat) : stp (mkE l) (mkT l) S c q = true ↔ (∃ p, p < 256 ∧ S p = true ∧ mkE l p q = true) ∧ l.tk q c = true := by
  unfold stp sAnd
  rw [Bool.and_eq_true, ahd_iff]
  have : mkT l c.toNat q = l.tk q c := by unfold mkT; congr 1; simp
  rw [this]
theorem run_from (l : Lay) {a : Nat} (hs : Spt a l) (ha : 1 ≤ a) (hn : l.nx ≤ 256) : ∀ (xs : List UInt8) (S : PS), (∀ p, S p = true → 1 ≤ p ∧ p < 256) → ∀ q, runS (mkE l) (mkT l) S xs q = true ↔ ∃ p, S p = true ∧ Pth l p xs q
  | [], S, hS, q => by
    constructor
    · exact fun h => ⟨q, h, .nil q⟩
    · rintro ⟨p, hp, h⟩; cases h; exact hp
  | c :: xs, S, hS, q => by
    have hS' : ∀ p, stp (mkE l) (mkT l) S c p = true → 1 ≤ p ∧ p < 256 := fun p hp => by
      have := hs.tk p c ((stp_iff l S c p).1 hp).2
      omega
    show runS (mkE l) (mkT l) (stp (mkE l) (mkT l) S c) xs q = true ↔ _
    rw [run_from l hs ha hn xs _ hS' q]
    constructor
    · rintro ⟨p', hp', hP⟩
      obtain ⟨⟨p, _, hp, he⟩, ht⟩ := (stp_iff l S c p').1 hp'
      have h1 := (hS p hp).1
      have he' : l.ed p p' = true := by
        unfold mkE at he
        have : (p == 0) = false := by rw [beq_eq_false_iff_ne]; omega
        simpa [this] using he
      exact ⟨p, hp, .step he' ht hP⟩
    · rintro ⟨p, hp, hP⟩
      cases hP with
      | step he ht hP =>
        refine ⟨_, (stp_iff l S c _).2 ⟨⟨p, (hS p hp).2, hp, ?_⟩, ht⟩, hP⟩
        unfold mkE
        rw [he]; rfl
theorem run_all (l : Lay) (hs : Spt 1 l) (hn : l.nx ≤ 256) (em : Bool) (xs : List UInt8) : acc (mkN l em) (runS (mkE l) (mkT l) (sOne 0) xs) = true ↔ (xs = [] ∧ em = true) ∨ Wd l xs := by
  have hacc : ∀ S : PS, acc (mkN l em) S = true ↔ ∃ p, p < 256 ∧ S p = true ∧ mkN l em p = true := fun S => by
    unfold acc
    rw [List.any_eq_true]
    constructor
    · rintro ⟨p, hp, hx⟩
      rw [Bool.and_eq_true] at hx
      exact ⟨p, List.mem_range.1 hp, hx.1, hx.2⟩
    · rintro ⟨p, hp, h1, h2⟩
      exact ⟨p, List.mem_range.2 hp, by rw [h1, h2]; rfl⟩
  rw [hacc]
  cases xs with
  | nil =>
    constructor
    · rintro ⟨p, _, hp, hN⟩
      have h0 : p = 0 := by simpa [runS, sOne] using hp
      subst h0
      unfold mkN at hN
      have hl : l.lst 0 = false := by
        cases hx : l.lst 0 with
        | false => rfl
        | true => have := (hs.lst 0 hx).1; omega
      rw [hl] at hN
      exact .inl ⟨rfl, by simpa using hN⟩
    · rintro (⟨_, h⟩ | h)
      · exact ⟨0, by omega, rfl, by simp [mkN, h]⟩
      · exact (wd_ne h).elim
  | cons c xs =>
    have hS' : ∀ p, stp (mkE l) (mkT l) (sOne 0) c p = true → 1 ≤ p ∧ p < 256 := fun p hp => by
      have := hs.tk p c ((stp_iff l _ c p).1 hp).2
      omega
    have hst : ∀ p, stp (mkE l) (mkT l) (sOne 0) c p = true ↔ l.fst p = true ∧ l.tk p c = true := fun p => by
      rw [stp_iff]
      constructor
      · rintro ⟨⟨p0, _, h0, he⟩, ht⟩
        have : p0 = 0 := by simpa [sOne] using h0
        subst this
        refine ⟨?_, ht⟩
        have hl : l.ed 0 p = false := by
          cases hx : l.ed 0 p with
          | false => rfl
          | true => have := (hs.ed 0 p hx).1.1; omega
        simpa [mkE, hl] using he
      · rintro ⟨h1, h2⟩
        exact ⟨⟨0, by omega, rfl, by simp [mkE, h1]⟩, h2⟩
    constructor
    · rintro ⟨q, _, hq, hN⟩
      obtain ⟨p, hp, hP⟩ := (run_from l hs (Nat.le_refl _) hn xs _ hS' q).1 hq
      obtain ⟨h1, h2⟩ := (hst p).1 hp
      have hq1 := (Pth.in hs hP (hs.fst p h1)).1
      have hl : l.lst q = true := by
        unfold mkN at hN
        have : (q == 0) = false := by rw [beq_eq_false_iff_ne]; omega
        simpa [this] using hN
      exact .inr ⟨c, xs, p, q, rfl, h1, h2, hP, hl⟩
    · rintro (⟨h, _⟩ | ⟨c', xs', p, q, he, h1, h2, h3, h4⟩)
      · cases h
      · cases he
        refine ⟨q, by have := (hs.lst q h4).2; omega, ?_, by simp [mkN, h4]⟩
        exact (run_from l hs (Nat.le_refl _) hn xs _ hS' q).2 ⟨p, (hst p).2 ⟨h1, h2⟩, h3⟩
/-- The matcher accepts just the words of the pattern. -/
theorem run_words (os : List (List Pat)) (hn : (lyA os (Lay.no 1)).nx ≤ 256) (xs : List UInt8) : acc (mkN (lyA os (Lay.no 1)) (nulA os)) (runS (mkE (lyA os (Lay.no 1))) (mkT (lyA os (Lay.no 1))) (sOne 0) xs) = true ↔ LgA os xs := by
  have hc := cor_P (.alt os) 1
  have e1 : lyP (.alt os) 1 = lyA os (Lay.no 1) := by simp only [lyP]
  have e2 : nulB (.alt os) = nulA os := by simp only [nulB]
  rw [e1, e2] at hc
  rw [run_all _ hc.spt hn, ← hc.wd]
  simp only [Lg]
theorem runS_dead (E T : Nat → PS) : ∀ (xs : List UInt8) (S : PS), (∀ p, p < 256 → S p = false) → ∀ p, p < 256 → runS E T S xs p = false
  | [], S, h, p, hp => h p hp
  | c :: xs, S, h, p, hp => by
    refine runS_dead E T xs (stp E T S c) (fun q hq => ?_) p hp
    cases hx : stp E T S c q with
    | false => rfl
    | true =>
      unfold stp sAnd at hx
      rw [Bool.and_eq_true, ahd_iff] at hx
      obtain ⟨⟨r, hr, h1, _⟩, _⟩ := hx
      rw [h r hr] at h1
      cases h1
end Go.Proofs.YtbjbdidcnkamaaaDoor

/-
  matches.
-/
namespace Go.Proofs.YtbjbdidcnkamaaaDoor
open Go.ChangeShapes Go.WideShapes Go.ChangeAt Go.RowKit Go.Deep
set_option linter.unusedVariables false
set_option linter.unusedSimpArgs false
set_option maxRecDepth 100000

theorem state_core {base M : Nat} {T : Nat → PS} {G cp a : Nat} {E : Nat → PS} {en : PS} {mp n : Nat} (S : PS) (w : World) (h : MtrI w base M T G cp a E en mp) (hm : StI w mp n E en) (hS : ∀ p, S p = true → p < a) (ha : a ≤ 256) (hn : n < 900) (hbm : base ≤ mp) : Calls Tryd.prog 24 #[.pointer (some ⟨M, 0, none⟩), psV S] w (StP base M T G cp a E en mp n S w) := by
  obtain ⟨D, hD⟩ := hm
  cases hh : Maps.has D (psK S) with
  | true => exact state_known S w h hD hh
  | false => exact state_new S w h hD hh hS ha hn hbm
theorem runS_app (E T : Nat → PS) : ∀ (S : PS) (xs ys : List UInt8), runS E T S (xs ++ ys) = runS E T (runS E T S xs) ys
  | S, [], ys => rfl
  | S, x :: xs, ys => runS_app E T (stp E T S x) xs ys
/-- The matcher behind some bytes: the set is S. -/
structure MaI (w : World) (base M : Nat) (T : Nat → PS) (G cp a : Nat) (E : Nat → PS) (en : PS) (mp n b5 : Nat) (S : PS) (X : World) : Prop where
  mtr : MtrI X base M T G cp a E en mp
  map : StI X mp n E en
  box : BoxAt X w.heap.size 65 5 b5 (stL (ahd E S) (acc en S))
  chg : Chg (fun k => k = mp) w X
theorem MaI.below {w X X' : World} {base M : Nat} {T : Nat → PS} {G cp a : Nat} {E : Nat → PS} {en : PS} {mp n b5 : Nat} {S : PS} (h : MaI w base M T G cp a E en mp n b5 S X) (hb : Below X.heap.size X X') : MaI w base M T G cp a E en mp n b5 S X' :=
  ⟨h.mtr.below hb, h.map.chg (S := fun _ => False) (Chg.of_below hb) (fun q => q), h.box.below hb, h.chg.trans (Chg.of_below hb)⟩
theorem MaI.ne {w X : World} {base M : Nat} {T : Nat → PS} {G cp a : Nat} {E : Nat → PS} {en : PS} {mp n b5 : Nat} {S : PS} (h : MaI w base M T G cp a E en mp n b5 S X) : ¬ M = b5 ∧ ¬ G = b5 ∧ ¬ mp = b5 ∧ ¬ M = mp ∧ ¬ G = mp := by
  obtain ⟨D, hD⟩ := h.map
  exact ⟨fun q => own_apart h.mtr.box h.box (by decide) M rfl (by rw [q]; rfl), fun q => own_apart h.mtr.row h.box (by decide) G rfl (by rw [q]; rfl), StD.ne hD h.box, fun q => StD.ne hD h.mtr.box q.symm, fun q => StD.ne hD h.mtr.row q.symm⟩
def MaP2 (E T : Nat → PS) (en : PS) (s : ByteArray) (w : World) (mp : Nat) (e : Ending) (w' : World) : Prop := ∃ b : Bool, e = .returned (.bool b) ∧ Hid ((b = true ↔ acc en (runS E T (sOne 0) (sb s)) = true) ∧ Chg (fun k => k = mp) w w')
set_option maxHeartbeats 8000000 in
theorem matches_core {base M : Nat} {T : Nat → PS} {G cp a : Nat} {E : Nat → PS} {en : PS} {mp : Nat} (s : ByteArray) (hs : s.size ≤ 200) (w : World) (h : MtrI w base M T G cp a E en mp) (hm : StI w mp 0 E en) (hT : ∀ b p, T b p = true → p < a) (ha0 : 0 < a) (ha : a ≤ 256) (hbm : base ≤ mp) : Calls Tryd.prog 10 #[.pointer (some ⟨M, 0, none⟩), .string s] w (MaP2 E T en s w mp) := by
  have HI : Hid (MtrI w base M T G cp a E en mp ∧ StI w mp 0 E en ∧ base ≤ w.heap.size) := ⟨h, hm, by have := h.ltM; omega⟩
  have HT : Hid (∀ b p, T b p = true → p < a) := hT
  have HWi : Hid (∀ wx : World, Calls Tryd.prog 23 #[.agg #[.int .u64 0, .int .u64 0, .int .u64 0, .int .u64 0], .int .i64 0] wx fun e w' => e = .returned (psV (sOne 0)) ∧ Below wx.heap.size wx w') := fun wx => by
    have := with_core sNo 0 (by omega) wx
    rw [show sOr sNo (sOne 0) = sOne 0 by funext p; simp [sOr, sNo], psV_no] at this
    exact this
  have zs : ¬ (200 : Int) < (s.size : Int) := by omega
  have hone : ∀ p, sOne 0 p = true → p < a := fun p hp => by
    have h0 : p = 0 := by simpa [sOne] using hp
    omega
  clear h hm hT
  go_enter Tryd.func10, Tryd.ntmps10
  go_wp2_with fail
  refine (HWi.out _).mono ?_
  rintro e w1 ⟨rfl, hb1⟩
  have HSt : Hid (Calls Tryd.prog 24 #[.pointer (some ⟨M, 0, none⟩), psV (sOne 0)] w1 (StP base M T G cp a E en mp 0 (sOne 0) w1)) := state_core (sOne 0) w1 (HI.out.1.below hb1) (HI.out.2.1.chg (S := fun _ => False) (Chg.of_below hb1) (fun q => q)) hone ha (by omega) hbm
  go_wp2_with fail
  refine HSt.out.mono ?_
  rintro e w2 ⟨rfl, H2⟩
  obtain ⟨W3, hW3⟩ : ∃ W3 : World, W3 = w2.alloc (.cells (stL (ahd E (sOne 0)) (acc en (sOne 0))).toArray 65) := ⟨_, rfl⟩
  have k3 : Below w2.heap.size w2 W3 := by rw [hW3]; exact (Below.refl _ _).alloc (Nat.le_refl _) _
  have hsz : w.heap.size ≤ w2.heap.size := Nat.le_trans hb1.size H2.out.2.2.size
  have hx2 : Chg (fun k => k = mp) w w2 := (Chg.of_below hb1).trans H2.out.2.2
  obtain ⟨b5, hb5⟩ : ∃ b5, b5 = w2.heap.size := ⟨_, rfl⟩
  have HW3 : Hid (MaI w base M T G cp a E en mp 1 b5 (sOne 0) W3 ∧ w.heap.size ≤ b5) := by
    have b3 := boxAt_new w2 (base := w.heap.size) (t := 65) (sz := 5) (stL (ahd E (sOne 0)) (acc en (sOne 0))).toArray hsz rfl
    exact ⟨⟨H2.out.1.below k3, H2.out.2.1.chg (S := fun _ => False) (Chg.of_below k3) (fun q => q), by rw [hW3, hb5]; exact b3, hx2.trans (Chg.of_below k3)⟩, by omega⟩
  go_upto_region 4 with fail
  have hW3' := hW3
  simp only [stL] at hW3'
  rw [← hW3', ← hb5]
  clear hW3 hW3' k3 hsz hx2 hb5 H2 HSt hb1
  go_wp2_with fail
  go_loopw [6] (fun iv wr => ∃ k : Nat, k ≤ s.size ∧ iv = .int .i64 k ∧ Hid (MaI w base M T G cp a E en mp (k + 1) b5 (runS E T (sOne 0) ((sb s).take k)) wr)) (fun iv _ => s.size - (intOf iv).toNat)
  case atStart => exact ⟨0, Nat.zero_le _, rfl, HW3.out.1⟩
  case round =>
    obtain ⟨k, hk, rfl, HJ⟩ := hrel
    by_cases hlt : k < s.size
    · have zk : (k : Int) < (s.size : Int) := by omega
      obtain ⟨x, hx⟩ : ∃ x, (sb s)[k]? = some x := ⟨_, List.getElem?_eq_getElem (by rw [sb_len]; exact hlt)⟩
      obtain ⟨_, gx⟩ := sb_get hx
      obtain ⟨Sk, hSk⟩ : ∃ Sk, Sk = runS E T (sOne 0) ((sb s).take k) := ⟨_, rfl⟩
      have hxl : x.toNat < 256 := x.toNat_lt
      rw [← hSk] at HJ
      have HN : Hid (runS E T (sOne 0) ((sb s).take (k + 1)) = stp E T Sk x ∧ True ∧ runS E T (sOne 0) (sb s) = runS E T (stp E T Sk x) ((sb s).drop (k + 1))) := by
        have h1 : (sb s).take (k + 1) = (sb s).take k ++ [x] := by rw [List.take_add_one, hx]; rfl
        have h2 : runS E T (sOne 0) ((sb s).take (k + 1)) = stp E T Sk x := by rw [h1, runS_snoc, ← hSk]
        refine ⟨h2, trivial, ?_⟩
        rw [← h2, ← runS_app, List.take_append_drop]
      have HSk : Hid (∀ X, MaI w base M T G cp a E en mp (k + 1) b5 Sk X → (X.cell? ⟨b5, 0, none⟩ = some (.int .u64 (wdN (ahd E Sk) 0 : Int)) ∧ X.cell? ⟨b5, 1, none⟩ = some (.int .u64 (wdN (ahd E Sk) 1 : Int)) ∧ X.cell? ⟨b5, 2, none⟩ = some (.int .u64 (wdN (ahd E Sk) 2 : Int)) ∧ X.cell? ⟨b5, 3, none⟩ = some (.int .u64 (wdN (ahd E Sk) 3 : Int)) ∧ X.cell? ⟨M, x.toNat * 4, none⟩ = some (.int .u64 (wdN (T x.toNat) 0 : Int)) ∧ X.cell? ⟨M, x.toNat * 4 + 1, none⟩ = some (.int .u64 (wdN (T x.toNat) 1 : Int)) ∧ X.cell? ⟨M, x.toNat * 4 + 2, none⟩ = some (.int .u64 (wdN (T x.toNat) 2 : Int)) ∧ X.cell? ⟨M, x.toNat * 4 + 3, none⟩ = some (.int .u64 (wdN (T x.toNat) 3 : Int)))) := fun X h => by
        obtain ⟨g0, g1, g2, g3, _⟩ := h.mtr.taken4 hxl
        exact ⟨h.box.cell (j := 0) rfl, h.box.cell (j := 1) rfl, h.box.cell (j := 2) rfl, h.box.cell (j := 3) rfl, g0, g1, g2, g3⟩
      have HCm : Hid (∀ wx : World, Calls Tryd.prog 25 #[psV (ahd E Sk), psV (T x.toNat)] wx fun e w' => e = .returned (psV (stp E T Sk x)) ∧ Below wx.heap.size wx w') := fun wx => by
        have := common_core (ahd E Sk) (T x.toNat) wx
        unfold stp
        exact this
      have zx : (x.toNat : Int) < 256 := by omega
      have HX : Hid ((sb s)[k]? = some x) := hx
      clear hx hSk
      go_upto_region 7 with fail
      refine wp_region_T 99 (fun wz => wz.cell? ⟨b5, 0, none⟩ = some (.int .u64 (wdN (ahd E Sk) 0 : Int)) ∧ wz.cell? ⟨b5, 1, none⟩ = some (.int .u64 (wdN (ahd E Sk) 1 : Int)) ∧ wz.cell? ⟨b5, 2, none⟩ = some (.int .u64 (wdN (ahd E Sk) 2 : Int)) ∧ wz.cell? ⟨b5, 3, none⟩ = some (.int .u64 (wdN (ahd E Sk) 3 : Int)) ∧ wz.cell? ⟨M, x.toNat * 4, none⟩ = some (.int .u64 (wdN (T x.toNat) 0 : Int)) ∧ wz.cell? ⟨M, x.toNat * 4 + 1, none⟩ = some (.int .u64 (wdN (T x.toNat) 1 : Int)) ∧ wz.cell? ⟨M, x.toNat * 4 + 2, none⟩ = some (.int .u64 (wdN (T x.toNat) 2 : Int)) ∧ wz.cell? ⟨M, x.toNat * 4 + 3, none⟩ = some (.int .u64 (wdN (T x.toNat) 3 : Int))) (by kernel_rfl) ?_
      refine anyT_takeN (i := 0) (v := ?vh0) rfl (by kernel_rfl) (by kernel_rfl) (by kernel_rfl) (by rfl) (fun _ _ _ h => h) (Or.inl ⟨by rfl, ?yh0⟩) (HSk.out _ (HJ.out.below ((Below.refl _ _).drew))) ?_
      case yh0 => (intro wz hSw; obtain ⟨d0, d1, d2, d3, d4, d5, d6, d7⟩ := hSw; go_simp; (try with_reducible rfl))
      try simp only [Act.put, List.getElem_toArray, List.getElem_cons_zero, List.getElem_cons_succ, List.setIfInBounds_toArray, List.set_cons_zero, List.set_cons_succ]
      refine anyT_takeN (i := 1) (v := ?vh1) rfl (by kernel_rfl) (by kernel_rfl) (by kernel_rfl) (by rfl) (fun _ _ _ h => h) (Or.inl ⟨by rfl, ?yh1⟩) (HSk.out _ (HJ.out.below ((Below.refl _ _).drew))) ?_
      case yh1 => (intro wz hSw; obtain ⟨d0, d1, d2, d3, d4, d5, d6, d7⟩ := hSw; go_simp; (try with_reducible rfl))
      try simp only [Act.put, List.getElem_toArray, List.getElem_cons_zero, List.getElem_cons_succ, List.setIfInBounds_toArray, List.set_cons_zero, List.set_cons_succ]
      refine anyT_takeN (i := 2) (v := ?vh2) rfl (by kernel_rfl) (by kernel_rfl) (by kernel_rfl) (by rfl) (fun _ _ _ h => h) (Or.inl ⟨by rfl, ?yh2⟩) (HSk.out _ (HJ.out.below ((Below.refl _ _).drew))) ?_
      case yh2 => (intro wz hSw; obtain ⟨d0, d1, d2, d3, d4, d5, d6, d7⟩ := hSw; go_simp; (try with_reducible rfl))
      try simp only [Act.put, List.getElem_toArray, List.getElem_cons_zero, List.getElem_cons_succ, List.setIfInBounds_toArray, List.set_cons_zero, List.set_cons_succ]
      refine anyT_takeN (i := 3) (v := ?vh3) rfl (by kernel_rfl) (by kernel_rfl) (by kernel_rfl) (by rfl) (fun _ _ _ h => h) (Or.inl ⟨by rfl, ?yh3⟩) (HSk.out _ (HJ.out.below ((Below.refl _ _).drew))) ?_
      case yh3 => (intro wz hSw; obtain ⟨d0, d1, d2, d3, d4, d5, d6, d7⟩ := hSw; go_simp; (try with_reducible rfl))
      try simp only [Act.put, List.getElem_toArray, List.getElem_cons_zero, List.getElem_cons_succ, List.setIfInBounds_toArray, List.set_cons_zero, List.set_cons_succ]
      refine anyT_takeN (i := 4) (v := ?vh4) rfl (by kernel_rfl) (by kernel_rfl) (by kernel_rfl) (by rfl) (fun _ _ _ h => h) (Or.inl ⟨by rfl, ?yh4⟩) (HSk.out _ (HJ.out.below ((Below.refl _ _).drew))) ?_
      case yh4 => (intro wz hSw; obtain ⟨d0, d1, d2, d3, d4, d5, d6, d7⟩ := hSw; go_simp; (try with_reducible rfl))
      try simp only [Act.put, List.getElem_toArray, List.getElem_cons_zero, List.getElem_cons_succ, List.setIfInBounds_toArray, List.set_cons_zero, List.set_cons_succ]
      refine anyT_takeN (i := 5) (v := ?vh5) rfl (by kernel_rfl) (by kernel_rfl) (by kernel_rfl) (by rfl) (fun _ _ _ h => h) (Or.inl ⟨by rfl, ?yh5⟩) (HSk.out _ (HJ.out.below ((Below.refl _ _).drew))) ?_
      case yh5 => (intro wz hSw; obtain ⟨d0, d1, d2, d3, d4, d5, d6, d7⟩ := hSw; go_simp; (try with_reducible rfl))
      try simp only [Act.put, List.getElem_toArray, List.getElem_cons_zero, List.getElem_cons_succ, List.setIfInBounds_toArray, List.set_cons_zero, List.set_cons_succ]
      refine anyT_takeN (i := 6) (v := ?vh6) rfl (by kernel_rfl) (by kernel_rfl) (by kernel_rfl) (by rfl) (fun _ _ _ h => h) (Or.inl ⟨by rfl, ?yh6⟩) (HSk.out _ (HJ.out.below ((Below.refl _ _).drew))) ?_
      case yh6 => (intro wz hSw; obtain ⟨d0, d1, d2, d3, d4, d5, d6, d7⟩ := hSw; go_simp; (try with_reducible rfl))
      try simp only [Act.put, List.getElem_toArray, List.getElem_cons_zero, List.getElem_cons_succ, List.setIfInBounds_toArray, List.set_cons_zero, List.set_cons_succ]
      refine anyT_takeN (i := 7) (v := ?vh7) rfl (by kernel_rfl) (by kernel_rfl) (by kernel_rfl) (by rfl) (fun _ _ _ h => h) (Or.inl ⟨by rfl, ?yh7⟩) (HSk.out _ (HJ.out.below ((Below.refl _ _).drew))) ?_
      case yh7 => (intro wz hSw; obtain ⟨d0, d1, d2, d3, d4, d5, d6, d7⟩ := hSw; go_simp; (try with_reducible rfl))
      try simp only [Act.put, List.getElem_toArray, List.getElem_cons_zero, List.getElem_cons_succ, List.setIfInBounds_toArray, List.set_cons_zero, List.set_cons_succ]
      refine anyT_takeN (i := 8) (v := ?vh8) rfl (by kernel_rfl) (by kernel_rfl) (by kernel_rfl) (by rfl) (fun _ _ _ h => h) (Or.inl ⟨by rfl, ?yh8⟩) (HSk.out _ (HJ.out.below ((Below.refl _ _).drew))) ?_
      case yh8 => (intro wz hSw; obtain ⟨d0, d1, d2, d3, d4, d5, d6, d7⟩ := hSw; go_simp; (try with_reducible rfl))
      try simp only [Act.put, List.getElem_toArray, List.getElem_cons_zero, List.getElem_cons_succ, List.setIfInBounds_toArray, List.set_cons_zero, List.set_cons_succ]
      refine anyT_takeN (i := 9) (v := ?vh9) rfl (by kernel_rfl) (by kernel_rfl) (by kernel_rfl) (by rfl) (fun _ _ _ h => h) (Or.inl ⟨by rfl, ?yh9⟩) (HSk.out _ (HJ.out.below ((Below.refl _ _).drew))) ?_
      case yh9 => (intro wz hSw; obtain ⟨d0, d1, d2, d3, d4, d5, d6, d7⟩ := hSw; go_simp; (try with_reducible rfl))
      try simp only [Act.put, List.getElem_toArray, List.getElem_cons_zero, List.getElem_cons_succ, List.setIfInBounds_toArray, List.set_cons_zero, List.set_cons_succ]
      refine anyT_two (i := 10) (j := 11) (by kernel_rfl) rfl rfl (fun K hK => ?_) (fun K hK => ?_)
      · go_simp
        refine (HCm.out _).mono ?_
        rintro r v3 ⟨rfl, hb3⟩
        have HV : Hid (MaI w base M T G cp a E en mp (k + 1) b5 Sk v3) := HJ.out.below (((Below.refl wr.heap.size wr).drew).trans hb3)
        refine hK.out _ _ (.inr (HSk.out _ HV.out)) ?_
        clear hK hb3
        try simp only [Act.put, List.getElem_toArray, List.getElem_cons_zero, List.getElem_cons_succ, List.setIfInBounds_toArray, List.set_cons_zero, List.set_cons_succ]
        refine anyT_one (i := 11) (by kernel_rfl) rfl (fun K hK => ?_)
        go_simp
        refine hK.out _ _ (.inr (HSk.out _ (HV.out.below (by repeat (first | exact Below.refl _ _ | refine Below.drew ?_ | refine Below.alloc ?_ (Nat.le_refl _) _ | refine below_set ?_ (Nat.le_refl _) _ _))))) ?_
        clear hK
        try simp only [Act.put, List.getElem_toArray, List.getElem_cons_zero, List.getElem_cons_succ, List.setIfInBounds_toArray, List.set_cons_zero, List.set_cons_succ]
        refine anyT_one (i := 12) (by kernel_rfl) rfl (fun K hK => ?_)
        go_simp
        refine hK.out _ _ (.inr (HSk.out _ (HV.out.below (by repeat (first | exact Below.refl _ _ | refine Below.drew ?_ | refine Below.alloc ?_ (Nat.le_refl _) _ | refine below_set ?_ (Nat.le_refl _) _ _))))) ?_
        clear hK
        try simp only [Act.put, List.getElem_toArray, List.getElem_cons_zero, List.getElem_cons_succ, List.setIfInBounds_toArray, List.set_cons_zero, List.set_cons_succ]
        refine anyT_done (by kernel_rfl) ?_
        obtain ⟨W4, hW4⟩ : ∃ W4 : World, W4 = v3.alloc (.cells (psL (stp E T Sk x)).toArray 55) := ⟨_, rfl⟩
        have k4 : Below v3.heap.size v3 W4 := by rw [hW4]; exact (Below.refl _ _).alloc (Nat.le_refl _) _
        have HW4 : Hid (MaI w base M T G cp a E en mp (k + 1) b5 Sk W4 ∧ BoxAt W4 w.heap.size 55 4 v3.heap.size (psL (stp E T Sk x))) := by
          have b4 := boxAt_new v3 (base := w.heap.size) (t := 55) (sz := 4) (psL (stp E T Sk x)).toArray HV.out.chg.size rfl
          exact ⟨HV.out.below k4, by rw [hW4]; exact b4⟩
        have hW4' := hW4
        simp only [psL] at hW4'
        rw [← hW4']
        clear hW4 hW4' k4
        have heq := ps_equal (stp E T Sk x)
        have q0 := HW4.out.2.cell (j := 0) rfl
        have q1 := HW4.out.2.cell (j := 1) rfl
        have q2 := HW4.out.2.cell (j := 2) rfl
        have q3 := HW4.out.2.cell (j := 3) rfl
        cases hne : noE (stp E T Sk x) with
        | true =>
          rw [hne] at heq
          have HFn : Hid ((false = true ↔ acc en (runS E T (sOne 0) (sb s)) = true)) := by
            refine ⟨fun q => (by cases q), fun q => ?_⟩
            rw [HN.out.2.2] at q
            have hd : ∀ p, p < 256 → (stp E T Sk x) p = false := fun p hp => by
              cases hx : (stp E T Sk x) p with
              | false => rfl
              | true => have := (noE_iff (stp E T Sk x)).2 ⟨p, hp, hx⟩; rw [hne] at this; cases this
            unfold acc at q
            rw [List.any_eq_true] at q
            obtain ⟨p, hp, hx⟩ := q
            rw [runS_dead E T _ _ hd p (List.mem_range.1 hp)] at hx
            cases hx
          clear hne
          go_wp2_with fail
          go_ret
          exact ⟨false, rfl, HFn.out, HW4.out.1.chg⟩
        | false =>
          rw [hne] at heq
          clear hne
          have HSt : Hid (Calls Tryd.prog 24 #[.pointer (some ⟨M, 0, none⟩), psV (stp E T Sk x)] W4 (StP base M T G cp a E en mp (k + 1) (stp E T Sk x) W4)) := state_core (stp E T Sk x) W4 HW4.out.1.mtr HW4.out.1.map (fun p hp => by
            unfold stp sAnd at hp
            rw [Bool.and_eq_true] at hp
            exact HT.out _ _ hp.2) ha (by omega) hbm
          go_wp2_with fail
          refine HSt.out.mono ?_
          rintro e w5 ⟨rfl, H5⟩
          have hne5 := HW4.out.1.ne
          have HB5 := HW4.out.1.box.chg H5.out.2.2 (fun q => hne5.2.2.1 q.symm)
          have r0 := HB5.cell (j := 0) rfl
          have f0 := HB5.frozen 0
          have r1 := HB5.cell (j := 1) rfl
          have f1 := HB5.frozen 1
          have r2 := HB5.cell (j := 2) rfl
          have f2 := HB5.frozen 2
          have r3 := HB5.cell (j := 3) rfl
          have f3 := HB5.frozen 3
          have r4 := HB5.cell (j := 4) rfl
          have f4 := HB5.frozen 4
          have HJ2 : Hid (MaI w base M T G cp a E en mp (k + 1 + 1) b5 (runS E T (sOne 0) ((sb s).take (k + 1))) (set5 w5 b5 (ahd E (stp E T Sk x)) (acc en (stp E T Sk x)))) := by
            have hc : Chg (fun j => j = b5) w5 (set5 w5 b5 (ahd E (stp E T Sk x)) (acc en (stp E T Sk x))) := chg_set5 _ _ _ _ rfl
            have hbl := HW3.out.2
            have hbs := HI.out.2.2
            rw [HN.out.1]
            exact ⟨H5.out.1.chg hc hne5.1 hne5.2.1 (fun j q => by omega), H5.out.2.1.chg hc hne5.2.2.1, HB5.set5 _ _, chg_ownS (HW4.out.1.chg.trans H5.out.2.2) (hc.mono (fun j q => by omega))⟩
          simp only [set5] at HJ2
          clear HB5
          go_wp2_with fail
          refine ⟨⟨k + 1, by omega, by go_num, HJ2⟩, ?_⟩
          go_light
          simp [intOf]; omega
      · go_simp
        refine hK.out _ _ (.inr (HSk.out _ (HJ.out.below (by repeat (first | exact Below.refl _ _ | refine Below.drew ?_ | refine Below.alloc ?_ (Nat.le_refl _) _ | refine below_set ?_ (Nat.le_refl _) _ _))))) ?_
        clear hK
        try simp only [Act.put, List.getElem_toArray, List.getElem_cons_zero, List.getElem_cons_succ, List.setIfInBounds_toArray, List.set_cons_zero, List.set_cons_succ]
        have hX : Below wr.heap.size wr (wr.alloc (.cells z4 55)).drew := ((Below.refl _ _).alloc (Nat.le_refl _) _).drew
        have hBX : BoxAt (wr.alloc (.cells z4 55)).drew w.heap.size 55 4 wr.heap.size z4.toList := (boxAt_new wr z4 HJ.out.chg.size rfl).below ((Below.refl _ _).drew)
        refine anyT_one (i := 10) (by kernel_rfl) rfl (fun K hK => ?_)
        go_simp
        refine (HCm.out _).mono ?_
        rintro r v3 ⟨rfl, hb3⟩
        have HV : Hid (MaI w base M T G cp a E en mp (k + 1) b5 Sk v3) := HJ.out.below (hX.trans (hb3.mono hX.size))
        have HBx : Hid (BoxAt v3 w.heap.size 55 4 wr.heap.size z4.toList) := hBX.below hb3
        have y0 := HBx.out.cell (j := 0) rfl
        have o0 := HBx.out.frozen 0
        have y1 := HBx.out.cell (j := 1) rfl
        have o1 := HBx.out.frozen 1
        have y2 := HBx.out.cell (j := 2) rfl
        have o2 := HBx.out.frozen 2
        have y3 := HBx.out.cell (j := 3) rfl
        have o3 := HBx.out.frozen 3
        have hrow : ∀ cs : World, Chg (fun j => j = wr.heap.size) v3 cs → MaI w base M T G cp a E en mp (k + 1) b5 Sk cs := fun cs hc => by
          have h := HV.out
          have hbs := HI.out.2.2
          have hws := HJ.out.chg.size
          obtain ⟨D, hD⟩ := h.map
          have n1 : ¬ M = wr.heap.size := by have := HJ.out.mtr.ltM.2; omega
          have n2 : ¬ G = wr.heap.size := by have := HJ.out.mtr.ltG.2; omega
          have n3 : ¬ mp = wr.heap.size := StD.ne hD HBx.out
          have n4 : ¬ b5 = wr.heap.size := by have := HJ.out.box.lt.2; omega
          exact ⟨h.mtr.chg hc n1 n2 (fun j q => by omega), h.map.chg hc n3, h.box.chg hc n4, chg_ownS h.chg (hc.mono (fun j q => by omega))⟩
        have HRow : Hid (∀ cs : World, Chg (fun j => j = wr.heap.size) v3 cs → MaI w base M T G cp a E en mp (k + 1) b5 Sk cs) := hrow
        refine hK.out _ _ (.inr (HSk.out _ HV.out)) ?_
        clear hK hb3 hX hBX hrow
        try simp only [Act.put, List.getElem_toArray, List.getElem_cons_zero, List.getElem_cons_succ, List.setIfInBounds_toArray, List.set_cons_zero, List.set_cons_succ]
        refine anyT_one (i := 12) (by kernel_rfl) rfl (fun K hK => ?_)
        go_simp
        refine hK.out _ _ (.inr (HSk.out _ (HRow.out _ ((((Chg.of_set (S := fun j => j = wr.heap.size) _ wr.heap.size 0 _ rfl).trans (Chg.of_set (S := fun j => j = wr.heap.size) _ wr.heap.size 1 _ rfl)).trans (Chg.of_set (S := fun j => j = wr.heap.size) _ wr.heap.size 2 _ rfl)).trans (Chg.of_set (S := fun j => j = wr.heap.size) _ wr.heap.size 3 _ rfl))))) ?_
        clear hK
        try simp only [Act.put, List.getElem_toArray, List.getElem_cons_zero, List.getElem_cons_succ, List.setIfInBounds_toArray, List.set_cons_zero, List.set_cons_succ]
        refine anyT_done (by kernel_rfl) ?_
        obtain ⟨W4, hW4⟩ : ∃ W4 : World, W4 = set4 v3 wr.heap.size 0 (stp E T Sk x) := ⟨_, rfl⟩
        have HW4 : Hid (MaI w base M T G cp a E en mp (k + 1) b5 Sk W4 ∧ BoxAt W4 w.heap.size 55 4 wr.heap.size (psL (stp E T Sk x))) := by
          have hc : Chg (fun j => j = wr.heap.size) v3 W4 := by rw [hW4]; exact chg_set4 _ _ _ _ rfl
          have b4 := own_set4 HBx.out 0 (stp E T Sk x)
          rw [← hW4] at b4
          exact ⟨HRow.out _ hc, b4⟩
        have hW4' := hW4
        simp only [set4, Nat.zero_add] at hW4'
        rw [← hW4']
        clear hW4 hW4' y0 y1 y2 y3 o0 o1 o2 o3
        have heq := ps_equal (stp E T Sk x)
        have q0 := HW4.out.2.cell (j := 0) rfl
        have q1 := HW4.out.2.cell (j := 1) rfl
        have q2 := HW4.out.2.cell (j := 2) rfl
        have q3 := HW4.out.2.cell (j := 3) rfl
        cases hne : noE (stp E T Sk x) with
        | true =>
          rw [hne] at heq
          have HFn : Hid ((false = true ↔ acc en (runS E T (sOne 0) (sb s)) = true)) := by
            refine ⟨fun q => (by cases q), fun q => ?_⟩
            rw [HN.out.2.2] at q
            have hd : ∀ p, p < 256 → (stp E T Sk x) p = false := fun p hp => by
              cases hx : (stp E T Sk x) p with
              | false => rfl
              | true => have := (noE_iff (stp E T Sk x)).2 ⟨p, hp, hx⟩; rw [hne] at this; cases this
            unfold acc at q
            rw [List.any_eq_true] at q
            obtain ⟨p, hp, hx⟩ := q
            rw [runS_dead E T _ _ hd p (List.mem_range.1 hp)] at hx
            cases hx
          clear hne
          go_wp2_with fail
          go_ret
          exact ⟨false, rfl, HFn.out, HW4.out.1.chg⟩
        | false =>
          rw [hne] at heq
          clear hne
          have HSt : Hid (Calls Tryd.prog 24 #[.pointer (some ⟨M, 0, none⟩), psV (stp E T Sk x)] W4 (StP base M T G cp a E en mp (k + 1) (stp E T Sk x) W4)) := state_core (stp E T Sk x) W4 HW4.out.1.mtr HW4.out.1.map (fun p hp => by
            unfold stp sAnd at hp
            rw [Bool.and_eq_true] at hp
            exact HT.out _ _ hp.2) ha (by omega) hbm
          go_wp2_with fail
          refine HSt.out.mono ?_
          rintro e w5 ⟨rfl, H5⟩
          have hne5 := HW4.out.1.ne
          have HB5 := HW4.out.1.box.chg H5.out.2.2 (fun q => hne5.2.2.1 q.symm)
          have r0 := HB5.cell (j := 0) rfl
          have f0 := HB5.frozen 0
          have r1 := HB5.cell (j := 1) rfl
          have f1 := HB5.frozen 1
          have r2 := HB5.cell (j := 2) rfl
          have f2 := HB5.frozen 2
          have r3 := HB5.cell (j := 3) rfl
          have f3 := HB5.frozen 3
          have r4 := HB5.cell (j := 4) rfl
          have f4 := HB5.frozen 4
          have HJ2 : Hid (MaI w base M T G cp a E en mp (k + 1 + 1) b5 (runS E T (sOne 0) ((sb s).take (k + 1))) (set5 w5 b5 (ahd E (stp E T Sk x)) (acc en (stp E T Sk x)))) := by
            have hc : Chg (fun j => j = b5) w5 (set5 w5 b5 (ahd E (stp E T Sk x)) (acc en (stp E T Sk x))) := chg_set5 _ _ _ _ rfl
            have hbl := HW3.out.2
            have hbs := HI.out.2.2
            rw [HN.out.1]
            exact ⟨H5.out.1.chg hc hne5.1 hne5.2.1 (fun j q => by omega), H5.out.2.1.chg hc hne5.2.2.1, HB5.set5 _ _, chg_ownS (HW4.out.1.chg.trans H5.out.2.2) (hc.mono (fun j q => by omega))⟩
          simp only [set5] at HJ2
          clear HB5
          go_wp2_with fail
          refine ⟨⟨k + 1, by omega, by go_num, HJ2⟩, ?_⟩
          go_light
          simp [intOf]; omega
    · obtain rfl : k = s.size := by omega
      have zk : ¬ (s.size : Int) < (s.size : Int) := by omega
      have r4 := HJ.out.box.cell (j := 4) rfl
      have HFl : Hid ((sb s).take s.size = sb s) := by show _ = _; rw [← sb_len, List.take_length]
      go_wp2_with fail
      go_ret
      exact ⟨_, rfl, by rw [HFl.out], HJ.out.chg⟩
end Go.Proofs.YtbjbdidcnkamaaaDoor

/-
  (*impl.patternReader): group, atom, over a contract of alt.
-/
namespace Go.Proofs.YtbjbdidcnkamaaaDoor
open Go.ChangeShapes Go.WideShapes Go.ChangeAt Go.RowKit Go.Deep
set_option linter.unusedVariables false
set_option linter.unusedSimpArgs false
set_option maxRecDepth 100000

/-- What a node's reader hands back, 'i' being where the piece begins. -/
def NodePost (p : ByteArray) (base g i o : Nat) (w : World) (R : Nat → Pat → Prop) (e : Ending) (w' : World) : Prop :=
  Chg (fun k => k = g) w w' ∧ ((∃ (k : Nat) (t : Pat) (v : Value), R k t ∧ e = .returned v ∧ NodeOk w' (Bet w.heap.size w'.heap.size) t v ∧ PrAt w' base g p k o) ∨ (∃ (c : Int) (k : Nat), ¬ c = 0 ∧ (∀ a, chkM (sb p) i o a = (c, k)) ∧ e = Pf c k))
def AltPost (p : ByteArray) (base g i o : Nat) (w : World) (e : Ending) (w' : World) : Prop :=
  Chg (fun k => k = g) w w' ∧ ((∃ (k : Nat) (os : List (List Pat)) (u : Value), AltOk (sb p) o i k os ∧ (∀ c, (sb p)[k]? = some c → isEnd c ∧ ¬ c = 124) ∧ e = .returned (.agg #[u]) ∧ AltAt w' (Bet w.heap.size w'.heap.size) os u ∧ PrAt w' base g p k o) ∨ (∃ (c : Int) (k : Nat), ¬ c = 0 ∧ chkM (sb p) i o false = (c, k) ∧ e = Pf c k))
/-- The contract of alt, for patterns of which at most m bytes are to come. -/
def AltC (p : ByteArray) (m : Nat) : Prop := ∀ (base g i o : Nat) (w : World), p.size - i ≤ m → i ≤ p.size → o ≤ 20 → PrAt w base g p i o → Calls Tryd.prog 19 #[.pointer (some ⟨g, 0, none⟩)] w (AltPost p base g i o w)
def AtomC (p : ByteArray) (m : Nat) : Prop := ∀ (base g i o : Nat) (w : World), p.size - i ≤ m → i < p.size → o ≤ 20 → (∀ c, (sb p)[i]? = some c → ¬ isEnd c) → PrAt w base g p i o → Calls Tryd.prog 47 #[.pointer (some ⟨g, 0, none⟩)] w (NodePost p base g i o w (AtomOk (sb p) o i))

theorem PrAt.open {w : World} {base g i o : Nat} {p : ByteArray} (h : PrAt w base g p i o) (o' : Nat) : PrAt (w.setCell ⟨g, 2, none⟩ (.int .i64 (o' : Int))) base g p i o' := BoxAt.set h 2 (.int .i64 (o' : Int))
theorem AltAt.slice {w : World} {lo : Nat → Prop} {os : List (List Pat)} {u : Value} (h : AltAt w lo os u) : ∃ g n cp, u = .slice (some ⟨g, 0, none⟩) n cp := by
  obtain ⟨n, g, cp, us, h1, _⟩ := h
  exact ⟨g, _, cp, h1⟩

set_option maxHeartbeats 4000000 in
theorem group_of {p : ByteArray} {m : Nat} (H : AltC p m) (hp : p.size ≤ 200) (base g q o : Nat) (w : World) (hm : p.size - (q + 1) ≤ m) (hq : (sb p)[q]? = some 40) (ho : o ≤ 20) (h : PrAt w base g p (q + 1) o) :
    Calls Tryd.prog 51 #[.pointer (some ⟨g, 0, none⟩)] w (NodePost p base g q o w (AtomOk (sb p) o q)) := by
  have HP : Hid (PrAt w base g p (q + 1) o ∧ (sb p)[q]? = some 40) := ⟨h, hq⟩
  have hgl := h.lt.2
  have hqp : q + 1 ≤ p.size := by have := lt_of_at hq; rw [sb_len] at this; omega
  have c1 := h.cell (j := 1) rfl
  have c2 := h.cell (j := 2) rfl
  have f2 := h.frozen 2
  clear h hq
  by_cases ho20 : o = 20
  · subst ho20
    go_enter Tryd.func51, Tryd.ntmps51
    go_wp2_with fail
    exact ⟨rfl, Chg.refl _ _, .inr ⟨3, q, by decide, fun a => by rw [chk_open HP.out.2, if_pos rfl], by first | rfl | simp⟩⟩
  have z20 : ¬ (o : Int) = 20 := by omega
  have HW : Hid (PrAt (w.setCell ⟨g, 2, none⟩ (.int .i64 ((o + 1 : Nat) : Int))) base g p (q + 1) (o + 1) ∧ Chg (fun k => k = g) w (w.setCell ⟨g, 2, none⟩ (.int .i64 ((o + 1 : Nat) : Int)))) := ⟨PrAt.open HP.out.1 (o + 1), Chg.of_set w g 2 _ rfl⟩
  obtain ⟨W, hW⟩ : ∃ W : World, W = w.setCell ⟨g, 2, none⟩ (.int .i64 ((o + 1 : Nat) : Int)) := ⟨_, rfl⟩
  have hzW : W.heap.size = w.heap.size := by rw [hW]; simp [World.setCell]
  rw [← hW] at HW
  have hW2 : W = w.setCell ⟨g, 2, none⟩ (.int .i64 ((o : Int) + 1)) := hW
  have HZ : Hid (W.heap.size = w.heap.size) := hzW
  clear hW hzW
  go_enter Tryd.func51, Tryd.ntmps51
  go_upto_region 4 with fail
  rw [← hW2]
  clear hW2 c1 c2 f2
  go_wp2_with fail
  refine (H base g (q + 1) (o + 1) W hm hqp (by omega) HW.out.1).mono ?_
  rintro e w2 ⟨hC2, (⟨k, os, u, hA, hN, rfl, hU, hP2⟩ | ⟨c, k, hc0, hk, rfl⟩)⟩
  case inr =>
    refine ⟨rfl, HW.out.2.trans hC2, .inr ⟨c, k, hc0, fun a => ?_, rfl⟩⟩
    rw [chk_open HP.out.2, if_neg ho20, hk]
  obtain ⟨gu, nu, cu, rfl⟩ := hU.slice
  have hkp : k ≤ p.size := by have := hA.le; rw [sb_len] at this; exact this
  have HA : Hid (AltOk (sb p) (o + 1) (q + 1) k os ∧ (∀ c, (sb p)[k]? = some c → isEnd c ∧ ¬ c = 124)) := ⟨hA, hN⟩
  have HW2 : Hid (AltAt w2 (Bet w.heap.size w2.heap.size) os (.slice (some ⟨gu, 0, none⟩) nu cu) ∧ PrAt w2 base g p k (o + 1) ∧ Chg (fun k => k = g) w w2) := ⟨by rw [← HZ.out]; exact hU, hP2, HW.out.2.trans hC2⟩
  clear hC2 hA hN hU hP2 HW
  obtain ⟨W3, hW3⟩ : ∃ W3 : World, W3 = w2.alloc (Obj.cells #[.slice (some ⟨gu, 0, none⟩) nu cu] 31) := ⟨_, rfl⟩
  have hs2 := HW2.out.2.2.size
  have HW3 : Hid (AltAt W3 (Bet w.heap.size w2.heap.size) os (.slice (some ⟨gu, 0, none⟩) nu cu) ∧ PrAt W3 base g p k (o + 1) ∧ Chg (fun k => k = g) w W3 ∧ BoxAt W3 w.heap.size 31 1 w2.heap.size [.slice (some ⟨gu, 0, none⟩) nu cu]) := by
    have hb : Below w2.heap.size w2 W3 := by rw [hW3]; exact (Below.refl _ _).alloc (Nat.le_refl _) _
    refine ⟨HW2.out.1.move (S := fun _ => False) (Chg.of_below hb) (fun k q => q.elim) (fun k _ q => q), BoxAt.below HW2.out.2.1 hb, HW2.out.2.2.trans (Chg.of_below hb), ?_⟩
    rw [hW3]; exact boxAt_new w2 _ hs2 rfl
  clear HW2
  go_upto_region 5 with fail
  rw [← hW3]
  obtain ⟨IB, hIB⟩ : ∃ IB, IB = w2.heap.size := ⟨_, rfl⟩
  rw [← hIB] at HW3
  rw [← hIB]
  have hib : w.heap.size ≤ IB := by omega
  clear hW3 hIB hs2
  go_wp2_with fail
  refine (pskip_core 41 HW3.out.2.1 hp).mono ?_
  rintro e w4 ⟨hC4, (⟨hx, rfl, hP4⟩ | ⟨hx, rfl, hP4⟩)⟩
  case inr =>
    have HF : Hid (PrAt w4 base g p k (o + 1) ∧ Chg (fun k => k = g) w w4 ∧ ¬ (sb p)[k]? = some 41) := ⟨hP4, HW3.out.2.2.1.trans hC4, hx⟩
    clear hC4 hx hP4
    go_wp2_with fail
    refine (pdem_no HF.out.1).mono ?_
    rintro e w5 ⟨rfl, rfl⟩
    refine ⟨rfl, HF.out.2.1, .inr ⟨2, k, by decide, fun a => ?_, rfl⟩⟩
    rw [chk_open HP.out.2, if_neg ho20, HA.out.1.chk]
    by_cases hk : k < (sb p).length
    · obtain ⟨c, hc⟩ : ∃ c, (sb p)[k]? = some c := ⟨_, List.getElem?_eq_getElem hk⟩
      obtain ⟨h1, h2⟩ := HA.out.2 c hc
      rcases h1 with h1 | h1 | h1 | h1
      · rw [chk_op hc h1]; rfl
      · exact absurd h1 h2
      · subst h1; exact absurd hc HF.out.2.2
      · subst h1; rw [chk_rb hc]
    · rw [chk_end hk, if_pos (by omega)]
      have := HA.out.1.le
      rw [show k = (sb p).length by omega]
  have HF : Hid (AltAt w4 (Bet w.heap.size IB) os (.slice (some ⟨gu, 0, none⟩) nu cu) ∧ PrAt w4 base g p (k + 1) (o + 1) ∧ Chg (fun k => k = g) w w4 ∧ BoxAt w4 w.heap.size 31 1 IB [.slice (some ⟨gu, 0, none⟩) nu cu] ∧ (sb p)[k]? = some 41) :=
    ⟨HW3.out.1.move hC4 (fun k q => by subst q; exact fun z => by have := z.1; omega) (fun k _ q => q), hP4, HW3.out.2.2.1.trans hC4, BoxAt.chg HW3.out.2.2.2 hC4 (by omega), hx⟩
  clear hC4 hx hP4 HW3
  go_wp2_with fail
  refine (pdem_yes _ w4).mono ?_
  rintro e w5 ⟨rfl, hw5⟩
  rw [hw5]
  clear hw5
  have d2 := HF.out.2.1.cell (j := 2) rfl
  have g2 := HF.out.2.1.frozen 2
  have HZ4 : Hid (AltAt (w4.setCell ⟨g, 2, none⟩ (.int .i64 (o : Int))) (Bet w.heap.size IB) os (.slice (some ⟨gu, 0, none⟩) nu cu) ∧ PrAt (w4.setCell ⟨g, 2, none⟩ (.int .i64 (o : Int))) base g p (k + 1) o ∧ Chg (fun k => k = g) w (w4.setCell ⟨g, 2, none⟩ (.int .i64 (o : Int))) ∧ BoxAt (w4.setCell ⟨g, 2, none⟩ (.int .i64 (o : Int))) w.heap.size 31 1 IB [.slice (some ⟨gu, 0, none⟩) nu cu]) := by
    have hc := Chg.of_set w4 g 2 (.int .i64 (o : Int)) (S := fun k => k = g) rfl
    exact ⟨HF.out.1.move hc (fun k q => by subst q; exact fun z => by have := z.1; omega) (fun k _ q => q), PrAt.open HF.out.2.1 o, HF.out.2.2.1.trans hc, BoxAt.chg HF.out.2.2.2.1 hc (by omega)⟩
  have HC : Hid (AtomOk (sb p) o q (k + 1) (.alt os)) := AtomOk.group HP.out.2 ho20 HA.out.1 HF.out.2.2.2.2
  obtain ⟨W6, hW6⟩ : ∃ W6 : World, W6 = w4.setCell ⟨g, 2, none⟩ (.int .i64 (o : Int)) := ⟨_, rfl⟩
  rw [← hW6] at HZ4
  clear HF HA
  go_upto_region 7 with fail
  rw [← hW6]
  clear hW6 d2 g2
  have b0 := HZ4.out.2.2.2.cell (j := 0) rfl
  go_wp2_with fail
  go_ret
  exact ⟨HZ4.out.2.2.1, .inl ⟨k + 1, .alt os, _, HC.out, rfl, nodeOk_alt (HZ4.out.1.move (S := fun _ => False) (Chg.refl _ _) (fun k q => q.elim) (fun k hk q => ⟨q.1, hk⟩)), HZ4.out.2.1⟩⟩

theorem not_eq_u8 {x c : UInt8} (h : ¬ x = c) : ¬ (x.toNat : Int) = (c.toNat : Int) := fun q => h (UInt8.toNat_inj.1 (by omega))
set_option maxHeartbeats 4000000 in
theorem atom_of {p : ByteArray} {m : Nat} (H : AltC p m) (hp : p.size ≤ 200) : AtomC p (m + 1) := by
  intro base g i o w hm hi ho he h
  obtain ⟨x, hx⟩ : ∃ x, (sb p)[i]? = some x := ⟨_, List.getElem?_eq_getElem (by rw [sb_len]; exact hi)⟩
  have HX : Hid ((sb p)[i]? = some x ∧ ¬ isEnd x) := ⟨hx, he x hx⟩
  have HP : Hid (PrAt w base g p i o) := h
  have hgl := h.lt.2
  clear h he hx
  go_enter Tryd.func47, Tryd.ntmps47
  go_wp2_with fail
  refine (ptake_yes HP.out hp HX.out.1).mono ?_
  rintro e w1 ⟨rfl, hP1, hC1⟩
  have HW1 : Hid (PrAt w1 base g p (i + 1) o ∧ Chg (fun k => k = g) w w1) := ⟨hP1, hC1⟩
  have hs1 := hC1.size
  clear hP1 hC1 HP
  by_cases h46 : x = 46
  · subst h46
    go_upto_region 5 with fail
    apply wp_region_list
    refine wpList_build_cells rfl _ _ rfl (setA (fun _ => false)) (by simp; exact built_set) ?_
    simp only [Act.put, Act.eval, List.setIfInBounds_toArray, List.set_cons_succ, List.set_cons_zero]
    refine wpList_call_of rfl 50 #[.agg (setA (fun _ => false))] (by simp [execOp, go_sem, Act.eval, Tryd.func50]) ?_
    refine (opposite_core (fun _ => false) w1).mono ?_
    rintro e w2 ⟨rfl, hb2⟩
    simp only [Act.put, Act.eval, List.setIfInBounds_toArray, List.set_cons_succ, List.set_cons_zero]
    refine wpList_build_cells rfl _ _ rfl (setA (fun _ => true)) (by simp [Act.eval]; exact built_cls _ (setA_size _)) ?_
    simp only [Act.put, Act.eval, List.setIfInBounds_toArray, List.set_cons_succ, List.set_cons_zero]
    go_wp2_with fail
    go_ret
    exact ⟨HW1.out.2.trans (Chg.of_below hb2), .inl ⟨i + 1, _, _, AtomOk.dot HX.out.1, rfl, nodeOk_cls _ _ _, BoxAt.below HW1.out.1 hb2⟩⟩
  have z46 : ¬ (x.toNat : Int) = 46 := not_eq_u8 (c := 46) h46
  by_cases h92 : x = 92
  · subst h92
    go_wp2_with fail
    refine (ptake_core HW1.out.1 hp (by omega)).mono ?_
    rintro e w2 ⟨hC2, (⟨y, hy, rfl, hP2⟩ | ⟨hy, rfl⟩)⟩
    case inr =>
      refine ⟨rfl, HW1.out.2.trans hC2, .inr ⟨2, i + 1, by decide, fun a => ?_, rfl⟩⟩
      have h1 := lt_of_at HX.out.1
      have h2 : ¬ i + 1 < (sb p).length := fun q => by rw [List.getElem?_eq_getElem q] at hy; cases hy
      rw [chk_esc HX.out.1, if_pos (by omega)]
      rw [show i + 1 = (sb p).length by omega]
    have HF : Hid (PrAt w2 base g p (i + 1 + 1) o ∧ Chg (fun k => k = g) w w2 ∧ (sb p)[i + 1]? = some y) := ⟨hP2, HW1.out.2.trans hC2, hy⟩
    clear hC2 hy hP2
    go_wp2_with fail
    go_ret
    exact ⟨HF.out.2.1, .inl ⟨i + 1 + 1, _, _, AtomOk.esc HX.out.1 HF.out.2.2, rfl, nodeOk_byte _ _ _, HF.out.1⟩⟩
  have z92 : ¬ (x.toNat : Int) = 92 := not_eq_u8 (c := 92) h92
  by_cases h40 : x = 40
  · subst h40
    go_wp2_with fail
    refine (group_of H hp base g i o w1 (by omega) HX.out.1 ho HW1.out.1).mono ?_
    rintro e w2 ⟨hC2, (⟨k, t, v, hR, rfl, hN, hP2⟩ | ⟨c, k, hc0, hk, rfl⟩)⟩
    case inr => exact ⟨rfl, HW1.out.2.trans hC2, .inr ⟨c, k, hc0, hk, rfl⟩⟩
    have HF : Hid (AtomOk (sb p) o i k t ∧ NodeOk w2 (Bet w.heap.size w2.heap.size) t v ∧ PrAt w2 base g p k o ∧ Chg (fun k => k = g) w w2) := ⟨hR, hN.move (S := fun _ => False) (Chg.refl _ _) (fun k q => q.elim) (fun k hk q => ⟨by have := q.1; omega, hk⟩), hP2, HW1.out.2.trans hC2⟩
    obtain ⟨T, c, rfl⟩ := hN.iface
    clear hC2 hR hN hP2
    go_wp2_with fail
    go_ret
    exact ⟨HF.out.2.2.2, .inl ⟨k, t, _, HF.out.1, rfl, HF.out.2.1, HF.out.2.2.1⟩⟩
  have z40 : ¬ (x.toNat : Int) = 40 := not_eq_u8 (c := 40) h40
  by_cases h91 : x = 91
  · subst h91
    go_wp2_with fail
    refine (class_core HW1.out.1 hp (by omega)).mono ?_
    rintro e w2 ⟨hC2, (⟨f, k, hk, rfl, hP2⟩ | ⟨c, k, hk, rfl⟩)⟩
    case inr => exact ⟨rfl, HW1.out.2.trans hC2, .inr ⟨c, k, classM_err hk, fun a => by rw [chk_class HX.out.1, hk], rfl⟩⟩
    have HF : Hid (PrAt w2 base g p k o ∧ Chg (fun k => k = g) w w2 ∧ classM (sb p) (i + 1) = .inl (f, k)) := ⟨hP2, HW1.out.2.trans hC2, hk⟩
    clear hC2 hk hP2
    go_wp2_with fail
    go_ret
    exact ⟨HF.out.2.1, .inl ⟨k, _, _, AtomOk.class HX.out.1 HF.out.2.2, rfl, nodeOk_cls _ _ _, HF.out.1⟩⟩
  have z91 : ¬ (x.toNat : Int) = 91 := not_eq_u8 (c := 91) h91
  have HS : Hid (¬ special x) := fun q => by
    rcases q with q | q | q | q | q
    · exact HX.out.2 q
    · exact h40 q
    · exact h91 q
    · exact h46 q
    · exact h92 q
  go_wp2_with fail
  go_ret
  exact ⟨HW1.out.2, .inl ⟨i + 1, _, _, AtomOk.plain HX.out.1 HS.out, rfl, nodeOk_byte _ _ _, HW1.out.1⟩⟩
end Go.Proofs.YtbjbdidcnkamaaaDoor

/-
  (*impl.patternReader).rep, over a contract of atom.
-/
namespace Go.Proofs.YtbjbdidcnkamaaaDoor
open Go.ChangeShapes Go.WideShapes Go.ChangeAt Go.RowKit Go.Deep
set_option linter.unusedVariables false
set_option linter.unusedSimpArgs false
set_option maxRecDepth 100000

theorem inB_some {p : List UInt8} {i : Nat} {l : List UInt8} (h : inB p i l = true) : ∃ c, p[i]? = some c ∧ c ∈ l := by
  unfold inB at h
  split at h
  · next c hc => exact ⟨c, hc, by simpa using h⟩
  · cases h
theorem inB_none {p : List UInt8} {i : Nat} {l : List UInt8} (h : inB p i l = false) : ∀ c, p[i]? = some c → ¬ c ∈ l := by
  intro c hc
  unfold inB at h
  rw [hc] at h
  simpa using h
theorem op_mem {c : UInt8} : c ∈ ([42, 43, 63] : List UInt8) ↔ isOp c := by simp [isOp]
/-- The state of rep's node. -/
structure RepJ (p : ByteArray) (base g i o j : Nat) (a : Pat) (v : Value) (RB : Nat) (w : World) (k : Nat) (op rp : Bool) (wr : World) : Prop where
  ops : OpsOk (sb p) o i j k a op rp
  rd : PrAt wr base g p k o
  box : BoxAt wr w.heap.size 88 3 RB [v, .bool op, .bool rp]
  node : NodeOk wr (Bet w.heap.size RB) a v
  chg : Chg (fun k => k = g) w wr
theorem RepJ.move {p : ByteArray} {base g i o j : Nat} {a : Pat} {v : Value} {RB : Nat} {w : World} {k : Nat} {op rp : Bool} {wr w' : World} (h : RepJ p base g i o j a v RB w k op rp wr) (hb : Below wr.heap.size wr w') : RepJ p base g i o j a v RB w k op rp w' :=
  ⟨h.ops, BoxAt.below h.rd hb, h.box.below hb, h.node.move (S := fun _ => False) (Chg.of_below hb) (fun k q => q.elim) (fun k _ q => q), h.chg.trans (Chg.of_below hb)⟩
theorem RepJ.step {p : ByteArray} {base g i o j : Nat} {a : Pat} {v : Value} {RB : Nat} {w : World} {k : Nat} {op rp : Bool} {wr w' : World} {c : UInt8} (h : RepJ p base g i o j a v RB w k op rp wr) (hg : g < w.heap.size) (hc : (sb p)[k]? = some c) (ho : isOp c) (hP : PrAt w' base g p (k + 1) o) (hC : Chg (fun k => k = g) wr w') :
    RepJ p base g i o j a v RB w (k + 1) (op || c != 43) (rp || c != 63) ((w'.setCell ⟨RB, 1, none⟩ (.bool (op || c != 43))).setCell ⟨RB, 2, none⟩ (.bool (rp || c != 63))) := by
  have hr := h.box.lt.1
  have c1 := Chg.of_set w' RB 1 (.bool (op || c != 43)) (S := fun k => k = RB) rfl
  have c2 := Chg.of_set (w'.setCell ⟨RB, 1, none⟩ (.bool (op || c != 43))) RB 2 (.bool (rp || c != 63)) (S := fun k => k = RB) rfl
  have c3 := c1.trans c2
  refine ⟨h.ops.more hc ho, BoxAt.chg hP c3 (by omega), ((h.box.chg hC (by omega)).set 1 _).set 2 _, ?_, ((h.chg.trans hC).absorb c3 (fun j q => .inr (by omega)))⟩
  exact (h.node.move hC (fun k q => by subst q; exact fun z => by have := z.1; omega) (fun k _ q => q)).move c3 (fun k q => by subst q; exact fun z => by have := z.2; omega) (fun k _ q => q)

def RepC (p : ByteArray) (m : Nat) : Prop := ∀ (base g i o : Nat) (w : World), p.size - i ≤ m → i < p.size → o ≤ 20 → (∀ c, (sb p)[i]? = some c → ¬ isEnd c) → PrAt w base g p i o → Calls Tryd.prog 44 #[.pointer (some ⟨g, 0, none⟩)] w (NodePost p base g i o w (RepOk (sb p) o i))
set_option maxHeartbeats 8000000 in
theorem rep_of {p : ByteArray} {m : Nat} (H : AtomC p m) (hp : p.size ≤ 200) : RepC p m := by
  intro base g i o w hm hi ho he h
  have HP : Hid (PrAt w base g p i o) := h
  have hgl := h.lt.2
  clear h
  go_enter Tryd.func44, Tryd.ntmps44
  go_wp2_with fail
  refine (H base g i o w hm hi ho he HP.out).mono ?_
  rintro e w1 ⟨hC1, (⟨j, a, v, hA, rfl, hN, hP1⟩ | ⟨c, k, hc0, hk, rfl⟩)⟩
  case inr => exact ⟨rfl, hC1, .inr ⟨c, k, hc0, hk, rfl⟩⟩
  obtain ⟨T, cs, rfl⟩ := hN.iface
  have HW1 : Hid (AtomOk (sb p) o i j a ∧ NodeOk w1 (Bet w.heap.size w1.heap.size) a (.iface T (.agg cs)) ∧ PrAt w1 base g p j o ∧ Chg (fun k => k = g) w w1) := ⟨hA, hN, hP1, hC1⟩
  clear hC1 hA hN hP1 HP
  go_wp2_with fail
  refine (pnextIn_core ⟨#[42, 43, 63]⟩ HW1.out.2.2.1 hp).mono ?_
  rintro e w2 ⟨rfl, hb2⟩
  have HW2 : Hid (NodeOk w2 (Bet w.heap.size w2.heap.size) a (.iface T (.agg cs)) ∧ PrAt w2 base g p j o ∧ Chg (fun k => k = g) w w2) :=
    ⟨HW1.out.2.1.move (S := fun _ => False) (Chg.of_below hb2) (fun k q => q.elim) (fun k hk q => ⟨q.1, by have := hb2.size; omega⟩), BoxAt.below HW1.out.2.2.1 hb2, HW1.out.2.2.2.trans (Chg.of_below hb2)⟩
  have HA : Hid (AtomOk (sb p) o i j a) := HW1.out.1
  obtain ⟨q, hq⟩ : ∃ q, q = inB (sb p) j (sb ⟨#[42, 43, 63]⟩) := ⟨_, rfl⟩
  have HQ : Hid (inB (sb p) j [42, 43, 63] = q) := hq.symm
  rw [← hq]
  clear hb2 hq HW1
  cases q
  · have HR : Hid (RepOk (sb p) o i j a) := by
      have := (OpsOk.zero HA.out).rep (fun c hc hop => inB_none HQ.out c hc (op_mem.2 hop))
      rw [if_pos rfl] at this
      exact this
    go_wp2_with fail
    go_ret
    exact ⟨HW2.out.2.2, .inl ⟨j, a, _, HR.out, rfl, HW2.out.1, HW2.out.2.1⟩⟩
  have hjp : j ≤ p.size := by have := HA.out.le; rw [sb_len] at this; exact this
  obtain ⟨W3, hW3⟩ : ∃ W3 : World, W3 = w2.alloc (Obj.cells #[.iface T (.agg cs), .bool false, .bool false] 88) := ⟨_, rfl⟩
  have hs2 := HW2.out.2.2.size
  have HW3 : Hid (RepJ p base g i o j a (.iface T (.agg cs)) w2.heap.size w j false false W3) := by
    have hb : Below w2.heap.size w2 W3 := by rw [hW3]; exact (Below.refl _ _).alloc (Nat.le_refl _) _
    refine ⟨OpsOk.zero HA.out, BoxAt.below HW2.out.2.1 hb, ?_, HW2.out.1.move (S := fun _ => False) (Chg.of_below hb) (fun k q => q.elim) (fun k _ q => q), HW2.out.2.2.trans (Chg.of_below hb)⟩
    rw [hW3]; exact boxAt_new w2 _ hs2 rfl
  have HF0 : Hid (∃ c, (sb p)[j]? = some c ∧ isOp c) := by
    obtain ⟨c, h1, h2⟩ := inB_some HQ.out
    exact ⟨c, h1, op_mem.1 h2⟩
  clear HW2
  go_wp2_with fail
  rw [← hW3]
  obtain ⟨RB, hRB⟩ : ∃ RB, RB = w2.heap.size := ⟨_, rfl⟩
  rw [← hRB] at HW3
  rw [← hRB]
  have hrb : w.heap.size ≤ RB := by omega
  clear hW3 hRB hs2
  go_loopw [5] (fun sg wr => ∃ (k : Nat) (op rp : Bool), j ≤ k ∧ k ≤ p.size ∧ (k = j → ∃ c, (sb p)[j]? = some c ∧ isOp c) ∧ RepJ p base g i o j a (.iface T (.agg cs)) RB w k op rp wr) (fun _ wr => p.size - atOf wr g)
  case atStart => exact ⟨j, false, false, Nat.le_refl _, hjp, fun _ => HF0.out, HW3.out⟩
  case round =>
    obtain ⟨k, op, rp, hjk, hkp, hne, hJ⟩ := hrel
    have HJ : Hid (RepJ p base g i o j a (.iface T (.agg cs)) RB w k op rp wr ∧ (k = j → ∃ c, (sb p)[j]? = some c ∧ isOp c) ∧ atOf wr g = k) := ⟨hJ, hne, atOf_pr hJ.rd⟩
    clear hJ hne HW3
    go_wp2_with fail
    refine (pnextIn_core ⟨#[42, 43, 63]⟩ HJ.out.1.rd hp).mono ?_
    rintro e w5 ⟨rfl, hb5⟩
    have HJ5 : Hid (RepJ p base g i o j a (.iface T (.agg cs)) RB w k op rp w5) := HJ.out.1.move hb5
    obtain ⟨q, hq⟩ : ∃ q, q = inB (sb p) k (sb ⟨#[42, 43, 63]⟩) := ⟨_, rfl⟩
    have HQ5 : Hid (inB (sb p) k [42, 43, 63] = q) := hq.symm
    rw [← hq]
    clear hb5 hq
    cases q
    · have HR : Hid (RepOk (sb p) o i k (.rep a op rp)) := by
        have h1 := HJ5.out.ops.rep (fun c hc hop => inB_none HQ5.out c hc (op_mem.2 hop))
        rw [if_neg (fun q => by
          obtain ⟨c, hc, hop⟩ := HJ.out.2.1 q.symm
          rw [q] at hc
          exact inB_none HQ5.out c hc (op_mem.2 hop))] at h1
        exact h1
      have b0 := HJ5.out.box.cell (j := 0) rfl
      have b1 := HJ5.out.box.cell (j := 1) rfl
      have b2 := HJ5.out.box.cell (j := 2) rfl
      go_wp2_with fail
      go_ret
      exact ⟨HJ5.out.chg, .inl ⟨k, _, _, HR.out, rfl, nodeOk_rep (HJ5.out.node.move (S := fun _ => False) (Chg.refl _ _) (fun k q => q.elim) (fun k hk q => ⟨q.1, hk⟩)) op rp, HJ5.out.rd⟩⟩
    · obtain ⟨c, hc, hcm⟩ := inB_some HQ5.out
      have HC : Hid ((sb p)[k]? = some c ∧ isOp c) := ⟨hc, op_mem.1 hcm⟩
      have hk1 : k + 1 ≤ p.size := by have := lt_of_at hc; rw [sb_len] at this; omega
      clear hc hcm
      go_wp2_with fail
      refine (ptake_yes HJ5.out.rd hp HC.out.1).mono ?_
      rintro e w6 ⟨rfl, hP6, hC6⟩
      have HJ6 := HJ5.out.step hgl HC.out.1 HC.out.2 hP6 hC6
      have hbx := HJ5.out.box.chg hC6 (show ¬ RB = g by omega)
      have b1 := hbx.cell (j := 1) rfl
      have b2 := hbx.cell (j := 2) rfl
      have g1 := hbx.frozen 1
      have g2 := hbx.frozen 2
      have HJN : Hid (RepJ p base g i o j a (.iface T (.agg cs)) RB w (k + 1) (op || c != 43) (rp || c != 63) ((w6.setCell ⟨RB, 1, none⟩ (.bool (op || c != 43))).setCell ⟨RB, 2, none⟩ (.bool (rp || c != 63)))) := HJ6
      have HAt : Hid (atOf wr g = k) := HJ.out.2.2
      clear HJ6 hbx hP6 hC6 HJ5 HJ
      rcases HC.out.2 with rfl | rfl | rfl <;> cases op <;> cases rp
      all_goals go_wp2_with fail
      all_goals go_roundw
      all_goals first
        | exact ⟨k + 1, _, _, by omega, hk1, fun q => by omega, HJN.out⟩
        | exact Nat.lt_of_le_of_lt (Nat.le_of_eq (congrArg (p.size - ·) (atOf_pr HJN.out.rd))) (by rw [HAt.out]; omega)
end Go.Proofs.YtbjbdidcnkamaaaDoor

/-
  (*impl.patternReader).seq, over a contract of rep.
-/
namespace Go.Proofs.YtbjbdidcnkamaaaDoor
open Go.ChangeShapes Go.WideShapes Go.ChangeAt Go.RowKit Go.Deep
set_option linter.unusedVariables false
set_option linter.unusedSimpArgs false
set_option maxRecDepth 100000

/-- What seq hands back. -/
def SeqPost (p : ByteArray) (base g i o : Nat) (w : World) (e : Ending) (w' : World) : Prop :=
  Chg (fun k => k = g) w w' ∧ ((∃ (k : Nat) (ts : List Pat) (u : Value), SeqOk (sb p) o i k ts ∧ (∀ c, (sb p)[k]? = some c → isEnd c) ∧ e = .returned (.agg #[u]) ∧ SeqAt w' (Bet w.heap.size w'.heap.size) ts u ∧ PrAt w' base g p k o) ∨ (∃ (c : Int) (k : Nat), ¬ c = 0 ∧ chkM (sb p) i o false = (c, k) ∧ e = Pf c k))
def SeqC (p : ByteArray) (m : Nat) : Prop := ∀ (base g i o : Nat) (w : World), p.size - i ≤ m → i ≤ p.size → o ≤ 20 → PrAt w base g p i o → Calls Tryd.prog 32 #[.pointer (some ⟨g, 0, none⟩)] w (SeqPost p base g i o w)
/-- Blocks of nodes. -/
def NR (lo : Nat) (v : Value) : Nat → Prop := fun k => lo ≤ k ∧ ¬ v.ownBlock = some k
structure SeqJ (p : ByteArray) (base g i o : Nat) (w : World) (k : Nat) (ts : List Pat) (us : List Value) (v : Value) (wr : World) : Prop where
  ok : SeqOk (sb p) o i k ts
  rd : PrAt wr base g p k o
  res : BoxAt wr w.heap.size 75 1 w.heap.size [.slice none 0 0]
  box : BoxAt wr w.heap.size 75 1 (w.heap.size + 1) [v]
  row : OwnN wr (w.heap.size + 2) v us
  len : us.length = ts.length
  nodes : ∀ (i : Nat) x t, us[i]? = some x → ts[i]? = some t → NodeOk wr (NR (w.heap.size + 2) v) t x
  chg : Chg (fun k => k = g) w wr
  glt : g < w.heap.size
theorem OwnN.chg {S : Nat → Prop} {w w' : World} {base : Nat} {v : Value} {us : List Value} (h : OwnN w base v us) (hc : Chg S w w') (hn : ∀ k, v.ownBlock = some k → ¬ S k) : OwnN w' base v us := own_chg h hc hn
theorem OwnN.slice {w : World} {base : Nat} {v : Value} {us : List Value} (h : OwnN w base v us) : ∃ a cp, v = .slice a us.length cp := by
  rcases h.2 with ⟨rfl, h0⟩ | ⟨g, cap, cur, rfl, _⟩
  · exact ⟨none, 0, by rw [h0]⟩
  · exact ⟨_, _, rfl⟩
variable {p : ByteArray} {base g i o : Nat} {w : World} {k : Nat} {ts : List Pat} {us : List Value} {v : Value} {wr : World}
theorem SeqJ.move {w' : World} (h : SeqJ p base g i o w k ts us v wr) (hb : Below wr.heap.size wr w') : SeqJ p base g i o w k ts us v w' :=
  ⟨h.ok, BoxAt.below h.rd hb, h.res.below hb, h.box.below hb, h.row.chg (S := fun _ => False) (Chg.of_below hb) (fun _ _ q => q), h.len, fun i x t hx ht => (h.nodes i x t hx ht).move (S := fun _ => False) (Chg.of_below hb) (fun k q => q.elim) (fun k _ q => q), h.chg.trans (Chg.of_below hb), h.glt⟩
/-- Behind rep: one node more, not yet in the list. -/
structure SeqK (p : ByteArray) (base g i o : Nat) (w : World) (k : Nat) (ts : List Pat) (us : List Value) (v : Value) (t : Pat) (x : Value) (wr : World) : Prop where
  ok : SeqOk (sb p) o i k (ts ++ [t])
  rd : PrAt wr base g p k o
  res : BoxAt wr w.heap.size 75 1 w.heap.size [.slice none 0 0]
  box : BoxAt wr w.heap.size 75 1 (w.heap.size + 1) [v]
  row : OwnN wr (w.heap.size + 2) v us
  len : us.length = ts.length
  nodes : ∀ (i : Nat) y s, (us ++ [x])[i]? = some y → (ts ++ [t])[i]? = some s → NodeOk wr (NR (w.heap.size + 2) v) s y
  chg : Chg (fun k => k = g) w wr
  glt : g < w.heap.size
theorem SeqK.move {w' : World} {t : Pat} {x : Value} (h : SeqK p base g i o w k ts us v t x wr) (hb : Below wr.heap.size wr w') : SeqK p base g i o w k ts us v t x w' :=
  ⟨h.ok, BoxAt.below h.rd hb, h.res.below hb, h.box.below hb, h.row.chg (S := fun _ => False) (Chg.of_below hb) (fun _ _ q => q), h.len, fun i x t hx ht => (h.nodes i x t hx ht).move (S := fun _ => False) (Chg.of_below hb) (fun k q => q.elim) (fun k _ q => q), h.chg.trans (Chg.of_below hb), h.glt⟩
theorem snoc_at {α : Type} {l : List α} {a b : α} {i : Nat} (h : (l ++ [a])[i]? = some b) : l[i]? = some b ∨ (i = l.length ∧ b = a) := by
  by_cases hi : i < l.length
  · rw [List.getElem?_append_left hi] at h; exact .inl h
  · rw [List.getElem?_append_right (by omega)] at h
    have h2 := (List.getElem?_eq_some_iff.1 h).1
    simp at h2
    have : i - l.length = 0 := by omega
    rw [this] at h
    simp at h
    exact .inr ⟨by omega, h.symm⟩
theorem SeqJ.rep {w6 : World} {k6 : Nat} {t : Pat} {x : Value} (h : SeqJ p base g i o w k ts us v wr) (hC : Chg (fun k => k = g) wr w6) (hR : RepOk (sb p) o k k6 t) (hN : NodeOk w6 (Bet wr.heap.size w6.heap.size) t x) (hP : PrAt w6 base g p k6 o) : SeqK p base g i o w k6 ts us v t x w6 := by
  have hg := h.glt
  have hz := h.chg.size
  have hb1 := h.box.lt.2
  have hv : ∀ j, v.ownBlock = some j → w.heap.size + 2 ≤ j ∧ j < wr.heap.size := fun j hj => World.ownsRow.lt h.row j hj
  refine ⟨h.ok.more hR, hP, h.res.chg hC (by omega), h.box.chg hC (by omega), h.row.chg hC (fun j hj q => by have := (hv j hj).1; omega), h.len, ?_, h.chg.trans hC, hg⟩
  intro j y s hy hs
  rcases snoc_at hy with hy | ⟨hj, rfl⟩
  · rcases snoc_at hs with hs | ⟨hj, rfl⟩
    · exact (h.nodes j y s hy hs).move hC (fun q hq => by subst hq; exact fun z => by have := z.1; omega) (fun q _ z => z)
    · have := (List.getElem?_eq_some_iff.1 hy).1
      have := h.len
      omega
  · rcases snoc_at hs with hs | ⟨_, rfl⟩
    · have := (List.getElem?_eq_some_iff.1 hs).1
      have := h.len
      omega
    · refine hN.move (S := fun _ => False) (Chg.refl _ _) (fun q hq => hq.elim) (fun q _ z => ⟨?_, fun e => ?_⟩)
      · have := z.1; omega
      · have := (hv q e).2; have := z.1; omega
/-- The list grown, then its variable set. -/
theorem SeqK.push {t : Pat} {x v' : Value} {w' : World} (h : SeqK p base g i o w k ts us v t x wr) (hO : OwnN w' (w.heap.size + 2) v' (us ++ [x])) (hg : wr.grownBy w' v.ownBlock) (hat : ∀ j, v'.ownBlock = some j → v.ownBlock = some j ∨ j = wr.heap.size) :
    SeqJ p base g i o w k (ts ++ [t]) (us ++ [x]) v' (w'.setCell ⟨w.heap.size + 1, 0, none⟩ v') ∧ w'.cell? ⟨w.heap.size + 1, 0, none⟩ = some v ∧ w'.frozen? ⟨w.heap.size + 1, 0, none⟩ = false := by
  have hgl := h.glt
  have hv : ∀ j, v.ownBlock = some j → w.heap.size + 2 ≤ j ∧ j < wr.heap.size := fun j hj => World.ownsRow.lt h.row j hj
  have hv' : ∀ j, v'.ownBlock = some j → w.heap.size + 2 ≤ j ∧ j < w'.heap.size := fun j hj => World.ownsRow.lt hO j hj
  have hc : Chg (fun j => v.ownBlock = some j) wr w' := Chg.of_grown hg (fun j hj => hj)
  have hs : Chg (fun j => j = w.heap.size + 1) w' (w'.setCell ⟨w.heap.size + 1, 0, none⟩ v') := Chg.of_set w' (w.heap.size + 1) 0 _ rfl
  have hbx := h.box.chg hc (fun q => by have := (hv _ q).1; omega)
  refine ⟨⟨h.ok, ?_, ?_, hbx.set 0 _, hO.chg hs (fun j hj q => by have := (hv' j hj).1; omega), by rw [List.length_append, List.length_append, h.len]; rfl, ?_, ?_, hgl⟩, hbx.cell (j := 0) rfl, hbx.frozen 0⟩
  · exact BoxAt.chg (BoxAt.chg h.rd hc (fun q => by have := (hv _ q).1; omega)) hs (by omega)
  · exact (h.res.chg hc (fun q => by have := (hv _ q).1; omega)).chg hs (by omega)
  · intro j y s hy hs2
    have h1 := (h.nodes j y s hy hs2).move hc (fun q hq z => z.2 hq) (lo' := NR (w.heap.size + 2) v') (fun q hq z => ⟨z.1, fun e => by rcases hat q e with e | e; exact z.2 e; omega⟩)
    exact h1.move hs (fun q hq => by subst hq; exact fun z => by have := z.1; omega) (fun q _ z => z)
  · exact (h.chg.absorb hc (fun j q => .inr (by have := (hv j q).1; omega))).absorb hs (fun j q => .inr (by omega))
theorem Tryd.infoNodes : True := trivial
/-- One node appended, at a step of a region that draws. -/
theorem step_append_node {ops : Array Oper} {oo : Oper} {a : Act} {K : Act → World → Prop} {Q : Exit → Act → World → Prop} {E : Prop} (w : World) (hgd : oo.guard = none) (s x : Operand)
    (ho : oo.op = .call { callee := .builtin .append, args := #[s, x], argTypes := #[73, 73] })
    (base n blk : Nat) (v y : Value) (us : List Value) (hn : n = us.length) (hs : a.eval s = v) (hx : a.eval x = .slice (some ⟨blk, 0, none⟩) 1 1) (hO : OwnN w base v us)
    (hc : w.cell? ⟨blk, 0, none⟩ = some y) (hy : y.oneCell' = true) (hlen : us.length ≤ 1000) (hbase : base ≤ w.heap.size)
    (h : ∀ g' cp' w', OwnN w' base (.slice (some ⟨g', 0, none⟩) (n + 1) cp') (us ++ [y]) → w.grownBy w' v.ownBlock → (v.ownBlock = some g' ∨ g' = w.heap.size) → K (a.put oo.dst (.slice (some ⟨g', 0, none⟩) (n + 1) cp')) w') : if Region.wanted oo (yielded ops a.tmps) = true then Oper.wp Tryd.prog oo a w K Q else E := by
  subst hn
  obtain ⟨i, hi, hz0, hz1, hz2⟩ := info_parts Tryd.infoNode
  refine step_append_lies w hgd s x 73 ho base 78 i _ 1 16 Tryd.underlying73 hi hz0 hz1 hz2 rfl (by decide) v us.length us hs hO ⟨blk, 0, none⟩ 1 1 [y] hx rfl ?_ ?_ (by decide) ?_ ?_ hbase w.heap.size rfl ?_
  · intro j u hu
    have hj : j = 0 := by have := (List.getElem?_eq_some_iff.1 hu).1; simpa using this
    subst hj
    simp at hu
    rw [Addr.add_mid, ← hu]; exact hc
  · intro u hu
    simp at hu; subst hu; exact hy
  · unfold maxLen; omega
  · omega
  · intro g' cp' w' hO' hgr hat hlt
    refine h g' cp' w' ?_ hgr hat
    unfold OwnN
    rw [List.length_append]
    exact hO'

set_option maxHeartbeats 8000000 in
theorem seq_of {p : ByteArray} {m : Nat} (H : RepC p m) (hp : p.size ≤ 200) : SeqC p m := by
  intro base g i o w hm hi ho h
  have hgl := h.lt.2
  obtain ⟨W0, hW0⟩ : ∃ W0 : World, W0 = (w.alloc (Obj.cells #[.slice none 0 0] 75)).alloc (Obj.cells #[.slice none 0 0] 75) := ⟨_, rfl⟩
  have HJ0 : Hid (SeqJ p base g i o w i [] [] (.slice none 0 0) W0) := by
    have hb : Below w.heap.size w W0 := by rw [hW0]; exact ((Below.refl _ _).alloc (Nat.le_refl _) _).alloc (by simp) _
    have h1 : BoxAt W0 w.heap.size 75 1 w.heap.size [.slice none 0 0] := by rw [hW0]; exact BoxAt.ofHeap (vs := #[.slice none 0 0]) (heap_alloc2_old w _ _) (Nat.le_refl _) rfl
    have h2 : BoxAt W0 w.heap.size 75 1 (w.heap.size + 1) [.slice none 0 0] := by rw [hW0]; exact BoxAt.ofHeap (vs := #[.slice none 0 0]) (heap_alloc2_new w _ _) (by omega) rfl
    exact ⟨SeqOk.nil (by rw [sb_len]; exact hi), BoxAt.below h hb, h1, h2, World.ownsRow_nil .., rfl, fun i x t hx => by simp at hx, Chg.of_below hb, hgl⟩
  clear h
  go_enter Tryd.func32, Tryd.ntmps32
  go_wp2_with fail
  rw [← hW0]
  clear hW0
  go_loopw [] (fun wr => ∃ (k : Nat) (ts : List Pat) (us : List Value) (v : Value), i ≤ k ∧ k ≤ p.size ∧ us.length ≤ k ∧ SeqJ p base g i o w k ts us v wr) (fun wr => p.size - atOf wr g)
  case atStart => exact ⟨i, [], [], _, Nat.le_refl _, hi, Nat.zero_le _, HJ0.out⟩
  case round =>
    obtain ⟨k, ts, us, v, hik, hkp, hul, hJ⟩ := hrel
    have HJ : Hid (SeqJ p base g i o w k ts us v wr ∧ atOf wr g = k) := ⟨hJ, atOf_pr hJ.rd⟩
    obtain ⟨va, vc, hva⟩ := hJ.row.slice
    subst hva
    clear hJ HJ0
    have hlt := HJ.out.1.rd.lt.2
    have c0 := HJ.out.1.rd.cell (j := 0) rfl
    have c1 := HJ.out.1.rd.cell (j := 1) rfl
    have e0 : ∀ n : Out wr, n.u.cell? ⟨g, 0, none⟩ = some (.string p) := fun n => (n.out.cell (p := ⟨g, 0, none⟩) hlt).trans c0
    have e1 : ∀ n : Out wr, n.u.cell? ⟨g, 1, none⟩ = some (.int .i64 (k : Int)) := fun n => (n.out.cell (p := ⟨g, 1, none⟩) hlt).trans c1
    obtain ⟨q, hq⟩ : ∃ q, q = inB (sb p) k (sb ⟨#[42, 43, 63, 124, 41, 93]⟩) := ⟨_, rfl⟩
    have HQ : Hid (inB (sb p) k [42, 43, 63, 124, 41, 93] = q) := hq.symm
    have HI : Hid (∀ n : Out wr, Calls Tryd.prog 43 #[.pointer (some ⟨g, 0, none⟩), .string ⟨#[42, 43, 63, 124, 41, 93]⟩] n.u fun e w' => e = .returned (.bool q) ∧ Below n.u.heap.size n.u w') := fun n => by
      rw [hq]
      exact pnextIn_core _ (BoxAt.below HJ.out.1.rd n.out) hp
    clear c0 c1 hq
    by_cases hgo : k < p.size ∧ q = false
    · obtain ⟨hks, rfl⟩ := hgo
      have z1 : (k : Int) < (p.size : Int) := by omega
      have HNe : Hid (∀ c, (sb p)[k]? = some c → ¬ isEnd c) := fun c hc he => inB_none HQ.out c hc (by
        rcases he with (rfl | rfl | rfl) | rfl | rfl | rfl <;> simp)
      go_upto_region 2 with fail
      refine wp_region_out (by kernel_rfl) (by kernel_rfl) ?_
      repeat (go_big_quiet_step ((first | rfl | (go_at_call 43; exact Calls.out_of (HI.out _)))))
      refine wpQuiet_nil ?_
      rintro w1 ⟨⟨wx, hb1⟩, rfl⟩
      have HJ1 : Hid (SeqJ p base g i o w k ts us (.slice va us.length vc) w1) := HJ.out.1.move hb1
      have HAt : Hid (atOf wr g = k) := HJ.out.2
      have hs1 := hb1.size
      clear e0 e1 HI hb1 HJ
      have b0 := HJ1.out.box.cell (j := 0) rfl
      have hob := HJ1.out.box.lt.2
      have HRep : Hid (∀ w', Below w1.heap.size w1 w' → Calls Tryd.prog 44 #[.pointer (some ⟨g, 0, none⟩)] w' (NodePost p base g k o w' (RepOk (sb p) o k))) := fun w' hb => H base g k o w' (by omega) hks ho HNe.out (BoxAt.below HJ1.out.rd hb)
      go_upto_region 3 with fail
      go_region_law ((first
                | (go_simp; go_at_call 44; refine (HRep.out _ (Below.refl _ _).drew).mono ?_; rintro e' w6 ⟨hC6, (⟨k6, t, x, hR6, rfl, hN6, hP6⟩ | ⟨c6, k6, hc60, hk6, rfl⟩)⟩; (case inr => exact ⟨rfl, (HJ1.out.move (Below.refl _ _).drew).chg.trans hC6, .inr ⟨c6, k6, hc60, by rw [HJ1.out.ok.chk, hk6], rfl⟩⟩); obtain ⟨T6, cs6, rfl⟩ := hN6.iface; have HK6 : Hid (SeqK p base g i o w k6 ts us (.slice va us.length vc) t (.iface T6 (.agg cs6)) w6 ∧ RepOk (sb p) o k k6 t) := ⟨(HJ1.out.move (Below.refl _ _).drew).rep hC6 hR6 hN6 hP6, hR6⟩; have m6 := HK6.out.1.box.cell (j := 0) rfl; have m6l := HK6.out.1.box.lt.2; have m6a : ∀ o, (w6.alloc o).cell? ⟨w.heap.size + 1, 0, none⟩ = some (.slice va us.length vc) := fun o => by { rw [((Below.refl w6.heap.size w6).alloc (Nat.le_refl _) o).cell (p := ⟨w.heap.size + 1, 0, none⟩) m6l]; exact m6 }; clear hC6 hR6 hN6 hP6)
                | (refine step_append_node _ (by rfl) _ _ (by rfl) (w.heap.size + 2) us.length w6.heap.size (.slice va us.length vc) (.iface T6 (.agg cs6)) us rfl (by rfl) (by rfl) ?hO ?hc rfl ?hl ?hb ?_
                   case hO => exact (HK6.out.1.move ((Below.refl _ _).alloc (Nat.le_refl _) _)).row
                   case hc => simp
                   case hl => omega
                   case hb => have := (HK6.out.1.move ((Below.refl _ _).alloc (Nat.le_refl _) (Obj.cells #[.iface T6 (.agg cs6)] 78))).box.lt.2; omega
                   intro g7 cp7 w7 hO7 hgr7 hgg7
                   have hpp := (HK6.out.1.move ((Below.refl _ _).alloc (Nat.le_refl _) (Obj.cells #[.iface T6 (.agg cs6)] 78))).push hO7 hgr7 (fun j hj => by have hj' : g7 = j := by { simpa [Value.ownBlock] using hj }; rw [← hj']; exact hgg7)
                   have fin7 : Hid (SeqJ p base g i o w k6 (ts ++ [t]) (us ++ [.iface T6 (.agg cs6)]) (.slice (some ⟨g7, 0, none⟩) (us.length + 1) cp7) (w7.setCell ⟨w.heap.size + 1, 0, none⟩ (.slice (some ⟨g7, 0, none⟩) (us.length + 1) cp7))) := hpp.1
                   have m7 := hpp.2.1
                   have f7 := hpp.2.2
                   clear hpp hO7 hgr7 hgg7)))
      all_goals go_wp2_with fail
      all_goals go_roundw
      all_goals first
        | exact ⟨k6, ts ++ [t], us ++ [.iface T6 (.agg cs6)], _, by have := HK6.out.2.lt; omega, by have := HK6.out.2.le; rw [sb_len] at this; exact this, by have := HK6.out.2.lt; rw [List.length_append]; simp; omega, fin7.out⟩
        | (rw [HAt.out, atOf_pr fin7.out.rd]; have := HK6.out.2.lt; omega)
    · have HE : Hid (∀ c, (sb p)[k]? = some c → isEnd c) := by
        intro c hc
        have hk := lt_of_at hc
        rw [sb_len] at hk
        cases q
        · exact absurd ⟨hk, rfl⟩ hgo
        · obtain ⟨d, hd, hm⟩ := inB_some HQ.out
          rw [hc] at hd
          cases hd
          simp at hm
          rcases hm with rfl | rfl | rfl | rfl | rfl | rfl <;> simp [isEnd, isOp]
      have HX : Hid (SeqJ p base g i o w k ts us (.slice va us.length vc) wr) := HJ.out.1
      clear HQ HJ
      have fin : ∀ w1, Below wr.heap.size wr w1 → Hid (SeqJ p base g i o w k ts us (.slice va us.length vc) w1) := fun w1 hb => HX.out.move hb
      by_cases hks : k < p.size
      · have hq1 : q = true := by
          cases q
          · exact absurd ⟨hks, rfl⟩ hgo
          · rfl
        subst hq1
        have z1 : (k : Int) < (p.size : Int) := by omega
        clear hgo
        go_upto_region 2 with fail
        refine wp_region_out (by kernel_rfl) (by kernel_rfl) ?_
        repeat (go_big_quiet_step ((first | rfl | (go_at_call 43; exact Calls.out_of (HI.out _)))))
        refine wpQuiet_nil ?_
        rintro w1 ⟨⟨wx, hb1⟩, rfl⟩
        have HJ1 := fin w1 hb1
        clear e0 e1 HI hb1 fin HX
        have b0 := HJ1.out.box.cell (j := 0) rfl
        have r0 := HJ1.out.res.cell (j := 0) rfl
        have rf := HJ1.out.res.frozen 0
        go_wp2_with fail
        refine bodyPost_ret (v := .agg #[.slice va us.length vc]) (by simp [results, Tryd.results32, go_sem, World.cell?_setCell_same _ _ _ r0]) rfl ?_
        have hc := Chg.of_set w1 w.heap.size 0 (.slice va us.length vc) (S := fun j => j = w.heap.size) rfl
        refine ⟨HJ1.out.chg.absorb hc (fun j q => .inr (by omega)), .inl ⟨k, ts, _, HJ1.out.ok, HE.out, rfl, ?_, BoxAt.chg HJ1.out.rd hc (by omega)⟩⟩
        refine (HJ1.out.row.seq HJ1.out.len (R := fun j => w.heap.size + 2 ≤ j) (fun i x t hx ht => (HJ1.out.nodes i x t hx ht).move (S := fun _ => False) (Chg.refl _ _) (fun _ q => q.elim) (fun _ _ q => q.1)) (fun j hj => (World.ownsRow.lt HJ1.out.row j hj).1)).move hc (fun j q => by subst q; exact fun z => by omega) (fun j hj z => ⟨by omega, by have := hc.size; omega⟩)
      · have z1 : ¬ (k : Int) < (p.size : Int) := by omega
        clear hgo
        go_upto_region 2 with fail
        refine wp_region_out (by kernel_rfl) (by kernel_rfl) ?_
        repeat (go_big_quiet_step (rfl))
        refine wpQuiet_nil ?_
        rintro w1 ⟨⟨wx, hb1⟩, rfl⟩
        have HJ1 := fin w1 hb1
        clear e0 e1 HI hb1 fin HX
        have b0 := HJ1.out.box.cell (j := 0) rfl
        have r0 := HJ1.out.res.cell (j := 0) rfl
        have rf := HJ1.out.res.frozen 0
        go_wp2_with fail
        refine bodyPost_ret (v := .agg #[.slice va us.length vc]) (by simp [results, Tryd.results32, go_sem, World.cell?_setCell_same _ _ _ r0]) rfl ?_
        have hc := Chg.of_set w1 w.heap.size 0 (.slice va us.length vc) (S := fun j => j = w.heap.size) rfl
        refine ⟨HJ1.out.chg.absorb hc (fun j q => .inr (by omega)), .inl ⟨k, ts, _, HJ1.out.ok, HE.out, rfl, ?_, BoxAt.chg HJ1.out.rd hc (by omega)⟩⟩
        refine (HJ1.out.row.seq HJ1.out.len (R := fun j => w.heap.size + 2 ≤ j) (fun i x t hx ht => (HJ1.out.nodes i x t hx ht).move (S := fun _ => False) (Chg.refl _ _) (fun _ q => q.elim) (fun _ _ q => q.1)) (fun j hj => (World.ownsRow.lt HJ1.out.row j hj).1)).move hc (fun j q => by subst q; exact fun z => by omega) (fun j hj z => ⟨by omega, by have := hc.size; omega⟩)
end Go.Proofs.YtbjbdidcnkamaaaDoor

/-
  (*impl.patternReader).alt, over a contract of seq; all of the reader by induction.
-/
namespace Go.Proofs.YtbjbdidcnkamaaaDoor
open Go.ChangeShapes Go.WideShapes Go.ChangeAt Go.RowKit Go.Deep
set_option linter.unusedVariables false
set_option linter.unusedSimpArgs false
set_option maxRecDepth 100000

structure AltJ (p : ByteArray) (base g i o : Nat) (w : World) (k : Nat) (os : List (List Pat)) (us : List Value) (gq cp : Nat) (wr : World) : Prop where
  ok : AltOk (sb p) o i k os
  nxt : ∀ c, (sb p)[k]? = some c → isEnd c
  rd : PrAt wr base g p k o
  res : BoxAt wr w.heap.size 31 1 w.heap.size [.slice none 0 0]
  row : OwnQ wr (w.heap.size + 1) gq cp us
  len : us.length = os.length
  seqs : ∀ (i : Nat) x ts, us[i]? = some x → os[i]? = some ts → SeqAt wr (fun j => w.heap.size + 1 ≤ j ∧ ¬ j = gq) ts x
  chg : Chg (fun k => k = g) w wr
  glt : g < w.heap.size
theorem OwnQ.chg {S : Nat → Prop} {w w' : World} {base gq cp : Nat} {us : List Value} (h : OwnQ w base gq cp us) (hc : Chg S w w') (hn : ¬ S gq) : OwnQ w' base gq cp us := own_chg h hc (fun k q => by simp [Value.ownBlock] at q; subst q; exact hn)
variable {p : ByteArray} {base g i o : Nat} {w : World} {k : Nat} {os : List (List Pat)} {us : List Value} {gq cp : Nat} {wr : World}
theorem AltJ.read {w' : World} {k' : Nat} (h : AltJ p base g i o w k os us gq cp wr) (hC : Chg (fun k => k = g) wr w') (hP : PrAt w' base g p k' o) :
    BoxAt w' w.heap.size 31 1 w.heap.size [.slice none 0 0] ∧ OwnQ w' (w.heap.size + 1) gq cp us ∧ (∀ (i : Nat) x ts, us[i]? = some x → os[i]? = some ts → SeqAt w' (fun j => w.heap.size + 1 ≤ j ∧ ¬ j = gq) ts x) ∧ Chg (fun k => k = g) w w' := by
  have hg := h.glt
  have hq := h.row.lt
  exact ⟨h.res.chg hC (by omega), h.row.chg hC (by omega), fun i x ts hx ht => (h.seqs i x ts hx ht).move hC (fun q hq => by subst hq; exact fun z => by have := z.1; omega) (fun q _ z => z), h.chg.trans hC⟩
/-- One option appended to the list of options. -/
theorem wpList_append_seq {ops : Array Oper} {rest : List Oper} {oo : Oper} {a : Act} {Q : Exit → Act → World → Prop} (w : World) (hgd : oo.guard = none) (s x : Operand)
    (ho : oo.op = .call { callee := .builtin .append, args := #[s, x], argTypes := #[29, 29] })
    (base gq cp n b : Nat) (us : List Value) (y : Value) (hs : a.eval s = .slice (some ⟨gq, 0, none⟩) n cp) (hx : a.eval x = .slice (some ⟨b, 0, none⟩) 1 1) (hn : n = us.length) (hO : OwnQ w base gq cp us)
    (hc : w.cell? ⟨b, 0, none⟩ = some y) (hy : y.oneCell' = true) (hlen : us.length ≤ 1000) (hbase : base ≤ w.heap.size)
    (h : ∀ g' cp' w', OwnQ w' base g' cp' (us ++ [y]) → w.grownBy w' (some gq) → (g' = gq ∨ g' = w.heap.size) → wpList Tryd.prog ops Q rest (a.put oo.dst (.slice (some ⟨g', 0, none⟩) (n + 1) cp')) w') : wpList Tryd.prog ops Q (oo :: rest) a w := by
  subst hn
  obtain ⟨i, hi, hz0, hz1, hz2⟩ := info_parts Tryd.infoSeq
  refine wpList_append_own_at w hgd s x 29 ho base 75 i _ 1 24 Tryd.underlying29 hi hz0 hz1 hz2 rfl (by decide) (.slice (some ⟨gq, 0, none⟩) us.length cp) us.length us hs hO ⟨b, 0, none⟩ 1 1 [y] hx rfl ?_ ?_ ?_ ?_ hbase ?_
  · intro j u hu
    have hj : j = 0 := by have := (List.getElem?_eq_some_iff.1 hu).1; simpa using this
    subst hj
    simp at hu
    rw [Addr.add_mid, ← hu]; exact hc
  · intro u hu
    simp at hu; subst hu; exact hy
  · unfold maxLen; omega
  · omega
  · intro v' w' hO' hgr hnil hat
    rcases hO'.2 with ⟨h0, _⟩ | ⟨g', cap', cur, hv, _, _, hn, hcap, _, _⟩
    · have := (hnil.1 h0).1
      cases this
    · subst hv
      refine h g' cap' w' ?_ hgr ?_
      · unfold OwnQ
        rw [List.length_append]
        exact hO'
      · simp [Value.ownBlock] at hat
        exact hat
theorem SeqAt.slice {w : World} {R : Nat → Prop} {ts : List Pat} {u : Value} (h : SeqAt w R ts u) : ∃ a n cp, u = .slice a n cp := by
  obtain ⟨n, h | ⟨g, cp, us, h1, _⟩⟩ := h
  · exact ⟨_, _, _, h.2⟩
  · exact ⟨_, _, _, h1⟩

set_option maxHeartbeats 8000000 in
theorem alt_of {p : ByteArray} {m : Nat} (H : SeqC p m) (hp : p.size ≤ 200) : AltC p m := by
  intro base g i o w hm hi ho h
  have hgl := h.lt.2
  obtain ⟨W0, hW0⟩ : ∃ W0 : World, W0 = w.alloc (Obj.cells #[.slice none 0 0] 31) := ⟨_, rfl⟩
  have HW0 : Hid (PrAt W0 base g p i o ∧ BoxAt W0 w.heap.size 31 1 w.heap.size [.slice none 0 0] ∧ Chg (fun k => k = g) w W0 ∧ W0.heap.size = w.heap.size + 1) := by
    have hb : Below w.heap.size w W0 := by rw [hW0]; exact (Below.refl _ _).alloc (Nat.le_refl _) _
    refine ⟨BoxAt.below h hb, ?_, Chg.of_below hb, by rw [hW0]; simp⟩
    rw [hW0]; exact boxAt_new w _ (Nat.le_refl _) rfl
  clear h
  go_enter Tryd.func19, Tryd.ntmps19
  go_upto_region 1 with fail
  rw [← hW0]
  clear hW0
  go_wp2_with fail
  refine (H base g i o W0 hm hi ho HW0.out.1).mono ?_
  rintro e w1 ⟨hC1, (⟨k, ts, u, hS, hE, rfl, hU, hP1⟩ | ⟨c, k, hc0, hk, rfl⟩)⟩
  case inr => exact ⟨rfl, HW0.out.2.2.1.trans hC1, .inr ⟨c, k, hc0, hk, rfl⟩⟩
  obtain ⟨ua, un, uc, rfl⟩ := hU.slice
  have hkp : i ≤ k ∧ k ≤ p.size := by have h1 := hS.le; have h2 := hS.lei; rw [sb_len] at h1; exact ⟨h2, h1⟩
  obtain ⟨W2, hW2⟩ : ∃ W2 : World, W2 = w1.alloc (Obj.cells #[.slice ua un uc] 75) := ⟨_, rfl⟩
  have HJ0 : Hid (AltJ p base g i o w k [ts] [.slice ua un uc] w1.heap.size 1 W2) := by
    have hb : Below w1.heap.size w1 W2 := by rw [hW2]; exact (Below.refl _ _).alloc (Nat.le_refl _) _
    have hz := HW0.out.2.2.2
    have hs := hC1.size
    refine ⟨AltOk.one hS, hE, BoxAt.below hP1 hb, (HW0.out.2.1.chg hC1 (by omega)).below hb, ?_, rfl, ?_, (HW0.out.2.2.1.trans hC1).trans (Chg.of_below hb), hgl⟩
    · rw [hW2]
      exact World.ownsRow_lit w1 #[.slice ua un uc] 1 (by omega) (by decide) rfl
    · intro j x ss hx hss
      have hj : j = 0 := by have := (List.getElem?_eq_some_iff.1 hx).1; simpa using this
      subst hj
      simp at hx hss
      subst hx hss
      exact hU.move (S := fun _ => False) (Chg.of_below hb) (fun q hq => hq.elim) (fun q hq z => ⟨by have := z.1; omega, by omega⟩)
  clear hC1 hS hE hU hP1 HW0
  go_wp2_with fail
  rw [← hW2]
  obtain ⟨gq0, hgq0⟩ : ∃ gq0, gq0 = w1.heap.size := ⟨_, rfl⟩
  rw [← hgq0] at HJ0
  rw [← hgq0]
  clear hW2 hgq0
  go_loopw [3] (fun sv wr => ∃ (k gq cp : Nat) (os : List (List Pat)) (us : List Value), i ≤ k ∧ k ≤ p.size ∧ us.length ≤ k + 1 ∧ sv = .slice (some ⟨gq, 0, none⟩) us.length cp ∧ AltJ p base g i o w k os us gq cp wr) (fun _ wr => p.size - atOf wr g)
  case atStart => exact ⟨k, gq0, 1, [ts], [.slice ua un uc], hkp.1, hkp.2, by simp, rfl, HJ0.out⟩
  case round =>
    obtain ⟨k, gq, cp, os, us, hik, hkp, hul, rfl, hJ⟩ := hrel
    have HJ : Hid (AltJ p base g i o w k os us gq cp wr ∧ atOf wr g = k) := ⟨hJ, atOf_pr hJ.rd⟩
    clear hJ HJ0
    go_wp2_with fail
    refine (pskip_core 124 HJ.out.1.rd hp).mono ?_
    rintro e w3 ⟨hC3, (⟨hx, rfl, hP3⟩ | ⟨hx, rfl, hP3⟩)⟩
    · have hk1 : k + 1 ≤ p.size := by have := lt_of_at hx; rw [sb_len] at this; omega
      have HX : Hid ((sb p)[k]? = some 124 ∧ PrAt w3 base g p (k + 1) o ∧ BoxAt w3 w.heap.size 31 1 w.heap.size [.slice none 0 0] ∧ OwnQ w3 (w.heap.size + 1) gq cp us ∧ (∀ (i : Nat) x ts, us[i]? = some x → os[i]? = some ts → SeqAt w3 (fun j => w.heap.size + 1 ≤ j ∧ ¬ j = gq) ts x) ∧ Chg (fun k => k = g) w w3) := ⟨hx, hP3, HJ.out.1.read hC3 hP3⟩
      have HOk : Hid (AltOk (sb p) o i k os ∧ us.length = os.length ∧ atOf wr g = k) := ⟨HJ.out.1.ok, HJ.out.1.len, HJ.out.2⟩
      clear hC3 hx hP3 HJ
      go_wp2_with fail
      refine (H base g (k + 1) o w3 (by omega) hk1 ho HX.out.2.1).mono ?_
      rintro e w4 ⟨hC4, (⟨k4, ts4, u4, hS4, hE4, rfl, hU4, hP4⟩ | ⟨c, k4, hc0, hk4, rfl⟩)⟩
      case inr =>
        refine ⟨rfl, HX.out.2.2.2.2.2.trans hC4, .inr ⟨c, k4, hc0, ?_, rfl⟩⟩
        rw [HOk.out.1.chk, chk_bar HX.out.1, hk4]
      obtain ⟨ua4, un4, uc4, rfl⟩ := hU4.slice
      have hk4p : k + 1 ≤ k4 ∧ k4 ≤ p.size := by have h1 := hS4.le; have h2 := hS4.lei; rw [sb_len] at h1; exact ⟨h2, h1⟩
      obtain ⟨W5, hW5⟩ : ∃ W5 : World, W5 = w4.alloc (Obj.cells #[.slice ua4 un4 uc4] 75) := ⟨_, rfl⟩
      have HW5 : Hid (AltOk (sb p) o i k4 (os ++ [ts4]) ∧ (∀ c, (sb p)[k4]? = some c → isEnd c) ∧ PrAt W5 base g p k4 o ∧ BoxAt W5 w.heap.size 31 1 w.heap.size [.slice none 0 0] ∧ OwnQ W5 (w.heap.size + 1) gq cp us ∧ (∀ (i : Nat) x ts, (us ++ [.slice ua4 un4 uc4])[i]? = some x → (os ++ [ts4])[i]? = some ts → SeqAt W5 (fun j => w.heap.size + 1 ≤ j ∧ ¬ j = gq) ts x) ∧ Chg (fun k => k = g) w W5 ∧ W5.cell? ⟨w4.heap.size, 0, none⟩ = some (.slice ua4 un4 uc4) ∧ w.heap.size + 1 ≤ W5.heap.size) := by
        have hb : Below w4.heap.size w4 W5 := by rw [hW5]; exact (Below.refl _ _).alloc (Nat.le_refl _) _
        have hq := HX.out.2.2.2.1.lt
        have hs4 := hC4.size
        have hsb := hb.size
        have hc : Chg (fun k => k = g) w3 W5 := hC4.trans (Chg.of_below hb)
        refine ⟨AltOk.more HOk.out.1 HX.out.1 hS4, hE4, BoxAt.below hP4 hb, HX.out.2.2.1.chg hc (by omega), HX.out.2.2.2.1.chg hc (by omega), ?_, HX.out.2.2.2.2.2.trans hc, by rw [hW5]; simp, by omega⟩
        intro j y s hy hs
        rcases snoc_at hy with hy | ⟨hj, rfl⟩
        · rcases snoc_at hs with hs | ⟨hj, rfl⟩
          · exact (HX.out.2.2.2.2.1 j y s hy hs).move hc (fun q hq => by subst hq; exact fun z => by have := z.1; omega) (fun q _ z => z)
          · have := (List.getElem?_eq_some_iff.1 hy).1
            have := HOk.out.2.1
            omega
        · rcases snoc_at hs with hs | ⟨_, rfl⟩
          · have := (List.getElem?_eq_some_iff.1 hs).1
            have := HOk.out.2.1
            omega
          · exact hU4.move (S := fun _ => False) (Chg.of_below hb) (fun q hq => hq.elim) (fun q _ z => ⟨by have := z.1; omega, fun e => by have := z.1; omega⟩)
      clear hC4 hS4 hE4 hU4 hP4 HX
      go_wp2_with (at_builtin; rw [← hW5]; refine wpList_append_seq _ rfl _ _ rfl (w.heap.size + 1) gq cp us.length w4.heap.size us (.slice ua4 un4 uc4) rfl rfl rfl ?hO ?hc rfl ?hl ?hb ?_)
      case hO => exact HW5.out.2.2.2.2.1
      case hc => exact HW5.out.2.2.2.2.2.2.2.1
      case hl => omega
      case hb => exact HW5.out.2.2.2.2.2.2.2.2
      intro g6 cp6 w6 hO6 hgr6 hat6
      rw [← hW5] at hgr6
      have hz5 : W5.heap.size = w4.heap.size + 1 := by rw [hW5]; simp
      have HJ6 : Hid (AltJ p base g i o w k4 (os ++ [ts4]) (us ++ [.slice ua4 un4 uc4]) g6 cp6 w6) := by
        have hq := HW5.out.2.2.2.2.1.lt
        have hc : Chg (fun j => j = gq) W5 w6 := Chg.of_grown hgr6 (fun j hj => by cases hj; rfl)
        refine ⟨HW5.out.1, HW5.out.2.1, BoxAt.chg HW5.out.2.2.1 hc (by omega), HW5.out.2.2.2.1.chg hc (by omega), hO6, by rw [List.length_append, List.length_append, HOk.out.2.1]; rfl, ?_, HW5.out.2.2.2.2.2.2.1.absorb hc (fun j q => .inr (by omega)), hgl⟩
        intro j y s hy hs
        exact (HW5.out.2.2.2.2.2.1 j y s hy hs).move hc (fun q hq z => z.2 hq) (fun q hq z => ⟨z.1, fun e => by rcases hat6 with r | r; exact z.2 (by omega); omega⟩)
      clear hO6 hgr6 hat6 hW5 HW5
      go_wp2_with fail
      go_roundw
      case rel => exact ⟨k4, g6, cp6, os ++ [ts4], us ++ [.slice ua4 un4 uc4], by omega, hk4p.2, by rw [List.length_append]; simp; omega, by rw [List.length_append]; rfl, HJ6.out⟩
      case measure => rw [HOk.out.2.2, atOf_pr HJ6.out.rd]; omega
    · have HX : Hid (AltOk (sb p) o i k os ∧ (∀ c, (sb p)[k]? = some c → isEnd c ∧ ¬ c = 124) ∧ us.length = os.length) := ⟨HJ.out.1.ok, fun c hc => ⟨HJ.out.1.nxt c hc, fun q => by subst q; exact hx hc⟩, HJ.out.1.len⟩
      have HR := HJ.out.1.read hC3 hP3
      have HF : Hid (PrAt w3 base g p k o ∧ BoxAt w3 w.heap.size 31 1 w.heap.size [.slice none 0 0] ∧ OwnQ w3 (w.heap.size + 1) gq cp us ∧ (∀ (i : Nat) x ts, us[i]? = some x → os[i]? = some ts → SeqAt w3 (fun j => w.heap.size + 1 ≤ j ∧ ¬ j = gq) ts x) ∧ Chg (fun k => k = g) w w3) := ⟨hP3, HR⟩
      clear HR hC3 hx hP3 HJ
      have r0 := HF.out.2.1.cell (j := 0) rfl
      have rf := HF.out.2.1.frozen 0
      go_wp2_with fail
      refine bodyPost_ret (v := .agg #[.slice (some ⟨gq, 0, none⟩) us.length cp]) (by simp [results, Tryd.results19, go_sem, World.cell?_setCell_same _ _ _ r0]) rfl ?_
      have hc := Chg.of_set w3 w.heap.size 0 (.slice (some ⟨gq, 0, none⟩) us.length cp) (S := fun j => j = w.heap.size) rfl
      have hq := HF.out.2.2.1.lt
      refine ⟨HF.out.2.2.2.2.absorb hc (fun j q => .inr (by omega)), .inl ⟨k, os, _, HX.out.1, HX.out.2.1, rfl, ?_, BoxAt.chg HF.out.1 hc (by omega)⟩⟩
      obtain ⟨n, hn⟩ := seqs_one HX.out.2.2 (fun i x ts hx ht => (HF.out.2.2.2.1 i x ts hx ht).move (S := fun _ => False) (Chg.refl _ _) (fun _ q => q.elim) (lo' := fun j => w.heap.size + 1 ≤ j) (fun _ _ q => q.1))
      have hA : AltAt w3 (fun j => w.heap.size + 1 ≤ j) os (.slice (some ⟨gq, 0, none⟩) us.length cp) := ⟨n, gq, cp, us, by rw [HX.out.2.2], HX.out.2.2, HF.out.2.2.1.vals hq.1, hn⟩
      exact hA.move hc (fun j q => by subst q; exact fun z => by omega) (fun j hj z => ⟨by omega, by have := hc.size; omega⟩)

theorem alt_all {p : ByteArray} (hp : p.size ≤ 200) : ∀ m, AtomC p m ∧ AltC p m
  | 0 => by
    have h0 : AtomC p 0 := fun base g i o w hm hi => by omega
    exact ⟨h0, alt_of (seq_of (rep_of h0 hp) hp) hp⟩
  | m + 1 => by
    have h1 := atom_of (alt_all hp m).2 hp
    exact ⟨h1, alt_of (seq_of (rep_of h1 hp) hp) hp⟩
theorem alt_core {p : ByteArray} (hp : p.size ≤ 200) (base g i o : Nat) (w : World) (hi : i ≤ p.size) (ho : o ≤ 20) (h : PrAt w base g p i o) : Calls Tryd.prog 19 #[.pointer (some ⟨g, 0, none⟩)] w (AltPost p base g i o w) :=
  (alt_all hp (p.size - i)).2 base g i o w (Nat.le_refl _) hi ho h
end Go.Proofs.YtbjbdidcnkamaaaDoor

