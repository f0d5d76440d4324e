import Derived.Maps.AppendAt
import Derived.Lib.ConvBytes
import Derived.Test.YtkidabedcgngcaaGreatDoorPkAP
import Derived.Test.YtkidabedcgngcaaGreatDoorPkAL
import Derived.Test.YtkidabedcgngcaaGreatDoorPkAN
import Derived.Test.YtkidabedcgngcaaGreatDoorPkAD
import Derived.Test.YtkidabedcgngcaaGreatDoorPkAA
import Derived.Test.YtkidabedcgngcaaGreatDoorPkAE
/-
  The sets of positions that a string leads through.
-/
namespace Go.Proofs.YtkidabedcgngcaaGreatDoor
set_option linter.unusedVariables false
set_option linter.unusedSimpArgs false

/-- The set behind one byte more. -/
def stp (E T : Nat → PS) (S : PS) (c : UInt8) : PS := sAnd (ahd E S) (T c.toNat)
def runS (E T : Nat → PS) : PS → List UInt8 → PS
  | S, [] => S
  | S, c :: xs => runS E T (stp E T S c) xs
theorem runS_snoc (E T : Nat → PS) : ∀ (S : PS) (xs : List UInt8) (c : UInt8), runS E T S (xs ++ [c]) = stp E T (runS E T S xs) c
  | S, [], c => rfl
  | S, x :: xs, c => runS_snoc E T (stp E T S x) xs c
theorem ahd_iff (E : Nat → PS) (S : PS) (q : Nat) : ahd E S q = true ↔ ∃ p, p < 256 ∧ S p = true ∧ E p q = true := by
  unfold ahd ahdT
  rw [List.any_eq_true]
  constructor
  · rintro ⟨p, hp, hx⟩
    rw [Bool.and_eq_true] at hx
    exact ⟨p, List.mem_range.1 hp, hx.1, hx.2⟩
  · rintro ⟨p, hp, h1, h2⟩
    exact ⟨p, List.mem_range.2 hp, by rw [h1, h2]; rfl⟩
theorem stp_iff (l : Lay) (S : PS) (c : UInt8) (q : Nat) : stp (mkE l) (mkT l) S c q = true ↔ (∃ p, p < 256 ∧ S p = true ∧ mkE l p q = true) ∧ l.tk q c = true := by
  unfold stp sAnd
  rw [Bool.and_eq_true, ahd_iff]
  have : mkT l c.toNat q = l.tk q c := by unfold mkT; congr 1; simp
  rw [this]
theorem run_from (l : Lay) {a : Nat} (hs : Spt a l) (ha : 1 ≤ a) (hn : l.nx ≤ 256) : ∀ (xs : List UInt8) (S : PS), (∀ p, S p = true → 1 ≤ p ∧ p < 256) → ∀ q, runS (mkE l) (mkT l) S xs q = true ↔ ∃ p, S p = true ∧ Pth l p xs q
  | [], S, hS, q => by
    constructor
    · exact fun h => ⟨q, h, .nil q⟩
    · rintro ⟨p, hp, h⟩; cases h; exact hp
  | c :: xs, S, hS, q => by
    have hS' : ∀ p, stp (mkE l) (mkT l) S c p = true → 1 ≤ p ∧ p < 256 := fun p hp => by
      have := hs.tk p c ((stp_iff l S c p).1 hp).2
      omega
    show runS (mkE l) (mkT l) (stp (mkE l) (mkT l) S c) xs q = true ↔ _
    rw [run_from l hs ha hn xs _ hS' q]
    constructor
    · rintro ⟨p', hp', hP⟩
      obtain ⟨⟨p, _, hp, he⟩, ht⟩ := (stp_iff l S c p').1 hp'
      have h1 := (hS p hp).1
      have he' : l.ed p p' = true := by
        unfold mkE at he
        have : (p == 0) = false := by rw [beq_eq_false_iff_ne]; omega
        simpa [this] using he
      exact ⟨p, hp, .step he' ht hP⟩
    · rintro ⟨p, hp, hP⟩
      cases hP with
      | step he ht hP =>
        refine ⟨_, (stp_iff l S c _).2 ⟨⟨p, (hS p hp).2, hp, ?_⟩, ht⟩, hP⟩
        unfold mkE
        rw [he]; rfl
theorem run_all (l : Lay) (hs : Spt 1 l) (hn : l.nx ≤ 256) (em : Bool) (xs : List UInt8) : acc (mkN l em) (runS (mkE l) (mkT l) (sOne 0) xs) = true ↔ (xs = [] ∧ em = true) ∨ Wd l xs := by
  have hacc : ∀ S : PS, acc (mkN l em) S = true ↔ ∃ p, p < 256 ∧ S p = true ∧ mkN l em p = true := fun S => by
    unfold acc
    rw [List.any_eq_true]
    constructor
    · rintro ⟨p, hp, hx⟩
      rw [Bool.and_eq_true] at hx
      exact ⟨p, List.mem_range.1 hp, hx.1, hx.2⟩
    · rintro ⟨p, hp, h1, h2⟩
      exact ⟨p, List.mem_range.2 hp, by rw [h1, h2]; rfl⟩
  rw [hacc]
  cases xs with
  | nil =>
    constructor
    · rintro ⟨p, _, hp, hN⟩
      have h0 : p = 0 := by simpa [runS, sOne] using hp
      subst h0
      unfold mkN at hN
      have hl : l.lst 0 = false := by
        cases hx : l.lst 0 with
        | false => rfl
        | true => have := (hs.lst 0 hx).1; omega
      rw [hl] at hN
      exact .inl ⟨rfl, by simpa using hN⟩
    · rintro (⟨_, h⟩ | h)
      · exact ⟨0, by omega, rfl, by simp [mkN, h]⟩
      · exact (wd_ne h).elim
  | cons c xs =>
    have hS' : ∀ p, stp (mkE l) (mkT l) (sOne 0) c p = true → 1 ≤ p ∧ p < 256 := fun p hp => by
      have := hs.tk p c ((stp_iff l _ c p).1 hp).2
      omega
    have hst : ∀ p, stp (mkE l) (mkT l) (sOne 0) c p = true ↔ l.fst p = true ∧ l.tk p c = true := fun p => by
      rw [stp_iff]
      constructor
      · rintro ⟨⟨p0, _, h0, he⟩, ht⟩
        have : p0 = 0 := by simpa [sOne] using h0
        subst this
        refine ⟨?_, ht⟩
        have hl : l.ed 0 p = false := by
          cases hx : l.ed 0 p with
          | false => rfl
          | true => have := (hs.ed 0 p hx).1.1; omega
        simpa [mkE, hl] using he
      · rintro ⟨h1, h2⟩
        exact ⟨⟨0, by omega, rfl, by simp [mkE, h1]⟩, h2⟩
    constructor
    · rintro ⟨q, _, hq, hN⟩
      obtain ⟨p, hp, hP⟩ := (run_from l hs (Nat.le_refl _) hn xs _ hS' q).1 hq
      obtain ⟨h1, h2⟩ := (hst p).1 hp
      have hq1 := (Pth.in hs hP (hs.fst p h1)).1
      have hl : l.lst q = true := by
        unfold mkN at hN
        have : (q == 0) = false := by rw [beq_eq_false_iff_ne]; omega
        simpa [this] using hN
      exact .inr ⟨c, xs, p, q, rfl, h1, h2, hP, hl⟩
    · rintro (⟨h, _⟩ | ⟨c', xs', p, q, he, h1, h2, h3, h4⟩)
      · cases h
      · cases he
        refine ⟨q, by have := (hs.lst q h4).2; omega, ?_, by simp [mkN, h4]⟩
        exact (run_from l hs (Nat.le_refl _) hn xs _ hS' q).2 ⟨p, (hst p).2 ⟨h1, h2⟩, h3⟩
/-- The matcher accepts just the words of the pattern. -/
theorem run_words (os : List (List Pat)) (hn : (lyA os (Lay.no 1)).nx ≤ 256) (xs : List UInt8) : acc (mkN (lyA os (Lay.no 1)) (nulA os)) (runS (mkE (lyA os (Lay.no 1))) (mkT (lyA os (Lay.no 1))) (sOne 0) xs) = true ↔ LgA os xs := by
  have hc := cor_P (.alt os) 1
  have e1 : lyP (.alt os) 1 = lyA os (Lay.no 1) := by simp only [lyP]
  have e2 : nulB (.alt os) = nulA os := by simp only [nulB]
  rw [e1, e2] at hc
  rw [run_all _ hc.spt hn, ← hc.wd]
  simp only [Lg]
theorem runS_dead (E T : Nat → PS) : ∀ (xs : List UInt8) (S : PS), (∀ p, p < 256 → S p = false) → ∀ p, p < 256 → runS E T S xs p = false
  | [], S, h, p, hp => h p hp
  | c :: xs, S, h, p, hp => by
    refine runS_dead E T xs (stp E T S c) (fun q hq => ?_) p hp
    cases hx : stp E T S c q with
    | false => rfl
    | true =>
      unfold stp sAnd at hx
      rw [Bool.and_eq_true, ahd_iff] at hx
      obtain ⟨⟨r, hr, h1, _⟩, _⟩ := hx
      rw [h r hr] at h1
      cases h1
end Go.Proofs.YtkidabedcgngcaaGreatDoor

/-
  matches.
-/
namespace Go.Proofs.YtkidabedcgngcaaGreatDoor
open Go.ChangeShapes Go.WideShapes Go.ChangeAt Go.RowKit Go.Deep
set_option linter.unusedVariables false
set_option linter.unusedSimpArgs false
set_option maxRecDepth 100000

theorem state_core {base M : Nat} {T : Nat → PS} {G cp a : Nat} {E : Nat → PS} {en : PS} {mp n : Nat} (S : PS) (w : World) (h : MtrI w base M T G cp a E en mp) (hm : StI w mp n E en) (hS : ∀ p, S p = true → p < a) (ha : a ≤ 256) (hn : n < 900) (hbm : base ≤ mp) : Calls Tryz.prog 138 #[.pointer (some ⟨M, 0, none⟩), psV S] w (StP base M T G cp a E en mp n S w) := by
  obtain ⟨D, hD⟩ := hm
  cases hh : Maps.has D (psK S) with
  | true => exact state_known S w h hD hh
  | false => exact state_new S w h hD hh hS ha hn hbm
theorem runS_app (E T : Nat → PS) : ∀ (S : PS) (xs ys : List UInt8), runS E T S (xs ++ ys) = runS E T (runS E T S xs) ys
  | S, [], ys => rfl
  | S, x :: xs, ys => runS_app E T (stp E T S x) xs ys
/-- The matcher behind some bytes: the set is S. -/
structure MaI (w : World) (base M : Nat) (T : Nat → PS) (G cp a : Nat) (E : Nat → PS) (en : PS) (mp n b5 : Nat) (S : PS) (X : World) : Prop where
  mtr : MtrI X base M T G cp a E en mp
  map : StI X mp n E en
  box : BoxAt X w.heap.size 188 5 b5 (stL (ahd E S) (acc en S))
  chg : Chg (fun k => k = mp) w X
theorem MaI.below {w X X' : World} {base M : Nat} {T : Nat → PS} {G cp a : Nat} {E : Nat → PS} {en : PS} {mp n b5 : Nat} {S : PS} (h : MaI w base M T G cp a E en mp n b5 S X) (hb : Below X.heap.size X X') : MaI w base M T G cp a E en mp n b5 S X' :=
  ⟨h.mtr.below hb, h.map.chg (S := fun _ => False) (Chg.of_below hb) (fun q => q), h.box.below hb, h.chg.trans (Chg.of_below hb)⟩
theorem MaI.ne {w X : World} {base M : Nat} {T : Nat → PS} {G cp a : Nat} {E : Nat → PS} {en : PS} {mp n b5 : Nat} {S : PS} (h : MaI w base M T G cp a E en mp n b5 S X) : ¬ M = b5 ∧ ¬ G = b5 ∧ ¬ mp = b5 ∧ ¬ M = mp ∧ ¬ G = mp := by
  obtain ⟨D, hD⟩ := h.map
  exact ⟨fun q => own_apart h.mtr.box h.box (by decide) M rfl (by rw [q]; rfl), fun q => own_apart h.mtr.row h.box (by decide) G rfl (by rw [q]; rfl), StD.ne hD h.box, fun q => StD.ne hD h.mtr.box q.symm, fun q => StD.ne hD h.mtr.row q.symm⟩
def MaP2 (E T : Nat → PS) (en : PS) (s : ByteArray) (w : World) (mp : Nat) (e : Ending) (w' : World) : Prop := ∃ b : Bool, e = .returned (.bool b) ∧ Hid ((b = true ↔ acc en (runS E T (sOne 0) (sb s)) = true) ∧ Chg (fun k => k = mp) w w')
set_option maxHeartbeats 8000000 in
theorem matches_core {base M : Nat} {T : Nat → PS} {G cp a : Nat} {E : Nat → PS} {en : PS} {mp : Nat} (s : ByteArray) (hs : s.size ≤ 200) (w : World) (h : MtrI w base M T G cp a E en mp) (hm : StI w mp 0 E en) (hT : ∀ b p, T b p = true → p < a) (ha0 : 0 < a) (ha : a ≤ 256) (hbm : base ≤ mp) : Calls Tryz.prog 106 #[.pointer (some ⟨M, 0, none⟩), .string s] w (MaP2 E T en s w mp) := by
  have HI : Hid (MtrI w base M T G cp a E en mp ∧ StI w mp 0 E en ∧ base ≤ w.heap.size) := ⟨h, hm, by have := h.ltM; omega⟩
  have HT : Hid (∀ b p, T b p = true → p < a) := hT
  have HWi : Hid (∀ wx : World, Calls Tryz.prog 137 #[.agg #[.int .u64 0, .int .u64 0, .int .u64 0, .int .u64 0], .int .i64 0] wx fun e w' => e = .returned (psV (sOne 0)) ∧ Below wx.heap.size wx w') := fun wx => by
    have := with_core sNo 0 (by omega) wx
    rw [show sOr sNo (sOne 0) = sOne 0 by funext p; simp [sOr, sNo], psV_no] at this
    exact this
  have zs : ¬ (200 : Int) < (s.size : Int) := by omega
  have hone : ∀ p, sOne 0 p = true → p < a := fun p hp => by
    have h0 : p = 0 := by simpa [sOne] using hp
    omega
  clear h hm hT
  go_enter Tryz.func106, Tryz.ntmps106
  go_wp2_with fail
  refine (HWi.out _).mono ?_
  rintro e w1 ⟨rfl, hb1⟩
  have HSt : Hid (Calls Tryz.prog 138 #[.pointer (some ⟨M, 0, none⟩), psV (sOne 0)] w1 (StP base M T G cp a E en mp 0 (sOne 0) w1)) := state_core (sOne 0) w1 (HI.out.1.below hb1) (HI.out.2.1.chg (S := fun _ => False) (Chg.of_below hb1) (fun q => q)) hone ha (by omega) hbm
  go_wp2_with fail
  refine HSt.out.mono ?_
  rintro e w2 ⟨rfl, H2⟩
  obtain ⟨W3, hW3⟩ : ∃ W3 : World, W3 = w2.alloc (.cells (stL (ahd E (sOne 0)) (acc en (sOne 0))).toArray 188) := ⟨_, rfl⟩
  have k3 : Below w2.heap.size w2 W3 := by rw [hW3]; exact (Below.refl _ _).alloc (Nat.le_refl _) _
  have hsz : w.heap.size ≤ w2.heap.size := Nat.le_trans hb1.size H2.out.2.2.size
  have hx2 : Chg (fun k => k = mp) w w2 := (Chg.of_below hb1).trans H2.out.2.2
  obtain ⟨b5, hb5⟩ : ∃ b5, b5 = w2.heap.size := ⟨_, rfl⟩
  have HW3 : Hid (MaI w base M T G cp a E en mp 1 b5 (sOne 0) W3 ∧ w.heap.size ≤ b5) := by
    have b3 := boxAt_new w2 (base := w.heap.size) (t := 188) (sz := 5) (stL (ahd E (sOne 0)) (acc en (sOne 0))).toArray hsz rfl
    exact ⟨⟨H2.out.1.below k3, H2.out.2.1.chg (S := fun _ => False) (Chg.of_below k3) (fun q => q), by rw [hW3, hb5]; exact b3, hx2.trans (Chg.of_below k3)⟩, by omega⟩
  go_upto_region 4 with fail
  have hW3' := hW3
  simp only [stL] at hW3'
  rw [← hW3', ← hb5]
  clear hW3 hW3' k3 hsz hx2 hb5 H2 HSt hb1
  go_wp2_with fail
  go_loopw [6] (fun iv wr => ∃ k : Nat, k ≤ s.size ∧ iv = .int .i64 k ∧ Hid (MaI w base M T G cp a E en mp (k + 1) b5 (runS E T (sOne 0) ((sb s).take k)) wr)) (fun iv _ => s.size - (intOf iv).toNat)
  case atStart => exact ⟨0, Nat.zero_le _, rfl, HW3.out.1⟩
  case round =>
    obtain ⟨k, hk, rfl, HJ⟩ := hrel
    by_cases hlt : k < s.size
    · have zk : (k : Int) < (s.size : Int) := by omega
      obtain ⟨x, hx⟩ : ∃ x, (sb s)[k]? = some x := ⟨_, List.getElem?_eq_getElem (by rw [sb_len]; exact hlt)⟩
      obtain ⟨_, gx⟩ := sb_get hx
      obtain ⟨Sk, hSk⟩ : ∃ Sk, Sk = runS E T (sOne 0) ((sb s).take k) := ⟨_, rfl⟩
      have hxl : x.toNat < 256 := x.toNat_lt
      rw [← hSk] at HJ
      have HN : Hid (runS E T (sOne 0) ((sb s).take (k + 1)) = stp E T Sk x ∧ True ∧ runS E T (sOne 0) (sb s) = runS E T (stp E T Sk x) ((sb s).drop (k + 1))) := by
        have h1 : (sb s).take (k + 1) = (sb s).take k ++ [x] := by rw [List.take_add_one, hx]; rfl
        have h2 : runS E T (sOne 0) ((sb s).take (k + 1)) = stp E T Sk x := by rw [h1, runS_snoc, ← hSk]
        refine ⟨h2, trivial, ?_⟩
        rw [← h2, ← runS_app, List.take_append_drop]
      have HSk : Hid (∀ X, MaI w base M T G cp a E en mp (k + 1) b5 Sk X → (X.cell? ⟨b5, 0, none⟩ = some (.int .u64 (wdN (ahd E Sk) 0 : Int)) ∧ X.cell? ⟨b5, 1, none⟩ = some (.int .u64 (wdN (ahd E Sk) 1 : Int)) ∧ X.cell? ⟨b5, 2, none⟩ = some (.int .u64 (wdN (ahd E Sk) 2 : Int)) ∧ X.cell? ⟨b5, 3, none⟩ = some (.int .u64 (wdN (ahd E Sk) 3 : Int)) ∧ X.cell? ⟨M, x.toNat * 4, none⟩ = some (.int .u64 (wdN (T x.toNat) 0 : Int)) ∧ X.cell? ⟨M, x.toNat * 4 + 1, none⟩ = some (.int .u64 (wdN (T x.toNat) 1 : Int)) ∧ X.cell? ⟨M, x.toNat * 4 + 2, none⟩ = some (.int .u64 (wdN (T x.toNat) 2 : Int)) ∧ X.cell? ⟨M, x.toNat * 4 + 3, none⟩ = some (.int .u64 (wdN (T x.toNat) 3 : Int)))) := fun X h => by
        obtain ⟨g0, g1, g2, g3, _⟩ := h.mtr.taken4 hxl
        exact ⟨h.box.cell (j := 0) rfl, h.box.cell (j := 1) rfl, h.box.cell (j := 2) rfl, h.box.cell (j := 3) rfl, g0, g1, g2, g3⟩
      have HCm : Hid (∀ wx : World, Calls Tryz.prog 139 #[psV (ahd E Sk), psV (T x.toNat)] wx fun e w' => e = .returned (psV (stp E T Sk x)) ∧ Below wx.heap.size wx w') := fun wx => by
        have := common_core (ahd E Sk) (T x.toNat) wx
        unfold stp
        exact this
      have zx : (x.toNat : Int) < 256 := by omega
      have HX : Hid ((sb s)[k]? = some x) := hx
      clear hx hSk
      go_upto_region 7 with fail
      refine wp_region_T 99 (fun wz => wz.cell? ⟨b5, 0, none⟩ = some (.int .u64 (wdN (ahd E Sk) 0 : Int)) ∧ wz.cell? ⟨b5, 1, none⟩ = some (.int .u64 (wdN (ahd E Sk) 1 : Int)) ∧ wz.cell? ⟨b5, 2, none⟩ = some (.int .u64 (wdN (ahd E Sk) 2 : Int)) ∧ wz.cell? ⟨b5, 3, none⟩ = some (.int .u64 (wdN (ahd E Sk) 3 : Int)) ∧ wz.cell? ⟨M, x.toNat * 4, none⟩ = some (.int .u64 (wdN (T x.toNat) 0 : Int)) ∧ wz.cell? ⟨M, x.toNat * 4 + 1, none⟩ = some (.int .u64 (wdN (T x.toNat) 1 : Int)) ∧ wz.cell? ⟨M, x.toNat * 4 + 2, none⟩ = some (.int .u64 (wdN (T x.toNat) 2 : Int)) ∧ wz.cell? ⟨M, x.toNat * 4 + 3, none⟩ = some (.int .u64 (wdN (T x.toNat) 3 : Int))) (by kernel_rfl) ?_
      refine anyT_takeN (i := 0) (v := ?vh0) rfl (by kernel_rfl) (by kernel_rfl) (by kernel_rfl) (by rfl) (fun _ _ _ h => h) (Or.inl ⟨by rfl, ?yh0⟩) (HSk.out _ (HJ.out.below ((Below.refl _ _).drew))) ?_
      case yh0 => (intro wz hSw; obtain ⟨d0, d1, d2, d3, d4, d5, d6, d7⟩ := hSw; go_simp; (try with_reducible rfl))
      try simp only [Act.put, List.getElem_toArray, List.getElem_cons_zero, List.getElem_cons_succ, List.setIfInBounds_toArray, List.set_cons_zero, List.set_cons_succ]
      refine anyT_takeN (i := 1) (v := ?vh1) rfl (by kernel_rfl) (by kernel_rfl) (by kernel_rfl) (by rfl) (fun _ _ _ h => h) (Or.inl ⟨by rfl, ?yh1⟩) (HSk.out _ (HJ.out.below ((Below.refl _ _).drew))) ?_
      case yh1 => (intro wz hSw; obtain ⟨d0, d1, d2, d3, d4, d5, d6, d7⟩ := hSw; go_simp; (try with_reducible rfl))
      try simp only [Act.put, List.getElem_toArray, List.getElem_cons_zero, List.getElem_cons_succ, List.setIfInBounds_toArray, List.set_cons_zero, List.set_cons_succ]
      refine anyT_takeN (i := 2) (v := ?vh2) rfl (by kernel_rfl) (by kernel_rfl) (by kernel_rfl) (by rfl) (fun _ _ _ h => h) (Or.inl ⟨by rfl, ?yh2⟩) (HSk.out _ (HJ.out.below ((Below.refl _ _).drew))) ?_
      case yh2 => (intro wz hSw; obtain ⟨d0, d1, d2, d3, d4, d5, d6, d7⟩ := hSw; go_simp; (try with_reducible rfl))
      try simp only [Act.put, List.getElem_toArray, List.getElem_cons_zero, List.getElem_cons_succ, List.setIfInBounds_toArray, List.set_cons_zero, List.set_cons_succ]
      refine anyT_takeN (i := 3) (v := ?vh3) rfl (by kernel_rfl) (by kernel_rfl) (by kernel_rfl) (by rfl) (fun _ _ _ h => h) (Or.inl ⟨by rfl, ?yh3⟩) (HSk.out _ (HJ.out.below ((Below.refl _ _).drew))) ?_
      case yh3 => (intro wz hSw; obtain ⟨d0, d1, d2, d3, d4, d5, d6, d7⟩ := hSw; go_simp; (try with_reducible rfl))
      try simp only [Act.put, List.getElem_toArray, List.getElem_cons_zero, List.getElem_cons_succ, List.setIfInBounds_toArray, List.set_cons_zero, List.set_cons_succ]
      refine anyT_takeN (i := 4) (v := ?vh4) rfl (by kernel_rfl) (by kernel_rfl) (by kernel_rfl) (by rfl) (fun _ _ _ h => h) (Or.inl ⟨by rfl, ?yh4⟩) (HSk.out _ (HJ.out.below ((Below.refl _ _).drew))) ?_
      case yh4 => (intro wz hSw; obtain ⟨d0, d1, d2, d3, d4, d5, d6, d7⟩ := hSw; go_simp; (try with_reducible rfl))
      try simp only [Act.put, List.getElem_toArray, List.getElem_cons_zero, List.getElem_cons_succ, List.setIfInBounds_toArray, List.set_cons_zero, List.set_cons_succ]
      refine anyT_takeN (i := 5) (v := ?vh5) rfl (by kernel_rfl) (by kernel_rfl) (by kernel_rfl) (by rfl) (fun _ _ _ h => h) (Or.inl ⟨by rfl, ?yh5⟩) (HSk.out _ (HJ.out.below ((Below.refl _ _).drew))) ?_
      case yh5 => (intro wz hSw; obtain ⟨d0, d1, d2, d3, d4, d5, d6, d7⟩ := hSw; go_simp; (try with_reducible rfl))
      try simp only [Act.put, List.getElem_toArray, List.getElem_cons_zero, List.getElem_cons_succ, List.setIfInBounds_toArray, List.set_cons_zero, List.set_cons_succ]
      refine anyT_takeN (i := 6) (v := ?vh6) rfl (by kernel_rfl) (by kernel_rfl) (by kernel_rfl) (by rfl) (fun _ _ _ h => h) (Or.inl ⟨by rfl, ?yh6⟩) (HSk.out _ (HJ.out.below ((Below.refl _ _).drew))) ?_
      case yh6 => (intro wz hSw; obtain ⟨d0, d1, d2, d3, d4, d5, d6, d7⟩ := hSw; go_simp; (try with_reducible rfl))
      try simp only [Act.put, List.getElem_toArray, List.getElem_cons_zero, List.getElem_cons_succ, List.setIfInBounds_toArray, List.set_cons_zero, List.set_cons_succ]
      refine anyT_takeN (i := 7) (v := ?vh7) rfl (by kernel_rfl) (by kernel_rfl) (by kernel_rfl) (by rfl) (fun _ _ _ h => h) (Or.inl ⟨by rfl, ?yh7⟩) (HSk.out _ (HJ.out.below ((Below.refl _ _).drew))) ?_
      case yh7 => (intro wz hSw; obtain ⟨d0, d1, d2, d3, d4, d5, d6, d7⟩ := hSw; go_simp; (try with_reducible rfl))
      try simp only [Act.put, List.getElem_toArray, List.getElem_cons_zero, List.getElem_cons_succ, List.setIfInBounds_toArray, List.set_cons_zero, List.set_cons_succ]
      refine anyT_takeN (i := 8) (v := ?vh8) rfl (by kernel_rfl) (by kernel_rfl) (by kernel_rfl) (by rfl) (fun _ _ _ h => h) (Or.inl ⟨by rfl, ?yh8⟩) (HSk.out _ (HJ.out.below ((Below.refl _ _).drew))) ?_
      case yh8 => (intro wz hSw; obtain ⟨d0, d1, d2, d3, d4, d5, d6, d7⟩ := hSw; go_simp; (try with_reducible rfl))
      try simp only [Act.put, List.getElem_toArray, List.getElem_cons_zero, List.getElem_cons_succ, List.setIfInBounds_toArray, List.set_cons_zero, List.set_cons_succ]
      refine anyT_takeN (i := 9) (v := ?vh9) rfl (by kernel_rfl) (by kernel_rfl) (by kernel_rfl) (by rfl) (fun _ _ _ h => h) (Or.inl ⟨by rfl, ?yh9⟩) (HSk.out _ (HJ.out.below ((Below.refl _ _).drew))) ?_
      case yh9 => (intro wz hSw; obtain ⟨d0, d1, d2, d3, d4, d5, d6, d7⟩ := hSw; go_simp; (try with_reducible rfl))
      try simp only [Act.put, List.getElem_toArray, List.getElem_cons_zero, List.getElem_cons_succ, List.setIfInBounds_toArray, List.set_cons_zero, List.set_cons_succ]
      refine anyT_two (i := 10) (j := 11) (by kernel_rfl) rfl rfl (fun K hK => ?_) (fun K hK => ?_)
      · go_simp
        refine (HCm.out _).mono ?_
        rintro r v3 ⟨rfl, hb3⟩
        have HV : Hid (MaI w base M T G cp a E en mp (k + 1) b5 Sk v3) := HJ.out.below (((Below.refl wr.heap.size wr).drew).trans hb3)
        refine hK.out _ _ (.inr (HSk.out _ HV.out)) ?_
        clear hK hb3
        try simp only [Act.put, List.getElem_toArray, List.getElem_cons_zero, List.getElem_cons_succ, List.setIfInBounds_toArray, List.set_cons_zero, List.set_cons_succ]
        refine anyT_one (i := 11) (by kernel_rfl) rfl (fun K hK => ?_)
        go_simp
        refine hK.out _ _ (.inr (HSk.out _ (HV.out.below (by repeat (first | exact Below.refl _ _ | refine Below.drew ?_ | refine Below.alloc ?_ (Nat.le_refl _) _ | refine below_set ?_ (Nat.le_refl _) _ _))))) ?_
        clear hK
        try simp only [Act.put, List.getElem_toArray, List.getElem_cons_zero, List.getElem_cons_succ, List.setIfInBounds_toArray, List.set_cons_zero, List.set_cons_succ]
        refine anyT_one (i := 12) (by kernel_rfl) rfl (fun K hK => ?_)
        go_simp
        refine hK.out _ _ (.inr (HSk.out _ (HV.out.below (by repeat (first | exact Below.refl _ _ | refine Below.drew ?_ | refine Below.alloc ?_ (Nat.le_refl _) _ | refine below_set ?_ (Nat.le_refl _) _ _))))) ?_
        clear hK
        try simp only [Act.put, List.getElem_toArray, List.getElem_cons_zero, List.getElem_cons_succ, List.setIfInBounds_toArray, List.set_cons_zero, List.set_cons_succ]
        refine anyT_done (by kernel_rfl) ?_
        obtain ⟨W4, hW4⟩ : ∃ W4 : World, W4 = v3.alloc (.cells (psL (stp E T Sk x)).toArray 178) := ⟨_, rfl⟩
        have k4 : Below v3.heap.size v3 W4 := by rw [hW4]; exact (Below.refl _ _).alloc (Nat.le_refl _) _
        have HW4 : Hid (MaI w base M T G cp a E en mp (k + 1) b5 Sk W4 ∧ BoxAt W4 w.heap.size 178 4 v3.heap.size (psL (stp E T Sk x))) := by
          have b4 := boxAt_new v3 (base := w.heap.size) (t := 178) (sz := 4) (psL (stp E T Sk x)).toArray HV.out.chg.size rfl
          exact ⟨HV.out.below k4, by rw [hW4]; exact b4⟩
        have hW4' := hW4
        simp only [psL] at hW4'
        rw [← hW4']
        clear hW4 hW4' k4
        have heq := ps_equal (stp E T Sk x)
        have q0 := HW4.out.2.cell (j := 0) rfl
        have q1 := HW4.out.2.cell (j := 1) rfl
        have q2 := HW4.out.2.cell (j := 2) rfl
        have q3 := HW4.out.2.cell (j := 3) rfl
        cases hne : noE (stp E T Sk x) with
        | true =>
          rw [hne] at heq
          have HFn : Hid ((false = true ↔ acc en (runS E T (sOne 0) (sb s)) = true)) := by
            refine ⟨fun q => (by cases q), fun q => ?_⟩
            rw [HN.out.2.2] at q
            have hd : ∀ p, p < 256 → (stp E T Sk x) p = false := fun p hp => by
              cases hx : (stp E T Sk x) p with
              | false => rfl
              | true => have := (noE_iff (stp E T Sk x)).2 ⟨p, hp, hx⟩; rw [hne] at this; cases this
            unfold acc at q
            rw [List.any_eq_true] at q
            obtain ⟨p, hp, hx⟩ := q
            rw [runS_dead E T _ _ hd p (List.mem_range.1 hp)] at hx
            cases hx
          clear hne
          go_wp2_with fail
          go_ret
          exact ⟨false, rfl, HFn.out, HW4.out.1.chg⟩
        | false =>
          rw [hne] at heq
          clear hne
          have HSt : Hid (Calls Tryz.prog 138 #[.pointer (some ⟨M, 0, none⟩), psV (stp E T Sk x)] W4 (StP base M T G cp a E en mp (k + 1) (stp E T Sk x) W4)) := state_core (stp E T Sk x) W4 HW4.out.1.mtr HW4.out.1.map (fun p hp => by
            unfold stp sAnd at hp
            rw [Bool.and_eq_true] at hp
            exact HT.out _ _ hp.2) ha (by omega) hbm
          go_wp2_with fail
          refine HSt.out.mono ?_
          rintro e w5 ⟨rfl, H5⟩
          have hne5 := HW4.out.1.ne
          have HB5 := HW4.out.1.box.chg H5.out.2.2 (fun q => hne5.2.2.1 q.symm)
          have r0 := HB5.cell (j := 0) rfl
          have f0 := HB5.frozen 0
          have r1 := HB5.cell (j := 1) rfl
          have f1 := HB5.frozen 1
          have r2 := HB5.cell (j := 2) rfl
          have f2 := HB5.frozen 2
          have r3 := HB5.cell (j := 3) rfl
          have f3 := HB5.frozen 3
          have r4 := HB5.cell (j := 4) rfl
          have f4 := HB5.frozen 4
          have HJ2 : Hid (MaI w base M T G cp a E en mp (k + 1 + 1) b5 (runS E T (sOne 0) ((sb s).take (k + 1))) (set5 w5 b5 (ahd E (stp E T Sk x)) (acc en (stp E T Sk x)))) := by
            have hc : Chg (fun j => j = b5) w5 (set5 w5 b5 (ahd E (stp E T Sk x)) (acc en (stp E T Sk x))) := chg_set5 _ _ _ _ rfl
            have hbl := HW3.out.2
            have hbs := HI.out.2.2
            rw [HN.out.1]
            exact ⟨H5.out.1.chg hc hne5.1 hne5.2.1 (fun j q => by omega), H5.out.2.1.chg hc hne5.2.2.1, HB5.set5 _ _, chg_ownS (HW4.out.1.chg.trans H5.out.2.2) (hc.mono (fun j q => by omega))⟩
          simp only [set5] at HJ2
          clear HB5
          go_wp2_with fail
          refine ⟨⟨k + 1, by omega, by go_num, HJ2⟩, ?_⟩
          go_light
          simp [intOf]; omega
      · go_simp
        refine hK.out _ _ (.inr (HSk.out _ (HJ.out.below (by repeat (first | exact Below.refl _ _ | refine Below.drew ?_ | refine Below.alloc ?_ (Nat.le_refl _) _ | refine below_set ?_ (Nat.le_refl _) _ _))))) ?_
        clear hK
        try simp only [Act.put, List.getElem_toArray, List.getElem_cons_zero, List.getElem_cons_succ, List.setIfInBounds_toArray, List.set_cons_zero, List.set_cons_succ]
        have hX : Below wr.heap.size wr (wr.alloc (.cells z4 178)).drew := ((Below.refl _ _).alloc (Nat.le_refl _) _).drew
        have hBX : BoxAt (wr.alloc (.cells z4 178)).drew w.heap.size 178 4 wr.heap.size z4.toList := (boxAt_new wr z4 HJ.out.chg.size rfl).below ((Below.refl _ _).drew)
        refine anyT_one (i := 10) (by kernel_rfl) rfl (fun K hK => ?_)
        go_simp
        refine (HCm.out _).mono ?_
        rintro r v3 ⟨rfl, hb3⟩
        have HV : Hid (MaI w base M T G cp a E en mp (k + 1) b5 Sk v3) := HJ.out.below (hX.trans (hb3.mono hX.size))
        have HBx : Hid (BoxAt v3 w.heap.size 178 4 wr.heap.size z4.toList) := hBX.below hb3
        have y0 := HBx.out.cell (j := 0) rfl
        have o0 := HBx.out.frozen 0
        have y1 := HBx.out.cell (j := 1) rfl
        have o1 := HBx.out.frozen 1
        have y2 := HBx.out.cell (j := 2) rfl
        have o2 := HBx.out.frozen 2
        have y3 := HBx.out.cell (j := 3) rfl
        have o3 := HBx.out.frozen 3
        have hrow : ∀ cs : World, Chg (fun j => j = wr.heap.size) v3 cs → MaI w base M T G cp a E en mp (k + 1) b5 Sk cs := fun cs hc => by
          have h := HV.out
          have hbs := HI.out.2.2
          have hws := HJ.out.chg.size
          obtain ⟨D, hD⟩ := h.map
          have n1 : ¬ M = wr.heap.size := by have := HJ.out.mtr.ltM.2; omega
          have n2 : ¬ G = wr.heap.size := by have := HJ.out.mtr.ltG.2; omega
          have n3 : ¬ mp = wr.heap.size := StD.ne hD HBx.out
          have n4 : ¬ b5 = wr.heap.size := by have := HJ.out.box.lt.2; omega
          exact ⟨h.mtr.chg hc n1 n2 (fun j q => by omega), h.map.chg hc n3, h.box.chg hc n4, chg_ownS h.chg (hc.mono (fun j q => by omega))⟩
        have HRow : Hid (∀ cs : World, Chg (fun j => j = wr.heap.size) v3 cs → MaI w base M T G cp a E en mp (k + 1) b5 Sk cs) := hrow
        refine hK.out _ _ (.inr (HSk.out _ HV.out)) ?_
        clear hK hb3 hX hBX hrow
        try simp only [Act.put, List.getElem_toArray, List.getElem_cons_zero, List.getElem_cons_succ, List.setIfInBounds_toArray, List.set_cons_zero, List.set_cons_succ]
        refine anyT_one (i := 12) (by kernel_rfl) rfl (fun K hK => ?_)
        go_simp
        refine hK.out _ _ (.inr (HSk.out _ (HRow.out _ ((((Chg.of_set (S := fun j => j = wr.heap.size) _ wr.heap.size 0 _ rfl).trans (Chg.of_set (S := fun j => j = wr.heap.size) _ wr.heap.size 1 _ rfl)).trans (Chg.of_set (S := fun j => j = wr.heap.size) _ wr.heap.size 2 _ rfl)).trans (Chg.of_set (S := fun j => j = wr.heap.size) _ wr.heap.size 3 _ rfl))))) ?_
        clear hK
        try simp only [Act.put, List.getElem_toArray, List.getElem_cons_zero, List.getElem_cons_succ, List.setIfInBounds_toArray, List.set_cons_zero, List.set_cons_succ]
        refine anyT_done (by kernel_rfl) ?_
        obtain ⟨W4, hW4⟩ : ∃ W4 : World, W4 = set4 v3 wr.heap.size 0 (stp E T Sk x) := ⟨_, rfl⟩
        have HW4 : Hid (MaI w base M T G cp a E en mp (k + 1) b5 Sk W4 ∧ BoxAt W4 w.heap.size 178 4 wr.heap.size (psL (stp E T Sk x))) := by
          have hc : Chg (fun j => j = wr.heap.size) v3 W4 := by rw [hW4]; exact chg_set4 _ _ _ _ rfl
          have b4 := own_set4 HBx.out 0 (stp E T Sk x)
          rw [← hW4] at b4
          exact ⟨HRow.out _ hc, b4⟩
        have hW4' := hW4
        simp only [set4, Nat.zero_add] at hW4'
        rw [← hW4']
        clear hW4 hW4' y0 y1 y2 y3 o0 o1 o2 o3
        have heq := ps_equal (stp E T Sk x)
        have q0 := HW4.out.2.cell (j := 0) rfl
        have q1 := HW4.out.2.cell (j := 1) rfl
        have q2 := HW4.out.2.cell (j := 2) rfl
        have q3 := HW4.out.2.cell (j := 3) rfl
        cases hne : noE (stp E T Sk x) with
        | true =>
          rw [hne] at heq
          have HFn : Hid ((false = true ↔ acc en (runS E T (sOne 0) (sb s)) = true)) := by
            refine ⟨fun q => (by cases q), fun q => ?_⟩
            rw [HN.out.2.2] at q
            have hd : ∀ p, p < 256 → (stp E T Sk x) p = false := fun p hp => by
              cases hx : (stp E T Sk x) p with
              | false => rfl
              | true => have := (noE_iff (stp E T Sk x)).2 ⟨p, hp, hx⟩; rw [hne] at this; cases this
            unfold acc at q
            rw [List.any_eq_true] at q
            obtain ⟨p, hp, hx⟩ := q
            rw [runS_dead E T _ _ hd p (List.mem_range.1 hp)] at hx
            cases hx
          clear hne
          go_wp2_with fail
          go_ret
          exact ⟨false, rfl, HFn.out, HW4.out.1.chg⟩
        | false =>
          rw [hne] at heq
          clear hne
          have HSt : Hid (Calls Tryz.prog 138 #[.pointer (some ⟨M, 0, none⟩), psV (stp E T Sk x)] W4 (StP base M T G cp a E en mp (k + 1) (stp E T Sk x) W4)) := state_core (stp E T Sk x) W4 HW4.out.1.mtr HW4.out.1.map (fun p hp => by
            unfold stp sAnd at hp
            rw [Bool.and_eq_true] at hp
            exact HT.out _ _ hp.2) ha (by omega) hbm
          go_wp2_with fail
          refine HSt.out.mono ?_
          rintro e w5 ⟨rfl, H5⟩
          have hne5 := HW4.out.1.ne
          have HB5 := HW4.out.1.box.chg H5.out.2.2 (fun q => hne5.2.2.1 q.symm)
          have r0 := HB5.cell (j := 0) rfl
          have f0 := HB5.frozen 0
          have r1 := HB5.cell (j := 1) rfl
          have f1 := HB5.frozen 1
          have r2 := HB5.cell (j := 2) rfl
          have f2 := HB5.frozen 2
          have r3 := HB5.cell (j := 3) rfl
          have f3 := HB5.frozen 3
          have r4 := HB5.cell (j := 4) rfl
          have f4 := HB5.frozen 4
          have HJ2 : Hid (MaI w base M T G cp a E en mp (k + 1 + 1) b5 (runS E T (sOne 0) ((sb s).take (k + 1))) (set5 w5 b5 (ahd E (stp E T Sk x)) (acc en (stp E T Sk x)))) := by
            have hc : Chg (fun j => j = b5) w5 (set5 w5 b5 (ahd E (stp E T Sk x)) (acc en (stp E T Sk x))) := chg_set5 _ _ _ _ rfl
            have hbl := HW3.out.2
            have hbs := HI.out.2.2
            rw [HN.out.1]
            exact ⟨H5.out.1.chg hc hne5.1 hne5.2.1 (fun j q => by omega), H5.out.2.1.chg hc hne5.2.2.1, HB5.set5 _ _, chg_ownS (HW4.out.1.chg.trans H5.out.2.2) (hc.mono (fun j q => by omega))⟩
          simp only [set5] at HJ2
          clear HB5
          go_wp2_with fail
          refine ⟨⟨k + 1, by omega, by go_num, HJ2⟩, ?_⟩
          go_light
          simp [intOf]; omega
    · obtain rfl : k = s.size := by omega
      have zk : ¬ (s.size : Int) < (s.size : Int) := by omega
      have r4 := HJ.out.box.cell (j := 4) rfl
      have HFl : Hid ((sb s).take s.size = sb s) := by show _ = _; rw [← sb_len, List.take_length]
      go_wp2_with fail
      go_ret
      exact ⟨_, rfl, by rw [HFl.out], HJ.out.chg⟩
end Go.Proofs.YtkidabedcgngcaaGreatDoor

/-
  A class says the same wherever its bytes stand.
-/
namespace Go.Proofs.YtkidabedcgngcaaGreatDoor
set_option linter.unusedVariables false
set_option linter.unusedSimpArgs false

theorem chM_agree {p q : List UInt8} {i j k : Nat} {c : UInt8} (h : chM p i = (c, k, true)) (ha : ∀ t, i + t < k → q[j + t]? = p[i + t]?) : chM q j = (c, j + (k - i), true) := by
  have hg := chM_gt h
  have h0 := ha 0 (by omega)
  simp only [Nat.add_zero] at h0
  unfold chM at h ⊢
  rw [h0]
  split at h
  · cases h
  · next d hd =>
    split at h
    · cases h
    · next hn =>
      rw [if_neg hn]
      split at h
      · next h92 =>
        rw [if_pos h92]
        split at h
        · cases h
        · next e he =>
          simp only [Prod.mk.injEq, and_true] at h
          obtain ⟨rfl, rfl⟩ := h
          have h1 := ha 1 (by omega)
          rw [h1, he]
          simp only [Prod.mk.injEq, and_true, true_and]
          omega
      · next h92 =>
        rw [if_neg h92]
        simp only [Prod.mk.injEq, and_true] at h
        obtain ⟨rfl, rfl⟩ := h
        simp only [Prod.mk.injEq, and_true, true_and]
        omega
theorem itemM_agree {p q : List UInt8} {i j k : Nat} {a b : UInt8} (h : itemM p i = .inl (a, b, k)) (ha : ∀ t, i + t ≤ k → q[j + t]? = p[i + t]?) : itemM q j = .inl (a, b, j + (k - i)) := by
  unfold itemM at h ⊢
  split at h
  · cases h
  · next lo k1 hk1 =>
    have hg := chM_gt hk1
    split at h
    · next h45 =>
      split at h
      · cases h
      · next hi m hm =>
        have hg2 := chM_gt hm
        split at h
        · cases h
        · next hle =>
          simp only [Sum.inl.injEq, Prod.mk.injEq] at h
          obtain ⟨rfl, rfl, rfl⟩ := h
          have e1 := chM_agree (q := q) (j := j) hk1 (fun t ht => ha t (by omega))
          have e2 : q[j + (k1 - i)]? = some 45 := by rw [ha (k1 - i) (by omega), show i + (k1 - i) = k1 by omega]; exact h45
          have e3 := chM_agree (q := q) (j := j + (k1 - i) + 1) hm (fun t ht => by have := ha (k1 - i + 1 + t) (by omega); rw [show j + (k1 - i) + 1 + t = j + (k1 - i + 1 + t) by omega, this]; congr 1; omega)
          rw [e1]
          simp only []
          rw [if_pos e2, e3]
          simp only []
          rw [if_neg hle]
          simp only [Sum.inl.injEq, Prod.mk.injEq, true_and]
          omega
    · next h45 =>
      simp only [Sum.inl.injEq, Prod.mk.injEq] at h
      obtain ⟨rfl, rfl, rfl⟩ := h
      have e1 := chM_agree (q := q) (j := j) hk1 (fun t ht => ha t (by omega))
      have e2 : ¬ q[j + (k1 - i)]? = some 45 := by rw [ha (k1 - i) (by omega), show i + (k1 - i) = k1 by omega]; exact h45
      rw [e1]
      simp only []
      rw [if_neg e2]
theorem clsM_agree : ∀ (n : Nat) {p q : List UInt8} {i j k : Nat} {b : Bool} {f g : UInt8 → Bool}, p.length - i ≤ n → clsM p i b f = .inl (g, k) → (∀ t, i + t < k → q[j + t]? = p[i + t]?) → clsM q j b f = .inl (g, j + (k - i))
  | n, p, q, i, j, k, b, f, g, hn, h, ha => by
    have hg := clsM_gt _ (Nat.le_refl _) h
    have h0 := ha 0 (by omega)
    simp only [Nat.add_zero] at h0
    rw [clsM] at h
    split at h
    · next hi =>
      have hj : j < q.length := by
        rw [List.getElem?_eq_getElem hi] at h0
        exact lt_of_at h0
      rw [clsM, dif_pos hj, h0]
      split at h
      · next he =>
        rw [if_pos he]
        simp only [Sum.inl.injEq, Prod.mk.injEq] at h
        obtain ⟨rfl, rfl⟩ := h
        simp only [Sum.inl.injEq, Prod.mk.injEq, true_and]
        omega
      · next he =>
        rw [if_neg he]
        split at h
        · cases h
        · next a b' k' hk =>
          have h1 := itemM_gt hk
          have h2 := clsM_gt _ (Nat.le_refl _) h
          have e1 := itemM_agree (q := q) (j := j) hk (fun t ht => ha t (by omega))
          match n, hn with
          | 0, hn => omega
          | n + 1, hn =>
            have e2 := clsM_agree n (q := q) (j := j + (k' - i)) (by omega) h (fun t ht => by have := ha (k' - i + t) (by omega); rw [show j + (k' - i) + t = j + (k' - i + t) by omega, this]; congr 1; omega)
            split
            · next e hh => rw [e1] at hh; cases hh
            · next a2 b2 k2 hh =>
              rw [e1] at hh
              simp only [Sum.inl.injEq, Prod.mk.injEq] at hh
              obtain ⟨rfl, rfl, rfl⟩ := hh
              rw [e2]
              simp only [Sum.inl.injEq, Prod.mk.injEq, true_and]
              omega
    · cases h
theorem classM_agree {p q : List UInt8} {i j k : Nat} {g : UInt8 → Bool} (h : classM p i = .inl (g, k)) (ha : ∀ t, i + t < k → q[j + t]? = p[i + t]?) : classM q j = .inl (g, j + (k - i)) := by
  have hg := classM_gt h
  have h0 := ha 0 (by omega)
  simp only [Nat.add_zero] at h0
  unfold classM at h ⊢
  rw [h0]
  split at h
  · next h94 =>
    rw [if_pos h94]
    split at h
    · next f k' hc =>
      have hg2 := clsM_gt _ (Nat.le_refl _) hc
      simp only [Sum.inl.injEq, Prod.mk.injEq] at h
      obtain ⟨rfl, rfl⟩ := h
      have e := clsM_agree _ (Nat.le_refl _) (q := q) (j := j + 1) hc (fun t ht => by have := ha (1 + t) (by omega); rw [show j + 1 + t = j + (1 + t) by omega, this]; congr 1; omega)
      rw [e]
      simp only [Sum.inl.injEq, Prod.mk.injEq, true_and]
      omega
    · cases h
  · next h94 =>
    rw [if_neg h94]
    exact clsM_agree _ (Nat.le_refl _) h ha
end Go.Proofs.YtkidabedcgngcaaGreatDoor

/-
  A pattern's bytes as signs and atoms, one behind another.
-/
namespace Go.Proofs.YtkidabedcgngcaaGreatDoor
set_option linter.unusedVariables false
set_option linter.unusedSimpArgs false

/-- Signs and atoms, one behind another. -/
inductive TokG (A : List UInt8 → Pat → Prop) : List UInt8 → Prop
  | nil : TokG A []
  | sign {c : UInt8} {zs : List UInt8} (hc : c = 124 ∨ isOp c) (h : TokG A zs) : TokG A (c :: zs)
  | atom {xs zs : List UInt8} {t : Pat} (ha : A xs t) (h : TokG A zs) : TokG A (xs ++ zs)
variable {A : List UInt8 → Pat → Prop}
theorem TokG.cat {xs ys : List UInt8} (h : TokG A xs) (k : TokG A ys) : TokG A (xs ++ ys) := by
  induction h with
  | nil => exact k
  | sign hc _ ih => exact .sign hc ih
  | atom ha _ ih => rw [List.append_assoc]; exact .atom ha ih
theorem TokG.ops : ∀ {l : List UInt8}, (∀ c ∈ l, isOp c) → TokG A l
  | [], _ => .nil
  | c :: l, h => .sign (.inr (h c (by simp))) (TokG.ops (fun d hd => h d (by simp [hd])))
theorem RepG.tok {xs : List UInt8} {t : Pat} : RepG A xs t → TokG A xs
  | ⟨ys, ops, a, h1, h2, h3, _⟩ => by rw [h1]; exact .atom h2 (TokG.ops h3)
theorem SeqG.tok : ∀ {ts : List Pat} {xs : List UInt8}, SeqG A ts xs → TokG A xs
  | [], _, h => by rw [show _ = [] from h]; exact .nil
  | _ :: _, _, ⟨ys, zs, h1, h2, h3⟩ => by rw [h1]; exact h2.tok.cat (SeqG.tok h3)
theorem AltG.tok : ∀ {os : List (List Pat)} {xs : List UInt8}, AltG A os xs → TokG A xs
  | [], _, h => h.elim
  | [_], _, h => SeqG.tok h
  | _ :: _ :: _, _, ⟨ys, zs, h1, h2, h3⟩ => by rw [h1]; exact h2.tok.cat (.sign (.inl rfl) (AltG.tok h3))
/-- The first byte of an atom is none of the signs. -/
theorem AtomG.first : ∀ {n : Nat} {xs : List UInt8} {t : Pat}, AtomG n xs t → ∃ c ys, xs = c :: ys ∧ ¬ c = 41 ∧ ¬ c = 124 ∧ ¬ isOp c
  | 0, _, _, h => h.elim
  | n + 1, xs, t, h => by
    rcases h with ⟨c, rfl, hs, _⟩ | ⟨rfl, _⟩ | ⟨c, rfl, _⟩ | ⟨ys, os, rfl, _, _⟩ | ⟨p, i, k, f, h1, h2, rfl, _⟩
    · exact ⟨c, [], rfl, fun q => hs (.inl (.inr (.inr (.inl q)))), fun q => hs (.inl (.inr (.inl q))), fun q => hs (.inl (.inl q))⟩
    · exact ⟨46, [], rfl, by decide, by decide, by decide⟩
    · exact ⟨92, [c], rfl, by decide, by decide, by decide⟩
    · exact ⟨40, ys ++ [41], rfl, by decide, by decide, by decide⟩
    · have hg := classM_gt h2
      refine ⟨91, cut p (i + 1) k, ?_, by decide, by decide, by decide⟩
      rw [cut_cat (show i ≤ i + 1 by omega) (show i + 1 ≤ k by omega), cut_one h1]
      rfl
/-- A class that stands at i in whatever p. -/
theorem class_here {p : List UInt8} {i k : Nat} {q : List UInt8} {j m : Nat} {f : UInt8 → Bool} (h1 : q[j]? = some 91) (h2 : classM q (j + 1) = .inl (f, m)) (hc : cut p i k = cut q j m) (hk : k ≤ p.length) (hik : i < k) : p[i]? = some 91 ∧ classM p (i + 1) = .inl (f, k) := by
  have hg := classM_gt h2
  have hl : k - i = m - j := by have h3 := congrArg List.length hc; rw [cut_len hk, cut_len hg.2] at h3; exact h3
  have hat : ∀ t, t < k - i → p[i + t]? = q[j + t]? := fun t ht => by
    have h3 := congrArg (fun l => l[t]?) hc
    simp only [cut, List.getElem?_take, List.getElem?_drop] at h3
    rw [if_pos ht, if_pos (by omega)] at h3
    exact h3
  refine ⟨by have := hat 0 (by omega); simpa [h1] using this, ?_⟩
  have e := classM_agree (q := p) (j := i + 1) h2 (fun t ht => by have := hat (1 + t) (by omega); rw [show i + 1 + t = i + (1 + t) by omega, this]; congr 1; omega)
  rw [e]
  simp only [Sum.inl.injEq, Prod.mk.injEq, true_and]
  omega
end Go.Proofs.YtkidabedcgngcaaGreatDoor

/-
  What a pattern begins with, as a function of its nodes.
-/
namespace Go.Proofs.YtkidabedcgngcaaGreatDoor
set_option linter.unusedVariables false
set_option linter.unusedSimpArgs false

/-- What a seq of nodes begins with; whether that is all of it. -/
def prefM : List Pat → List UInt8 × Bool
  | [] => ([], true)
  | .byte c :: ts => (c :: (prefM ts).1, (prefM ts).2)
  | .cls _ :: _ => ([], false)
  | .rep _ _ _ :: _ => ([], false)
  | .alt _ :: _ => ([], false)
def prefOf : List (List Pat) → List UInt8 × Bool
  | [ts] => prefM ts
  | _ => ([], false)
def isByte : Pat → Prop
  | .byte _ => True
  | _ => False
theorem prefM_not {t : Pat} (h : ¬ isByte t) (ts : List Pat) : prefM (t :: ts) = ([], false) := by
  cases t with
  | byte b => exact (h trivial).elim
  | _ => rfl
theorem prefM_len : ∀ ts : List Pat, (prefM ts).1.length ≤ ts.length
  | [] => Nat.le_refl _
  | .byte c :: ts => by simp only [prefM, List.length_cons]; have := prefM_len ts; omega
  | .cls _ :: _ => Nat.zero_le _
  | .rep _ _ _ :: _ => Nat.zero_le _
  | .alt _ :: _ => Nat.zero_le _

/-- Signs and atoms with so many bars between them. -/
inductive TokN (A : List UInt8 → Pat → Prop) : Nat → List UInt8 → Prop
  | nil : TokN A 0 []
  | bar {k : Nat} {zs : List UInt8} (h : TokN A k zs) : TokN A (k + 1) (124 :: zs)
  | op {k : Nat} {c : UInt8} {zs : List UInt8} (hc : isOp c) (h : TokN A k zs) : TokN A k (c :: zs)
  | atom {k : Nat} {xs zs : List UInt8} {t : Pat} (ha : A xs t) (h : TokN A k zs) : TokN A k (xs ++ zs)
variable {A : List UInt8 → Pat → Prop}
theorem TokN.cat {k m : Nat} {xs ys : List UInt8} (h : TokN A k xs) (q : TokN A m ys) : TokN A (k + m) (xs ++ ys) := by
  induction h with
  | nil => simpa using q
  | bar _ ih => rw [show ∀ k, k + 1 + m = (k + m) + 1 from fun k => by omega]; exact .bar ih
  | op hc _ ih => exact .op hc ih
  | atom ha _ ih => rw [List.append_assoc]; exact .atom ha ih
theorem TokN.ops : ∀ {l : List UInt8}, (∀ c ∈ l, isOp c) → TokN A 0 l
  | [], _ => .nil
  | c :: l, h => .op (h c (by simp)) (TokN.ops (fun d hd => h d (by simp [hd])))
theorem RepG.tokn {xs : List UInt8} {t : Pat} : RepG A xs t → TokN A 0 xs
  | ⟨ys, ops, a, h1, h2, h3, _⟩ => by rw [h1]; exact .atom h2 (TokN.ops h3)
theorem SeqG.tokn : ∀ {ts : List Pat} {xs : List UInt8}, SeqG A ts xs → TokN A 0 xs
  | [], _, h => by rw [show _ = [] from h]; exact .nil
  | _ :: _, _, ⟨ys, zs, h1, h2, h3⟩ => by rw [h1]; simpa using h2.tokn.cat (SeqG.tokn h3)
theorem AltG.tokn : ∀ {os : List (List Pat)} {xs : List UInt8}, AltG A os xs → ∃ k, os.length = k + 1 ∧ TokN A k xs
  | [], _, h => h.elim
  | [_], _, h => ⟨0, rfl, SeqG.tokn h⟩
  | _ :: o :: os, _, ⟨ys, zs, h1, h2, h3⟩ => by
    obtain ⟨k, hk, hT⟩ := AltG.tokn h3
    refine ⟨k + 1, by simp at hk ⊢; omega, ?_⟩
    rw [h1]
    have := h2.tokn.cat (TokN.bar hT)
    simpa using this
theorem tokn_step {k : Nat} {xs : List UInt8} (h : TokN A k xs) : (xs = [] ∧ k = 0) ∨ (∃ m zs, xs = 124 :: zs ∧ k = m + 1 ∧ TokN A m zs) ∨ (∃ c zs, xs = c :: zs ∧ isOp c ∧ TokN A k zs) ∨ (∃ ys zs t, xs = ys ++ zs ∧ A ys t ∧ TokN A k zs) := by
  cases h with
  | nil => exact .inl ⟨rfl, rfl⟩
  | bar h => exact .inr (.inl ⟨_, _, rfl, rfl, h⟩)
  | op hc h => exact .inr (.inr (.inl ⟨_, _, rfl, hc, h⟩))
  | atom ha h => exact .inr (.inr (.inr ⟨_, _, _, rfl, ha, h⟩))
theorem cutHead {p : List UInt8} {j m : Nat} {c : UInt8} {zs : List UInt8} (h : cut p j m = c :: zs) (hm : m ≤ p.length) : p[j]? = some c ∧ cut p (j + 1) m = zs ∧ j < m := by
  have hl := congrArg List.length h
  rw [cut_len hm] at hl
  simp at hl
  have hj : j < m := by omega
  obtain ⟨d, hd⟩ : ∃ d, p[j]? = some d := ⟨_, List.getElem?_eq_getElem (by omega)⟩
  rw [cut_cat (show j ≤ j + 1 by omega) (show j + 1 ≤ m by omega), cut_one hd] at h
  simp at h
  exact ⟨by rw [hd, h.1], h.2, hj⟩
theorem cutTwo {p : List UInt8} {j m : Nat} {xs zs : List UInt8} (h : cut p j m = xs ++ zs) (hm : m ≤ p.length) (hjm : j ≤ m) : cut p j (j + xs.length) = xs ∧ cut p (j + xs.length) m = zs ∧ j + xs.length ≤ m := by
  have hl := congrArg List.length h
  rw [cut_len hm, List.length_append] at hl
  have h1 := cut_cat (p := p) (show j ≤ j + xs.length by omega) (show j + xs.length ≤ m by omega)
  rw [h] at h1
  have h2 := List.append_inj h1 (by rw [cut_len (by omega)]; omega)
  exact ⟨h2.1.symm, h2.2.symm, by omega⟩
/-- The byte of an atom that is a byte stands at its end; every other one begins with a sign. -/
theorem AtomG.byte : ∀ {n : Nat} {xs : List UInt8} {t : Pat}, AtomG n xs t → ∃ c ys, xs = c :: ys ∧ ((∃ b, t = .byte b ∧ xs.getLast? = some b ∧ (¬ special c ∨ c = 92)) ∨ (¬ isByte t ∧ special c ∧ ¬ c = 92))
  | 0, _, _, h => h.elim
  | n + 1, xs, t, h => by
    rcases h with ⟨c, rfl, hs, rfl⟩ | ⟨rfl, rfl⟩ | ⟨c, rfl, rfl⟩ | ⟨ys, os, rfl, _, rfl⟩ | ⟨p, i, k, f, h1, h2, rfl, rfl⟩
    · exact ⟨c, [], rfl, .inl ⟨c, rfl, rfl, .inl hs⟩⟩
    · exact ⟨46, [], rfl, .inr ⟨fun h => h, by decide, by decide⟩⟩
    · exact ⟨92, [c], rfl, .inl ⟨c, rfl, rfl, .inr rfl⟩⟩
    · exact ⟨40, ys ++ [41], rfl, .inr ⟨fun h => h, by decide, by decide⟩⟩
    · have hg := classM_gt h2
      refine ⟨91, cut p (i + 1) k, ?_, .inr ⟨fun h => h, by decide, by decide⟩⟩
      rw [cut_cat (show i ≤ i + 1 by omega) (show i + 1 ≤ k by omega), cut_one h1]
      rfl
/-- One step of a seq, from the left. -/
structure SeqStep (n : Nat) (p : List UInt8) (i m j : Nat) (c : UInt8) (a t : Pat) (ts : List Pat) : Prop where
  atom : AtomG n (cut p i j) a
  lt : i < j
  le : j ≤ m
  at0 : p[i]? = some c
  what : (∃ b, t = .byte b ∧ (¬ special c ∨ c = 92) ∧ (∀ d, p[j]? = some d → j < m → ¬ isOp d) ∧ p[j - 1]? = some b ∧ SeqG (AtomG n) ts (cut p j m)) ∨ (¬ isByte t ∧ ((special c ∧ ¬ c = 92) ∨ ((¬ special c ∨ c = 92) ∧ ∃ d, p[j]? = some d ∧ isOp d ∧ j < m)))
theorem seq_step {n : Nat} {p : List UInt8} {i m : Nat} {ts : List Pat} (h : SeqG (AtomG n) ts (cut p i m)) (hm : m ≤ p.length) (him : i < m) : ∃ t ts' j c a, ts = t :: ts' ∧ SeqStep n p i m j c a t ts' := by
  cases ts with
  | nil =>
    have hl := cut_len (p := p) (i := i) hm
    rw [show cut p i m = [] from h] at hl
    simp at hl
    omega
  | cons t ts' =>
    obtain ⟨ys, zs, h1, ⟨xa, ops, a, h2, h3, h4, h5⟩, h6⟩ := h
    rw [h2, List.append_assoc] at h1
    obtain ⟨c1, c2, c3⟩ := cutTwo h1 hm (by omega)
    obtain ⟨c, xb, hc, hw⟩ := h3.byte
    have hal : 0 < xa.length := by rw [hc]; simp
    obtain ⟨p0, _, _⟩ := cutHead (c1.trans hc) (by omega)
    refine ⟨t, ts', i + xa.length, c, a, rfl, ⟨by rw [c1]; exact h3, by omega, c3, p0, ?_⟩⟩
    cases ops with
    | nil =>
      have hta : t = a := h5
      subst hta
      rw [List.nil_append] at c2
      rcases hw with ⟨b, hb, hlast, hs⟩ | ⟨hb, hs⟩
      · left
        refine ⟨b, hb, hs, ?_, ?_, by rw [c2]; exact h6⟩
        · intro d hd hlt
          cases ts' with
          | nil =>
            have hl := cut_len (p := p) (i := i + xa.length) hm
            rw [c2, show zs = [] from h6] at hl
            simp at hl
            omega
          | cons t2 ts2 =>
            obtain ⟨ys2, zs2, e1, ⟨xa2, ops2, a2, e2, e3, _, _⟩, _⟩ := h6
            obtain ⟨c2', xa3, hc2, _, _, hn⟩ := e3.first
            rw [e1, e2, hc2] at c2
            have := (cutHead (p := p) (c := c2') (zs := xa3 ++ ops2 ++ zs2) (by rw [c2]; simp) hm).1
            rw [hd] at this
            rw [Option.some.inj this]
            exact hn
        · have hg : xa[xa.length - 1]? = some b := by rw [← List.getLast?_eq_getElem?]; exact hlast
          have e := congrArg (fun l => l[xa.length - 1]?) c1
          simp only [cut, List.getElem?_take, List.getElem?_drop] at e
          rw [if_pos (by omega), hg] at e
          rw [show i + xa.length - 1 = i + (xa.length - 1) by omega]
          exact e
      · exact .inr ⟨hb, .inl hs⟩
    | cons o ops =>
      right
      have hnb : ¬ isByte t := by rw [h5, if_neg (by simp)]; exact fun h => h
      refine ⟨hnb, ?_⟩
      obtain ⟨q1, _, q3⟩ := cutHead (p := p) (c := o) (zs := ops ++ zs) (by rw [c2]; simp) hm
      rcases hw with ⟨b, hb, hlast, hs⟩ | ⟨hb, hs⟩
      · exact .inr ⟨hs, o, q1, h4 o (by simp), q3⟩
      · exact .inl hs
theorem seq_done {n : Nat} {p : List UInt8} {m : Nat} {ts : List Pat} (h : SeqG (AtomG n) ts (cut p m m)) (hm : m ≤ p.length) : ts = [] := by
  cases ts with
  | nil => rfl
  | cons t ts =>
    obtain ⟨ys, zs, h1, ⟨xa, ops, a, h2, h3, _, _⟩, _⟩ := h
    obtain ⟨c, xb, hc, _⟩ := h3.first
    rw [cut_nil, h2, hc] at h1
    simp at h1
end Go.Proofs.YtkidabedcgngcaaGreatDoor

/-
  A pattern is read in one way.
-/
namespace Go.Proofs.YtkidabedcgngcaaGreatDoor
set_option linter.unusedVariables false
set_option linter.unusedSimpArgs false

/-- What an atom is, by its first byte. -/
inductive Tag (n : Nat) : UInt8 → List UInt8 → Pat → Prop
  | plain {c : UInt8} (h : ¬ special c) : Tag n c [] (.byte c)
  | dot : Tag n 46 [] (.cls (fun _ => true))
  | esc {d : UInt8} : Tag n 92 [d] (.byte d)
  | group {ys : List UInt8} {os : List (List Pat)} (h : AltG (AtomG n) os ys) : Tag n 40 (ys ++ [41]) (.alt os)
  | cls {zs : List UInt8} {f : UInt8 → Bool} (h : ∀ r, classM (91 :: zs ++ r) 1 = .inl (f, zs.length + 1)) : Tag n 91 zs (.cls f)
theorem AtomG.tag {n : Nat} {xs : List UInt8} {t : Pat} (h : AtomG (n + 1) xs t) : ∃ c zs, xs = c :: zs ∧ Tag n c zs t := by
  rcases h with ⟨c, rfl, hs, rfl⟩ | ⟨rfl, rfl⟩ | ⟨c, rfl, rfl⟩ | ⟨ys, os, rfl, ho, rfl⟩ | ⟨p, i, k, f, h1, h2, rfl, rfl⟩
  · exact ⟨c, [], rfl, .plain hs⟩
  · exact ⟨46, [], rfl, .dot⟩
  · exact ⟨92, [c], rfl, .esc⟩
  · exact ⟨40, ys ++ [41], rfl, .group ho⟩
  · have hg := classM_gt h2
    have e : cut p i k = 91 :: cut p (i + 1) k := by
      rw [cut_cat (show i ≤ i + 1 by omega) (show i + 1 ≤ k by omega), cut_one h1]; rfl
    refine ⟨91, _, e, .cls fun r => ?_⟩
    have hl := congrArg List.length e
    rw [List.length_cons] at hl
    have h3 := class_here (p := 91 :: cut p (i + 1) k ++ r) (i := 0) (k := (cut p (i + 1) k).length + 1) h1 h2 ?_ (by simp) (by omega)
    · exact h3.2
    · rw [← hl, ← e]
      show (List.drop 0 (cut p i k ++ r)).take ((cut p i k).length - 0) = _
      rw [List.drop_zero, Nat.sub_zero, List.take_left]
/-- Signs and atoms up to a bracket that closes: one way. -/
theorem tok_one {A B : List UInt8 → Pat → Prop} (hA : ∀ ys t, A ys t → ∃ c zs, ys = c :: zs ∧ ¬ c = 41 ∧ ¬ c = 124 ∧ ¬ isOp c) (hB : ∀ ys t, B ys t → ∃ c zs, ys = c :: zs ∧ ¬ c = 41 ∧ ¬ c = 124 ∧ ¬ isOp c)
    (U : ∀ xs ys t t' r r', A xs t → B ys t' → xs ++ r = ys ++ r' → xs = ys) {xs : List UInt8} (h : TokG A xs) : ∀ {ys r r' : List UInt8}, TokG B ys → xs ++ 41 :: r = ys ++ 41 :: r' → xs = ys := by
  induction h with
  | nil =>
    intro ys r r' k e
    cases k with
    | nil => rfl
    | sign hc _ =>
      simp at e
      exfalso
      rw [← e.1] at hc
      rcases hc with q | q | q | q <;> exact absurd q (by decide)
    | atom ha _ =>
      obtain ⟨c, zs, rfl, n41, _⟩ := hB _ _ ha
      simp at e
      exact absurd e.1.symm n41
  | @sign c zs hc h ih =>
    intro ys r r' k e
    cases k with
    | nil =>
      simp at e
      exfalso
      rw [e.1] at hc
      rcases hc with q | q | q | q <;> exact absurd q (by decide)
    | sign hc' k' =>
      simp at e
      rw [e.1, ih k' e.2]
    | atom ha _ =>
      obtain ⟨c, zs, rfl, _, n124, nop⟩ := hB _ _ ha
      simp at e
      rw [e.1] at hc
      exact absurd hc (fun q => q.elim n124 nop)
  | @atom us zs t ha h ih =>
    intro ys r r' k e
    cases k with
    | nil =>
      obtain ⟨c, zs, rfl, n41, _⟩ := hA _ _ ha
      simp at e
      exact absurd e.1 n41
    | sign hc' k' =>
      obtain ⟨c, zs, rfl, _, n124, nop⟩ := hA _ _ ha
      simp at e
      rw [← e.1] at hc'
      exact absurd hc' (fun q => q.elim n124 nop)
    | atom hb k' =>
      rw [List.append_assoc, List.append_assoc] at e
      have q := U _ _ _ _ _ _ ha hb e
      subst q
      rw [ih k' (List.append_cancel_left e)]
theorem atom_one : ∀ {n m : Nat} {xs ys : List UInt8} {t t' : Pat} {r r' : List UInt8}, AtomG n xs t → AtomG m ys t' → xs ++ r = ys ++ r' → xs = ys
  | 0, _, _, _, _, _, _, _, h, _, _ => h.elim
  | _ + 1, 0, _, _, _, _, _, _, _, h, _ => h.elim
  | n + 1, m + 1, xs, ys, t, t', r, r', h, k, e => by
    obtain ⟨c, zs, rfl, hT⟩ := h.tag
    obtain ⟨c', zs', rfl, hT'⟩ := k.tag
    simp only [List.cons_append, List.cons.injEq] at e
    obtain ⟨rfl, e⟩ := e
    congr 1
    cases hT with
    | plain h1 =>
      cases hT' with
      | plain _ => rfl
      | dot => rfl
      | esc => exact absurd h1 (by decide)
      | group _ => exact absurd h1 (by decide)
      | cls _ => exact absurd h1 (by decide)
    | dot =>
      cases hT' with
      | plain _ => rfl
      | dot => rfl
    | esc =>
      cases hT' with
      | plain h1 => exact absurd h1 (by decide)
      | esc => simp at e; rw [e.1]
    | group h1 =>
      cases hT' with
      | plain h1 => exact absurd h1 (by decide)
      | group h2 =>
        rw [List.append_assoc, List.append_assoc] at e
        rw [tok_one (fun ys t q => q.first) (fun ys t q => q.first) (fun xs ys t t' r r' a b e => atom_one a b e) h1.tok h2.tok e]
    | cls h1 =>
      cases hT' with
      | plain h1 => exact absurd h1 (by decide)
      | cls h2 =>
        have a := h1 r
        have b := h2 r'
        rw [List.cons_append, e] at a
        rw [List.cons_append, a] at b
        simp at b
        exact (List.append_inj e b.2).1
/-- Bytes and signs: the number of bars is one. -/
theorem tokn_one {n m : Nat} {k : Nat} {xs : List UInt8} (h : TokN (AtomG n) k xs) : ∀ {j : Nat} {ys : List UInt8}, TokN (AtomG m) j ys → xs = ys → k = j := by
  induction h with
  | nil =>
    intro j ys q e
    cases q with
    | nil => rfl
    | bar _ => cases e
    | op _ _ => cases e
    | atom ha _ => obtain ⟨c, zs, rfl, _⟩ := ha.first; cases e
  | bar h ih =>
    intro j ys q e
    cases q with
    | nil => cases e
    | bar q' => simp at e; rw [ih q' e]
    | op hc _ => simp at e; rw [← e.1] at hc; exact absurd hc (by decide)
    | atom ha _ => obtain ⟨c, zs, rfl, _, n124, _⟩ := ha.first; simp at e; exact absurd e.1.symm n124
  | op hc h ih =>
    intro j ys q e
    cases q with
    | nil => cases e
    | bar _ => simp at e; rw [e.1] at hc; exact absurd hc (by decide)
    | op hc' q' => simp at e; exact ih q' e.2
    | atom ha _ => obtain ⟨c, zs, rfl, _, _, nop⟩ := ha.first; simp at e; rw [e.1] at hc; exact absurd hc nop
  | atom ha h ih =>
    intro j ys q e
    cases q with
    | nil => obtain ⟨c, zs, rfl, _⟩ := ha.first; cases e
    | bar _ => obtain ⟨c, zs, rfl, _, n124, _⟩ := ha.first; simp at e; exact absurd e.1 n124
    | op hc _ => obtain ⟨c, zs, rfl, _, _, nop⟩ := ha.first; simp at e; rw [← e.1] at hc; exact absurd hc nop
    | atom hb q' =>
      have u := atom_one ha hb e
      subst u
      exact ih q' (List.append_cancel_left e)
theorem prefM_one {n m : Nat} {p : List UInt8} : ∀ {ts us : List Pat} {i : Nat}, i ≤ p.length → SeqG (AtomG n) ts (cut p i p.length) → SeqG (AtomG m) us (cut p i p.length) → prefM ts = prefM us
  | [], us, i, hi, h, k => by
    have hip : i = p.length := by
      have hl := cut_len (p := p) (i := i) (Nat.le_refl _)
      rw [show cut p i p.length = [] from h] at hl
      simp at hl
      omega
    subst hip
    rw [seq_done k (Nat.le_refl _)]
  | t :: ts, us, i, hi, h, k => by
    have him : i < p.length := by
      refine Nat.lt_of_le_of_ne hi fun q => ?_
      subst q
      exact absurd (seq_done h (Nat.le_refl _)) (by simp)
    obtain ⟨t1, ts1, j, c, a, e1, h1⟩ := seq_step h (Nat.le_refl _) him
    obtain ⟨rfl, rfl⟩ : t1 = t ∧ ts1 = ts := by simpa using e1.symm
    obtain ⟨u1, us1, j', c', a', rfl, k1⟩ := seq_step k (Nat.le_refl _) him
    have e2 := atom_one (r := cut p j p.length) (r' := cut p j' p.length) h1.atom k1.atom (by rw [← cut_cat (Nat.le_of_lt h1.lt) h1.le, ← cut_cat (Nat.le_of_lt k1.lt) k1.le])
    have e3 : j = j' := by
      have hl := congrArg List.length e2
      rw [cut_len h1.le, cut_len k1.le] at hl
      have := h1.lt
      have := k1.lt
      omega
    subst e3
    obtain rfl : c = c' := Option.some.inj (h1.at0.symm.trans k1.at0)
    rcases h1.what with ⟨b, rfl, hs, hn, hb, hS⟩ | ⟨hnb, hw⟩
    · rcases k1.what with ⟨b', rfl, _, _, hb', kS⟩ | ⟨_, (⟨s1, s2⟩ | ⟨_, d, hd, hop, hlt⟩)⟩
      · obtain rfl : b = b' := Option.some.inj (hb.symm.trans hb')
        simp only [prefM]
        rw [prefM_one h1.le hS kS]
      · exact absurd hs (fun q => q.elim (fun z => z s1) s2)
      · exact absurd hop (hn d hd hlt)
    · rw [prefM_not hnb]
      rcases k1.what with ⟨b', rfl, hs, hn, hb', kS⟩ | ⟨knb, _⟩
      · rcases hw with ⟨s1, s2⟩ | ⟨_, d, hd, hop, hlt⟩
        · exact absurd hs (fun q => q.elim (fun z => z s1) s2)
        · exact absurd hop (hn d hd hlt)
      · rw [prefM_not knb]
theorem prefOf_one {p : List UInt8} {os us : List (List Pat)} (h : AltOk p 0 0 p.length os) (k : AltOk p 0 0 p.length us) : prefOf os = prefOf us := by
  obtain ⟨n, h1⟩ := h.gr
  obtain ⟨m, k1⟩ := k.gr
  obtain ⟨j, hj, hT⟩ := h1.tokn
  obtain ⟨j', hj', kT⟩ := k1.tokn
  have e := tokn_one hT kT rfl
  match os, us, h1, k1, hj, hj' with
  | [ts], [us], h1, k1, _, _ => exact prefM_one (Nat.zero_le _) h1 k1
  | [ts], u :: v :: us, h1, k1, hj, hj' => simp at hj hj'; omega
  | t :: v :: ts, [us], h1, k1, hj, hj' => simp at hj hj'; omega
  | t :: v :: ts, u :: x :: us, h1, k1, hj, hj' => rfl
end Go.Proofs.YtkidabedcgngcaaGreatDoor

/-
  Bytes of a run's file: numbers, strings, fixed numbers, as lists (mathematics).
-/
namespace Go.Proofs.YtkidabedcgngcaaGreatDoor
set_option linter.unusedVariables false
set_option linter.unusedSimpArgs false

/-- The byte of a number. -/
def byt (n : Nat) : UInt8 := UInt8.ofNat n
theorem byt_nat {n : Nat} (h : n < 256) : (byt n).toNat = n := by
  unfold byt
  rw [UInt8.toNat_ofNat']
  exact Nat.mod_eq_of_lt h
theorem byt_self (x : UInt8) : byt x.toNat = x := by
  apply UInt8.toNat_inj.1
  rw [byt_nat (UInt8.toNat_lt x)]
theorem u8lt (x : UInt8) : x.toNat < 256 := UInt8.toNat_lt x

/-- A number, seven bits a byte, the last byte below 128. -/
def num (n : Nat) : List UInt8 := if n < 128 then [byt n] else byt (128 + n % 128) :: num (n / 128)
termination_by n
decreasing_by omega
theorem num_small {n : Nat} (h : n < 128) : num n = [byt n] := by rw [num, if_pos h]
theorem num_large {n : Nat} (h : ¬ n < 128) : num n = byt (128 + n % 128) :: num (n / 128) := by rw [num, if_neg h]
theorem num_ne (n : Nat) : num n ≠ [] := by
  by_cases h : n < 128
  · rw [num_small h]; simp
  · rw [num_large h]; simp
theorem num_pos (n : Nat) : 0 < (num n).length := List.length_pos_iff.2 (num_ne n)
theorem num_len : ∀ (k n : Nat), n < 128 ^ (k + 1) → (num n).length ≤ k + 1
  | 0, n, h => by rw [num_small (by simpa using h)]; simp
  | k + 1, n, h => by
    by_cases hs : n < 128
    · rw [num_small hs]; simp
    · rw [num_large hs]
      have := num_len k (n / 128) (by rw [Nat.div_lt_iff_lt_mul (by omega), ← Nat.pow_succ]; exact h)
      simp; omega
theorem num_len64 {n : Nat} (h : n < 2 ^ 64) : (num n).length ≤ 10 := num_len 9 n (Nat.lt_trans h (by decide))

/-- A number read off, of whatever size; none where the bytes end or the form is not the shortest. -/
def getAny : List UInt8 → Option (Nat × List UInt8)
  | [] => none
  | x :: t => if x.toNat < 128 then some (x.toNat, t) else
    match getAny t with
    | none => none
    | some (n, u) => if n = 0 then none else some (x.toNat - 128 + 128 * n, u)
theorem getAny_num : ∀ (n : Nat) (t : List UInt8), getAny (num n ++ t) = some (n, t) := by
  intro n
  induction n using Nat.strongRecOn with
  | ind n ih =>
    intro t
    by_cases h : n < 128
    · rw [num_small h, List.singleton_append, getAny, if_pos (by rw [byt_nat (by omega)]; exact h), byt_nat (by omega)]
    · rw [num_large h, List.cons_append, getAny, if_neg (by rw [byt_nat (by omega)]; omega), ih (n / 128) (by omega) t]
      simp only []
      rw [if_neg (by omega), byt_nat (by omega)]
      congr 2
      omega
theorem getAny_iff {xs t : List UInt8} {n : Nat} : getAny xs = some (n, t) ↔ xs = num n ++ t := by
  constructor
  · induction xs generalizing n t with
    | nil => intro h; cases h
    | cons x l ih =>
      intro h
      rw [getAny] at h
      by_cases hx : x.toNat < 128
      · rw [if_pos hx] at h
        simp only [Option.some.injEq, Prod.mk.injEq] at h
        obtain ⟨rfl, rfl⟩ := h
        rw [num_small hx, byt_self]; rfl
      · rw [if_neg hx] at h
        cases hg : getAny l with
        | none => rw [hg] at h; cases h
        | some p =>
          obtain ⟨m, u⟩ := p
          rw [hg] at h
          simp only [] at h
          by_cases hm : m = 0
          · rw [if_pos hm] at h; cases h
          · rw [if_neg hm] at h
            simp only [Option.some.injEq, Prod.mk.injEq] at h
            obtain ⟨rfl, rfl⟩ := h
            have hx2 := u8lt x
            rw [num_large (by omega), show (x.toNat - 128 + 128 * m) / 128 = m by omega, show 128 + (x.toNat - 128 + 128 * m) % 128 = x.toNat by omega, byt_self, ih hg]
            rfl
  · rintro rfl
    exact getAny_num n t
/-- A number below 2^64 read off. -/
def getNum (xs : List UInt8) : Option (Nat × List UInt8) :=
  match getAny xs with
  | none => none
  | some (n, t) => if n < 2 ^ 64 then some (n, t) else none
theorem getNum_iff {xs t : List UInt8} {n : Nat} : getNum xs = some (n, t) ↔ n < 2 ^ 64 ∧ xs = num n ++ t := by
  unfold getNum
  cases hg : getAny xs with
  | none =>
    simp only []
    constructor
    · intro h; cases h
    · rintro ⟨_, h⟩
      rw [getAny_iff.2 h] at hg; cases hg
  | some p =>
    obtain ⟨m, u⟩ := p
    have h1 := getAny_iff.1 hg
    simp only []
    constructor
    · intro h
      split at h
      · simp only [Option.some.injEq, Prod.mk.injEq] at h
        obtain ⟨rfl, rfl⟩ := h
        exact ⟨by assumption, h1⟩
      · cases h
    · rintro ⟨h2, h3⟩
      rw [getAny_iff.2 h3] at hg
      simp only [Option.some.injEq, Prod.mk.injEq] at hg
      obtain ⟨rfl, rfl⟩ := hg
      rw [if_pos h2]
theorem getNum_num {n : Nat} (h : n < 2 ^ 64) (t : List UInt8) : getNum (num n ++ t) = some (n, t) := getNum_iff.2 ⟨h, rfl⟩
theorem num_split {n m : Nat} {s t : List UInt8} (h : num n ++ s = num m ++ t) : n = m ∧ s = t := by
  have h1 := getAny_num n s
  rw [h, getAny_num m t] at h1
  simp only [Option.some.injEq, Prod.mk.injEq] at h1
  exact ⟨h1.1.symm, h1.2.symm⟩

/-- A string with its length ahead. -/
def strB (s : List UInt8) : List UInt8 := num s.length ++ s
def getStr (xs : List UInt8) : Option (List UInt8 × List UInt8) :=
  match getNum xs with
  | none => none
  | some (n, t) => if n ≤ t.length then some (t.take n, t.drop n) else none
theorem getStr_iff {xs s t : List UInt8} : getStr xs = some (s, t) ↔ s.length < 2 ^ 64 ∧ xs = strB s ++ t := by
  unfold getStr strB
  cases hg : getNum xs with
  | none =>
    simp only []
    constructor
    · intro h; cases h
    · rintro ⟨h1, h⟩
      rw [List.append_assoc] at h
      rw [getNum_iff.2 ⟨h1, h⟩] at hg; cases hg
  | some p =>
    obtain ⟨m, u⟩ := p
    obtain ⟨h1, h2⟩ := getNum_iff.1 hg
    simp only []
    constructor
    · intro h
      split at h
      · next hm =>
        simp only [Option.some.injEq, Prod.mk.injEq] at h
        obtain ⟨rfl, rfl⟩ := h
        rw [List.length_take, Nat.min_eq_left hm]
        exact ⟨h1, by rw [List.append_assoc, List.take_append_drop]; exact h2⟩
      · cases h
    · rintro ⟨h3, h4⟩
      rw [List.append_assoc] at h4
      rw [getNum_iff.2 ⟨h3, h4⟩] at hg
      simp only [Option.some.injEq, Prod.mk.injEq] at hg
      obtain ⟨rfl, rfl⟩ := hg
      rw [if_pos (by simp)]
      simp
theorem getStr_str {s : List UInt8} (h : s.length < 2 ^ 64) (t : List UInt8) : getStr (strB s ++ t) = some (s, t) := getStr_iff.2 ⟨h, rfl⟩

/-- A number in four bytes, the least first. -/
def fixed (n : Nat) : List UInt8 := [byt (n % 256), byt (n / 256 % 256), byt (n / 65536 % 256), byt (n / 16777216 % 256)]
theorem fixed_len (n : Nat) : (fixed n).length = 4 := rfl
def fix4 (a b c d : UInt8) : Nat := a.toNat + 256 * b.toNat + 65536 * c.toNat + 16777216 * d.toNat
theorem fix4_lt (a b c d : UInt8) : fix4 a b c d < 2 ^ 32 := by
  have := u8lt a; have := u8lt b; have := u8lt c; have := u8lt d
  unfold fix4; omega
theorem fix4_fixed {n : Nat} (h : n < 2 ^ 32) : fix4 (byt (n % 256)) (byt (n / 256 % 256)) (byt (n / 65536 % 256)) (byt (n / 16777216 % 256)) = n := by
  unfold fix4
  rw [byt_nat (by omega), byt_nat (by omega), byt_nat (by omega), byt_nat (by omega)]
  omega
theorem fixed_fix4 (a b c d : UInt8) : fixed (fix4 a b c d) = [a, b, c, d] := by
  have ha := u8lt a; have hb := u8lt b; have hc := u8lt c; have hd := u8lt d
  unfold fixed fix4
  rw [show (a.toNat + 256 * b.toNat + 65536 * c.toNat + 16777216 * d.toNat) % 256 = a.toNat by omega,
    show (a.toNat + 256 * b.toNat + 65536 * c.toNat + 16777216 * d.toNat) / 256 % 256 = b.toNat by omega,
    show (a.toNat + 256 * b.toNat + 65536 * c.toNat + 16777216 * d.toNat) / 65536 % 256 = c.toNat by omega,
    show (a.toNat + 256 * b.toNat + 65536 * c.toNat + 16777216 * d.toNat) / 16777216 % 256 = d.toNat by omega]
  simp only [byt_self]
/-- The four bytes at a place, as a number. -/
def fixAt (xs : List UInt8) (i : Nat) : Nat := fix4 (xs.getD i 0) (xs.getD (i + 1) 0) (xs.getD (i + 2) 0) (xs.getD (i + 3) 0)
theorem fixAt_lt (xs : List UInt8) (i : Nat) : fixAt xs i < 2 ^ 32 := fix4_lt _ _ _ _
theorem fixAt_fixed {n : Nat} (h : n < 2 ^ 32) (xs t : List UInt8) : fixAt (xs ++ (fixed n ++ t)) xs.length = n := by
  unfold fixAt fixed
  simp only [List.getD_eq_getElem?_getD, List.getElem?_append_right (Nat.le_refl _), List.getElem?_append_right (show xs.length ≤ xs.length + 1 by omega), List.getElem?_append_right (show xs.length ≤ xs.length + 2 by omega), List.getElem?_append_right (show xs.length ≤ xs.length + 3 by omega), Nat.sub_self, Nat.add_sub_cancel_left]
  exact fix4_fixed h

/-- How many bytes two strings have in common at their beginning. -/
def shared : List UInt8 → List UInt8 → Nat
  | x :: s, y :: t => if x = y then shared s t + 1 else 0
  | _, _ => 0
theorem shared_le : ∀ (s t : List UInt8), shared s t ≤ s.length ∧ shared s t ≤ t.length
  | [], _ => by simp [shared]
  | _ :: _, [] => by simp [shared]
  | x :: s, y :: t => by
    have := shared_le s t
    unfold shared
    split <;> simp <;> omega
theorem shared_take : ∀ (s t : List UInt8), s.take (shared s t) = t.take (shared s t)
  | [], _ => by simp [shared]
  | _ :: _, [] => by simp [shared]
  | x :: s, y :: t => by
    unfold shared
    split
    · next h => rw [List.take_succ_cons, List.take_succ_cons, shared_take s t, h]
    · rfl
/-- The loop's own words: one more in common. -/
theorem shared_iff : ∀ (s t : List UInt8) (n : Nat), n ≤ s.length → n ≤ t.length → s.take n = t.take n → (n = s.length ∨ n = t.length ∨ s[n]? ≠ t[n]?) → shared s t = n
  | [], t, n, h1, _, _, _ => by simp at h1; subst h1; simp [shared]
  | x :: s, [], n, _, h2, _, _ => by simp at h2; subst h2; simp [shared]
  | x :: s, y :: t, 0, _, _, _, h4 => by
    unfold shared
    rw [if_neg]
    rintro rfl
    simp at h4
  | x :: s, y :: t, n + 1, h1, h2, h3, h4 => by
    rw [List.take_succ_cons, List.take_succ_cons] at h3
    obtain ⟨rfl, h5⟩ := List.cons.inj h3
    unfold shared
    rw [if_pos rfl, shared_iff s t n (by simpa using h1) (by simpa using h2) h5 (by simpa using h4)]
end Go.Proofs.YtkidabedcgngcaaGreatDoor

/-
  The checksum of a list of bytes (mathematics).
-/
namespace Go.Proofs.YtkidabedcgngcaaGreatDoor
set_option linter.unusedVariables false
set_option linter.unusedSimpArgs false

/-- One bit. -/
def sh (c : BitVec 32) : BitVec 32 := if c.toNat % 2 = 1 then (c >>> 1) ^^^ 3988292384#32 else c >>> 1
def shN : Nat → BitVec 32 → BitVec 32
  | 0, c => c
  | k + 1, c => sh (shN k c)
/-- One byte. -/
def crcB (c : BitVec 32) (x : UInt8) : BitVec 32 := shN 8 (c ^^^ BitVec.ofNat 32 x.toNat)
def crcTo (c : BitVec 32) (xs : List UInt8) : BitVec 32 := xs.foldl crcB c
def crc (xs : List UInt8) : BitVec 32 := crcTo 4294967295#32 xs ^^^ 4294967295#32
theorem crcTo_snoc (c : BitVec 32) (xs : List UInt8) (x : UInt8) : crcTo c (xs ++ [x]) = crcB (crcTo c xs) x := by simp [crcTo]
theorem crcTo_append (c : BitVec 32) (xs ys : List UInt8) : crcTo c (xs ++ ys) = crcTo (crcTo c xs) ys := by simp [crcTo]

theorem bit0 (c : BitVec 32) : c.getLsbD 0 = decide (c.toNat % 2 = 1) := by
  unfold BitVec.getLsbD
  exact Nat.testBit_zero _
theorem sh_inj {a b : BitVec 32} (h : sh a = sh b) : a = b := by
  have top : ∀ c : BitVec 32, (sh c).getLsbD 31 = c.getLsbD 0 := by
    intro c
    unfold sh
    by_cases h : c.toNat % 2 = 1
    · rw [if_pos h, BitVec.getLsbD_xor, BitVec.getLsbD_ushiftRight, BitVec.getLsbD_of_ge c (1 + 31) (by omega)]
      have : c.getLsbD 0 = true := by rw [bit0]; simp [h]
      rw [this]; decide
    · rw [if_neg h, BitVec.getLsbD_ushiftRight, BitVec.getLsbD_of_ge c (1 + 31) (by omega)]
      have : c.getLsbD 0 = false := by rw [bit0]; simp [h]
      rw [this]
  have low : a.getLsbD 0 = b.getLsbD 0 := by rw [← top a, ← top b, h]
  have par : (a.toNat % 2 = 1) ↔ (b.toNat % 2 = 1) := by
    rw [bit0, bit0] at low
    exact decide_eq_decide.1 low
  have hs : a >>> 1 = b >>> 1 := by
    unfold sh at h
    by_cases q : a.toNat % 2 = 1
    · rw [if_pos q, if_pos (par.1 q)] at h
      exact (BitVec.xor_left_inj _).1 h
    · rw [if_neg q, if_neg (fun r => q (par.2 r))] at h
      exact h
  apply BitVec.eq_of_getLsbD_eq
  intro i hi
  cases i with
  | zero => exact low
  | succ i =>
    have := congrArg (fun x => x.getLsbD i) hs
    simp only [BitVec.getLsbD_ushiftRight] at this
    rw [Nat.add_comm]; exact this
theorem shN_inj : ∀ (k : Nat) {a b : BitVec 32}, shN k a = shN k b → a = b
  | 0, _, _, h => h
  | k + 1, _, _, h => shN_inj k (sh_inj h)
theorem crcB_inj {a b : BitVec 32} {x : UInt8} (h : crcB a x = crcB b x) : a = b := (BitVec.xor_left_inj _).1 (shN_inj 8 h)
theorem crcTo_inj : ∀ (xs : List UInt8) {a b : BitVec 32}, crcTo a xs = crcTo b xs → a = b
  | [], _, _, h => h
  | x :: xs, a, b, h => crcB_inj (crcTo_inj xs (show crcTo (crcB a x) xs = crcTo (crcB b x) xs from h))
/-- One byte changed: another checksum. -/
theorem crc_one {xs ys : List UInt8} {a b : UInt8} (hab : ¬ a = b) : ¬ crc (xs ++ a :: ys) = crc (xs ++ b :: ys) := by
  intro h
  have h1 := (BitVec.xor_left_inj _).1 h
  rw [crcTo_append, crcTo_append] at h1
  have h2 : crcB (crcTo 4294967295#32 xs) a = crcB (crcTo 4294967295#32 xs) b := crcTo_inj ys h1
  have h3 := (BitVec.xor_right_inj _).1 (shN_inj 8 h2)
  apply hab
  apply UInt8.toNat_inj.1
  have h4 := congrArg BitVec.toNat h3
  have ha := u8lt a
  have hb := u8lt b
  rw [BitVec.toNat_ofNat, BitVec.toNat_ofNat, Nat.mod_eq_of_lt (by omega), Nat.mod_eq_of_lt (by omega)] at h4
  exact h4
end Go.Proofs.YtkidabedcgngcaaGreatDoor

/-
  Bytes in memory.
-/
namespace Go.Proofs.YtkidabedcgngcaaGreatDoor
open Go.ChangeShapes Go.WideShapes Go.ChangeAt Go.RowKit Go.Deep
set_option linter.unusedVariables false
set_option linter.unusedSimpArgs false
set_option maxRecDepth 100000

abbrev ub (x : UInt8) : Value := .int .u8 (x.toNat : Int)
/-- The bytes lie there. -/
def BysAt (w : World) (b off : Nat) (xs : List UInt8) : Prop := ∀ i x, xs[i]? = some x → w.cell? ⟨b, off + i, none⟩ = some (ub x)
theorem BysAt.below {B : Nat} {w w' : World} {b off : Nat} {xs : List UInt8} (h : BysAt w b off xs) (hb : Below B w w') (hlt : b < B) : BysAt w' b off xs := by
  intro i x hx
  rw [hb.cell (p := ⟨b, off + i, none⟩) hlt]
  exact h i x hx

theorem xor32 (s t : BitVec 32) {x : Int} (hx : x = (t.toNat : Int)) : bits .xor .u32 (s.toNat : Int) x = ((s ^^^ t).toNat : Int) := by
  subst hx
  have h1 : BitVec.ofInt 32 (s.toNat : Int) = s := by simp
  have h2 : BitVec.ofInt 32 (t.toNat : Int) = t := by simp
  show IntKind.wrap .u32 ((BitVec.ofInt 32 (s.toNat : Int) ^^^ BitVec.ofInt 32 (t.toNat : Int)).toNat : Int) = _
  rw [h1, h2]
  have := (s ^^^ t).isLt
  simp only [IntKind.wrap, IntKind.bits, IntKind.signed, Bool.false_and, Bool.false_eq_true, if_false]
  omega
end Go.Proofs.YtkidabedcgngcaaGreatDoor

/-
  Bytes of the call's own; append; l2Num, l2Cat, l2Str, l2Fixed, l2Shared.
-/
namespace Go.Proofs.YtkidabedcgngcaaGreatDoor
open Go.ChangeShapes Go.WideShapes Go.ChangeAt Go.RowKit Go.Deep
set_option linter.unusedVariables false
set_option linter.unusedSimpArgs false
set_option maxRecDepth 100000

/-- A row of bytes of the call's own. -/
def OwnY (w : World) (base g cp : Nat) (xs : List UInt8) : Prop := w.ownsRow base 5 1 (.slice (some ⟨g, 0, none⟩) xs.length cp) xs.length (xs.map ub)
theorem OwnY.lt {w : World} {base g cp : Nat} {xs : List UInt8} (h : OwnY w base g cp xs) : base ≤ g ∧ g < w.heap.size := World.ownsRow.lt h g rfl
theorem OwnY.chg {S : Nat → Prop} {w w' : World} {base g cp : Nat} {xs : List UInt8} (h : OwnY w base g cp xs) (hc : Chg S w w') (hn : ¬ S g) : OwnY w' base g cp xs := own_chg h hc (fun k q => by simp [Value.ownBlock] at q; subst q; exact hn)
theorem OwnY.below {w w' : World} {base g cp : Nat} {xs : List UInt8} (h : OwnY w base g cp xs) (hb : Below w.heap.size w w') : OwnY w' base g cp xs := h.chg (Chg.of_below hb) (S := fun _ => False) (fun q => q)
theorem OwnY.at {w : World} {base g cp : Nat} {xs : List UInt8} (h : OwnY w base g cp xs) : BysAt w g 0 xs := by
  intro k x hx
  have hk := (List.getElem?_eq_some_iff.1 hx).1
  rw [Nat.zero_add, World.ownsRow.cellAt h k (by omega), List.getElem?_map, hx]; rfl
theorem OwnY.caps {w : World} {base g cp : Nat} {xs : List UInt8} (h : OwnY w base g cp xs) : xs.length ≤ cp ∧ cp ≤ maxLen := by
  rcases h.2 with ⟨h0, _⟩ | ⟨g', cap', cur, hv, _, _, hn, hcap, _, _⟩
  · cases h0
  · simp only [Value.slice.injEq, Option.some.injEq, Addr.mk.injEq, and_true, true_and] at hv
    obtain ⟨rfl, rfl⟩ := hv
    exact ⟨hn, hcap⟩
theorem OwnY.mono {w : World} {base base' g cp : Nat} {xs : List UInt8} (h : OwnY w base g cp xs) (hb : base' ≤ base) : OwnY w base' g cp xs := by
  refine ⟨h.1, ?_⟩
  rcases h.2 with hn | ⟨g', cap', cur, hv, h1, rest⟩
  · exact .inl hn
  · exact .inr ⟨g', cap', cur, hv, Nat.le_trans hb h1, rest⟩
theorem ub_one (xs : List UInt8) : ∀ u ∈ xs.map ub, u.oneCell' = true := by
  intro u hu
  obtain ⟨r, _, rfl⟩ := List.mem_map.1 hu
  rfl
theorem Tryz.infoByte : (Tryz.prog.info? 5).map (fun i => (i.zero, i.size, i.bytes)) = some (some (.int .u8 0), 1, 1) := by kernel_rfl
/-- Bytes appended to a row of the call's own. -/
theorem wpList_append_bys {ops : Array Oper} {rest : List Oper} {o : Oper} {a : Act} {Q : Exit → Act → World → Prop} (w : World) (hgd : o.guard = none) (s x : Operand)
    (ho : o.op = .call { callee := .builtin .append, args := #[s, x], argTypes := #[40, 40] })
    (base g cp n b off m cx : Nat) (l k : List UInt8) (hs : a.eval s = .slice (some ⟨g, 0, none⟩) n cp) (hx : a.eval x = .slice (some ⟨b, off, none⟩) m cx) (hn : n = l.length) (hm : m = k.length) (hO : OwnY w base g cp l)
    (hc : BysAt w b off k) (hlen : l.length + k.length ≤ 2 ^ 30) (hbase : base ≤ w.heap.size)
    (h : ∀ g' cp' w', OwnY w' base g' cp' (l ++ k) → w.grownBy w' (some g) → (g' = g ∨ g' = w.heap.size) → wpList Tryz.prog ops Q rest (a.put o.dst (.slice (some ⟨g', 0, none⟩) (n + m) cp')) w') : wpList Tryz.prog ops Q (o :: rest) a w := by
  subst hn hm
  obtain ⟨i, hi, hz0, hz1, hz2⟩ := info_parts Tryz.infoByte
  refine wpList_append_own_at w hgd s x 40 ho base 5 i _ 1 1 Tryz.underlying40 hi hz0 hz1 hz2 rfl (by decide) (.slice (some ⟨g, 0, none⟩) l.length cp) l.length (l.map ub) hs hO ⟨b, off, none⟩ k.length cx (k.map ub) hx (by simp) ?_ (ub_one k) ?_ ?_ hbase ?_
  · intro j u hu
    rw [List.getElem?_map] at hu
    cases hk : k[j]? with
    | none => rw [hk] at hu; cases hu
    | some r =>
      rw [hk] at hu
      simp at hu
      rw [Addr.add_mid, hc j r hk, ← hu]
  · unfold maxLen; omega
  · omega
  · intro v' w' hO' hgr hnil hat
    rcases hO'.2 with ⟨h0, _⟩ | ⟨g', cap', cur, hv, _, _, hn, hcap, _, _⟩
    · have := (hnil.1 h0).1
      cases this
    · subst hv
      refine h g' cap' w' ?_ hgr ?_
      · unfold OwnY
        rw [List.length_append, List.map_append]
        exact hO'
      · simp [Value.ownBlock] at hat
        exact hat
theorem ownY_new (w : World) {base : Nat} (hb : base ≤ w.heap.size) : OwnY (w.alloc (Obj.cells #[] 5)) base w.heap.size 0 [] :=
  World.ownsRow_made w #[] 0 hb (Nat.zero_le _) (by simp)
theorem ownY_one (w : World) {base : Nat} (hb : base ≤ w.heap.size) (x : UInt8) {v : Int} (hv : v = (x.toNat : Int)) : OwnY (w.alloc (Obj.cells #[.int .u8 v] 5)) base w.heap.size 1 [x] := by
  subst hv
  exact World.ownsRow_lit w #[ub x] 1 hb (by decide) rfl

end Go.Proofs.YtkidabedcgngcaaGreatDoor

/-
  (impl.seqNode).prefix, impl.PrefixOf.
-/
namespace Go.Proofs.YtkidabedcgngcaaGreatDoor
open Go.ChangeShapes Go.WideShapes Go.ChangeAt Go.RowKit Go.Deep
set_option linter.unusedVariables false
set_option linter.unusedSimpArgs false
set_option maxRecDepth 100000

theorem pb_assert (b : UInt8) (w : World) : (Instr.typeAssert (byteV b) 209 211 true).run Tryz.prog w = .ok (.tuple #[.agg #[.int .u8 (b.toNat : Int)], .bool true]) w := by kernel_rfl
theorem pb_other {T : Nat} (hT : T = 217 ∨ T = 219 ∨ T = 142) (cs : Array Value) (w : World) : (Instr.typeAssert (.iface T (.agg cs)) 209 211 true).run Tryz.prog w = .ok (.tuple #[.agg #[.int .u8 0], .bool false]) w := by
  rcases hT with rfl | rfl | rfl <;> kernel_rfl
theorem conv_ownY {w : World} {base g cap : Nat} {zs : List UInt8} (h : OwnY w base g cap zs) : (convert 40 9 (.slice (some ⟨g, 0, none⟩) zs.length cap)).run Tryz.prog w = .ok (.string ⟨zs.toArray⟩) w := by
  refine run_convert_bytes_back (P := Tryz.prog) w 40 9 5 ⟨g, 0, none⟩ cap zs Tryz.underlying40 Tryz.underlying5 Tryz.underlying9 ?_
  intro i hi
  have := World.ownsRow.cellAt h i (by omega)
  rw [Addr.add_mid, Nat.zero_add, this, List.getElem?_map, List.getElem?_eq_getElem hi]
  rfl
/-- A node that is a byte, and one that is not. -/
theorem NodeOk.kind {w : World} {lo : Nat → Prop} {t : Pat} {v : Value} (h : NodeOk w lo t v) : (∃ b, t = .byte b ∧ v = byteV b) ∨ (¬ isByte t ∧ ∃ T cs, v = .iface T (.agg cs) ∧ (T = 217 ∨ T = 219 ∨ T = 142)) := by
  obtain ⟨n, hn⟩ := h
  cases n with
  | zero => exact hn.elim
  | succ n =>
    cases t with
    | byte b => exact .inl ⟨b, rfl, hn⟩
    | cls f => exact .inr ⟨fun h => h, _, _, hn, .inl rfl⟩
    | rep t o r => obtain ⟨u, h1, _⟩ := hn; exact .inr ⟨fun h => h, _, _, h1, .inr (.inl rfl)⟩
    | alt os => obtain ⟨u, h1, _⟩ := hn; exact .inr ⟨fun h => h, _, _, h1, .inr (.inr rfl)⟩
/-- A seq's nodes, one by one. -/
theorem SeqAt.nth {w : World} {R : Nat → Prop} {ts : List Pat} {u : Value} (h : SeqAt w R ts u) : ∃ a cp, u = .slice a ts.length cp ∧ ∀ k t, ts[k]? = some t → ∃ gs v, a = some ⟨gs, 0, none⟩ ∧ gs < w.heap.size ∧ w.cell? ⟨gs, k, none⟩ = some v ∧ NodeOk w R t v := by
  obtain ⟨n, h | ⟨g, cp, us, h1, h2, h3, h4⟩⟩ := h
  · obtain ⟨rfl, rfl⟩ := h
    exact ⟨none, 0, rfl, fun k t ht => by simp at ht⟩
  · refine ⟨_, cp, h1, fun k t ht => ?_⟩
    have hk := (List.getElem?_eq_some_iff.1 ht).1
    obtain ⟨v, hv⟩ : ∃ v, us[k]? = some v := ⟨_, List.getElem?_eq_getElem (by omega)⟩
    exact ⟨g, v, rfl, h3.lt, h3.val k v hv, n, h4 k v t hv ht⟩
def set2 (w : World) (g : Nat) (a b : Value) : World := (w.setCell ⟨g, 0, none⟩ a).setCell ⟨g, 1, none⟩ b
theorem set2_cells {w : World} {base t g : Nat} {x y : Value} (h : BoxAt w base t 2 g [x, y]) (a b : Value) : BoxAt (set2 w g a b) base t 2 g [a, b] := ((h.set 0 a).set 1 b)

theorem AltAt.nth {w : World} {R : Nat → Prop} {os : List (List Pat)} {u : Value} (h : AltAt w R os u) : ∃ g cp, u = .slice (some ⟨g, 0, none⟩) os.length cp ∧ g < w.heap.size ∧ ∀ k ts, os[k]? = some ts → ∃ v, w.cell? ⟨g, k, none⟩ = some v ∧ SeqAt w R ts v := by
  obtain ⟨n, g, cp, us, h1, h2, h3, h4⟩ := h
  refine ⟨g, cp, h1, h3.lt, fun k ts ht => ?_⟩
  have hk := (List.getElem?_eq_some_iff.1 ht).1
  obtain ⟨v, hv⟩ : ∃ v, us[k]? = some v := ⟨_, List.getElem?_eq_getElem (by omega)⟩
  exact ⟨v, h3.val k v hv, n, h4 k v ts hv ht⟩
theorem pref_is (p : ByteArray) (hp : p.size ≤ maxLen) : (checkM (sb p)).1 = 0 → ∃ os, AltOk (sb p) 0 0 p.size os := by
  intro h
  obtain ⟨e, w', fr, ⟨u, _, _, (⟨_, os, h1, _⟩ | ⟨h1, _⟩)⟩, _⟩ := readPattern_core p default hp []
  · exact ⟨os, h1⟩
  · exact absurd h h1
/-- What PrefixOf of a pattern comes to. -/
def PrefIs (p : ByteArray) (r : List UInt8 × Bool) : Prop := (¬ (checkM (sb p)).1 = 0 → r = ([], false)) ∧ ((checkM (sb p)).1 = 0 → ∀ os, AltOk (sb p) 0 0 p.size os → r = prefOf os)
theorem prefIs_some (p : ByteArray) (hp : p.size ≤ maxLen) : ∃ r, PrefIs p r := by
  by_cases h : (checkM (sb p)).1 = 0
  · obtain ⟨os, ho⟩ := pref_is p hp h
    refine ⟨prefOf os, fun q => absurd h q, fun _ us hu => prefOf_one (by rw [sb_len]; exact ho) (by rw [sb_len]; exact hu)⟩
  · exact ⟨_, fun _ => rfl, fun q => absurd q h⟩
theorem seqG_len {A : List UInt8 → Pat → Prop} (hA : ∀ xs t, A xs t → 0 < xs.length) : ∀ {ts : List Pat} {xs : List UInt8}, SeqG A ts xs → ts.length ≤ xs.length
  | [], _, _ => Nat.zero_le _
  | _ :: ts, _, ⟨ys, zs, h1, ⟨us, ops, a, h2, h3, _⟩, h4⟩ => by
    have := seqG_len hA h4
    have := hA _ _ h3
    rw [h1, h2]
    simp
    omega

end Go.Proofs.YtkidabedcgngcaaGreatDoor

/-
  impl.MatchRegex.
-/
namespace Go.Proofs.YtkidabedcgngcaaGreatDoor
open Go.ChangeShapes Go.WideShapes Go.ChangeAt Go.RowKit Go.Deep
set_option linter.unusedVariables false
set_option linter.unusedSimpArgs false
set_option maxRecDepth 100000

set_option maxHeartbeats 1000000 in
theorem matches_long (M : Nat) (s : ByteArray) (hs : 200 < s.size) (w : World) : Calls Tryz.prog 106 #[.pointer (some ⟨M, 0, none⟩), .string s] w fun e w' => e = .returned (.bool false) ∧ w' = w := by
  have zs : (200 : Int) < (s.size : Int) := by omega
  go_enter Tryz.func106, Tryz.ntmps106
  go_wp2_with fail
  go_ret
  exact ⟨rfl, rfl⟩
/-- A pattern without a fault, made and matched. -/
theorem made_matches (os : List (List Pat)) (hwt : wtA os ≤ 250) (s : ByteArray) (w w' : World) {M G cp mp : Nat} (h : MtrI w' w.heap.size M (mkT (lyA os (Lay.no 1))) G cp (lyA os (Lay.no 1)).nx (mkE (lyA os (Lay.no 1))) (mkN (lyA os (Lay.no 1)) (nulA os)) mp) (hm : w'.heap[mp]? = some (.map #[] 0)) (hb : w.heap.size ≤ mp) : Calls Tryz.prog 106 #[.pointer (some ⟨M, 0, none⟩), .string s] w' fun e w2 => ∃ b : Bool, e = .returned (.bool b) ∧ Hid ((b = true ↔ s.size ≤ 200 ∧ LgA os (sb s)) ∧ Chg (fun k => k = mp) w' w2) := by
  have hc := cor_P (.alt os) 1
  have e1 : lyP (.alt os) 1 = lyA os (Lay.no 1) := by simp only [lyP]
  rw [e1] at hc
  have hnx : (lyA os (Lay.no 1)).nx ≤ 256 := by have := nx_A os (Lay.no 1); simp only [Lay.no] at this; simp only [Lay.no]; omega
  by_cases hs : s.size ≤ 200
  · refine (matches_core s hs w' h (StI.made hm) (fun b p hp => (hc.spt.tk p _ hp).2) hc.spt.le hnx hb).mono ?_
    rintro e w2 ⟨b, rfl, H⟩
    refine ⟨b, rfl, ?_, H.out.2⟩
    rw [H.out.1, run_words os hnx]
    exact ⟨fun q => ⟨hs, q⟩, fun q => q.2⟩
  · refine (matches_long M s (by omega) w').mono ?_
    rintro e w2 ⟨rfl, rfl⟩
    exact ⟨false, rfl, ⟨fun q => (by cases q), fun q => absurd q.1 hs⟩, Chg.refl _ _⟩
def MatR2 (p s : ByteArray) (w : World) (e : Ending) (w' : World) : Prop := ∃ b : Bool, e = .returned (.bool b) ∧ Hid (Below w.heap.size w w' ∧ ((¬ (checkM (sb p)).1 = 0 ∧ b = false) ∨ ((checkM (sb p)).1 = 0 ∧ ∃ n os, AltG (AtomG n) os (sb p) ∧ (b = true ↔ s.size ≤ 200 ∧ LgA os (sb s)))))
end Go.Proofs.YtkidabedcgngcaaGreatDoor

