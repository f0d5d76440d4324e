import Derived.Test.YtkidabedcgngcaaGreatDoorQMqX
import Derived.Test.YtkidabedcgngcaaGreatDoorPkAQ
import Derived.Test.YtkidabedcgngcaaGreatDoorPkAU
import Derived.Test.YtkidabedcgngcaaGreatDoorPkAA
import Derived.Test.YtkidabedcgngcaaGreatDoorPkAE
import Derived.Test.YtkidabedcgngcaaGreatDoorPkAW
import Derived.Test.YtkidabedcgngcaaGreatDoorPkAV
/-
  matches, however often.
-/
namespace Go.Proofs.YtkidabedcgngcaaGreatDoor
open Go.ChangeShapes Go.WideShapes Go.ChangeAt Go.RowKit Go.Deep
set_option linter.unusedVariables false
set_option linter.unusedSimpArgs false
set_option maxRecDepth 100000

def StU (w : World) (mp : Nat) (E : Nat → PS) (en : PS) : Prop := ∃ n, StI w mp n E en
theorem StU.chg {S : Nat → Prop} {w w' : World} {mp : Nat} {E : Nat → PS} {en : PS} (h : StU w mp E en) (hc : Chg S w w') (hn : ¬ S mp) : StU w' mp E en := by
  obtain ⟨n, h⟩ := h
  exact ⟨n, h.chg hc hn⟩
def StW (base M : Nat) (T : Nat → PS) (G cp a : Nat) (E : Nat → PS) (en : PS) (mp : Nat) (S : PS) (w : World) (e : Ending) (w' : World) : Prop :=
  e = .returned (stV (ahd E S) (acc en S)) ∧ Hid (MtrI w' base M T G cp a E en mp ∧ StU w' mp E en ∧ Chg (fun k => k = mp) w w')
theorem state_all {base M : Nat} {T : Nat → PS} {G cp a : Nat} {E : Nat → PS} {en : PS} {mp : Nat} (S : PS) (w : World) (h : MtrI w base M T G cp a E en mp) (hm : StU w mp E en) (hS : ∀ p, S p = true → p < a) (ha : a ≤ 256) (hbm : base ≤ mp) : Calls Tryz.prog 138 #[.pointer (some ⟨M, 0, none⟩), psV S] w (StW base M T G cp a E en mp S w) := by
  obtain ⟨n, D, hD⟩ := hm
  cases hh : Maps.has D (psK S) with
  | true =>
    refine (state_known S w h hD hh).mono ?_
    rintro e w' ⟨rfl, H⟩
    exact ⟨rfl, H.out.1, ⟨_, H.out.2.1⟩, H.out.2.2⟩
  | false =>
    refine (state_any S w h hD hh hS ha hbm).mono ?_
    rintro e w' ⟨rfl, H⟩
    exact ⟨rfl, H.out.1, ⟨_, H.out.2.1⟩, H.out.2.2⟩
/-- The matcher behind some bytes: the set is S. -/
structure MaU (w : World) (base M : Nat) (T : Nat → PS) (G cp a : Nat) (E : Nat → PS) (en : PS) (mp b5 : Nat) (S : PS) (X : World) : Prop where
  mtr : MtrI X base M T G cp a E en mp
  map : StU X mp E en
  box : BoxAt X w.heap.size 188 5 b5 (stL (ahd E S) (acc en S))
  chg : Chg (fun k => k = mp) w X
theorem MaU.below {w X X' : World} {base M : Nat} {T : Nat → PS} {G cp a : Nat} {E : Nat → PS} {en : PS} {mp b5 : Nat} {S : PS} (h : MaU w base M T G cp a E en mp b5 S X) (hb : Below X.heap.size X X') : MaU w base M T G cp a E en mp b5 S X' :=
  ⟨h.mtr.below hb, h.map.chg (S := fun _ => False) (Chg.of_below hb) (fun q => q), h.box.below hb, h.chg.trans (Chg.of_below hb)⟩
theorem MaU.ne {w X : World} {base M : Nat} {T : Nat → PS} {G cp a : Nat} {E : Nat → PS} {en : PS} {mp b5 : Nat} {S : PS} (h : MaU w base M T G cp a E en mp b5 S X) : ¬ M = b5 ∧ ¬ G = b5 ∧ ¬ mp = b5 ∧ ¬ M = mp ∧ ¬ G = mp := by
  obtain ⟨n, D, hD⟩ := h.map
  exact ⟨fun q => own_apart h.mtr.box h.box (by decide) M rfl (by rw [q]; rfl), fun q => own_apart h.mtr.row h.box (by decide) G rfl (by rw [q]; rfl), StD.ne hD h.box, fun q => StD.ne hD h.mtr.box q.symm, fun q => StD.ne hD h.mtr.row q.symm⟩
def MaP3 (base M : Nat) (T : Nat → PS) (G cp a : Nat) (E : Nat → PS) (en : PS) (mp : Nat) (s : ByteArray) (w : World) (e : Ending) (w' : World) : Prop := ∃ b : Bool, e = .returned (.bool b) ∧ Hid ((b = true ↔ acc en (runS E T (sOne 0) (sb s)) = true) ∧ MtrI w' base M T G cp a E en mp ∧ StU w' mp E en ∧ Chg (fun k => k = mp) w w')
set_option maxHeartbeats 8000000 in
theorem matches_any {base M : Nat} {T : Nat → PS} {G cp a : Nat} {E : Nat → PS} {en : PS} {mp : Nat} (s : ByteArray) (hs : s.size ≤ 200) (w : World) (h : MtrI w base M T G cp a E en mp) (hm : StU w mp E en) (hT : ∀ b p, T b p = true → p < a) (ha0 : 0 < a) (ha : a ≤ 256) (hbm : base ≤ mp) : Calls Tryz.prog 106 #[.pointer (some ⟨M, 0, none⟩), .string s] w (MaP3 base M T G cp a E en mp s w) := by
  have HI : Hid (MtrI w base M T G cp a E en mp ∧ StU w mp E en ∧ base ≤ w.heap.size) := ⟨h, hm, by have := h.ltM; omega⟩
  have HT : Hid (∀ b p, T b p = true → p < a) := hT
  have HWi : Hid (∀ wx : World, Calls Tryz.prog 137 #[.agg #[.int .u64 0, .int .u64 0, .int .u64 0, .int .u64 0], .int .i64 0] wx fun e w' => e = .returned (psV (sOne 0)) ∧ Below wx.heap.size wx w') := fun wx => by
    have := with_core sNo 0 (by omega) wx
    rw [show sOr sNo (sOne 0) = sOne 0 by funext p; simp [sOr, sNo], psV_no] at this
    exact this
  have zs : ¬ (200 : Int) < (s.size : Int) := by omega
  have hone : ∀ p, sOne 0 p = true → p < a := fun p hp => by
    have h0 : p = 0 := by simpa [sOne] using hp
    omega
  clear h hm hT
  go_enter Tryz.func106, Tryz.ntmps106
  go_wp2_with fail
  refine (HWi.out _).mono ?_
  rintro e w1 ⟨rfl, hb1⟩
  have HSt : Hid (Calls Tryz.prog 138 #[.pointer (some ⟨M, 0, none⟩), psV (sOne 0)] w1 (StW base M T G cp a E en mp (sOne 0) w1)) := state_all (sOne 0) w1 (HI.out.1.below hb1) (HI.out.2.1.chg (S := fun _ => False) (Chg.of_below hb1) (fun q => q)) hone ha hbm
  go_wp2_with fail
  refine HSt.out.mono ?_
  rintro e w2 ⟨rfl, H2⟩
  obtain ⟨W3, hW3⟩ : ∃ W3 : World, W3 = w2.alloc (.cells (stL (ahd E (sOne 0)) (acc en (sOne 0))).toArray 188) := ⟨_, rfl⟩
  have k3 : Below w2.heap.size w2 W3 := by rw [hW3]; exact (Below.refl _ _).alloc (Nat.le_refl _) _
  have hsz : w.heap.size ≤ w2.heap.size := Nat.le_trans hb1.size H2.out.2.2.size
  have hx2 : Chg (fun k => k = mp) w w2 := (Chg.of_below hb1).trans H2.out.2.2
  obtain ⟨b5, hb5⟩ : ∃ b5, b5 = w2.heap.size := ⟨_, rfl⟩
  have HW3 : Hid (MaU w base M T G cp a E en mp b5 (sOne 0) W3 ∧ w.heap.size ≤ b5) := by
    have b3 := boxAt_new w2 (base := w.heap.size) (t := 188) (sz := 5) (stL (ahd E (sOne 0)) (acc en (sOne 0))).toArray hsz rfl
    exact ⟨⟨H2.out.1.below k3, H2.out.2.1.chg (S := fun _ => False) (Chg.of_below k3) (fun q => q), by rw [hW3, hb5]; exact b3, hx2.trans (Chg.of_below k3)⟩, by omega⟩
  go_upto_region 4 with fail
  have hW3' := hW3
  simp only [stL] at hW3'
  rw [← hW3', ← hb5]
  clear hW3 hW3' k3 hsz hx2 hb5 H2 HSt hb1
  go_wp2_with fail
  go_loopw [6] (fun iv wr => ∃ k : Nat, k ≤ s.size ∧ iv = .int .i64 k ∧ Hid (MaU w base M T G cp a E en mp b5 (runS E T (sOne 0) ((sb s).take k)) wr)) (fun iv _ => s.size - (intOf iv).toNat)
  case atStart => exact ⟨0, Nat.zero_le _, rfl, HW3.out.1⟩
  case round =>
    obtain ⟨k, hk, rfl, HJ⟩ := hrel
    by_cases hlt : k < s.size
    · have zk : (k : Int) < (s.size : Int) := by omega
      obtain ⟨x, hx⟩ : ∃ x, (sb s)[k]? = some x := ⟨_, List.getElem?_eq_getElem (by rw [sb_len]; exact hlt)⟩
      obtain ⟨_, gx⟩ := sb_get hx
      obtain ⟨Sk, hSk⟩ : ∃ Sk, Sk = runS E T (sOne 0) ((sb s).take k) := ⟨_, rfl⟩
      have hxl : x.toNat < 256 := x.toNat_lt
      rw [← hSk] at HJ
      have HN : Hid (runS E T (sOne 0) ((sb s).take (k + 1)) = stp E T Sk x ∧ True ∧ runS E T (sOne 0) (sb s) = runS E T (stp E T Sk x) ((sb s).drop (k + 1))) := by
        have h1 : (sb s).take (k + 1) = (sb s).take k ++ [x] := by rw [List.take_add_one, hx]; rfl
        have h2 : runS E T (sOne 0) ((sb s).take (k + 1)) = stp E T Sk x := by rw [h1, runS_snoc, ← hSk]
        refine ⟨h2, trivial, ?_⟩
        rw [← h2, ← runS_app, List.take_append_drop]
      have HSk : Hid (∀ X, MaU w base M T G cp a E en mp b5 Sk X → (X.cell? ⟨b5, 0, none⟩ = some (.int .u64 (wdN (ahd E Sk) 0 : Int)) ∧ X.cell? ⟨b5, 1, none⟩ = some (.int .u64 (wdN (ahd E Sk) 1 : Int)) ∧ X.cell? ⟨b5, 2, none⟩ = some (.int .u64 (wdN (ahd E Sk) 2 : Int)) ∧ X.cell? ⟨b5, 3, none⟩ = some (.int .u64 (wdN (ahd E Sk) 3 : Int)) ∧ X.cell? ⟨M, x.toNat * 4, none⟩ = some (.int .u64 (wdN (T x.toNat) 0 : Int)) ∧ X.cell? ⟨M, x.toNat * 4 + 1, none⟩ = some (.int .u64 (wdN (T x.toNat) 1 : Int)) ∧ X.cell? ⟨M, x.toNat * 4 + 2, none⟩ = some (.int .u64 (wdN (T x.toNat) 2 : Int)) ∧ X.cell? ⟨M, x.toNat * 4 + 3, none⟩ = some (.int .u64 (wdN (T x.toNat) 3 : Int)))) := fun X h => by
        obtain ⟨g0, g1, g2, g3, _⟩ := h.mtr.taken4 hxl
        exact ⟨h.box.cell (j := 0) rfl, h.box.cell (j := 1) rfl, h.box.cell (j := 2) rfl, h.box.cell (j := 3) rfl, g0, g1, g2, g3⟩
      have HCm : Hid (∀ wx : World, Calls Tryz.prog 139 #[psV (ahd E Sk), psV (T x.toNat)] wx fun e w' => e = .returned (psV (stp E T Sk x)) ∧ Below wx.heap.size wx w') := fun wx => by
        have := common_core (ahd E Sk) (T x.toNat) wx
        unfold stp
        exact this
      have zx : (x.toNat : Int) < 256 := by omega
      have HX : Hid ((sb s)[k]? = some x) := hx
      clear hx hSk
      go_upto_region 7 with fail
      refine wp_region_T 99 (fun wz => wz.cell? ⟨b5, 0, none⟩ = some (.int .u64 (wdN (ahd E Sk) 0 : Int)) ∧ wz.cell? ⟨b5, 1, none⟩ = some (.int .u64 (wdN (ahd E Sk) 1 : Int)) ∧ wz.cell? ⟨b5, 2, none⟩ = some (.int .u64 (wdN (ahd E Sk) 2 : Int)) ∧ wz.cell? ⟨b5, 3, none⟩ = some (.int .u64 (wdN (ahd E Sk) 3 : Int)) ∧ wz.cell? ⟨M, x.toNat * 4, none⟩ = some (.int .u64 (wdN (T x.toNat) 0 : Int)) ∧ wz.cell? ⟨M, x.toNat * 4 + 1, none⟩ = some (.int .u64 (wdN (T x.toNat) 1 : Int)) ∧ wz.cell? ⟨M, x.toNat * 4 + 2, none⟩ = some (.int .u64 (wdN (T x.toNat) 2 : Int)) ∧ wz.cell? ⟨M, x.toNat * 4 + 3, none⟩ = some (.int .u64 (wdN (T x.toNat) 3 : Int))) (by kernel_rfl) ?_
      refine anyT_takeN (i := 0) (v := ?vh0) rfl (by kernel_rfl) (by kernel_rfl) (by kernel_rfl) (by rfl) (fun _ _ _ h => h) (Or.inl ⟨by rfl, ?yh0⟩) (HSk.out _ (HJ.out.below ((Below.refl _ _).drew))) ?_
      case yh0 => (intro wz hSw; obtain ⟨d0, d1, d2, d3, d4, d5, d6, d7⟩ := hSw; go_simp; (try with_reducible rfl))
      try simp only [Act.put, List.getElem_toArray, List.getElem_cons_zero, List.getElem_cons_succ, List.setIfInBounds_toArray, List.set_cons_zero, List.set_cons_succ]
      refine anyT_takeN (i := 1) (v := ?vh1) rfl (by kernel_rfl) (by kernel_rfl) (by kernel_rfl) (by rfl) (fun _ _ _ h => h) (Or.inl ⟨by rfl, ?yh1⟩) (HSk.out _ (HJ.out.below ((Below.refl _ _).drew))) ?_
      case yh1 => (intro wz hSw; obtain ⟨d0, d1, d2, d3, d4, d5, d6, d7⟩ := hSw; go_simp; (try with_reducible rfl))
      try simp only [Act.put, List.getElem_toArray, List.getElem_cons_zero, List.getElem_cons_succ, List.setIfInBounds_toArray, List.set_cons_zero, List.set_cons_succ]
      refine anyT_takeN (i := 2) (v := ?vh2) rfl (by kernel_rfl) (by kernel_rfl) (by kernel_rfl) (by rfl) (fun _ _ _ h => h) (Or.inl ⟨by rfl, ?yh2⟩) (HSk.out _ (HJ.out.below ((Below.refl _ _).drew))) ?_
      case yh2 => (intro wz hSw; obtain ⟨d0, d1, d2, d3, d4, d5, d6, d7⟩ := hSw; go_simp; (try with_reducible rfl))
      try simp only [Act.put, List.getElem_toArray, List.getElem_cons_zero, List.getElem_cons_succ, List.setIfInBounds_toArray, List.set_cons_zero, List.set_cons_succ]
      refine anyT_takeN (i := 3) (v := ?vh3) rfl (by kernel_rfl) (by kernel_rfl) (by kernel_rfl) (by rfl) (fun _ _ _ h => h) (Or.inl ⟨by rfl, ?yh3⟩) (HSk.out _ (HJ.out.below ((Below.refl _ _).drew))) ?_
      case yh3 => (intro wz hSw; obtain ⟨d0, d1, d2, d3, d4, d5, d6, d7⟩ := hSw; go_simp; (try with_reducible rfl))
      try simp only [Act.put, List.getElem_toArray, List.getElem_cons_zero, List.getElem_cons_succ, List.setIfInBounds_toArray, List.set_cons_zero, List.set_cons_succ]
      refine anyT_takeN (i := 4) (v := ?vh4) rfl (by kernel_rfl) (by kernel_rfl) (by kernel_rfl) (by rfl) (fun _ _ _ h => h) (Or.inl ⟨by rfl, ?yh4⟩) (HSk.out _ (HJ.out.below ((Below.refl _ _).drew))) ?_
      case yh4 => (intro wz hSw; obtain ⟨d0, d1, d2, d3, d4, d5, d6, d7⟩ := hSw; go_simp; (try with_reducible rfl))
      try simp only [Act.put, List.getElem_toArray, List.getElem_cons_zero, List.getElem_cons_succ, List.setIfInBounds_toArray, List.set_cons_zero, List.set_cons_succ]
      refine anyT_takeN (i := 5) (v := ?vh5) rfl (by kernel_rfl) (by kernel_rfl) (by kernel_rfl) (by rfl) (fun _ _ _ h => h) (Or.inl ⟨by rfl, ?yh5⟩) (HSk.out _ (HJ.out.below ((Below.refl _ _).drew))) ?_
      case yh5 => (intro wz hSw; obtain ⟨d0, d1, d2, d3, d4, d5, d6, d7⟩ := hSw; go_simp; (try with_reducible rfl))
      try simp only [Act.put, List.getElem_toArray, List.getElem_cons_zero, List.getElem_cons_succ, List.setIfInBounds_toArray, List.set_cons_zero, List.set_cons_succ]
      refine anyT_takeN (i := 6) (v := ?vh6) rfl (by kernel_rfl) (by kernel_rfl) (by kernel_rfl) (by rfl) (fun _ _ _ h => h) (Or.inl ⟨by rfl, ?yh6⟩) (HSk.out _ (HJ.out.below ((Below.refl _ _).drew))) ?_
      case yh6 => (intro wz hSw; obtain ⟨d0, d1, d2, d3, d4, d5, d6, d7⟩ := hSw; go_simp; (try with_reducible rfl))
      try simp only [Act.put, List.getElem_toArray, List.getElem_cons_zero, List.getElem_cons_succ, List.setIfInBounds_toArray, List.set_cons_zero, List.set_cons_succ]
      refine anyT_takeN (i := 7) (v := ?vh7) rfl (by kernel_rfl) (by kernel_rfl) (by kernel_rfl) (by rfl) (fun _ _ _ h => h) (Or.inl ⟨by rfl, ?yh7⟩) (HSk.out _ (HJ.out.below ((Below.refl _ _).drew))) ?_
      case yh7 => (intro wz hSw; obtain ⟨d0, d1, d2, d3, d4, d5, d6, d7⟩ := hSw; go_simp; (try with_reducible rfl))
      try simp only [Act.put, List.getElem_toArray, List.getElem_cons_zero, List.getElem_cons_succ, List.setIfInBounds_toArray, List.set_cons_zero, List.set_cons_succ]
      refine anyT_takeN (i := 8) (v := ?vh8) rfl (by kernel_rfl) (by kernel_rfl) (by kernel_rfl) (by rfl) (fun _ _ _ h => h) (Or.inl ⟨by rfl, ?yh8⟩) (HSk.out _ (HJ.out.below ((Below.refl _ _).drew))) ?_
      case yh8 => (intro wz hSw; obtain ⟨d0, d1, d2, d3, d4, d5, d6, d7⟩ := hSw; go_simp; (try with_reducible rfl))
      try simp only [Act.put, List.getElem_toArray, List.getElem_cons_zero, List.getElem_cons_succ, List.setIfInBounds_toArray, List.set_cons_zero, List.set_cons_succ]
      refine anyT_takeN (i := 9) (v := ?vh9) rfl (by kernel_rfl) (by kernel_rfl) (by kernel_rfl) (by rfl) (fun _ _ _ h => h) (Or.inl ⟨by rfl, ?yh9⟩) (HSk.out _ (HJ.out.below ((Below.refl _ _).drew))) ?_
      case yh9 => (intro wz hSw; obtain ⟨d0, d1, d2, d3, d4, d5, d6, d7⟩ := hSw; go_simp; (try with_reducible rfl))
      try simp only [Act.put, List.getElem_toArray, List.getElem_cons_zero, List.getElem_cons_succ, List.setIfInBounds_toArray, List.set_cons_zero, List.set_cons_succ]
      refine anyT_two (i := 10) (j := 11) (by kernel_rfl) rfl rfl (fun K hK => ?_) (fun K hK => ?_)
      · go_simp
        refine (HCm.out _).mono ?_
        rintro r v3 ⟨rfl, hb3⟩
        have HV : Hid (MaU w base M T G cp a E en mp b5 Sk v3) := HJ.out.below (((Below.refl wr.heap.size wr).drew).trans hb3)
        refine hK.out _ _ (.inr (HSk.out _ HV.out)) ?_
        clear hK hb3
        try simp only [Act.put, List.getElem_toArray, List.getElem_cons_zero, List.getElem_cons_succ, List.setIfInBounds_toArray, List.set_cons_zero, List.set_cons_succ]
        refine anyT_one (i := 11) (by kernel_rfl) rfl (fun K hK => ?_)
        go_simp
        refine hK.out _ _ (.inr (HSk.out _ (HV.out.below (by repeat (first | exact Below.refl _ _ | refine Below.drew ?_ | refine Below.alloc ?_ (Nat.le_refl _) _ | refine below_set ?_ (Nat.le_refl _) _ _))))) ?_
        clear hK
        try simp only [Act.put, List.getElem_toArray, List.getElem_cons_zero, List.getElem_cons_succ, List.setIfInBounds_toArray, List.set_cons_zero, List.set_cons_succ]
        refine anyT_one (i := 12) (by kernel_rfl) rfl (fun K hK => ?_)
        go_simp
        refine hK.out _ _ (.inr (HSk.out _ (HV.out.below (by repeat (first | exact Below.refl _ _ | refine Below.drew ?_ | refine Below.alloc ?_ (Nat.le_refl _) _ | refine below_set ?_ (Nat.le_refl _) _ _))))) ?_
        clear hK
        try simp only [Act.put, List.getElem_toArray, List.getElem_cons_zero, List.getElem_cons_succ, List.setIfInBounds_toArray, List.set_cons_zero, List.set_cons_succ]
        refine anyT_done (by kernel_rfl) ?_
        obtain ⟨W4, hW4⟩ : ∃ W4 : World, W4 = v3.alloc (.cells (psL (stp E T Sk x)).toArray 178) := ⟨_, rfl⟩
        have k4 : Below v3.heap.size v3 W4 := by rw [hW4]; exact (Below.refl _ _).alloc (Nat.le_refl _) _
        have HW4 : Hid (MaU w base M T G cp a E en mp b5 Sk W4 ∧ BoxAt W4 w.heap.size 178 4 v3.heap.size (psL (stp E T Sk x))) := by
          have b4 := boxAt_new v3 (base := w.heap.size) (t := 178) (sz := 4) (psL (stp E T Sk x)).toArray HV.out.chg.size rfl
          exact ⟨HV.out.below k4, by rw [hW4]; exact b4⟩
        have hW4' := hW4
        simp only [psL] at hW4'
        rw [← hW4']
        clear hW4 hW4' k4
        have heq := ps_equal (stp E T Sk x)
        have q0 := HW4.out.2.cell (j := 0) rfl
        have q1 := HW4.out.2.cell (j := 1) rfl
        have q2 := HW4.out.2.cell (j := 2) rfl
        have q3 := HW4.out.2.cell (j := 3) rfl
        cases hne : noE (stp E T Sk x) with
        | true =>
          rw [hne] at heq
          have HFn : Hid ((false = true ↔ acc en (runS E T (sOne 0) (sb s)) = true)) := by
            refine ⟨fun q => (by cases q), fun q => ?_⟩
            rw [HN.out.2.2] at q
            have hd : ∀ p, p < 256 → (stp E T Sk x) p = false := fun p hp => by
              cases hx : (stp E T Sk x) p with
              | false => rfl
              | true => have := (noE_iff (stp E T Sk x)).2 ⟨p, hp, hx⟩; rw [hne] at this; cases this
            unfold acc at q
            rw [List.any_eq_true] at q
            obtain ⟨p, hp, hx⟩ := q
            rw [runS_dead E T _ _ hd p (List.mem_range.1 hp)] at hx
            cases hx
          clear hne
          go_wp2_with fail
          go_ret
          exact ⟨false, rfl, HFn.out, HW4.out.1.mtr, HW4.out.1.map, HW4.out.1.chg⟩
        | false =>
          rw [hne] at heq
          clear hne
          have HSt : Hid (Calls Tryz.prog 138 #[.pointer (some ⟨M, 0, none⟩), psV (stp E T Sk x)] W4 (StW base M T G cp a E en mp (stp E T Sk x) W4)) := state_all (stp E T Sk x) W4 HW4.out.1.mtr HW4.out.1.map (fun p hp => by
            unfold stp sAnd at hp
            rw [Bool.and_eq_true] at hp
            exact HT.out _ _ hp.2) ha hbm
          go_wp2_with fail
          refine HSt.out.mono ?_
          rintro e w5 ⟨rfl, H5⟩
          have hne5 := HW4.out.1.ne
          have HB5 := HW4.out.1.box.chg H5.out.2.2 (fun q => hne5.2.2.1 q.symm)
          have r0 := HB5.cell (j := 0) rfl
          have f0 := HB5.frozen 0
          have r1 := HB5.cell (j := 1) rfl
          have f1 := HB5.frozen 1
          have r2 := HB5.cell (j := 2) rfl
          have f2 := HB5.frozen 2
          have r3 := HB5.cell (j := 3) rfl
          have f3 := HB5.frozen 3
          have r4 := HB5.cell (j := 4) rfl
          have f4 := HB5.frozen 4
          have HJ2 : Hid (MaU w base M T G cp a E en mp b5 (runS E T (sOne 0) ((sb s).take (k + 1))) (set5 w5 b5 (ahd E (stp E T Sk x)) (acc en (stp E T Sk x)))) := by
            have hc : Chg (fun j => j = b5) w5 (set5 w5 b5 (ahd E (stp E T Sk x)) (acc en (stp E T Sk x))) := chg_set5 _ _ _ _ rfl
            have hbl := HW3.out.2
            have hbs := HI.out.2.2
            rw [HN.out.1]
            exact ⟨H5.out.1.chg hc hne5.1 hne5.2.1 (fun j q => by omega), H5.out.2.1.chg hc hne5.2.2.1, HB5.set5 _ _, chg_ownS (HW4.out.1.chg.trans H5.out.2.2) (hc.mono (fun j q => by omega))⟩
          simp only [set5] at HJ2
          clear HB5
          go_wp2_with fail
          refine ⟨⟨k + 1, by omega, by go_num, HJ2⟩, ?_⟩
          go_light
          simp [intOf]; omega
      · go_simp
        refine hK.out _ _ (.inr (HSk.out _ (HJ.out.below (by repeat (first | exact Below.refl _ _ | refine Below.drew ?_ | refine Below.alloc ?_ (Nat.le_refl _) _ | refine below_set ?_ (Nat.le_refl _) _ _))))) ?_
        clear hK
        try simp only [Act.put, List.getElem_toArray, List.getElem_cons_zero, List.getElem_cons_succ, List.setIfInBounds_toArray, List.set_cons_zero, List.set_cons_succ]
        have hX : Below wr.heap.size wr (wr.alloc (.cells z4 178)).drew := ((Below.refl _ _).alloc (Nat.le_refl _) _).drew
        have hBX : BoxAt (wr.alloc (.cells z4 178)).drew w.heap.size 178 4 wr.heap.size z4.toList := (boxAt_new wr z4 HJ.out.chg.size rfl).below ((Below.refl _ _).drew)
        refine anyT_one (i := 10) (by kernel_rfl) rfl (fun K hK => ?_)
        go_simp
        refine (HCm.out _).mono ?_
        rintro r v3 ⟨rfl, hb3⟩
        have HV : Hid (MaU w base M T G cp a E en mp b5 Sk v3) := HJ.out.below (hX.trans (hb3.mono hX.size))
        have HBx : Hid (BoxAt v3 w.heap.size 178 4 wr.heap.size z4.toList) := hBX.below hb3
        have y0 := HBx.out.cell (j := 0) rfl
        have o0 := HBx.out.frozen 0
        have y1 := HBx.out.cell (j := 1) rfl
        have o1 := HBx.out.frozen 1
        have y2 := HBx.out.cell (j := 2) rfl
        have o2 := HBx.out.frozen 2
        have y3 := HBx.out.cell (j := 3) rfl
        have o3 := HBx.out.frozen 3
        have hrow : ∀ cs : World, Chg (fun j => j = wr.heap.size) v3 cs → MaU w base M T G cp a E en mp b5 Sk cs := fun cs hc => by
          have h := HV.out
          have hbs := HI.out.2.2
          have hws := HJ.out.chg.size
          obtain ⟨_, D, hD⟩ := h.map
          have n1 : ¬ M = wr.heap.size := by have := HJ.out.mtr.ltM.2; omega
          have n2 : ¬ G = wr.heap.size := by have := HJ.out.mtr.ltG.2; omega
          have n3 : ¬ mp = wr.heap.size := StD.ne hD HBx.out
          have n4 : ¬ b5 = wr.heap.size := by have := HJ.out.box.lt.2; omega
          exact ⟨h.mtr.chg hc n1 n2 (fun j q => by omega), h.map.chg hc n3, h.box.chg hc n4, chg_ownS h.chg (hc.mono (fun j q => by omega))⟩
        have HRow : Hid (∀ cs : World, Chg (fun j => j = wr.heap.size) v3 cs → MaU w base M T G cp a E en mp b5 Sk cs) := hrow
        refine hK.out _ _ (.inr (HSk.out _ HV.out)) ?_
        clear hK hb3 hX hBX hrow
        try simp only [Act.put, List.getElem_toArray, List.getElem_cons_zero, List.getElem_cons_succ, List.setIfInBounds_toArray, List.set_cons_zero, List.set_cons_succ]
        refine anyT_one (i := 12) (by kernel_rfl) rfl (fun K hK => ?_)
        go_simp
        refine hK.out _ _ (.inr (HSk.out _ (HRow.out _ ((((Chg.of_set (S := fun j => j = wr.heap.size) _ wr.heap.size 0 _ rfl).trans (Chg.of_set (S := fun j => j = wr.heap.size) _ wr.heap.size 1 _ rfl)).trans (Chg.of_set (S := fun j => j = wr.heap.size) _ wr.heap.size 2 _ rfl)).trans (Chg.of_set (S := fun j => j = wr.heap.size) _ wr.heap.size 3 _ rfl))))) ?_
        clear hK
        try simp only [Act.put, List.getElem_toArray, List.getElem_cons_zero, List.getElem_cons_succ, List.setIfInBounds_toArray, List.set_cons_zero, List.set_cons_succ]
        refine anyT_done (by kernel_rfl) ?_
        obtain ⟨W4, hW4⟩ : ∃ W4 : World, W4 = set4 v3 wr.heap.size 0 (stp E T Sk x) := ⟨_, rfl⟩
        have HW4 : Hid (MaU w base M T G cp a E en mp b5 Sk W4 ∧ BoxAt W4 w.heap.size 178 4 wr.heap.size (psL (stp E T Sk x))) := by
          have hc : Chg (fun j => j = wr.heap.size) v3 W4 := by rw [hW4]; exact chg_set4 _ _ _ _ rfl
          have b4 := own_set4 HBx.out 0 (stp E T Sk x)
          rw [← hW4] at b4
          exact ⟨HRow.out _ hc, b4⟩
        have hW4' := hW4
        simp only [set4, Nat.zero_add] at hW4'
        rw [← hW4']
        clear hW4 hW4' y0 y1 y2 y3 o0 o1 o2 o3
        have heq := ps_equal (stp E T Sk x)
        have q0 := HW4.out.2.cell (j := 0) rfl
        have q1 := HW4.out.2.cell (j := 1) rfl
        have q2 := HW4.out.2.cell (j := 2) rfl
        have q3 := HW4.out.2.cell (j := 3) rfl
        cases hne : noE (stp E T Sk x) with
        | true =>
          rw [hne] at heq
          have HFn : Hid ((false = true ↔ acc en (runS E T (sOne 0) (sb s)) = true)) := by
            refine ⟨fun q => (by cases q), fun q => ?_⟩
            rw [HN.out.2.2] at q
            have hd : ∀ p, p < 256 → (stp E T Sk x) p = false := fun p hp => by
              cases hx : (stp E T Sk x) p with
              | false => rfl
              | true => have := (noE_iff (stp E T Sk x)).2 ⟨p, hp, hx⟩; rw [hne] at this; cases this
            unfold acc at q
            rw [List.any_eq_true] at q
            obtain ⟨p, hp, hx⟩ := q
            rw [runS_dead E T _ _ hd p (List.mem_range.1 hp)] at hx
            cases hx
          clear hne
          go_wp2_with fail
          go_ret
          exact ⟨false, rfl, HFn.out, HW4.out.1.mtr, HW4.out.1.map, HW4.out.1.chg⟩
        | false =>
          rw [hne] at heq
          clear hne
          have HSt : Hid (Calls Tryz.prog 138 #[.pointer (some ⟨M, 0, none⟩), psV (stp E T Sk x)] W4 (StW base M T G cp a E en mp (stp E T Sk x) W4)) := state_all (stp E T Sk x) W4 HW4.out.1.mtr HW4.out.1.map (fun p hp => by
            unfold stp sAnd at hp
            rw [Bool.and_eq_true] at hp
            exact HT.out _ _ hp.2) ha hbm
          go_wp2_with fail
          refine HSt.out.mono ?_
          rintro e w5 ⟨rfl, H5⟩
          have hne5 := HW4.out.1.ne
          have HB5 := HW4.out.1.box.chg H5.out.2.2 (fun q => hne5.2.2.1 q.symm)
          have r0 := HB5.cell (j := 0) rfl
          have f0 := HB5.frozen 0
          have r1 := HB5.cell (j := 1) rfl
          have f1 := HB5.frozen 1
          have r2 := HB5.cell (j := 2) rfl
          have f2 := HB5.frozen 2
          have r3 := HB5.cell (j := 3) rfl
          have f3 := HB5.frozen 3
          have r4 := HB5.cell (j := 4) rfl
          have f4 := HB5.frozen 4
          have HJ2 : Hid (MaU w base M T G cp a E en mp b5 (runS E T (sOne 0) ((sb s).take (k + 1))) (set5 w5 b5 (ahd E (stp E T Sk x)) (acc en (stp E T Sk x)))) := by
            have hc : Chg (fun j => j = b5) w5 (set5 w5 b5 (ahd E (stp E T Sk x)) (acc en (stp E T Sk x))) := chg_set5 _ _ _ _ rfl
            have hbl := HW3.out.2
            have hbs := HI.out.2.2
            rw [HN.out.1]
            exact ⟨H5.out.1.chg hc hne5.1 hne5.2.1 (fun j q => by omega), H5.out.2.1.chg hc hne5.2.2.1, HB5.set5 _ _, chg_ownS (HW4.out.1.chg.trans H5.out.2.2) (hc.mono (fun j q => by omega))⟩
          simp only [set5] at HJ2
          clear HB5
          go_wp2_with fail
          refine ⟨⟨k + 1, by omega, by go_num, HJ2⟩, ?_⟩
          go_light
          simp [intOf]; omega
    · obtain rfl : k = s.size := by omega
      have zk : ¬ (s.size : Int) < (s.size : Int) := by omega
      have r4 := HJ.out.box.cell (j := 4) rfl
      have HFl : Hid ((sb s).take s.size = sb s) := by show _ = _; rw [← sb_len, List.take_length]
      go_wp2_with fail
      go_ret
      exact ⟨_, rfl, by rw [HFl.out], HJ.out.mtr, HJ.out.map, HJ.out.chg⟩
end Go.Proofs.YtkidabedcgngcaaGreatDoor

/-
  A matcher packed; impl.makeCellTest, cellTest.holds.
-/
namespace Go.Proofs.YtkidabedcgngcaaGreatDoor
open Go.ChangeShapes Go.WideShapes Go.ChangeAt Go.RowKit Go.Deep
set_option linter.unusedVariables false
set_option linter.unusedSimpArgs false
set_option maxRecDepth 100000

/-- The blocks of a step. -/
abbrev InB (lo hi k : Nat) : Prop := lo ≤ k ∧ k < hi
/-- A matcher of a pattern, in blocks lo .. hi. -/
structure MchJ (w : World) (lo hi M : Nat) (p : ByteArray) (T : Nat → PS) (G cp a : Nat) (E : Nat → PS) (en : PS) (mp : Nat) (os : List (List Pat)) (n : Nat) : Prop where
  gr : AltG (AtomG n) os (sb p)
  chk : (checkM (sb p)).1 = 0
  mtr : MtrI w lo M T G cp a E en mp
  map : StU w mp E en
  tk : ∀ b p, T b p = true → p < a
  pos : 0 < a
  le : a ≤ 256
  low : lo ≤ mp
  hM : M < hi
  hG : G < hi
  hm : mp < hi
  acc : ∀ s : List UInt8, acc en (runS E T (sOne 0) s) = true ↔ LgA os s
def MchAt (w : World) (lo hi M : Nat) (p : ByteArray) : Prop := ∃ T G cp a E en mp os n, MchJ w lo hi M p T G cp a E en mp os n
theorem MtrI.tabLt {w : World} {base M : Nat} {T : Nat → PS} {G cp a : Nat} {E : Nat → PS} {en : PS} {mp : Nat} (h : MtrI w base M T G cp a E en mp) : 1 < base := h.low
theorem MtrI.chg2 {S : Nat → Prop} {w w' : World} {base M : Nat} {T : Nat → PS} {G cp a : Nat} {E : Nat → PS} {en : PS} {mp : Nat} (h : MtrI w base M T G cp a E en mp) (hc : Chg S w w') (hM : ¬ S M) (hG : ¬ S G) (h0 : ¬ S 1) : MtrI w' base M T G cp a E en mp :=
  ⟨h.box.chg hc hM, own_chg h.row hc (fun k q => by simp [Value.ownBlock] at q; subst q; exact hG), h.new, h.tab.chg hc h0, h.low⟩
theorem row_low {w : World} {base base' t sz n : Nat} {v : Value} {vs : List Value} (h : w.ownsRow base t sz v n vs) (hb : base' ≤ base) : w.ownsRow base' t sz v n vs := by
  rcases h.2 with q | ⟨g, cap, cur, h1, h2, h3⟩
  · exact ⟨h.1, .inl q⟩
  · exact ⟨h.1, .inr ⟨g, cap, cur, h1, by omega, h3⟩⟩
theorem MchAt.chg {S : Nat → Prop} {w w' : World} {lo hi M : Nat} {p : ByteArray} (h : MchAt w lo hi M p) (hc : Chg S w w') (hS : ∀ k, S k → ¬ InB lo hi k) (ht : 1 < lo → ¬ S 1) : MchAt w' lo hi M p := by
  obtain ⟨T, G, cp, a, E, en, mp, os, n, h⟩ := h
  exact ⟨T, G, cp, a, E, en, mp, os, n, h.gr, h.chk, h.mtr.chg2 hc (fun q => hS _ q ⟨h.mtr.ltM.1, h.hM⟩) (fun q => hS _ q ⟨h.mtr.ltG.1, h.hG⟩) (ht h.mtr.low), h.map.chg hc (fun q => hS _ q ⟨h.low, h.hm⟩), h.tk, h.pos, h.le, h.low, h.hM, h.hG, h.hm, h.acc⟩
theorem MchAt.below {w w' : World} {lo hi M : Nat} {p : ByteArray} (h : MchAt w lo hi M p) (hb : Below w.heap.size w w') : MchAt w' lo hi M p := h.chg (S := fun _ => False) (Chg.of_below hb) (fun k q => q.elim) (fun _ q => q)
def MtP (w : World) (lo hi M : Nat) (p s : ByteArray) (e : Ending) (w' : World) : Prop := e = .returned (.bool (mtB p s)) ∧ Hid (MchAt w' lo hi M p ∧ Chg (InB lo hi) w w')
theorem mch_matches {w : World} {lo hi M : Nat} {p : ByteArray} (h : MchAt w lo hi M p) (s : ByteArray) : Calls Tryz.prog 106 #[.pointer (some ⟨M, 0, none⟩), .string s] w (MtP w lo hi M p s) := by
  obtain ⟨T, G, cp, a, E, en, mp, os, n, h⟩ := h
  by_cases hs : s.size ≤ 200
  · refine (matches_any s hs w h.mtr h.map h.tk h.pos h.le h.low).mono ?_
    rintro e w' ⟨b, rfl, H⟩
    have hb : MatB p s b := .inr ⟨h.chk, n, os, h.gr, by rw [H.out.1, h.acc]; exact ⟨fun q => ⟨hs, q⟩, fun q => q.2⟩⟩
    rw [mtB_eq hb]
    exact ⟨rfl, ⟨T, G, cp, a, E, en, mp, os, n, h.gr, h.chk, H.out.2.1, H.out.2.2.1, h.tk, h.pos, h.le, h.low, h.hM, h.hG, h.hm, h.acc⟩, H.out.2.2.2.mono (fun k q => by subst q; exact ⟨h.low, h.hm⟩)⟩
  · refine (matches_long M s (by omega) w).mono ?_
    rintro e w' ⟨rfl, rfl⟩
    have hb : MatB p s false := .inr ⟨h.chk, n, os, h.gr, ⟨fun q => (by cases q), fun q => absurd q.1 hs⟩⟩
    exact ⟨by rw [← mtB_eq hb], ⟨T, G, cp, a, E, en, mp, os, n, h⟩, Chg.refl _ _⟩
/-- The leaves that have a pattern. -/
def PatK (k : Int) : Prop := k = 4 ∨ k = 5 ∨ k = 6 ∨ k = 7
def TstAt (w : World) (lo hi : Nat) (n : Nd) (mv : Value) : Prop := (¬ PatK n.kind ∧ mv = .pointer none) ∨ (PatK n.kind ∧ ∃ M, mv = .pointer (some ⟨M, 0, none⟩) ∧ MchAt w lo hi M n.s)
theorem MchAt.wide {w : World} {lo hi lo' hi' M : Nat} {p : ByteArray} (h : MchAt w lo hi M p) (hl : lo' ≤ lo) (hh : hi ≤ hi') (ht : 1 < lo') : MchAt w lo' hi' M p := by
  obtain ⟨T, G, cp, a, E, en, mp, os, n, h⟩ := h
  exact ⟨T, G, cp, a, E, en, mp, os, n, h.gr, h.chk, ⟨row_low h.mtr.box hl, row_low h.mtr.row hl, h.mtr.new, h.mtr.tab, ht⟩, h.map, h.tk, h.pos, h.le, Nat.le_trans hl h.low, Nat.lt_of_lt_of_le h.hM hh, Nat.lt_of_lt_of_le h.hG hh, Nat.lt_of_lt_of_le h.hm hh, h.acc⟩
theorem TstAt.chg {S : Nat → Prop} {w w' : World} {lo hi : Nat} {n : Nd} {mv : Value} (h : TstAt w lo hi n mv) (hc : Chg S w w') (hS : ∀ k, S k → ¬ InB lo hi k) (ht : 1 < lo → ¬ S 1) : TstAt w' lo hi n mv := by
  rcases h with h | ⟨h1, M, h2, h3⟩
  · exact .inl h
  · exact .inr ⟨h1, M, h2, h3.chg hc hS ht⟩
theorem TstAt.below {w w' : World} {lo hi : Nat} {n : Nd} {mv : Value} (h : TstAt w lo hi n mv) (hb : Below w.heap.size w w') : TstAt w' lo hi n mv := h.chg (S := fun _ => False) (Chg.of_below hb) (fun k q => q.elim) (fun _ q => q)
def HoP (w : World) (lo hi : Nat) (n : Nd) (c : Ent) (mv : Value) (e : Ending) (w' : World) : Prop := e = .returned (.bool (tstB n c)) ∧ Hid (TstAt w' lo hi n mv ∧ Chg (InB lo hi) w w')
theorem inS_eq (x : ByteArray) (n : Nd) : inS x n = inR n.s n.hi n.t x := rfl
theorem rng_build (s t : ByteArray) (h : Bool) (w : World) : (Instr.build 193 #[(0, .string s), (1, .bool h), (2, .string t)]).run Tryz.prog w = .ok (.agg #[.string s, .bool h, .string t]) w := by kernel_rfl
set_option maxHeartbeats 2000000 in
theorem textEnds_core (n : Nd) (mp : Option Addr) (x : ByteArray) (w : World) : Calls Tryz.prog 107 #[.agg #[.int .i64 n.kind, .string n.s, .bool n.hi, .string n.t, .int .u64 n.lo, .int .u64 n.up, .int .i64 n.n, .pointer mp], .string x] w fun e w' => e = .returned (.bool (inS x n)) ∧ Below w.heap.size w w' := by
  have HI : Hid (∀ w, Calls Tryz.prog 140 #[.agg #[.string n.s, .bool n.hi, .string n.t], .string x] w fun e w' => e = .returned (.bool (inS x n)) ∧ Below w.heap.size w w') := fun w => by rw [inS_eq]; exact implInRange_core n.s n.t x n.hi w
  have hbd := rng_build n.s n.t n.hi
  obtain ⟨W1, hW1⟩ : ∃ W1 : World, W1 = w.alloc (.cells #[.int .i64 n.kind, .string n.s, .bool n.hi, .string n.t, .int .u64 n.lo, .int .u64 n.up, .int .i64 n.n, .pointer mp] 111) := ⟨_, rfl⟩
  have HW1 : Hid (Below w.heap.size w W1) := by rw [hW1]; exact (Below.refl _ _).alloc (Nat.le_refl _) _
  go_enter Tryz.func107, Tryz.ntmps107
  go_wp2_with fail
  rw [← hW1]
  clear hW1 hbd
  refine (HI.out W1).mono ?_
  rintro e w2 ⟨rfl, hb2⟩
  have HE : Hid (Below w.heap.size w w2) := HW1.out.trans (hb2.mono HW1.out.size)
  clear hb2
  go_wp2_with fail
  go_ret
  exact ⟨rfl, HE.out⟩
set_option maxHeartbeats 4000000 in
theorem holds_core (n : Nd) (c : Ent) (mv : Value) (w : World) (bl bh : Nat) (hT : TstAt w bl bh n mv) (hb : bh ≤ w.heap.size) : ∃ mp : Option Addr, mv = .pointer mp ∧ Calls Tryz.prog 74 #[.agg #[.int .i64 n.kind, .string n.s, .bool n.hi, .string n.t, .int .u64 n.lo, .int .u64 n.up, .int .i64 n.n, .pointer mp], c.c] w (HoP w bl bh n c mv) := by
  obtain ⟨mp, hmp⟩ : ∃ mp : Option Addr, mv = .pointer mp := by
    rcases hT with ⟨_, h⟩ | ⟨_, M, h, _⟩
    · exact ⟨_, h⟩
    · exact ⟨_, h⟩
  subst hmp
  refine ⟨mp, rfl, ?_⟩
  have HT : Hid (TstAt w bl bh n (.pointer mp)) := hT
  obtain ⟨k, s, hi, t, lo, up, nn⟩ := n
  have HS : Hid (∀ (x : ByteArray) (w : World), Calls Tryz.prog 107 #[.agg #[.int .i64 k, .string s, .bool hi, .string t, .int .u64 lo, .int .u64 up, .int .i64 nn, .pointer mp], .string x] w fun e w' => e = .returned (.bool (inS x ⟨k, s, hi, t, lo, up, nn⟩)) ∧ Below w.heap.size w w') := fun x w => textEnds_core ⟨k, s, hi, t, lo, up, nn⟩ mp x w
  obtain ⟨res, hres⟩ : ∃ res, res = tstB ⟨k, s, hi, t, lo, up, nn⟩ c := ⟨_, rfl⟩
  have HR : Hid (res = tstB ⟨k, s, hi, t, lo, up, nn⟩ c) := hres
  obtain ⟨W2, hW2⟩ : ∃ W2 : World, W2 = (w.alloc (.cells #[.int .i64 k, .string s, .bool hi, .string t, .int .u64 lo, .int .u64 up, .int .i64 nn, .pointer mp] 111)).alloc (.cells #[.string c.row, .string c.fam, .string c.qual, .int .u64 c.ts, .string c.val] 55) := ⟨_, rfl⟩
  have HW2 : Hid (Below w.heap.size w W2) := by rw [hW2]; exact ((Below.refl _ _).alloc (Nat.le_refl _) _).alloc (by simp) _
  have HFin : Hid (∀ wx, Below w.heap.size w wx → HoP w bl bh ⟨k, s, hi, t, lo, up, nn⟩ c (.pointer mp) (.returned (.bool res)) wx) := fun wx hx => ⟨by rw [HR.out], HT.out.below hx, Chg.of_below hx⟩
  have HFn2 : Hid (∀ wx, TstAt wx bl bh ⟨k, s, hi, t, lo, up, nn⟩ (.pointer mp) → Chg (InB bl bh) w wx → HoP w bl bh ⟨k, s, hi, t, lo, up, nn⟩ c (.pointer mp) (.returned (.bool res)) wx) := fun wx h1 h2 => ⟨by rw [HR.out], h1, h2⟩
  have HMt : Hid (PatK k → ∀ x : ByteArray, Calls Tryz.prog 106 #[.pointer mp, .string x] W2 fun e w' => e = .returned (.bool (mtB s x)) ∧ TstAt w' bl bh ⟨k, s, hi, t, lo, up, nn⟩ (.pointer mp) ∧ Chg (InB bl bh) w w') := fun hp x => by
    rcases HT.out.below HW2.out with ⟨q, _⟩ | ⟨_, M, q, hM⟩
    · exact absurd hp q
    · cases q
      refine (mch_matches hM x).mono ?_
      rintro e w' ⟨rfl, H⟩
      exact ⟨rfl, .inr ⟨hp, M, rfl, H.out.1⟩, (Chg.of_below HW2.out).trans H.out.2⟩
  clear hres hT
  by_cases h1 : k = 1
  · subst h1
    have hv : res = true := HR.out.trans (by simp [tstB])
    go_enter Tryz.func74, Tryz.ntmps74
    go_wp2_with fail
    rw [← hW2]
    go_ret
    exact hv ▸ HFin.out W2 HW2.out
  have b1 : (k == 1) = false := by rw [beq_eq_false_iff_ne]; exact h1
  by_cases h3 : k = 3
  · subst h3
    have hv : res = true := HR.out.trans (by simp [tstB])
    go_enter Tryz.func74, Tryz.ntmps74
    go_wp2_with fail
    rw [← hW2]
    go_ret
    exact hv ▸ HFin.out W2 HW2.out
  have b3 : (k == 3) = false := by rw [beq_eq_false_iff_ne]; exact h3
  by_cases h4 : k = 4
  · subst h4
    have hv : res = mtB s c.row := HR.out.trans (by simp [tstB])
    have HM1 : Hid (Calls Tryz.prog 106 #[.pointer mp, .string c.row] W2 fun e w' => e = .returned (.bool (mtB s c.row)) ∧ TstAt w' bl bh ⟨4, s, hi, t, lo, up, nn⟩ (.pointer mp) ∧ Chg (InB bl bh) w w') := HMt.out (by unfold PatK; omega) c.row
    go_enter Tryz.func74, Tryz.ntmps74
    go_wp2_with fail
    rw [← hW2]
    clear hW2
    refine HM1.out.mono ?_
    rintro e w1 ⟨rfl, h1, h2⟩
    have HE : Hid (HoP w bl bh ⟨4, s, hi, t, lo, up, nn⟩ c (.pointer mp) (.returned (.bool res)) w1) := HFn2.out w1 h1 h2
    clear h1 h2
    go_wp2_with fail
    go_ret
    exact hv ▸ HE.out
  have b4 : (k == 4) = false := by rw [beq_eq_false_iff_ne]; exact h4
  by_cases h5 : k = 5
  · subst h5
    have hv : res = mtB s c.fam := HR.out.trans (by simp [tstB])
    have HM1 : Hid (Calls Tryz.prog 106 #[.pointer mp, .string c.fam] W2 fun e w' => e = .returned (.bool (mtB s c.fam)) ∧ TstAt w' bl bh ⟨5, s, hi, t, lo, up, nn⟩ (.pointer mp) ∧ Chg (InB bl bh) w w') := HMt.out (by unfold PatK; omega) c.fam
    go_enter Tryz.func74, Tryz.ntmps74
    go_wp2_with fail
    rw [← hW2]
    clear hW2
    refine HM1.out.mono ?_
    rintro e w1 ⟨rfl, h1, h2⟩
    have HE : Hid (HoP w bl bh ⟨5, s, hi, t, lo, up, nn⟩ c (.pointer mp) (.returned (.bool res)) w1) := HFn2.out w1 h1 h2
    clear h1 h2
    go_wp2_with fail
    go_ret
    exact hv ▸ HE.out
  have b5 : (k == 5) = false := by rw [beq_eq_false_iff_ne]; exact h5
  by_cases h6 : k = 6
  · subst h6
    have hv : res = mtB s c.qual := HR.out.trans (by simp [tstB])
    have HM1 : Hid (Calls Tryz.prog 106 #[.pointer mp, .string c.qual] W2 fun e w' => e = .returned (.bool (mtB s c.qual)) ∧ TstAt w' bl bh ⟨6, s, hi, t, lo, up, nn⟩ (.pointer mp) ∧ Chg (InB bl bh) w w') := HMt.out (by unfold PatK; omega) c.qual
    go_enter Tryz.func74, Tryz.ntmps74
    go_wp2_with fail
    rw [← hW2]
    clear hW2
    refine HM1.out.mono ?_
    rintro e w1 ⟨rfl, h1, h2⟩
    have HE : Hid (HoP w bl bh ⟨6, s, hi, t, lo, up, nn⟩ c (.pointer mp) (.returned (.bool res)) w1) := HFn2.out w1 h1 h2
    clear h1 h2
    go_wp2_with fail
    go_ret
    exact hv ▸ HE.out
  have b6 : (k == 6) = false := by rw [beq_eq_false_iff_ne]; exact h6
  by_cases h7 : k = 7
  · subst h7
    have hv : res = mtB s c.val := HR.out.trans (by simp [tstB])
    have HM1 : Hid (Calls Tryz.prog 106 #[.pointer mp, .string c.val] W2 fun e w' => e = .returned (.bool (mtB s c.val)) ∧ TstAt w' bl bh ⟨7, s, hi, t, lo, up, nn⟩ (.pointer mp) ∧ Chg (InB bl bh) w w') := HMt.out (by unfold PatK; omega) c.val
    go_enter Tryz.func74, Tryz.ntmps74
    go_wp2_with fail
    rw [← hW2]
    clear hW2
    refine HM1.out.mono ?_
    rintro e w1 ⟨rfl, h1, h2⟩
    have HE : Hid (HoP w bl bh ⟨7, s, hi, t, lo, up, nn⟩ c (.pointer mp) (.returned (.bool res)) w1) := HFn2.out w1 h1 h2
    clear h1 h2
    go_wp2_with fail
    go_ret
    exact hv ▸ HE.out
  have b7 : (k == 7) = false := by rw [beq_eq_false_iff_ne]; exact h7
  by_cases h8 : k = 8
  · subst h8
    have hv : res = inS c.row ⟨8, s, hi, t, lo, up, nn⟩ := HR.out.trans (by simp [tstB])
    go_enter Tryz.func74, Tryz.ntmps74
    go_wp2_with fail
    rw [← hW2]
    clear hW2
    refine (HS.out c.row W2).mono ?_
    rintro e w1 ⟨rfl, hb1⟩
    have HE : Hid (HoP w bl bh ⟨8, s, hi, t, lo, up, nn⟩ c (.pointer mp) (.returned (.bool res)) w1) := HFin.out w1 (HW2.out.trans (hb1.mono HW2.out.size))
    clear hb1
    go_wp2_with fail
    go_ret
    exact hv ▸ HE.out
  have b8 : (k == 8) = false := by rw [beq_eq_false_iff_ne]; exact h8
  by_cases h9 : k = 9
  · subst h9
    have hv : res = inS c.qual ⟨9, s, hi, t, lo, up, nn⟩ := HR.out.trans (by simp [tstB])
    go_enter Tryz.func74, Tryz.ntmps74
    go_wp2_with fail
    rw [← hW2]
    clear hW2
    refine (HS.out c.qual W2).mono ?_
    rintro e w1 ⟨rfl, hb1⟩
    have HE : Hid (HoP w bl bh ⟨9, s, hi, t, lo, up, nn⟩ c (.pointer mp) (.returned (.bool res)) w1) := HFin.out w1 (HW2.out.trans (hb1.mono HW2.out.size))
    clear hb1
    go_wp2_with fail
    go_ret
    exact hv ▸ HE.out
  have b9 : (k == 9) = false := by rw [beq_eq_false_iff_ne]; exact h9
  by_cases h10 : k = 10
  · subst h10
    have hv : res = (decide (lo ≤ c.ts) && (!hi || decide (c.ts < up))) := HR.out.trans (by simp [tstB])
    have HE : Hid (HoP w bl bh ⟨10, s, hi, t, lo, up, nn⟩ c (.pointer mp) (.returned (.bool (decide (lo ≤ c.ts) && (!hi || decide (c.ts < up))))) W2) := by rw [← hv]; exact HFin.out W2 HW2.out
    clear hv
    by_cases g1 : lo ≤ c.ts <;> cases hi <;> by_cases g2 : c.ts < up
    all_goals simp only [g1, g2, decide_true, decide_false, Bool.not_true, Bool.not_false, Bool.true_and, Bool.false_and, Bool.true_or, Bool.false_or] at HE
    all_goals go_enter Tryz.func74, Tryz.ntmps74
    all_goals go_wp2_with fail
    all_goals rw [← hW2]
    all_goals go_ret
    all_goals exact HE.out
  have b10 : (k == 10) = false := by rw [beq_eq_false_iff_ne]; exact h10
  have hv : res = false := HR.out.trans (by simp [tstB, h1, h3, h4, h5, h6, h7, h8, h9, h10])
  go_enter Tryz.func74, Tryz.ntmps74
  go_wp2_with fail
  rw [← hW2]
  go_ret
  exact hv ▸ HFin.out W2 HW2.out
end Go.Proofs.YtkidabedcgngcaaGreatDoor

/-
  impl.keep, impl.strip.
-/
namespace Go.Proofs.YtkidabedcgngcaaGreatDoor
open Go.ChangeShapes Go.WideShapes Go.ChangeAt Go.RowKit Go.Deep
set_option linter.unusedVariables false
set_option linter.unusedSimpArgs false
set_option maxRecDepth 100000

/-- What a leaf's own step keeps, behind i cells. -/
structure KeJ (w : World) (lo hi : Nat) (n : Nd) (mv : Value) (g cp : Nat) (L : List Ent) (wr : World) : Prop where
  own : OwnC wr w.heap.size g cp L
  tst : TstAt wr lo hi n mv
  chg : Chg (InB lo hi) w wr
theorem KeJ.move {w : World} {lo hi : Nat} {n : Nd} {mv : Value} {g cp : Nat} {L : List Ent} {wr w' : World} (h : KeJ w lo hi n mv g cp L wr) (hb : Below wr.heap.size wr w') : KeJ w lo hi n mv g cp L w' :=
  ⟨h.own.below hb h.own.lt.2, h.tst.below hb, h.chg.trans (Chg.of_below hb)⟩
theorem KeJ.run {w : World} {lo hi : Nat} {n : Nd} {mv : Value} {g cp : Nat} {L : List Ent} {wr w' : World} (h : KeJ w lo hi n mv g cp L wr) (hh : hi ≤ w.heap.size) (ht : TstAt w' lo hi n mv) (hc : Chg (InB lo hi) wr w') : KeJ w lo hi n mv g cp L w' :=
  ⟨own_chg h.own hc (fun k q z => by simp [Value.ownBlock] at q; subst q; have := h.own.lt; have := z.2; omega), ht, h.chg.trans hc⟩
theorem KeJ.push {w : World} {lo hi : Nat} {n : Nd} {mv : Value} {g cp g' cp' : Nat} {L L' : List Ent} {X w' : World} (h : KeJ w lo hi n mv g cp L X) (hh : hi ≤ w.heap.size) (hl : lo ≤ hi) (hO : OwnC w' w.heap.size g' cp' L') (hg : X.grownBy w' (some g)) : KeJ w lo hi n mv g' cp' L' w' := by
  have hc : Chg (fun k => k = g) X w' := Chg.of_grown hg (fun k q => by cases q; rfl)
  have hgl := h.own.lt
  refine ⟨hO, h.tst.chg hc (fun k q z => by have := z.2; omega) (fun q z => by omega), ?_⟩
  exact Chg.absorb h.chg hc (fun k q => .inr (by omega))
def Plain (n : Nd) : Prop := ¬ n.kind = 3 ∧ ¬ n.kind = 11 ∧ ¬ n.kind = 12 ∧ ¬ n.kind = 13
theorem plain_keep {n : Nd} (h : Plain n) (pre : List Ent) (c : Ent) : keepB n pre c = tstB n c ∧ stripE n c = c := by
  unfold keepB stripE
  rw [if_neg h.2.1, if_neg h.2.2.1, if_neg h.2.2.2, if_neg h.1]
  exact ⟨rfl, rfl⟩
def KeP (w : World) (lo hi : Nat) (n : Nd) (mv : Value) (es : List Ent) (e : Ending) (w' : World) : Prop := ∃ g cp, e = .returned (.slice (some ⟨g, 0, none⟩) (leafM n es).length cp) ∧ Hid (KeJ w lo hi n mv g cp (leafM n es) w')
set_option maxHeartbeats 4000000 in
theorem keep_core (n : Nd) (hpl : Plain n) (mp : Option Addr) {w : World} {b off cap : Nat} {es : List Ent} (h : CSl w b off cap es) (hl : es.length ≤ 10000) (lo hi : Nat) (hT : TstAt w lo hi n (.pointer mp)) (hh : hi ≤ w.heap.size) (hlh : lo ≤ hi) (hb : ¬ InB lo hi b) : Calls Tryz.prog 73 #[.slice (some ⟨b, off, none⟩) es.length cap, .func (Fn.func 74) #[.agg #[.int .i64 n.kind, .string n.s, .bool n.hi, .string n.t, .int .u64 n.lo, .int .u64 n.up, .int .i64 n.n, .pointer mp]] #[]] w (KeP w lo hi n (.pointer mp) es) := by
  obtain ⟨N, hN⟩ : ∃ N, N = es.length := ⟨_, rfl⟩
  have HL : Hid (N = es.length ∧ CSl w b off cap es ∧ ¬ InB lo hi b ∧ hi ≤ w.heap.size ∧ lo ≤ hi) := ⟨hN, h, hb, hh, hlh⟩
  have HLM : Hid (leafM n es = leafG n [] (es.take N)) := by show _ = _; rw [hN, List.take_length]; rfl
  have HPl : Hid (Plain n) := hpl
  obtain ⟨W0, hW0⟩ : ∃ W0 : World, W0 = w.alloc (.cells #[] 55) := ⟨_, rfl⟩
  have HJ0 : Hid (KeJ w lo hi n (.pointer mp) w.heap.size 0 [] W0) := by
    have k1 : Below w.heap.size w W0 := by rw [hW0]; exact (Below.refl _ _).alloc (Nat.le_refl _) _
    exact ⟨by rw [hW0]; exact ownC_new w, hT.below k1, Chg.of_below k1⟩
  have HHo : Hid (∀ (c : Ent) (wx : World), TstAt wx lo hi n (.pointer mp) → hi ≤ wx.heap.size → Calls Tryz.prog 74 #[.agg #[.int .i64 n.kind, .string n.s, .bool n.hi, .string n.t, .int .u64 n.lo, .int .u64 n.up, .int .i64 n.n, .pointer mp], c.c] wx (HoP wx lo hi n c (.pointer mp))) := fun c wx hx hz => by
    obtain ⟨mp', h1, h2⟩ := holds_core n c (.pointer mp) wx lo hi hx hz
    cases h1
    exact h2
  rw [← hN]
  rw [← hN] at hl
  clear h hT hh hlh hb hpl hN
  go_enter Tryz.func73, Tryz.ntmps73
  go_wp2_with fail
  rw [← hW0]
  clear hW0
  go_loopw [5, 11] (fun o iv wr => ∃ (i g cp m : Nat), i ≤ N ∧ iv = .int .i64 (i : Int) ∧ o = .slice (some ⟨g, 0, none⟩) m cp ∧ Hid (m = (leafG n [] (es.take i)).length ∧ KeJ w lo hi n (.pointer mp) g cp (leafG n [] (es.take i)) wr)) (fun _ iv _ => N - (intOf iv).toNat)
  case atStart => exact ⟨0, w.heap.size, 0, 0, Nat.zero_le _, rfl, rfl, rfl, HJ0.out⟩
  case round =>
    obtain ⟨i, g, cp, m, hiN, rfl, rfl, HJ⟩ := hrel
    by_cases hlt : i < N
    · have zi : (i : Int) < (N : Int) := by omega
      obtain ⟨c, hc⟩ : ∃ c, es[i]? = some c := ⟨_, List.getElem?_eq_getElem (by have := HL.out.1; omega)⟩
      have HStep : Hid (leafG n [] (es.take (i + 1)) = leafG n [] (es.take i) ++ (if tstB n c then [c] else [])) := by
        show _ = _
        rw [leaf_step n hc, (plain_keep HPl.out (es.take i) c).1, (plain_keep HPl.out (es.take i) c).2]
      have HM : Hid (m = (leafG n [] (es.take i)).length) := HJ.out.1
      have hml : m ≤ 10000 := by
        rw [HJ.out.1]
        refine Nat.le_trans (leafG_len _ _ _) ?_
        rw [List.length_take]
        omega
      obtain ⟨c0, c1, c2, c3, c4⟩ := (HL.out.2.1.chg HJ.out.2.chg HL.out.2.2.1).at_ i c hc
      obtain ⟨W1, hW1⟩ : ∃ W1 : World, W1 = wr.alloc (.cells #[.string c.row, .string c.fam, .string c.qual, .int .u64 c.ts, .string c.val] 55) := ⟨_, rfl⟩
      have hb1 : Below wr.heap.size wr W1 := by rw [hW1]; exact (Below.refl _ _).alloc (Nat.le_refl _) _
      obtain ⟨cb, hcb⟩ : ∃ cb, cb = wr.heap.size := ⟨_, rfl⟩
      have hsz := HJ.out.2.chg.size
      have HB1 : Hid (KeJ w lo hi n (.pointer mp) g cp (leafG n [] (es.take i)) W1 ∧ BoxAt W1 w.heap.size 55 5 cb c.five ∧ hi ≤ W1.heap.size ∧ hi ≤ cb) := by
        refine ⟨HJ.out.2.move hb1, ?_, by have := hb1.size; have := HL.out.2.2.2.1; omega, by have := HL.out.2.2.2.1; omega⟩
        rw [hW1, hcb]; exact boxAt_new wr #[.string c.row, .string c.fam, .string c.qual, .int .u64 c.ts, .string c.val] hsz rfl
      go_upto_region 5 with fail
      rw [← hW1, ← hcb]
      clear hW1 hcb hb1 c0 c1 c2 c3 c4 hc
      have c0 := HB1.out.2.1.cell (j := 0) rfl
      have c1 := HB1.out.2.1.cell (j := 1) rfl
      have c2 := HB1.out.2.1.cell (j := 2) rfl
      have c3 := HB1.out.2.1.cell (j := 3) rfl
      have c4 := HB1.out.2.1.cell (j := 4) rfl
      have HH1 : Hid (Calls Tryz.prog 74 #[.agg #[.int .i64 n.kind, .string n.s, .bool n.hi, .string n.t, .int .u64 n.lo, .int .u64 n.up, .int .i64 n.n, .pointer mp], c.c] W1 (HoP W1 lo hi n c (.pointer mp))) := HHo.out c W1 HB1.out.1.tst HB1.out.2.2.1
      go_wp2_with fail
      refine HH1.out.mono ?_
      rintro e w2 ⟨rfl, H2⟩
      have HB2 : Hid (KeJ w lo hi n (.pointer mp) g cp (leafG n [] (es.take i)) w2 ∧ BoxAt w2 w.heap.size 55 5 cb c.five) := by
        refine ⟨HB1.out.1.run HL.out.2.2.2.1 H2.out.1 H2.out.2, HB1.out.2.1.chg H2.out.2 (fun q => by have := q.2; have := HB1.out.2.2.2; omega)⟩
      clear c0 c1 c2 c3 c4 HH1
      obtain ⟨tb, htb⟩ : ∃ tb, tb = tstB n c := ⟨_, rfl⟩
      rw [← htb]
      rw [← htb] at HStep
      clear htb
      cases tb
      · have HN : Hid (m = (leafG n [] (es.take (i + 1))).length ∧ KeJ w lo hi n (.pointer mp) g cp (leafG n [] (es.take (i + 1))) w2) := by
          rw [HStep.out, if_neg (by decide), List.append_nil]
          exact ⟨HM.out, HB2.out.1⟩
        go_wp2_with fail
        go_roundw
        case rel => exact ⟨i + 1, g, cp, m, by omega, by go_num, rfl, HN.out⟩
        case measure => go_light; simp [intOf]; omega
      · have HSt : Hid (leafG n [] (es.take (i + 1)) = leafG n [] (es.take i) ++ [c]) := by
          show _ = _
          rw [HStep.out, if_pos rfl]
        have d0 := HB2.out.2.cell (j := 0) rfl
        have d1 := HB2.out.2.cell (j := 1) rfl
        have d2 := HB2.out.2.cell (j := 2) rfl
        have d3 := HB2.out.2.cell (j := 3) rfl
        have d4 := HB2.out.2.cell (j := 4) rfl
        have HKm : Hid (m = (leafG n [] (es.take i)).length) := HM.out
        have hgl := HB2.out.1.own.lt
        have hz2 := HB2.out.1.chg.size
        go_wp2_with (at_builtin; refine wpList_append_cel _ rfl _ _ rfl w.heap.size g cp _ _ (leafG n [] (es.take i)) c rfl rfl HKm.out ?hO ?hc ?hl ?hb ?_)
        case hO => exact HB2.out.1.own.below ((Below.refl _ _).alloc (Nat.le_refl _) _) hgl.2
        case hc => exact cel_new w2 c
        case hl => rw [← HKm.out]; omega
        case hb => simp; omega
        intro g' cp' w' hO' hgr
        have HN : Hid (m + 1 = (leafG n [] (es.take (i + 1))).length ∧ KeJ w lo hi n (.pointer mp) g' cp' (leafG n [] (es.take (i + 1))) w') := by
          rw [HSt.out]
          exact ⟨by rw [List.length_append, ← HKm.out]; rfl, (HB2.out.1.move ((Below.refl _ _).alloc (Nat.le_refl _) _)).push HL.out.2.2.2.1 HL.out.2.2.2.2 hO' hgr⟩
        clear hO' hgr d0 d1 d2 d3 d4
        go_wp2_with fail
        go_roundw
        case rel => exact ⟨i + 1, g', cp', m + 1, by omega, by go_num, rfl, HN.out⟩
        case measure => go_light; simp [intOf]; omega
    · obtain rfl : i = N := by omega
      have zi : ¬ (i : Int) < (i : Int) := by omega
      go_wp2_with fail
      go_ret
      refine ⟨g, cp, ?_, ?_⟩
      · rw [HLM.out, ← HJ.out.1]; rfl
      · rw [HLM.out]; exact HJ.out.2
theorem drop_cons' {l : List Ent} {i : Nat} {x : Ent} (h : l[i]? = some x) : l.drop i = x :: l.drop (i + 1) := by
  have hi := (List.getElem?_eq_some_iff.1 h).1
  rw [List.drop_eq_getElem_cons hi, show l[i] = x from Option.some.inj ((List.getElem?_eq_getElem hi).symm.trans h)]
theorem leafG_strip (n : Nd) (h : n.kind = 3) : ∀ (es pre : List Ent), leafG n pre es = es.map (stripE n)
  | [], _ => rfl
  | c :: es, pre => by
    have hk : keepB n pre c = true := by unfold keepB tstB; rw [if_neg (by omega), if_neg (by omega), if_neg (by omega), if_pos (.inr h)]
    unfold leafG
    rw [hk, if_pos rfl, leafG_strip n h es _]
    rfl
set_option maxHeartbeats 4000000 in
theorem cloneC_core {w : World} {b off cap : Nat} {es : List Ent} (h : CSl w b off cap es) (hl : es.length ≤ 10000) : Calls Tryz.prog 103 #[.slice (some ⟨b, off, none⟩) es.length cap] w fun e w' => ∃ g cp, e = .returned (.slice (some ⟨g, 0, none⟩) es.length cp) ∧ OwnC w' w.heap.size g cp es ∧ Below w.heap.size w w' := by
  obtain ⟨N, hN⟩ : ∃ N, N = es.length := ⟨_, rfl⟩
  have HL : Hid (CSl w b off cap es) := h
  have HN : Hid (N = es.length) := hN
  rw [← hN]
  rw [← hN] at hl
  have hb1 : Below w.heap.size w (w.alloc (.cells #[] 55)) := (Below.refl _ _).alloc (Nat.le_refl _) _
  have HO : Hid (OwnC (w.alloc (.cells #[] 55)) w.heap.size w.heap.size 0 [] ∧ CSl (w.alloc (.cells #[] 55)) b off cap es) := ⟨ownC_new w, h.below hb1⟩
  clear h hN hb1
  have hnil : ∀ wx : World, (binOp .eql 28 (.slice (some ⟨b, off, none⟩) N cap) (.slice none 0 0)).run Tryz.prog wx = .ok (.bool false) wx := fun wx => Go.Lib.run_eql_slice_nil wx _ _ _ _ _ _ _ Tryz.underlying28
  go_enter Tryz.func103, Tryz.ntmps103
  go_wp2_with (at_builtin; refine wpList_append_cels _ rfl _ _ rfl w.heap.size w.heap.size 0 0 b off N cap [] es rfl rfl rfl HN.out ?hO ?hc ?hl ?hb ?_)
  case hO => exact HO.out.1
  case hc => exact HO.out.2.at_
  case hl => (have h9 := HN.out; simp; omega)
  case hb => simp
  intro g' cp' w' hO' hgr
  have HE : Hid (OwnC w' w.heap.size g' cp' es ∧ Below w.heap.size w w') := ⟨hO', ((Below.refl _ _).alloc (Nat.le_refl _) _).grown hgr (by simp) (fun j hj => by cases hj; omega)⟩
  clear hO' hgr
  go_wp2_with fail
  go_ret
  refine ⟨g', cp', ?_, HE.out⟩
  first | rfl | (simp)
set_option maxHeartbeats 4000000 in
theorem strip_core (n : Nd) (hk : n.kind = 3) {w : World} {b off cap : Nat} {es : List Ent} (h : CSl w b off cap es) (hl : es.length ≤ 10000) : Calls Tryz.prog 66 #[.slice (some ⟨b, off, none⟩) es.length cap] w fun e w' => ∃ g cp, e = .returned (.slice (some ⟨g, 0, none⟩) (leafM n es).length cp) ∧ OwnC w' w.heap.size g cp (leafM n es) ∧ Below w.heap.size w w' := by
  obtain ⟨N, hN⟩ : ∃ N, N = es.length := ⟨_, rfl⟩
  have HN : Hid (N = es.length) := hN
  have HM : Hid (leafM n es = es.map (stripE n)) := leafG_strip n hk es []
  have HSt : Hid (∀ c : Ent, stripE n c = { c with val := ⟨#[]⟩ }) := fun c => by unfold stripE; rw [if_pos hk]
  have HCl : Hid (Calls Tryz.prog 103 #[.slice (some ⟨b, off, none⟩) N cap] w fun e w' => ∃ g cp, e = .returned (.slice (some ⟨g, 0, none⟩) N cp) ∧ OwnC w' w.heap.size g cp es ∧ Below w.heap.size w w') := by rw [hN]; exact cloneC_core h hl
  rw [← hN]
  rw [← hN] at hl
  clear h hN hk
  go_enter Tryz.func66, Tryz.ntmps66
  go_wp2_with fail
  refine HCl.out.mono ?_
  rintro e w1 ⟨g, cp, rfl, hO1, hb1⟩
  have HJ0 : Hid (OwnC w1 w.heap.size g cp es ∧ Below w.heap.size w w1) := ⟨hO1, hb1⟩
  have hgw := hO1.lt.1
  clear hO1 hb1 HCl
  go_wp2_with fail
  go_loopw [9] (fun iv wr => ∃ (i : Nat) (fs : List Ent), i ≤ N ∧ iv = .int .i64 (i : Int) ∧ Hid (fs = (es.take i).map (stripE n) ++ es.drop i ∧ OwnC wr w.heap.size g cp fs ∧ Below w.heap.size w wr)) (fun iv _ => N - (intOf iv).toNat)
  case atStart => exact ⟨0, es, Nat.zero_le _, rfl, rfl, HJ0.out⟩
  case round =>
    obtain ⟨i, fs, hiN, rfl, HJ⟩ := hrel
    by_cases hlt : i < N
    · have zi : (i : Int) < (N : Int) := by omega
      obtain ⟨c, hc⟩ : ∃ c, es[i]? = some c := ⟨_, List.getElem?_eq_getElem (by have := HN.out; omega)⟩
      have hfi : fs[i]? = some c := by
        rw [HJ.out.1, List.getElem?_append_right (by rw [List.length_map, List.length_take]; omega)]
        rw [List.length_map, List.length_take, List.getElem?_drop]
        rw [show min i es.length = i by have := HN.out; omega, Nat.sub_self, Nat.add_zero]
        exact hc
      obtain ⟨-, -, -, -, c4⟩ := HJ.out.2.1.at i c hfi
      simp only [Nat.zero_add] at c4
      have f4 := World.ownsRow.frozenAt HJ.out.2.1 (i * 5 + 4)
      have HJ2 : Hid (∃ fs', fs' = (es.take (i + 1)).map (stripE n) ++ es.drop (i + 1) ∧ OwnC (wr.setCell ⟨g, i * 5 + 4, none⟩ (.string ⟨#[]⟩)) w.heap.size g cp fs' ∧ Below w.heap.size w (wr.setCell ⟨g, i * 5 + 4, none⟩ (.string ⟨#[]⟩))) := by
        refine ⟨fs.set i (stripE n c), ?_, ?_, below_set HJ.out.2.2 hgw _ _⟩
        · rw [HJ.out.1, List.set_append_right _ _ (by rw [List.length_map, List.length_take]; omega)]
          rw [List.length_map, List.length_take, show i - min i es.length = 0 by have := HN.out; omega]
          rw [drop_cons' hc, List.set_cons_zero, List.take_add_one, hc, Option.toList_some, List.map_append]
          simp
        · refine HJ.out.2.1.set i 4 c (stripE n c) (.string ⟨#[]⟩) hfi (by omega) ?_
          rw [HSt.out]
          rfl
      clear hfi hc
      go_wp2_with fail
      go_roundw
      case rel =>
        obtain ⟨fs', h1⟩ := HJ2.out
        exact ⟨i + 1, fs', by omega, by go_num, h1⟩
      case measure => go_light; simp [intOf]; omega
    · obtain rfl : i = N := by omega
      have zi : ¬ (i : Int) < (i : Int) := by omega
      have HF : Hid (fs = leafM n es) := by
        show fs = _
        rw [HJ.out.1, HM.out, List.drop_of_length_le (by rw [← HN.out]; exact Nat.le_refl _), List.append_nil, HN.out, List.take_length]
      go_wp2_with fail
      go_ret
      refine ⟨g, cp, ?_, ?_, HJ.out.2.2⟩
      · rw [HM.out, List.length_map, ← HN.out]; rfl
      · rw [← HF.out]; exact HJ.out.2.1
end Go.Proofs.YtkidabedcgngcaaGreatDoor

/-
  impl.unite.
-/
namespace Go.Proofs.YtkidabedcgngcaaGreatDoor
open Go.ChangeShapes Go.WideShapes Go.ChangeAt Go.RowKit Go.Deep
set_option linter.unusedVariables false
set_option linter.unusedSimpArgs false
set_option maxRecDepth 100000

structure UnJ (w : World) (la lb U : List Ent) (i j g cp m : Nat) (wr : World) : Prop where
  own : ∃ L f, U = L ++ mrgU f (la.drop i) (lb.drop j) ∧ (la.drop i).length + (lb.drop j).length ≤ f ∧ m = L.length ∧ OwnC wr w.heap.size g cp L
  below : Below w.heap.size w wr
theorem UnJ.move {w : World} {la lb U : List Ent} {i j g cp m : Nat} {wr w' : World} (h : UnJ w la lb U i j g cp m wr) (hb : Below wr.heap.size wr w') : UnJ w la lb U i j g cp m w' := by
  obtain ⟨L, f, h1, h2, h3, h4⟩ := h.own
  exact ⟨⟨L, f, h1, h2, h3, h4.below hb h4.lt.2⟩, h.below.trans (hb.mono h.below.size)⟩
theorem cels_drop {w : World} {b o p i : Nat} {l : List Ent} (h : CelsAt w b o (l.drop i)) (hp : i < l.length → p = o) : CelsAt w b p (l.drop i) := by
  by_cases q : i < l.length
  · rw [hp q]; exact h
  · intro k e he
    rw [List.drop_of_length_le (by omega)] at he
    simp at he
theorem drop_cons {l : List Ent} {i : Nat} {x : Ent} (h : l[i]? = some x) : l.drop i = x :: l.drop (i + 1) := by
  have hi := (List.getElem?_eq_some_iff.1 h).1
  rw [List.drop_eq_getElem_cons hi, show l[i] = x from Option.some.inj ((List.getElem?_eq_getElem hi).symm.trans h)]
theorem slice_step (b o c n i : Nat) : Value.slice (if c - i = 1 then some ⟨b, o + i * 5, none⟩ else some ⟨b, o + i * 5 + 5, none⟩) (n - i - 1) (c - i - 1) = .slice (some ⟨b, if c - i = 1 then o + i * 5 else o + i * 5 + 5, none⟩) (n - (i + 1)) (c - (i + 1)) := by
  rw [show n - i - 1 = n - (i + 1) by omega, show c - i - 1 = c - (i + 1) by omega]
  split <;> rfl
theorem slice_off (b o c n i : Nat) (h : n ≤ c) : i + 1 < n → (if c - i = 1 then o + i * 5 else o + i * 5 + 5) = o + (i + 1) * 5 := fun q => by
  rw [if_neg (by omega)]; omega
set_option maxHeartbeats 8000000 in
theorem unite_core {w : World} {ba oa ca bb ob cb : Nat} {la lb : List Ent} (ha : CSl w ba oa ca la) (hb : CSl w bb ob cb lb) (hoa : Ord la) (hob : Ord lb) (hka : ∀ x ∈ la, x.kind = 0) (hkb : ∀ x ∈ lb, x.kind = 0) (hla : la.length ≤ 10000) (hlb : lb.length ≤ 10000) : Calls Tryz.prog 64 #[.slice (some ⟨ba, oa, none⟩) la.length ca, .slice (some ⟨bb, ob, none⟩) lb.length cb] w fun e w' => ∃ g cp, e = .returned (.slice (some ⟨g, 0, none⟩) (uniM la lb).length cp) ∧ OwnC w' w.heap.size g cp (uniM la lb) ∧ Below w.heap.size w w' := by
  obtain ⟨NA, hNA⟩ : ∃ N, N = la.length := ⟨_, rfl⟩
  obtain ⟨NB, hNB⟩ : ∃ N, N = lb.length := ⟨_, rfl⟩
  have HN : Hid (NA = la.length ∧ NB = lb.length) := ⟨hNA, hNB⟩
  have HR : Hid ((∀ wx, Below w.heap.size w wx → CSl wx ba oa ca la) ∧ (∀ wx, Below w.heap.size w wx → CSl wx bb ob cb lb)) := ⟨fun wx hx => ha.below hx, fun wx hx => hb.below hx⟩
  have HK : Hid ((∀ x ∈ la, x.kind = 0) ∧ (∀ x ∈ lb, x.kind = 0)) := ⟨hka, hkb⟩
  obtain ⟨U, hU⟩ : ∃ U, U = uniM la lb := ⟨_, rfl⟩
  have HU : Hid (U = mrgU (la.length + lb.length) la lb) := by rw [hU]; exact (mrgU_uni (Nat.le_refl _) hoa hob).symm
  rw [← hU]
  rw [← hNA, ← hNB]
  rw [← hNA] at hla
  rw [← hNB] at hlb
  have hca : NA ≤ ca := by rw [hNA]; exact ha.len
  have hcb : NB ≤ cb := by rw [hNB]; exact hb.len
  have hma : ca ≤ 9223372036854775807 := by have := ha.cap; unfold maxLen at this; omega
  have hmb : cb ≤ 9223372036854775807 := by have := hb.cap; unfold maxLen at this; omega
  obtain ⟨i, hi, hz0, hz1, hz2⟩ := info_parts Tryz.infoCel
  have HI : Hid (Tryz.prog.info? 55 = some i ∧ i.zero = some (.agg #[.string ⟨#[]⟩, .string ⟨#[]⟩, .string ⟨#[]⟩, .int .u64 0, .string ⟨#[]⟩]) ∧ i.size = 5 ∧ i.bytes = 72) := ⟨hi, hz0, hz1, hz2⟩
  clear hi hz0 hz1 hz2 ha hb hoa hob hka hkb hNA hNB hU
  go_enter Tryz.func64, Tryz.ntmps64
  go_wp2_with (at_make; refine wpList_make_own _ rfl _ _ 28 rfl w.heap.size 55 i _ 5 Tryz.underlying28 HI.out.1 HI.out.2.1 HI.out.2.2.1 _ _ _ (NA + NB) rfl rfl rfl ?hb ?hm ?hs ?_)
  case hb => rw [HI.out.2.2.2]; omega
  case hm => unfold maxLen; omega
  case hs => exact Nat.le_refl _
  intro w1 hown hgrow
  have HJ0 : Hid (UnJ w la lb U 0 0 w.heap.size (NA + NB) 0 w1) := ⟨⟨[], la.length + lb.length, HU.out, by simp, rfl, hown⟩, (Below.refl _ _).grown hgrow (Nat.le_refl _) (fun k hk => by cases hk)⟩
  clear hown hgrow
  go_wp2_with fail
  go_loopw [0, 1, 5] (fun av bv o wr => ∃ (i j g cp m pa pb : Nat), i ≤ NA ∧ j ≤ NB ∧ (i < NA → pa = oa + i * 5) ∧ (j < NB → pb = ob + j * 5) ∧ av = .slice (some ⟨ba, pa, none⟩) (NA - i) (ca - i) ∧ bv = .slice (some ⟨bb, pb, none⟩) (NB - j) (cb - j) ∧ o = .slice (some ⟨g, 0, none⟩) m cp ∧ m ≤ i + j ∧ Hid (UnJ w la lb U i j g cp m wr)) (fun av bv _ _ => (match av with | .slice _ n _ => n | _ => 0) + (match bv with | .slice _ n _ => n | _ => 0))
  case atStart => exact ⟨0, 0, w.heap.size, NA + NB, 0, oa, ob, Nat.zero_le _, Nat.zero_le _, fun _ => by simp, fun _ => by simp, rfl, rfl, rfl, Nat.zero_le _, HJ0.out⟩
  case round =>
    obtain ⟨i, j, g, cp, m, pa, pb, hiA, hjB, hpa, hpb, rfl, rfl, rfl, hmij, HJ⟩ := hrel
    by_cases hli : i < NA
    · by_cases hlj : j < NB
      · have zi : (0 : Int) < ((NA - i : Nat) : Int) := by omega
        have zj : (0 : Int) < ((NB - j : Nat) : Int) := by omega
        obtain rfl := hpa hli
        obtain rfl := hpb hlj
        clear hpa hpb
        obtain ⟨x, hx⟩ : ∃ x, la[i]? = some x := ⟨_, List.getElem?_eq_getElem (by have := HN.out.1; omega)⟩
        obtain ⟨y, hy⟩ : ∃ y, lb[j]? = some y := ⟨_, List.getElem?_eq_getElem (by have := HN.out.2; omega)⟩
        have hCa := (HR.out.1 wr HJ.out.below).at_ i x hx
        have hCb := (HR.out.2 wr HJ.out.below).at_ j y hy
        have hS0 : (fun w' : World => w'.cell? ⟨ba, oa + i * 5, none⟩ = some (.string x.row) ∧ w'.cell? ⟨ba, oa + i * 5 + 1, none⟩ = some (.string x.fam) ∧ w'.cell? ⟨ba, oa + i * 5 + 2, none⟩ = some (.string x.qual) ∧ w'.cell? ⟨ba, oa + i * 5 + 3, none⟩ = some (.int .u64 x.ts) ∧ w'.cell? ⟨ba, oa + i * 5 + 4, none⟩ = some (.string x.val) ∧ w'.cell? ⟨bb, ob + j * 5, none⟩ = some (.string y.row) ∧ w'.cell? ⟨bb, ob + j * 5 + 1, none⟩ = some (.string y.fam) ∧ w'.cell? ⟨bb, ob + j * 5 + 2, none⟩ = some (.string y.qual) ∧ w'.cell? ⟨bb, ob + j * 5 + 3, none⟩ = some (.int .u64 y.ts) ∧ w'.cell? ⟨bb, ob + j * 5 + 4, none⟩ = some (.string y.val)) wr.drew := ⟨hCa.1, hCa.2.1, hCa.2.2.1, hCa.2.2.2.1, hCa.2.2.2.2, hCb.1, hCb.2.1, hCb.2.2.1, hCb.2.2.2.1, hCb.2.2.2.2⟩
        have hd : Below wr.heap.size wr wr.drew := (Below.refl _ _).drew
        have HXq : Hid (la[i]? = some x ∧ lb[j]? = some y) := ⟨hx, hy⟩
        have HXY : Hid (la.drop i = x :: la.drop (i + 1) ∧ lb.drop j = y :: lb.drop (j + 1)) := ⟨drop_cons hx, drop_cons hy⟩
        have HCm : Hid (Calls Tryz.prog 60 #[x.c, y.c] wr.drew fun e w' => e = .returned (.int .i64 (keyCmp x y)) ∧ Below wr.drew.heap.size wr.drew w') := by
          have h9 := cellCompare_any x y wr.drew
          have px : putE x = x := by have h0 := HK.out.1 x (List.mem_of_getElem? hx); cases x; simp only [putE] at *; subst h0; rfl
          have py : putE y = y := by have h0 := HK.out.2 y (List.mem_of_getElem? hy); cases y; simp only [putE] at *; subst h0; rfl
          rw [px, py] at h9
          exact h9
        obtain ⟨ky, hky⟩ : ∃ ky, ky = keyCmp x y := ⟨_, rfl⟩
        have HKy : Hid (ky = keyCmp x y) := hky
        have hkv := keyCmp_vals x y
        rw [← hky] at HCm hkv
        clear hky hCa hCb hx hy
        go_upto_region 3 with fail
        refine wp_region_T 99 (fun w' : World => w'.cell? ⟨ba, oa + i * 5, none⟩ = some (.string x.row) ∧ w'.cell? ⟨ba, oa + i * 5 + 1, none⟩ = some (.string x.fam) ∧ w'.cell? ⟨ba, oa + i * 5 + 2, none⟩ = some (.string x.qual) ∧ w'.cell? ⟨ba, oa + i * 5 + 3, none⟩ = some (.int .u64 x.ts) ∧ w'.cell? ⟨ba, oa + i * 5 + 4, none⟩ = some (.string x.val) ∧ w'.cell? ⟨bb, ob + j * 5, none⟩ = some (.string y.row) ∧ w'.cell? ⟨bb, ob + j * 5 + 1, none⟩ = some (.string y.fam) ∧ w'.cell? ⟨bb, ob + j * 5 + 2, none⟩ = some (.string y.qual) ∧ w'.cell? ⟨bb, ob + j * 5 + 3, none⟩ = some (.int .u64 y.ts) ∧ w'.cell? ⟨bb, ob + j * 5 + 4, none⟩ = some (.string y.val)) (by kernel_rfl) ?_
        refine anyT_takeN (i := 0) (v := ?vun0) rfl (by kernel_rfl) (by kernel_rfl) (by kernel_rfl) (by rfl) (fun _ _ _ h => h) (Or.inl ⟨by rfl, ?yun0⟩) hS0 ?_
        case yun0 => (intro wz hSw; obtain ⟨hz0, hz1, hz2, hz3, hz4, hz5, hz6, hz7, hz8, hz9⟩ := hSw; go_simp; (try with_reducible rfl))
        try simp only [Act.put, List.getElem_toArray, List.getElem_cons_zero, List.getElem_cons_succ, List.setIfInBounds_toArray, List.set_cons_zero, List.set_cons_succ]
        refine anyT_takeN (i := 1) (v := ?vun1) rfl (by kernel_rfl) (by kernel_rfl) (by kernel_rfl) (by rfl) (fun _ _ _ h => h) (Or.inl ⟨by rfl, ?yun1⟩) hS0 ?_
        case yun1 => (intro wz hSw; obtain ⟨hz0, hz1, hz2, hz3, hz4, hz5, hz6, hz7, hz8, hz9⟩ := hSw; go_simp; (try with_reducible rfl))
        try simp only [Act.put, List.getElem_toArray, List.getElem_cons_zero, List.getElem_cons_succ, List.setIfInBounds_toArray, List.set_cons_zero, List.set_cons_succ]
        refine anyT_takeN (i := 2) (v := ?vun2) rfl (by kernel_rfl) (by kernel_rfl) (by kernel_rfl) (by rfl) (fun _ _ _ h => h) (Or.inl ⟨by rfl, ?yun2⟩) hS0 ?_
        case yun2 => (intro wz hSw; obtain ⟨hz0, hz1, hz2, hz3, hz4, hz5, hz6, hz7, hz8, hz9⟩ := hSw; go_simp; (try with_reducible rfl))
        try simp only [Act.put, List.getElem_toArray, List.getElem_cons_zero, List.getElem_cons_succ, List.setIfInBounds_toArray, List.set_cons_zero, List.set_cons_succ]
        refine anyT_takeN (i := 3) (v := ?vun3) rfl (by kernel_rfl) (by kernel_rfl) (by kernel_rfl) (by rfl) (fun _ _ _ h => h) (Or.inl ⟨by rfl, ?yun3⟩) hS0 ?_
        case yun3 => (intro wz hSw; obtain ⟨hz0, hz1, hz2, hz3, hz4, hz5, hz6, hz7, hz8, hz9⟩ := hSw; go_simp; (try with_reducible rfl))
        try simp only [Act.put, List.getElem_toArray, List.getElem_cons_zero, List.getElem_cons_succ, List.setIfInBounds_toArray, List.set_cons_zero, List.set_cons_succ]
        refine anyT_takeN (i := 4) (v := ?vun4) rfl (by kernel_rfl) (by kernel_rfl) (by kernel_rfl) (by rfl) (fun _ _ _ h => h) (Or.inl ⟨by rfl, ?yun4⟩) hS0 ?_
        case yun4 => (intro wz hSw; obtain ⟨hz0, hz1, hz2, hz3, hz4, hz5, hz6, hz7, hz8, hz9⟩ := hSw; go_simp; (try with_reducible rfl))
        try simp only [Act.put, List.getElem_toArray, List.getElem_cons_zero, List.getElem_cons_succ, List.setIfInBounds_toArray, List.set_cons_zero, List.set_cons_succ]
        refine anyT_takeN (i := 5) (v := ?vun5) rfl (by kernel_rfl) (by kernel_rfl) (by kernel_rfl) (by rfl) (fun _ _ _ h => h) (Or.inl ⟨by rfl, ?yun5⟩) hS0 ?_
        case yun5 => (intro wz hSw; obtain ⟨hz0, hz1, hz2, hz3, hz4, hz5, hz6, hz7, hz8, hz9⟩ := hSw; go_simp; (try with_reducible rfl))
        try simp only [Act.put, List.getElem_toArray, List.getElem_cons_zero, List.getElem_cons_succ, List.setIfInBounds_toArray, List.set_cons_zero, List.set_cons_succ]
        refine anyT_one (i := 6) (by kernel_rfl) rfl (fun K hK => ?_)
        go_simp
        go_at_call 60
        refine HCm.out.mono ?_
        rintro e w3 ⟨rfl, hb3⟩
        have hb3' : Below wr.heap.size wr w3 := hd.trans hb3
        have HJ3 : Hid (UnJ w la lb U i j g cp m w3) := HJ.out.move hb3'
        have hS3 : (fun w' : World => w'.cell? ⟨ba, oa + i * 5, none⟩ = some (.string x.row) ∧ w'.cell? ⟨ba, oa + i * 5 + 1, none⟩ = some (.string x.fam) ∧ w'.cell? ⟨ba, oa + i * 5 + 2, none⟩ = some (.string x.qual) ∧ w'.cell? ⟨ba, oa + i * 5 + 3, none⟩ = some (.int .u64 x.ts) ∧ w'.cell? ⟨ba, oa + i * 5 + 4, none⟩ = some (.string x.val) ∧ w'.cell? ⟨bb, ob + j * 5, none⟩ = some (.string y.row) ∧ w'.cell? ⟨bb, ob + j * 5 + 1, none⟩ = some (.string y.fam) ∧ w'.cell? ⟨bb, ob + j * 5 + 2, none⟩ = some (.string y.qual) ∧ w'.cell? ⟨bb, ob + j * 5 + 3, none⟩ = some (.int .u64 y.ts) ∧ w'.cell? ⟨bb, ob + j * 5 + 4, none⟩ = some (.string y.val)) w3 := by
          have q1 := HXq.out.1
          have q2 := HXq.out.2
          have hCa := (HR.out.1 w3 HJ3.out.below).at_ i x q1
          have hCb := (HR.out.2 w3 HJ3.out.below).at_ j y q2
          exact ⟨hCa.1, hCa.2.1, hCa.2.2.1, hCa.2.2.2.1, hCa.2.2.2.2, hCb.1, hCb.2.1, hCb.2.2.1, hCb.2.2.2.1, hCb.2.2.2.2⟩
        clear hb3 hb3'
        refine hK.out _ _ (.inr hS3) ?_
        clear hK
        try simp only [Act.put, List.getElem_toArray, List.getElem_cons_zero, List.getElem_cons_succ, List.setIfInBounds_toArray, List.set_cons_zero, List.set_cons_succ]
        refine anyT_takeN (i := 7) (v := ?vun7) rfl (by kernel_rfl) (by kernel_rfl) (by kernel_rfl) (by rfl) (fun _ _ _ h => h) (Or.inl ⟨by rfl, ?yun7⟩) hS3 ?_
        case yun7 => (intro wz hSw; obtain ⟨hz0, hz1, hz2, hz3, hz4, hz5, hz6, hz7, hz8, hz9⟩ := hSw; go_simp; (try with_reducible rfl))
        try simp only [Act.put, List.getElem_toArray, List.getElem_cons_zero, List.getElem_cons_succ, List.setIfInBounds_toArray, List.set_cons_zero, List.set_cons_succ]
        refine anyT_done (by kernel_rfl) ?_
        obtain ⟨L, f, hU1, hf1, hm1, hO1⟩ := HJ3.out.own
        have HO1 : Hid (OwnC w3 w.heap.size g cp L ∧ m = L.length ∧ Below w.heap.size w w3) := ⟨hO1, hm1, HJ3.out.below⟩
        have HKm : Hid (m = L.length) := hm1
        obtain ⟨f', hf'⟩ : ∃ f', f = f' + 1 := ⟨f - 1, by rw [HXY.out.1] at hf1; simp at hf1; omega⟩
        subst hf'
        have HU1 : Hid (U = L ++ mrgU (f' + 1) (x :: la.drop (i + 1)) (y :: lb.drop (j + 1)) ∧ (la.drop (i + 1)).length + (lb.drop (j + 1)).length + 1 ≤ f') := by
          rw [HXY.out.1, HXY.out.2] at hU1 hf1
          refine ⟨hU1, ?_⟩
          simp only [List.length_cons] at hf1
          omega
        obtain ⟨d0, d1, d2, d3, d4, e0, e1, e2, e3, e4⟩ := hS3
        have hbz := HJ3.out.below.size
        have hgl := hO1.lt
        clear hU1 hf1 hm1 hO1 hS0 HJ HCm
        by_cases h1 : ky = 1
        · subst h1
          go_wp2_with (at_builtin; refine wpList_append_cel _ rfl _ _ rfl w.heap.size g cp _ _ L y rfl rfl HKm.out ?hO ?hc ?hl ?hb ?_)
          case hO => exact HO1.out.1.below ((Below.refl _ _).alloc (Nat.le_refl _) _) (by omega)
          case hc => exact cel_new w3 y
          case hl => rw [← HKm.out]; omega
          case hb => (first | omega | (simp; omega))
          intro g' cp' w' hO' hgr
          have HNJ : Hid (UnJ w la lb U (i) (j + 1) g' cp' (m + 1) w') := by
            refine ⟨⟨L ++ [y], f', ?_, ?_, by rw [List.length_append, ← HKm.out]; rfl, hO'⟩, ?_⟩
            · rw [HU1.out.1]
              simp [mrgU, ← HKy.out, HXY.out.1]
            · have h9 := HU1.out.2
              rw [HXY.out.1]; simp only [List.length_cons]
              omega
            · exact (HO1.out.2.2.alloc HO1.out.2.2.size _).grown hgr (by simp; omega) (fun q hq => by cases hq; omega)
          clear hO' hgr d0 d1 d2 d3 d4 e0 e1 e2 e3 e4
          go_wp2_with fail
          go_roundw
          case rel => exact ⟨i, j + 1, g', cp', m + 1, _, _, by omega, by omega, fun _ => rfl, slice_off bb ob cb NB j hcb, rfl, slice_step bb ob cb NB j, rfl, by omega, HNJ.out⟩
          case measure => (go_light; simp; try omega)
        · by_cases h0 : ky = 0
          · subst h0
            go_wp2_with (at_builtin; refine wpList_append_cel _ rfl _ _ rfl w.heap.size g cp _ _ L x rfl rfl HKm.out ?hO ?hc ?hl ?hb ?_)
            case hO => exact HO1.out.1.below ((Below.refl _ _).alloc (Nat.le_refl _) _) (by omega)
            case hc => exact cel_new w3 x
            case hl => rw [← HKm.out]; omega
            case hb => (first | omega | (simp; omega))
            intro g' cp' w' hO' hgr
            have HNJ : Hid (UnJ w la lb U (i + 1) (j + 1) g' cp' (m + 1) w') := by
              refine ⟨⟨L ++ [x], f', ?_, ?_, by rw [List.length_append, ← HKm.out]; rfl, hO'⟩, ?_⟩
              · rw [HU1.out.1]
                simp [mrgU, ← HKy.out]
              · have h9 := HU1.out.2
    
                omega
              · exact (HO1.out.2.2.alloc HO1.out.2.2.size _).grown hgr (by simp; omega) (fun q hq => by cases hq; omega)
            clear hO' hgr d0 d1 d2 d3 d4 e0 e1 e2 e3 e4
            go_wp2_with fail
            go_roundw
            case rel => exact ⟨i + 1, j + 1, g', cp', m + 1, _, _, by omega, by omega, slice_off ba oa ca NA i hca, slice_off bb ob cb NB j hcb, slice_step ba oa ca NA i, slice_step bb ob cb NB j, rfl, by omega, HNJ.out⟩
            case measure => (go_light; simp; try omega)
          · obtain rfl : ky = -1 := by omega
            go_wp2_with (at_builtin; refine wpList_append_cel _ rfl _ _ rfl w.heap.size g cp _ _ L x rfl rfl HKm.out ?hO ?hc ?hl ?hb ?_)
            case hO => exact HO1.out.1.below ((Below.refl _ _).alloc (Nat.le_refl _) _) (by omega)
            case hc => exact cel_new w3 x
            case hl => rw [← HKm.out]; omega
            case hb => (first | omega | (simp; omega))
            intro g' cp' w' hO' hgr
            have HNJ : Hid (UnJ w la lb U (i + 1) (j) g' cp' (m + 1) w') := by
              refine ⟨⟨L ++ [x], f', ?_, ?_, by rw [List.length_append, ← HKm.out]; rfl, hO'⟩, ?_⟩
              · rw [HU1.out.1]
                simp [mrgU, ← HKy.out, HXY.out.2]
              · have h9 := HU1.out.2
                rw [HXY.out.2]; simp only [List.length_cons]
                omega
              · exact (HO1.out.2.2.alloc HO1.out.2.2.size _).grown hgr (by simp; omega) (fun q hq => by cases hq; omega)
            clear hO' hgr d0 d1 d2 d3 d4 e0 e1 e2 e3 e4
            go_wp2_with fail
            go_roundw
            case rel => exact ⟨i + 1, j, g', cp', m + 1, _, _, by omega, by omega, slice_off ba oa ca NA i hca, fun _ => rfl, slice_step ba oa ca NA i, rfl, rfl, by omega, HNJ.out⟩
            case measure => (go_light; simp; try omega)
      · have zi : (0 : Int) < ((NA - i : Nat) : Int) := by omega
        have zj : ¬ (0 : Int) < ((NB - j : Nat) : Int) := by omega
        have hdb : lb.drop j = [] := List.drop_of_length_le (by rw [← HN.out.2]; omega)
        obtain ⟨L, f, hU1, hf1, hm1, hO1⟩ := HJ.out.own
        have HE : Hid (U = L ++ (la.drop i ++ lb.drop j)) := by
          show _ = _
          rw [hU1, hdb, mrgU_nilr, List.append_nil]
        have HO1 : Hid (OwnC wr w.heap.size g cp L ∧ m = L.length ∧ Below w.heap.size w wr) := ⟨hO1, hm1, HJ.out.below⟩
        have HKm : Hid (m = L.length) := hm1
        have HA1 : Hid (CelsAt wr ba pa (la.drop i) ∧ NA - i = (la.drop i).length) := ⟨cels_drop ((HR.out.1 wr HJ.out.below).drop (k := i) (by rw [← HN.out.1]; omega)).at_ (fun q => hpa (by rw [HN.out.1]; exact q)), by rw [List.length_drop, ← HN.out.1] <;> omega⟩
        have HB1 : Hid ((∀ wx, Below w.heap.size w wx → CelsAt wx bb pb (lb.drop j)) ∧ NB - j = (lb.drop j).length) := ⟨fun wx hx => cels_drop ((HR.out.2 wx hx).drop (k := j) (by rw [← HN.out.2]; omega)).at_ (fun q => hpb (by rw [HN.out.2]; exact q)), by rw [List.length_drop, ← HN.out.2] <;> omega⟩
        have HLA : Hid (NA - i = (la.drop i).length) := HA1.out.2
        have HLB : Hid (NB - j = (lb.drop j).length) := HB1.out.2
        have hbz := HJ.out.below.size
        have hgl := hO1.lt
        clear hdb hU1 hf1 hm1 hO1 HJ hpa hpb
        obtain ⟨za, hza⟩ : ∃ z, z = NA - i := ⟨_, rfl⟩
        obtain ⟨zb, hzb⟩ : ∃ z, z = NB - j := ⟨_, rfl⟩
        have HZ : Hid (za = NA - i ∧ zb = NB - j) := ⟨hza, hzb⟩
        have zi2 : (0 : Int) < (za : Int) := by omega
        have zj2 : ¬ (0 : Int) < (zb : Int) := by omega
        rw [← hza] at HLA ⊢
        rw [← hzb] at HLB ⊢
        have hzl : za ≤ 10000 ∧ zb ≤ 10000 := by omega
        have hzl1 := hzl.1
        have hzl2 := hzl.2
        have hm20 : m ≤ 20000 := by omega
        clear hza hzb hzl zi zj hli hlj
        go_upto_region 10 with fail
        clear zi2 zj2
        go_wp2_with (at_builtin; refine wpList_append_cels _ rfl _ _ rfl w.heap.size g cp _ _ _ _ _ L (la.drop i) rfl rfl HKm.out HLA.out ?hO ?hc ?hl ?hb ?_)
        case hO => exact HO1.out.1
        case hc => exact HA1.out.1
        case hl => (have h8 := HKm.out; have h9 := HLA.out; omega)
        try (case hb => omega)
        intro g' cp' w' hO' hgr
        have HN2 : Hid (OwnC w' w.heap.size g' cp' (L ++ la.drop i) ∧ m + za = (L ++ la.drop i).length ∧ Below w.heap.size w w') := ⟨hO', by rw [List.length_append, ← HKm.out, ← HLA.out], HO1.out.2.2.grown hgr hbz (fun q hq => by cases hq; omega)⟩
        have HKm2 : Hid (m + za = (L ++ la.drop i).length) := HN2.out.2.1
        have hbz2 := HN2.out.2.2.size
        have hgl2 := hO'.lt
        clear hO' hgr
        go_wp2_with (at_builtin; refine wpList_append_cels _ rfl _ _ rfl w.heap.size g' cp' _ _ _ _ _ (L ++ la.drop i) (lb.drop j) rfl rfl HKm2.out HLB.out ?hO ?hc ?hl ?hb ?_)
        case hO => exact HN2.out.1
        case hc => exact HB1.out.1 w' HN2.out.2.2
        case hl => (have h8 := HKm2.out; have h9 := HLB.out; omega)
        try (case hb => omega)
        intro g5 cp5 w5 hO5 hgr5
        have HFi : Hid (OwnC w5 w.heap.size g5 cp5 U ∧ m + za + zb = U.length ∧ Below w.heap.size w w5) := by
          rw [HE.out]
          exact ⟨by first | exact hO5 | (rw [← List.append_assoc]; exact hO5), by rw [← List.append_assoc, List.length_append, ← HKm2.out, ← HLB.out], HN2.out.2.2.grown hgr5 hbz2 (fun q hq => by cases hq; omega)⟩
        clear hO5 hgr5
        go_wp2_with fail
        go_ret
        refine ⟨g5, cp5, ?_, HFi.out.1, HFi.out.2.2⟩
        rw [← HFi.out.2.1]; rfl
    · have zi : ¬ (0 : Int) < ((NA - i : Nat) : Int) := by omega
      have hda : la.drop i = [] := List.drop_of_length_le (by rw [← HN.out.1]; omega)
      obtain ⟨L, f, hU1, hf1, hm1, hO1⟩ := HJ.out.own
      have HE : Hid (U = L ++ (la.drop i ++ lb.drop j)) := by
        show _ = _
        rw [hU1, hda, mrgU_nil, List.nil_append]
      have HO1 : Hid (OwnC wr w.heap.size g cp L ∧ m = L.length ∧ Below w.heap.size w wr) := ⟨hO1, hm1, HJ.out.below⟩
      have HKm : Hid (m = L.length) := hm1
      have HA1 : Hid (CelsAt wr ba pa (la.drop i) ∧ NA - i = (la.drop i).length) := ⟨cels_drop ((HR.out.1 wr HJ.out.below).drop (k := i) (by rw [← HN.out.1]; omega)).at_ (fun q => hpa (by rw [HN.out.1]; exact q)), by rw [List.length_drop, ← HN.out.1] <;> omega⟩
      have HB1 : Hid ((∀ wx, Below w.heap.size w wx → CelsAt wx bb pb (lb.drop j)) ∧ NB - j = (lb.drop j).length) := ⟨fun wx hx => cels_drop ((HR.out.2 wx hx).drop (k := j) (by rw [← HN.out.2]; omega)).at_ (fun q => hpb (by rw [HN.out.2]; exact q)), by rw [List.length_drop, ← HN.out.2] <;> omega⟩
      have HLA : Hid (NA - i = (la.drop i).length) := HA1.out.2
      have HLB : Hid (NB - j = (lb.drop j).length) := HB1.out.2
      have hbz := HJ.out.below.size
      have hgl := hO1.lt
      clear hda hU1 hf1 hm1 hO1 HJ hpa hpb
      obtain ⟨za, hza⟩ : ∃ z, z = NA - i := ⟨_, rfl⟩
      obtain ⟨zb, hzb⟩ : ∃ z, z = NB - j := ⟨_, rfl⟩
      have HZ : Hid (za = NA - i ∧ zb = NB - j) := ⟨hza, hzb⟩
      have zi2 : ((0 : Int) < (za : Int)) = False := eq_false (by omega)
      have zi3 : (0 < za) = False := eq_false (by omega)
      rw [← hza] at HLA ⊢
      rw [← hzb] at HLB ⊢
      have hzl : za ≤ 10000 ∧ zb ≤ 10000 := by omega
      have hzl1 := hzl.1
      have hzl2 := hzl.2
      have hm20 : m ≤ 20000 := by omega
      clear hza hzb hzl zi hli
      go_upto_region 10 with fail
      clear zi2 zi3
      go_wp2_with (at_builtin; refine wpList_append_cels _ rfl _ _ rfl w.heap.size g cp _ _ _ _ _ L (la.drop i) rfl rfl HKm.out HLA.out ?hO ?hc ?hl ?hb ?_)
      case hO => exact HO1.out.1
      case hc => exact HA1.out.1
      case hl => (have h8 := HKm.out; have h9 := HLA.out; omega)
      try (case hb => omega)
      intro g' cp' w' hO' hgr
      have HN2 : Hid (OwnC w' w.heap.size g' cp' (L ++ la.drop i) ∧ m + za = (L ++ la.drop i).length ∧ Below w.heap.size w w') := ⟨hO', by rw [List.length_append, ← HKm.out, ← HLA.out], HO1.out.2.2.grown hgr hbz (fun q hq => by cases hq; omega)⟩
      have HKm2 : Hid (m + za = (L ++ la.drop i).length) := HN2.out.2.1
      have hbz2 := HN2.out.2.2.size
      have hgl2 := hO'.lt
      clear hO' hgr
      go_wp2_with (at_builtin; refine wpList_append_cels _ rfl _ _ rfl w.heap.size g' cp' _ _ _ _ _ (L ++ la.drop i) (lb.drop j) rfl rfl HKm2.out HLB.out ?hO ?hc ?hl ?hb ?_)
      case hO => exact HN2.out.1
      case hc => exact HB1.out.1 w' HN2.out.2.2
      case hl => (have h8 := HKm2.out; have h9 := HLB.out; omega)
      try (case hb => omega)
      intro g5 cp5 w5 hO5 hgr5
      have HFi : Hid (OwnC w5 w.heap.size g5 cp5 U ∧ m + za + zb = U.length ∧ Below w.heap.size w w5) := by
        rw [HE.out]
        exact ⟨by first | exact hO5 | (rw [← List.append_assoc]; exact hO5), by rw [← List.append_assoc, List.length_append, ← HKm2.out, ← HLB.out], HN2.out.2.2.grown hgr5 hbz2 (fun q hq => by cases hq; omega)⟩
      clear hO5 hgr5
      go_wp2_with fail
      go_ret
      refine ⟨g5, cp5, ?_, HFi.out.1, HFi.out.2.2⟩
      rw [← HFi.out.2.1]; rfl
end Go.Proofs.YtkidabedcgngcaaGreatDoor

