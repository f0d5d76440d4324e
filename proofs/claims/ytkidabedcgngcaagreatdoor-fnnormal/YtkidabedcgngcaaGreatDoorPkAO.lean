import Derived.Test.YtkidabedcgngcaaGreatDoorPkAM
import Derived.Test.YtkidabedcgngcaaGreatDoorPkAD
import Derived.Test.YtkidabedcgngcaaGreatDoorPkAN
/-
  lay at a byte.
-/
namespace Go.Proofs.YtkidabedcgngcaaGreatDoor
open Go.ChangeShapes Go.WideShapes Go.ChangeAt Go.RowKit Go.Deep
set_option linter.unusedVariables false
set_option linter.unusedSimpArgs false
set_option maxRecDepth 100000

/-- The matcher with a part laid. -/
def withT (T : Nat → PS) (l : Lay) : Nat → PS := fun b p => T b p || l.tk p (UInt8.ofNat b)
def withE (E : Nat → PS) (l : Lay) : Nat → PS := fun p q => E p q || l.ed p q
/-- What lay hands back. -/
def LayR (base M : Nat) (T : Nat → PS) (G : Nat) (E : Nat → PS) (en : PS) (mp : Nat) (l : Lay) (w : World) (e : Ending) (w' : World) : Prop :=
  ∃ G' cp', e = .returned (spV l.fst l.lst) ∧ Hid (MtrI w' base M (withT T l) G' cp' l.nx (withE E l) en mp ∧ Chg (fun k => k = M ∨ k = G) w w' ∧ (G' = G ∨ w.heap.size ≤ G'))
abbrev zsA : Array Value := #[.int .u64 0, .int .u64 0, .int .u64 0, .int .u64 0, .int .u64 0, .int .u64 0, .int .u64 0, .int .u64 0]
theorem MtrI.taken4 {w : World} {base M : Nat} {T : Nat → PS} {G cp a : Nat} {E : Nat → PS} {en : PS} {mp : Nat} (h : MtrI w base M T G cp a E en mp) {p : Nat} (hp : p < 256) : w.cell? ⟨M, p * 4, none⟩ = some (.int .u64 (wdN (T p) 0 : Int)) ∧ w.cell? ⟨M, p * 4 + 1, none⟩ = some (.int .u64 (wdN (T p) 1 : Int)) ∧ w.cell? ⟨M, p * 4 + 2, none⟩ = some (.int .u64 (wdN (T p) 2 : Int)) ∧ w.cell? ⟨M, p * 4 + 3, none⟩ = some (.int .u64 (wdN (T p) 3 : Int)) ∧ w.frozen? ⟨M, p * 4, none⟩ = false ∧ w.frozen? ⟨M, p * 4 + 1, none⟩ = false ∧ w.frozen? ⟨M, p * 4 + 2, none⟩ = false ∧ w.frozen? ⟨M, p * 4 + 3, none⟩ = false := by
  rw [Nat.mul_comm p 4]
  exact ⟨h.tk hp (j := 0) (by omega), h.tk hp (by omega), h.tk hp (by omega), h.tk hp (by omega), h.frzM _, h.frzM _, h.frzM _, h.frzM _⟩
set_option maxHeartbeats 4000000 in
theorem lay_byte {base M : Nat} {T : Nat → PS} {G cp a : Nat} {E : Nat → PS} {en : PS} {mp : Nat} (b : UInt8) (w : World) (h : MtrI w base M T G cp a E en mp) (ha : a < 256) :
    Calls Tryz.prog 135 #[.pointer (some ⟨M, 0, none⟩), byteV b] w (LayR base M T G E en mp (lyP (.byte b) a) w) := by
  obtain ⟨W0, hW0⟩ : ∃ W0 : World, W0 = (w.alloc (.cells zsA 183)).alloc (.cells #[.int .u8 (b.toNat : Int)] 211) := ⟨_, rfl⟩
  have HW0 : Hid (BoxAt W0 w.heap.size 183 8 w.heap.size zsA.toList ∧ BoxAt W0 w.heap.size 211 1 (w.heap.size + 1) [.int .u8 (b.toNat : Int)] ∧ Below w.heap.size w W0 ∧ MtrI W0 base M T G cp a E en mp) := by
    have b1 := boxAt_new w (base := w.heap.size) (t := 183) (sz := 8) zsA (Nat.le_refl _) rfl
    have b2 := boxAt_new (w.alloc (.cells zsA 183)) (base := w.heap.size) (t := 211) (sz := 1) #[.int .u8 (b.toNat : Int)] (by simp) rfl
    rw [World.size_alloc] at b2
    have k0 : Below w.heap.size w W0 := by rw [hW0]; exact ((Below.refl _ _).alloc (Nat.le_refl _) _).alloc (by simp) _
    refine ⟨?_, by rw [hW0]; exact b2, k0, h.below k0⟩
    rw [hW0]; exact b1.below ((Below.refl _ _).alloc (Nat.le_refl _) _)
  have HN : Hid (Calls Tryz.prog 154 #[.pointer (some ⟨M, 0, none⟩)] W0 fun e w' => ∃ G' cp', e = .returned (.int .i64 (a : Int)) ∧ Hid (MtrI w' base M T G' cp' (a + 1) E en mp ∧ Chg (fun k => k = M ∨ k = G) W0 w' ∧ (G' = G ∨ W0.heap.size ≤ G'))) := newPosition_core W0 HW0.out.2.2.2 (by omega)
  have hM0 := h.ltM
  have hG0 := h.ltG
  clear h
  have hAs := asBB #[.int .u8 (b.toNat : Int)]
  go_enter Tryz.func135, Tryz.ntmps135
  go_wp2_with fail
  rw [← hW0]
  clear hW0 hAs
  refine HN.out.mono ?_
  rintro e w1 ⟨G1, cp1, rfl, H1⟩
  have HB1 : Hid (BoxAt w1 w.heap.size 183 8 w.heap.size zsA.toList ∧ BoxAt w1 w.heap.size 211 1 (w.heap.size + 1) [.int .u8 (b.toNat : Int)]) := ⟨HW0.out.1.chg H1.out.2.1 (by omega), HW0.out.2.1.chg H1.out.2.1 (by omega)⟩
  have r0 := HB1.out.2.cell (j := 0) rfl
  have hlB : b.toNat < 256 := b.toNat_lt
  obtain ⟨bn, hbn⟩ : ∃ bn, bn = b.toNat := ⟨_, rfl⟩
  rw [← hbn] at r0 hlB
  obtain ⟨e0, e1, e2, e3, y0, y1, y2, y3⟩ := H1.out.1.taken4 hlB
  have hM1 := H1.out.1.ltM
  have hn1 := H1.out.1.ne
  have hS1 := H1.out.2.1.size
  have zb : (bn : Int) < 256 := by omega
  have HWi : Hid (∀ wx : World, Calls Tryz.prog 137 #[psV (T bn), .int .i64 (a : Int)] wx fun e w' => e = .returned (psV (sOr (T bn) (sOne a))) ∧ Below wx.heap.size wx w') := fun wx => with_core (T bn) a ha wx
  have HBn : Hid (bn = b.toNat) := hbn
  clear hbn
  go_upto_region 5 with fail
  have HS0 : Hid (w1.drew.cell? ⟨w.heap.size + 1, 0, none⟩ = some (.int .u8 (bn : Int)) ∧ w1.drew.cell? ⟨M, bn * 4, none⟩ = some (.int .u64 (wdN (T bn) 0 : Int)) ∧ w1.drew.cell? ⟨M, bn * 4 + 1, none⟩ = some (.int .u64 (wdN (T bn) 1 : Int)) ∧ w1.drew.cell? ⟨M, bn * 4 + 2, none⟩ = some (.int .u64 (wdN (T bn) 2 : Int)) ∧ w1.drew.cell? ⟨M, bn * 4 + 3, none⟩ = some (.int .u64 (wdN (T bn) 3 : Int))) := ⟨r0, e0, e1, e2, e3⟩
  refine wp_region_T 15 (fun wz => wz.cell? ⟨w.heap.size + 1, 0, none⟩ = some (.int .u8 (bn : Int)) ∧ wz.cell? ⟨M, bn * 4, none⟩ = some (.int .u64 (wdN (T bn) 0 : Int)) ∧ wz.cell? ⟨M, bn * 4 + 1, none⟩ = some (.int .u64 (wdN (T bn) 1 : Int)) ∧ wz.cell? ⟨M, bn * 4 + 2, none⟩ = some (.int .u64 (wdN (T bn) 2 : Int)) ∧ wz.cell? ⟨M, bn * 4 + 3, none⟩ = some (.int .u64 (wdN (T bn) 3 : Int))) (by kernel_rfl) ?_
  refine anyT_take (i := 0) (v := ?vb0) rfl (by kernel_rfl) (by kernel_rfl) (by kernel_rfl) (by kernel_rfl) (by decide) (fun _ _ _ h => h) (Or.inl ⟨by rfl, ?yb0⟩) HS0.out ?_
  case yb0 => (intro wz hSw; obtain ⟨d0, d1, d2, d3, d4⟩ := hSw; go_simp; (try with_reducible rfl))
  try simp only [Act.put, List.getElem_toArray, List.getElem_cons_zero, List.getElem_cons_succ, List.setIfInBounds_toArray, List.set_cons_zero, List.set_cons_succ]
  refine anyT_take (i := 1) (v := ?vb1) rfl (by kernel_rfl) (by kernel_rfl) (by kernel_rfl) (by kernel_rfl) (by decide) (fun _ _ _ h => h) (Or.inl ⟨by rfl, ?yb1⟩) HS0.out ?_
  case yb1 => (intro wz hSw; obtain ⟨d0, d1, d2, d3, d4⟩ := hSw; go_simp; (try with_reducible rfl))
  try simp only [Act.put, List.getElem_toArray, List.getElem_cons_zero, List.getElem_cons_succ, List.setIfInBounds_toArray, List.set_cons_zero, List.set_cons_succ]
  refine anyT_take (i := 2) (v := ?vb2) rfl (by kernel_rfl) (by kernel_rfl) (by kernel_rfl) (by kernel_rfl) (by decide) (fun _ _ _ h => h) (Or.inl ⟨by rfl, ?yb2⟩) HS0.out ?_
  case yb2 => (intro wz hSw; obtain ⟨d0, d1, d2, d3, d4⟩ := hSw; go_simp; (try with_reducible rfl))
  try simp only [Act.put, List.getElem_toArray, List.getElem_cons_zero, List.getElem_cons_succ, List.setIfInBounds_toArray, List.set_cons_zero, List.set_cons_succ]
  refine anyT_take (i := 3) (v := ?vb3) rfl (by kernel_rfl) (by kernel_rfl) (by kernel_rfl) (by kernel_rfl) (by decide) (fun _ _ _ h => h) (Or.inl ⟨by rfl, ?yb3⟩) HS0.out ?_
  case yb3 => (intro wz hSw; obtain ⟨d0, d1, d2, d3, d4⟩ := hSw; go_simp; (try with_reducible rfl))
  try simp only [Act.put, List.getElem_toArray, List.getElem_cons_zero, List.getElem_cons_succ, List.setIfInBounds_toArray, List.set_cons_zero, List.set_cons_succ]
  refine anyT_take (i := 4) (v := ?vb4) rfl (by kernel_rfl) (by kernel_rfl) (by kernel_rfl) (by kernel_rfl) (by decide) (fun _ _ _ h => h) (Or.inl ⟨by rfl, ?yb4⟩) HS0.out ?_
  case yb4 => (intro wz hSw; obtain ⟨d0, d1, d2, d3, d4⟩ := hSw; go_simp; (try with_reducible rfl))
  try simp only [Act.put, List.getElem_toArray, List.getElem_cons_zero, List.getElem_cons_succ, List.setIfInBounds_toArray, List.set_cons_zero, List.set_cons_succ]
  refine anyT_take (i := 5) (v := ?vb5) rfl (by kernel_rfl) (by kernel_rfl) (by kernel_rfl) (by kernel_rfl) (by decide) (fun _ _ _ h => h) (Or.inl ⟨by rfl, ?yb5⟩) HS0.out ?_
  case yb5 => (intro wz hSw; obtain ⟨d0, d1, d2, d3, d4⟩ := hSw; go_simp; (try with_reducible rfl))
  try simp only [Act.put, List.getElem_toArray, List.getElem_cons_zero, List.getElem_cons_succ, List.setIfInBounds_toArray, List.set_cons_zero, List.set_cons_succ]
  refine anyT_take (i := 6) (v := ?vb6) rfl (by kernel_rfl) (by kernel_rfl) (by kernel_rfl) (by kernel_rfl) (by decide) (fun _ _ _ h => h) (Or.inl ⟨by rfl, ?yb6⟩) HS0.out ?_
  case yb6 => (intro wz hSw; obtain ⟨d0, d1, d2, d3, d4⟩ := hSw; go_simp; (try with_reducible rfl))
  try simp only [Act.put, List.getElem_toArray, List.getElem_cons_zero, List.getElem_cons_succ, List.setIfInBounds_toArray, List.set_cons_zero, List.set_cons_succ]
  refine anyT_take (i := 7) (v := ?vb7) rfl (by kernel_rfl) (by kernel_rfl) (by kernel_rfl) (by kernel_rfl) (by decide) (fun _ _ _ h => h) (Or.inl ⟨by rfl, ?yb7⟩) HS0.out ?_
  case yb7 => (intro wz hSw; obtain ⟨d0, d1, d2, d3, d4⟩ := hSw; go_simp; (try with_reducible rfl))
  try simp only [Act.put, List.getElem_toArray, List.getElem_cons_zero, List.getElem_cons_succ, List.setIfInBounds_toArray, List.set_cons_zero, List.set_cons_succ]
  refine anyT_take (i := 8) (v := ?vb8) rfl (by kernel_rfl) (by kernel_rfl) (by kernel_rfl) (by kernel_rfl) (by decide) (fun _ _ _ h => h) (Or.inl ⟨by rfl, ?yb8⟩) HS0.out ?_
  case yb8 => (intro wz hSw; obtain ⟨d0, d1, d2, d3, d4⟩ := hSw; go_simp; (try with_reducible rfl))
  try simp only [Act.put, List.getElem_toArray, List.getElem_cons_zero, List.getElem_cons_succ, List.setIfInBounds_toArray, List.set_cons_zero, List.set_cons_succ]
  refine anyT_take (i := 9) (v := ?vb9) rfl (by kernel_rfl) (by kernel_rfl) (by kernel_rfl) (by kernel_rfl) (by decide) (fun _ _ _ h => h) (Or.inl ⟨by rfl, ?yb9⟩) HS0.out ?_
  case yb9 => (intro wz hSw; obtain ⟨d0, d1, d2, d3, d4⟩ := hSw; go_simp; (try with_reducible rfl))
  try simp only [Act.put, List.getElem_toArray, List.getElem_cons_zero, List.getElem_cons_succ, List.setIfInBounds_toArray, List.set_cons_zero, List.set_cons_succ]
  refine anyT_take (i := 10) (v := ?vb10) rfl (by kernel_rfl) (by kernel_rfl) (by kernel_rfl) (by kernel_rfl) (by decide) (fun _ _ _ h => h) (Or.inl ⟨by rfl, ?yb10⟩) HS0.out ?_
  case yb10 => (intro wz hSw; obtain ⟨d0, d1, d2, d3, d4⟩ := hSw; go_simp; (try with_reducible rfl))
  try simp only [Act.put, List.getElem_toArray, List.getElem_cons_zero, List.getElem_cons_succ, List.setIfInBounds_toArray, List.set_cons_zero, List.set_cons_succ]
  refine anyT_two (i := 11) (j := 12) (by kernel_rfl) rfl rfl (fun K hK => ?_) (fun K hK => ?_)
  · go_simp
    refine (HWi.out _).mono ?_
    rintro r v3 ⟨rfl, hb3⟩
    have HV : Hid (Below w1.heap.size w1 v3) := ((Below.refl w1.heap.size w1).drew).trans hb3
    have HM3 : Hid (MtrI v3 base M T G1 cp1 (a + 1) E en mp) := H1.out.1.below HV.out
    have HB3 : Hid (BoxAt v3 w.heap.size 183 8 w.heap.size zsA.toList ∧ BoxAt v3 w.heap.size 211 1 (w.heap.size + 1) [.int .u8 (b.toNat : Int)]) := ⟨HB1.out.1.below HV.out, HB1.out.2.below HV.out⟩
    clear e0 e1 e2 e3 y0 y1 y2 y3
    obtain ⟨g0, g1, g2, g3, y0, y1, y2, y3⟩ := HM3.out.taken4 hlB
    have HS3 : Hid (v3.cell? ⟨w.heap.size + 1, 0, none⟩ = some (.int .u8 (bn : Int)) ∧ v3.cell? ⟨M, bn * 4, none⟩ = some (.int .u64 (wdN (T bn) 0 : Int)) ∧ v3.cell? ⟨M, bn * 4 + 1, none⟩ = some (.int .u64 (wdN (T bn) 1 : Int)) ∧ v3.cell? ⟨M, bn * 4 + 2, none⟩ = some (.int .u64 (wdN (T bn) 2 : Int)) ∧ v3.cell? ⟨M, bn * 4 + 3, none⟩ = some (.int .u64 (wdN (T bn) 3 : Int))) := ⟨by rw [HBn.out]; exact HB3.out.2.cell (j := 0) rfl, g0, g1, g2, g3⟩
    refine hK.out _ _ (.inr HS3.out) ?_
    clear hK hb3
    try simp only [Act.put, List.getElem_toArray, List.getElem_cons_zero, List.getElem_cons_succ, List.setIfInBounds_toArray, List.set_cons_zero, List.set_cons_succ]
    refine anyT_one (i := 12) (by kernel_rfl) rfl (fun K hK => ?_)
    go_simp
    refine hK.out _ _ (.inr HS3.out) ?_
    clear hK
    try simp only [Act.put, List.getElem_toArray, List.getElem_cons_zero, List.getElem_cons_succ, List.setIfInBounds_toArray, List.set_cons_zero, List.set_cons_succ]
    refine anyT_one (i := 13) (by kernel_rfl) rfl (fun K hK => ?_)
    go_simp
    refine hK.out _ _ (.inr HS3.out) ?_
    clear hK
    try simp only [Act.put, List.getElem_toArray, List.getElem_cons_zero, List.getElem_cons_succ, List.setIfInBounds_toArray, List.set_cons_zero, List.set_cons_succ]
    refine anyT_one (i := 14) (by kernel_rfl) rfl (fun K hK => ?_)
    go_simp
    refine hK.out _ _ (.inr HS3.out) ?_
    clear hK
    try simp only [Act.put, List.getElem_toArray, List.getElem_cons_zero, List.getElem_cons_succ, List.setIfInBounds_toArray, List.set_cons_zero, List.set_cons_succ]
    refine anyT_one (i := 15) (by kernel_rfl) rfl (fun K hK => ?_)
    go_simp
    refine hK.out _ _ (.inl rfl) ?_
    clear hK
    try simp only [Act.put, List.getElem_toArray, List.getElem_cons_zero, List.getElem_cons_succ, List.setIfInBounds_toArray, List.set_cons_zero, List.set_cons_succ]
    refine anyT_done (by kernel_rfl) ?_
    obtain ⟨W4, hW4⟩ : ∃ W4 : World, W4 = set4 v3 M (bn * 4) (sOr (T bn) (sOne a)) := ⟨_, rfl⟩
    have HW4 : Hid (MtrI W4 base M (withT T (lyP (.byte b) a)) G1 cp1 (a + 1) (withE E (lyP (.byte b) a)) en mp ∧ BoxAt W4 w.heap.size 183 8 w.heap.size zsA.toList ∧ Chg (fun k => k = M ∨ k = G) w W4 ∧ (G1 = G ∨ w.heap.size ≤ G1)) := by
      have hc : Chg (fun k => k = M) v3 W4 := by rw [hW4]; exact chg_set4 v3 M _ _ rfl
      have h1 : MtrI W4 base M (updE T bn (sOr (T bn) (sOne a))) G1 cp1 (a + 1) E en mp := by rw [hW4, Nat.mul_comm bn 4]; exact HM3.out.setT hlB _
      have k0 : Chg (fun k => k = M ∨ k = G) w W0 := Chg.of_below HW0.out.2.2.1
      have k1 : Chg (fun k => k = M ∨ k = G) w1 v3 := Chg.of_below HV.out
      have q0 := HW0.out.2.2.1.size
      refine ⟨h1.iff (fun c p hc hp => ?_) (fun q p hq hp => by simp [withE, lyP]) (fun p hp q => by have := h1.new p hp q; simp [withE, lyP, this]), HB3.out.1.chg hc (by omega), ((k0.trans H1.out.2.1).trans k1).trans (hc.mono (fun k q => .inl q)), ?_⟩
      · unfold withT updE
        by_cases e : c = bn
        · subst e
          have : UInt8.ofNat c = b := by rw [HBn.out]; simp
          simp [sOr, sOne, lyP, this]
        · have : ¬ UInt8.ofNat c = b := fun q => e (by rw [HBn.out, ← q, UInt8.toNat_ofNat']; omega)
          rw [if_neg e]
          simp [lyP, this]
      · rcases H1.out.2.2 with q | q
        · exact .inl q
        · exact .inr (by omega)
    have HSp : Hid (∀ wx : World, Calls Tryz.prog 155 #[.int .i64 (a : Int)] wx fun e w' => e = .returned (spV (sOne a) (sOne a)) ∧ Below wx.heap.size wx w') := fun wx => singleSpan_core a ha wx
    have hW4' : W4 = (((v3.setCell ⟨M, bn * 4, none⟩ (.int .u64 (wdN (sOr (T bn) (sOne a)) 0 : Int))).setCell ⟨M, bn * 4 + 1, none⟩ (.int .u64 (wdN (sOr (T bn) (sOne a)) 1 : Int))).setCell ⟨M, bn * 4 + 2, none⟩ (.int .u64 (wdN (sOr (T bn) (sOne a)) 2 : Int))).setCell ⟨M, bn * 4 + 3, none⟩ (.int .u64 (wdN (sOr (T bn) (sOne a)) 3 : Int)) := hW4
    rw [← hW4']
    clear hW4 hW4' g0 g1 g2 g3 y0 y1 y2 y3 HS0 HS3 r0
    go_wp2_with fail
    refine (HSp.out _).mono ?_
    rintro e w5 ⟨rfl, hb5⟩
    have HB5 := HW4.out.2.1.below hb5
    have r0 := HB5.cell (j := 0) rfl
    have r1 := HB5.cell (j := 1) rfl
    have r2 := HB5.cell (j := 2) rfl
    have r3 := HB5.cell (j := 3) rfl
    have r4 := HB5.cell (j := 4) rfl
    have r5 := HB5.cell (j := 5) rfl
    have r6 := HB5.cell (j := 6) rfl
    have r7 := HB5.cell (j := 7) rfl
    have f0 := HB5.frozen 0
    have f1 := HB5.frozen 1
    have f2 := HB5.frozen 2
    have f3 := HB5.frozen 3
    have f4 := HB5.frozen 4
    have f5 := HB5.frozen 5
    have f6 := HB5.frozen 6
    have f7 := HB5.frozen 7
    have HF : Hid (LayR base M T G E en mp (lyP (.byte b) a) w (.returned (spV (sOne a) (sOne a))) (setSp w5 w.heap.size (sOne a) (sOne a)) ∧ BoxAt (setSp w5 w.heap.size (sOne a) (sOne a)) w.heap.size 183 8 w.heap.size (spL (sOne a) (sOne a))) := by
      have h5 := HW4.out.1.below hb5
      have hc : Chg (fun k => k = w.heap.size) w5 (setSp w5 w.heap.size (sOne a) (sOne a)) := chg_setSp w5 _ _ _ rfl
      have hG1 : ¬ G1 = w.heap.size := fun q => own_apart h5.row HB5 (by decide) G1 rfl (by rw [q]; rfl)
      refine ⟨⟨G1, cp1, rfl, ⟨h5.chg hc (by omega) hG1 (fun k q => by omega), ?_, HW4.out.2.2.2⟩⟩, HB5.setSp _ _⟩
      have hx := HW4.out.2.2.1.trans (Chg.of_below hb5)
      exact ⟨hc.os.trans hx.os, hc.tape.trans hx.tape, hc.output.trans hx.output, Nat.le_trans hx.size hc.size, fun j hj hn => (hc.block j (Nat.lt_of_lt_of_le hj hx.size) (by omega)).trans (hx.block j hj hn)⟩
    clear HB5 hb5
    go_wp2_with fail
    exact bodyPost_ret (v := spV (sOne a) (sOne a)) (span_res135 (base := w.heap.size) (g := w.heap.size) rfl HF.out.2) rfl HF.out.1
  · go_simp
    refine hK.out _ _ (.inr HS0.out) ?_
    clear hK
    try simp only [Act.put, List.getElem_toArray, List.getElem_cons_zero, List.getElem_cons_succ, List.setIfInBounds_toArray, List.set_cons_zero, List.set_cons_succ]
    refine anyT_two (i := 11) (j := 13) (by kernel_rfl) rfl rfl (fun K hK => ?_) (fun K hK => ?_)
    · go_simp
      refine (HWi.out _).mono ?_
      rintro r v3 ⟨rfl, hb3⟩
      have HV : Hid (Below w1.heap.size w1 v3) := ((Below.refl w1.heap.size w1).drew).trans hb3
      have HM3 : Hid (MtrI v3 base M T G1 cp1 (a + 1) E en mp) := H1.out.1.below HV.out
      have HB3 : Hid (BoxAt v3 w.heap.size 183 8 w.heap.size zsA.toList ∧ BoxAt v3 w.heap.size 211 1 (w.heap.size + 1) [.int .u8 (b.toNat : Int)]) := ⟨HB1.out.1.below HV.out, HB1.out.2.below HV.out⟩
      clear e0 e1 e2 e3 y0 y1 y2 y3
      obtain ⟨g0, g1, g2, g3, y0, y1, y2, y3⟩ := HM3.out.taken4 hlB
      have HS3 : Hid (v3.cell? ⟨w.heap.size + 1, 0, none⟩ = some (.int .u8 (bn : Int)) ∧ v3.cell? ⟨M, bn * 4, none⟩ = some (.int .u64 (wdN (T bn) 0 : Int)) ∧ v3.cell? ⟨M, bn * 4 + 1, none⟩ = some (.int .u64 (wdN (T bn) 1 : Int)) ∧ v3.cell? ⟨M, bn * 4 + 2, none⟩ = some (.int .u64 (wdN (T bn) 2 : Int)) ∧ v3.cell? ⟨M, bn * 4 + 3, none⟩ = some (.int .u64 (wdN (T bn) 3 : Int))) := ⟨by rw [HBn.out]; exact HB3.out.2.cell (j := 0) rfl, g0, g1, g2, g3⟩
      refine hK.out _ _ (.inr HS3.out) ?_
      clear hK hb3
      try simp only [Act.put, List.getElem_toArray, List.getElem_cons_zero, List.getElem_cons_succ, List.setIfInBounds_toArray, List.set_cons_zero, List.set_cons_succ]
      refine anyT_one (i := 13) (by kernel_rfl) rfl (fun K hK => ?_)
      go_simp
      refine hK.out _ _ (.inr HS3.out) ?_
      clear hK
      try simp only [Act.put, List.getElem_toArray, List.getElem_cons_zero, List.getElem_cons_succ, List.setIfInBounds_toArray, List.set_cons_zero, List.set_cons_succ]
      refine anyT_one (i := 14) (by kernel_rfl) rfl (fun K hK => ?_)
      go_simp
      refine hK.out _ _ (.inr HS3.out) ?_
      clear hK
      try simp only [Act.put, List.getElem_toArray, List.getElem_cons_zero, List.getElem_cons_succ, List.setIfInBounds_toArray, List.set_cons_zero, List.set_cons_succ]
      refine anyT_one (i := 15) (by kernel_rfl) rfl (fun K hK => ?_)
      go_simp
      refine hK.out _ _ (.inl rfl) ?_
      clear hK
      try simp only [Act.put, List.getElem_toArray, List.getElem_cons_zero, List.getElem_cons_succ, List.setIfInBounds_toArray, List.set_cons_zero, List.set_cons_succ]
      refine anyT_done (by kernel_rfl) ?_
      obtain ⟨W4, hW4⟩ : ∃ W4 : World, W4 = set4 v3 M (bn * 4) (sOr (T bn) (sOne a)) := ⟨_, rfl⟩
      have HW4 : Hid (MtrI W4 base M (withT T (lyP (.byte b) a)) G1 cp1 (a + 1) (withE E (lyP (.byte b) a)) en mp ∧ BoxAt W4 w.heap.size 183 8 w.heap.size zsA.toList ∧ Chg (fun k => k = M ∨ k = G) w W4 ∧ (G1 = G ∨ w.heap.size ≤ G1)) := by
        have hc : Chg (fun k => k = M) v3 W4 := by rw [hW4]; exact chg_set4 v3 M _ _ rfl
        have h1 : MtrI W4 base M (updE T bn (sOr (T bn) (sOne a))) G1 cp1 (a + 1) E en mp := by rw [hW4, Nat.mul_comm bn 4]; exact HM3.out.setT hlB _
        have k0 : Chg (fun k => k = M ∨ k = G) w W0 := Chg.of_below HW0.out.2.2.1
        have k1 : Chg (fun k => k = M ∨ k = G) w1 v3 := Chg.of_below HV.out
        have q0 := HW0.out.2.2.1.size
        refine ⟨h1.iff (fun c p hc hp => ?_) (fun q p hq hp => by simp [withE, lyP]) (fun p hp q => by have := h1.new p hp q; simp [withE, lyP, this]), HB3.out.1.chg hc (by omega), ((k0.trans H1.out.2.1).trans k1).trans (hc.mono (fun k q => .inl q)), ?_⟩
        · unfold withT updE
          by_cases e : c = bn
          · subst e
            have : UInt8.ofNat c = b := by rw [HBn.out]; simp
            simp [sOr, sOne, lyP, this]
          · have : ¬ UInt8.ofNat c = b := fun q => e (by rw [HBn.out, ← q, UInt8.toNat_ofNat']; omega)
            rw [if_neg e]
            simp [lyP, this]
        · rcases H1.out.2.2 with q | q
          · exact .inl q
          · exact .inr (by omega)
      have HSp : Hid (∀ wx : World, Calls Tryz.prog 155 #[.int .i64 (a : Int)] wx fun e w' => e = .returned (spV (sOne a) (sOne a)) ∧ Below wx.heap.size wx w') := fun wx => singleSpan_core a ha wx
      have hW4' : W4 = (((v3.setCell ⟨M, bn * 4, none⟩ (.int .u64 (wdN (sOr (T bn) (sOne a)) 0 : Int))).setCell ⟨M, bn * 4 + 1, none⟩ (.int .u64 (wdN (sOr (T bn) (sOne a)) 1 : Int))).setCell ⟨M, bn * 4 + 2, none⟩ (.int .u64 (wdN (sOr (T bn) (sOne a)) 2 : Int))).setCell ⟨M, bn * 4 + 3, none⟩ (.int .u64 (wdN (sOr (T bn) (sOne a)) 3 : Int)) := hW4
      rw [← hW4']
      clear hW4 hW4' g0 g1 g2 g3 y0 y1 y2 y3 HS0 HS3 r0
      go_wp2_with fail
      refine (HSp.out _).mono ?_
      rintro e w5 ⟨rfl, hb5⟩
      have HB5 := HW4.out.2.1.below hb5
      have r0 := HB5.cell (j := 0) rfl
      have r1 := HB5.cell (j := 1) rfl
      have r2 := HB5.cell (j := 2) rfl
      have r3 := HB5.cell (j := 3) rfl
      have r4 := HB5.cell (j := 4) rfl
      have r5 := HB5.cell (j := 5) rfl
      have r6 := HB5.cell (j := 6) rfl
      have r7 := HB5.cell (j := 7) rfl
      have f0 := HB5.frozen 0
      have f1 := HB5.frozen 1
      have f2 := HB5.frozen 2
      have f3 := HB5.frozen 3
      have f4 := HB5.frozen 4
      have f5 := HB5.frozen 5
      have f6 := HB5.frozen 6
      have f7 := HB5.frozen 7
      have HF : Hid (LayR base M T G E en mp (lyP (.byte b) a) w (.returned (spV (sOne a) (sOne a))) (setSp w5 w.heap.size (sOne a) (sOne a)) ∧ BoxAt (setSp w5 w.heap.size (sOne a) (sOne a)) w.heap.size 183 8 w.heap.size (spL (sOne a) (sOne a))) := by
        have h5 := HW4.out.1.below hb5
        have hc : Chg (fun k => k = w.heap.size) w5 (setSp w5 w.heap.size (sOne a) (sOne a)) := chg_setSp w5 _ _ _ rfl
        have hG1 : ¬ G1 = w.heap.size := fun q => own_apart h5.row HB5 (by decide) G1 rfl (by rw [q]; rfl)
        refine ⟨⟨G1, cp1, rfl, ⟨h5.chg hc (by omega) hG1 (fun k q => by omega), ?_, HW4.out.2.2.2⟩⟩, HB5.setSp _ _⟩
        have hx := HW4.out.2.2.1.trans (Chg.of_below hb5)
        exact ⟨hc.os.trans hx.os, hc.tape.trans hx.tape, hc.output.trans hx.output, Nat.le_trans hx.size hc.size, fun j hj hn => (hc.block j (Nat.lt_of_lt_of_le hj hx.size) (by omega)).trans (hx.block j hj hn)⟩
      clear HB5 hb5
      go_wp2_with fail
      exact bodyPost_ret (v := spV (sOne a) (sOne a)) (span_res135 (base := w.heap.size) (g := w.heap.size) rfl HF.out.2) rfl HF.out.1
    · go_simp
      refine hK.out _ _ (.inr HS0.out) ?_
      clear hK
      try simp only [Act.put, List.getElem_toArray, List.getElem_cons_zero, List.getElem_cons_succ, List.setIfInBounds_toArray, List.set_cons_zero, List.set_cons_succ]
      refine anyT_one (i := 11) (by kernel_rfl) rfl (fun K hK => ?_)
      go_simp
      refine (HWi.out _).mono ?_
      rintro r v3 ⟨rfl, hb3⟩
      have HV : Hid (Below w1.heap.size w1 v3) := ((Below.refl w1.heap.size w1).drew).trans hb3
      have HM3 : Hid (MtrI v3 base M T G1 cp1 (a + 1) E en mp) := H1.out.1.below HV.out
      have HB3 : Hid (BoxAt v3 w.heap.size 183 8 w.heap.size zsA.toList ∧ BoxAt v3 w.heap.size 211 1 (w.heap.size + 1) [.int .u8 (b.toNat : Int)]) := ⟨HB1.out.1.below HV.out, HB1.out.2.below HV.out⟩
      clear e0 e1 e2 e3 y0 y1 y2 y3
      obtain ⟨g0, g1, g2, g3, y0, y1, y2, y3⟩ := HM3.out.taken4 hlB
      have HS3 : Hid (v3.cell? ⟨w.heap.size + 1, 0, none⟩ = some (.int .u8 (bn : Int)) ∧ v3.cell? ⟨M, bn * 4, none⟩ = some (.int .u64 (wdN (T bn) 0 : Int)) ∧ v3.cell? ⟨M, bn * 4 + 1, none⟩ = some (.int .u64 (wdN (T bn) 1 : Int)) ∧ v3.cell? ⟨M, bn * 4 + 2, none⟩ = some (.int .u64 (wdN (T bn) 2 : Int)) ∧ v3.cell? ⟨M, bn * 4 + 3, none⟩ = some (.int .u64 (wdN (T bn) 3 : Int))) := ⟨by rw [HBn.out]; exact HB3.out.2.cell (j := 0) rfl, g0, g1, g2, g3⟩
      refine hK.out _ _ (.inr HS3.out) ?_
      clear hK hb3
      try simp only [Act.put, List.getElem_toArray, List.getElem_cons_zero, List.getElem_cons_succ, List.setIfInBounds_toArray, List.set_cons_zero, List.set_cons_succ]
      refine anyT_one (i := 14) (by kernel_rfl) rfl (fun K hK => ?_)
      go_simp
      refine hK.out _ _ (.inr HS3.out) ?_
      clear hK
      try simp only [Act.put, List.getElem_toArray, List.getElem_cons_zero, List.getElem_cons_succ, List.setIfInBounds_toArray, List.set_cons_zero, List.set_cons_succ]
      refine anyT_one (i := 15) (by kernel_rfl) rfl (fun K hK => ?_)
      go_simp
      refine hK.out _ _ (.inl rfl) ?_
      clear hK
      try simp only [Act.put, List.getElem_toArray, List.getElem_cons_zero, List.getElem_cons_succ, List.setIfInBounds_toArray, List.set_cons_zero, List.set_cons_succ]
      refine anyT_done (by kernel_rfl) ?_
      obtain ⟨W4, hW4⟩ : ∃ W4 : World, W4 = set4 v3 M (bn * 4) (sOr (T bn) (sOne a)) := ⟨_, rfl⟩
      have HW4 : Hid (MtrI W4 base M (withT T (lyP (.byte b) a)) G1 cp1 (a + 1) (withE E (lyP (.byte b) a)) en mp ∧ BoxAt W4 w.heap.size 183 8 w.heap.size zsA.toList ∧ Chg (fun k => k = M ∨ k = G) w W4 ∧ (G1 = G ∨ w.heap.size ≤ G1)) := by
        have hc : Chg (fun k => k = M) v3 W4 := by rw [hW4]; exact chg_set4 v3 M _ _ rfl
        have h1 : MtrI W4 base M (updE T bn (sOr (T bn) (sOne a))) G1 cp1 (a + 1) E en mp := by rw [hW4, Nat.mul_comm bn 4]; exact HM3.out.setT hlB _
        have k0 : Chg (fun k => k = M ∨ k = G) w W0 := Chg.of_below HW0.out.2.2.1
        have k1 : Chg (fun k => k = M ∨ k = G) w1 v3 := Chg.of_below HV.out
        have q0 := HW0.out.2.2.1.size
        refine ⟨h1.iff (fun c p hc hp => ?_) (fun q p hq hp => by simp [withE, lyP]) (fun p hp q => by have := h1.new p hp q; simp [withE, lyP, this]), HB3.out.1.chg hc (by omega), ((k0.trans H1.out.2.1).trans k1).trans (hc.mono (fun k q => .inl q)), ?_⟩
        · unfold withT updE
          by_cases e : c = bn
          · subst e
            have : UInt8.ofNat c = b := by rw [HBn.out]; simp
            simp [sOr, sOne, lyP, this]
          · have : ¬ UInt8.ofNat c = b := fun q => e (by rw [HBn.out, ← q, UInt8.toNat_ofNat']; omega)
            rw [if_neg e]
            simp [lyP, this]
        · rcases H1.out.2.2 with q | q
          · exact .inl q
          · exact .inr (by omega)
      have HSp : Hid (∀ wx : World, Calls Tryz.prog 155 #[.int .i64 (a : Int)] wx fun e w' => e = .returned (spV (sOne a) (sOne a)) ∧ Below wx.heap.size wx w') := fun wx => singleSpan_core a ha wx
      have hW4' : W4 = (((v3.setCell ⟨M, bn * 4, none⟩ (.int .u64 (wdN (sOr (T bn) (sOne a)) 0 : Int))).setCell ⟨M, bn * 4 + 1, none⟩ (.int .u64 (wdN (sOr (T bn) (sOne a)) 1 : Int))).setCell ⟨M, bn * 4 + 2, none⟩ (.int .u64 (wdN (sOr (T bn) (sOne a)) 2 : Int))).setCell ⟨M, bn * 4 + 3, none⟩ (.int .u64 (wdN (sOr (T bn) (sOne a)) 3 : Int)) := hW4
      rw [← hW4']
      clear hW4 hW4' g0 g1 g2 g3 y0 y1 y2 y3 HS0 HS3 r0
      go_wp2_with fail
      refine (HSp.out _).mono ?_
      rintro e w5 ⟨rfl, hb5⟩
      have HB5 := HW4.out.2.1.below hb5
      have r0 := HB5.cell (j := 0) rfl
      have r1 := HB5.cell (j := 1) rfl
      have r2 := HB5.cell (j := 2) rfl
      have r3 := HB5.cell (j := 3) rfl
      have r4 := HB5.cell (j := 4) rfl
      have r5 := HB5.cell (j := 5) rfl
      have r6 := HB5.cell (j := 6) rfl
      have r7 := HB5.cell (j := 7) rfl
      have f0 := HB5.frozen 0
      have f1 := HB5.frozen 1
      have f2 := HB5.frozen 2
      have f3 := HB5.frozen 3
      have f4 := HB5.frozen 4
      have f5 := HB5.frozen 5
      have f6 := HB5.frozen 6
      have f7 := HB5.frozen 7
      have HF : Hid (LayR base M T G E en mp (lyP (.byte b) a) w (.returned (spV (sOne a) (sOne a))) (setSp w5 w.heap.size (sOne a) (sOne a)) ∧ BoxAt (setSp w5 w.heap.size (sOne a) (sOne a)) w.heap.size 183 8 w.heap.size (spL (sOne a) (sOne a))) := by
        have h5 := HW4.out.1.below hb5
        have hc : Chg (fun k => k = w.heap.size) w5 (setSp w5 w.heap.size (sOne a) (sOne a)) := chg_setSp w5 _ _ _ rfl
        have hG1 : ¬ G1 = w.heap.size := fun q => own_apart h5.row HB5 (by decide) G1 rfl (by rw [q]; rfl)
        refine ⟨⟨G1, cp1, rfl, ⟨h5.chg hc (by omega) hG1 (fun k q => by omega), ?_, HW4.out.2.2.2⟩⟩, HB5.setSp _ _⟩
        have hx := HW4.out.2.2.1.trans (Chg.of_below hb5)
        exact ⟨hc.os.trans hx.os, hc.tape.trans hx.tape, hc.output.trans hx.output, Nat.le_trans hx.size hc.size, fun j hj hn => (hc.block j (Nat.lt_of_lt_of_le hj hx.size) (by omega)).trans (hx.block j hj hn)⟩
      clear HB5 hb5
      go_wp2_with fail
      exact bodyPost_ret (v := spV (sOne a) (sOne a)) (span_res135 (base := w.heap.size) (g := w.heap.size) rfl HF.out.2) rfl HF.out.1
end Go.Proofs.YtkidabedcgngcaaGreatDoor

/-
  lay at a class.
-/
namespace Go.Proofs.YtkidabedcgngcaaGreatDoor
open Go.ChangeShapes Go.WideShapes Go.ChangeAt Go.RowKit Go.Deep
set_option linter.unusedVariables false
set_option linter.unusedSimpArgs false
set_option maxRecDepth 100000

theorem info_clsN : (Tryz.prog.info? 217).map (fun i => (i.zero, i.size)) = some (some (.agg (Array.replicate 256 (.bool false))), 256) := by kernel_rfl
theorem set_index (f : UInt8 → Bool) {k : Nat} (hk : k < 256) (w : World) : (Instr.index 215 (.agg (setA f)) (.int .i64 (k : Int))).run Tryz.prog w = .ok (.bool (f (UInt8.ofNat k))) w := by
  have h1 := setA_at f k hk
  have h2 := setA_size f
  have z : (k : Int) < 256 := by omega
  unfold Instr.index
  simp [go_sem, h1]
  intro q; omega
/-- The bytes below k have been gone over. -/
def clsT (T : Nat → PS) (f : UInt8 → Bool) (a k : Nat) : Nat → PS := fun b p => T b p || (decide (b < k) && (p == a && f (UInt8.ofNat b)))
structure ClI (w : World) (base M : Nat) (T : Nat → PS) (f : UInt8 → Bool) (G cp a : Nat) (E : Nat → PS) (en : PS) (mp k : Nat) (w1 W : World) : Prop where
  mtr : MtrI W base M (clsT T f a k) G cp (a + 1) E en mp
  box : BoxAt W w.heap.size 183 8 w.heap.size zsA.toList
  chg : Chg (fun j => j = M) w1 W
set_option maxHeartbeats 4000000 in
theorem lay_cls {base M : Nat} {T : Nat → PS} {G cp a : Nat} {E : Nat → PS} {en : PS} {mp : Nat} (f : UInt8 → Bool) (w : World) (h : MtrI w base M T G cp a E en mp) (ha : a < 256) :
    Calls Tryz.prog 135 #[.pointer (some ⟨M, 0, none⟩), clsV f] w (LayR base M T G E en mp (lyP (.cls f) a) w) := by
  obtain ⟨W0, hW0⟩ : ∃ W0 : World, W0 = (w.alloc (.cells zsA 183)).alloc (.cells (setA f) 217) := ⟨_, rfl⟩
  have HW0 : Hid (BoxAt W0 w.heap.size 183 8 w.heap.size zsA.toList ∧ BoxAt W0 w.heap.size 217 256 (w.heap.size + 1) (setA f).toList ∧ Below w.heap.size w W0 ∧ MtrI W0 base M T G cp a E en mp) := by
    have b1 := boxAt_new w (base := w.heap.size) (t := 183) (sz := 8) zsA (Nat.le_refl _) rfl
    have b2 := boxAt_new (w.alloc (.cells zsA 183)) (base := w.heap.size) (t := 217) (sz := 256) (setA f) (by simp) (setA_size f)
    rw [World.size_alloc] at b2
    have k0 : Below w.heap.size w W0 := by rw [hW0]; exact ((Below.refl _ _).alloc (Nat.le_refl _) _).alloc (by simp) _
    refine ⟨?_, by rw [hW0]; exact b2, k0, h.below k0⟩
    rw [hW0]; exact b1.below ((Below.refl _ _).alloc (Nat.le_refl _) _)
  have HN : Hid (Calls Tryz.prog 154 #[.pointer (some ⟨M, 0, none⟩)] W0 fun e w' => ∃ G' cp', e = .returned (.int .i64 (a : Int)) ∧ Hid (MtrI w' base M T G' cp' (a + 1) E en mp ∧ Chg (fun k => k = M ∨ k = G) W0 w' ∧ (G' = G ∨ W0.heap.size ≤ G'))) := newPosition_core W0 HW0.out.2.2.2 (by omega)
  have hM0 := h.ltM
  have hG0 := h.ltG
  clear h
  have hAs := asCB (setA f)
  have hAs2 := asCC (setA f)
  have hzv := (zero_of_info info_clsN).1
  have hsz := setA_size f
  have hsc := run_storeCells_new (P := Tryz.prog) (w.alloc (.cells zsA 183)) 217 (Array.replicate 256 (.bool false)) (setA f) (by rw [setA_size]; exact (zero_of_info info_clsN).2) (by rw [setA_size]; simp) (setA_one f)
  simp only [zsA, World.size_alloc] at hsc
  go_enter Tryz.func135, Tryz.ntmps135
  go_wp2_with fail
  have hW0' := hW0
  simp only [zsA] at hW0'
  rw [← hW0']
  clear hW0 hW0' hAs hAs2 hzv hsc hsz
  refine HN.out.mono ?_
  rintro e w1 ⟨G1, cp1, rfl, H1⟩
  have HB1 : Hid (BoxAt w1 w.heap.size 183 8 w.heap.size zsA.toList ∧ BoxAt w1 w.heap.size 217 256 (w.heap.size + 1) (setA f).toList) := ⟨HW0.out.1.chg H1.out.2.1 (by omega), HW0.out.2.1.chg H1.out.2.1 (by omega)⟩
  have h0 : w1.heap[w.heap.size + 1]? = some (.cells (setA f) 217 (0, 0)) := by have := HB1.out.2.heap; simpa using this
  have hi : (Tryz.prog.info? 215).map (·.size) = some 256 := (zero_of_info info_set).2
  have hM1 := H1.out.1.ltM
  have hn1 := H1.out.1.ne
  have hS1 := H1.out.2.1.size
  have q0 := HW0.out.2.2.1.size
  go_wp2_with (refine wpList_load_row rfl 215 _ rfl (w.heap.size + 1) rfl 217 (setA f) (0, 0) _ h0 Tryz.underlying215 rfl (by rw [setA_size]; exact hi) ?_)
  clear h0 hi
  go_loopw [45] (fun iv wr => ∃ k : Nat, k ≤ 256 ∧ iv = .int .i64 k ∧ Hid (ClI w base M T f G1 cp1 a E en mp k w1 wr)) (fun iv _ => 256 - (intOf iv).toNat)
  case atStart => exact ⟨0, by omega, rfl, H1.out.1.iff (fun b p _ _ => by simp [clsT]) (fun _ _ _ _ => rfl) H1.out.1.new, HB1.out.1, Chg.refl _ _⟩
  case round =>
    obtain ⟨k, hk, rfl, HJ⟩ := hrel
    by_cases hlt : k < 256
    · have zk : (k : Int) < 256 := by omega
      have hix := fun w => set_index f hlt w
      cases hfk : f (UInt8.ofNat k) with
      | false =>
        rw [hfk] at hix
        have HJ2 : Hid (ClI w base M T f G1 cp1 a E en mp (k + 1) w1 wr) := by
          refine ⟨HJ.out.mtr.iff (fun b p hb hp => ?_) (fun _ _ _ _ => rfl) HJ.out.mtr.new, HJ.out.box, HJ.out.chg⟩
          unfold clsT
          by_cases e : b = k
          · subst e; simp [hfk]
          · have : decide (b < k + 1) = decide (b < k) := by rw [decide_eq_decide]; omega
            rw [this]
        clear hfk
        go_wp2_with fail
        go_roundw
        case rel => exact ⟨k + 1, by omega, by go_num, HJ2⟩
        case measure => simp [intOf]; omega
      | true =>
        rw [hfk] at hix
        obtain ⟨e0, e1, e2, e3, y0, y1, y2, y3⟩ := HJ.out.mtr.taken4 hlt
        have hMr := HJ.out.mtr.ltM
        have HWi : Hid (∀ wx : World, Calls Tryz.prog 137 #[psV (clsT T f a k k), .int .i64 (a : Int)] wx fun e w' => e = .returned (psV (sOr (clsT T f a k k) (sOne a))) ∧ Below wx.heap.size wx w') := fun wx => with_core (clsT T f a k k) a ha wx
        have HFk : Hid (f (UInt8.ofNat k) = true) := hfk
        clear hfk
        go_upto_region 14 with fail
        have HS0 : Hid (wr.drew.cell? ⟨M, k * 4, none⟩ = some (.int .u64 (wdN (clsT T f a k k) 0 : Int)) ∧ wr.drew.cell? ⟨M, k * 4 + 1, none⟩ = some (.int .u64 (wdN (clsT T f a k k) 1 : Int)) ∧ wr.drew.cell? ⟨M, k * 4 + 2, none⟩ = some (.int .u64 (wdN (clsT T f a k k) 2 : Int)) ∧ wr.drew.cell? ⟨M, k * 4 + 3, none⟩ = some (.int .u64 (wdN (clsT T f a k k) 3 : Int))) := ⟨e0, e1, e2, e3⟩
        refine wp_region_T 13 (fun wz => wz.cell? ⟨M, k * 4, none⟩ = some (.int .u64 (wdN (clsT T f a k k) 0 : Int)) ∧ wz.cell? ⟨M, k * 4 + 1, none⟩ = some (.int .u64 (wdN (clsT T f a k k) 1 : Int)) ∧ wz.cell? ⟨M, k * 4 + 2, none⟩ = some (.int .u64 (wdN (clsT T f a k k) 2 : Int)) ∧ wz.cell? ⟨M, k * 4 + 3, none⟩ = some (.int .u64 (wdN (clsT T f a k k) 3 : Int))) (by kernel_rfl) ?_
        refine anyT_take (i := 0) (v := ?vb0) rfl (by kernel_rfl) (by kernel_rfl) (by kernel_rfl) (by kernel_rfl) (by decide) (fun _ _ _ h => h) (Or.inl ⟨by rfl, ?yb0⟩) HS0.out ?_
        case yb0 => (intro wz hSw; obtain ⟨d1, d2, d3, d4⟩ := hSw; go_simp; (try with_reducible rfl))
        try simp only [Act.put, List.getElem_toArray, List.getElem_cons_zero, List.getElem_cons_succ, List.setIfInBounds_toArray, List.set_cons_zero, List.set_cons_succ]
        refine anyT_take (i := 1) (v := ?vb1) rfl (by kernel_rfl) (by kernel_rfl) (by kernel_rfl) (by kernel_rfl) (by decide) (fun _ _ _ h => h) (Or.inl ⟨by rfl, ?yb1⟩) HS0.out ?_
        case yb1 => (intro wz hSw; obtain ⟨d1, d2, d3, d4⟩ := hSw; go_simp; (try with_reducible rfl))
        try simp only [Act.put, List.getElem_toArray, List.getElem_cons_zero, List.getElem_cons_succ, List.setIfInBounds_toArray, List.set_cons_zero, List.set_cons_succ]
        refine anyT_take (i := 2) (v := ?vb2) rfl (by kernel_rfl) (by kernel_rfl) (by kernel_rfl) (by kernel_rfl) (by decide) (fun _ _ _ h => h) (Or.inl ⟨by rfl, ?yb2⟩) HS0.out ?_
        case yb2 => (intro wz hSw; obtain ⟨d1, d2, d3, d4⟩ := hSw; go_simp; (try with_reducible rfl))
        try simp only [Act.put, List.getElem_toArray, List.getElem_cons_zero, List.getElem_cons_succ, List.setIfInBounds_toArray, List.set_cons_zero, List.set_cons_succ]
        refine anyT_take (i := 3) (v := ?vb3) rfl (by kernel_rfl) (by kernel_rfl) (by kernel_rfl) (by kernel_rfl) (by decide) (fun _ _ _ h => h) (Or.inl ⟨by rfl, ?yb3⟩) HS0.out ?_
        case yb3 => (intro wz hSw; obtain ⟨d1, d2, d3, d4⟩ := hSw; go_simp; (try with_reducible rfl))
        try simp only [Act.put, List.getElem_toArray, List.getElem_cons_zero, List.getElem_cons_succ, List.setIfInBounds_toArray, List.set_cons_zero, List.set_cons_succ]
        refine anyT_take (i := 4) (v := ?vb4) rfl (by kernel_rfl) (by kernel_rfl) (by kernel_rfl) (by kernel_rfl) (by decide) (fun _ _ _ h => h) (Or.inl ⟨by rfl, ?yb4⟩) HS0.out ?_
        case yb4 => (intro wz hSw; obtain ⟨d1, d2, d3, d4⟩ := hSw; go_simp; (try with_reducible rfl))
        try simp only [Act.put, List.getElem_toArray, List.getElem_cons_zero, List.getElem_cons_succ, List.setIfInBounds_toArray, List.set_cons_zero, List.set_cons_succ]
        refine anyT_take (i := 5) (v := ?vb5) rfl (by kernel_rfl) (by kernel_rfl) (by kernel_rfl) (by kernel_rfl) (by decide) (fun _ _ _ h => h) (Or.inl ⟨by rfl, ?yb5⟩) HS0.out ?_
        case yb5 => (intro wz hSw; obtain ⟨d1, d2, d3, d4⟩ := hSw; go_simp; (try with_reducible rfl))
        try simp only [Act.put, List.getElem_toArray, List.getElem_cons_zero, List.getElem_cons_succ, List.setIfInBounds_toArray, List.set_cons_zero, List.set_cons_succ]
        refine anyT_take (i := 6) (v := ?vb6) rfl (by kernel_rfl) (by kernel_rfl) (by kernel_rfl) (by kernel_rfl) (by decide) (fun _ _ _ h => h) (Or.inl ⟨by rfl, ?yb6⟩) HS0.out ?_
        case yb6 => (intro wz hSw; obtain ⟨d1, d2, d3, d4⟩ := hSw; go_simp; (try with_reducible rfl))
        try simp only [Act.put, List.getElem_toArray, List.getElem_cons_zero, List.getElem_cons_succ, List.setIfInBounds_toArray, List.set_cons_zero, List.set_cons_succ]
        refine anyT_take (i := 7) (v := ?vb7) rfl (by kernel_rfl) (by kernel_rfl) (by kernel_rfl) (by kernel_rfl) (by decide) (fun _ _ _ h => h) (Or.inl ⟨by rfl, ?yb7⟩) HS0.out ?_
        case yb7 => (intro wz hSw; obtain ⟨d1, d2, d3, d4⟩ := hSw; go_simp; (try with_reducible rfl))
        try simp only [Act.put, List.getElem_toArray, List.getElem_cons_zero, List.getElem_cons_succ, List.setIfInBounds_toArray, List.set_cons_zero, List.set_cons_succ]
        refine anyT_take (i := 8) (v := ?vb8) rfl (by kernel_rfl) (by kernel_rfl) (by kernel_rfl) (by kernel_rfl) (by decide) (fun _ _ _ h => h) (Or.inl ⟨by rfl, ?yb8⟩) HS0.out ?_
        case yb8 => (intro wz hSw; obtain ⟨d1, d2, d3, d4⟩ := hSw; go_simp; (try with_reducible rfl))
        try simp only [Act.put, List.getElem_toArray, List.getElem_cons_zero, List.getElem_cons_succ, List.setIfInBounds_toArray, List.set_cons_zero, List.set_cons_succ]
        refine anyT_two (i := 9) (j := 10) (by kernel_rfl) rfl rfl (fun K hK => ?_) (fun K hK => ?_)
        · go_simp
          refine (HWi.out _).mono ?_
          rintro r v3 ⟨rfl, hb3⟩
          have HV : Hid (Below wr.heap.size wr v3) := ((Below.refl wr.heap.size wr).drew).trans hb3
          have HM3 : Hid (MtrI v3 base M (clsT T f a k) G1 cp1 (a + 1) E en mp) := HJ.out.mtr.below HV.out
          clear e0 e1 e2 e3 y0 y1 y2 y3
          obtain ⟨g0, g1, g2, g3, y0, y1, y2, y3⟩ := HM3.out.taken4 hlt
          have HS3 : Hid (v3.cell? ⟨M, k * 4, none⟩ = some (.int .u64 (wdN (clsT T f a k k) 0 : Int)) ∧ v3.cell? ⟨M, k * 4 + 1, none⟩ = some (.int .u64 (wdN (clsT T f a k k) 1 : Int)) ∧ v3.cell? ⟨M, k * 4 + 2, none⟩ = some (.int .u64 (wdN (clsT T f a k k) 2 : Int)) ∧ v3.cell? ⟨M, k * 4 + 3, none⟩ = some (.int .u64 (wdN (clsT T f a k k) 3 : Int))) := ⟨g0, g1, g2, g3⟩
          refine hK.out _ _ (.inr HS3.out) ?_
          clear hK hb3
          try simp only [Act.put, List.getElem_toArray, List.getElem_cons_zero, List.getElem_cons_succ, List.setIfInBounds_toArray, List.set_cons_zero, List.set_cons_succ]
          refine anyT_one (i := 10) (by kernel_rfl) rfl (fun K hK => ?_)
          go_simp
          refine hK.out _ _ (.inr HS3.out) ?_
          clear hK
          try simp only [Act.put, List.getElem_toArray, List.getElem_cons_zero, List.getElem_cons_succ, List.setIfInBounds_toArray, List.set_cons_zero, List.set_cons_succ]
          refine anyT_one (i := 11) (by kernel_rfl) rfl (fun K hK => ?_)
          go_simp
          refine hK.out _ _ (.inr HS3.out) ?_
          clear hK
          try simp only [Act.put, List.getElem_toArray, List.getElem_cons_zero, List.getElem_cons_succ, List.setIfInBounds_toArray, List.set_cons_zero, List.set_cons_succ]
          refine anyT_one (i := 12) (by kernel_rfl) rfl (fun K hK => ?_)
          go_simp
          refine hK.out _ _ (.inr HS3.out) ?_
          clear hK
          try simp only [Act.put, List.getElem_toArray, List.getElem_cons_zero, List.getElem_cons_succ, List.setIfInBounds_toArray, List.set_cons_zero, List.set_cons_succ]
          refine anyT_one (i := 13) (by kernel_rfl) rfl (fun K hK => ?_)
          go_simp
          refine hK.out _ _ (.inl rfl) ?_
          clear hK
          try simp only [Act.put, List.getElem_toArray, List.getElem_cons_zero, List.getElem_cons_succ, List.setIfInBounds_toArray, List.set_cons_zero, List.set_cons_succ]
          refine anyT_done (by kernel_rfl) ?_
          have HJ2 : Hid (ClI w base M T f G1 cp1 a E en mp (k + 1) w1 (set4 v3 M (k * 4) (sOr (clsT T f a k k) (sOne a)))) := by
            have hc : Chg (fun j => j = M) v3 (set4 v3 M (k * 4) (sOr (clsT T f a k k) (sOne a))) := chg_set4 v3 M _ _ rfl
            have h1 : MtrI (set4 v3 M (k * 4) (sOr (clsT T f a k k) (sOne a))) base M (updE (clsT T f a k) k (sOr (clsT T f a k k) (sOne a))) G1 cp1 (a + 1) E en mp := by rw [Nat.mul_comm k 4]; exact HM3.out.setT hlt _
            refine ⟨h1.iff (fun b p hb hp => ?_) (fun _ _ _ _ => rfl) h1.new, (HJ.out.box.below HV.out).chg hc (by omega), (HJ.out.chg.trans (Chg.of_below HV.out)).trans hc⟩
            unfold updE clsT
            by_cases e : b = k
            · subst e
              rw [if_pos rfl]
              simp [sOr, sOne, HFk.out]
            · have : decide (b < k + 1) = decide (b < k) := by rw [decide_eq_decide]; omega
              rw [if_neg e, this]
          simp only [set4] at HJ2
          go_wp2_with fail
          refine ⟨⟨k + 1, by omega, by go_num, HJ2⟩, ?_⟩
          go_light
          simp [intOf]; omega
        · go_simp
          refine hK.out _ _ (.inr HS0.out) ?_
          clear hK
          try simp only [Act.put, List.getElem_toArray, List.getElem_cons_zero, List.getElem_cons_succ, List.setIfInBounds_toArray, List.set_cons_zero, List.set_cons_succ]
          refine anyT_two (i := 9) (j := 11) (by kernel_rfl) rfl rfl (fun K hK => ?_) (fun K hK => ?_)
          · go_simp
            refine (HWi.out _).mono ?_
            rintro r v3 ⟨rfl, hb3⟩
            have HV : Hid (Below wr.heap.size wr v3) := ((Below.refl wr.heap.size wr).drew).trans hb3
            have HM3 : Hid (MtrI v3 base M (clsT T f a k) G1 cp1 (a + 1) E en mp) := HJ.out.mtr.below HV.out
            clear e0 e1 e2 e3 y0 y1 y2 y3
            obtain ⟨g0, g1, g2, g3, y0, y1, y2, y3⟩ := HM3.out.taken4 hlt
            have HS3 : Hid (v3.cell? ⟨M, k * 4, none⟩ = some (.int .u64 (wdN (clsT T f a k k) 0 : Int)) ∧ v3.cell? ⟨M, k * 4 + 1, none⟩ = some (.int .u64 (wdN (clsT T f a k k) 1 : Int)) ∧ v3.cell? ⟨M, k * 4 + 2, none⟩ = some (.int .u64 (wdN (clsT T f a k k) 2 : Int)) ∧ v3.cell? ⟨M, k * 4 + 3, none⟩ = some (.int .u64 (wdN (clsT T f a k k) 3 : Int))) := ⟨g0, g1, g2, g3⟩
            refine hK.out _ _ (.inr HS3.out) ?_
            clear hK hb3
            try simp only [Act.put, List.getElem_toArray, List.getElem_cons_zero, List.getElem_cons_succ, List.setIfInBounds_toArray, List.set_cons_zero, List.set_cons_succ]
            refine anyT_one (i := 11) (by kernel_rfl) rfl (fun K hK => ?_)
            go_simp
            refine hK.out _ _ (.inr HS3.out) ?_
            clear hK
            try simp only [Act.put, List.getElem_toArray, List.getElem_cons_zero, List.getElem_cons_succ, List.setIfInBounds_toArray, List.set_cons_zero, List.set_cons_succ]
            refine anyT_one (i := 12) (by kernel_rfl) rfl (fun K hK => ?_)
            go_simp
            refine hK.out _ _ (.inr HS3.out) ?_
            clear hK
            try simp only [Act.put, List.getElem_toArray, List.getElem_cons_zero, List.getElem_cons_succ, List.setIfInBounds_toArray, List.set_cons_zero, List.set_cons_succ]
            refine anyT_one (i := 13) (by kernel_rfl) rfl (fun K hK => ?_)
            go_simp
            refine hK.out _ _ (.inl rfl) ?_
            clear hK
            try simp only [Act.put, List.getElem_toArray, List.getElem_cons_zero, List.getElem_cons_succ, List.setIfInBounds_toArray, List.set_cons_zero, List.set_cons_succ]
            refine anyT_done (by kernel_rfl) ?_
            have HJ2 : Hid (ClI w base M T f G1 cp1 a E en mp (k + 1) w1 (set4 v3 M (k * 4) (sOr (clsT T f a k k) (sOne a)))) := by
              have hc : Chg (fun j => j = M) v3 (set4 v3 M (k * 4) (sOr (clsT T f a k k) (sOne a))) := chg_set4 v3 M _ _ rfl
              have h1 : MtrI (set4 v3 M (k * 4) (sOr (clsT T f a k k) (sOne a))) base M (updE (clsT T f a k) k (sOr (clsT T f a k k) (sOne a))) G1 cp1 (a + 1) E en mp := by rw [Nat.mul_comm k 4]; exact HM3.out.setT hlt _
              refine ⟨h1.iff (fun b p hb hp => ?_) (fun _ _ _ _ => rfl) h1.new, (HJ.out.box.below HV.out).chg hc (by omega), (HJ.out.chg.trans (Chg.of_below HV.out)).trans hc⟩
              unfold updE clsT
              by_cases e : b = k
              · subst e
                rw [if_pos rfl]
                simp [sOr, sOne, HFk.out]
              · have : decide (b < k + 1) = decide (b < k) := by rw [decide_eq_decide]; omega
                rw [if_neg e, this]
            simp only [set4] at HJ2
            go_wp2_with fail
            refine ⟨⟨k + 1, by omega, by go_num, HJ2⟩, ?_⟩
            go_light
            simp [intOf]; omega
          · go_simp
            refine hK.out _ _ (.inr HS0.out) ?_
            clear hK
            try simp only [Act.put, List.getElem_toArray, List.getElem_cons_zero, List.getElem_cons_succ, List.setIfInBounds_toArray, List.set_cons_zero, List.set_cons_succ]
            refine anyT_one (i := 9) (by kernel_rfl) rfl (fun K hK => ?_)
            go_simp
            refine (HWi.out _).mono ?_
            rintro r v3 ⟨rfl, hb3⟩
            have HV : Hid (Below wr.heap.size wr v3) := ((Below.refl wr.heap.size wr).drew).trans hb3
            have HM3 : Hid (MtrI v3 base M (clsT T f a k) G1 cp1 (a + 1) E en mp) := HJ.out.mtr.below HV.out
            clear e0 e1 e2 e3 y0 y1 y2 y3
            obtain ⟨g0, g1, g2, g3, y0, y1, y2, y3⟩ := HM3.out.taken4 hlt
            have HS3 : Hid (v3.cell? ⟨M, k * 4, none⟩ = some (.int .u64 (wdN (clsT T f a k k) 0 : Int)) ∧ v3.cell? ⟨M, k * 4 + 1, none⟩ = some (.int .u64 (wdN (clsT T f a k k) 1 : Int)) ∧ v3.cell? ⟨M, k * 4 + 2, none⟩ = some (.int .u64 (wdN (clsT T f a k k) 2 : Int)) ∧ v3.cell? ⟨M, k * 4 + 3, none⟩ = some (.int .u64 (wdN (clsT T f a k k) 3 : Int))) := ⟨g0, g1, g2, g3⟩
            refine hK.out _ _ (.inr HS3.out) ?_
            clear hK hb3
            try simp only [Act.put, List.getElem_toArray, List.getElem_cons_zero, List.getElem_cons_succ, List.setIfInBounds_toArray, List.set_cons_zero, List.set_cons_succ]
            refine anyT_one (i := 12) (by kernel_rfl) rfl (fun K hK => ?_)
            go_simp
            refine hK.out _ _ (.inr HS3.out) ?_
            clear hK
            try simp only [Act.put, List.getElem_toArray, List.getElem_cons_zero, List.getElem_cons_succ, List.setIfInBounds_toArray, List.set_cons_zero, List.set_cons_succ]
            refine anyT_one (i := 13) (by kernel_rfl) rfl (fun K hK => ?_)
            go_simp
            refine hK.out _ _ (.inl rfl) ?_
            clear hK
            try simp only [Act.put, List.getElem_toArray, List.getElem_cons_zero, List.getElem_cons_succ, List.setIfInBounds_toArray, List.set_cons_zero, List.set_cons_succ]
            refine anyT_done (by kernel_rfl) ?_
            have HJ2 : Hid (ClI w base M T f G1 cp1 a E en mp (k + 1) w1 (set4 v3 M (k * 4) (sOr (clsT T f a k k) (sOne a)))) := by
              have hc : Chg (fun j => j = M) v3 (set4 v3 M (k * 4) (sOr (clsT T f a k k) (sOne a))) := chg_set4 v3 M _ _ rfl
              have h1 : MtrI (set4 v3 M (k * 4) (sOr (clsT T f a k k) (sOne a))) base M (updE (clsT T f a k) k (sOr (clsT T f a k k) (sOne a))) G1 cp1 (a + 1) E en mp := by rw [Nat.mul_comm k 4]; exact HM3.out.setT hlt _
              refine ⟨h1.iff (fun b p hb hp => ?_) (fun _ _ _ _ => rfl) h1.new, (HJ.out.box.below HV.out).chg hc (by omega), (HJ.out.chg.trans (Chg.of_below HV.out)).trans hc⟩
              unfold updE clsT
              by_cases e : b = k
              · subst e
                rw [if_pos rfl]
                simp [sOr, sOne, HFk.out]
              · have : decide (b < k + 1) = decide (b < k) := by rw [decide_eq_decide]; omega
                rw [if_neg e, this]
            simp only [set4] at HJ2
            go_wp2_with fail
            refine ⟨⟨k + 1, by omega, by go_num, HJ2⟩, ?_⟩
            go_light
            simp [intOf]; omega
    · obtain rfl : k = 256 := by omega
      have zk : ¬ (256 : Int) < 256 := by omega
      have HSp : Hid (∀ wx : World, Calls Tryz.prog 155 #[.int .i64 (a : Int)] wx fun e w' => e = .returned (spV (sOne a) (sOne a)) ∧ Below wx.heap.size wx w') := fun wx => singleSpan_core a ha wx
      go_wp2_with fail
      refine (HSp.out _).mono ?_
      rintro e w5 ⟨rfl, hb5⟩
      have HB5 := HJ.out.box.below hb5
      have r0 := HB5.cell (j := 0) rfl
      have r1 := HB5.cell (j := 1) rfl
      have r2 := HB5.cell (j := 2) rfl
      have r3 := HB5.cell (j := 3) rfl
      have r4 := HB5.cell (j := 4) rfl
      have r5 := HB5.cell (j := 5) rfl
      have r6 := HB5.cell (j := 6) rfl
      have r7 := HB5.cell (j := 7) rfl
      have f0 := HB5.frozen 0
      have f1 := HB5.frozen 1
      have f2 := HB5.frozen 2
      have f3 := HB5.frozen 3
      have f4 := HB5.frozen 4
      have f5 := HB5.frozen 5
      have f6 := HB5.frozen 6
      have f7 := HB5.frozen 7
      have HF : Hid (LayR base M T G E en mp (lyP (.cls f) a) w (.returned (spV (sOne a) (sOne a))) (setSp w5 w.heap.size (sOne a) (sOne a)) ∧ BoxAt (setSp w5 w.heap.size (sOne a) (sOne a)) w.heap.size 183 8 w.heap.size (spL (sOne a) (sOne a))) := by
        have h5 := HJ.out.mtr.below hb5
        have hc : Chg (fun k => k = w.heap.size) w5 (setSp w5 w.heap.size (sOne a) (sOne a)) := chg_setSp w5 _ _ _ rfl
        have hG1 : ¬ G1 = w.heap.size := fun q => own_apart h5.row HB5 (by decide) G1 rfl (by rw [q]; rfl)
        have k0 : Chg (fun k => k = M ∨ k = G) w W0 := Chg.of_below HW0.out.2.2.1
        have hx : Chg (fun k => k = M ∨ k = G) w w5 := ((k0.trans H1.out.2.1).trans (HJ.out.chg.mono (fun k q => .inl q))).trans (Chg.of_below hb5)
        refine ⟨⟨G1, cp1, rfl, ⟨(h5.chg hc (by omega) hG1 (fun k q => by omega)).iff (fun b p hb hp => ?_) (fun q p hq hp => by simp [withE, lyP]) (fun p hp q => by have := h5.new p hp q; simp [withE, lyP, this]), ?_, ?_⟩⟩, HB5.setSp _ _⟩
        · unfold withT clsT
          simp [lyP, hb]
        · exact ⟨hc.os.trans hx.os, hc.tape.trans hx.tape, hc.output.trans hx.output, Nat.le_trans hx.size hc.size, fun j hj hn => (hc.block j (Nat.lt_of_lt_of_le hj hx.size) (by omega)).trans (hx.block j hj hn)⟩
        · rcases H1.out.2.2 with q | q
          · exact .inl q
          · exact .inr (by omega)
      clear HB5 hb5
      go_wp2_with fail
      exact bodyPost_ret (v := spV (sOne a) (sOne a)) (span_res135 (base := w.heap.size) (g := w.heap.size) rfl HF.out.2) rfl HF.out.1
end Go.Proofs.YtkidabedcgngcaaGreatDoor

/-
  lay at a repetition.
-/
namespace Go.Proofs.YtkidabedcgngcaaGreatDoor
open Go.ChangeShapes Go.WideShapes Go.ChangeAt Go.RowKit Go.Deep
set_option linter.unusedVariables false
set_option linter.unusedSimpArgs false
set_option maxRecDepth 100000

/-- lay at the node v, in every world in which what lies below base lies as in w0. -/
def LyC (base : Nat) (w0 : World) (t : Pat) (v : Value) : Prop := ∀ (M : Nat) (T : Nat → PS) (G cp a : Nat) (E : Nat → PS) (en : PS) (mp : Nat) (w : World), MtrI w base M T G cp a E en mp → Below base w0 w → a + wtP t ≤ 256 →
  Calls Tryz.prog 135 #[.pointer (some ⟨M, 0, none⟩), v] w (LayR base M T G E en mp (lyP t a) w)
theorem chg_own {S : Nat → Prop} {w w5 w6 : World} (hx : Chg S w w5) (hc : Chg (fun k => w.heap.size ≤ k) w5 w6) : Chg S w w6 :=
  ⟨hc.os.trans hx.os, hc.tape.trans hx.tape, hc.output.trans hx.output, Nat.le_trans hx.size hc.size, fun j hj hn => (hc.block j (Nat.lt_of_lt_of_le hj hx.size) (by omega)).trans (hx.block j hj hn)⟩
/-- A span stored in the call's own box: the matcher stands. -/
theorem lay_fin {w w5 : World} {base M : Nat} {T : Nat → PS} {G1 cp1 nx : Nat} {E : Nat → PS} {en : PS} {mp G g : Nat} {vs : List Value} (hm : MtrI w5 base M T G1 cp1 nx E en mp) (hb : BoxAt w5 w.heap.size 183 8 g vs) (hx : Chg (fun k => k = M ∨ k = G) w w5) (F L : PS) :
    MtrI (setSp w5 g F L) base M T G1 cp1 nx E en mp ∧ BoxAt (setSp w5 g F L) w.heap.size 183 8 g (spL F L) ∧ Chg (fun k => k = M ∨ k = G) w (setSp w5 g F L) := by
  have hc : Chg (fun k => k = g) w5 (setSp w5 g F L) := chg_setSp w5 _ _ _ rfl
  have hG1 : ¬ G1 = g := fun q => own_apart hm.row hb (by decide) G1 rfl (by rw [q]; rfl)
  have hM1 : ¬ M = g := fun q => own_apart hm.box hb (by decide) M rfl (by rw [q]; rfl)
  have h1 := hb.lt.1
  refine ⟨⟨hm.box.chg hc hM1, own_chg hm.row hc (fun k q => by simp [Value.ownBlock] at q; subst q; exact hG1), hm.new, hm.tab.chg hc (fun q => ?_), hm.low⟩, hb.setSp _ _, chg_own hx (hc.mono (fun k q => by omega))⟩
  have h2 := hm.tab
  have h3 : w5.heap[g]? = some (.cells vs.toArray 183 (0, 0)) := hb.heap
  have h4 := h2 8 (by omega)
  rw [q] at h4
  have h5 := hb.len
  rw [World.cell?, h3] at h4
  simp [List.getElem?_eq_none (show vs.length ≤ 8 by omega)] at h4
set_option maxHeartbeats 4000000 in
theorem lay_rep_true {base : Nat} {w0 : World} {t : Pat} {u : Value} (hu : ∃ X c, u = .iface X (.agg c)) (H : LyC base w0 t u) (o : Bool) : LyC base w0 (.rep t o true) (.iface 219 (.agg #[u, .bool o, .bool true])) := by
  intro M T G cp a E en mp w h hw0 hwt
  obtain ⟨ux, uc, rfl⟩ := hu
  obtain ⟨l, hl⟩ : ∃ l, l = lyP t a := ⟨_, rfl⟩
  have hsp := (cor_P t a).spt
  have hnx := nx_P t a
  simp only [wtP] at hwt
  rw [← hl] at hsp hnx
  obtain ⟨W0, hW0⟩ : ∃ W0 : World, W0 = (w.alloc (.cells zsA 183)).alloc (.cells #[.iface ux (.agg uc), .bool o, .bool true] 219) := ⟨_, rfl⟩
  have HW0 : Hid (BoxAt W0 w.heap.size 183 8 w.heap.size zsA.toList ∧ BoxAt W0 w.heap.size 219 3 (w.heap.size + 1) [.iface ux (.agg uc), .bool o, .bool true] ∧ Below w.heap.size w W0 ∧ MtrI W0 base M T G cp a E en mp) := by
    have b1 := boxAt_new w (base := w.heap.size) (t := 183) (sz := 8) zsA (Nat.le_refl _) rfl
    have b2 := boxAt_new (w.alloc (.cells zsA 183)) (base := w.heap.size) (t := 219) (sz := 3) #[.iface ux (.agg uc), .bool o, .bool true] (by simp) rfl
    rw [World.size_alloc] at b2
    have k0 : Below w.heap.size w W0 := by rw [hW0]; exact ((Below.refl _ _).alloc (Nat.le_refl _) _).alloc (by simp) _
    refine ⟨?_, by rw [hW0]; exact b2, k0, h.below k0⟩
    rw [hW0]; exact b1.below ((Below.refl _ _).alloc (Nat.le_refl _) _)
  have hM0 := h.ltM
  have hG0 := h.ltG
  have hne0 := h.ne
  have HL : Hid (Calls Tryz.prog 135 #[.pointer (some ⟨M, 0, none⟩), .iface ux (.agg uc)] W0 (LayR base M T G E en mp l W0)) := by
    rw [hl]; exact H M T G cp a E en mp W0 HW0.out.2.2.2 (hw0.trans (HW0.out.2.2.1.mono (by omega))) hwt
  have HSp : Hid (Spt a l ∧ l.nx ≤ 256 ∧ l = lyP t a) := ⟨hsp, by omega, hl⟩
  clear h H hl hsp hnx hw0
  have hAs := asRB #[.iface ux (.agg uc), .bool o, .bool true]
  have hAs2 := asRC #[.iface ux (.agg uc), .bool o, .bool true]
  have hAs3 := asRR #[.iface ux (.agg uc), .bool o, .bool true]
  go_enter Tryz.func135, Tryz.ntmps135
  go_wp2_with fail
  have hW0' := hW0
  simp only [zsA] at hW0'
  rw [← hW0']
  clear hW0 hW0' hAs hAs2 hAs3
  refine HL.out.mono ?_
  rintro e w1 ⟨G1, cp1, rfl, H1⟩
  have q0 := HW0.out.2.2.1.size
  have hS1 := H1.out.2.1.size
  obtain ⟨W2, hW2⟩ : ∃ W2 : World, W2 = w1.alloc (.cells (spL l.fst l.lst).toArray 183) := ⟨_, rfl⟩
  have k2 : Below w1.heap.size w1 W2 := by rw [hW2]; exact (Below.refl _ _).alloc (Nat.le_refl _) _
  have HW2 : Hid (BoxAt W2 w.heap.size 183 8 w.heap.size zsA.toList ∧ BoxAt W2 w.heap.size 219 3 (w.heap.size + 1) [.iface ux (.agg uc), .bool o, .bool true] ∧ BoxAt W2 w.heap.size 183 8 w1.heap.size (spL l.fst l.lst) ∧ MtrI W2 base M (withT T l) G1 cp1 l.nx (withE E l) en mp ∧ Chg (fun k => k = M ∨ k = G) w W2 ∧ (G1 = G ∨ w.heap.size ≤ G1)) := by
    refine ⟨(HW0.out.1.chg H1.out.2.1 (by omega)).below k2, (HW0.out.2.1.chg H1.out.2.1 (by omega)).below k2, ?_, H1.out.1.below k2, ((Chg.of_below HW0.out.2.2.1).trans H1.out.2.1).trans (Chg.of_below k2), ?_⟩
    · rw [hW2]; exact boxAt_new w1 _ (by omega) rfl
    · rcases H1.out.2.2 with q | q
      · exact .inl q
      · exact .inr (by omega)
  have b2 : W2.cell? ⟨w.heap.size + 1, 2, none⟩ = some (.bool true) := HW2.out.2.1.cell (j := 2) rfl
  have s0 := HW2.out.2.2.1.cell (j := 0) rfl
  have s1 := HW2.out.2.2.1.cell (j := 1) rfl
  have s2 := HW2.out.2.2.1.cell (j := 2) rfl
  have s3 := HW2.out.2.2.1.cell (j := 3) rfl
  have s4 := HW2.out.2.2.1.cell (j := 4) rfl
  have s5 := HW2.out.2.2.1.cell (j := 5) rfl
  have s6 := HW2.out.2.2.1.cell (j := 6) rfl
  have s7 := HW2.out.2.2.1.cell (j := 7) rfl
  have g0 := HW2.out.2.2.1.frozen 0
  have g1 := HW2.out.2.2.1.frozen 1
  have g2 := HW2.out.2.2.1.frozen 2
  have g3 := HW2.out.2.2.1.frozen 3
  have g4 := HW2.out.2.2.1.frozen 4
  have g5 := HW2.out.2.2.1.frozen 5
  have g6 := HW2.out.2.2.1.frozen 6
  have g7 := HW2.out.2.2.1.frozen 7
  go_upto_region 20 with fail
  have hW2' := hW2
  simp only [spL] at hW2'
  rw [← hW2']
  clear hW2 hW2'
  have HCo : Hid (Calls Tryz.prog 156 #[.pointer (some ⟨M, 0, none⟩), psV l.lst, psV l.fst] W2 fun e w' => (∃ v, e = .returned v) ∧ Hid (MtrI w' base M (withT T l) G1 cp1 l.nx (fun p q => withE E l p q || (l.lst p && l.fst q)) en mp ∧ Chg (fun k => k = G1) W2 w')) := connect_core l.lst l.fst W2 HW2.out.2.2.2.1 (fun p hp => (HSp.out.1.lst p hp).2) HSp.out.2.1
  go_wp2_with fail
  refine HCo.out.mono ?_
  rintro e w5 ⟨⟨v, rfl⟩, H5⟩
  have hGs : ¬ G1 = w.heap.size := fun q => own_apart HW2.out.2.2.2.1.row HW2.out.1 (by decide) G1 rfl (by rw [q]; rfl)
  have hGt : ¬ G1 = w1.heap.size := fun q => own_apart HW2.out.2.2.2.1.row HW2.out.2.2.1 (by decide) G1 rfl (by rw [q]; rfl)
  have HB5 := HW2.out.1.chg H5.out.2 (fun q => hGs q.symm)
  have HC5 := HW2.out.2.2.1.chg H5.out.2 (fun q => hGt q.symm)
  clear s0 g0
  clear s1 g1
  clear s2 g2
  clear s3 g3
  clear s4 g4
  clear s5 g5
  clear s6 g6
  clear s7 g7
  have r0 := HB5.cell (j := 0) rfl
  have r1 := HB5.cell (j := 1) rfl
  have r2 := HB5.cell (j := 2) rfl
  have r3 := HB5.cell (j := 3) rfl
  have r4 := HB5.cell (j := 4) rfl
  have r5 := HB5.cell (j := 5) rfl
  have r6 := HB5.cell (j := 6) rfl
  have r7 := HB5.cell (j := 7) rfl
  have f0 := HB5.frozen 0
  have f1 := HB5.frozen 1
  have f2 := HB5.frozen 2
  have f3 := HB5.frozen 3
  have f4 := HB5.frozen 4
  have f5 := HB5.frozen 5
  have f6 := HB5.frozen 6
  have f7 := HB5.frozen 7
  have s0 := HC5.cell (j := 0) rfl
  have s1 := HC5.cell (j := 1) rfl
  have s2 := HC5.cell (j := 2) rfl
  have s3 := HC5.cell (j := 3) rfl
  have s4 := HC5.cell (j := 4) rfl
  have s5 := HC5.cell (j := 5) rfl
  have s6 := HC5.cell (j := 6) rfl
  have s7 := HC5.cell (j := 7) rfl
  have g0 := HC5.frozen 0
  have g1 := HC5.frozen 1
  have g2 := HC5.frozen 2
  have g3 := HC5.frozen 3
  have g4 := HC5.frozen 4
  have g5 := HC5.frozen 5
  have g6 := HC5.frozen 6
  have g7 := HC5.frozen 7
  have HF : Hid (LayR base M T G E en mp (lyP (.rep t o true) a) w (.returned (spV l.fst l.lst)) (setSp w5 w.heap.size l.fst l.lst) ∧ BoxAt (setSp w5 w.heap.size l.fst l.lst) w.heap.size 183 8 w.heap.size (spL l.fst l.lst)) := by
    have hx : Chg (fun k => k = M ∨ k = G) w w5 := by
      have h2 := HW2.out.2.2.2.2.1
      have h3 := H5.out.2
      refine ⟨h3.os.trans h2.os, h3.tape.trans h2.tape, h3.output.trans h2.output, Nat.le_trans h2.size h3.size, fun j hj hn => (h3.block j (Nat.lt_of_lt_of_le hj h2.size) (fun q => ?_)).trans (h2.block j hj hn)⟩
      rcases HW2.out.2.2.2.2.2 with z | z
      · exact hn (.inr (by omega))
      · omega
    obtain ⟨f1, f2, f3⟩ := lay_fin H5.out.1 HB5 hx l.fst l.lst
    have e1 : (lyP (.rep t o true) a) = l.rep true := by rw [HSp.out.2.2]; rfl
    rw [e1]
    refine ⟨⟨G1, cp1, rfl, ⟨f1.iff (fun b p _ _ => rfl) (fun q p _ _ => ?_) (fun p hp q => ?_), f3, HW2.out.2.2.2.2.2⟩⟩, f2⟩
    · simp [withE, Lay.rep, Bool.or_assoc]
    · have := f1.new p hp q
      simpa [withE, Lay.rep, Bool.or_assoc] using this
  clear HB5 HC5
  go_wp2_with fail
  exact bodyPost_ret (v := spV l.fst l.lst) (span_res135 (base := w.heap.size) (g := w.heap.size) rfl HF.out.2) rfl HF.out.1
set_option maxHeartbeats 4000000 in
theorem lay_rep_false {base : Nat} {w0 : World} {t : Pat} {u : Value} (hu : ∃ X c, u = .iface X (.agg c)) (H : LyC base w0 t u) (o : Bool) : LyC base w0 (.rep t o false) (.iface 219 (.agg #[u, .bool o, .bool false])) := by
  intro M T G cp a E en mp w h hw0 hwt
  obtain ⟨ux, uc, rfl⟩ := hu
  obtain ⟨l, hl⟩ : ∃ l, l = lyP t a := ⟨_, rfl⟩
  have hsp := (cor_P t a).spt
  have hnx := nx_P t a
  simp only [wtP] at hwt
  rw [← hl] at hsp hnx
  obtain ⟨W0, hW0⟩ : ∃ W0 : World, W0 = (w.alloc (.cells zsA 183)).alloc (.cells #[.iface ux (.agg uc), .bool o, .bool false] 219) := ⟨_, rfl⟩
  have HW0 : Hid (BoxAt W0 w.heap.size 183 8 w.heap.size zsA.toList ∧ BoxAt W0 w.heap.size 219 3 (w.heap.size + 1) [.iface ux (.agg uc), .bool o, .bool false] ∧ Below w.heap.size w W0 ∧ MtrI W0 base M T G cp a E en mp) := by
    have b1 := boxAt_new w (base := w.heap.size) (t := 183) (sz := 8) zsA (Nat.le_refl _) rfl
    have b2 := boxAt_new (w.alloc (.cells zsA 183)) (base := w.heap.size) (t := 219) (sz := 3) #[.iface ux (.agg uc), .bool o, .bool false] (by simp) rfl
    rw [World.size_alloc] at b2
    have k0 : Below w.heap.size w W0 := by rw [hW0]; exact ((Below.refl _ _).alloc (Nat.le_refl _) _).alloc (by simp) _
    refine ⟨?_, by rw [hW0]; exact b2, k0, h.below k0⟩
    rw [hW0]; exact b1.below ((Below.refl _ _).alloc (Nat.le_refl _) _)
  have hM0 := h.ltM
  have hG0 := h.ltG
  have hne0 := h.ne
  have HL : Hid (Calls Tryz.prog 135 #[.pointer (some ⟨M, 0, none⟩), .iface ux (.agg uc)] W0 (LayR base M T G E en mp l W0)) := by
    rw [hl]; exact H M T G cp a E en mp W0 HW0.out.2.2.2 (hw0.trans (HW0.out.2.2.1.mono (by omega))) hwt
  have HSp : Hid (Spt a l ∧ l.nx ≤ 256 ∧ l = lyP t a) := ⟨hsp, by omega, hl⟩
  clear h H hl hsp hnx hw0
  have hAs := asRB #[.iface ux (.agg uc), .bool o, .bool false]
  have hAs2 := asRC #[.iface ux (.agg uc), .bool o, .bool false]
  have hAs3 := asRR #[.iface ux (.agg uc), .bool o, .bool false]
  go_enter Tryz.func135, Tryz.ntmps135
  go_wp2_with fail
  have hW0' := hW0
  simp only [zsA] at hW0'
  rw [← hW0']
  clear hW0 hW0' hAs hAs2 hAs3
  refine HL.out.mono ?_
  rintro e w1 ⟨G1, cp1, rfl, H1⟩
  have q0 := HW0.out.2.2.1.size
  have hS1 := H1.out.2.1.size
  obtain ⟨W2, hW2⟩ : ∃ W2 : World, W2 = w1.alloc (.cells (spL l.fst l.lst).toArray 183) := ⟨_, rfl⟩
  have k2 : Below w1.heap.size w1 W2 := by rw [hW2]; exact (Below.refl _ _).alloc (Nat.le_refl _) _
  have HW2 : Hid (BoxAt W2 w.heap.size 183 8 w.heap.size zsA.toList ∧ BoxAt W2 w.heap.size 219 3 (w.heap.size + 1) [.iface ux (.agg uc), .bool o, .bool false] ∧ BoxAt W2 w.heap.size 183 8 w1.heap.size (spL l.fst l.lst) ∧ MtrI W2 base M (withT T l) G1 cp1 l.nx (withE E l) en mp ∧ Chg (fun k => k = M ∨ k = G) w W2 ∧ (G1 = G ∨ w.heap.size ≤ G1)) := by
    refine ⟨(HW0.out.1.chg H1.out.2.1 (by omega)).below k2, (HW0.out.2.1.chg H1.out.2.1 (by omega)).below k2, ?_, H1.out.1.below k2, ((Chg.of_below HW0.out.2.2.1).trans H1.out.2.1).trans (Chg.of_below k2), ?_⟩
    · rw [hW2]; exact boxAt_new w1 _ (by omega) rfl
    · rcases H1.out.2.2 with q | q
      · exact .inl q
      · exact .inr (by omega)
  have b2 : W2.cell? ⟨w.heap.size + 1, 2, none⟩ = some (.bool false) := HW2.out.2.1.cell (j := 2) rfl
  have s0 := HW2.out.2.2.1.cell (j := 0) rfl
  have s1 := HW2.out.2.2.1.cell (j := 1) rfl
  have s2 := HW2.out.2.2.1.cell (j := 2) rfl
  have s3 := HW2.out.2.2.1.cell (j := 3) rfl
  have s4 := HW2.out.2.2.1.cell (j := 4) rfl
  have s5 := HW2.out.2.2.1.cell (j := 5) rfl
  have s6 := HW2.out.2.2.1.cell (j := 6) rfl
  have s7 := HW2.out.2.2.1.cell (j := 7) rfl
  have g0 := HW2.out.2.2.1.frozen 0
  have g1 := HW2.out.2.2.1.frozen 1
  have g2 := HW2.out.2.2.1.frozen 2
  have g3 := HW2.out.2.2.1.frozen 3
  have g4 := HW2.out.2.2.1.frozen 4
  have g5 := HW2.out.2.2.1.frozen 5
  have g6 := HW2.out.2.2.1.frozen 6
  have g7 := HW2.out.2.2.1.frozen 7
  go_upto_region 20 with fail
  have hW2' := hW2
  simp only [spL] at hW2'
  rw [← hW2']
  clear hW2 hW2'
  have HB5 := HW2.out.1
  have HC5 := HW2.out.2.2.1
  clear s0 g0
  clear s1 g1
  clear s2 g2
  clear s3 g3
  clear s4 g4
  clear s5 g5
  clear s6 g6
  clear s7 g7
  have r0 := HB5.cell (j := 0) rfl
  have r1 := HB5.cell (j := 1) rfl
  have r2 := HB5.cell (j := 2) rfl
  have r3 := HB5.cell (j := 3) rfl
  have r4 := HB5.cell (j := 4) rfl
  have r5 := HB5.cell (j := 5) rfl
  have r6 := HB5.cell (j := 6) rfl
  have r7 := HB5.cell (j := 7) rfl
  have f0 := HB5.frozen 0
  have f1 := HB5.frozen 1
  have f2 := HB5.frozen 2
  have f3 := HB5.frozen 3
  have f4 := HB5.frozen 4
  have f5 := HB5.frozen 5
  have f6 := HB5.frozen 6
  have f7 := HB5.frozen 7
  have s0 := HC5.cell (j := 0) rfl
  have s1 := HC5.cell (j := 1) rfl
  have s2 := HC5.cell (j := 2) rfl
  have s3 := HC5.cell (j := 3) rfl
  have s4 := HC5.cell (j := 4) rfl
  have s5 := HC5.cell (j := 5) rfl
  have s6 := HC5.cell (j := 6) rfl
  have s7 := HC5.cell (j := 7) rfl
  have g0 := HC5.frozen 0
  have g1 := HC5.frozen 1
  have g2 := HC5.frozen 2
  have g3 := HC5.frozen 3
  have g4 := HC5.frozen 4
  have g5 := HC5.frozen 5
  have g6 := HC5.frozen 6
  have g7 := HC5.frozen 7
  have HF : Hid (LayR base M T G E en mp (lyP (.rep t o false) a) w (.returned (spV l.fst l.lst)) (setSp W2 w.heap.size l.fst l.lst) ∧ BoxAt (setSp W2 w.heap.size l.fst l.lst) w.heap.size 183 8 w.heap.size (spL l.fst l.lst)) := by
    obtain ⟨f1, f2, f3⟩ := lay_fin HW2.out.2.2.2.1 HB5 HW2.out.2.2.2.2.1 l.fst l.lst
    have e1 : (lyP (.rep t o false) a) = l.rep false := by rw [HSp.out.2.2]; rfl
    rw [e1]
    refine ⟨⟨G1, cp1, rfl, ⟨f1.iff (fun b p _ _ => rfl) (fun q p _ _ => ?_) (fun p hp q => ?_), f3, HW2.out.2.2.2.2.2⟩⟩, f2⟩
    · simp [withE, Lay.rep]
    · have := f1.new p hp q
      simpa [withE, Lay.rep] using this
  clear HB5 HC5
  go_wp2_with fail
  exact bodyPost_ret (v := spV l.fst l.lst) (span_res135 (base := w.heap.size) (g := w.heap.size) rfl HF.out.2) rfl HF.out.1
theorem lay_rep {base : Nat} {w0 : World} {t : Pat} {u : Value} (hu : ∃ X c, u = .iface X (.agg c)) (H : LyC base w0 t u) (o r : Bool) : LyC base w0 (.rep t o r) (.iface 219 (.agg #[u, .bool o, .bool r])) := by
  cases r with
  | true => exact lay_rep_true hu H o
  | false => exact lay_rep_false hu H o
end Go.Proofs.YtkidabedcgngcaaGreatDoor

/-
  matchesEmpty.
-/
namespace Go.Proofs.YtkidabedcgngcaaGreatDoor
open Go.ChangeShapes Go.WideShapes Go.ChangeAt Go.RowKit Go.Deep
set_option linter.unusedVariables false
set_option linter.unusedSimpArgs false
set_option maxRecDepth 100000

/-- matchesEmpty, as the interface leads to it, says whether t takes the empty word. -/
def NulV (w : World) (t : Pat) (v : Value) : Prop := ∃ (T : Nat) (c : Array Value) (f : Nat), v = .iface T (.agg c) ∧
  ((T = 211 ∧ f = 205) ∨ (T = 217 ∧ f = 206) ∨ (T = 219 ∧ f = 207) ∨ (T = 142 ∧ f = 136)) ∧
  Hid (∀ w', Below w.heap.size w w' → Calls Tryz.prog f #[.agg c] w' fun e w'' => e = .returned (.bool (nulB t)) ∧ Below w'.heap.size w' w'')
set_option maxHeartbeats 1000000 in
theorem nul_byte (w : World) (b : UInt8) : NulV w (.byte b) (byteV b) := by
  refine ⟨_, _, _, rfl, .inl ⟨rfl, rfl⟩, fun w' _ => ?_⟩
  go_enter Tryz.func205, Tryz.ntmps205
  go_wp2_with fail
  go_ret
  exact ⟨rfl, (Below.refl _ _).alloc (Nat.le_refl _) _⟩
set_option maxHeartbeats 1000000 in
theorem nul_cls (w : World) (f : UInt8 → Bool) : NulV w (.cls f) (clsV f) := by
  refine ⟨_, _, _, rfl, .inr (.inl ⟨rfl, rfl⟩), fun w' _ => ?_⟩
  go_enter Tryz.func206, Tryz.ntmps206
  go_wp2_with fail
  go_ret
  exact ⟨rfl, (Below.refl _ _).alloc (Nat.le_refl _) _⟩
set_option maxHeartbeats 4000000 in
theorem nul_rep {w : World} {t : Pat} {u : Value} (h : NulV w t u) (o r : Bool) : NulV w (.rep t o r) (.iface 219 (.agg #[u, .bool o, .bool r])) := by
  refine ⟨_, _, _, rfl, .inr (.inr (.inl ⟨rfl, rfl⟩)), fun w' hw => ?_⟩
  obtain ⟨T, c, f, rfl, ht, HC⟩ := h
  have hb : ∀ o : Obj, Below w'.heap.size w' (w'.alloc o) := fun o => (Below.refl _ _).alloc (Nat.le_refl _) _
  have HB : Hid (∀ o : Obj, Below w'.heap.size w' (w'.alloc o) ∧ Below w.heap.size w (w'.alloc o)) := fun o => ⟨hb o, hw.trans ((hb o).mono hw.size)⟩
  clear hb
  cases o with
  | true =>
    go_enter Tryz.func207, Tryz.ntmps207
    go_wp2_with fail
    go_ret
    exact ⟨by simp [nulB], (HB.out _).1⟩
  | false =>
    rcases ht with ⟨rfl, rfl⟩ | ⟨rfl, rfl⟩ | ⟨rfl, rfl⟩ | ⟨rfl, rfl⟩
    all_goals go_enter Tryz.func207, Tryz.ntmps207
    all_goals go_wp2_with fail
    all_goals refine (HC.out _ (HB.out _).2).mono ?_
    all_goals rintro e w1 ⟨rfl, hb1⟩
    all_goals go_wp2_with fail
    all_goals go_ret
    all_goals exact ⟨by simp [nulB], (HB.out _).1.trans (hb1.mono (HB.out _).1.size)⟩
theorem nulS_all : ∀ ts : List Pat, nulS ts = ts.all nulB
  | [] => rfl
  | t :: ts => by simp [nulS, nulS_all ts]
theorem nulA_any : ∀ os : List (List Pat), nulA os = os.any nulS
  | [] => rfl
  | t :: ts => by simp [nulA, nulA_any ts]
def NulQ (w : World) (ts : List Pat) (u : Value) : Prop := ∃ (a : Option Addr) (n c : Nat), u = .slice a n c ∧ Hid (∀ w', Below w.heap.size w w' → Calls Tryz.prog 159 #[.agg #[.slice a n c]] w' fun e w'' => e = .returned (.bool (nulS ts)) ∧ Below w'.heap.size w' w'')
set_option maxHeartbeats 4000000 in
theorem nul_seq {w : World} {lo : Nat → Prop} {ts : List Pat} {u : Value} (h : SeqIs (fun t v => wtP t ≤ 500 → NulV w t v) w lo ts u) (hwt : wtS ts ≤ 500) : NulQ w ts u := by
  rcases h with ⟨rfl, rfl⟩ | ⟨g, cp, us, rfl, hul, hV, hN⟩
  · refine ⟨none, 0, 0, rfl, fun w' hw => ?_⟩
    go_enter Tryz.func159, Tryz.ntmps159
    go_wp2_with fail
    go_loopw [8] (fun iv wr => iv = .int .i64 0 ∧ Hid (Below w'.heap.size w' wr)) (fun _ _ => 0)
    case atStart => exact ⟨rfl, (Below.refl _ _).alloc (Nat.le_refl _) _⟩
    case round =>
      obtain ⟨rfl, HB⟩ := hrel
      go_wp2_with fail
      go_ret
      exact ⟨rfl, HB.out⟩
  · refine ⟨_, _, _, rfl, fun w' hw => ?_⟩
    obtain ⟨n, hn⟩ : ∃ n, n = ts.length := ⟨_, rfl⟩
    have hn5 : n ≤ 500 := by have := wtS_len ts; omega
    have HH : Hid (n = ts.length ∧ us.length = n ∧ ValsAt w lo g us ∧ Below w.heap.size w w' ∧ (∀ (i : Nat) x t, us[i]? = some x → ts[i]? = some t → NulV w t x)) := ⟨hn, by rw [hn]; exact hul, hV, hw, fun i x t hx ht => hN i x t hx ht (Nat.le_trans (wtS_mem (List.mem_of_getElem? ht)) hwt)⟩
    rw [← hn]
    clear hul hV hN hw hn
    go_enter Tryz.func159, Tryz.ntmps159
    go_wp2_with fail
    go_loopw [8] (fun iv wr => ∃ k : Nat, k ≤ n ∧ iv = .int .i64 k ∧ Hid (Below w'.heap.size w' wr ∧ (ts.take k).all nulB = true)) (fun iv _ => n - (intOf iv).toNat)
    case atStart => exact ⟨0, Nat.zero_le _, rfl, (Below.refl _ _).alloc (Nat.le_refl _) _, by simp⟩
    case round =>
      obtain ⟨k, hk, rfl, HB⟩ := hrel
      by_cases hlt : k < n
      · have zk : (k : Int) < (n : Int) := by omega
        obtain ⟨x, hx⟩ : ∃ x, us[k]? = some x := ⟨_, List.getElem?_eq_getElem (by rw [HH.out.2.1]; exact hlt)⟩
        obtain ⟨t, ht⟩ : ∃ t, ts[k]? = some t := ⟨_, List.getElem?_eq_getElem (by rw [← HH.out.1]; exact hlt)⟩
        obtain ⟨T, c, f, rfl, hT, HC⟩ := HH.out.2.2.2.2 k x t hx ht
        have hbw : Below w.heap.size w wr := HH.out.2.2.2.1.trans (HB.out.1.mono HH.out.2.2.2.1.size)
        have c0 : wr.cell? ⟨g, k, none⟩ = some (.iface T (.agg c)) := by rw [hbw.cell (p := ⟨g, k, none⟩) HH.out.2.2.1.lt]; exact HH.out.2.2.1.val k _ hx
        have HX : Hid (ts[k]? = some t ∧ ∀ w2, Below wr.heap.size wr w2 → Below w.heap.size w w2) := ⟨ht, fun w2 h2 => hbw.trans (h2.mono hbw.size)⟩
        clear hx ht hbw
        cases hnb : nulB t with
        | true =>
          have HN : Hid ((ts.take (k + 1)).all nulB = true) := by
            show _ = _
            rw [List.take_add_one, HX.out.1, List.all_append, HB.out.2]
            simp [hnb]
          rw [hnb] at HC
          clear hnb
          rcases hT with ⟨rfl, rfl⟩ | ⟨rfl, rfl⟩ | ⟨rfl, rfl⟩ | ⟨rfl, rfl⟩
          all_goals go_wp2_with fail
          all_goals refine (HC.out _ (HX.out.2 _ (Below.refl _ _))).mono ?_
          all_goals rintro e w1 ⟨rfl, hb1⟩
          all_goals go_wp2_with fail
          all_goals refine ⟨⟨k + 1, by omega, by go_num, HB.out.1.trans (hb1.mono HB.out.1.size), HN.out⟩, ?_⟩
          all_goals go_light
          all_goals simp [intOf]
          all_goals omega
        | false =>
          have HN : Hid (nulS ts = false) := by
            show _ = _
            rw [nulS_all, List.all_eq_false]
            exact ⟨t, List.mem_of_getElem? HX.out.1, by simp [hnb]⟩
          rw [hnb] at HC
          clear hnb
          rcases hT with ⟨rfl, rfl⟩ | ⟨rfl, rfl⟩ | ⟨rfl, rfl⟩ | ⟨rfl, rfl⟩
          all_goals go_wp2_with fail
          all_goals refine (HC.out _ (HX.out.2 _ (Below.refl _ _))).mono ?_
          all_goals rintro e w1 ⟨rfl, hb1⟩
          all_goals go_wp2_with fail
          all_goals go_ret
          all_goals exact ⟨by rw [HN.out]; rfl, HB.out.1.trans (hb1.mono HB.out.1.size)⟩
      · obtain rfl : k = n := by omega
        have zk : ¬ (k : Int) < (k : Int) := by omega
        go_wp2_with fail
        go_ret
        refine ⟨?_, HB.out.1⟩
        have := HB.out.2
        rw [HH.out.1, List.take_length] at this
        rw [nulS_all, this]
        rfl
set_option maxHeartbeats 4000000 in
theorem nul_alt {w : World} {lo : Nat → Prop} {os : List (List Pat)} {u : Value} (h : AltIs (fun t v => wtP t ≤ 500 → NulV w t v) w lo os u) (hwt : wtA os ≤ 500) : ∃ (a : Option Addr) (n c : Nat), u = .slice a n c ∧ Hid (∀ w', Below w.heap.size w w' → Calls Tryz.prog 136 #[.agg #[.slice a n c]] w' fun e w'' => e = .returned (.bool (nulA os)) ∧ Below w'.heap.size w' w'') := by
  obtain ⟨g, cp, us, rfl, hul, hV, hN⟩ := h
  refine ⟨_, _, _, rfl, fun w' hw => ?_⟩
  obtain ⟨n, hn⟩ : ∃ n, n = os.length := ⟨_, rfl⟩
  have hn5 : n ≤ 500 := by have := wtA_len os; omega
  have HH : Hid (n = os.length ∧ us.length = n ∧ ValsAt w lo g us ∧ Below w.heap.size w w' ∧ (∀ (i : Nat) x t, us[i]? = some x → os[i]? = some t → NulQ w t x)) := ⟨hn, by rw [hn]; exact hul, hV, hw, fun i x t hx ht => nul_seq (hN i x t hx ht) (Nat.le_trans (wtA_mem (List.mem_of_getElem? ht)) hwt)⟩
  rw [← hn]
  clear hul hV hN hw hn
  go_enter Tryz.func136, Tryz.ntmps136
  go_wp2_with fail
  go_loopw [8] (fun iv wr => ∃ k : Nat, k ≤ n ∧ iv = .int .i64 k ∧ Hid (Below w'.heap.size w' wr ∧ (os.take k).any nulS = false)) (fun iv _ => n - (intOf iv).toNat)
  case atStart => exact ⟨0, Nat.zero_le _, rfl, (Below.refl _ _).alloc (Nat.le_refl _) _, by simp⟩
  case round =>
    obtain ⟨k, hk, rfl, HB⟩ := hrel
    by_cases hlt : k < n
    · have zk : (k : Int) < (n : Int) := by omega
      obtain ⟨x, hx⟩ : ∃ x, us[k]? = some x := ⟨_, List.getElem?_eq_getElem (by rw [HH.out.2.1]; exact hlt)⟩
      obtain ⟨t, ht⟩ : ∃ t, os[k]? = some t := ⟨_, List.getElem?_eq_getElem (by rw [← HH.out.1]; exact hlt)⟩
      obtain ⟨sa, sn, sc, rfl, HC⟩ := HH.out.2.2.2.2 k x t hx ht
      have hbw : Below w.heap.size w wr := HH.out.2.2.2.1.trans (HB.out.1.mono HH.out.2.2.2.1.size)
      have c0 : wr.cell? ⟨g, k, none⟩ = some (.slice sa sn sc) := by rw [hbw.cell (p := ⟨g, k, none⟩) HH.out.2.2.1.lt]; exact HH.out.2.2.1.val k _ hx
      have HX : Hid (os[k]? = some t ∧ ∀ w2, Below wr.heap.size wr w2 → Below w.heap.size w w2) := ⟨ht, fun w2 h2 => hbw.trans (h2.mono hbw.size)⟩
      have HAl : Hid (∀ o : Obj, Below wr.heap.size wr (wr.alloc o)) := fun o => (Below.refl _ _).alloc (Nat.le_refl _) _
      clear hx ht hbw
      cases hnb : nulS t with
      | false =>
        have HN : Hid ((os.take (k + 1)).any nulS = false) := by
          show _ = _
          rw [List.take_add_one, HX.out.1, List.any_append, HB.out.2]
          simp [hnb]
        rw [hnb] at HC
        clear hnb
        go_wp2_with fail
        refine (HC.out _ (HX.out.2 _ (HAl.out _))).mono ?_
        rintro e w1 ⟨rfl, hb1⟩
        have HB1 : Hid (Below w'.heap.size w' w1) := HB.out.1.trans (((HAl.out _).trans (hb1.mono (HAl.out _).size)).mono HB.out.1.size)
        clear hb1
        go_wp2_with fail
        refine ⟨⟨k + 1, by omega, by go_num, HB1.out, HN.out⟩, ?_⟩
        go_light
        simp [intOf]
        omega
      | true =>
        have HN : Hid (nulA os = true) := by
          show _ = _
          rw [nulA_any, List.any_eq_true]
          exact ⟨t, List.mem_of_getElem? HX.out.1, hnb⟩
        rw [hnb] at HC
        clear hnb
        go_wp2_with fail
        refine (HC.out _ (HX.out.2 _ (HAl.out _))).mono ?_
        rintro e w1 ⟨rfl, hb1⟩
        have HB1 : Hid (Below w'.heap.size w' w1) := HB.out.1.trans (((HAl.out _).trans (hb1.mono (HAl.out _).size)).mono HB.out.1.size)
        clear hb1
        go_wp2_with fail
        go_ret
        exact ⟨by rw [HN.out]; rfl, HB1.out⟩
    · obtain rfl : k = n := by omega
      have zk : ¬ (k : Int) < (k : Int) := by omega
      go_wp2_with fail
      go_ret
      refine ⟨?_, HB.out.1⟩
      have := HB.out.2
      rw [HH.out.1, List.take_length] at this
      rw [nulA_any, this]
      rfl
theorem nul_all : ∀ (n : Nat) {w : World} {lo : Nat → Prop} {t : Pat} {v : Value}, NodeIs n w lo t v → wtP t ≤ 500 → NulV w t v
  | 0, _, _, _, _, h, _ => h.elim
  | n + 1, w, lo, .byte b, v, h, _ => by rw [show v = byteV b from h]; exact nul_byte w b
  | n + 1, w, lo, .cls f, v, h, _ => by rw [show v = clsV f from h]; exact nul_cls w f
  | n + 1, w, lo, .rep t o r, v, ⟨u, h1, h2⟩, hw => by rw [h1]; exact nul_rep (nul_all n h2 (by simpa only [wtP] using hw)) o r
  | n + 1, w, lo, .alt os, v, ⟨u, h1, h2⟩, hw => by
    obtain ⟨a, m, c, rfl, HC⟩ := nul_alt (h2.mono (M := fun t v => wtP t ≤ 500 → NulV w t v) (fun t v q => nul_all n q) (fun _ _ q => q)) (by simp only [wtP] at hw; omega)
    exact ⟨_, _, _, h1, .inr (.inr (.inr ⟨rfl, rfl⟩)), fun w' hw => by have := HC.out w' hw; simpa only [nulB] using this⟩
end Go.Proofs.YtkidabedcgngcaaGreatDoor

