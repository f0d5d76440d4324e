import Derived.Deep.QuietTactic
import Derived.BigQuiet
import Derived.Deep.AppendLies
import Derived.Maps.AppendAt
import Derived.Test.YtnncedndlhfdkabDoorPkAC
import Derived.Test.YtnncedndlhfdkabDoorPkAA
import Derived.Test.YtnncedndlhfdkabDoorPkAB
/-
  spec.l2Index: the walk.
-/
namespace Go.Proofs.YtnncedndlhfdkabDoor
open Go.ChangeShapes Go.WideShapes Go.ChangeAt Go.RowKit Go.Deep
set_option linter.unusedVariables false
set_option linter.unusedSimpArgs false
set_option maxRecDepth 100000

/-- What l2Index hands back. -/
def IdxPost (w : World) (xs : List UInt8) (r : Ending) (w' : World) : Prop :=
  ∃ (g cp : Nat) (err : Int) (l : List Blk), r = .returned (.tuple #[.int .i64 err, .slice (some ⟨g, 0, none⟩) l.length cp]) ∧ (err, l) = idxM xs ∧ OwnI w' w.heap.size g cp l ∧ Below w.heap.size w w'
theorem bys_sub {w : World} {b off : Nat} {xs : List UInt8} (h : BysAt w b off xs) (k m : Nat) : BysAt w b (off + k) ((xs.drop k).take m) := by
  intro i x hx
  by_cases hi : i < m
  · rw [List.getElem?_take_of_lt hi, List.getElem?_drop] at hx
    rw [Nat.add_assoc]
    exact h (k + i) x hx
  · have := (List.getElem?_eq_some_iff.1 hx).1
    simp at this
    omega

/-- The reader's box and the row of blocks. -/
structure IS (w0 : World) (G : Nat) (vs : List Value) (g cp : Nat) (l : List Blk) (wr : World) : Prop where
  box : BoxAt wr w0.heap.size 59 3 G vs
  row : OwnI wr w0.heap.size g cp l
  ne : ¬ G = g
  below : Below w0.heap.size w0 wr
theorem IS.call {w0 : World} {G : Nat} {vs : List Value} {g cp : Nat} {l : List Blk} {wr w1 : World} (h : IS w0 G vs g cp l wr) (hb : Below wr.heap.size wr w1) : IS w0 G vs g cp l w1 :=
  ⟨h.box.below hb, h.row.below hb, h.ne, h.below.trans (hb.mono h.below.size)⟩
theorem IS.set3 {w0 : World} {G : Nat} {vs : List Value} {g cp : Nat} {l : List Blk} {wr : World} (h : IS w0 G vs g cp l wr) (x y z : Value) : IS w0 G [x, y, z] g cp l (set3 wr G x y z) := by
  have hc : Chg (fun k => k = G) wr (Go.Proofs.YtnncedndlhfdkabDoor.set3 wr G x y z) := ((Chg.of_set wr G 0 x (S := fun q => q = G) rfl).trans (Chg.of_set _ G 1 y (S := fun q => q = G) rfl)).trans (Chg.of_set _ G 2 z (S := fun q => q = G) rfl)
  exact ⟨h.box.set3 x y z, h.row.chg hc (fun q => h.ne q.symm), h.ne, below_set3 h.below h.box.lt.1 x y z⟩
theorem IS.app {w0 : World} {G : Nat} {vs : List Value} {g cp g' cp' : Nat} {l l' : List Blk} {wr w1 : World} (h : IS w0 G vs g cp l wr) (hO : OwnI w1 w0.heap.size g' cp' l') (hgr : wr.grownBy w1 (some g)) (hat : g' = g ∨ g' = wr.heap.size) : IS w0 G vs g' cp' l' w1 := by
  have hi := h.box.lt
  have hn := h.ne
  exact ⟨h.box.chg (Chg.of_grown hgr (S := fun k => k = g) (fun k hk => by cases hk; rfl)) hn, hO, by omega, h.below.grown hgr h.below.size (fun k hk => by cases hk; exact h.row.lt.1)⟩

set_option maxHeartbeats 3000000 in
theorem l2Index_core (b off cap : Nat) (xs : List UInt8) (w : World) (hx : BysAt w b off xs) (hb : b < w.heap.size) (hlen : xs.length ≤ 2 ^ 30) (hcap : xs.length ≤ cap) (hcm : cap ≤ maxLen) :
    Calls Tryd.prog 9 #[.slice (some ⟨b, off, none⟩) xs.length cap] w fun r w' => IdxPost w xs r w' := by
  obtain ⟨W1, hW1⟩ : ∃ W1 : World, W1 = w.alloc (Obj.cells #[] 37) := ⟨_, rfl⟩
  have hb1 : Below w.heap.size w W1 := by rw [hW1]; exact (Below.refl _ _).alloc (Nat.le_refl _) _
  have z1 : W1.heap.size = w.heap.size + 1 := by rw [hW1]; simp
  have HO1 : Hid (OwnI W1 w.heap.size w.heap.size 0 []) := by rw [hW1]; exact ownI_new w (Nat.le_refl _)
  have HX0 : Hid (BysAt w b off xs) := hx
  have HX1 : Hid (BysAt W1 b off xs) := hx.below hb1 hb
  obtain ⟨N, hN⟩ : ∃ N : Nat, xs.length = N := ⟨_, rfl⟩
  have HN : Hid (xs.length = N) := hN
  have HCm : Hid (cap ≤ maxLen) := hcm
  rw [hN] at hlen hcap ⊢
  clear hx hN hcm
  by_cases h13 : N < 13
  · have HI : Hid (idxM xs = (1, [])) := by show idxM xs = (1, []); unfold idxM; rw [if_pos (.inl (by rw [HN.out]; exact h13))]
    have z13 : (N : Int) < 13 := by omega
    go_enter Tryd.func9, Tryd.ntmps9
    go_wp2_with fail
    rw [← hW1]
    go_ret2
    exact ⟨w.heap.size, 0, 1, [], rfl, HI.out.symm, HO1.out, hb1⟩
  have z13 : ¬ (N : Int) < 13 := by omega
  have hcv := Lib.run_convert_window (P := Tryd.prog) W1 22 5 9 Tryd.underlying22 Tryd.underlying5 Tryd.underlying9 b off ⟨xs.toArray⟩ (bytes_of_bys HX1.out) 0 4 cap (by show 0 + 4 ≤ xs.toArray.size; simp; rw [HN.out]; omega)
  rw [Nat.add_zero, Nat.zero_add] at hcv
  obtain ⟨st, hst⟩ : ∃ st : ByteArray, st = (⟨xs.toArray⟩ : ByteArray).extract 0 4 := ⟨_, rfl⟩
  rw [← hst] at hcv
  have HSt : Hid (bl st = xs.take 4) := by
    show bl st = xs.take 4
    rw [hst]; show ((⟨xs.toArray⟩ : ByteArray).extract 0 4).data.toList = _; rw [Lib.extract_data]; simp
  clear hst
  have z4 : (4 : Int) ≤ (cap : Int) := by omega
  by_cases h4 : ¬ xs.take 4 = headB
  · have HI : Hid (idxM xs = (1, [])) := by show idxM xs = (1, []); unfold idxM; rw [if_pos (.inr h4)]
    have hne : (st.toList == (⟨#[82, 85, 78, 49]⟩ : ByteArray).toList) = false := by
      rw [beq_eq_false_iff_ne]
      intro q
      apply h4
      rw [← HSt.out, toList_inj q]; rfl
    have hl : (⟨#[82, 85, 78, 49]⟩ : ByteArray).toList = [82, 85, 78, 49] := by first | rfl | decide | simp [go_sem]
    rw [hl] at hne
    go_enter Tryd.func9, Tryd.ntmps9
    go_upto_region 3 with fail
    rw [← hW1]
    clear hW1
    go_wp2_with fail
    go_ret2
    exact ⟨w.heap.size, 0, 1, [], rfl, HI.out.symm, HO1.out, hb1⟩
  replace h4 := Decidable.not_not.1 h4
  have hst : st = ⟨#[82, 85, 78, 49]⟩ := by
    have := HSt.out
    rw [h4] at this
    apply ByteArray.ext
    apply Array.toList_inj.1
    exact this
  subst hst
  go_enter Tryd.func9, Tryd.ntmps9
  go_upto_region 3 with fail
  rw [← hW1]
  clear hW1
  go_upto_region 5 with fail
  clear hcv z4 HSt h13
  have HH : Hid (¬ (xs.length < 13 ∨ xs.take 4 ≠ headB)) := by rw [HN.out]; intro q; rcases q with q | q; omega; exact q h4
  clear h4
  have hN13 : 13 ≤ N := by omega
  go_wp2_with fail
  have hfx := l2GetFixed_core b off cap xs (N - 4) W1 HX1.out (by rw [HN.out]; exact hlen) (by rw [HN.out]; omega)
  rw [HN.out, show ((N - 4 : Nat) : Int) = (N : Int) - 4 by omega] at hfx
  refine hfx.mono ?_
  rintro e w2 ⟨rfl, hb2⟩
  obtain ⟨m, hm⟩ : ∃ m : Nat, fixAt xs (N - 4) = m := ⟨_, rfl⟩
  have hm32 : m < 4294967296 := by rw [← hm]; exact fixAt_lt _ _
  have HM : Hid (fixAt xs (xs.length - 4) = m) := by rw [HN.out]; exact hm
  rw [hm]
  have s2 := hb2.size
  have k2 : Below w.heap.size w w2 := hb1.trans (hb2.mono (by omega))
  have HO2 : Hid (OwnI w2 w.heap.size w.heap.size 0 []) := HO1.out.below hb2
  have HX2 : Hid (BysAt w2 b off xs) := HX1.out.below hb2 (by omega)
  clear hfx hm hb2 HO1 HX1
  by_cases hsm : N < m + 12
  · have z5 : (N : Int) - 8 - (m : Int) < 4 := by omega
    have HI : Hid (idxM xs = (1, [])) := by show idxM xs = (1, []); unfold idxM; rw [if_neg HH.out, HM.out, if_pos (by rw [HN.out]; exact hsm)]
    go_wp2_with fail
    go_ret2
    exact ⟨w.heap.size, 0, 1, [], rfl, HI.out.symm, HO2.out, k2⟩
  have z5 : ¬ (N : Int) - 8 - (m : Int) < 4 := by omega
  obtain ⟨lim, hlim⟩ : ∃ lim : Nat, lim = N - 8 - m := ⟨_, rfl⟩
  have hlm : (N : Int) - 8 - (m : Int) = (lim : Int) := by omega
  have hl4 : 4 ≤ lim := by omega
  have hlN : lim + m + 8 = N := by omega
  obtain ⟨N8, hN8⟩ : ∃ N8 : Nat, N8 = lim + m := ⟨_, rfl⟩
  have hN8i : (N : Int) - 8 = (N8 : Int) := by omega
  have z6 : (lim : Int) ≤ (N8 : Int) := by omega
  have z7 : (N8 : Int) ≤ (cap : Int) := by omega
  have z8 : ¬ lim = cap := by omega
  have HL : Hid (lim = xs.length - 8 - m) := by rw [HN.out]; exact hlim
  obtain ⟨ix, hix⟩ : ∃ ix, ix = (xs.drop lim).take m := ⟨_, rfl⟩
  have hixl : ix.length = m := by rw [hix, List.length_take, List.length_drop, HN.out]; omega
  have HIx : Hid (ix = (xs.drop lim).take m ∧ ix.length = m) := ⟨hix, hixl⟩
  have HBix : Hid (∀ w', BysAt w' b off xs → BysAt w' b (off + lim) ix) := fun w' h => by rw [hix]; exact bys_sub h lim m
  clear hlim hix
  go_upto_region 9 with fail
  go_wp2_with fail
  have hcr := specCrc_core b (off + lim) (cap - lim) ix w2 (HBix.out w2 HX2.out) (by rw [HIx.out.2]; unfold maxLen; omega)
  rw [HIx.out.2] at hcr
  refine hcr.mono ?_
  rintro e w3 ⟨rfl, hw3⟩
  obtain ⟨cx, hcx⟩ : ∃ c : Nat, (crc ix).toNat = c := ⟨_, rfl⟩
  have hcx2 : cx < 4294967296 := by rw [← hcx]; exact (crc ix).isLt
  have HCx : Hid ((crc ix).toNat = cx) := hcx
  rw [hw3, hcx]
  clear hw3 hcr w3 hcx
  go_wp2_with fail
  have hfx := l2GetFixed_core b off cap xs N8 w2 HX2.out (by rw [HN.out]; exact hlen) (by rw [HN.out]; omega)
  rw [HN.out] at hfx
  obtain ⟨fx, hfxd⟩ : ∃ c : Nat, fixAt xs N8 = c := ⟨_, rfl⟩
  have hfx2 : fx < 4294967296 := by rw [← hfxd]; exact fixAt_lt _ _
  have HFx : Hid (fixAt xs N8 = fx) := hfxd
  rw [hfxd, show (N8 : Int) = (lim : Int) + (m : Int) by omega] at hfx
  clear hfxd
  refine hfx.mono ?_
  rintro e w3 ⟨rfl, hb3⟩
  have s3 := hb3.size
  have k3 : Below w.heap.size w w3 := k2.trans (hb3.mono (by omega))
  have HO3 : Hid (OwnI w3 w.heap.size w.heap.size 0 []) := HO2.out.below hb3
  have HN8 : Hid (N8 = xs.length - 8) := by rw [HN.out]; show N8 = N - 8; omega
  clear hfx hb3 HO2
  by_cases hsum : ¬ cx = fx
  · have zs : ¬ (cx : Int) = (fx : Int) := by omega
    have HI : Hid (idxM xs = (2, [])) := by
      show idxM xs = (2, [])
      unfold idxM
      rw [if_neg HH.out, HM.out, if_neg (by rw [HN.out]; exact hsm), ← HL.out, ← HIx.out.1, ← HN8.out, HFx.out, HCx.out, if_pos hsum]
    go_wp2_with fail
    go_ret2
    exact ⟨w.heap.size, 0, 2, [], rfl, HI.out.symm, HO3.out, k3⟩
  replace hsum := Decidable.not_not.1 hsum
  subst hsum
  have HIdx : Hid (idxM xs = idxBody N lim ix) := by
    show idxM xs = idxBody N lim ix
    unfold idxM
    rw [if_neg HH.out, HM.out, if_neg (by rw [HN.out]; exact hsm), ← HL.out, ← HIx.out.1, ← HN8.out, HFx.out, HCx.out, if_neg (fun q => q rfl), HN.out]
  obtain ⟨W4, hW4⟩ : ∃ W4 : World, W4 = w3.alloc (Obj.cells #[.slice (some ⟨b, off + lim, none⟩) m (cap - lim), .int .i64 0, .bool false] 59) := ⟨_, rfl⟩
  have hb4 : Below w3.heap.size w3 W4 := by rw [hW4]; exact (Below.refl _ _).alloc (Nat.le_refl _) _
  have z4 : W4.heap.size = w3.heap.size + 1 := by rw [hW4]; simp
  have HS4 : Hid (IS w w3.heap.size [.slice (some ⟨b, off + lim, none⟩) m (cap - lim), .int .i64 0, .bool false] w.heap.size 0 [] W4) := by
    refine ⟨?_, HO3.out.below hb4, by omega, k3.trans (hb4.mono (by omega))⟩
    rw [hW4]; exact boxAt_new w3 _ (by omega) rfl
  clear hb4 HO3
  go_upto_region 13 with fail
  rw [← hW4]
  clear hW4
  clear hN8 hN8i hlm z5 z6 z7 z8 z13 hsm
  obtain ⟨G, hG⟩ : ∃ G : Nat, G = w3.heap.size := ⟨_, rfl⟩
  rw [← hG] at HS4 ⊢
  have hGw : w.heap.size < G := by omega
  obtain ⟨c2, hc2⟩ : ∃ c2 : Nat, c2 = cap - lim := ⟨_, rfl⟩
  have hc2m : m ≤ c2 := by omega
  rw [← hc2] at HS4 ⊢
  have s4 := HS4.out.below.size
  have hbW : b < W4.heap.size := by omega
  clear hG hc2 z4 s3 k3 k2 s2 z1
  have q0 := HS4.out.box.cell (j := 0) rfl
  have q1 := HS4.out.box.cell (j := 1) rfl
  have q2 := HS4.out.box.cell (j := 2) rfl
  have HXw : Hid (∀ w' : World, Below w.heap.size w w' → BysAt w' b (off + lim) ix) := fun w' hb' => HBix.out w' (HX0.out.below hb' hb)
  have hgn := l2GetNum_core b (off + lim) c2 ix 0 false W4 (HXw.out W4 HS4.out.below) hbW (by rw [HIx.out.2]; omega) (Nat.zero_le _)
  rw [HIx.out.2] at hgn
  go_wp2_with fail
  clear q0 q1 q2
  refine hgn.mono ?_
  rintro r w5 ⟨i1, bad1, K, rfl, hGN, hb5⟩
  rw [HIx.out.2]
  have hi1 := hGN.1
  rw [HIx.out.2] at hi1
  have hK := hGN.2.1
  have HGN : Hid (GotNum ix 0 false i1 bad1 K) := hGN
  have HS5 : Hid (IS w G [.slice (some ⟨b, off + lim, none⟩) m c2, .int .i64 0, .bool false] w.heap.size 0 [] w5) := HS4.out.call hb5
  clear hGN hb5 hgn HS4 hbW s4
  have f0 := HS5.out.box.frozen 0
  have f1 := HS5.out.box.frozen 1
  have f2 := HS5.out.box.frozen 2
  have q0 := HS5.out.box.cell (j := 0) rfl
  have q1 := HS5.out.box.cell (j := 1) rfl
  have q2 := HS5.out.box.cell (j := 2) rfl
  obtain ⟨W6, hW6⟩ : ∃ W6 : World, W6 = set3 w5 G (.slice (some ⟨b, off + lim, none⟩) m c2) (.int .i64 (i1 : Int)) (.bool bad1) := ⟨_, rfl⟩
  have HS6 : Hid (IS w G [.slice (some ⟨b, off + lim, none⟩) m c2, .int .i64 (i1 : Int), .bool bad1] w.heap.size 0 [] W6) := by rw [hW6]; exact HS5.out.set3 _ _ _
  unfold set3 at hW6
  go_upto_region 14 with fail
  rw [← hW6]
  clear hW6 f0 f1 f2 q0 q1 q2 HS5
  have q2 := HS6.out.box.cell (j := 2) rfl
  by_cases hbd : bad1 = true ∨ 10000 < K
  · have HI : Hid (idxM xs = (1, [])) := by
      show idxM xs = (1, [])
      rw [HIdx.out]
      unfold idxBody
      cases bad1 with
      | true =>
        have := gotNum_none HGN.out
        rw [List.drop_zero] at this
        rw [this]
      | false =>
        have := (gotNum_bad HGN.out).2
        rw [List.drop_zero] at this
        rw [this]
        simp only []
        rw [if_pos (by rcases hbd with h | h; cases h; exact h)]
    cases bad1 with
    | true =>
      go_wp2_with fail
      go_ret2
      exact ⟨w.heap.size, 0, 1, [], rfl, HI.out.symm, HS6.out.row, HS6.out.below⟩
    | false =>
      have zk : (10000 : Int) < (K : Int) := by
        rcases hbd with h | h
        · cases h
        · omega
      go_wp2_with fail
      go_ret2
      exact ⟨w.heap.size, 0, 1, [], rfl, HI.out.symm, HS6.out.row, HS6.out.below⟩
  have hb1f : bad1 = false := by
    cases bad1 with
    | true => exact absurd (.inl rfl) hbd
    | false => rfl
  subst hb1f
  have hK2 : K ≤ 10000 := by
    rcases Nat.lt_or_ge 10000 K with h | h
    · exact absurd (.inr h) hbd
    · exact h
  have zk : ¬ (10000 : Int) < (K : Int) := by omega
  obtain ⟨t0, ht0⟩ : ∃ t0, t0 = ix.drop i1 := ⟨_, rfl⟩
  have HB0 : Hid (idxM xs = idxEnd lim (getBlks N lim K 4 t0)) := by
    show idxM xs = _
    rw [HIdx.out, ht0]
    unfold idxBody
    have := (gotNum_bad HGN.out).2
    rw [List.drop_zero] at this
    rw [this]
    simp only []
    rw [if_neg (by omega)]
  have HT0 : Hid (t0 = ix.drop i1) := ht0
  clear hbd HGN ht0 HIdx hK
  go_upto_region 18 with fail
  clear q2 zk
  have HX : Hid (ix.length = m) := HIx.out.2
  go_loopw [4, 10, 11] (fun o pl kk wr => ∃ (k p i g cp : Nat) (l : List Blk), o = .slice (some ⟨g, 0, none⟩) l.length cp ∧ pl = .int .i64 (p : Int) ∧ kk = .int .u64 (k : Int) ∧ BlksTo N lim K t0 k l p (ix.drop i) ∧ i ≤ m ∧ 4 ≤ p ∧ p ≤ lim ∧ IS w G [.slice (some ⟨b, off + lim, none⟩) m c2, .int .i64 (i : Int), .bool false] g cp l wr) (fun _ _ kk _ => K - (intOf kk).toNat)
  case atStart => exact ⟨0, 4, i1, w.heap.size, 0, [], rfl, rfl, rfl, by rw [← HT0.out]; exact blksTo_zero _ _ _ _, hi1, Nat.le_refl _, hl4, HS6.out⟩
  case round =>
    clear HS6
    obtain ⟨k, p, i, g, cp, l, rfl, rfl, rfl, hBT, hi, hp4, hpl, hIS⟩ := hrel
    have hkK : k ≤ K := hBT.1
    have hlk : l.length ≤ 10000 := by have := hBT.2.1; omega
    have HBT : Hid (BlksTo N lim K t0 k l p (ix.drop i)) := hBT
    have HS : Hid (IS w G [.slice (some ⟨b, off + lim, none⟩) m c2, .int .i64 (i : Int), .bool false] g cp l wr) := hIS
    clear hBT hIS
    by_cases hlt : k < K
    · have zk : (k : Int) < (K : Int) := by omega
      -- the size
      have r0 := HS.out.box.cell (j := 0) rfl
      have r1 := HS.out.box.cell (j := 1) rfl
      have r2 := HS.out.box.cell (j := 2) rfl
      have sA := HS.out.below.size
      have hgn := l2GetNum_core b (off + lim) c2 ix i false wr (HXw.out wr HS.out.below) (by omega) (by rw [HX.out]; omega) (by rw [HX.out]; exact hi)
      rw [HX.out] at hgn
      go_wp2_with fail
      clear r0 r1 r2
      refine hgn.mono ?_
      rintro r wA ⟨iA, bA, size, rfl, hGA, hbA⟩
      rw [HX.out]
      have hiA := hGA.1
      rw [HX.out] at hiA
      have hszA := hGA.2.1
      have HGA : Hid (GotNum ix i false iA bA size) := hGA
      have HSA : Hid (IS w G [.slice (some ⟨b, off + lim, none⟩) m c2, .int .i64 (i : Int), .bool false] g cp l wA) := HS.out.call hbA
      clear hGA hbA hgn HS sA
      have f0 := HSA.out.box.frozen 0
      have f1 := HSA.out.box.frozen 1
      have f2 := HSA.out.box.frozen 2
      have r0 := HSA.out.box.cell (j := 0) rfl
      have r1 := HSA.out.box.cell (j := 1) rfl
      have r2 := HSA.out.box.cell (j := 2) rfl
      obtain ⟨WA, hWA⟩ : ∃ WA : World, WA = set3 wA G (.slice (some ⟨b, off + lim, none⟩) m c2) (.int .i64 (iA : Int)) (.bool bA) := ⟨_, rfl⟩
      have HTA : Hid (IS w G [.slice (some ⟨b, off + lim, none⟩) m c2, .int .i64 (iA : Int), .bool bA] g cp l WA) := by rw [hWA]; exact HSA.out.set3 _ _ _
      unfold set3 at hWA
      go_upto_region 24 with fail
      rw [← hWA]
      clear hWA f0 f1 f2 r0 r1 r2 HSA
      -- the count
      have r0 := HTA.out.box.cell (j := 0) rfl
      have r1 := HTA.out.box.cell (j := 1) rfl
      have r2 := HTA.out.box.cell (j := 2) rfl
      have sB := HTA.out.below.size
      have hgn := l2GetNum_core b (off + lim) c2 ix iA bA WA (HXw.out WA HTA.out.below) (by omega) (by rw [HX.out]; omega) (by rw [HX.out]; exact hiA)
      rw [HX.out] at hgn
      go_wp2_with fail
      clear r0 r1 r2
      refine hgn.mono ?_
      rintro r wB ⟨iB, bB, count, rfl, hGB, hbB⟩
      rw [HX.out]
      have hiB := hGB.1
      rw [HX.out] at hiB
      have hszB := hGB.2.1
      have HGB : Hid (GotNum ix iA bA iB bB count) := hGB
      have HSB : Hid (IS w G [.slice (some ⟨b, off + lim, none⟩) m c2, .int .i64 (iA : Int), .bool bA] g cp l wB) := HTA.out.call hbB
      clear hGB hbB hgn HTA sB
      have f0 := HSB.out.box.frozen 0
      have f1 := HSB.out.box.frozen 1
      have f2 := HSB.out.box.frozen 2
      have r0 := HSB.out.box.cell (j := 0) rfl
      have r1 := HSB.out.box.cell (j := 1) rfl
      have r2 := HSB.out.box.cell (j := 2) rfl
      obtain ⟨WB, hWB⟩ : ∃ WB : World, WB = set3 wB G (.slice (some ⟨b, off + lim, none⟩) m c2) (.int .i64 (iB : Int)) (.bool bB) := ⟨_, rfl⟩
      have HTB : Hid (IS w G [.slice (some ⟨b, off + lim, none⟩) m c2, .int .i64 (iB : Int), .bool bB] g cp l WB) := by rw [hWB]; exact HSB.out.set3 _ _ _
      unfold set3 at hWB
      go_upto_region 25 with fail
      rw [← hWB]
      clear hWB f0 f1 f2 r0 r1 r2 HSB
      -- the row
      have r0 := HTB.out.box.cell (j := 0) rfl
      have r1 := HTB.out.box.cell (j := 1) rfl
      have r2 := HTB.out.box.cell (j := 2) rfl
      have sC := HTB.out.below.size
      have hgn := l2GetStr_core b (off + lim) c2 ix iB bB WB (HXw.out WB HTB.out.below) (by omega) (by rw [HX.out]; omega) (by rw [HX.out]; exact hc2m) (by rw [HX.out]; exact hiB)
      rw [HX.out] at hgn
      go_wp2_with fail
      clear r0 r1 r2
      refine hgn.mono ?_
      rintro r wC ⟨iC, bC, row, rfl, hGC, hbC⟩
      rw [HX.out]
      have hiC := hGC.1
      rw [HX.out] at hiC
      have HGC : Hid (GotStr ix iB bB iC bC row) := hGC
      have HSC : Hid (IS w G [.slice (some ⟨b, off + lim, none⟩) m c2, .int .i64 (iB : Int), .bool bB] g cp l wC) := HTB.out.call hbC
      clear hGC hbC hgn HTB sC
      have f0 := HSC.out.box.frozen 0
      have f1 := HSC.out.box.frozen 1
      have f2 := HSC.out.box.frozen 2
      have r0 := HSC.out.box.cell (j := 0) rfl
      have r1 := HSC.out.box.cell (j := 1) rfl
      have r2 := HSC.out.box.cell (j := 2) rfl
      obtain ⟨WC, hWC⟩ : ∃ WC : World, WC = set3 wC G (.slice (some ⟨b, off + lim, none⟩) m c2) (.int .i64 (iC : Int)) (.bool bC) := ⟨_, rfl⟩
      have HTC : Hid (IS w G [.slice (some ⟨b, off + lim, none⟩) m c2, .int .i64 (iC : Int), .bool bC] g cp l WC) := by rw [hWC]; exact HSC.out.set3 _ _ _
      unfold set3 at hWC
      go_upto_region 26 with fail
      rw [← hWC]
      clear hWC f0 f1 f2 r0 r1 r2 HSC
      have HOne : Hid ((bC = true → oneBlk N lim p (ix.drop i) = none) ∧ (bC = false → oneBlk N lim p (ix.drop i) = if count < 1 ∨ 1000 < count ∨ N < size ∨ lim < p + size + 4 then none else some (⟨p, p + size, count, row⟩, p + size + 4, ix.drop iC))) := oneBlk_read HGA.out HGB.out HGC.out
      have r2 := HTC.out.box.cell (j := 2) rfl
      go_cut [107] (fun s wx => ∃ c : Bool, s = .bool c ∧ (c = true ↔ bC = true ∨ count < 1 ∨ 1000 < count ∨ N < size) ∧ wx = WC)
      case first =>
        cases bC with
        | true =>
          go_wp2_with fail
          go_meet
          exact ⟨true, rfl, by simp, rfl⟩
        | false =>
          by_cases c1 : count < 1
          · have y1 : (count : Int) < 1 := by omega
            go_wp2_with fail
            go_meet
            exact ⟨true, rfl, by simp [c1], rfl⟩
          · have y1 : ¬ (count : Int) < 1 := by omega
            by_cases c2 : 1000 < count
            · have y2 : (1000 : Int) < (count : Int) := by omega
              go_wp2_with fail
              go_meet
              exact ⟨true, rfl, by simp [c2], rfl⟩
            · have y2 : ¬ (1000 : Int) < (count : Int) := by omega
              by_cases c3 : N < size
              · have y3 : (N : Int) < (size : Int) := by omega
                go_wp2_with fail
                go_meet
                exact ⟨true, rfl, by simp [c3], rfl⟩
              · have y3 : ¬ (N : Int) < (size : Int) := by omega
                go_wp2_with fail
                go_meet
                exact ⟨false, rfl, by simp; omega, rfl⟩
      case rest =>
      obtain ⟨c, rfl, hc, hwc⟩ := hcut
      rw [hwc]
      clear hwc wc r2
      cases c with
      | true =>
        have HI : Hid (idxM xs = (1, [])) := by
          show idxM xs = (1, [])
          have h1 : oneBlk N lim p (ix.drop i) = none := by
            cases bC with
            | true => exact HOne.out.1 rfl
            | false =>
              rw [HOne.out.2 rfl, if_pos]
              rcases hc.1 rfl with h | h | h | h
              · cases h
              · exact .inl h
              · exact .inr (.inl h)
              · exact .inr (.inr (.inl h))
          rw [HB0.out, HBT.out.stop hlt h1]; rfl
        have HW : Hid (OwnI (WC.alloc (Obj.cells #[] 37)) w.heap.size WC.heap.size 0 [] ∧ Below w.heap.size w (WC.alloc (Obj.cells #[] 37))) := ⟨ownI_new WC HTC.out.below.size, HTC.out.below.alloc HTC.out.below.size _⟩
        clear hc
        go_wp2_with fail
        go_ret2
        exact ⟨WC.heap.size, 0, 1, [], rfl, HI.out.symm, HW.out.1, HW.out.2⟩
      | false =>
        have hcf : ¬ (bC = true ∨ count < 1 ∨ 1000 < count ∨ N < size) := fun q => by have := hc.2 q; cases this
        have hbC : bC = false := by
          cases bC with
          | true => exact absurd (.inl rfl) hcf
          | false => rfl
        subst hbC
        have HOne2 : Hid (oneBlk N lim p (ix.drop i) = if count < 1 ∨ 1000 < count ∨ N < size ∨ lim < p + size + 4 then none else some (⟨p, p + size, count, row⟩, p + size + 4, ix.drop iC)) := HOne.out.2 rfl
        clear HOne
        have hc1 : 1 ≤ count ∧ count ≤ 1000 ∧ size ≤ N := by
          refine ⟨?_, ?_, ?_⟩
          · exact Nat.not_lt.1 (fun q => hcf (.inr (.inl q)))
          · exact Nat.not_lt.1 (fun q => hcf (.inr (.inr (.inl q))))
          · exact Nat.not_lt.1 (fun q => hcf (.inr (.inr (.inr q))))
        clear hc hcf
        obtain ⟨e, he⟩ : ∃ e : Blk, e = ⟨p, p + size, count, row⟩ := ⟨_, rfl⟩
        obtain ⟨WD, hWD⟩ : ∃ WD : World, WD = WC.alloc (Obj.cells #[.int .i64 (p : Int), .int .i64 ((p : Int) + (size : Int)), .int .i64 (count : Int), .string row] 37) := ⟨_, rfl⟩
        have hbD : Below WC.heap.size WC WD := by rw [hWD]; exact (Below.refl _ _).alloc (Nat.le_refl _) _
        have HTD : Hid (IS w G [.slice (some ⟨b, off + lim, none⟩) m c2, .int .i64 (iC : Int), .bool false] g cp l WD ∧ ∀ j u, e.four[j]? = some u → WD.cell? ⟨WC.heap.size, j, none⟩ = some u) := by
          refine ⟨HTC.out.call hbD, ?_⟩
          intro j u hu
          rw [he] at hu
          rw [hWD]
          match j, hu with
          | 0, hu => simp at hu; subst hu; simp
          | 1, hu => simp at hu; subst hu; simp
          | 2, hu => simp at hu; subst hu; simp
          | 3, hu => simp at hu; subst hu; simp
        have sD := HTD.out.1.below.size
        have sC2 := HTC.out.below.size
        have He : Hid (e = ⟨p, p + size, count, row⟩) := he
        clear hbD he
        go_wp2_with (at_builtin; rw [← hWD]; refine wpList_append_blk _ rfl _ _ rfl w.heap.size g cp l.length WC.heap.size l e rfl rfl rfl ?hO ?hc ?hl ?hb ?_)
        case hO => first | exact HTD.out.1.row | (rw [← hWD]; exact HTD.out.1.row)
        case hc => first | exact HTD.out.2 | (rw [← hWD]; exact HTD.out.2) | (intro j u hu; rw [He.out] at hu; exact hu)
        case hl => omega
        case hb => first | exact sD | omega
        intro g' cp' wE hOE hgrE hatE
        try rw [← hWD] at hgrE
        have hatE2 : g' = g ∨ g' = WD.heap.size := by
          rcases hatE with h | h
          · exact .inl h
          · right; rw [h, hWD]; simp
        have HTE : Hid (IS w G [.slice (some ⟨b, off + lim, none⟩) m c2, .int .i64 (iC : Int), .bool false] g' cp' (l ++ [e]) wE) := HTD.out.1.app hOE hgrE hatE2
        clear hOE hgrE hatE hatE2 hWD HTD sD HTC sC2
        by_cases hpl2 : lim < p + size + 4
        · have y4 : (lim : Int) < (p : Int) + (size : Int) + 4 := by omega
          have HI : Hid (idxM xs = (1, [])) := by
            show idxM xs = (1, [])
            have h1 : oneBlk N lim p (ix.drop i) = none := by rw [HOne2.out, if_pos (.inr (.inr (.inr hpl2)))]
            rw [HB0.out, HBT.out.stop hlt h1]; rfl
          have HW : Hid (OwnI (wE.alloc (Obj.cells #[] 37)) w.heap.size wE.heap.size 0 [] ∧ Below w.heap.size w (wE.alloc (Obj.cells #[] 37))) := ⟨ownI_new wE HTE.out.below.size, HTE.out.below.alloc HTE.out.below.size _⟩
          go_wp2_with fail
          go_ret2
          exact ⟨wE.heap.size, 0, 1, [], rfl, HI.out.symm, HW.out.1, HW.out.2⟩
        · have y4 : ¬ (lim : Int) < (p : Int) + (size : Int) + 4 := by omega
          have HBE : Hid (BlksTo N lim K t0 (k + 1) (l ++ [e]) (p + size + 4) (ix.drop iC)) := by
            refine HBT.out.more hlt ?_
            rw [HOne2.out, if_neg, He.out]
            rintro (h | h | h | h) <;> omega
          have hle : l.length + 1 = (l ++ [e]).length := by simp
          rw [hle]
          go_wp2_with fail
          go_roundw
          case rel => exact ⟨k + 1, p + size + 4, iC, g', cp', l ++ [e], by simp, by go_num, by go_num, HBE.out, hiC, by omega, by omega, HTE.out⟩
          case measure => simp [intOf]; omega
    · obtain rfl : k = K := by omega
      have hdone := HBT.out.done
      have r0 := HS.out.box.cell (j := 0) rfl
      have r1 := HS.out.box.cell (j := 1) rfl
      have HD : Hid (idxM xs = if ix.drop i ≠ [] ∨ p ≠ lim then (1, []) else (0, l)) := by
        show idxM xs = _
        rw [HB0.out, hdone]; rfl
      have hdr : (ix.drop i = []) ↔ i = m := by
        rw [List.drop_eq_nil_iff, HX.out]
        omega
      clear hdone
      by_cases hend : i = m ∧ p = lim
      · have HI : Hid (idxM xs = (0, l)) := by
          show idxM xs = (0, l)
          rw [HD.out, if_neg]
          rintro (h | h)
          · exact h (hdr.2 hend.1)
          · exact h hend.2
        obtain ⟨rfl, rfl⟩ := hend
        clear hdr HD
        go_wp2_with fail
        go_ret2
        exact ⟨g, cp, 0, l, rfl, HI.out.symm, HS.out.row, HS.out.below⟩
      · have HI : Hid (idxM xs = (1, [])) := by
          show idxM xs = (1, [])
          rw [HD.out, if_pos]
          by_cases hi2 : i = m
          · exact .inr (fun q => hend ⟨hi2, q⟩)
          · exact .inl (fun q => hi2 (hdr.1 q))
        have HW : Hid (OwnI (wr.alloc (Obj.cells #[] 37)) w.heap.size wr.heap.size 0 [] ∧ Below w.heap.size w (wr.alloc (Obj.cells #[] 37))) := ⟨ownI_new wr HS.out.below.size, HS.out.below.alloc HS.out.below.size _⟩
        by_cases hi2 : i = m
        · have y5 : (i : Int) = (m : Int) := by omega
          have y6 : ¬ (p : Int) = (lim : Int) := by omega
          clear hdr HD hend
          subst hi2
          go_wp2_with fail
          go_ret2
          exact ⟨wr.heap.size, 0, 1, [], rfl, HI.out.symm, HW.out.1, HW.out.2⟩
        · have y5 : ¬ (i : Int) = (m : Int) := by omega
          clear hdr HD hend
          go_wp2_with fail
          go_ret2
          exact ⟨wr.heap.size, 0, 1, [], rfl, HI.out.symm, HW.out.1, HW.out.2⟩
end Go.Proofs.YtnncedndlhfdkabDoor

/-
  Ranges by value: the contracts of szRange, toRange, spec.InRange, impl.InRange.
-/
namespace Go.Proofs.YtnncedndlhfdkabDoor
open Go.ChangeShapes Go.WideShapes Go.ChangeAt Go.RowKit Go.Deep

/-- Whether a row is in a range. -/
def inR (lo : ByteArray) (hh : Bool) (hi row : ByteArray) : Bool := !Op.bytesLess row.toList lo.toList && (!hh || Op.bytesLess row.toList hi.toList)

end Go.Proofs.YtnncedndlhfdkabDoor

/-
  The draws: what they may hand back.
-/
namespace Go.Proofs.YtnncedndlhfdkabDoor
open Go.ChangeShapes Go.WideShapes Go.ChangeAt Go.RowKit Go.Deep
set_option linter.unusedVariables false
set_option linter.unusedSimpArgs false
set_option maxRecDepth 100000

/-- The letters that are drawn from. -/
def CodeAt (w : World) (base : Nat) (bv : Value) (n : Nat) : Prop :=
  n ≤ 1048576 ∧ ((∃ a cap, bv = .slice a 0 cap ∧ n = 0) ∨ ∃ b off cap, bv = .slice (some ⟨b, off, none⟩) n cap ∧ b < base ∧ ∀ k, k < n → ∃ x : Int, w.cell? ⟨b, off + k, none⟩ = some (.int .u8 x) ∧ 0 ≤ x ∧ x < 256)
theorem and255 (x : Int) : 0 ≤ bits .and .i64 x 255 ∧ bits .and .i64 x 255 < 256 := by
  have h : (BitVec.ofInt 64 x &&& BitVec.ofInt 64 255).toNat ≤ 255 := by
    rw [BitVec.toNat_and]
    exact Nat.le_trans Nat.and_le_right (by decide)
  have e : bits .and .i64 x 255 = IntKind.i64.wrap ((BitVec.ofInt 64 x &&& BitVec.ofInt 64 255).toNat : Int) := rfl
  rw [e, IntKind.wrap_i64]
  omega
theorem CodeAt.chg {T : Nat → Prop} {w w' : World} {base : Nat} {bv : Value} {n : Nat} (h : CodeAt w base bv n) (hc : Chg T w w') (hb : base ≤ w.heap.size) (hT : ∀ k, T k → base ≤ k) : CodeAt w' base bv n := by
  refine ⟨h.1, ?_⟩
  rcases h.2 with h | ⟨b, off, cap, hv, hlt, hx⟩
  · exact .inl h
  · refine .inr ⟨b, off, cap, hv, hlt, fun k hk => ?_⟩
    obtain ⟨x, h1, h2⟩ := hx k hk
    exact ⟨x, by rw [hc.cell (p := ⟨b, off + k, none⟩) (by show b < w.heap.size; omega) (fun q => by have q1 : base ≤ b := hT _ q; omega)]; exact h1, h2⟩
theorem Chg.grown_new {T : Nat → Prop} {w wr w' : World} {row : Option Nat} (h : Chg T w wr) (hg : wr.grownBy w' row) (hr : ∀ k, row = some k → w.heap.size ≤ k) : Chg T w w' :=
  ⟨hg.os.trans h.os, hg.tape.trans h.tape, hg.output.trans h.output, Nat.le_trans h.size hg.size, fun k hk hn => (hg.block k (Nat.lt_of_lt_of_le hk h.size) (fun q => by have := hr k q.symm; omega)).trans (h.block k hk hn)⟩
theorem Chg.alloc_new {T : Nat → Prop} {w wr : World} (h : Chg T w wr) (o : Obj) : Chg T w (wr.alloc o) := h.trans (Chg.of_below ((Below.refl _ _).alloc (Nat.le_refl _) _))

/-- A row of bytes of the call's own. -/
abbrev u8v (z : UInt8) : Value := .int .u8 (z.toNat : Int)
def OwnB (w : World) (base g cap : Nat) (zs : List UInt8) : Prop := w.ownsRow base 5 1 (.slice (some ⟨g, 0, none⟩) zs.length cap) zs.length (zs.map u8v)
theorem Tryd.infoU8 : (Tryd.prog.info? 5).map (fun i => (i.zero, i.size, i.bytes)) = some (some (.int .u8 0), 1, 1) := by kernel_rfl
theorem wpList_append_byte {ops : Array Oper} {rest : List Oper} {o : Oper} {a : Act} {Q : Exit → Act → World → Prop} (w : World) (hgd : o.guard = none) (s x : Operand)
    (ho : o.op = .call { callee := .builtin .append, args := #[s, x], argTypes := #[22, 22] })
    (base g cp n blk : Nat) (zs : List UInt8) (z : UInt8) (hs : a.eval s = .slice (some ⟨g, 0, none⟩) n cp) (cx : Nat) (hx : a.eval x = .slice (some ⟨blk, 0, none⟩) 1 cx) (hn : n = zs.length) (hO : OwnB w base g cp zs)
    (hc : w.cell? ⟨blk, 0, none⟩ = some (.int .u8 (z.toNat : Int))) (hlen : zs.length ≤ 2 ^ 30) (hbase : base ≤ w.heap.size)
    (h : ∀ g' cp' w', OwnB w' base g' cp' (zs ++ [z]) → w.grownBy w' (some g) → wpList Tryd.prog ops Q rest (a.put o.dst (.slice (some ⟨g', 0, none⟩) (n + 1) cp')) w') : wpList Tryd.prog ops Q (o :: rest) a w := by
  obtain ⟨i, hi, hz0, hz1, hz2⟩ := info_parts Tryd.infoU8
  subst hn
  refine wpList_append_lies w hgd s x 22 ho base 5 i _ 1 1 Tryd.underlying22 hi hz0 hz1 hz2 rfl (by decide) (.slice (some ⟨g, 0, none⟩) zs.length cp) zs.length (zs.map u8v) hs hO ⟨blk, 0, none⟩ 1 cx [u8v z] hx rfl ?_ ?_ (by decide) ?_ ?_ hbase w.heap.size rfl ?_
  · intro j u hu
    have hj : j < 1 := by simpa using (List.getElem?_eq_some_iff.1 hu).1
    obtain rfl : j = 0 := by omega
    simp at hu
    rw [← hu]
    simpa [Addr.add] using hc
  · intro u hu
    simp at hu
    subst hu
    rfl
  · unfold maxLen; omega
  · omega
  · intro g' cp' w' hO' hgr hat hlt
    refine h g' cp' w' ?_ hgr
    unfold OwnB
    rw [List.length_append, List.map_append]
    exact hO'
theorem ownB_new (w : World) (base : Nat) (hb : base ≤ w.heap.size) : OwnB (w.alloc (Obj.cells #[] 5)) base w.heap.size 0 [] := World.ownsRow_made w #[] 0 hb (Nat.zero_le _) (by simp)
theorem conv_own {w : World} {base g cap : Nat} {zs : List UInt8} (h : OwnB w base g cap zs) : (convert 22 9 (.slice (some ⟨g, 0, none⟩) zs.length cap)).run Tryd.prog w = .ok (.string ⟨zs.toArray⟩) w := by
  refine run_convert_bytes_back (P := Tryd.prog) w 22 9 5 ⟨g, 0, none⟩ cap zs Tryd.underlying22 Tryd.underlying5 Tryd.underlying9 ?_
  intro i hi
  have := World.ownsRow.cellAt h i (by omega)
  rw [Addr.add_mid, Nat.zero_add, this, List.getElem?_map, List.getElem?_eq_getElem hi]
  rfl

end Go.Proofs.YtnncedndlhfdkabDoor

/-
  The draws: rows, families, qualifiers, timestamps.
-/
namespace Go.Proofs.YtnncedndlhfdkabDoor
open Go.ChangeShapes Go.WideShapes Go.ChangeAt Go.RowKit Go.Deep
set_option linter.unusedVariables false
set_option linter.unusedSimpArgs false
set_option maxRecDepth 100000

theorem conv_str (c : UInt8) (w : World) : ∃ cx w', (convert 9 22 (.string ⟨#[c]⟩)).run Tryd.prog w = .ok (.slice (some ⟨w.heap.size, 0, none⟩) 1 cx) w' ∧ Below w.heap.size w w' ∧ w'.cell? ⟨w.heap.size, 0, none⟩ = some (.int .u8 (c.toNat : Int)) := by
  refine ⟨_, _, run_bytes_of_string (P := Tryd.prog) w 9 22 5 ⟨#[c]⟩ Tryd.underlying9 Tryd.underlying22 Tryd.underlying5, ((Below.refl _ _).drew).alloc (Nat.le_refl _) _, ?_⟩
  have hb : ∀ O : Obj, (w.drew.alloc O).heap[w.heap.size]? = some O := fun O => by
    show (w.heap.push O)[w.heap.size]? = _
    simp
  unfold World.cell?
  rw [hb]
  simp [bytesRow]
  rw [Array.getElem?_append_left (by simp)]
  rfl

end Go.Proofs.YtnncedndlhfdkabDoor

/-
  The draws: one write.
-/
namespace Go.Proofs.YtnncedndlhfdkabDoor
open Go.ChangeShapes Go.WideShapes Go.ChangeAt Go.RowKit Go.Deep
set_option linter.unusedVariables false
set_option linter.unusedSimpArgs false
set_option maxRecDepth 100000

/-- An entry whose texts are short. -/
structure Ent.small (e : Ent) : Prop where
  row : e.row.size ≤ 1000
  fam : e.fam.size ≤ 1000
  qual : e.qual.size ≤ 1000
  val : e.val.size ≤ 1000
  ts : 0 ≤ e.ts ∧ e.ts ≤ 18446744073709551615
  kind : 0 ≤ e.kind ∧ e.kind ≤ 3
theorem Ent.small.ok {e : Ent} (h : e.small) : e.ok where
  row := Nat.le_trans h.row (by decide)
  fam := Nat.le_trans h.fam (by decide)
  qual := Nat.le_trans h.qual (by decide)
  val := Nat.le_trans h.val (by decide)
  ts := by
    have := h.ts
    have h1 : IntKind.u64.min = 0 := by decide
    have h2 : IntKind.u64.max = 18446744073709551615 := by decide
    simp [Lit.wf, h1, h2]; omega
  kind := by
    have := h.kind
    have h1 : IntKind.i64.min = -9223372036854775808 := by decide
    have h2 : IntKind.i64.max = 9223372036854775807 := by decide
    simp [Lit.wf, h1, h2]; omega
theorem small_zero : zeroE.small := ⟨by decide, by decide, by decide, by decide, by decide, by decide⟩

theorem ownE_new (w : World) (base : Nat) (f : Ent) (hb : base ≤ w.heap.size) : OwnE (w.alloc (Obj.cells #[.string f.row, .string f.fam, .string f.qual, .int .u64 f.ts, .int .i64 f.kind, .string f.val] 25)) base w.heap.size 1 [f] :=
  World.ownsRow_lit (base := base) (e := 25) (size := 6) w #[.string f.row, .string f.fam, .string f.qual, .int .u64 f.ts, .int .i64 f.kind, .string f.val] 1 hb (by decide) rfl

end Go.Proofs.YtnncedndlhfdkabDoor

/-
  What is left of a list of writes when it is played from its front: the puts of its run.
-/
namespace Go.Proofs.YtnncedndlhfdkabDoor
set_option linter.unusedVariables false

/-- The list that is played up to 'k'. -/
def Rep (ws : List Ent) (k : Nat) (L : List Ent) : Prop := Ord L ∧ ∀ x, x ∈ L ↔ ∃ i, i < k ∧ ws[i]? = some x ∧ x.kind = 0 ∧ StandsTo ws i k
/-- A delete does away with this one. -/
def hit (x e : Ent) : Bool := sameCol x e && ((x.ts == e.ts) || ((e.kind == 2) && decide (x.ts ≤ e.ts)))

theorem sameCol_comm (a b : Ent) : sameCol a b = sameCol b a := by
  rw [Bool.eq_iff_iff, sameCol_iff, sameCol_iff]
  constructor <;> rintro ⟨h1, h2, h3⟩ <;> exact ⟨h1.symm, h2.symm, h3.symm⟩
theorem hit_kills (x e : Ent) : hit x e = kills e x := by
  unfold hit kills
  rw [sameCol_comm x e]
  cases sameCol e x
  · rfl
  · by_cases h2 : e.kind = 2
    · by_cases h : x.ts ≤ e.ts
      · simp [h2, h]
      · have : ¬ x.ts = e.ts := by omega
        simp [h2, h, this]
    · rw [Bool.eq_iff_iff]
      simp [h2]
      exact eq_comm

theorem rep_zero (ws : List Ent) : Rep ws 0 [] := ⟨List.Pairwise.nil, fun x => ⟨fun h => by simp at h, fun ⟨i, hi, _⟩ => by omega⟩⟩
theorem standsTo_self (ws : List Ent) (k : Nat) : StandsTo ws k (k + 1) := fun j v e h1 h2 => by omega
theorem standsTo_iff {ws : List Ent} {i k : Nat} {x e : Ent} (hx : ws[i]? = some x) (he : ws[k]? = some e) (hik : i < k) : StandsTo ws i (k + 1) ↔ StandsTo ws i k ∧ kills e x = false :=
  ⟨fun h => ⟨fun j v y h1 h2 => h j v y h1 (by omega), h k e x hik (by omega) he hx⟩, fun h => standsTo_succ h.1 he hx h.2⟩
theorem key_kills {x e : Ent} (hx : x.kind = 0) (he : e.kind = 0) : keyCmp x e = 0 ↔ kills e x = true := by
  rw [keyCmp_zero]
  unfold kills
  simp [sameCol_iff, hx, he]
  constructor
  · rintro ⟨h1, h2, h3, h4⟩; exact ⟨⟨h1.symm, h2.symm, h3.symm⟩, h4.symm⟩
  · rintro ⟨⟨h1, h2, h3⟩, h4⟩; exact ⟨h1.symm, h2.symm, h3.symm, h4.symm⟩
theorem rep_put {ws : List Ent} {k : Nat} {e : Ent} {L : List Ent} (h : Rep ws k L) (he : ws[k]? = some e) (h0 : e.kind = 0) : Rep ws (k + 1) (into L e) := by
  obtain ⟨h1, h2⟩ := into_spec e L h.1
  refine ⟨h1, fun x => (h2 x).trans ⟨?_, ?_⟩⟩
  · rintro (rfl | ⟨hx, hz⟩)
    · exact ⟨k, by omega, he, h0, standsTo_self ws k⟩
    · obtain ⟨i, hi, a, b, c⟩ := (h.2 x).1 hx
      refine ⟨i, by omega, a, b, (standsTo_iff a he hi).2 ⟨c, ?_⟩⟩
      cases hk : kills e x
      · rfl
      · exact absurd ((key_kills b h0).2 hk) hz
  · rintro ⟨i, hi, a, b, c⟩
    by_cases hik : i = k
    · subst hik
      rw [he] at a
      simp at a
      exact .inl a.symm
    · obtain ⟨c1, c2⟩ := (standsTo_iff a he (by omega)).1 c
      refine .inr ⟨(h.2 x).2 ⟨i, by omega, a, b, c1⟩, fun hz => ?_⟩
      rw [(key_kills b h0).1 hz] at c2
      cases c2
theorem rep_del {ws : List Ent} {k : Nat} {e : Ent} {L : List Ent} (h : Rep ws k L) (he : ws[k]? = some e) (h0 : ¬ e.kind = 0) : Rep ws (k + 1) (L.filter fun x => !(hit x e)) := by
  refine ⟨h.1.filter _, fun x => ?_⟩
  rw [List.mem_filter, hit_kills, h.2 x]
  constructor
  · rintro ⟨⟨i, hi, a, b, c⟩, hk⟩
    exact ⟨i, by omega, a, b, (standsTo_iff a he hi).2 ⟨c, by simpa using hk⟩⟩
  · rintro ⟨i, hi, a, b, c⟩
    by_cases hik : i = k
    · subst hik
      rw [he] at a
      simp at a
      subst a
      exact absurd b h0
    · obtain ⟨c1, c2⟩ := (standsTo_iff a he (by omega)).1 c
      exact ⟨⟨i, by omega, a, b, c1⟩, by simp [c2]⟩

/-- The puts of a list of entries. -/
def puts (R : List Ent) : List Ent := R.filter fun x => x.kind == 0
theorem length_puts (R : List Ent) : (puts R).length ≤ R.length := List.length_filter_le _ _
theorem rep_kept {ws L R : List Ent} (h : Rep ws ws.length L) (hk : Kept ws ws.length R) : L = puts R := by
  refine ord_ext h.1 (hk.1.filter _) (fun x => ?_)
  rw [h.2 x]
  unfold puts
  rw [List.mem_filter, hk.2 x]
  constructor
  · rintro ⟨i, hi, a, b, c⟩
    refine ⟨⟨i, hi, a, .inl ⟨by omega, fun j v e h1 h2 h3 => c j v e h1 (List.getElem?_eq_some_iff.1 h2).1 h2 h3⟩⟩, by simp [b]⟩
  · rintro ⟨⟨i, hi, a, b⟩, h0⟩
    have h0' : x.kind = 0 := by simpa using h0
    rcases b with ⟨_, hs⟩ | ⟨h2, _⟩
    · exact ⟨i, hi, a, h0', fun j v e h1 _ h2 h3 => hs j v e h1 h2 h3⟩
    · omega
end Go.Proofs.YtnncedndlhfdkabDoor

/-
  What a stack of runs shows.
-/
namespace Go.Proofs.YtnncedndlhfdkabDoor
set_option linter.unusedVariables false
set_option linter.unusedSimpArgs false

theorem okPair_key {p e : Ent} (h : okPair p e = true) : keyCmp p e = -1 := by
  unfold okPair at h
  simp only [Bool.and_eq_true, decide_eq_true_eq, Bool.not_eq_true', beq_iff_eq] at h
  first
    | exact h.1
    | exact h.2
    | (have h1 := h.1; have h2 := h.2; rcases keyCmp_vals p e with q | q | q <;> simp_all)
theorem ord_of_adj : ∀ (l : List Ent), (∀ i p e, l[i]? = some p → l[i + 1]? = some e → keyCmp p e = -1) → Ord l
  | [], _ => List.Pairwise.nil
  | [a], _ => by simp [Ord]
  | a :: b :: r, h => by
    have ih := ord_of_adj (b :: r) (fun i p e h1 h2 => h (i + 1) p e (by simpa using h1) (by simpa using h2))
    have hab : keyCmp a b = -1 := h 0 a b rfl rfl
    refine List.pairwise_cons.2 ⟨fun x hx => ?_, ih⟩
    rcases List.mem_cons.1 hx with rfl | hx
    · exact hab
    · exact keyCmp_trans hab ((List.pairwise_cons.1 ih).1 x hx)
theorem ord_of_good {es : List Ent} (h : GoodR es) : Ord es := ord_of_adj es (fun i p e h1 h2 => okPair_key (h.2 i p e h1 h2))
theorem ord_get {l : List Ent} (h : Ord l) {i j : Nat} {x y : Ent} (hij : i < j) (hx : l[i]? = some x) (hy : l[j]? = some y) : keyCmp x y = -1 := by
  obtain ⟨h1, rfl⟩ := List.getElem?_eq_some_iff.1 hx
  obtain ⟨h2, rfl⟩ := List.getElem?_eq_some_iff.1 hy
  exact List.pairwise_iff_getElem.1 h i j h1 h2 hij

def GoodRs (rs : List (List Ent)) : Prop := rs.length ≤ 50 ∧ ∀ es ∈ rs, GoodR es
/-- An entry at a place. -/
def At (rs : List (List Ent)) (i j : Nat) (x : Ent) : Prop := ∃ es, rs[i]? = some es ∧ es[j]? = some x
/-- Some newer run does away with it. -/
def HidTo (rs : List (List Ent)) (k : Nat) (x : Ent) : Prop := ∃ m ds d, m < k ∧ rs[m]? = some ds ∧ d ∈ ds ∧ kills d x = true
def Good (rs : List (List Ent)) (inr : ByteArray → Bool) (i : Nat) (x : Ent) : Prop := x.kind = 0 ∧ inr x.row = true ∧ ¬ HidTo rs i x
def MrgTo (rs : List (List Ent)) (inr : ByteArray → Bool) (i j : Nat) (L : List Ent) : Prop :=
  Ord L ∧ ∀ x, x ∈ L ↔ ∃ i' j', (i' < i ∨ (i' = i ∧ j' < j)) ∧ At rs i' j' x ∧ Good rs inr i' x
def Mrg (rs : List (List Ent)) (inr : ByteArray → Bool) (L : List Ent) : Prop := Ord L ∧ ∀ x, x ∈ L ↔ ∃ i j, At rs i j x ∧ Good rs inr i x
def MrgOf (rs : List (List Ent)) (inr : ByteArray → Bool) (L : List Ent) : Prop := (GoodRs rs → Mrg rs inr L) ∧ (¬ GoodRs rs → L = [])
theorem mrgOf_uniq {rs : List (List Ent)} {inr : ByteArray → Bool} {L M : List Ent} (h : MrgOf rs inr L) (k : MrgOf rs inr M) : L = M := by
  by_cases g : GoodRs rs
  · exact ord_ext (h.1 g).1 (k.1 g).1 (fun x => ((h.1 g).2 x).trans ((k.1 g).2 x).symm)
  · rw [h.2 g, k.2 g]

theorem mrgTo_zero (rs : List (List Ent)) (inr : ByteArray → Bool) : MrgTo rs inr 0 0 [] :=
  ⟨List.Pairwise.nil, fun x => ⟨fun h => by simp at h, fun ⟨i, j, h, _⟩ => by omega⟩⟩
theorem mrgTo_row {rs : List (List Ent)} {inr : ByteArray → Bool} {i j : Nat} {es L : List Ent} (h : MrgTo rs inr i j L) (he : rs[i]? = some es) (hj : es.length ≤ j) : MrgTo rs inr (i + 1) 0 L := by
  refine ⟨h.1, fun x => (h.2 x).trans ⟨?_, ?_⟩⟩
  · rintro ⟨i', j', hp, ha, hg⟩
    exact ⟨i', j', by omega, ha, hg⟩
  · rintro ⟨i', j', hp, ⟨fs, h1, h2⟩, hg⟩
    refine ⟨i', j', ?_, ⟨fs, h1, h2⟩, hg⟩
    by_cases hii : i' = i
    · subst hii
      rw [he] at h1
      simp at h1
      subst h1
      have := (List.getElem?_eq_some_iff.1 h2).1
      omega
    · omega
theorem mrgTo_skip {rs : List (List Ent)} {inr : ByteArray → Bool} {i j : Nat} {e : Ent} {L : List Ent} (h : MrgTo rs inr i j L) (he : At rs i j e) (hn : ¬ Good rs inr i e) : MrgTo rs inr i (j + 1) L := by
  refine ⟨h.1, fun x => (h.2 x).trans ⟨?_, ?_⟩⟩
  · rintro ⟨i', j', hp, ha, hg⟩
    exact ⟨i', j', by omega, ha, hg⟩
  · rintro ⟨i', j', hp, ha, hg⟩
    refine ⟨i', j', ?_, ha, hg⟩
    by_cases hq : i' = i ∧ j' = j
    · obtain ⟨rfl, rfl⟩ := hq
      obtain ⟨es, h1, h2⟩ := he
      obtain ⟨fs, h3, h4⟩ := ha
      rw [h1] at h3
      simp at h3
      subst h3
      rw [h2] at h4
      simp at h4
      subst h4
      exact absurd hg hn
    · omega
theorem mrgTo_put {rs : List (List Ent)} {inr : ByteArray → Bool} {i j : Nat} {e : Ent} {L : List Ent} (hG : GoodRs rs) (h : MrgTo rs inr i j L) (he : At rs i j e) (hg : Good rs inr i e) : MrgTo rs inr i (j + 1) (into L e) := by
  obtain ⟨h1, h2⟩ := into_spec e L h.1
  have uniq : ∀ x i' j', (i' < i ∨ (i' = i ∧ j' < j)) → At rs i' j' x → Good rs inr i' x → keyCmp x e ≠ 0 := by
    rintro x i' j' hp ⟨fs, a1, a2⟩ hx hz
    rcases hp with hp | ⟨rfl, hp⟩
    · exact hg.2.2 ⟨i', fs, x, hp, a1, List.mem_of_getElem? a2, by
        obtain ⟨k1, k2, k3, k4, k5⟩ := keyCmp_zero.1 hz
        unfold kills
        have hk : ¬ x.kind = 2 := by have := hx.1; omega
        simp [sameCol_iff, hk, k1, k2, k3, k5]⟩
    · obtain ⟨es, b1, b2⟩ := he
      rw [b1] at a1
      simp at a1
      subst a1
      have := ord_get (ord_of_good (hG.2 es (List.mem_of_getElem? b1))) hp a2 b2
      omega
  refine ⟨h1, fun x => (h2 x).trans ⟨?_, ?_⟩⟩
  · rintro (rfl | ⟨hx, _⟩)
    · exact ⟨i, j, by omega, he, hg⟩
    · obtain ⟨i', j', hp, ha, hg'⟩ := (h.2 x).1 hx
      exact ⟨i', j', by omega, ha, hg'⟩
  · rintro ⟨i', j', hp, ha, hg'⟩
    by_cases hq : i' = i ∧ j' = j
    · obtain ⟨rfl, rfl⟩ := hq
      obtain ⟨es, a1, a2⟩ := he
      obtain ⟨fs, a3, a4⟩ := ha
      rw [a1] at a3
      simp at a3
      subst a3
      rw [a2] at a4
      simp at a4
      exact .inl a4.symm
    · have hp' : i' < i ∨ (i' = i ∧ j' < j) := by omega
      exact .inr ⟨(h.2 x).2 ⟨i', j', hp', ha, hg'⟩, uniq x i' j' hp' ha hg'⟩
theorem mrg_of_to {rs : List (List Ent)} {inr : ByteArray → Bool} {i j : Nat} {L : List Ent} (h : MrgTo rs inr i j L) (hi : rs.length ≤ i) : Mrg rs inr L := by
  refine ⟨h.1, fun x => (h.2 x).trans ⟨?_, ?_⟩⟩
  · rintro ⟨i', j', hp, ha, hg⟩
    exact ⟨i', j', ha, hg⟩
  · rintro ⟨i', j', ⟨es, h1, h2⟩, hg⟩
    have := (List.getElem?_eq_some_iff.1 h1).1
    exact ⟨i', j', by omega, ⟨es, h1, h2⟩, hg⟩
theorem hidTo_zero (rs : List (List Ent)) (x : Ent) : ¬ HidTo rs 0 x := fun ⟨m, _, _, h, _⟩ => by omega
theorem hidTo_succ {rs : List (List Ent)} {k : Nat} {x : Ent} {ds : List Ent} (hd : rs[k]? = some ds) : HidTo rs (k + 1) x ↔ HidTo rs k x ∨ ∃ d ∈ ds, kills d x = true := by
  constructor
  · rintro ⟨m, es, d, h1, h2, h3, h4⟩
    by_cases hm : m = k
    · subst hm
      rw [hd] at h2
      simp at h2
      subst h2
      exact .inr ⟨d, h3, h4⟩
    · exact .inl ⟨m, es, d, by omega, h2, h3, h4⟩
  · rintro (⟨m, es, d, h1, h2, h3, h4⟩ | ⟨d, h3, h4⟩)
    · exact ⟨m, es, d, by omega, h2, h3, h4⟩
    · exact ⟨k, ds, d, by omega, hd, h3, h4⟩
theorem mrgTo_len {rs : List (List Ent)} {inr : ByteArray → Bool} {i j : Nat} {L : List Ent} (h : MrgTo rs inr i j L) : ∀ x ∈ L, x ∈ rs.flatten := by
  intro x hx
  obtain ⟨i', j', _, ⟨es, h1, h2⟩, _⟩ := (h.2 x).1 hx
  exact List.mem_flatten.2 ⟨es, List.mem_of_getElem? h1, List.mem_of_getElem? h2⟩
theorem mrg_len {rs : List (List Ent)} {inr : ByteArray → Bool} {L : List Ent} (h : Mrg rs inr L) : ∀ x ∈ L, x ∈ rs.flatten := by
  intro x hx
  obtain ⟨i', j', ⟨es, h1, h2⟩, _⟩ := (h.2 x).1 hx
  exact List.mem_flatten.2 ⟨es, List.mem_of_getElem? h1, List.mem_of_getElem? h2⟩
end Go.Proofs.YtnncedndlhfdkabDoor

/-
  Runs that are valid: the loop of spec.ValidRun.
-/
namespace Go.Proofs.YtnncedndlhfdkabDoor
open Go.ChangeShapes Go.WideShapes Go.ChangeAt Go.RowKit Go.Deep
set_option linter.unusedVariables false

theorem okPair_f1 {p e : Ent} (h : (keyCmp p e != -1) = true) : okPair p e = false := by
  unfold okPair; simp at h; simp [h]
theorem okPair_t1 {p e : Ent} (h : (keyCmp p e != -1) = false) (h2 : (p.kind == 2) = false) : okPair p e = true := by
  unfold okPair; simp at h; simp [h, h2]
theorem okPair_t2 {p e : Ent} (h : (keyCmp p e != -1) = false) (h2 : (e.kind == 2) = false) : okPair p e = true := by
  unfold okPair; simp at h; simp [h, h2]
theorem okPair_s {p e : Ent} (h : (keyCmp p e != -1) = false) (h2 : (p.kind == 2) = true) (h3 : (e.kind == 2) = true) : okPair p e = !sameCol p e := by
  unfold okPair; simp at h; simp [h, h2, h3]

/-- How the test of spec.ValidRun on two neighbours comes out. -/
theorem pair_ways (p e : Ent) :
    ((keyCmp p e != -1) = true ∧ okPair p e = false) ∨ ((keyCmp p e != -1) = false ∧ (p.kind == 2) = false ∧ okPair p e = true) ∨
    ((keyCmp p e != -1) = false ∧ (p.kind == 2) = true ∧ (e.kind == 2) = false ∧ okPair p e = true) ∨
    ((keyCmp p e != -1) = false ∧ (p.kind == 2) = true ∧ (e.kind == 2) = true ∧ sameCol p e = true ∧ okPair p e = false) ∨
    ((keyCmp p e != -1) = false ∧ (p.kind == 2) = true ∧ (e.kind == 2) = true ∧ sameCol p e = false ∧ okPair p e = true) := by
  cases h1 : (keyCmp p e != -1)
  · cases h2 : (p.kind == 2)
    · exact .inr (.inl ⟨rfl, rfl, okPair_t1 h1 h2⟩)
    · cases h3 : (e.kind == 2)
      · exact .inr (.inr (.inl ⟨rfl, rfl, rfl, okPair_t2 h1 h3⟩))
      · cases h4 : sameCol p e
        · exact .inr (.inr (.inr (.inr ⟨rfl, rfl, rfl, rfl, by rw [okPair_s h1 h2 h3, h4]; rfl⟩)))
        · exact .inr (.inr (.inr (.inl ⟨rfl, rfl, rfl, rfl, by rw [okPair_s h1 h2 h3, h4]; rfl⟩)))
  · exact .inl ⟨rfl, okPair_f1 h1⟩

end Go.Proofs.YtnncedndlhfdkabDoor

/-
  Runs in memory, each a slice that is not nil; spec.l3GoodRuns, impl.validStack, spec.l3Says.
-/
namespace Go.Proofs.YtnncedndlhfdkabDoor
open Go.ChangeShapes Go.WideShapes Go.ChangeAt Go.RowKit Go.Deep
set_option linter.unusedVariables false
set_option linter.unusedSimpArgs false

/-- A run: where its entries lie, and what they are. -/
structure Rm where
  b : Nat
  off : Nat
  cap : Nat
  es : List Ent
abbrev Rm.u (r : Rm) : Value := .slice (some ⟨r.b, r.off, none⟩) r.es.length r.cap
structure Rm.at (w : World) (r : Rm) : Prop where
  ents : EntsAt w r.b r.off r.es
  lt : r.b < w.heap.size
  len : r.es.length ≤ r.cap
  cap : r.cap ≤ maxLen
theorem Rm.at.below {w w' : World} {r : Rm} (h : r.at w) (hb : Below w.heap.size w w') : r.at w' := ⟨h.ents.below hb h.lt, by have := hb.size; have := h.lt; omega, h.len, h.cap⟩
def RmsAt (w : World) (b off : Nat) (l : List Rm) : Prop := ∀ i r, l[i]? = some r → w.cell? ⟨b, off + i, none⟩ = some r.u ∧ r.at w
theorem RmsAt.below {w w' : World} {b off : Nat} {l : List Rm} (h : RmsAt w b off l) (hb : Below w.heap.size w w') (hlt : b < w.heap.size) : RmsAt w' b off l := by
  intro i r hr
  obtain ⟨h1, h2⟩ := h i r hr
  exact ⟨by rw [hb.cell (p := ⟨b, off + i, none⟩) (by exact hlt)]; exact h1, h2.below hb⟩
def okM (l : List Rm) : Prop := ∀ r ∈ l, ∀ e ∈ r.es, e.ok
abbrev esM (l : List Rm) : List (List Ent) := l.map Rm.es

theorem goodRs_of {l : List Rm} (h : l.length ≤ 50) (k : ∀ r ∈ l, GoodR r.es) : GoodRs (esM l) := by
  refine ⟨by simpa using h, fun es he => ?_⟩
  obtain ⟨r, hr, rfl⟩ := List.mem_map.1 he
  exact k r hr
theorem goodRs_mem {l : List Rm} (h : GoodRs (esM l)) {r : Rm} (hr : r ∈ l) : GoodR r.es := h.2 _ (List.mem_map.2 ⟨r, hr, rfl⟩)
theorem mem_take_succ {α : Type} {l : List α} {k : Nat} {a x : α} (h : l[k]? = some a) (hx : x ∈ l.take (k + 1)) : x ∈ l.take k ∨ x = a := by
  rw [List.take_add_one, h] at hx
  simpa using hx

/-- What the entries of a run say of a key. -/
def saysF (e : Ent) : List Ent → Int → Int × ByteArray
  | [], h => (h, ⟨#[]⟩)
  | d :: r, h => if sameCol d e = true then
      (if (d.kind == 0) = true ∧ (d.ts == e.ts) = true then (1, d.val) else if (d.kind == 1) = true ∧ (d.ts == e.ts) = true then (2, ⟨#[]⟩) else if (d.kind == 2) = true ∧ e.ts ≤ d.ts then saysF e r 2 else saysF e r h)
    else saysF e r h
theorem saysF_kills (e : Ent) : ∀ (es : List Ent) (h : Int), (∀ d ∈ es, d.vld = true) → ((saysF e es h).1 ≠ 0 ↔ h ≠ 0 ∨ ∃ d ∈ es, kills d e = true)
  | [], h, _ => by simp [saysF]
  | d :: r, h, hv => by
    have ih2 := saysF_kills e r 2 (fun x hx => hv x (List.mem_cons_of_mem _ hx))
    have ihh := saysF_kills e r h (fun x hx => hv x (List.mem_cons_of_mem _ hx))
    have hd := hv d (by simp)
    unfold Ent.vld vE at hd
    have hk := of_decide_eq_true hd
    unfold saysF
    have hex : (∃ x ∈ d :: r, kills x e = true) ↔ kills d e = true ∨ ∃ x ∈ r, kills x e = true := by simp
    rw [hex]
    by_cases hc : sameCol d e = true
    · rw [if_pos hc]
      by_cases h0 : (d.kind == 0) = true ∧ (d.ts == e.ts) = true
      · rw [if_pos h0]
        have : kills d e = true := by
          unfold kills
          have : d.kind = 0 := by simpa using h0.1
          simp [hc, this, h0.2]
        simp [this]
      · rw [if_neg h0]
        by_cases h1 : (d.kind == 1) = true ∧ (d.ts == e.ts) = true
        · rw [if_pos h1]
          have : kills d e = true := by
            unfold kills
            have : d.kind = 1 := by simpa using h1.1
            simp [hc, this, h1.2]
          simp [this]
        · rw [if_neg h1]
          by_cases h2 : (d.kind == 2) = true ∧ e.ts ≤ d.ts
          · rw [if_pos h2, ih2]
            have : kills d e = true := by
              unfold kills
              have : d.kind = 2 := by simpa using h2.1
              simp [hc, this, h2.2]
            simp [this]
          · rw [if_neg h2, ihh]
            have : kills d e = false := by
              unfold kills
              simp only [beq_iff_eq] at h0 h1 h2
              rw [hc]
              by_cases hk2 : d.kind = 2
              · simp [hk2]
                have : ¬ e.ts ≤ d.ts := fun q => h2 ⟨hk2, q⟩
                omega
              · simp [hk2]
                intro q
                have : d.kind = 0 ∨ d.kind = 1 := by omega
                rcases this with z | z
                · exact h0 ⟨z, q⟩
                · exact h1 ⟨z, q⟩
            simp [this]
    · rw [if_neg hc, ihh]
      have : kills d e = false := by
        unfold kills
        simp [hc]
      simp [this]
theorem saysF_drop {e d : Ent} {es : List Ent} {k : Nat} {h : Int} (hd : es[k]? = some d) : saysF e (es.drop k) h = saysF e (d :: es.drop (k + 1)) h := by
  congr 1
  obtain ⟨h1, rfl⟩ := List.getElem?_eq_some_iff.1 hd
  exact List.drop_eq_getElem_cons h1
theorem rms_out {w : World} {b off m : Nat} {l : List Rm} {r : Rm} (h : RmsAt w b off l) (hb : b < w.heap.size) (hr : l[m]? = some r) : (∀ n : Out w, n.u.cell? ⟨b, off + m, none⟩ = some (.slice (some ⟨r.b, r.off, none⟩) r.es.length r.cap)) ∧ ∀ n : Out w, r.at n.u :=
  ⟨fun n => (h.below n.out hb m r hr).1, fun n => (h.below n.out hb m r hr).2⟩
end Go.Proofs.YtnncedndlhfdkabDoor

/-
  spec.l3Says.
-/
namespace Go.Proofs.YtnncedndlhfdkabDoor
open Go.ChangeShapes Go.WideShapes Go.ChangeAt Go.RowKit Go.Deep
set_option linter.unusedVariables false
set_option linter.unusedSimpArgs false

theorem ent_box (w : World) (e : Ent) : EntsAt (w.alloc (Obj.cells #[.string e.row, .string e.fam, .string e.qual, .int .u64 e.ts, .int .i64 e.kind, .string e.val] 25)) w.heap.size 0 [e] := by
  intro j y hy
  obtain rfl : j = 0 := by
    have := (List.getElem?_eq_some_iff.1 hy).1
    simpa using this
  simp at hy
  subst hy
  simp

theorem saysF_cons (e d : Ent) (r : List Ent) (h : Int) : saysF e (d :: r) h = if sameCol d e = true then
      (if (d.kind == 0) = true ∧ (d.ts == e.ts) = true then (1, d.val) else if (d.kind == 1) = true ∧ (d.ts == e.ts) = true then (2, ⟨#[]⟩) else if (d.kind == 2) = true ∧ e.ts ≤ d.ts then saysF e r 2 else saysF e r h)
    else saysF e r h := rfl

end Go.Proofs.YtnncedndlhfdkabDoor

/-
  The draws: a list of writes.
-/
namespace Go.Proofs.YtnncedndlhfdkabDoor
open Go.ChangeShapes Go.WideShapes Go.ChangeAt Go.RowKit Go.Deep
set_option linter.unusedVariables false
set_option linter.unusedSimpArgs false
set_option maxRecDepth 100000

end Go.Proofs.YtnncedndlhfdkabDoor

/-
  The draws: their beginning.
-/
namespace Go.Proofs.YtnncedndlhfdkabDoor
open Go.ChangeShapes Go.WideShapes Go.ChangeAt Go.RowKit Go.Deep
set_option linter.unusedVariables false
set_option linter.unusedSimpArgs false
set_option maxRecDepth 100000

end Go.Proofs.YtnncedndlhfdkabDoor

/-
  spec.BuildRun.
-/
namespace Go.Proofs.YtnncedndlhfdkabDoor
open Go.ChangeShapes Go.WideShapes Go.ChangeAt Go.RowKit Go.Deep
set_option linter.unusedVariables false

theorem ent_new (wx : World) (f : Ent) : EntsAt (wx.alloc (Obj.cells #[.string f.row, .string f.fam, .string f.qual, .int .u64 f.ts, .int .i64 f.kind, .string f.val] 25)) wx.heap.size 0 [f] := by
  intro j y hy
  obtain rfl : j = 0 := by
    have := (List.getElem?_eq_some_iff.1 hy).1
    simpa using this
  simp at hy
  subst hy
  simp

theorem OwnE.setBelow {w : World} {base g cap : Nat} {es : List Ent} (h : OwnE w base g cap es) (a : Addr) (ha : a.block < base) (u : Value) : OwnE (w.setCell a u) base g cap es := ownsRow_setCell_below h ha u

/-- The deletes of the column among the first 'j'. -/
def LargestTo (ws : List Ent) (e : Ent) (j : Nat) : Prop := ∀ i v, i < j → ws[i]? = some v → v.kind = 2 → sameCol v e = true → v.ts ≤ e.ts
theorem largest_of_to {ws : List Ent} {e : Ent} {j : Nat} (h : LargestTo ws e j) (hj : ws.length ≤ j) : Largest ws e := by
  intro v hv h1 h2
  obtain ⟨i, hi⟩ := List.getElem?_of_mem hv
  exact h i v (by have := (List.getElem?_eq_some_iff.1 hi).1; omega) hi h1 h2
theorem largestTo_succ {ws : List Ent} {e v : Ent} {j : Nat} (h : LargestTo ws e j) (hv : ws[j]? = some v) (hk : v.kind = 2 → sameCol v e = true → v.ts ≤ e.ts) : LargestTo ws e (j + 1) := by
  intro i u hi hu h1 h2
  by_cases e1 : i = j
  · subst e1
    rw [hv] at hu
    simp at hu
    subst hu
    exact hk h1 h2
  · exact h i u (by omega) hu h1 h2
theorem largestTo_bad {ws : List Ent} {e v : Ent} {j k : Nat} (hv : ws[j]? = some v) (h1 : v.kind = 2) (h2 : sameCol v e = true) (h3 : ¬ v.ts ≤ e.ts) (hk : j < k) : ¬ LargestTo ws e k := fun h => h3 (h j v hk hv h1 h2)
theorem largestTo_mono {ws : List Ent} {e : Ent} {j k : Nat} (h : LargestTo ws e k) (hj : j ≤ k) : LargestTo ws e j := fun i v hi => h i v (by omega)

end Go.Proofs.YtnncedndlhfdkabDoor

/-
  The draws: their beginning, sizes, one run.
-/
namespace Go.Proofs.YtnncedndlhfdkabDoor
open Go.ChangeShapes Go.WideShapes Go.ChangeAt Go.RowKit Go.Deep
set_option linter.unusedVariables false
set_option linter.unusedSimpArgs false
set_option maxRecDepth 100000

end Go.Proofs.YtnncedndlhfdkabDoor

/-
  The draws: an entry spoilt.
-/
namespace Go.Proofs.YtnncedndlhfdkabDoor
open Go.ChangeShapes Go.WideShapes Go.ChangeAt Go.RowKit Go.Deep
set_option linter.unusedVariables false
set_option linter.unusedSimpArgs false
set_option maxRecDepth 100000

end Go.Proofs.YtnncedndlhfdkabDoor

/-
  The draws: a run spoilt.
-/
namespace Go.Proofs.YtnncedndlhfdkabDoor
open Go.ChangeShapes Go.WideShapes Go.ChangeAt Go.RowKit Go.Deep
set_option linter.unusedVariables false
set_option linter.unusedSimpArgs false
set_option maxRecDepth 100000

theorem cells_of_ents {w : World} {b off : Nat} {es : List Ent} (h : EntsAt w b off es) : ∀ j u, (cellsE es)[j]? = some u → w.cell? ((⟨b, off, none⟩ : Addr).add j) = some u := by
  intro j u hu
  have hj : j < es.length * 6 := by rw [← length_cellsE]; exact (List.getElem?_eq_some_iff.1 hu).1
  obtain ⟨e, he⟩ : ∃ e, es[j / 6]? = some e := ⟨_, List.getElem?_eq_getElem (by omega)⟩
  have hg := cellsE_get es (j / 6) e he (j % 6) (Nat.mod_lt _ (by omega))
  rw [show j / 6 * 6 + j % 6 = j by omega, hu] at hg
  obtain ⟨c0, c1, c2, c3, c4, c5⟩ := h (j / 6) e he
  rw [Addr.add_mid, show off + j = off + j / 6 * 6 + j % 6 by omega]
  have hm : j % 6 < 6 := Nat.mod_lt _ (by omega)
  generalize j % 6 = m at *
  match m, hm, hg with
  | 0, _, hg => rw [Nat.add_zero, c0, hg]; rfl
  | 1, _, hg => rw [c1, hg]; rfl
  | 2, _, hg => rw [c2, hg]; rfl
  | 3, _, hg => rw [c3, hg]; rfl
  | 4, _, hg => rw [c4, hg]; rfl
  | 5, _, hg => rw [c5, hg]; rfl
theorem one_cells (es : List Ent) : ∀ u ∈ cellsE es, u.oneCell' = true := by
  intro u hu
  unfold cellsE at hu
  obtain ⟨e, _, he⟩ := List.mem_flatMap.1 hu
  simp at he
  rcases he with rfl | rfl | rfl | rfl | rfl | rfl <;> rfl
/-- Entries appended to a row of the call's own. -/
theorem wpList_append_ents {ops : Array Oper} {rest : List Oper} {o : Oper} {a : Act} {Q : Exit → Act → World → Prop} (w : World) (hgd : o.guard = none) (s x : Operand)
    (ho : o.op = .call { callee := .builtin .append, args := #[s, x], argTypes := #[38, 38] })
    (base g cp n b off m cx : Nat) (fs es : List Ent) (hs : a.eval s = .slice (some ⟨g, 0, none⟩) n cp) (hx : a.eval x = .slice (some ⟨b, off, none⟩) m cx) (hn : n = fs.length) (hm : m = es.length) (hO : OwnE w base g cp fs)
    (hc : EntsAt w b off es) (hlen : fs.length + es.length ≤ 2 ^ 30) (hbase : base ≤ w.heap.size)
    (h : ∀ g' cp' w', OwnE w' base g' cp' (fs ++ es) → w.grownBy w' (some g) → wpList Tryd.prog ops Q rest (a.put o.dst (.slice (some ⟨g', 0, none⟩) (n + m) cp')) w') : wpList Tryd.prog ops Q (o :: rest) a w := by
  subst hn hm
  obtain ⟨i, hi, hz0, hz1, hz2⟩ := info_parts Tryd.infoEnt
  refine wpList_append_own_at w hgd s x 38 ho base 25 i _ 6 80 Tryd.underlying38 hi hz0 hz1 hz2 rfl (by decide) (.slice (some ⟨g, 0, none⟩) fs.length cp) fs.length (cellsE fs) hs hO ⟨b, off, none⟩ es.length cx (cellsE es) hx (length_cellsE es) (cells_of_ents hc) (one_cells es) ?_ ?_ hbase ?_
  · unfold maxLen; omega
  · omega
  · intro v' w' hO' hgr hnil _
    rcases hO'.2 with ⟨h0, _⟩ | ⟨g', cap', cur, hv, _, _, hn, hcap, _, _⟩
    · have := (hnil.1 h0).1
      cases this
    · subst hv
      refine h g' cap' w' ?_ hgr
      unfold OwnE
      rw [List.length_append, cellsE_append]
      exact hO'

/-- What a spoilt run may be. -/
structure SpoilOf (w : World) (b : Nat) (es : List Ent) (r : Rm) (w' : World) : Prop where
  at_ : r.at w'
  ok : ∀ e ∈ r.es, e.small
  len : r.es.length ≤ es.length + 1
  blk : r.b = b ∨ w.heap.size ≤ r.b
theorem mem_set_small {fs : List Ent} {i : Nat} {e' : Ent} (h : ∀ e ∈ fs, e.small) (he : e'.small) : ∀ e ∈ fs.set i e', e.small := by
  intro e hm
  rcases List.mem_or_eq_of_mem_set hm with q | rfl
  · exact h e q
  · exact he
end Go.Proofs.YtnncedndlhfdkabDoor

