import Derived.Deep.RegionHeld3
import Derived.Deep.RegionLaw
import Derived.Deep.AppendLies
import Derived.Test.YtnncedndlhfdkabDoorPkAE
import Derived.Test.YtnncedndlhfdkabDoorPkAF
import Derived.Test.YtnncedndlhfdkabDoorPkAB
import Derived.Test.YtnncedndlhfdkabDoorPkAA
/-
  spec.SeekRun.
-/
namespace Go.Proofs.YtnncedndlhfdkabDoor
open Go.ChangeShapes Go.WideShapes Go.ChangeAt Go.RowKit Go.Deep
set_option linter.unusedVariables false
set_option linter.unusedSimpArgs false
set_option maxRecDepth 100000

def set9 (w : World) (g : Nat) (a0 a1 a2 a3 a4 a5 a6 a7 a8 : Value) : World := ((((((((w.setCell ⟨g, 0, none⟩ a0).setCell ⟨g, 1, none⟩ a1).setCell ⟨g, 2, none⟩ a2).setCell ⟨g, 3, none⟩ a3).setCell ⟨g, 4, none⟩ a4).setCell ⟨g, 5, none⟩ a5).setCell ⟨g, 6, none⟩ a6).setCell ⟨g, 7, none⟩ a7).setCell ⟨g, 8, none⟩ a8
theorem BoxAt.set9 {w : World} {base t g : Nat} {vs : List Value} (h : BoxAt w base t 9 g vs) (a0 a1 a2 a3 a4 a5 a6 a7 a8 : Value) : BoxAt (set9 w g a0 a1 a2 a3 a4 a5 a6 a7 a8) base t 9 g [a0, a1, a2, a3, a4, a5, a6, a7, a8] := by
  have h1 := ((((((((h.set 0 a0).set 1 a1).set 2 a2).set 3 a3).set 4 a4).set 5 a5).set 6 a6).set 7 a7).set 8 a8
  have hl := h.len
  match vs, hl with
  | [_, _, _, _, _, _, _, _, _], _ => exact h1
theorem below_set9 {B : Nat} {a w : World} (h : Below B a w) {k : Nat} (hk : B ≤ k) (a0 a1 a2 a3 a4 a5 a6 a7 a8 : Value) : Below B a (set9 w k a0 a1 a2 a3 a4 a5 a6 a7 a8) :=
  below_set (below_set (below_set (below_set (below_set (below_set (below_set (below_set (below_set h hk 0 a0) hk 1 a1) hk 2 a2) hk 3 a3) hk 4 a4) hk 5 a5) hk 6 a6) hk 7 a7) hk 8 a8
theorem chg_set9 (w : World) (k : Nat) (a0 a1 a2 a3 a4 a5 a6 a7 a8 : Value) : Chg (fun q => q = k) w (set9 w k a0 a1 a2 a3 a4 a5 a6 a7 a8) :=
  ((((((((Chg.of_set w k 0 a0 (S := fun q => q = k) rfl).trans (Chg.of_set _ k 1 a1 (S := fun q => q = k) rfl)).trans (Chg.of_set _ k 2 a2 (S := fun q => q = k) rfl)).trans (Chg.of_set _ k 3 a3 (S := fun q => q = k) rfl)).trans (Chg.of_set _ k 4 a4 (S := fun q => q = k) rfl)).trans (Chg.of_set _ k 5 a5 (S := fun q => q = k) rfl)).trans (Chg.of_set _ k 6 a6 (S := fun q => q = k) rfl)).trans (Chg.of_set _ k 7 a7 (S := fun q => q = k) rfl)).trans (Chg.of_set _ k 8 a8 (S := fun q => q = k) rfl)
def lessB (a b : ByteArray) : Bool := Op.bytesLess a.toList b.toList
/-- The last block whose first row lies before. -/
def firstTo (bs : List Blk) (row : ByteArray) : Nat → Nat
  | 0 => 0
  | k + 1 => match bs[k]? with
    | none => firstTo bs row k
    | some b => if lessB b.row row = true then k else firstTo bs row k
theorem firstTo_le (bs : List Blk) (row : ByteArray) : ∀ k, firstTo bs row k ≤ k
  | 0 => Nat.le_refl _
  | k + 1 => by
    have := firstTo_le bs row k
    rw [firstTo]
    split
    · omega
    · split <;> omega
structure Sk where
  err : Int
  found : Bool
  ent : Ent
  read : Nat
abbrev Sk.cells (s : Sk) : List Value := [.int .i64 s.err, .bool s.found, .string s.ent.row, .string s.ent.fam, .string s.ent.qual, .int .u64 s.ent.ts, .int .i64 s.ent.kind, .string s.ent.val, .int .i64 (s.read : Int)]
abbrev Sk.v (s : Sk) : Value := .agg #[.int .i64 s.err, .bool s.found, .string s.ent.row, .string s.ent.fam, .string s.ent.qual, .int .u64 s.ent.ts, .int .i64 s.ent.kind, .string s.ent.val, .int .i64 (s.read : Int)]
def seekFrom (xs : List UInt8) (row : ByteArray) : List Blk → Nat → Sk
  | [], n => ⟨0, false, zeroE, n⟩
  | b :: bs, n =>
    if (blkM xs b).1 ≠ 0 then ⟨(blkM xs b).1, false, zeroE, n + 1⟩ else
    match (blkM xs b).2.find? (fun e => !lessB e.row row) with
    | some e => ⟨0, true, e, n + 1⟩
    | none => seekFrom xs row bs (n + 1)
def seekM (xs : List UInt8) (row : ByteArray) : Sk :=
  if (idxM xs).1 ≠ 0 then ⟨(idxM xs).1, false, zeroE, 0⟩ else seekFrom xs row ((idxM xs).2.drop (firstTo (idxM xs).2 row (idxM xs).2.length)) 0

set_option maxHeartbeats 3000000 in
theorem specSeek_core (b off cap : Nat) (xs : List UInt8) (row : ByteArray) (w : World) (hx : BysAt w b off xs) (hb : b < w.heap.size) (hlen : xs.length ≤ 2 ^ 30) (hcap : xs.length ≤ cap) (hcm : cap ≤ maxLen) :
    Calls Tryd.prog 4 #[.slice (some ⟨b, off, none⟩) xs.length cap, .string row] w fun r w' => r = .returned (seekM xs row).v ∧ Below w.heap.size w w' := by
  obtain ⟨W1, hW1⟩ : ∃ W1 : World, W1 = w.alloc (Obj.cells #[.int .i64 0, .bool false, .string ⟨#[]⟩, .string ⟨#[]⟩, .string ⟨#[]⟩, .int .u64 0, .int .i64 0, .string ⟨#[]⟩, .int .i64 0] 27) := ⟨_, rfl⟩
  have hb1 : Below w.heap.size w W1 := by rw [hW1]; exact (Below.refl _ _).alloc (Nat.le_refl _) _
  have z1 : W1.heap.size = w.heap.size + 1 := by rw [hW1]; simp
  have HB1 : Hid (BoxAt W1 w.heap.size 27 9 w.heap.size [.int .i64 0, .bool false, .string ⟨#[]⟩, .string ⟨#[]⟩, .string ⟨#[]⟩, .int .u64 0, .int .i64 0, .string ⟨#[]⟩, .int .i64 0]) := by rw [hW1]; exact boxAt_new w _ (Nat.le_refl _) rfl
  have HX : Hid (∀ w' : World, Below w.heap.size w w' → BysAt w' b off xs) := fun w' h => hx.below h hb
  have HL : Hid (xs.length ≤ 2 ^ 30 ∧ xs.length ≤ cap ∧ cap ≤ maxLen) := ⟨hlen, hcap, hcm⟩
  clear hx hlen hcap hcm
  go_enter Tryd.func4, Tryd.ntmps4
  go_upto_region 1 with fail
  rw [← hW1]
  clear hW1
  go_wp2_with fail
  refine (l2Index_core b off cap xs W1 (HX.out W1 hb1) (by omega) HL.out.1 HL.out.2.1 HL.out.2.2).mono ?_
  rintro r w2 ⟨gi, ci, err, bs, rfl, hI, hO2, hb2⟩
  have s2 := hb2.size
  have k2 : Below w.heap.size w w2 := hb1.trans (hb2.mono (by omega))
  have HI : Hid ((err, bs) = idxM xs) := hI
  have HB2 : Hid (BoxAt w2 w.heap.size 27 9 w.heap.size [.int .i64 0, .bool false, .string ⟨#[]⟩, .string ⟨#[]⟩, .string ⟨#[]⟩, .int .u64 0, .int .i64 0, .string ⟨#[]⟩, .int .i64 0] ∧ OwnI w2 W1.heap.size gi ci bs) := ⟨HB1.out.below hb2, hO2⟩
  have hgi := hO2.lt
  have HIn : Hid (∀ k ∈ bs, k.in xs.length) := by
    intro k hk
    have h := idxM_in xs
    rw [← HI.out] at h
    exact h k hk
  have hbl : bs.length ≤ 10000 := idx_many HI.out
  clear hI hO2 hb2 HB1
  obtain ⟨NX, hNX⟩ : ∃ N : Nat, xs.length = N := ⟨_, rfl⟩
  have HNX : Hid (xs.length = NX) := hNX
  rw [hNX]
  clear hNX
  by_cases herr : ¬ err = 0
  · have HD : Hid (seekM xs row = ⟨err, false, zeroE, 0⟩) := by
      show seekM xs row = _
      unfold seekM
      rw [← HI.out, if_pos herr]
    obtain ⟨WZ, hWZ⟩ : ∃ V : World, V = set9 w2 w.heap.size (.int .i64 err) (.bool false) (.string ⟨#[]⟩) (.string ⟨#[]⟩) (.string ⟨#[]⟩) (.int .u64 0) (.int .i64 0) (.string ⟨#[]⟩) (.int .i64 0) := ⟨_, rfl⟩
    have hBZ := HB2.out.1.set9 (.int .i64 err) (.bool false) (.string ⟨#[]⟩) (.string ⟨#[]⟩) (.string ⟨#[]⟩) (.int .u64 0) (.int .i64 0) (.string ⟨#[]⟩) (.int .i64 0)
    rw [← hWZ] at hBZ
    have kZ : Below w.heap.size w WZ := by rw [hWZ]; exact below_set9 k2 (Nat.le_refl _) _ _ _ _ _ _ _ _ _
    have f0 := HB2.out.1.frozen 0
    have q0 := HB2.out.1.cell (j := 0) rfl
    have p0 := hBZ.cell (j := 0) rfl
    have f1 := HB2.out.1.frozen 1
    have q1 := HB2.out.1.cell (j := 1) rfl
    have p1 := hBZ.cell (j := 1) rfl
    have f2 := HB2.out.1.frozen 2
    have q2 := HB2.out.1.cell (j := 2) rfl
    have p2 := hBZ.cell (j := 2) rfl
    have f3 := HB2.out.1.frozen 3
    have q3 := HB2.out.1.cell (j := 3) rfl
    have p3 := hBZ.cell (j := 3) rfl
    have f4 := HB2.out.1.frozen 4
    have q4 := HB2.out.1.cell (j := 4) rfl
    have p4 := hBZ.cell (j := 4) rfl
    have f5 := HB2.out.1.frozen 5
    have q5 := HB2.out.1.cell (j := 5) rfl
    have p5 := hBZ.cell (j := 5) rfl
    have f6 := HB2.out.1.frozen 6
    have q6 := HB2.out.1.cell (j := 6) rfl
    have p6 := hBZ.cell (j := 6) rfl
    have f7 := HB2.out.1.frozen 7
    have q7 := HB2.out.1.cell (j := 7) rfl
    have p7 := hBZ.cell (j := 7) rfl
    have f8 := HB2.out.1.frozen 8
    have q8 := HB2.out.1.cell (j := 8) rfl
    have p8 := hBZ.cell (j := 8) rfl
    unfold set9 at hWZ
    go_wp2_with fail
    rw [← hWZ]
    exact bodyPost_ret (v := (seekM xs row).v) (by rw [HD.out]; simp [results, Tryd.results4, go_sem, zeroE, p0, p1, p2, p3, p4, p5, p6, p7, p8]) rfl ⟨rfl, kZ⟩
  replace herr := Decidable.not_not.1 herr
  subst herr
  go_upto_region 6 with fail
  go_loopw [7, 8] (fun f kk wr => ∃ (k F : Nat), k ≤ bs.length ∧ F = firstTo bs row k ∧ f = .int .i64 (F : Int) ∧ kk = .int .i64 (k : Int) ∧ wr = w2) (fun _ kk _ => bs.length - (intOf kk).toNat)
  case atStart => exact ⟨0, 0, Nat.zero_le _, rfl, rfl, rfl, rfl⟩
  case round =>
    obtain ⟨k, F, hk, hF, rfl, rfl, rfl⟩ := hrel
    have HF : Hid (F = firstTo bs row k) := hF
    clear hF
    by_cases hlt : k < bs.length
    · obtain ⟨⟨fr, til, cnt, rw'⟩, he⟩ : ∃ e, bs[k]? = some e := ⟨_, List.getElem?_eq_getElem hlt⟩
      have d3 := (HB2.out.2.at he).2.2.2
      have HE : Hid (bs[k]? = some ⟨fr, til, cnt, rw'⟩) := he
      clear he
      cases hl : Op.bytesLess rw'.toList row.toList
      · have HN : Hid (F = firstTo bs row (k + 1)) := by rw [firstTo, HE.out, HF.out]; show firstTo bs row k = if Op.bytesLess rw'.toList row.toList = true then k else firstTo bs row k; rw [hl]; rfl
        go_wp2_with fail
        exact ⟨⟨k + 1, F, by omega, HN.out, rfl, by go_num, trivial⟩, by simp [intOf]; omega⟩
      · have HN : Hid (k = firstTo bs row (k + 1)) := by rw [firstTo, HE.out]; show k = if Op.bytesLess rw'.toList row.toList = true then k else firstTo bs row k; rw [hl]; rfl
        go_wp2_with fail
        exact ⟨⟨k + 1, k, by omega, HN.out, rfl, by go_num, trivial⟩, by simp [intOf]; omega⟩
    · obtain rfl : k = bs.length := by omega
      obtain ⟨w9, hw9⟩ : ∃ w9 : World, w9 = wr := ⟨_, rfl⟩
      subst hw9
      have hFl : F ≤ bs.length := by rw [HF.out]; exact firstTo_le _ _ _
      have HM : Hid (seekM xs row = seekFrom xs row (bs.drop F) 0) := by
        show seekM xs row = _
        unfold seekM
        rw [← HI.out]
        simp only [ne_eq, not_true_eq_false, if_false]
        rw [← HF.out]
      obtain ⟨W3, hW3⟩ : ∃ V : World, V = w9.alloc (Obj.cells #[.int .i64 0, .bool false, .string ⟨#[]⟩, .string ⟨#[]⟩, .string ⟨#[]⟩, .int .u64 0, .int .i64 0, .string ⟨#[]⟩, .int .i64 0] 27) := ⟨_, rfl⟩
      have hb3 : Below w9.heap.size w9 W3 := by rw [hW3]; exact (Below.refl _ _).alloc (Nat.le_refl _) _
      obtain ⟨O, hO⟩ : ∃ O : Nat, O = w9.heap.size := ⟨_, rfl⟩
      have hOw : w.heap.size < O := by omega
      have HB3 : Hid (BoxAt W3 w.heap.size 27 9 w.heap.size [.int .i64 0, .bool false, .string ⟨#[]⟩, .string ⟨#[]⟩, .string ⟨#[]⟩, .int .u64 0, .int .i64 0, .string ⟨#[]⟩, .int .i64 0] ∧ BoxAt W3 w9.heap.size 27 9 O [.int .i64 0, .bool false, .string ⟨#[]⟩, .string ⟨#[]⟩, .string ⟨#[]⟩, .int .u64 0, .int .i64 0, .string ⟨#[]⟩, .int .i64 0]) := by
        refine ⟨HB2.out.1.below hb3, ?_⟩
        rw [hW3, hO]; exact boxAt_new w9 _ (Nat.le_refl _) rfl
      go_upto_region 12 with fail
      rw [← hW3, ← hO]
      clear hW3 HF
      have hOe : w9.heap.size ≤ O := by omega
      clear hO
      go_loopw [10] (fun kk wr => ∃ (k n : Nat), k ≤ bs.length ∧ n ≤ k ∧ kk = .int .i64 (k : Int) ∧ seekM xs row = seekFrom xs row (bs.drop k) n ∧ BoxAt wr w.heap.size 27 9 w.heap.size [.int .i64 0, .bool false, .string ⟨#[]⟩, .string ⟨#[]⟩, .string ⟨#[]⟩, .int .u64 0, .int .i64 0, .string ⟨#[]⟩, .int .i64 0] ∧ BoxAt wr w9.heap.size 27 9 O [.int .i64 0, .bool false, .string ⟨#[]⟩, .string ⟨#[]⟩, .string ⟨#[]⟩, .int .u64 0, .int .i64 0, .string ⟨#[]⟩, .int .i64 (n : Int)] ∧ Below w9.heap.size w9 wr) (fun kk _ => bs.length - (intOf kk).toNat)
      case atStart => exact ⟨F, 0, hFl, Nat.zero_le _, rfl, HM.out, HB3.out.1, HB3.out.2, hb3⟩
      case round =>
        clear HB3 hb3 HM hlt
        obtain ⟨k, n, hk, hnk, rfl, hsk, hBr, hBo, hbq⟩ := hrel
        have HS : Hid (seekM xs row = seekFrom xs row (bs.drop k) n ∧ BoxAt wr w.heap.size 27 9 w.heap.size [.int .i64 0, .bool false, .string ⟨#[]⟩, .string ⟨#[]⟩, .string ⟨#[]⟩, .int .u64 0, .int .i64 0, .string ⟨#[]⟩, .int .i64 0] ∧ BoxAt wr w9.heap.size 27 9 O [.int .i64 0, .bool false, .string ⟨#[]⟩, .string ⟨#[]⟩, .string ⟨#[]⟩, .int .u64 0, .int .i64 0, .string ⟨#[]⟩, .int .i64 (n : Int)]) := ⟨hsk, hBr, hBo⟩
        have sq := hbq.size
        have kq : Below w.heap.size w wr := k2.trans (hbq.mono (by omega))
        clear hsk hBr hBo
        by_cases hlt : k < bs.length
        · obtain ⟨⟨fr, til, cnt, rw'⟩, he⟩ : ∃ e, bs[k]? = some e := ⟨_, List.getElem?_eq_getElem hlt⟩
          obtain ⟨c0, c1, c2, c3⟩ := HB2.out.2.at he
          have HBk : Hid (bs.drop k = ⟨fr, til, cnt, rw'⟩ :: bs.drop (k + 1) ∧ (⟨fr, til, cnt, rw'⟩ : Blk).in xs.length) := by
            refine ⟨by rw [List.drop_eq_getElem_cons hlt, (List.getElem?_eq_some_iff.1 he).2], HIn.out _ (List.mem_of_getElem? he)⟩
          have hgw : gi < w9.heap.size := hgi.2
          have d0 : wr.cell? ⟨gi, k * 4, none⟩ = some (.int .i64 (fr : Int)) := by rw [hbq.cell (p := ⟨gi, k * 4, none⟩) hgw]; exact c0
          have d1 : wr.cell? ⟨gi, k * 4 + 1, none⟩ = some (.int .i64 (til : Int)) := by rw [hbq.cell (p := ⟨gi, k * 4 + 1, none⟩) hgw]; exact c1
          have d2 : wr.cell? ⟨gi, k * 4 + 2, none⟩ = some (.int .i64 (cnt : Int)) := by rw [hbq.cell (p := ⟨gi, k * 4 + 2, none⟩) hgw]; exact c2
          have d3 : wr.cell? ⟨gi, k * 4 + 3, none⟩ = some (.string rw') := by rw [hbq.cell (p := ⟨gi, k * 4 + 3, none⟩) hgw]; exact c3
          clear c0 c1 c2 c3 he
          have hec := l2Entries_core b off cap xs ⟨fr, til, cnt, rw'⟩ wr (HX.out wr kq) (by omega) HL.out.1 HL.out.2.1 HL.out.2.2 HBk.out.2
          rw [HNX.out] at hec
          go_wp2_with fail
          clear d0 d1 d2 d3
          refine hec.mono ?_
          rintro r w4 ⟨g4, c4, e4, es, rfl, h4, hO4, hok4, hb4⟩
          have hes : es.length ≤ 1000 := blk_many h4 HBk.out.2
          have hg4 := hO4.lt
          have s4 := hb4.size
          have k4 : Below w.heap.size w w4 := kq.trans (hb4.mono (by omega))
          have r4 : Below w9.heap.size w9 w4 := hbq.trans (hb4.mono (by omega))
          have hOlt := HS.out.2.2.lt
          have hOg : ¬ g4 = O := by omega
          obtain ⟨W5, hW5⟩ : ∃ V : World, V = w4.setCell ⟨O, 8, none⟩ (.int .i64 ((n : Int) + 1)) := ⟨_, rfl⟩
          have o8 := (HS.out.2.2.below hb4).cell (j := 8) rfl
          have u8' := (HS.out.2.2.below hb4).frozen 8
          have HS5 : Hid (BoxAt W5 w.heap.size 27 9 w.heap.size [.int .i64 0, .bool false, .string ⟨#[]⟩, .string ⟨#[]⟩, .string ⟨#[]⟩, .int .u64 0, .int .i64 0, .string ⟨#[]⟩, .int .i64 0] ∧ BoxAt W5 w9.heap.size 27 9 O [.int .i64 0, .bool false, .string ⟨#[]⟩, .string ⟨#[]⟩, .string ⟨#[]⟩, .int .u64 0, .int .i64 0, .string ⟨#[]⟩, .int .i64 ((n : Int) + 1)] ∧ OwnE W5 wr.heap.size g4 c4 es) := by
            rw [hW5]
            exact ⟨(HS.out.2.1.below hb4).beside (by omega) _ _, (HS.out.2.2.below hb4).set 8 _, hO4.chg' (Chg.of_set w4 O 8 _ (S := fun q => q = O) rfl) hOg⟩
          have HE4 : Hid ((e4, es) = blkM xs ⟨fr, til, cnt, rw'⟩) := h4
          have k5 : Below w.heap.size w W5 := by rw [hW5]; exact below_set k4 (by omega) _ _
          have r5 : Below w9.heap.size w9 W5 := by rw [hW5]; exact below_set r4 hOe _ _
          have s5 : W5.heap.size = w4.heap.size := by rw [hW5]; exact size_set _ _ _ _
          clear h4 hO4 hok4 hb4 hec
          go_upto_region 16 with fail
          rw [← hW5]
          clear hW5 o8 u8'
          by_cases he4 : ¬ e4 = 0
          · have HD : Hid (seekM xs row = ⟨e4, false, zeroE, n + 1⟩) := by
              show seekM xs row = _
              rw [HS.out.1, HBk.out.1, seekFrom, ← HE4.out, if_pos he4]
            have o0 := HS5.out.2.1.cell (j := 0) rfl
            have u0' := HS5.out.2.1.frozen 0
            obtain ⟨W6, hW6⟩ : ∃ V : World, V = W5.setCell ⟨O, 0, none⟩ (.int .i64 e4) := ⟨_, rfl⟩
            have HS6 : Hid (BoxAt W6 w.heap.size 27 9 w.heap.size [.int .i64 0, .bool false, .string ⟨#[]⟩, .string ⟨#[]⟩, .string ⟨#[]⟩, .int .u64 0, .int .i64 0, .string ⟨#[]⟩, .int .i64 0] ∧ BoxAt W6 w9.heap.size 27 9 O [.int .i64 e4, .bool false, .string ⟨#[]⟩, .string ⟨#[]⟩, .string ⟨#[]⟩, .int .u64 0, .int .i64 0, .string ⟨#[]⟩, .int .i64 ((n : Int) + 1)]) := by
              rw [hW6]
              exact ⟨HS5.out.1.beside (by omega) _ _, HS5.out.2.1.set 0 _⟩
            have k6 : Below w.heap.size w W6 := by rw [hW6]; exact below_set k5 (by omega) _ _
            go_upto_region 18 with fail
            rw [← hW6]
            clear hW6 o0 u0'
            obtain ⟨WZ, hWZ⟩ : ∃ V : World, V = set9 W6 w.heap.size (.int .i64 e4) (.bool false) (.string ⟨#[]⟩) (.string ⟨#[]⟩) (.string ⟨#[]⟩) (.int .u64 0) (.int .i64 0) (.string ⟨#[]⟩) (.int .i64 ((n : Int) + 1)) := ⟨_, rfl⟩
            have hBZ := (HS6.out.1).set9 (.int .i64 e4) (.bool false) (.string ⟨#[]⟩) (.string ⟨#[]⟩) (.string ⟨#[]⟩) (.int .u64 0) (.int .i64 0) (.string ⟨#[]⟩) (.int .i64 ((n : Int) + 1))
            rw [← hWZ] at hBZ
            have kZ : Below w.heap.size w WZ := by rw [hWZ]; exact below_set9 k6 (Nat.le_refl _) _ _ _ _ _ _ _ _ _
            have f0 := (HS6.out.1).frozen 0
            have q0 := (HS6.out.1).cell (j := 0) rfl
            have o0 := (HS6.out.2).cell (j := 0) rfl
            have p0 := hBZ.cell (j := 0) rfl
            have f1 := (HS6.out.1).frozen 1
            have q1 := (HS6.out.1).cell (j := 1) rfl
            have o1 := (HS6.out.2).cell (j := 1) rfl
            have p1 := hBZ.cell (j := 1) rfl
            have f2 := (HS6.out.1).frozen 2
            have q2 := (HS6.out.1).cell (j := 2) rfl
            have o2 := (HS6.out.2).cell (j := 2) rfl
            have p2 := hBZ.cell (j := 2) rfl
            have f3 := (HS6.out.1).frozen 3
            have q3 := (HS6.out.1).cell (j := 3) rfl
            have o3 := (HS6.out.2).cell (j := 3) rfl
            have p3 := hBZ.cell (j := 3) rfl
            have f4 := (HS6.out.1).frozen 4
            have q4 := (HS6.out.1).cell (j := 4) rfl
            have o4 := (HS6.out.2).cell (j := 4) rfl
            have p4 := hBZ.cell (j := 4) rfl
            have f5 := (HS6.out.1).frozen 5
            have q5 := (HS6.out.1).cell (j := 5) rfl
            have o5 := (HS6.out.2).cell (j := 5) rfl
            have p5 := hBZ.cell (j := 5) rfl
            have f6 := (HS6.out.1).frozen 6
            have q6 := (HS6.out.1).cell (j := 6) rfl
            have o6 := (HS6.out.2).cell (j := 6) rfl
            have p6 := hBZ.cell (j := 6) rfl
            have f7 := (HS6.out.1).frozen 7
            have q7 := (HS6.out.1).cell (j := 7) rfl
            have o7 := (HS6.out.2).cell (j := 7) rfl
            have p7 := hBZ.cell (j := 7) rfl
            have f8 := (HS6.out.1).frozen 8
            have q8 := (HS6.out.1).cell (j := 8) rfl
            have o8 := (HS6.out.2).cell (j := 8) rfl
            have p8 := hBZ.cell (j := 8) rfl
            unfold set9 at hWZ
            go_wp2_with fail
            rw [← hWZ]
            exact bodyPost_ret (v := (seekM xs row).v) (by rw [HD.out]; simp [results, Tryd.results4, go_sem, zeroE, p0, p1, p2, p3, p4, p5, p6, p7, p8]) rfl ⟨rfl, kZ⟩
          · replace he4 := Decidable.not_not.1 he4
            subst he4
            have HNx : Hid (seekM xs row = match es.find? (fun e => !lessB e.row row) with | some e => ⟨0, true, e, n + 1⟩ | none => seekFrom xs row (bs.drop (k + 1)) (n + 1)) := by
              show seekM xs row = _
              rw [HS.out.1, HBk.out.1, seekFrom, ← HE4.out]
              simp only [ne_eq, not_true_eq_false, if_false]
            clear HS HE4
            go_upto_region 20 with fail
            go_loopw [13] (fun ii wr => ∃ (j : Nat), j ≤ es.length ∧ ii = .int .i64 (j : Int) ∧ (∀ x ∈ es.take j, lessB x.row row = true) ∧ wr = W5) (fun ii _ => es.length - (intOf ii).toNat)
            case atStart => exact ⟨0, Nat.zero_le _, rfl, fun x hx => by simp at hx, rfl⟩
            case round =>
              obtain ⟨j, hj, rfl, hall, hwr⟩ := hrel
              rw [hwr]
              clear hwr wr
              have HA : Hid (∀ x ∈ es.take j, lessB x.row row = true) := hall
              clear hall
              by_cases hjl : j < es.length
              · obtain ⟨x, hx⟩ : ∃ x, es[j]? = some x := ⟨_, List.getElem?_eq_getElem hjl⟩
                have hdj : es.drop j = x :: es.drop (j + 1) := by rw [List.drop_eq_getElem_cons hjl, (List.getElem?_eq_some_iff.1 hx).2]
                have HXj : Hid (es[j]? = some x ∧ es = es.take j ++ x :: es.drop (j + 1)) := ⟨hx, by rw [← hdj, List.take_append_drop]⟩
                clear hdj
                have zj : (j : Int) < (es.length : Int) := by omega
                have c0 := (HS5.out.2.2.at j x hx).1
                rw [Nat.zero_add] at c0
                cases hl : Op.bytesLess x.row.toList row.toList
                · have HD : Hid (seekM xs row = ⟨0, true, x, n + 1⟩) := by
                    show seekM xs row = _
                    have hf : es.find? (fun e => !lessB e.row row) = some x := by
                      rw [HXj.out.2, List.find?_append, List.find?_eq_none.2 (fun y hy => by rw [HA.out y hy]; decide)]
                      simp [lessB, hl]
                    rw [HNx.out, hf]
                  have o1 := HS5.out.2.1.cell (j := 1) rfl
                  have u1' := HS5.out.2.1.frozen 1
                  obtain ⟨W6, hW6⟩ : ∃ V : World, V = W5.setCell ⟨O, 1, none⟩ (.bool true) := ⟨_, rfl⟩
                  have HS6 : Hid (BoxAt W6 w.heap.size 27 9 w.heap.size [.int .i64 0, .bool false, .string ⟨#[]⟩, .string ⟨#[]⟩, .string ⟨#[]⟩, .int .u64 0, .int .i64 0, .string ⟨#[]⟩, .int .i64 0] ∧ BoxAt W6 w9.heap.size 27 9 O [.int .i64 0, .bool true, .string ⟨#[]⟩, .string ⟨#[]⟩, .string ⟨#[]⟩, .int .u64 0, .int .i64 0, .string ⟨#[]⟩, .int .i64 ((n : Int) + 1)] ∧ OwnE W6 wr.heap.size g4 c4 es) := by
                    rw [hW6]
                    exact ⟨HS5.out.1.beside (by omega) _ _, HS5.out.2.1.set 1 _, HS5.out.2.2.chg' (Chg.of_set W5 O 1 _ (S := fun q => q = O) rfl) hOg⟩
                  have k6 : Below w.heap.size w W6 := by rw [hW6]; exact below_set k5 (by omega) _ _
                  clear hx
                  go_upto_region 24 with fail
                  rw [← hW6]
                  clear hW6 o1 u1' c0
                  obtain ⟨e0, e1, e2, e3, e4, e5⟩ := HS6.out.2.2.at j x HXj.out.1
                  rw [Nat.zero_add] at e0 e1 e2 e3 e4 e5
                  obtain ⟨W7, hW7⟩ : ∃ V : World, V = ((((((W6.setCell ⟨O, 2, none⟩ (.string x.row)).setCell ⟨O, 3, none⟩ (.string x.fam)).setCell ⟨O, 4, none⟩ (.string x.qual)).setCell ⟨O, 5, none⟩ (.int .u64 x.ts)).setCell ⟨O, 6, none⟩ (.int .i64 x.kind)).setCell ⟨O, 7, none⟩ (.string x.val)) := ⟨_, rfl⟩
                  have HS7 : Hid (BoxAt W7 w.heap.size 27 9 w.heap.size [.int .i64 0, .bool false, .string ⟨#[]⟩, .string ⟨#[]⟩, .string ⟨#[]⟩, .int .u64 0, .int .i64 0, .string ⟨#[]⟩, .int .i64 0] ∧ BoxAt W7 w9.heap.size 27 9 O [.int .i64 0, .bool true, .string x.row, .string x.fam, .string x.qual, .int .u64 x.ts, .int .i64 x.kind, .string x.val, .int .i64 ((n : Int) + 1)]) := by
                    rw [hW7]
                    have hn : ¬ w.heap.size = O := by omega
                    exact ⟨(((((HS6.out.1.beside hn 2 _).beside hn 3 _).beside hn 4 _).beside hn 5 _).beside hn 6 _).beside hn 7 _, (((((HS6.out.2.1.set 2 _).set 3 _).set 4 _).set 5 _).set 6 _).set 7 _⟩
                  have k7 : Below w.heap.size w W7 := by
                    rw [hW7]
                    have hn : w.heap.size ≤ O := by omega
                    exact below_set (below_set (below_set (below_set (below_set (below_set k6 hn 2 _) hn 3 _) hn 4 _) hn 5 _) hn 6 _) hn 7 _
                  have v2 := HS6.out.2.1.frozen 2
                  have t2 := HS6.out.2.1.cell (j := 2) rfl
                  have v3 := HS6.out.2.1.frozen 3
                  have t3 := HS6.out.2.1.cell (j := 3) rfl
                  have v4 := HS6.out.2.1.frozen 4
                  have t4 := HS6.out.2.1.cell (j := 4) rfl
                  have v5 := HS6.out.2.1.frozen 5
                  have t5 := HS6.out.2.1.cell (j := 5) rfl
                  have v6 := HS6.out.2.1.frozen 6
                  have t6 := HS6.out.2.1.cell (j := 6) rfl
                  have v7 := HS6.out.2.1.frozen 7
                  have t7 := HS6.out.2.1.cell (j := 7) rfl
                  go_upto_region 25 with fail
                  rw [← hW7]
                  clear hW7 e0 e1 e2 e3 e4 e5 v2 t2 v3 t3 v4 t4 v5 t5 v6 t6 v7 t7
                  obtain ⟨WZ, hWZ⟩ : ∃ V : World, V = set9 W7 w.heap.size (.int .i64 0) (.bool true) (.string x.row) (.string x.fam) (.string x.qual) (.int .u64 x.ts) (.int .i64 x.kind) (.string x.val) (.int .i64 ((n : Int) + 1)) := ⟨_, rfl⟩
                  have hBZ := (HS7.out.1).set9 (.int .i64 0) (.bool true) (.string x.row) (.string x.fam) (.string x.qual) (.int .u64 x.ts) (.int .i64 x.kind) (.string x.val) (.int .i64 ((n : Int) + 1))
                  rw [← hWZ] at hBZ
                  have kZ : Below w.heap.size w WZ := by rw [hWZ]; exact below_set9 k7 (Nat.le_refl _) _ _ _ _ _ _ _ _ _
                  have f0 := (HS7.out.1).frozen 0
                  have q0 := (HS7.out.1).cell (j := 0) rfl
                  have o0 := (HS7.out.2).cell (j := 0) rfl
                  have p0 := hBZ.cell (j := 0) rfl
                  have f1 := (HS7.out.1).frozen 1
                  have q1 := (HS7.out.1).cell (j := 1) rfl
                  have o1 := (HS7.out.2).cell (j := 1) rfl
                  have p1 := hBZ.cell (j := 1) rfl
                  have f2 := (HS7.out.1).frozen 2
                  have q2 := (HS7.out.1).cell (j := 2) rfl
                  have o2 := (HS7.out.2).cell (j := 2) rfl
                  have p2 := hBZ.cell (j := 2) rfl
                  have f3 := (HS7.out.1).frozen 3
                  have q3 := (HS7.out.1).cell (j := 3) rfl
                  have o3 := (HS7.out.2).cell (j := 3) rfl
                  have p3 := hBZ.cell (j := 3) rfl
                  have f4 := (HS7.out.1).frozen 4
                  have q4 := (HS7.out.1).cell (j := 4) rfl
                  have o4 := (HS7.out.2).cell (j := 4) rfl
                  have p4 := hBZ.cell (j := 4) rfl
                  have f5 := (HS7.out.1).frozen 5
                  have q5 := (HS7.out.1).cell (j := 5) rfl
                  have o5 := (HS7.out.2).cell (j := 5) rfl
                  have p5 := hBZ.cell (j := 5) rfl
                  have f6 := (HS7.out.1).frozen 6
                  have q6 := (HS7.out.1).cell (j := 6) rfl
                  have o6 := (HS7.out.2).cell (j := 6) rfl
                  have p6 := hBZ.cell (j := 6) rfl
                  have f7 := (HS7.out.1).frozen 7
                  have q7 := (HS7.out.1).cell (j := 7) rfl
                  have o7 := (HS7.out.2).cell (j := 7) rfl
                  have p7 := hBZ.cell (j := 7) rfl
                  have f8 := (HS7.out.1).frozen 8
                  have q8 := (HS7.out.1).cell (j := 8) rfl
                  have o8 := (HS7.out.2).cell (j := 8) rfl
                  have p8 := hBZ.cell (j := 8) rfl
                  unfold set9 at hWZ
                  go_wp2_with fail
                  rw [← hWZ]
                  exact bodyPost_ret (v := (seekM xs row).v) (by rw [HD.out]; simp [results, Tryd.results4, go_sem, zeroE, p0, p1, p2, p3, p4, p5, p6, p7, p8]) rfl ⟨rfl, kZ⟩
                · have HA2 : Hid (∀ x ∈ es.take (j + 1), lessB x.row row = true) := by
                    intro y hy
                    rw [List.take_add_one, HXj.out.1] at hy
                    rcases List.mem_append.1 hy with hy | hy
                    · exact HA.out y hy
                    · simp at hy
                      subst hy
                      exact hl
                  clear hx
                  go_wp2_with fail
                  exact ⟨⟨j + 1, by omega, by go_num, HA2.out, by trivial⟩, by simp [intOf]; omega⟩
              · obtain rfl : j = es.length := by omega
                have zj : ¬ (es.length : Int) < (es.length : Int) := by omega
                have HD : Hid (seekM xs row = seekFrom xs row (bs.drop (k + 1)) (n + 1)) := by
                  show seekM xs row = _
                  have hf : es.find? (fun e => !lessB e.row row) = none := by
                    rw [List.find?_eq_none]
                    intro y hy
                    rw [HA.out y (by rw [List.take_of_length_le (Nat.le_refl _)]; exact hy)]
                    decide
                  rw [HNx.out, hf]
                have HB5 : Hid (BoxAt W5 w9.heap.size 27 9 O [.int .i64 0, .bool false, .string ⟨#[]⟩, .string ⟨#[]⟩, .string ⟨#[]⟩, .int .u64 0, .int .i64 0, .string ⟨#[]⟩, .int .i64 ((n + 1 : Nat) : Int)]) := by
                  have := HS5.out.2.1
                  rw [show ((n : Int) + 1) = ((n + 1 : Nat) : Int) by omega] at this
                  exact this
                clear HNx
                go_wp2_with fail
                exact ⟨⟨k + 1, n + 1, by omega, by omega, by go_num, HD.out, HS5.out.1, HB5.out, r5⟩, by simp [intOf]; omega⟩
        · obtain rfl : k = bs.length := by omega
          have HD : Hid (seekM xs row = ⟨0, false, zeroE, n⟩) := by
            show seekM xs row = _
            rw [HS.out.1, List.drop_of_length_le (Nat.le_refl _)]; rfl
          have zk : ¬ (bs.length : Int) < (bs.length : Int) := by omega
          have HS6 : Hid (BoxAt wr w.heap.size 27 9 w.heap.size [.int .i64 0, .bool false, .string ⟨#[]⟩, .string ⟨#[]⟩, .string ⟨#[]⟩, .int .u64 0, .int .i64 0, .string ⟨#[]⟩, .int .i64 0] ∧ BoxAt wr w9.heap.size 27 9 O [.int .i64 0, .bool false, .string ⟨#[]⟩, .string ⟨#[]⟩, .string ⟨#[]⟩, .int .u64 0, .int .i64 0, .string ⟨#[]⟩, .int .i64 (n : Int)]) := HS.out.2
          clear HS
          go_upto_region 26 with fail
          obtain ⟨WZ, hWZ⟩ : ∃ V : World, V = set9 wr w.heap.size (.int .i64 0) (.bool false) (.string ⟨#[]⟩) (.string ⟨#[]⟩) (.string ⟨#[]⟩) (.int .u64 0) (.int .i64 0) (.string ⟨#[]⟩) (.int .i64 (n : Int)) := ⟨_, rfl⟩
          have hBZ := (HS6.out.1).set9 (.int .i64 0) (.bool false) (.string ⟨#[]⟩) (.string ⟨#[]⟩) (.string ⟨#[]⟩) (.int .u64 0) (.int .i64 0) (.string ⟨#[]⟩) (.int .i64 (n : Int))
          rw [← hWZ] at hBZ
          have kZ : Below w.heap.size w WZ := by rw [hWZ]; exact below_set9 kq (Nat.le_refl _) _ _ _ _ _ _ _ _ _
          have f0 := (HS6.out.1).frozen 0
          have q0 := (HS6.out.1).cell (j := 0) rfl
          have o0 := (HS6.out.2).cell (j := 0) rfl
          have p0 := hBZ.cell (j := 0) rfl
          have f1 := (HS6.out.1).frozen 1
          have q1 := (HS6.out.1).cell (j := 1) rfl
          have o1 := (HS6.out.2).cell (j := 1) rfl
          have p1 := hBZ.cell (j := 1) rfl
          have f2 := (HS6.out.1).frozen 2
          have q2 := (HS6.out.1).cell (j := 2) rfl
          have o2 := (HS6.out.2).cell (j := 2) rfl
          have p2 := hBZ.cell (j := 2) rfl
          have f3 := (HS6.out.1).frozen 3
          have q3 := (HS6.out.1).cell (j := 3) rfl
          have o3 := (HS6.out.2).cell (j := 3) rfl
          have p3 := hBZ.cell (j := 3) rfl
          have f4 := (HS6.out.1).frozen 4
          have q4 := (HS6.out.1).cell (j := 4) rfl
          have o4 := (HS6.out.2).cell (j := 4) rfl
          have p4 := hBZ.cell (j := 4) rfl
          have f5 := (HS6.out.1).frozen 5
          have q5 := (HS6.out.1).cell (j := 5) rfl
          have o5 := (HS6.out.2).cell (j := 5) rfl
          have p5 := hBZ.cell (j := 5) rfl
          have f6 := (HS6.out.1).frozen 6
          have q6 := (HS6.out.1).cell (j := 6) rfl
          have o6 := (HS6.out.2).cell (j := 6) rfl
          have p6 := hBZ.cell (j := 6) rfl
          have f7 := (HS6.out.1).frozen 7
          have q7 := (HS6.out.1).cell (j := 7) rfl
          have o7 := (HS6.out.2).cell (j := 7) rfl
          have p7 := hBZ.cell (j := 7) rfl
          have f8 := (HS6.out.1).frozen 8
          have q8 := (HS6.out.1).cell (j := 8) rfl
          have o8 := (HS6.out.2).cell (j := 8) rfl
          have p8 := hBZ.cell (j := 8) rfl
          unfold set9 at hWZ
          go_wp2_with fail
          rw [← hWZ]
          exact bodyPost_ret (v := (seekM xs row).v) (by rw [HD.out]; simp [results, Tryd.results4, go_sem, zeroE, p0, p1, p2, p3, p4, p5, p6, p7, p8]) rfl ⟨rfl, kZ⟩
end Go.Proofs.YtnncedndlhfdkabDoor

/-
  Parts of impl.SeekRun: its deferred closure, firstFor, slices.IndexFunc with its test.
-/
namespace Go.Proofs.YtnncedndlhfdkabDoor
open Go.ChangeShapes Go.WideShapes Go.ChangeAt Go.RowKit Go.Deep
set_option linter.unusedVariables false
set_option linter.unusedSimpArgs false
set_option maxRecDepth 100000

/-- The cells of an answer that has found nothing. -/
abbrev sk0 (c : Int) (n : Nat) : List Value := [.int .i64 c, .bool false, .string ⟨#[]⟩, .string ⟨#[]⟩, .string ⟨#[]⟩, .int .u64 0, .int .i64 0, .string ⟨#[]⟩, .int .i64 (n : Int)]
set_option maxHeartbeats 4000000 in
theorem sek_catch (base rb : Nat) (c : Int) (n : Nat) (older : List PanicEntry) (w : World) (hg : HandleAt w) (hc : ¬ c = 0) (hbox : BoxAt w base 27 9 rb (sk0 0 n)) :
    CallsD Tryd.prog 11 #[.pointer (some ⟨rb, 0, none⟩)] (.panicking ({ v := corrV c, recovered := false } :: older)) w fun e u' w' =>
      e = .returned (.tuple #[]) ∧ u' = .panicking ({ v := corrV c, recovered := true } :: older) ∧ ∃ w1, Below w.heap.size w w1 ∧ w' = set9 w1 rb (.int .i64 c) (.bool false) (.string ⟨#[]⟩) (.string ⟨#[]⟩) (.string ⟨#[]⟩) (.int .u64 0) (.int .i64 0) (.string ⟨#[]⟩) (.int .i64 (n : Int)) := by
  refine callsD_of_wpS Tryd.func11 rfl fun c₀ cs hu => ?_
  apply wpS_seq
  apply wpS_region
  simp [wpOpsS, go_sem, recoverD, hu, Tryd.ntmps11, Exit.thenS]
  refine (faultCode_corr c w hg).mono ?_
  rintro e w1 ⟨rfl, hb1⟩
  have ht : #[Value.pointer (some ⟨rb, 0, none⟩)] ++ (((Array.replicate 9 undef).setIfInBounds 1 (corrV c)).setIfInBounds 2 (.int .i64 c)).setIfInBounds 0 (.int .i64 c) = #[.pointer (some ⟨rb, 0, none⟩), .int .i64 c, corrV c, .int .i64 c, undef, undef, undef, undef, undef, undef] := by rfl
  simp only []
  rw [ht]
  have hbx := hbox.below hb1
  have d0 := hbx.cell (j := 0) rfl
  have d1 := hbx.cell (j := 1) rfl
  have d2 := hbx.cell (j := 2) rfl
  have d3 := hbx.cell (j := 3) rfl
  have d4 := hbx.cell (j := 4) rfl
  have d5 := hbx.cell (j := 5) rfl
  have d6 := hbx.cell (j := 6) rfl
  have d7 := hbx.cell (j := 7) rfl
  have d8 := hbx.cell (j := 8) rfl
  have g0 := hbx.frozen 0
  have g1 := hbx.frozen 1
  have g2 := hbx.frozen 2
  have g3 := hbx.frozen 3
  have g4 := hbx.frozen 4
  have g5 := hbx.frozen 5
  have g6 := hbx.frozen 6
  have g7 := hbx.frozen 7
  have g8 := hbx.frozen 8
  have HB : Hid (Below w.heap.size w w1) := hb1
  clear ht hbox hbx hb1 hg
  refine wpS_of_wp ?_
  go_wp2_with fail
  exact ⟨rfl, _, rfl, _, by simp [results, Tryd.results11], rfl, rfl, w1, HB.out, rfl⟩

set_option maxHeartbeats 2000000 in
theorem sek_idle (rb : Nat) (w : World) :
    CallsD Tryd.prog 11 #[.pointer (some ⟨rb, 0, none⟩)] .returning w fun e u' w' => e = .returned (.tuple #[]) ∧ u' = .returning ∧ w' = w := by
  refine callsD_of_wpS Tryd.func11 rfl fun c₀ cs hu => ?_
  apply wpS_seq
  apply wpS_region
  simp [wpOpsS, go_sem, recoverD, hu, Tryd.ntmps11, Exit.thenS]
  refine (faultCode_nil w).mono ?_
  rintro e w1 ⟨rfl, rfl⟩
  have ht : #[Value.pointer (some ⟨rb, 0, none⟩)] ++ (((Array.replicate 9 undef).setIfInBounds 1 .nilIface).setIfInBounds 2 (.int .i64 0)).setIfInBounds 0 (.int .i64 0) = #[.pointer (some ⟨rb, 0, none⟩), .int .i64 0, .nilIface, .int .i64 0, undef, undef, undef, undef, undef, undef] := by rfl
  simp only []
  rw [ht]
  clear ht
  refine wpS_of_wp ?_
  go_wp2_with fail
  refine ⟨rfl, .returning, ?_, _, by simp [results, Tryd.results11], rfl, rfl, rfl⟩
  cases c₀
  simp_all

/-- What SeekRun hands back. -/
def SekPost (w : World) (xs : List UInt8) (row : ByteArray) (e : Ending) (w' : World) : Prop := e = .returned (seekM xs row).v ∧ Below w.heap.size w w'
theorem sek_res {base rb : Nat} {wq : World} {a : Act} {s : Sk} (ht : a.tmps.getD 4 undef = .pointer (some ⟨rb, 0, none⟩)) (hb : BoxAt wq base 27 9 rb s.cells) : (results Tryd.f6 a.tmps).run Tryd.prog wq = .ok s.v wq := by
  have p0 := hb.cell (j := 0) rfl
  have p1 := hb.cell (j := 1) rfl
  have p2 := hb.cell (j := 2) rfl
  have p3 := hb.cell (j := 3) rfl
  have p4 := hb.cell (j := 4) rfl
  have p5 := hb.cell (j := 5) rfl
  have p6 := hb.cell (j := 6) rfl
  have p7 := hb.cell (j := 7) rfl
  have p8 := hb.cell (j := 8) rfl
  have ht2 : a.tmps[4]?.getD undef = .pointer (some ⟨rb, 0, none⟩) := by rw [← Array.getD_eq_getD_getElem?]; exact ht
  simp [results, Tryd.results6, go_sem, ht2, p0, p1, p2, p3, p4, p5, p6, p7, p8]
/-- Every panic of SeekRun ends in its code. -/
theorem sek_dies (xs : List UInt8) (row : ByteArray) (w wq : World) (a : Act) (c : Int) (n rb : Nat) (hr : w.heap.size ≤ rb) (hd : a.defers = [{ target := Target.fn (Fn.func 11) #[.pointer (some ⟨rb, 0, none⟩)], args := #[] }]) (ht : a.tmps.getD 4 undef = .pointer (some ⟨rb, 0, none⟩))
    (hM : seekM xs row = ⟨c, false, zeroE, n⟩) (hc : ¬ c = 0) (hbox : BoxAt wq w.heap.size 27 9 rb (sk0 0 n)) (hH : HandleAt wq) (hB : Below w.heap.size w wq) :
    bodyPostD Tryd.prog Tryd.f6 (fun e w' => SekPost w xs row e w') (.panic [{ v := corrV c, recovered := false }]) a wq := by
  show Leaves Tryd.prog Tryd.f6 a.tmps (fun e w' => SekPost w xs row e w') a.defers (.panicking [{ v := corrV c, recovered := false }]) wq
  rw [hd]
  refine leaves_cons (f := 11) (args := #[.pointer (some ⟨rb, 0, none⟩)]) (by simp) (by simp [go_sem]) ?_
  refine (sek_catch w.heap.size rb c n [] wq hH hc hbox).mono ?_
  rintro e u' w'' ⟨rfl, rfl, w1, hb1, rfl⟩
  have hbx := (hbox.below hb1).set9 (.int .i64 c) (.bool false) (.string ⟨#[]⟩) (.string ⟨#[]⟩) (.string ⟨#[]⟩) (.int .u64 0) (.int .i64 0) (.string ⟨#[]⟩) (.int .i64 (n : Int))
  have hb2 : Below w.heap.size w (set9 w1 rb (.int .i64 c) (.bool false) (.string ⟨#[]⟩) (.string ⟨#[]⟩) (.string ⟨#[]⟩) (.int .u64 0) (.int .i64 0) (.string ⟨#[]⟩) (.int .i64 (n : Int))) :=
    below_set9 (hB.trans (hb1.mono hB.size)) hr _ _ _ _ _ _ _ _ _
  show Leaves Tryd.prog Tryd.f6 a.tmps (fun e w' => SekPost w xs row e w') [] (settle (.panicking [{ v := corrV c, recovered := true }])) _
  refine ⟨(seekM xs row).v, ?_, rfl, hb2⟩
  rw [hM]
  exact sek_res (s := ⟨c, false, zeroE, n⟩) ht hbx
/-- SeekRun returns. -/
theorem sek_done (xs : List UInt8) (row : ByteArray) (w wq : World) (a : Act) (rb : Nat) (hd : a.defers = [{ target := Target.fn (Fn.func 11) #[.pointer (some ⟨rb, 0, none⟩)], args := #[] }]) (ht : a.tmps.getD 4 undef = .pointer (some ⟨rb, 0, none⟩))
    (hbox : BoxAt wq w.heap.size 27 9 rb (seekM xs row).cells) (hB : Below w.heap.size w wq) :
    bodyPostD Tryd.prog Tryd.f6 (fun e w' => SekPost w xs row e w') .ret a wq := by
  show Leaves Tryd.prog Tryd.f6 a.tmps (fun e w' => SekPost w xs row e w') a.defers .returning wq
  rw [hd]
  refine leaves_cons (f := 11) (args := #[.pointer (some ⟨rb, 0, none⟩)]) (by simp) (by simp [go_sem]) ?_
  refine (sek_idle rb wq).mono ?_
  rintro e u' w'' ⟨rfl, rfl, rfl⟩
  show Leaves Tryd.prog Tryd.f6 a.tmps (fun e w' => SekPost w xs row e w') [] (settle .returning) w''
  exact ⟨_, sek_res ht hbox, rfl, hB⟩

set_option maxHeartbeats 2000000 in
theorem firstFor_core (f : FileAt) (fb gb cpb base : Nat) (bs : List Blk) (row : ByteArray) (w : World) (hc : w.cell? ⟨fb, 256, none⟩ = some (.slice (some ⟨gb, 0, none⟩) bs.length cpb)) (hO : OwnF f w base gb cpb bs) (hn : bs.length ≤ 10000) :
    Calls Tryd.prog 14 #[.pointer (some ⟨fb, 0, none⟩), .string row] w fun e w' => e = .returned (.int .i64 (firstTo bs row bs.length : Int)) ∧ Below w.heap.size w w' := by
  have HO : Hid (OwnF f w base gb cpb bs) := hO
  clear hO
  go_enter Tryd.func14, Tryd.ntmps14
  go_wp2_with fail
  go_loopw [5, 13] (fun fv kk wr => ∃ (k F : Nat), k ≤ bs.length ∧ F = firstTo bs row k ∧ fv = .int .i64 (F : Int) ∧ kk = .int .i64 (k : Int) ∧ Below w.heap.size w wr) (fun _ kk _ => bs.length - (intOf kk).toNat)
  case atStart => exact ⟨0, 0, Nat.zero_le _, rfl, rfl, rfl, Below.refl _ _⟩
  case round =>
    obtain ⟨k, F, hk, hF, rfl, rfl, hb⟩ := hrel
    have HF : Hid (F = firstTo bs row k) := hF
    have hs := hb.size
    clear hF
    by_cases hlt : k < bs.length
    · obtain ⟨x, hx⟩ : ∃ x, bs[k]? = some x := ⟨_, List.getElem?_eq_getElem hlt⟩
      obtain ⟨c0, c1, c2, c3⟩ := (HO.out.chg (S := fun j => w.heap.size ≤ j) ⟨hb.os, hb.tape, hb.output, hb.size, fun i hi _ => hb.block i hi⟩ (by have := HO.out.lt; omega)).at hx
      have HX : Hid (bs[k]? = some x) := hx
      have zk : (k : Int) < (bs.length : Int) := by omega
      obtain ⟨W2, hW2⟩ : ∃ W2 : World, W2 = wr.alloc (Obj.cells #[.slice (some ⟨f.b, f.off + x.fr, none⟩) (x.til - x.fr) (f.cap - x.fr), .int .u32 (fixAt f.xs x.til : Int), .int .i64 (x.count : Int), .string x.row] 51) := ⟨_, rfl⟩
      have hb2 : Below w.heap.size w W2 := by rw [hW2]; exact hb.trans ((Below.refl _ _).alloc (by omega) _)
      clear hx
      cases hl : Op.bytesLess x.row.toList row.toList
      · have HN : Hid (F = firstTo bs row (k + 1)) := by rw [firstTo, HX.out, HF.out]; show firstTo bs row k = if Op.bytesLess x.row.toList row.toList = true then k else firstTo bs row k; rw [hl]; rfl
        go_wp2_with fail
        rw [← hW2]
        go_roundw
        case rel => exact ⟨k + 1, F, by omega, HN.out, rfl, by go_num, hb2⟩
        case measure => simp [intOf]; omega
      · have HN : Hid (k = firstTo bs row (k + 1)) := by rw [firstTo, HX.out]; show k = if Op.bytesLess x.row.toList row.toList = true then k else firstTo bs row k; rw [hl]; rfl
        go_wp2_with fail
        rw [← hW2]
        go_roundw
        case rel => exact ⟨k + 1, k, by omega, HN.out, rfl, by go_num, hb2⟩
        case measure => simp [intOf]; omega
    · obtain rfl : k = bs.length := by omega
      have zk : ¬ ((bs.length : Nat) : Int) < (bs.length : Int) := by omega
      go_wp2_with fail
      go_ret
      exact ⟨by rw [← HF.out]; rfl, hb⟩

set_option maxHeartbeats 1000000 in
theorem sekTest_any (e : Ent) (rb : Nat) (row : ByteArray) (w : World) (hr : w.cell? ⟨rb, 0, none⟩ = some (.string row)) (hlt : rb < w.heap.size) :
    Calls Tryd.prog 17 #[e.v, .pointer (some ⟨rb, 0, none⟩)] w fun r w' => r = .returned (.bool (!lessB e.row row)) ∧ Below w.heap.size w w' := by
  unfold Ent.v lessB
  obtain ⟨W2, hW2⟩ : ∃ W2 : World, W2 = w.alloc (Obj.cells #[.string e.row, .string e.fam, .string e.qual, .int .u64 e.ts, .int .i64 e.kind, .string e.val] 25) := ⟨_, rfl⟩
  have hb2 : Below w.heap.size w W2 := by rw [hW2]; exact (Below.refl _ _).alloc (Nat.le_refl _) _
  have c0 : W2.cell? ⟨w.heap.size, 0, none⟩ = some (.string e.row) := by rw [hW2]; simp
  have c1 : W2.cell? ⟨rb, 0, none⟩ = some (.string row) := (hb2.cell (p := ⟨rb, 0, none⟩) hlt).trans hr
  clear hr
  go_enter Tryd.func17, Tryd.ntmps17
  go_upto_region 1 with fail
  rw [← hW2]
  clear hW2
  go_wp2_with fail
  go_ret
  exact ⟨by first | rfl | simp, hb2⟩
end Go.Proofs.YtnncedndlhfdkabDoor

/-
  slices.IndexFunc with SeekRun's test.
-/
namespace Go.Proofs.YtnncedndlhfdkabDoor
open Go.ChangeShapes Go.WideShapes Go.ChangeAt Go.RowKit Go.Deep
set_option linter.unusedVariables false
set_option linter.unusedSimpArgs false
set_option maxRecDepth 100000

theorem find_at {es : List Ent} {f : Ent → Bool} {k : Nat} {x : Ent} (h : ∀ (j : Nat) y, j < k → es[j]? = some y → f y = false) (hx : es[k]? = some x) (hf : f x = true) : es.find? f = some x := by
  induction es generalizing k with
  | nil => simp at hx
  | cons e es ih =>
    cases k with
    | zero => simp at hx; subst hx; simp [hf]
    | succ k =>
      have h0 := h 0 e (by omega) rfl
      rw [List.find?_cons, h0]
      exact ih (k := k) (fun j y hj hy => h (j + 1) y (by omega) (by simpa using hy)) (by simpa using hx)
theorem find_no {es : List Ent} {f : Ent → Bool} (h : ∀ (j : Nat) y, es[j]? = some y → f y = false) : es.find? f = none := by
  rw [List.find?_eq_none]
  intro x hx
  obtain ⟨j, hj⟩ := List.getElem?_of_mem hx
  rw [h j x hj]; simp
/-- The first entry whose row is not below. -/
def firstGe (es : List Ent) (row : ByteArray) : Option Ent := es.find? (fun e => !lessB e.row row)
set_option maxHeartbeats 4000000 in
theorem sekIdx_core (b off cap : Nat) (es : List Ent) (rb : Nat) (row : ByteArray) (w : World) (hE : EntsAt w b off es) (hB : b < w.heap.size) (hr : w.cell? ⟨rb, 0, none⟩ = some (.string row)) (hrl : rb < w.heap.size) (hn : es.length ≤ 100000) :
    Calls Tryd.prog 16 #[.slice (some ⟨b, off, none⟩) es.length cap, .func (.func 17) #[] #[.pointer (some ⟨rb, 0, none⟩)]] w fun e w' => Below w.heap.size w w' ∧
      ((∃ (i : Nat) (x : Ent), es[i]? = some x ∧ firstGe es row = some x ∧ e = .returned (.int .i64 (i : Int))) ∨ (firstGe es row = none ∧ e = .returned (.int .i64 (-1)))) := by
  have HE : Hid (EntsAt w b off es ∧ w.cell? ⟨rb, 0, none⟩ = some (.string row)) := ⟨hE, hr⟩
  clear hE hr
  go_enter Tryd.func16, Tryd.ntmps16
  go_wp2_with fail
  go_loopw [8] (fun iv wr => ∃ (k : Nat), k ≤ es.length ∧ iv = .int .i64 (k : Int) ∧ (∀ (j : Nat) y, j < k → es[j]? = some y → (!lessB y.row row) = false) ∧ Below w.heap.size w wr) (fun iv _ => es.length - (intOf iv).toNat)
  case atStart => exact ⟨0, Nat.zero_le _, rfl, fun j y hj => by omega, Below.refl _ _⟩
  case round =>
    obtain ⟨k, hk, rfl, hF, hb⟩ := hrel
    have HF : Hid (∀ (j : Nat) y, j < k → es[j]? = some y → (!lessB y.row row) = false) := hF
    have hs := hb.size
    clear hF
    by_cases hlt : k < es.length
    · obtain ⟨x, hx⟩ : ∃ x, es[k]? = some x := ⟨_, List.getElem?_eq_getElem hlt⟩
      have HX : Hid (es[k]? = some x) := hx
      obtain ⟨c0, c1, c2, c3, c4, c5⟩ := HE.out.1.below hb hB k x hx
      have zk : (k : Int) < (es.length : Int) := by omega
      clear hx
      obtain ⟨t, ht⟩ : ∃ t, t = (!lessB x.row row) := ⟨_, rfl⟩
      have HT : Hid ((!lessB x.row row) = t) := ht.symm
      have HC : Hid (Calls Tryd.prog 17 #[x.v, .pointer (some ⟨rb, 0, none⟩)] wr fun r w' => r = .returned (.bool t) ∧ Below wr.heap.size wr w') := by
        rw [ht]
        exact sekTest_any x rb row wr ((hb.cell (p := ⟨rb, 0, none⟩) hrl).trans HE.out.2) (by omega)
      clear ht
      go_wp2_with fail
      refine HC.out.mono ?_
      rintro e w1 ⟨rfl, hb1⟩
      have hb2 := hb.trans (hb1.mono hs)
      cases t
      · go_wp2_with fail
        go_roundw
        case rel =>
          refine ⟨k + 1, by omega, by go_num, fun j y hj hy => ?_, hb2⟩
          by_cases hjk : j = k
          · subst hjk
            rw [HX.out] at hy
            cases hy
            exact HT.out
          · exact HF.out j y (by omega) hy
        case measure => simp [intOf]; omega
      · go_wp2_with fail
        go_ret
        exact ⟨hb2, .inl ⟨k, x, HX.out, find_at HF.out HX.out HT.out, rfl⟩⟩
    · have zk : ¬ (k : Int) < (es.length : Int) := by omega
      have HN : Hid (firstGe es row = none) := find_no (fun j y hy => HF.out j y (by have := (List.getElem?_eq_some_iff.1 hy).1; omega) hy)
      go_wp2_with fail
      go_ret
      exact ⟨hb, .inr ⟨HN.out, rfl⟩⟩
end Go.Proofs.YtnncedndlhfdkabDoor

/-
  The deferred closure of impl.DecodeRun.
-/
namespace Go.Proofs.YtnncedndlhfdkabDoor
open Go.ChangeShapes Go.WideShapes Go.ChangeAt Go.RowKit Go.Deep
set_option linter.unusedVariables false
set_option linter.unusedSimpArgs false
set_option maxRecDepth 100000

end Go.Proofs.YtnncedndlhfdkabDoor

/-
  impl.DecodeRun.
-/
namespace Go.Proofs.YtnncedndlhfdkabDoor
open Go.ChangeShapes Go.WideShapes Go.ChangeAt Go.RowKit Go.Deep
set_option linter.unusedVariables false
set_option linter.unusedSimpArgs false
set_option maxRecDepth 100000

theorem blkM_fre {xs : List UInt8} {k : Blk} : blkM xs k = freM (fixAt xs k.til) k.count (bl k.row) (span xs k.fr k.til) := rfl
theorem decM_idx {xs : List UInt8} (h : (idxM xs).1 ≠ 0) : decM xs = ((idxM xs).1, []) := by unfold decM; rw [if_pos h]

theorem step_append_entsA {ops : Array Oper} {o : Oper} {a : Act} {K : Act → World → Prop} {Q : Exit → Act → World → Prop} {E : Prop} (w : World) (hgd : o.guard = none) (s x : Operand)
    (ho : o.op = .call { callee := .builtin .append, args := #[s, x], argTypes := #[38, 38] })
    (base g cp n b m cx : Nat) (fs es : List Ent) (hn : n = fs.length) (hm : m = es.length) (hm0 : 0 < m) (hs : a.eval s = .slice (some ⟨g, 0, none⟩) n cp) (hx : a.eval x = .slice (some ⟨b, 0, none⟩) m cx) (hO : OwnE w base g cp fs)
    (hc : EntsAt w b 0 es) (hlen : fs.length + es.length ≤ 2 ^ 30) (hbase : base ≤ w.heap.size)
    (h : ∀ g' cp' w', OwnE w' base g' cp' (fs ++ es) → w.grownBy w' (some g) → (g = g' ∨ g' = w.heap.size) → K (a.put o.dst (.slice (some ⟨g', 0, none⟩) (n + m) cp')) w') : if Region.wanted o (yielded ops a.tmps) = true then Oper.wp Tryd.prog o a w K Q else E := by
  subst hn hm
  obtain ⟨i, hi, hz0, hz1, hz2⟩ := info_parts Tryd.infoEnt
  refine step_append_lies w hgd s x 38 ho base 25 i _ 6 80 Tryd.underlying38 hi hz0 hz1 hz2 rfl (by decide) (.slice (some ⟨g, 0, none⟩) fs.length cp) fs.length (cellsE fs) hs hO ⟨b, 0, none⟩ es.length cx (cellsE es) hx (length_cellsE es) (cells_of_ents hc) (one_cells es) hm0 ?_ ?_ hbase w.heap.size rfl ?_
  · unfold maxLen; omega
  · omega
  · intro g' cp' w' hO' hgr hat hlt
    refine h g' cp' w' ?_ hgr ?_
    · unfold OwnE
      rw [List.length_append, cellsE_append]
      exact hO'
    · rcases hat with q | q
      · exact .inl (by simpa [Value.ownBlock] using q)
      · exact .inr q

/-- The first error decides. -/
theorem decBlks_pre (xs : List UInt8) : ∀ (l k : List Blk), (decBlks xs l).1 ≠ 0 → decBlks xs (l ++ k) = decBlks xs l
  | [], k, h => absurd rfl h
  | b :: l, k, h => by
    by_cases h1 : (blkM xs b).1 = 0
    · have hl : (decBlks xs l).1 ≠ 0 := by
        intro q
        rw [decBlks, if_neg (fun z => z h1), if_neg (fun z => z q)] at h
        exact h rfl
      have ih := decBlks_pre xs l k hl
      show decBlks xs (b :: (l ++ k)) = _
      simp only [decBlks]
      rw [ih]
    · show decBlks xs (b :: (l ++ k)) = _
      simp only [decBlks]
      rw [if_pos h1, if_pos h1]
/-- A region in which a block cannot be read. -/
theorem wp_region_ents {id : Nat} {Q : Exit → Act → World → Prop} {a : Act} {w : World} {l : List Oper} (n : Nat) (d : Tmp) (fb rb : Nat) (bv : Array Value) {tys : Array TypeId} {ty : TypeId} {pos : String} {aft : Array Edge}
    (ho : l = l.take n ++ ⟨some d, .call { callee := .value (.func 15), args := #[.tmp 3, .tmp 21], argTypes := tys }, ty, pos, aft, none⟩ :: l.drop (n + 1))
    (hB : ∀ m, Region.lexB .any (l.take n ++ (⟨some d, .call { callee := .value (.func 15), args := #[.tmp 3, .tmp 21], argTypes := tys }, ty, pos, aft, none⟩ :: l.drop (n + 1)).map (fk m)).toArray = true)
    (hB2 : waitsB (l.take n) ⟨some d, .call { callee := .value (.func 15), args := #[.tmp 3, .tmp 21], argTypes := tys }, ty, pos, aft, none⟩ (l.drop (n + 1)) d [3, 21, 2] = true)
    (hc : ∀ w', Below w.heap.size w w' → Calls Tryd.prog 15 #[.pointer (some ⟨fb, 0, none⟩), .agg bv] w' fun e w'' => ∃ chain, e = .panicked chain ∧ ∀ a' : Act, a'.defers = a.defers → a'.tmps.getD 2 undef = .pointer (some ⟨rb, 0, none⟩) → Q (.panic chain) a' w'')
    (h : ∀ m, wpQuiet Tryd.prog (l.take n ++ (⟨some d, .call { callee := .value (.func 15), args := #[.tmp 3, .tmp 21], argTypes := tys }, ty, pos, aft, none⟩ :: l.drop (n + 1)).map (fk m)).toArray (fun w' => ∃ n : Out w, w' = n.u) (fun a' => a'.tmps.getD d undef = m ∧ ∀ p ∈ [((3 : Tmp), Value.pointer (some ⟨fb, 0, none⟩)), (21, .agg bv), (2, .pointer (some ⟨rb, 0, none⟩))], a'.tmps.getD p.1 undef = p.2) (l.take n ++ (⟨some d, .call { callee := .value (.func 15), args := #[.tmp 3, .tmp 21], argTypes := tys }, ty, pos, aft, none⟩ :: l.drop (n + 1)).map (fk m)) a) :
    (Code.region id l.toArray true).wp Tryd.prog Q a w := by
  refine wp_region_dies (C := fun w' => ∃ n : Out w, w' = n.u) (l.take n) _ (l.drop (n + 1)) d [((3 : Tmp), Value.pointer (some ⟨fb, 0, none⟩)), (21, .agg bv), (2, .pointer (some ⟨rb, 0, none⟩))] l ho (by kernel_rfl) hB hB2 rfl rfl ⟨⟨_, (Below.refl _ _).drew⟩, rfl⟩ h ?_
  rintro a' w' K ⟨n, rfl⟩ hd hp
  have h1 : a'.tmps.getD 3 undef = .pointer (some ⟨fb, 0, none⟩) := hp (3, _) (by simp)
  have h2 : a'.tmps.getD 21 undef = .agg bv := hp (21, _) (by simp)
  have h3 : a'.tmps.getD 2 undef = .pointer (some ⟨rb, 0, none⟩) := hp (2, _) (by simp)
  unfold Oper.wp
  have hrun : (execOp a'.eval ⟨some d, .call { callee := .value (.func 15), args := #[.tmp 3, .tmp 21], argTypes := tys }, ty, pos, aft, none⟩).run Tryd.prog n.u = .ok (.enter 15 #[.pointer (some ⟨fb, 0, none⟩), .agg bv]) n.u := by
    have h4 : a'.tmps[3]?.getD undef = .pointer (some ⟨fb, 0, none⟩) := by rw [← Array.getD_eq_getD_getElem?]; exact h1
    have h5 : a'.tmps[21]?.getD undef = .agg bv := by rw [← Array.getD_eq_getD_getElem?]; exact h2
    simp [execOp, h4, h5, go_sem, Act.eval, Tryd.func15]
  rw [hrun, Oper.upon_enter]
  refine (hc n.u n.out).mono ?_
  rintro e w'' ⟨chain, rfl, hq⟩
  exact hq a' hd h3

theorem TabAt.chg {S : Nat → Prop} {w w' : World} {b off : Nat} (h : TabAt w b off) (hc : Chg S w w') (hlt : b < w.heap.size) (hn : ¬ S b) : TabAt w' b off := by
  intro i hi
  rw [hc.cell (p := ⟨b, off + i, none⟩) hlt hn]
  exact h i hi
theorem HandleAt.chg {S : Nat → Prop} {w w' : World} (h : HandleAt w) (hc : Chg S w w') (hn : ¬ S 0) : HandleAt w' := by
  have hl := h.lt
  unfold HandleAt at h ⊢
  rw [hc.cell (p := ⟨0, 0, none⟩) hl hn]
  exact h
end Go.Proofs.YtnncedndlhfdkabDoor

/-
  impl.SeekRun.
-/
namespace Go.Proofs.YtnncedndlhfdkabDoor
open Go.ChangeShapes Go.WideShapes Go.ChangeAt Go.RowKit Go.Deep
set_option linter.unusedVariables false
set_option linter.unusedSimpArgs false
set_option maxRecDepth 100000

/-- Between two blocks. -/
structure SekJ (f : FileAt) (w wr : World) (fb : Nat) (bs : List Blk) (gb cpb : Nat) (row : ByteArray) (n : Nat) : Prop where
  res : BoxAt wr w.heap.size 27 9 (w.heap.size + 1) (sk0 0 n)
  rowc : wr.cell? ⟨w.heap.size, 0, none⟩ = some (.string row)
  tab : TabAt wr fb 0
  blks : OwnF f wr w.heap.size gb cpb bs
  hand : HandleAt wr
  bys : BysAt wr f.b f.off f.xs
  below : Below w.heap.size w wr
  lts : w.heap.size + 1 < fb ∧ fb < wr.heap.size ∧ w.heap.size + 1 < gb ∧ 0 < w.heap.size ∧ f.b < w.heap.size
theorem SekJ.grow {f : FileAt} {w wr w' : World} {fb : Nat} {bs : List Blk} {gb cpb : Nat} {row : ByteArray} {n : Nat} (h : SekJ f w wr fb bs gb cpb row n) (hb : Below wr.heap.size wr w') : SekJ f w w' fb bs gb cpb row n := by
  have hl := h.lts
  have hs := hb.size
  exact ⟨h.res.below hb, (hb.cell (p := ⟨w.heap.size, 0, none⟩) (by show w.heap.size < _; omega)).trans h.rowc, h.tab.below hb (by omega), h.blks.below hb, h.hand.below hb (by omega), h.bys.below hb (by omega), h.below.trans (hb.mono h.below.size), by omega⟩
/-- One block more is counted. -/
theorem SekJ.count {f : FileAt} {w wr : World} {fb : Nat} {bs : List Blk} {gb cpb : Nat} {row : ByteArray} {n : Nat} (h : SekJ f w wr fb bs gb cpb row n) : SekJ f w (wr.setCell ⟨w.heap.size + 1, 8, none⟩ (.int .i64 ((n : Int) + 1))) fb bs gb cpb row (n + 1) := by
  have hl := h.lts
  have hc := Chg.of_set wr (w.heap.size + 1) 8 (.int .i64 ((n : Int) + 1)) (S := fun k => k = w.heap.size + 1) rfl
  refine ⟨h.res.set 8 _, (hc.cell (p := ⟨w.heap.size, 0, none⟩) (by show w.heap.size < _; omega) (by show ¬ w.heap.size = _; omega)).trans h.rowc, h.tab.chg hc (by omega) (by omega), h.blks.chg hc (by omega), h.hand.chg hc (by omega), h.bys.chgR hc (by omega) (by omega), below_set h.below (by omega) 8 _, by rw [size_set]; omega⟩
theorem seek_idx {xs : List UInt8} {row : ByteArray} (h : (idxM xs).1 ≠ 0) : seekM xs row = ⟨(idxM xs).1, false, zeroE, 0⟩ := by unfold seekM; rw [if_pos h]
theorem seek_bad {xs : List UInt8} {row : ByteArray} {bs : List Blk} {k n : Nat} {x : Blk} (hx : bs[k]? = some x) (h : ¬ (blkM xs x).1 = 0) : seekFrom xs row (bs.drop k) n = ⟨(blkM xs x).1, false, zeroE, n + 1⟩ := by
  have hk := (List.getElem?_eq_some_iff.1 hx).1
  rw [List.drop_eq_getElem_cons hk, (List.getElem?_eq_some_iff.1 hx).2, seekFrom, if_pos h]
theorem seek_hit {xs : List UInt8} {row : ByteArray} {bs : List Blk} {k n : Nat} {x : Blk} {e : Ent} (hx : bs[k]? = some x) (h : (blkM xs x).1 = 0) (he : firstGe (blkM xs x).2 row = some e) : seekFrom xs row (bs.drop k) n = ⟨0, true, e, n + 1⟩ := by
  have hk := (List.getElem?_eq_some_iff.1 hx).1
  rw [List.drop_eq_getElem_cons hk, (List.getElem?_eq_some_iff.1 hx).2, seekFrom, if_neg (fun q => q h)]
  unfold firstGe at he
  rw [he]
theorem seek_next {xs : List UInt8} {row : ByteArray} {bs : List Blk} {k n : Nat} {x : Blk} (hx : bs[k]? = some x) (h : (blkM xs x).1 = 0) (he : firstGe (blkM xs x).2 row = none) : seekFrom xs row (bs.drop k) n = seekFrom xs row (bs.drop (k + 1)) (n + 1) := by
  have hk := (List.getElem?_eq_some_iff.1 hx).1
  rw [List.drop_eq_getElem_cons hk, (List.getElem?_eq_some_iff.1 hx).2, seekFrom, if_neg (fun q => q h)]
  unfold firstGe at he
  rw [he]
theorem seek_end {xs : List UInt8} {row : ByteArray} {bs : List Blk} {k n : Nat} (hk : bs.length ≤ k) : seekFrom xs row (bs.drop k) n = ⟨0, false, zeroE, n⟩ := by
  rw [List.drop_of_length_le hk]; rfl

set_option maxHeartbeats 8000000 in
theorem implSeek_core (f : FileAt) (row : ByteArray) (w : World) (hg : HandleAt w) (hE : BysAt w f.b f.off f.xs) (hb : f.b < w.heap.size) (hl : f.xs.length ≤ 2 ^ 29) (hcap : f.xs.length ≤ f.cap) (hcm : f.cap ≤ maxLen) :
    Calls Tryd.prog 6 #[.slice (some ⟨f.b, f.off, none⟩) f.xs.length f.cap, .string row] w fun e w' => SekPost w f.xs row e w' := by
  have hmf : ∀ (fn : Fn) (first cap : Array Value) (w : World), (Instr.makeFunc fn first cap).run Tryd.prog w = .ok (.func fn first cap) w := fun _ _ _ _ => rfl
  obtain ⟨W, hW⟩ : ∃ W : World, W = (w.alloc (Obj.cells #[.string row] 9)).alloc (Obj.cells #[.int .i64 0, .bool false, .string ⟨#[]⟩, .string ⟨#[]⟩, .string ⟨#[]⟩, .int .u64 0, .int .i64 0, .string ⟨#[]⟩, .int .i64 0] 27) := ⟨_, rfl⟩
  have HW : Hid (Below w.heap.size w W ∧ BoxAt W w.heap.size 27 9 (w.heap.size + 1) (sk0 0 0) ∧ HandleAt W ∧ BysAt W f.b f.off f.xs ∧ W.heap.size = w.heap.size + 2 ∧ W.cell? ⟨w.heap.size, 0, none⟩ = some (.string row)) := by
    have h1 : Below w.heap.size w W := by rw [hW]; exact ((Below.refl _ _).alloc (Nat.le_refl _) _).alloc (by simp) _
    refine ⟨h1, ?_, hg.below h1 hg.lt, hE.below h1 hb, by rw [hW]; simp, ?_⟩
    · rw [hW]
      have := boxAt_new (w.alloc (Obj.cells #[.string row] 9)) (base := w.heap.size) (t := 27) (sz := 9) #[.int .i64 0, .bool false, .string ⟨#[]⟩, .string ⟨#[]⟩, .string ⟨#[]⟩, .int .u64 0, .int .i64 0, .string ⟨#[]⟩, .int .i64 0] (by simp) rfl
      simp at this
      exact this
    · rw [hW, World.cell?_alloc_lt _ _ ⟨w.heap.size, 0, none⟩ (by simp)]; simp
  have HN : Hid (f.b < w.heap.size ∧ f.xs.length ≤ 2 ^ 29 ∧ f.xs.length ≤ f.cap ∧ f.cap ≤ maxLen ∧ 0 < w.heap.size) := ⟨hb, hl, hcap, hcm, hg.lt⟩
  clear hg hE hb hl hcap hcm
  go_enter_defers Tryd.func6, Tryd.ntmps6
  go_upto_region 2 with fail
  rw [← hW]
  clear hW
  go_wp2_with fail
  refine (openFile_core f W HW.out.2.2.2.1 (by have := HN.out; have := HW.out.1.size; omega) HN.out.2.1 HN.out.2.2.1 HN.out.2.2.2.1).mono ?_
  rintro e w1 ⟨hb1, (⟨hR0, gb, cpb, rfl, hO1⟩ | ⟨hR0, rfl⟩)⟩
  case inr =>
    exact sek_dies f.xs row w w1 _ _ 0 (w.heap.size + 1) (by omega) rfl rfl (seek_idx hR0) hR0 (HW.out.2.1.below hb1) (HW.out.2.2.1.below hb1 (by have := HN.out; have := HW.out.1.size; omega)) (HW.out.1.trans (hb1.mono HW.out.1.size))
  obtain ⟨bs, hbs⟩ : ∃ bs, bs = (idxM f.xs).2 := ⟨_, rfl⟩
  rw [← hbs] at hO1
  rw [← hbs]
  have HBs : Hid (bs = (idxM f.xs).2 ∧ (idxM f.xs).1 = 0) := ⟨hbs, hR0⟩
  clear hbs hR0
  obtain ⟨sv, hsv⟩ : ∃ sv : Value, sv = .slice (some ⟨gb, 0, none⟩) bs.length cpb := ⟨_, rfl⟩
  rw [← hsv]
  have hone : (fileR sv).all (·.oneCell') = true := fileR_one _ (by rw [hsv]; rfl)
  have HSv : Hid (sv = .slice (some ⟨gb, 0, none⟩) bs.length cpb) := hsv
  clear hsv
  have hzv := (zero_of_info info_fr).1
  have hsz := fileR_size sv
  have hsc := run_storeCells_new (P := Tryd.prog) w1 47 ((Array.replicate 256 (.int .u32 0)).push (.slice none 0 0)) (fileR sv) (by rw [fileR_size]; exact (zero_of_info info_fr).2) (by rw [fileR_size]; simp) hone
  have HO1 : Hid (OwnF f w1 W.heap.size gb cpb bs ∧ Below W.heap.size W w1) := ⟨hO1, hb1⟩
  clear hO1 hb1 hone
  obtain ⟨W2, hW2⟩ : ∃ W2 : World, W2 = w1.alloc (.cells (fileR sv) 47) := ⟨_, rfl⟩
  have c256 : W2.cell? ⟨w1.heap.size, 256, none⟩ = some sv := by
    rw [hW2, cell_of_row _ _ 256 _ _ _ (heap_alloc_last w1 _)]
    exact fileR_last sv
  have HIn : Hid ((∀ k ∈ bs, k.in f.xs.length) ∧ bs.length ≤ 10000) := by
    rw [HBs.out.1]
    exact ⟨idxM_in f.xs, idx_many (err := (idxM f.xs).1) rfl⟩
  have HJ0 : Hid (SekJ f w W2 w1.heap.size bs gb cpb row 0 ∧ bs.length ≤ cpb ∧ cpb ≤ maxLen) := by
    have hz1 := HW.out.2.2.2.2.1
    have hz2 := HO1.out.2.size
    have hgb := HO1.out.1.lt
    have hN := HN.out
    have hbb : Below w1.heap.size w1 W2 := by rw [hW2]; exact (Below.refl _ _).alloc (Nat.le_refl _) _
    have hzz : W2.heap.size = w1.heap.size + 1 := by rw [hW2]; simp
    refine ⟨⟨(HW.out.2.1.below HO1.out.2).below hbb, ?_, ?_, (HO1.out.1.mono (by omega)).below hbb, (HW.out.2.2.1.below HO1.out.2 (by omega)).below hbb (by omega), (HW.out.2.2.2.1.below HO1.out.2 (by omega)).below hbb (by omega), (HW.out.1.trans (HO1.out.2.mono (by omega))).trans (hbb.mono (by omega)), by omega⟩, ?_⟩
    · rw [hbb.cell (p := ⟨w.heap.size, 0, none⟩) (by show w.heap.size < _; omega), HO1.out.2.cell (p := ⟨w.heap.size, 0, none⟩) (by show w.heap.size < _; omega)]
      exact HW.out.2.2.2.2.2
    · intro i hi
      rw [hW2, Nat.zero_add, cell_of_row _ _ i _ _ _ (heap_alloc_last w1 _)]
      exact fileR_tab sv i hi
    · rcases HO1.out.1.2 with ⟨h0, _⟩ | ⟨g', cap', cur, hv, _, _, hn, hcap, _, _⟩
      · cases h0
      · simp only [Value.slice.injEq, Option.some.injEq, Addr.mk.injEq, and_true, true_and] at hv
        obtain ⟨rfl, rfl⟩ := hv
        exact ⟨hn, hcap⟩
  go_upto_region 3 with fail
  rw [← hW2]
  clear hW2 hzv hsz hsc HW HO1
  obtain ⟨fb, hfb⟩ : ∃ fb, fb = w1.heap.size := ⟨_, rfl⟩
  rw [← hfb] at c256 HJ0
  rw [← hfb]
  rw [HSv.out] at c256
  clear hfb HSv
  obtain ⟨F, hF⟩ : ∃ F, F = firstTo bs row bs.length := ⟨_, rfl⟩
  have hFl : F ≤ bs.length := by rw [hF]; exact firstTo_le bs row _
  have HM0 : Hid (seekM f.xs row = seekFrom f.xs row (bs.drop (F + 0)) 0) := by
    show seekM f.xs row = _
    unfold seekM
    rw [if_neg (by rw [HBs.out.2]; simp), ← HBs.out.1, hF, Nat.add_zero]
  have hlts := HJ0.out.1.lts
  have e256 : ∀ n : Out W2, n.u.cell? ⟨fb, 256, none⟩ = some (.slice (some ⟨gb, 0, none⟩) bs.length cpb) := fun n => (n.out.cell (p := ⟨fb, 256, none⟩) (by show fb < _; omega)).trans c256
  have erow : ∀ n : Out W2, n.u.cell? ⟨w.heap.size, 0, none⟩ = some (.string row) := fun n => (HJ0.out.1.grow n.out).rowc
  have HFF : Hid (∀ n : Out W2, Calls Tryd.prog 14 #[.pointer (some ⟨fb, 0, none⟩), .string row] n.u fun e w' => e = .returned (.int .i64 (F : Int)) ∧ Below n.u.heap.size n.u w') := fun n => by
    rw [hF]
    exact firstFor_core f fb gb cpb w.heap.size bs row n.u ((n.out.cell (p := ⟨fb, 256, none⟩) (by show fb < _; omega)).trans c256) (HJ0.out.1.grow n.out).blks HIn.out.2
  have hbl := HIn.out.2
  have hcp1 := HJ0.out.2.1
  have HCp : Hid (cpb ≤ maxLen) := HJ0.out.2.2
  have zF1 : (F : Int) ≤ (cpb : Int) := by omega
  have zF2 : (F : Int) ≤ (bs.length : Int) := by omega
  have inh : Nonempty (Out W2) := ⟨⟨W2, Below.refl _ _⟩⟩
  clear hF c256 hlts
  by_cases hcF : cpb = F
  · obtain rfl : F = bs.length := by omega
    obtain rfl : cpb = bs.length := by omega
    refine wp_region_out (by kernel_rfl) (by kernel_rfl) ?_
    repeat (go_big_quiet_step ((first | rfl | (go_at_call 14; exact Calls.out_of (HFF.out _)))))
    refine wpQuiet_nil ?_
    rintro w3 ⟨⟨wx, hb3⟩, rfl⟩
    have HJ1 : Hid (SekJ f w w3 fb bs gb bs.length row 0) := HJ0.out.1.grow hb3
    clear e256 erow HFF hb3 HJ0 inh
    go_upto_region 4 with fail
    go_loopw [19] (fun kk wr => ∃ (k : Nat), kk = .int .i64 (k : Int) ∧ k = 0 ∧ SekJ f w wr fb bs gb bs.length row k) (fun kk _ => 0)
    case atStart => exact ⟨0, rfl, rfl, HJ1.out⟩
    case round =>
      obtain ⟨k, rfl, hk0, hJ⟩ := hrel
      have HJ : Hid (SekJ f w wr fb bs gb bs.length row k) := hJ
      have zk0 : ¬ (k : Int) < 0 := by omega
      have HF : Hid (seekM f.xs row = ⟨0, false, zeroE, k⟩) := by
        show seekM f.xs row = _
        rw [HM0.out, seek_end (by omega), hk0]
      have zk1 : ¬ (k : Int) < ((bs.length - bs.length : Nat) : Int) := by omega
      clear hJ HJ1 HM0 hk0
      have r0 := HJ.out.res.cell (j := 0) rfl
      have r1 := HJ.out.res.cell (j := 1) rfl
      have r2 := HJ.out.res.cell (j := 2) rfl
      have r3 := HJ.out.res.cell (j := 3) rfl
      have r4 := HJ.out.res.cell (j := 4) rfl
      have r5 := HJ.out.res.cell (j := 5) rfl
      have r6 := HJ.out.res.cell (j := 6) rfl
      have r7 := HJ.out.res.cell (j := 7) rfl
      have r8 := HJ.out.res.cell (j := 8) rfl
      have f0 := HJ.out.res.frozen 0
      have f1 := HJ.out.res.frozen 1
      have f2 := HJ.out.res.frozen 2
      have f3 := HJ.out.res.frozen 3
      have f4 := HJ.out.res.frozen 4
      have f5 := HJ.out.res.frozen 5
      have f6 := HJ.out.res.frozen 6
      have f7 := HJ.out.res.frozen 7
      have f8 := HJ.out.res.frozen 8
      obtain ⟨W9, hW9⟩ : ∃ W9 : World, W9 = set9 wr (w.heap.size + 1) (.int .i64 0) (.bool false) (.string ⟨#[]⟩) (.string ⟨#[]⟩) (.string ⟨#[]⟩) (.int .u64 0) (.int .i64 0) (.string ⟨#[]⟩) (.int .i64 (k : Int)) := ⟨_, rfl⟩
      have HW9 : Hid (BoxAt W9 w.heap.size 27 9 (w.heap.size + 1) (sk0 0 k) ∧ Below w.heap.size w W9) := by
        rw [hW9]; exact ⟨HJ.out.res.set9 _ _ _ _ _ _ _ _ _, below_set9 HJ.out.below (by omega) _ _ _ _ _ _ _ _ _⟩
      unfold set9 at hW9
      go_wp2_with fail
      rw [← hW9]
      exact sek_done f.xs row w W9 _ (w.heap.size + 1) rfl rfl (by rw [HF.out]; exact HW9.out.1) HW9.out.2
  · refine wp_region_out (by kernel_rfl) (by kernel_rfl) ?_
    repeat (go_big_quiet_step ((first | rfl | (go_at_call 14; exact Calls.out_of (HFF.out _)))))
    refine wpQuiet_nil ?_
    rintro w3 ⟨⟨wx, hb3⟩, rfl⟩
    have HJ1 : Hid (SekJ f w w3 fb bs gb cpb row 0) := HJ0.out.1.grow hb3
    clear e256 erow HFF hb3 HJ0 inh
    go_upto_region 4 with fail
    go_loopw [19] (fun kk wr => ∃ (k : Nat), kk = .int .i64 (k : Int) ∧ F + k ≤ bs.length ∧ seekM f.xs row = seekFrom f.xs row (bs.drop (F + k)) k ∧ SekJ f w wr fb bs gb cpb row k) (fun kk _ => bs.length - F - (intOf kk).toNat)
    case atStart => exact ⟨0, rfl, by omega, HM0.out, HJ1.out⟩
    case round =>
      clear HJ1 HM0
      obtain ⟨k, rfl, hkl, hM, hJ⟩ := hrel
      have HJ : Hid (SekJ f w wr fb bs gb cpb row k) := hJ
      have HM : Hid (seekM f.xs row = seekFrom f.xs row (bs.drop (F + k)) k) := hM
      clear hM hJ
      by_cases hlt : F + k < bs.length
      · skip
        obtain ⟨x, hx⟩ : ∃ x, bs[F + k]? = some x := ⟨_, List.getElem?_eq_getElem hlt⟩
        have HX : Hid (bs[F + k]? = some x ∧ x.in f.xs.length) := ⟨hx, HIn.out.1 x (List.mem_of_getElem? hx)⟩
        obtain ⟨c0, c1, c2, c3⟩ := HJ.out.blks.at hx
        have hoff : (F + k) * 4 = F * 4 + k * 4 := by omega
        simp only [hoff] at c0 c1 c2 c3
        have zk : (k : Int) < ((bs.length - F : Nat) : Int) := by omega
        obtain ⟨WA, hWA⟩ : ∃ WA : World, WA = wr.alloc (Obj.cells #[.slice (some ⟨f.b, f.off + x.fr, none⟩) (x.til - x.fr) (f.cap - x.fr), .int .u32 (fixAt f.xs x.til : Int), .int .i64 (x.count : Int), .string x.row] 51) := ⟨_, rfl⟩
        have HJA : Hid (SekJ f w WA fb bs gb cpb row k ∧ BoxAt WA w.heap.size 51 4 wr.heap.size [.slice (some ⟨f.b, f.off + x.fr, none⟩) (x.til - x.fr) (f.cap - x.fr), .int .u32 (fixAt f.xs x.til : Int), .int .i64 (x.count : Int), .string x.row]) := by
          have hbA : Below wr.heap.size wr WA := by rw [hWA]; exact (Below.refl _ _).alloc (Nat.le_refl _) _
          refine ⟨HJ.out.grow hbA, ?_⟩
          rw [hWA]; exact boxAt_new wr _ HJ.out.below.size rfl
        clear hx hoff
        go_upto_region 6 with fail
        rw [← hWA]
        clear hWA c0 c1 c2 c3
        have r8 := HJA.out.1.res.cell (j := 8) rfl
        have f8 := HJA.out.1.res.frozen 8
        have hlts := HJA.out.1.lts
        obtain ⟨W6, hW6⟩ : ∃ W6 : World, W6 = WA.setCell ⟨w.heap.size + 1, 8, none⟩ (.int .i64 ((k : Int) + 1)) := ⟨_, rfl⟩
        have HJ6 : Hid (SekJ f w W6 fb bs gb cpb row (k + 1) ∧ BoxAt W6 w.heap.size 51 4 wr.heap.size [.slice (some ⟨f.b, f.off + x.fr, none⟩) (x.til - x.fr) (f.cap - x.fr), .int .u32 (fixAt f.xs x.til : Int), .int .i64 (x.count : Int), .string x.row]) := by
          rw [hW6]
          have hwl := HJ.out.lts
          exact ⟨HJA.out.1.count, HJA.out.2.beside (by omega) 8 _⟩
        have hxin := HX.out.2
        obtain ⟨hi1, hi2, hi3, hi4, hi5⟩ := hxin
        have HEnt : Hid (Calls Tryd.prog 15 #[.pointer (some ⟨fb, 0, none⟩), .agg #[.slice (some ⟨f.b, f.off + x.fr, none⟩) (x.til - x.fr) (f.cap - x.fr), .int .u32 (fixAt f.xs x.til : Int), .int .i64 (x.count : Int), .string x.row]] W6 fun e w'' => FreP W6 (blkM f.xs x) e w'') := by
          have hJ := HJ6.out.1
          have hl := hJ.lts
          have hN := HN.out
          have hsl := span_len (xs := f.xs) (p := x.fr) (lim := x.til) (by omega)
          have h1 := entries_core fb f.b (f.off + x.fr) (f.cap - x.fr) (fixAt f.xs x.til) x.count x.row (span f.xs x.fr x.til) W6 hJ.tab (by omega) ((hJ.bys.drop x.fr).take (x.til - x.fr)) (by have := hJ.below.size; omega) (by rw [hsl]; omega) (by rw [hsl]; omega) (by omega) hi4 hi5
          rw [hsl, ← blkM_fre] at h1
          exact h1
        clear hi1 hi2 hi3 hi4 hi5 HJA
        go_upto_region 7 with fail
        rw [← hW6]
        clear hW6 r8 f8
        have b0 := HJ6.out.2.cell (j := 0) rfl
        have b1 := HJ6.out.2.cell (j := 1) rfl
        have b2 := HJ6.out.2.cell (j := 2) rfl
        have b3 := HJ6.out.2.cell (j := 3) rfl
        go_wp2_with fail
        refine HEnt.out.mono ?_
        rintro e w7 ⟨hb7, (⟨hz, g7, cp7, rfl, hO7, hok7⟩ | ⟨hz, rfl⟩)⟩
        case inr =>
          have hJ7 := HJ6.out.1.grow hb7
          exact sek_dies f.xs row w w7 _ _ (k + 1) (w.heap.size + 1) (by omega) rfl rfl (by rw [HM.out, seek_bad HX.out.1 hz]) hz hJ7.res hJ7.hand hJ7.below
        obtain ⟨es, hes⟩ : ∃ es, es = (blkM f.xs x).2 := ⟨_, rfl⟩
        rw [← hes] at hO7 hok7
        rw [← hes]
        have HEs : Hid (es = (blkM f.xs x).2 ∧ (blkM f.xs x).1 = 0 ∧ es.length ≤ 1000) := by
          refine ⟨hes, hz, ?_⟩
          have hb0 : blkM f.xs x = (0, es) := by rw [hes, ← hz]
          exact blk_many hb0.symm HX.out.2
        have HJ7 : Hid (SekJ f w w7 fb bs gb cpb row (k + 1) ∧ OwnE w7 W6.heap.size g7 cp7 es) := ⟨HJ6.out.1.grow hb7, hO7⟩
        have hw6l : w.heap.size + 1 < W6.heap.size := by have := HJ6.out.1.lts; omega
        clear hes hz hb7 hO7 hok7 b0 b1 b2 b3 HJ6 HEnt
        have hes1 := HEs.out.2.2
        go_wp2_with fail
        refine (sekIdx_core g7 0 cp7 es w.heap.size row w7 HJ7.out.2.at HJ7.out.2.lt.2 HJ7.out.1.rowc (by have := HJ7.out.1.lts; omega) (by omega)).mono ?_
        rintro e w8 ⟨hb8, (⟨i8, x8, hx8, hf8, rfl⟩ | ⟨hf8, rfl⟩)⟩
        · have HX8 : Hid (es[i8]? = some x8 ∧ seekM f.xs row = ⟨0, true, x8, k + 1⟩) := ⟨hx8, by rw [HM.out, seek_hit HX.out.1 HEs.out.2.1 (by rw [← HEs.out.1]; exact hf8)]⟩
          have HJ8 : Hid (SekJ f w w8 fb bs gb cpb row (k + 1) ∧ OwnE w8 W6.heap.size g7 cp7 es) := ⟨HJ7.out.1.grow hb8, HJ7.out.2.below hb8 HJ7.out.2.lt.2⟩
          have hi8 : i8 < es.length := (List.getElem?_eq_some_iff.1 hx8).1
          have zi8 : (i8 : Int) < (es.length : Int) := by omega
          have hglt : w.heap.size + 1 < g7 := by have h1 := HJ8.out.2.lt.1; omega
          obtain ⟨q0, q1, q2, q3, q4, q5⟩ := HJ8.out.2.at i8 x8 hx8
          simp only [Nat.zero_add] at q0 q1 q2 q3 q4 q5
          have hne : ¬ g7 = w.heap.size + 1 := by omega
          clear hb8 hf8 hx8 HJ7
          have r0 := HJ8.out.1.res.cell (j := 0) rfl
          have r1 := HJ8.out.1.res.cell (j := 1) rfl
          have r2 := HJ8.out.1.res.cell (j := 2) rfl
          have r3 := HJ8.out.1.res.cell (j := 3) rfl
          have r4 := HJ8.out.1.res.cell (j := 4) rfl
          have r5 := HJ8.out.1.res.cell (j := 5) rfl
          have r6 := HJ8.out.1.res.cell (j := 6) rfl
          have r7 := HJ8.out.1.res.cell (j := 7) rfl
          have r8 := HJ8.out.1.res.cell (j := 8) rfl
          have f0 := HJ8.out.1.res.frozen 0
          have f1 := HJ8.out.1.res.frozen 1
          have f2 := HJ8.out.1.res.frozen 2
          have f3 := HJ8.out.1.res.frozen 3
          have f4 := HJ8.out.1.res.frozen 4
          have f5 := HJ8.out.1.res.frozen 5
          have f6 := HJ8.out.1.res.frozen 6
          have f7 := HJ8.out.1.res.frozen 7
          have f8 := HJ8.out.1.res.frozen 8
          obtain ⟨WX, hWX⟩ : ∃ WX : World, WX = ((((((w8.setCell ⟨w.heap.size + 1, 1, none⟩ (.bool true)).setCell ⟨w.heap.size + 1, 2, none⟩ (.string x8.row)).setCell ⟨w.heap.size + 1, 3, none⟩ (.string x8.fam)).setCell ⟨w.heap.size + 1, 4, none⟩ (.string x8.qual)).setCell ⟨w.heap.size + 1, 5, none⟩ (.int .u64 x8.ts)).setCell ⟨w.heap.size + 1, 6, none⟩ (.int .i64 x8.kind)).setCell ⟨w.heap.size + 1, 7, none⟩ (.string x8.val) := ⟨_, rfl⟩
          have HWX : Hid (BoxAt WX w.heap.size 27 9 (w.heap.size + 1) [.int .i64 0, .bool true, .string x8.row, .string x8.fam, .string x8.qual, .int .u64 x8.ts, .int .i64 x8.kind, .string x8.val, .int .i64 ((k + 1 : Nat) : Int)] ∧ Below w.heap.size w WX) := by
            rw [hWX]
            refine ⟨((((((HJ8.out.1.res.set 1 _).set 2 _).set 3 _).set 4 _).set 5 _).set 6 _).set 7 _, ?_⟩
            exact below_set (below_set (below_set (below_set (below_set (below_set (below_set HJ8.out.1.below (by omega) 1 _) (by omega) 2 _) (by omega) 3 _) (by omega) 4 _) (by omega) 5 _) (by omega) 6 _) (by omega) 7 _
          go_upto_region 12 with fail
          rw [← hWX]
          clear hWX r0 r1 r2 r3 r4 r5 r6 r7 r8 f0 f1 f2 f3 f4 f5 f6 f7 f8 q0 q1 q2 q3 q4 q5
          have r0 := HWX.out.1.cell (j := 0) rfl
          have r1 := HWX.out.1.cell (j := 1) rfl
          have r2 := HWX.out.1.cell (j := 2) rfl
          have r3 := HWX.out.1.cell (j := 3) rfl
          have r4 := HWX.out.1.cell (j := 4) rfl
          have r5 := HWX.out.1.cell (j := 5) rfl
          have r6 := HWX.out.1.cell (j := 6) rfl
          have r7 := HWX.out.1.cell (j := 7) rfl
          have r8 := HWX.out.1.cell (j := 8) rfl
          have f0 := HWX.out.1.frozen 0
          have f1 := HWX.out.1.frozen 1
          have f2 := HWX.out.1.frozen 2
          have f3 := HWX.out.1.frozen 3
          have f4 := HWX.out.1.frozen 4
          have f5 := HWX.out.1.frozen 5
          have f6 := HWX.out.1.frozen 6
          have f7 := HWX.out.1.frozen 7
          have f8 := HWX.out.1.frozen 8
          obtain ⟨W9, hW9⟩ : ∃ W9 : World, W9 = set9 WX (w.heap.size + 1) (.int .i64 0) (.bool true) (.string x8.row) (.string x8.fam) (.string x8.qual) (.int .u64 x8.ts) (.int .i64 x8.kind) (.string x8.val) (.int .i64 ((k + 1 : Nat) : Int)) := ⟨_, rfl⟩
          have HW9 : Hid (BoxAt W9 w.heap.size 27 9 (w.heap.size + 1) (Sk.cells ⟨0, true, x8, k + 1⟩) ∧ Below w.heap.size w W9) := by
            rw [hW9]; exact ⟨HWX.out.1.set9 _ _ _ _ _ _ _ _ _, below_set9 HWX.out.2 (by omega) _ _ _ _ _ _ _ _ _⟩
          unfold set9 at hW9
          go_wp2_with fail
          first | rw [← hW9] | (have hW9' := hW9; simp only [Int.natCast_add, Int.cast_ofNat_Int] at hW9'; rw [← hW9'])
          exact sek_done f.xs row w W9 _ (w.heap.size + 1) rfl rfl (by rw [HX8.out.2]; exact HW9.out.1) HW9.out.2
        · have HJ8 : Hid (SekJ f w w8 fb bs gb cpb row (k + 1) ∧ seekM f.xs row = seekFrom f.xs row (bs.drop (F + (k + 1))) (k + 1)) := by
            refine ⟨HJ7.out.1.grow hb8, ?_⟩
            rw [HM.out, seek_next HX.out.1 HEs.out.2.1 (by rw [← HEs.out.1]; exact hf8)]
            rfl
          clear hb8 hf8 HJ7
          go_wp2_with fail
          go_roundw
          case rel => exact ⟨k + 1, by go_num, by omega, HJ8.out.2, HJ8.out.1⟩
          case measure => simp [intOf]; omega
      · have zk : ¬ (k : Int) < ((bs.length - F : Nat) : Int) := by omega
        have HF : Hid (seekM f.xs row = ⟨0, false, zeroE, k⟩) := by
          show seekM f.xs row = _
          rw [HM.out, seek_end (by omega)]
        have r0 := HJ.out.res.cell (j := 0) rfl
        have r1 := HJ.out.res.cell (j := 1) rfl
        have r2 := HJ.out.res.cell (j := 2) rfl
        have r3 := HJ.out.res.cell (j := 3) rfl
        have r4 := HJ.out.res.cell (j := 4) rfl
        have r5 := HJ.out.res.cell (j := 5) rfl
        have r6 := HJ.out.res.cell (j := 6) rfl
        have r7 := HJ.out.res.cell (j := 7) rfl
        have r8 := HJ.out.res.cell (j := 8) rfl
        have f0 := HJ.out.res.frozen 0
        have f1 := HJ.out.res.frozen 1
        have f2 := HJ.out.res.frozen 2
        have f3 := HJ.out.res.frozen 3
        have f4 := HJ.out.res.frozen 4
        have f5 := HJ.out.res.frozen 5
        have f6 := HJ.out.res.frozen 6
        have f7 := HJ.out.res.frozen 7
        have f8 := HJ.out.res.frozen 8
        obtain ⟨W9, hW9⟩ : ∃ W9 : World, W9 = set9 wr (w.heap.size + 1) (.int .i64 0) (.bool false) (.string ⟨#[]⟩) (.string ⟨#[]⟩) (.string ⟨#[]⟩) (.int .u64 0) (.int .i64 0) (.string ⟨#[]⟩) (.int .i64 (k : Int)) := ⟨_, rfl⟩
        have HW9 : Hid (BoxAt W9 w.heap.size 27 9 (w.heap.size + 1) (sk0 0 k) ∧ Below w.heap.size w W9) := by
          rw [hW9]; exact ⟨HJ.out.res.set9 _ _ _ _ _ _ _ _ _, below_set9 HJ.out.below (by omega) _ _ _ _ _ _ _ _ _⟩
        unfold set9 at hW9
        go_wp2_with fail
        rw [← hW9]
        exact sek_done f.xs row w W9 _ (w.heap.size + 1) rfl rfl (by rw [HF.out]; exact HW9.out.1) HW9.out.2
end Go.Proofs.YtnncedndlhfdkabDoor

