import Derived.Deep.QuietTactic
import Derived.BigQuiet
import Derived.Test.YtlgeffinhbodeaeGreatDoorPkAF
import Derived.Test.YtlgeffinhbodeaeGreatDoorPkAB
import Derived.Test.YtlgeffinhbodeaeGreatDoorPkAC
import Derived.Test.YtlgeffinhbodeaeGreatDoorPkAD
import Derived.Test.YtlgeffinhbodeaeGreatDoorPkAA
/-
  spec.SeekRun.
-/
namespace Go.Proofs.YtlgeffinhbodeaeGreatDoor
open Go.ChangeShapes Go.WideShapes Go.ChangeAt Go.RowKit Go.Deep
set_option linter.unusedVariables false
set_option linter.unusedSimpArgs false
set_option maxRecDepth 100000

def set9 (w : World) (g : Nat) (a0 a1 a2 a3 a4 a5 a6 a7 a8 : Value) : World := ((((((((w.setCell ⟨g, 0, none⟩ a0).setCell ⟨g, 1, none⟩ a1).setCell ⟨g, 2, none⟩ a2).setCell ⟨g, 3, none⟩ a3).setCell ⟨g, 4, none⟩ a4).setCell ⟨g, 5, none⟩ a5).setCell ⟨g, 6, none⟩ a6).setCell ⟨g, 7, none⟩ a7).setCell ⟨g, 8, none⟩ a8
theorem BoxAt.set9 {w : World} {base t g : Nat} {vs : List Value} (h : BoxAt w base t 9 g vs) (a0 a1 a2 a3 a4 a5 a6 a7 a8 : Value) : BoxAt (set9 w g a0 a1 a2 a3 a4 a5 a6 a7 a8) base t 9 g [a0, a1, a2, a3, a4, a5, a6, a7, a8] := by
  have h1 := ((((((((h.set 0 a0).set 1 a1).set 2 a2).set 3 a3).set 4 a4).set 5 a5).set 6 a6).set 7 a7).set 8 a8
  have hl := h.len
  match vs, hl with
  | [_, _, _, _, _, _, _, _, _], _ => exact h1
theorem below_set9 {B : Nat} {a w : World} (h : Below B a w) {k : Nat} (hk : B ≤ k) (a0 a1 a2 a3 a4 a5 a6 a7 a8 : Value) : Below B a (set9 w k a0 a1 a2 a3 a4 a5 a6 a7 a8) :=
  below_set (below_set (below_set (below_set (below_set (below_set (below_set (below_set (below_set h hk 0 a0) hk 1 a1) hk 2 a2) hk 3 a3) hk 4 a4) hk 5 a5) hk 6 a6) hk 7 a7) hk 8 a8
theorem chg_set9 (w : World) (k : Nat) (a0 a1 a2 a3 a4 a5 a6 a7 a8 : Value) : Chg (fun q => q = k) w (set9 w k a0 a1 a2 a3 a4 a5 a6 a7 a8) :=
  ((((((((Chg.of_set w k 0 a0 (S := fun q => q = k) rfl).trans (Chg.of_set _ k 1 a1 (S := fun q => q = k) rfl)).trans (Chg.of_set _ k 2 a2 (S := fun q => q = k) rfl)).trans (Chg.of_set _ k 3 a3 (S := fun q => q = k) rfl)).trans (Chg.of_set _ k 4 a4 (S := fun q => q = k) rfl)).trans (Chg.of_set _ k 5 a5 (S := fun q => q = k) rfl)).trans (Chg.of_set _ k 6 a6 (S := fun q => q = k) rfl)).trans (Chg.of_set _ k 7 a7 (S := fun q => q = k) rfl)).trans (Chg.of_set _ k 8 a8 (S := fun q => q = k) rfl)
def lessB (a b : ByteArray) : Bool := Op.bytesLess a.toList b.toList
/-- The last block whose first row lies before. -/
def firstTo (bs : List Blk) (row : ByteArray) : Nat → Nat
  | 0 => 0
  | k + 1 => match bs[k]? with
    | none => firstTo bs row k
    | some b => if lessB b.row row = true then k else firstTo bs row k
theorem firstTo_le (bs : List Blk) (row : ByteArray) : ∀ k, firstTo bs row k ≤ k
  | 0 => Nat.le_refl _
  | k + 1 => by
    have := firstTo_le bs row k
    rw [firstTo]
    split
    · omega
    · split <;> omega
structure Sk where
  err : Int
  found : Bool
  ent : Ent
  read : Nat
abbrev Sk.cells (s : Sk) : List Value := [.int .i64 s.err, .bool s.found, .string s.ent.row, .string s.ent.fam, .string s.ent.qual, .int .u64 s.ent.ts, .int .i64 s.ent.kind, .string s.ent.val, .int .i64 (s.read : Int)]
abbrev Sk.v (s : Sk) : Value := .agg #[.int .i64 s.err, .bool s.found, .string s.ent.row, .string s.ent.fam, .string s.ent.qual, .int .u64 s.ent.ts, .int .i64 s.ent.kind, .string s.ent.val, .int .i64 (s.read : Int)]
def seekFrom (xs : List UInt8) (row : ByteArray) : List Blk → Nat → Sk
  | [], n => ⟨0, false, zeroE, n⟩
  | b :: bs, n =>
    if (blkM xs b).1 ≠ 0 then ⟨(blkM xs b).1, false, zeroE, n + 1⟩ else
    match (blkM xs b).2.find? (fun e => !lessB e.row row) with
    | some e => ⟨0, true, e, n + 1⟩
    | none => seekFrom xs row bs (n + 1)
def seekM (xs : List UInt8) (row : ByteArray) : Sk :=
  if (idxM xs).1 ≠ 0 then ⟨(idxM xs).1, false, zeroE, 0⟩ else seekFrom xs row ((idxM xs).2.drop (firstTo (idxM xs).2 row (idxM xs).2.length)) 0

set_option maxHeartbeats 3000000 in
theorem specSeek_core (b off cap : Nat) (xs : List UInt8) (row : ByteArray) (w : World) (hx : BysAt w b off xs) (hb : b < w.heap.size) (hlen : xs.length ≤ 2 ^ 30) (hcap : xs.length ≤ cap) (hcm : cap ≤ maxLen) :
    Calls Tryz.prog 18 #[.slice (some ⟨b, off, none⟩) xs.length cap, .string row] w fun r w' => r = .returned (seekM xs row).v ∧ Below w.heap.size w w' := by
  obtain ⟨W1, hW1⟩ : ∃ W1 : World, W1 = w.alloc (Obj.cells #[.int .i64 0, .bool false, .string ⟨#[]⟩, .string ⟨#[]⟩, .string ⟨#[]⟩, .int .u64 0, .int .i64 0, .string ⟨#[]⟩, .int .i64 0] 47) := ⟨_, rfl⟩
  have hb1 : Below w.heap.size w W1 := by rw [hW1]; exact (Below.refl _ _).alloc (Nat.le_refl _) _
  have z1 : W1.heap.size = w.heap.size + 1 := by rw [hW1]; simp
  have HB1 : Hid (BoxAt W1 w.heap.size 47 9 w.heap.size [.int .i64 0, .bool false, .string ⟨#[]⟩, .string ⟨#[]⟩, .string ⟨#[]⟩, .int .u64 0, .int .i64 0, .string ⟨#[]⟩, .int .i64 0]) := by rw [hW1]; exact boxAt_new w _ (Nat.le_refl _) rfl
  have HX : Hid (∀ w' : World, Below w.heap.size w w' → BysAt w' b off xs) := fun w' h => hx.below h hb
  have HL : Hid (xs.length ≤ 2 ^ 30 ∧ xs.length ≤ cap ∧ cap ≤ maxLen) := ⟨hlen, hcap, hcm⟩
  clear hx hlen hcap hcm
  go_enter Tryz.func18, Tryz.ntmps18
  go_upto_region 1 with fail
  rw [← hW1]
  clear hW1
  go_wp2_with fail
  refine (l2Index_core b off cap xs W1 (HX.out W1 hb1) (by omega) HL.out.1 HL.out.2.1 HL.out.2.2).mono ?_
  rintro r w2 ⟨gi, ci, err, bs, rfl, hI, hO2, hb2⟩
  have s2 := hb2.size
  have k2 : Below w.heap.size w w2 := hb1.trans (hb2.mono (by omega))
  have HI : Hid ((err, bs) = idxM xs) := hI
  have HB2 : Hid (BoxAt w2 w.heap.size 47 9 w.heap.size [.int .i64 0, .bool false, .string ⟨#[]⟩, .string ⟨#[]⟩, .string ⟨#[]⟩, .int .u64 0, .int .i64 0, .string ⟨#[]⟩, .int .i64 0] ∧ OwnI w2 W1.heap.size gi ci bs) := ⟨HB1.out.below hb2, hO2⟩
  have hgi := hO2.lt
  have HIn : Hid (∀ k ∈ bs, k.in xs.length) := by
    intro k hk
    have h := idxM_in xs
    rw [← HI.out] at h
    exact h k hk
  have hbl : bs.length ≤ 10000 := idx_many HI.out
  clear hI hO2 hb2 HB1
  obtain ⟨NX, hNX⟩ : ∃ N : Nat, xs.length = N := ⟨_, rfl⟩
  have HNX : Hid (xs.length = NX) := hNX
  rw [hNX]
  clear hNX
  by_cases herr : ¬ err = 0
  · have HD : Hid (seekM xs row = ⟨err, false, zeroE, 0⟩) := by
      show seekM xs row = _
      unfold seekM
      rw [← HI.out, if_pos herr]
    obtain ⟨WZ, hWZ⟩ : ∃ V : World, V = set9 w2 w.heap.size (.int .i64 err) (.bool false) (.string ⟨#[]⟩) (.string ⟨#[]⟩) (.string ⟨#[]⟩) (.int .u64 0) (.int .i64 0) (.string ⟨#[]⟩) (.int .i64 0) := ⟨_, rfl⟩
    have hBZ := HB2.out.1.set9 (.int .i64 err) (.bool false) (.string ⟨#[]⟩) (.string ⟨#[]⟩) (.string ⟨#[]⟩) (.int .u64 0) (.int .i64 0) (.string ⟨#[]⟩) (.int .i64 0)
    rw [← hWZ] at hBZ
    have kZ : Below w.heap.size w WZ := by rw [hWZ]; exact below_set9 k2 (Nat.le_refl _) _ _ _ _ _ _ _ _ _
    have f0 := HB2.out.1.frozen 0
    have q0 := HB2.out.1.cell (j := 0) rfl
    have p0 := hBZ.cell (j := 0) rfl
    have f1 := HB2.out.1.frozen 1
    have q1 := HB2.out.1.cell (j := 1) rfl
    have p1 := hBZ.cell (j := 1) rfl
    have f2 := HB2.out.1.frozen 2
    have q2 := HB2.out.1.cell (j := 2) rfl
    have p2 := hBZ.cell (j := 2) rfl
    have f3 := HB2.out.1.frozen 3
    have q3 := HB2.out.1.cell (j := 3) rfl
    have p3 := hBZ.cell (j := 3) rfl
    have f4 := HB2.out.1.frozen 4
    have q4 := HB2.out.1.cell (j := 4) rfl
    have p4 := hBZ.cell (j := 4) rfl
    have f5 := HB2.out.1.frozen 5
    have q5 := HB2.out.1.cell (j := 5) rfl
    have p5 := hBZ.cell (j := 5) rfl
    have f6 := HB2.out.1.frozen 6
    have q6 := HB2.out.1.cell (j := 6) rfl
    have p6 := hBZ.cell (j := 6) rfl
    have f7 := HB2.out.1.frozen 7
    have q7 := HB2.out.1.cell (j := 7) rfl
    have p7 := hBZ.cell (j := 7) rfl
    have f8 := HB2.out.1.frozen 8
    have q8 := HB2.out.1.cell (j := 8) rfl
    have p8 := hBZ.cell (j := 8) rfl
    unfold set9 at hWZ
    go_wp2_with fail
    rw [← hWZ]
    exact bodyPost_ret (v := (seekM xs row).v) (by rw [HD.out]; simp [results, Tryz.results18, go_sem, zeroE, p0, p1, p2, p3, p4, p5, p6, p7, p8]) rfl ⟨rfl, kZ⟩
  replace herr := Decidable.not_not.1 herr
  subst herr
  go_upto_region 6 with fail
  go_loopw [7, 8] (fun f kk wr => ∃ (k F : Nat), k ≤ bs.length ∧ F = firstTo bs row k ∧ f = .int .i64 (F : Int) ∧ kk = .int .i64 (k : Int) ∧ wr = w2) (fun _ kk _ => bs.length - (intOf kk).toNat)
  case atStart => exact ⟨0, 0, Nat.zero_le _, rfl, rfl, rfl, rfl⟩
  case round =>
    obtain ⟨k, F, hk, hF, rfl, rfl, rfl⟩ := hrel
    have HF : Hid (F = firstTo bs row k) := hF
    clear hF
    by_cases hlt : k < bs.length
    · obtain ⟨⟨fr, til, cnt, rw'⟩, he⟩ : ∃ e, bs[k]? = some e := ⟨_, List.getElem?_eq_getElem hlt⟩
      have d3 := (HB2.out.2.at he).2.2.2
      have HE : Hid (bs[k]? = some ⟨fr, til, cnt, rw'⟩) := he
      clear he
      cases hl : Op.bytesLess rw'.toList row.toList
      · have HN : Hid (F = firstTo bs row (k + 1)) := by rw [firstTo, HE.out, HF.out]; show firstTo bs row k = if Op.bytesLess rw'.toList row.toList = true then k else firstTo bs row k; rw [hl]; rfl
        go_wp2_with fail
        exact ⟨⟨k + 1, F, by omega, HN.out, rfl, by go_num, trivial⟩, by simp [intOf]; omega⟩
      · have HN : Hid (k = firstTo bs row (k + 1)) := by rw [firstTo, HE.out]; show k = if Op.bytesLess rw'.toList row.toList = true then k else firstTo bs row k; rw [hl]; rfl
        go_wp2_with fail
        exact ⟨⟨k + 1, k, by omega, HN.out, rfl, by go_num, trivial⟩, by simp [intOf]; omega⟩
    · obtain rfl : k = bs.length := by omega
      obtain ⟨w9, hw9⟩ : ∃ w9 : World, w9 = wr := ⟨_, rfl⟩
      subst hw9
      have hFl : F ≤ bs.length := by rw [HF.out]; exact firstTo_le _ _ _
      have HM : Hid (seekM xs row = seekFrom xs row (bs.drop F) 0) := by
        show seekM xs row = _
        unfold seekM
        rw [← HI.out]
        simp only [ne_eq, not_true_eq_false, if_false]
        rw [← HF.out]
      obtain ⟨W3, hW3⟩ : ∃ V : World, V = w9.alloc (Obj.cells #[.int .i64 0, .bool false, .string ⟨#[]⟩, .string ⟨#[]⟩, .string ⟨#[]⟩, .int .u64 0, .int .i64 0, .string ⟨#[]⟩, .int .i64 0] 47) := ⟨_, rfl⟩
      have hb3 : Below w9.heap.size w9 W3 := by rw [hW3]; exact (Below.refl _ _).alloc (Nat.le_refl _) _
      obtain ⟨O, hO⟩ : ∃ O : Nat, O = w9.heap.size := ⟨_, rfl⟩
      have hOw : w.heap.size < O := by omega
      have HB3 : Hid (BoxAt W3 w.heap.size 47 9 w.heap.size [.int .i64 0, .bool false, .string ⟨#[]⟩, .string ⟨#[]⟩, .string ⟨#[]⟩, .int .u64 0, .int .i64 0, .string ⟨#[]⟩, .int .i64 0] ∧ BoxAt W3 w9.heap.size 47 9 O [.int .i64 0, .bool false, .string ⟨#[]⟩, .string ⟨#[]⟩, .string ⟨#[]⟩, .int .u64 0, .int .i64 0, .string ⟨#[]⟩, .int .i64 0]) := by
        refine ⟨HB2.out.1.below hb3, ?_⟩
        rw [hW3, hO]; exact boxAt_new w9 _ (Nat.le_refl _) rfl
      go_upto_region 12 with fail
      rw [← hW3, ← hO]
      clear hW3 HF
      have hOe : w9.heap.size ≤ O := by omega
      clear hO
      go_loopw [10] (fun kk wr => ∃ (k n : Nat), k ≤ bs.length ∧ n ≤ k ∧ kk = .int .i64 (k : Int) ∧ seekM xs row = seekFrom xs row (bs.drop k) n ∧ BoxAt wr w.heap.size 47 9 w.heap.size [.int .i64 0, .bool false, .string ⟨#[]⟩, .string ⟨#[]⟩, .string ⟨#[]⟩, .int .u64 0, .int .i64 0, .string ⟨#[]⟩, .int .i64 0] ∧ BoxAt wr w9.heap.size 47 9 O [.int .i64 0, .bool false, .string ⟨#[]⟩, .string ⟨#[]⟩, .string ⟨#[]⟩, .int .u64 0, .int .i64 0, .string ⟨#[]⟩, .int .i64 (n : Int)] ∧ Below w9.heap.size w9 wr) (fun kk _ => bs.length - (intOf kk).toNat)
      case atStart => exact ⟨F, 0, hFl, Nat.zero_le _, rfl, HM.out, HB3.out.1, HB3.out.2, hb3⟩
      case round =>
        clear HB3 hb3 HM hlt
        obtain ⟨k, n, hk, hnk, rfl, hsk, hBr, hBo, hbq⟩ := hrel
        have HS : Hid (seekM xs row = seekFrom xs row (bs.drop k) n ∧ BoxAt wr w.heap.size 47 9 w.heap.size [.int .i64 0, .bool false, .string ⟨#[]⟩, .string ⟨#[]⟩, .string ⟨#[]⟩, .int .u64 0, .int .i64 0, .string ⟨#[]⟩, .int .i64 0] ∧ BoxAt wr w9.heap.size 47 9 O [.int .i64 0, .bool false, .string ⟨#[]⟩, .string ⟨#[]⟩, .string ⟨#[]⟩, .int .u64 0, .int .i64 0, .string ⟨#[]⟩, .int .i64 (n : Int)]) := ⟨hsk, hBr, hBo⟩
        have sq := hbq.size
        have kq : Below w.heap.size w wr := k2.trans (hbq.mono (by omega))
        clear hsk hBr hBo
        by_cases hlt : k < bs.length
        · obtain ⟨⟨fr, til, cnt, rw'⟩, he⟩ : ∃ e, bs[k]? = some e := ⟨_, List.getElem?_eq_getElem hlt⟩
          obtain ⟨c0, c1, c2, c3⟩ := HB2.out.2.at he
          have HBk : Hid (bs.drop k = ⟨fr, til, cnt, rw'⟩ :: bs.drop (k + 1) ∧ (⟨fr, til, cnt, rw'⟩ : Blk).in xs.length) := by
            refine ⟨by rw [List.drop_eq_getElem_cons hlt, (List.getElem?_eq_some_iff.1 he).2], HIn.out _ (List.mem_of_getElem? he)⟩
          have hgw : gi < w9.heap.size := hgi.2
          have d0 : wr.cell? ⟨gi, k * 4, none⟩ = some (.int .i64 (fr : Int)) := by rw [hbq.cell (p := ⟨gi, k * 4, none⟩) hgw]; exact c0
          have d1 : wr.cell? ⟨gi, k * 4 + 1, none⟩ = some (.int .i64 (til : Int)) := by rw [hbq.cell (p := ⟨gi, k * 4 + 1, none⟩) hgw]; exact c1
          have d2 : wr.cell? ⟨gi, k * 4 + 2, none⟩ = some (.int .i64 (cnt : Int)) := by rw [hbq.cell (p := ⟨gi, k * 4 + 2, none⟩) hgw]; exact c2
          have d3 : wr.cell? ⟨gi, k * 4 + 3, none⟩ = some (.string rw') := by rw [hbq.cell (p := ⟨gi, k * 4 + 3, none⟩) hgw]; exact c3
          clear c0 c1 c2 c3 he
          have hec := l2Entries_core b off cap xs ⟨fr, til, cnt, rw'⟩ wr (HX.out wr kq) (by omega) HL.out.1 HL.out.2.1 HL.out.2.2 HBk.out.2
          rw [HNX.out] at hec
          go_wp2_with fail
          clear d0 d1 d2 d3
          refine hec.mono ?_
          rintro r w4 ⟨g4, c4, e4, es, rfl, h4, hO4, hok4, hb4⟩
          have hes : es.length ≤ 1000 := blk_many h4 HBk.out.2
          have hg4 := hO4.lt
          have s4 := hb4.size
          have k4 : Below w.heap.size w w4 := kq.trans (hb4.mono (by omega))
          have r4 : Below w9.heap.size w9 w4 := hbq.trans (hb4.mono (by omega))
          have hOlt := HS.out.2.2.lt
          have hOg : ¬ g4 = O := by omega
          obtain ⟨W5, hW5⟩ : ∃ V : World, V = w4.setCell ⟨O, 8, none⟩ (.int .i64 ((n : Int) + 1)) := ⟨_, rfl⟩
          have o8 := (HS.out.2.2.below hb4).cell (j := 8) rfl
          have u8' := (HS.out.2.2.below hb4).frozen 8
          have HS5 : Hid (BoxAt W5 w.heap.size 47 9 w.heap.size [.int .i64 0, .bool false, .string ⟨#[]⟩, .string ⟨#[]⟩, .string ⟨#[]⟩, .int .u64 0, .int .i64 0, .string ⟨#[]⟩, .int .i64 0] ∧ BoxAt W5 w9.heap.size 47 9 O [.int .i64 0, .bool false, .string ⟨#[]⟩, .string ⟨#[]⟩, .string ⟨#[]⟩, .int .u64 0, .int .i64 0, .string ⟨#[]⟩, .int .i64 ((n : Int) + 1)] ∧ OwnE W5 wr.heap.size g4 c4 es) := by
            rw [hW5]
            exact ⟨(HS.out.2.1.below hb4).beside (by omega) _ _, (HS.out.2.2.below hb4).set 8 _, hO4.chg' (Chg.of_set w4 O 8 _ (S := fun q => q = O) rfl) hOg⟩
          have HE4 : Hid ((e4, es) = blkM xs ⟨fr, til, cnt, rw'⟩) := h4
          have k5 : Below w.heap.size w W5 := by rw [hW5]; exact below_set k4 (by omega) _ _
          have r5 : Below w9.heap.size w9 W5 := by rw [hW5]; exact below_set r4 hOe _ _
          have s5 : W5.heap.size = w4.heap.size := by rw [hW5]; exact size_set _ _ _ _
          clear h4 hO4 hok4 hb4 hec
          go_upto_region 16 with fail
          rw [← hW5]
          clear hW5 o8 u8'
          by_cases he4 : ¬ e4 = 0
          · have HD : Hid (seekM xs row = ⟨e4, false, zeroE, n + 1⟩) := by
              show seekM xs row = _
              rw [HS.out.1, HBk.out.1, seekFrom, ← HE4.out, if_pos he4]
            have o0 := HS5.out.2.1.cell (j := 0) rfl
            have u0' := HS5.out.2.1.frozen 0
            obtain ⟨W6, hW6⟩ : ∃ V : World, V = W5.setCell ⟨O, 0, none⟩ (.int .i64 e4) := ⟨_, rfl⟩
            have HS6 : Hid (BoxAt W6 w.heap.size 47 9 w.heap.size [.int .i64 0, .bool false, .string ⟨#[]⟩, .string ⟨#[]⟩, .string ⟨#[]⟩, .int .u64 0, .int .i64 0, .string ⟨#[]⟩, .int .i64 0] ∧ BoxAt W6 w9.heap.size 47 9 O [.int .i64 e4, .bool false, .string ⟨#[]⟩, .string ⟨#[]⟩, .string ⟨#[]⟩, .int .u64 0, .int .i64 0, .string ⟨#[]⟩, .int .i64 ((n : Int) + 1)]) := by
              rw [hW6]
              exact ⟨HS5.out.1.beside (by omega) _ _, HS5.out.2.1.set 0 _⟩
            have k6 : Below w.heap.size w W6 := by rw [hW6]; exact below_set k5 (by omega) _ _
            go_upto_region 18 with fail
            rw [← hW6]
            clear hW6 o0 u0'
            obtain ⟨WZ, hWZ⟩ : ∃ V : World, V = set9 W6 w.heap.size (.int .i64 e4) (.bool false) (.string ⟨#[]⟩) (.string ⟨#[]⟩) (.string ⟨#[]⟩) (.int .u64 0) (.int .i64 0) (.string ⟨#[]⟩) (.int .i64 ((n : Int) + 1)) := ⟨_, rfl⟩
            have hBZ := (HS6.out.1).set9 (.int .i64 e4) (.bool false) (.string ⟨#[]⟩) (.string ⟨#[]⟩) (.string ⟨#[]⟩) (.int .u64 0) (.int .i64 0) (.string ⟨#[]⟩) (.int .i64 ((n : Int) + 1))
            rw [← hWZ] at hBZ
            have kZ : Below w.heap.size w WZ := by rw [hWZ]; exact below_set9 k6 (Nat.le_refl _) _ _ _ _ _ _ _ _ _
            have f0 := (HS6.out.1).frozen 0
            have q0 := (HS6.out.1).cell (j := 0) rfl
            have o0 := (HS6.out.2).cell (j := 0) rfl
            have p0 := hBZ.cell (j := 0) rfl
            have f1 := (HS6.out.1).frozen 1
            have q1 := (HS6.out.1).cell (j := 1) rfl
            have o1 := (HS6.out.2).cell (j := 1) rfl
            have p1 := hBZ.cell (j := 1) rfl
            have f2 := (HS6.out.1).frozen 2
            have q2 := (HS6.out.1).cell (j := 2) rfl
            have o2 := (HS6.out.2).cell (j := 2) rfl
            have p2 := hBZ.cell (j := 2) rfl
            have f3 := (HS6.out.1).frozen 3
            have q3 := (HS6.out.1).cell (j := 3) rfl
            have o3 := (HS6.out.2).cell (j := 3) rfl
            have p3 := hBZ.cell (j := 3) rfl
            have f4 := (HS6.out.1).frozen 4
            have q4 := (HS6.out.1).cell (j := 4) rfl
            have o4 := (HS6.out.2).cell (j := 4) rfl
            have p4 := hBZ.cell (j := 4) rfl
            have f5 := (HS6.out.1).frozen 5
            have q5 := (HS6.out.1).cell (j := 5) rfl
            have o5 := (HS6.out.2).cell (j := 5) rfl
            have p5 := hBZ.cell (j := 5) rfl
            have f6 := (HS6.out.1).frozen 6
            have q6 := (HS6.out.1).cell (j := 6) rfl
            have o6 := (HS6.out.2).cell (j := 6) rfl
            have p6 := hBZ.cell (j := 6) rfl
            have f7 := (HS6.out.1).frozen 7
            have q7 := (HS6.out.1).cell (j := 7) rfl
            have o7 := (HS6.out.2).cell (j := 7) rfl
            have p7 := hBZ.cell (j := 7) rfl
            have f8 := (HS6.out.1).frozen 8
            have q8 := (HS6.out.1).cell (j := 8) rfl
            have o8 := (HS6.out.2).cell (j := 8) rfl
            have p8 := hBZ.cell (j := 8) rfl
            unfold set9 at hWZ
            go_wp2_with fail
            rw [← hWZ]
            exact bodyPost_ret (v := (seekM xs row).v) (by rw [HD.out]; simp [results, Tryz.results18, go_sem, zeroE, p0, p1, p2, p3, p4, p5, p6, p7, p8]) rfl ⟨rfl, kZ⟩
          · replace he4 := Decidable.not_not.1 he4
            subst he4
            have HNx : Hid (seekM xs row = match es.find? (fun e => !lessB e.row row) with | some e => ⟨0, true, e, n + 1⟩ | none => seekFrom xs row (bs.drop (k + 1)) (n + 1)) := by
              show seekM xs row = _
              rw [HS.out.1, HBk.out.1, seekFrom, ← HE4.out]
              simp only [ne_eq, not_true_eq_false, if_false]
            clear HS HE4
            go_upto_region 20 with fail
            go_loopw [13] (fun ii wr => ∃ (j : Nat), j ≤ es.length ∧ ii = .int .i64 (j : Int) ∧ (∀ x ∈ es.take j, lessB x.row row = true) ∧ wr = W5) (fun ii _ => es.length - (intOf ii).toNat)
            case atStart => exact ⟨0, Nat.zero_le _, rfl, fun x hx => by simp at hx, rfl⟩
            case round =>
              obtain ⟨j, hj, rfl, hall, hwr⟩ := hrel
              rw [hwr]
              clear hwr wr
              have HA : Hid (∀ x ∈ es.take j, lessB x.row row = true) := hall
              clear hall
              by_cases hjl : j < es.length
              · obtain ⟨x, hx⟩ : ∃ x, es[j]? = some x := ⟨_, List.getElem?_eq_getElem hjl⟩
                have hdj : es.drop j = x :: es.drop (j + 1) := by rw [List.drop_eq_getElem_cons hjl, (List.getElem?_eq_some_iff.1 hx).2]
                have HXj : Hid (es[j]? = some x ∧ es = es.take j ++ x :: es.drop (j + 1)) := ⟨hx, by rw [← hdj, List.take_append_drop]⟩
                clear hdj
                have zj : (j : Int) < (es.length : Int) := by omega
                have c0 := (HS5.out.2.2.at j x hx).1
                rw [Nat.zero_add] at c0
                cases hl : Op.bytesLess x.row.toList row.toList
                · have HD : Hid (seekM xs row = ⟨0, true, x, n + 1⟩) := by
                    show seekM xs row = _
                    have hf : es.find? (fun e => !lessB e.row row) = some x := by
                      rw [HXj.out.2, List.find?_append, List.find?_eq_none.2 (fun y hy => by rw [HA.out y hy]; decide)]
                      simp [lessB, hl]
                    rw [HNx.out, hf]
                  have o1 := HS5.out.2.1.cell (j := 1) rfl
                  have u1' := HS5.out.2.1.frozen 1
                  obtain ⟨W6, hW6⟩ : ∃ V : World, V = W5.setCell ⟨O, 1, none⟩ (.bool true) := ⟨_, rfl⟩
                  have HS6 : Hid (BoxAt W6 w.heap.size 47 9 w.heap.size [.int .i64 0, .bool false, .string ⟨#[]⟩, .string ⟨#[]⟩, .string ⟨#[]⟩, .int .u64 0, .int .i64 0, .string ⟨#[]⟩, .int .i64 0] ∧ BoxAt W6 w9.heap.size 47 9 O [.int .i64 0, .bool true, .string ⟨#[]⟩, .string ⟨#[]⟩, .string ⟨#[]⟩, .int .u64 0, .int .i64 0, .string ⟨#[]⟩, .int .i64 ((n : Int) + 1)] ∧ OwnE W6 wr.heap.size g4 c4 es) := by
                    rw [hW6]
                    exact ⟨HS5.out.1.beside (by omega) _ _, HS5.out.2.1.set 1 _, HS5.out.2.2.chg' (Chg.of_set W5 O 1 _ (S := fun q => q = O) rfl) hOg⟩
                  have k6 : Below w.heap.size w W6 := by rw [hW6]; exact below_set k5 (by omega) _ _
                  clear hx
                  go_upto_region 24 with fail
                  rw [← hW6]
                  clear hW6 o1 u1' c0
                  obtain ⟨e0, e1, e2, e3, e4, e5⟩ := HS6.out.2.2.at j x HXj.out.1
                  rw [Nat.zero_add] at e0 e1 e2 e3 e4 e5
                  obtain ⟨W7, hW7⟩ : ∃ V : World, V = ((((((W6.setCell ⟨O, 2, none⟩ (.string x.row)).setCell ⟨O, 3, none⟩ (.string x.fam)).setCell ⟨O, 4, none⟩ (.string x.qual)).setCell ⟨O, 5, none⟩ (.int .u64 x.ts)).setCell ⟨O, 6, none⟩ (.int .i64 x.kind)).setCell ⟨O, 7, none⟩ (.string x.val)) := ⟨_, rfl⟩
                  have HS7 : Hid (BoxAt W7 w.heap.size 47 9 w.heap.size [.int .i64 0, .bool false, .string ⟨#[]⟩, .string ⟨#[]⟩, .string ⟨#[]⟩, .int .u64 0, .int .i64 0, .string ⟨#[]⟩, .int .i64 0] ∧ BoxAt W7 w9.heap.size 47 9 O [.int .i64 0, .bool true, .string x.row, .string x.fam, .string x.qual, .int .u64 x.ts, .int .i64 x.kind, .string x.val, .int .i64 ((n : Int) + 1)]) := by
                    rw [hW7]
                    have hn : ¬ w.heap.size = O := by omega
                    exact ⟨(((((HS6.out.1.beside hn 2 _).beside hn 3 _).beside hn 4 _).beside hn 5 _).beside hn 6 _).beside hn 7 _, (((((HS6.out.2.1.set 2 _).set 3 _).set 4 _).set 5 _).set 6 _).set 7 _⟩
                  have k7 : Below w.heap.size w W7 := by
                    rw [hW7]
                    have hn : w.heap.size ≤ O := by omega
                    exact below_set (below_set (below_set (below_set (below_set (below_set k6 hn 2 _) hn 3 _) hn 4 _) hn 5 _) hn 6 _) hn 7 _
                  have v2 := HS6.out.2.1.frozen 2
                  have t2 := HS6.out.2.1.cell (j := 2) rfl
                  have v3 := HS6.out.2.1.frozen 3
                  have t3 := HS6.out.2.1.cell (j := 3) rfl
                  have v4 := HS6.out.2.1.frozen 4
                  have t4 := HS6.out.2.1.cell (j := 4) rfl
                  have v5 := HS6.out.2.1.frozen 5
                  have t5 := HS6.out.2.1.cell (j := 5) rfl
                  have v6 := HS6.out.2.1.frozen 6
                  have t6 := HS6.out.2.1.cell (j := 6) rfl
                  have v7 := HS6.out.2.1.frozen 7
                  have t7 := HS6.out.2.1.cell (j := 7) rfl
                  go_upto_region 25 with fail
                  rw [← hW7]
                  clear hW7 e0 e1 e2 e3 e4 e5 v2 t2 v3 t3 v4 t4 v5 t5 v6 t6 v7 t7
                  obtain ⟨WZ, hWZ⟩ : ∃ V : World, V = set9 W7 w.heap.size (.int .i64 0) (.bool true) (.string x.row) (.string x.fam) (.string x.qual) (.int .u64 x.ts) (.int .i64 x.kind) (.string x.val) (.int .i64 ((n : Int) + 1)) := ⟨_, rfl⟩
                  have hBZ := (HS7.out.1).set9 (.int .i64 0) (.bool true) (.string x.row) (.string x.fam) (.string x.qual) (.int .u64 x.ts) (.int .i64 x.kind) (.string x.val) (.int .i64 ((n : Int) + 1))
                  rw [← hWZ] at hBZ
                  have kZ : Below w.heap.size w WZ := by rw [hWZ]; exact below_set9 k7 (Nat.le_refl _) _ _ _ _ _ _ _ _ _
                  have f0 := (HS7.out.1).frozen 0
                  have q0 := (HS7.out.1).cell (j := 0) rfl
                  have o0 := (HS7.out.2).cell (j := 0) rfl
                  have p0 := hBZ.cell (j := 0) rfl
                  have f1 := (HS7.out.1).frozen 1
                  have q1 := (HS7.out.1).cell (j := 1) rfl
                  have o1 := (HS7.out.2).cell (j := 1) rfl
                  have p1 := hBZ.cell (j := 1) rfl
                  have f2 := (HS7.out.1).frozen 2
                  have q2 := (HS7.out.1).cell (j := 2) rfl
                  have o2 := (HS7.out.2).cell (j := 2) rfl
                  have p2 := hBZ.cell (j := 2) rfl
                  have f3 := (HS7.out.1).frozen 3
                  have q3 := (HS7.out.1).cell (j := 3) rfl
                  have o3 := (HS7.out.2).cell (j := 3) rfl
                  have p3 := hBZ.cell (j := 3) rfl
                  have f4 := (HS7.out.1).frozen 4
                  have q4 := (HS7.out.1).cell (j := 4) rfl
                  have o4 := (HS7.out.2).cell (j := 4) rfl
                  have p4 := hBZ.cell (j := 4) rfl
                  have f5 := (HS7.out.1).frozen 5
                  have q5 := (HS7.out.1).cell (j := 5) rfl
                  have o5 := (HS7.out.2).cell (j := 5) rfl
                  have p5 := hBZ.cell (j := 5) rfl
                  have f6 := (HS7.out.1).frozen 6
                  have q6 := (HS7.out.1).cell (j := 6) rfl
                  have o6 := (HS7.out.2).cell (j := 6) rfl
                  have p6 := hBZ.cell (j := 6) rfl
                  have f7 := (HS7.out.1).frozen 7
                  have q7 := (HS7.out.1).cell (j := 7) rfl
                  have o7 := (HS7.out.2).cell (j := 7) rfl
                  have p7 := hBZ.cell (j := 7) rfl
                  have f8 := (HS7.out.1).frozen 8
                  have q8 := (HS7.out.1).cell (j := 8) rfl
                  have o8 := (HS7.out.2).cell (j := 8) rfl
                  have p8 := hBZ.cell (j := 8) rfl
                  unfold set9 at hWZ
                  go_wp2_with fail
                  rw [← hWZ]
                  exact bodyPost_ret (v := (seekM xs row).v) (by rw [HD.out]; simp [results, Tryz.results18, go_sem, zeroE, p0, p1, p2, p3, p4, p5, p6, p7, p8]) rfl ⟨rfl, kZ⟩
                · have HA2 : Hid (∀ x ∈ es.take (j + 1), lessB x.row row = true) := by
                    intro y hy
                    rw [List.take_add_one, HXj.out.1] at hy
                    rcases List.mem_append.1 hy with hy | hy
                    · exact HA.out y hy
                    · simp at hy
                      subst hy
                      exact hl
                  clear hx
                  go_wp2_with fail
                  exact ⟨⟨j + 1, by omega, by go_num, HA2.out, by trivial⟩, by simp [intOf]; omega⟩
              · obtain rfl : j = es.length := by omega
                have zj : ¬ (es.length : Int) < (es.length : Int) := by omega
                have HD : Hid (seekM xs row = seekFrom xs row (bs.drop (k + 1)) (n + 1)) := by
                  show seekM xs row = _
                  have hf : es.find? (fun e => !lessB e.row row) = none := by
                    rw [List.find?_eq_none]
                    intro y hy
                    rw [HA.out y (by rw [List.take_of_length_le (Nat.le_refl _)]; exact hy)]
                    decide
                  rw [HNx.out, hf]
                have HB5 : Hid (BoxAt W5 w9.heap.size 47 9 O [.int .i64 0, .bool false, .string ⟨#[]⟩, .string ⟨#[]⟩, .string ⟨#[]⟩, .int .u64 0, .int .i64 0, .string ⟨#[]⟩, .int .i64 ((n + 1 : Nat) : Int)]) := by
                  have := HS5.out.2.1
                  rw [show ((n : Int) + 1) = ((n + 1 : Nat) : Int) by omega] at this
                  exact this
                clear HNx
                go_wp2_with fail
                exact ⟨⟨k + 1, n + 1, by omega, by omega, by go_num, HD.out, HS5.out.1, HB5.out, r5⟩, by simp [intOf]; omega⟩
        · obtain rfl : k = bs.length := by omega
          have HD : Hid (seekM xs row = ⟨0, false, zeroE, n⟩) := by
            show seekM xs row = _
            rw [HS.out.1, List.drop_of_length_le (Nat.le_refl _)]; rfl
          have zk : ¬ (bs.length : Int) < (bs.length : Int) := by omega
          have HS6 : Hid (BoxAt wr w.heap.size 47 9 w.heap.size [.int .i64 0, .bool false, .string ⟨#[]⟩, .string ⟨#[]⟩, .string ⟨#[]⟩, .int .u64 0, .int .i64 0, .string ⟨#[]⟩, .int .i64 0] ∧ BoxAt wr w9.heap.size 47 9 O [.int .i64 0, .bool false, .string ⟨#[]⟩, .string ⟨#[]⟩, .string ⟨#[]⟩, .int .u64 0, .int .i64 0, .string ⟨#[]⟩, .int .i64 (n : Int)]) := HS.out.2
          clear HS
          go_upto_region 26 with fail
          obtain ⟨WZ, hWZ⟩ : ∃ V : World, V = set9 wr w.heap.size (.int .i64 0) (.bool false) (.string ⟨#[]⟩) (.string ⟨#[]⟩) (.string ⟨#[]⟩) (.int .u64 0) (.int .i64 0) (.string ⟨#[]⟩) (.int .i64 (n : Int)) := ⟨_, rfl⟩
          have hBZ := (HS6.out.1).set9 (.int .i64 0) (.bool false) (.string ⟨#[]⟩) (.string ⟨#[]⟩) (.string ⟨#[]⟩) (.int .u64 0) (.int .i64 0) (.string ⟨#[]⟩) (.int .i64 (n : Int))
          rw [← hWZ] at hBZ
          have kZ : Below w.heap.size w WZ := by rw [hWZ]; exact below_set9 kq (Nat.le_refl _) _ _ _ _ _ _ _ _ _
          have f0 := (HS6.out.1).frozen 0
          have q0 := (HS6.out.1).cell (j := 0) rfl
          have o0 := (HS6.out.2).cell (j := 0) rfl
          have p0 := hBZ.cell (j := 0) rfl
          have f1 := (HS6.out.1).frozen 1
          have q1 := (HS6.out.1).cell (j := 1) rfl
          have o1 := (HS6.out.2).cell (j := 1) rfl
          have p1 := hBZ.cell (j := 1) rfl
          have f2 := (HS6.out.1).frozen 2
          have q2 := (HS6.out.1).cell (j := 2) rfl
          have o2 := (HS6.out.2).cell (j := 2) rfl
          have p2 := hBZ.cell (j := 2) rfl
          have f3 := (HS6.out.1).frozen 3
          have q3 := (HS6.out.1).cell (j := 3) rfl
          have o3 := (HS6.out.2).cell (j := 3) rfl
          have p3 := hBZ.cell (j := 3) rfl
          have f4 := (HS6.out.1).frozen 4
          have q4 := (HS6.out.1).cell (j := 4) rfl
          have o4 := (HS6.out.2).cell (j := 4) rfl
          have p4 := hBZ.cell (j := 4) rfl
          have f5 := (HS6.out.1).frozen 5
          have q5 := (HS6.out.1).cell (j := 5) rfl
          have o5 := (HS6.out.2).cell (j := 5) rfl
          have p5 := hBZ.cell (j := 5) rfl
          have f6 := (HS6.out.1).frozen 6
          have q6 := (HS6.out.1).cell (j := 6) rfl
          have o6 := (HS6.out.2).cell (j := 6) rfl
          have p6 := hBZ.cell (j := 6) rfl
          have f7 := (HS6.out.1).frozen 7
          have q7 := (HS6.out.1).cell (j := 7) rfl
          have o7 := (HS6.out.2).cell (j := 7) rfl
          have p7 := hBZ.cell (j := 7) rfl
          have f8 := (HS6.out.1).frozen 8
          have q8 := (HS6.out.1).cell (j := 8) rfl
          have o8 := (HS6.out.2).cell (j := 8) rfl
          have p8 := hBZ.cell (j := 8) rfl
          unfold set9 at hWZ
          go_wp2_with fail
          rw [← hWZ]
          exact bodyPost_ret (v := (seekM xs row).v) (by rw [HD.out]; simp [results, Tryz.results18, go_sem, zeroE, p0, p1, p2, p3, p4, p5, p6, p7, p8]) rfl ⟨rfl, kZ⟩
end Go.Proofs.YtlgeffinhbodeaeGreatDoor

/-
  A run cut into blocks (mathematics).
-/
namespace Go.Proofs.YtlgeffinhbodeaeGreatDoor
set_option linter.unusedVariables false
set_option linter.unusedSimpArgs false

def chunks (p : Nat) (es : List Ent) : List (List Ent) :=
  if h : p < es.length ∧ 0 < p then es.take p :: chunks p (es.drop p) else if es.length = 0 then [] else [es]
termination_by es.length
decreasing_by simp; omega
theorem chunks_more {p : Nat} {es : List Ent} (h : p < es.length) (hp : 0 < p) : chunks p es = es.take p :: chunks p (es.drop p) := by
  rw [chunks, dif_pos ⟨h, hp⟩]
theorem chunks_nil (p : Nat) : chunks p [] = [] := by
  rw [chunks, dif_neg (by simp)]; rfl
theorem chunks_last {p : Nat} {es : List Ent} (h : ¬ p < es.length) (h0 : 0 < es.length) : chunks p es = [es] := by
  rw [chunks, dif_neg (by omega), if_neg (by omega)]
theorem chunks_flatten (p : Nat) : ∀ (n : Nat) (es : List Ent), es.length ≤ n → (chunks p es).flatten = es
  | 0, es, h => by rw [List.length_eq_zero_iff.1 (Nat.le_zero.1 h), chunks_nil]; rfl
  | n + 1, es, h => by
    by_cases h1 : p < es.length ∧ 0 < p
    · rw [chunks_more h1.1 h1.2, List.flatten_cons, chunks_flatten p n (es.drop p) (by simp; omega), List.take_append_drop]
    · by_cases h0 : es.length = 0
      · rw [List.length_eq_zero_iff.1 h0, chunks_nil]; rfl
      · rw [chunks, dif_neg h1, if_neg h0]; simp
theorem chunks_mem (p : Nat) : ∀ (n : Nat) (es : List Ent), es.length ≤ n → ∀ c ∈ chunks p es, 0 < c.length ∧ (0 < p → c.length ≤ p) ∧ ∀ e ∈ c, e ∈ es
  | 0, es, h, c, hc => by rw [List.length_eq_zero_iff.1 (Nat.le_zero.1 h), chunks_nil] at hc; simp at hc
  | n + 1, es, h, c, hc => by
    by_cases h1 : p < es.length ∧ 0 < p
    · rw [chunks_more h1.1 h1.2] at hc
      rcases List.mem_cons.1 hc with rfl | hc
      · exact ⟨by simp; omega, fun _ => by simp; omega, fun e he => List.mem_of_mem_take he⟩
      · obtain ⟨q1, q2, q3⟩ := chunks_mem p n (es.drop p) (by simp; omega) c hc
        exact ⟨q1, q2, fun e he => List.mem_of_mem_drop (q3 e he)⟩
    · by_cases h0 : es.length = 0
      · rw [List.length_eq_zero_iff.1 h0, chunks_nil] at hc; simp at hc
      · rw [chunks, dif_neg h1, if_neg h0] at hc
        simp at hc
        subst hc
        exact ⟨by omega, fun hp => by omega, fun e he => he⟩
theorem chunks_ok {p : Nat} {es : List Ent} (hv : ∀ e ∈ es, e.vld = true) (hk : ∀ e ∈ es, e.ok) : ∀ c ∈ chunks p es, OkB c := by
  intro c hc
  obtain ⟨h1, _, h3⟩ := chunks_mem p _ es (Nat.le_refl _) c hc
  exact ⟨fun e he => hv e (h3 e he), fun e he => hk e (h3 e he), h1⟩
/-- What spec.EncodeRun answers. -/
def EncOf (es : List Ent) (per : Int) (xs : List UInt8) : Prop := (GoodR es ∧ 1 ≤ per ∧ per ≤ 1000 → xs = fileM (chunks per.toNat es)) ∧ (¬ (GoodR es ∧ 1 ≤ per ∧ per ≤ 1000) → xs = [])
theorem encOf_uniq {es : List Ent} {per : Int} {xs ys : List UInt8} (h : EncOf es per xs) (k : EncOf es per ys) : xs = ys := by
  by_cases g : GoodR es ∧ 1 ≤ per ∧ per ≤ 1000
  · rw [h.1 g, k.1 g]
  · rw [h.2 g, k.2 g]
end Go.Proofs.YtlgeffinhbodeaeGreatDoor

/-
  A file read back (mathematics).
-/
namespace Go.Proofs.YtlgeffinhbodeaeGreatDoor
set_option linter.unusedVariables false
set_option linter.unusedSimpArgs false

/-- The index of the blocks that lie from 'p' on. -/
def blksOf : Nat → List (List Ent) → List Blk
  | _, [] => []
  | p, es :: bs => ⟨p, p + (body [] es).length, es.length, ba (row0 es)⟩ :: blksOf (p + (body [] es).length + 4) bs
theorem getBlks_back {n lim : Nat} : ∀ (bs : List (List Ent)) (p : Nat) (t : List UInt8), (∀ es ∈ bs, OkB es) → (∀ es ∈ bs, es.length ≤ 1000) → p + (fblocks bs).length ≤ lim → lim ≤ n → n < 2 ^ 64 →
    getBlks n lim bs.length p (fones bs ++ t) = some (blksOf p bs, p + (fblocks bs).length, t)
  | [], p, t, _, _, _, _, _ => by simp [getBlks, blksOf, fblocks, fones]
  | es :: bs, p, t, hk, hl, hp, hn, h64 => by
    have hok := hk es (by simp)
    have hle := hl es (by simp)
    have hlen : (fblocks (es :: bs)).length = (body [] es).length + 4 + (fblocks bs).length := by simp [fblocks, fblock, sumOf_len]; omega
    rw [hlen] at hp ⊢
    have h0 := hok.ne
    have hrow := row0_len hok
    have e1 : fones (es :: bs) ++ t = num (body [] es).length ++ (num es.length ++ (strB (row0 es) ++ (fones bs ++ t))) := by simp [fones, fone]
    have hone : oneBlk n lim p (fones (es :: bs) ++ t) = some (⟨p, p + (body [] es).length, es.length, ba (row0 es)⟩, p + (body [] es).length + 4, fones bs ++ t) := by
      rw [e1]
      unfold oneBlk
      rw [getNum_num (by omega)]
      simp only []
      rw [getNum_num (by omega)]
      simp only []
      rw [getStr_str (by omega)]
      simp only []
      rw [if_neg (by omega)]
    rw [List.length_cons, getBlks, hone]
    simp only []
    rw [getBlks_back bs (p + (body [] es).length + 4) t (fun x hx => hk x (by simp [hx])) (fun x hx => hl x (by simp [hx])) (by omega) hn h64]
    simp only [blksOf]
    congr 3
    omega
theorem drop_take_mid (A B C : List UInt8) : ((A ++ (B ++ C)).drop A.length).take B.length = B := by
  rw [List.drop_left, List.take_left]
theorem blkM_back {F A C : List UInt8} {es : List Ent} {p : Nat} (hok : OkB es) (hF : F = A ++ (fblock es ++ C)) (hA : A.length = p) : blkM F ⟨p, p + (body [] es).length, es.length, ba (row0 es)⟩ = (0, es) := by
  have hb : ((F.drop p).take (body [] es).length) = body [] es := by
    rw [hF, ← hA]
    unfold fblock
    rw [List.append_assoc]
    exact drop_take_mid _ _ _
  have hs : fixAt F (p + (body [] es).length) = (crc (body [] es)).toNat := by
    have : F = (A ++ body [] es) ++ (fixed (crc (body [] es)).toNat ++ C) := by rw [hF]; unfold fblock sumOf; simp only [List.append_assoc]
    rw [this, show p + (body [] es).length = (A ++ body [] es).length by rw [List.length_append, hA]]
    exact fixAt_fixed (crc (body [] es)).isLt _ _
  unfold blkM
  simp only [Nat.add_sub_cancel_left]
  rw [hb, hs, if_neg (fun q => q rfl)]
  have hg := getEnts_body es [] [] hok.vld hok.ok
  rw [List.append_nil] at hg
  rw [hg]
  simp only [entEnd]
  rw [if_neg]
  rintro (h | h)
  · exact h rfl
  · exact h (bl_ba _).symm
theorem decBlks_back {F C : List UInt8} : ∀ (bs : List (List Ent)) (A : List UInt8) (p : Nat), (∀ es ∈ bs, OkB es) → F = A ++ (fblocks bs ++ C) → A.length = p → decBlks F (blksOf p bs) = (0, bs.flatten)
  | [], A, p, _, _, _ => by simp [decBlks, blksOf]
  | es :: bs, A, p, hk, hF, hA => by
    have h1 : F = A ++ (fblock es ++ (fblocks bs ++ C)) := by rw [hF]; simp [fblocks]
    have h2 := blkM_back (hk es (by simp)) h1 hA
    have h3 := decBlks_back (F := F) (C := C) bs (A ++ fblock es) (p + (body [] es).length + 4) (fun x hx => hk x (by simp [hx])) (by rw [h1]; simp only [List.append_assoc]) (by rw [List.length_append, hA]; simp [fblock, sumOf_len]; omega)
    rw [blksOf, decBlks, h2, h3]
    simp
/-- The index of a file. -/
theorem idxM_back {bs : List (List Ent)} (hk : ∀ es ∈ bs, OkB es) (hl : ∀ es ∈ bs, es.length ≤ 1000) (hn : bs.flatten.length ≤ 10000) : idxM (fileM bs) = (0, blksOf 4 bs) := by
  have hm := blocks_many bs hk
  have l1 := fblocks_len bs hk
  have l2 := fones_len bs hk hn
  have l3 := num_len64 (n := bs.length) (by omega)
  have l4 := num_pos bs.length
  have hI : (findex bs).length = (num bs.length).length + (fones bs).length := by simp [findex]
  obtain ⟨I, hId⟩ : ∃ I, I = findex bs := ⟨_, rfl⟩
  obtain ⟨X, hXd⟩ : ∃ X, X = fblocks bs := ⟨_, rfl⟩
  have hF : fileM bs = headB ++ X ++ I ++ sumOf I ++ fixed I.length := by rw [hId, hXd]; rfl
  rw [← hId] at hI
  have h4 : headB.length = 4 := rfl
  have hlen : (fileM bs).length = 4 + X.length + I.length + 8 := by
    rw [hF]
    simp only [List.length_append, sumOf_len, fixed_len, h4]
  have hI32 : I.length < 2 ^ 32 := by omega
  have ht4 : (fileM bs).take 4 = headB := by
    rw [hF]
    simp only [List.append_assoc]
    exact List.take_left (l₁ := headB)
  have hfx : fixAt (fileM bs) ((fileM bs).length - 4) = I.length := by
    have e : fileM bs = (headB ++ X ++ I ++ sumOf I) ++ (fixed I.length ++ []) := by rw [hF]; simp
    have e2 : (fileM bs).length - 4 = (headB ++ X ++ I ++ sumOf I).length := by rw [hlen]; simp only [List.length_append, sumOf_len, h4]; omega
    rw [e2]
    rw [e]
    exact fixAt_fixed hI32 _ _
  have hsum : fixAt (fileM bs) ((fileM bs).length - 8) = (crc I).toNat := by
    have e : fileM bs = (headB ++ X ++ I) ++ (fixed (crc I).toNat ++ fixed I.length) := by rw [hF]; unfold sumOf; simp only [List.append_assoc]
    have e2 : (fileM bs).length - 8 = (headB ++ X ++ I).length := by rw [hlen]; simp only [List.length_append, h4]; omega
    rw [e2]
    rw [e]
    exact fixAt_fixed (crc I).isLt _ _
  have hlim : (fileM bs).length - 8 - I.length = 4 + X.length := by rw [hlen]; omega
  have hix : ((fileM bs).drop (4 + X.length)).take I.length = I := by
    have e : fileM bs = (headB ++ X) ++ (I ++ (sumOf I ++ fixed I.length)) := by rw [hF]; simp only [List.append_assoc]
    have e2 : 4 + X.length = (headB ++ X).length := by rw [List.length_append, h4]
    rw [e2, e]
    exact drop_take_mid _ _ _
  unfold idxM
  rw [if_neg (by rintro (h | h); · rw [hlen] at h; omega
                 · exact h ht4), hfx, if_neg (by rw [hlen]; omega), hlim, hix, hsum, if_neg (fun q => q rfl)]
  have hb := getBlks_back (n := (fileM bs).length) (lim := 4 + X.length) bs 4 [] hk hl (by rw [hXd]; exact Nat.le_refl _) (by rw [hlen]; omega) (by rw [hlen]; rw [hXd]; omega)
  rw [List.append_nil] at hb
  unfold idxBody
  rw [hId]
  unfold findex
  rw [getNum_num (by omega)]
  simp only []
  rw [if_neg (by omega), hb, hXd]
  simp [idxEnd]
/-- A valid run comes back from its file. -/
theorem decM_back {es : List Ent} {p : Nat} (hg : GoodR es) (hok : ∀ e ∈ es, e.ok) (h1 : 1 ≤ p) (h2 : p ≤ 1000) : decM (fileM (chunks p es)) = (0, es) := by
  have hk := chunks_ok (p := p) hg.1.2 hok
  have hl : ∀ c ∈ chunks p es, c.length ≤ 1000 := fun c hc => Nat.le_trans ((chunks_mem p _ es (Nat.le_refl _) c hc).2.1 (by omega)) h2
  have hf := chunks_flatten p _ es (Nat.le_refl _)
  have hi := idxM_back hk hl (by rw [hf]; exact hg.1.1)
  have hd : decBlks (fileM (chunks p es)) (blksOf 4 (chunks p es)) = (0, es) := by
    have := decBlks_back (F := fileM (chunks p es)) (C := findex (chunks p es) ++ sumOf (findex (chunks p es)) ++ fixed (findex (chunks p es)).length) (chunks p es) headB 4 hk (by unfold fileM; simp only [List.append_assoc]) rfl
    rw [this, hf]
  unfold decM
  rw [hi]
  simp only [ne_eq, not_true_eq_false, if_false]
  rw [hd]
  simp [hg]
end Go.Proofs.YtlgeffinhbodeaeGreatDoor

/-
  A seek in a file of which one byte has been changed; what a seek finds in a file as it was written (mathematics).
-/
namespace Go.Proofs.YtlgeffinhbodeaeGreatDoor
set_option linter.unusedVariables false
set_option linter.unusedSimpArgs false

/-- What a stretch of bytes is after one of them was changed. -/
theorem stretch_set_out {F : List UInt8} {at_ : Nat} {x : UInt8} {a n : Nat} (h : at_ < a ∨ a + n ≤ at_) : ((F.set at_ x).drop a).take n = (F.drop a).take n := by
  apply List.ext_getElem?
  intro i
  rw [List.getElem?_take, List.getElem?_take]
  split
  · rw [List.getElem?_drop, List.getElem?_drop, List.getElem?_set, if_neg (by omega)]
  · rfl
theorem stretch_set_in {F : List UInt8} {at_ : Nat} {x : UInt8} {a n : Nat} (h1 : a ≤ at_) (h2 : at_ < a + n) (hF : a + n ≤ F.length) : ∃ p y q, (F.drop a).take n = p ++ y :: q ∧ ((F.set at_ x).drop a).take n = p ++ x :: q ∧ F[at_]? = some y := by
  have hl : at_ < F.length := by omega
  refine ⟨((F.drop a).take n).take (at_ - a), F[at_], ((F.drop a).take n).drop (at_ - a + 1), ?_, ?_, List.getElem?_eq_getElem hl⟩
  · have hk : ((F.drop a).take n)[at_ - a]? = some F[at_] := by
      rw [List.getElem?_take, if_pos (by omega), List.getElem?_drop, show a + (at_ - a) = at_ by omega]
      exact List.getElem?_eq_getElem hl
    obtain ⟨k1, k2⟩ := List.getElem?_eq_some_iff.1 hk
    conv => lhs; rw [← List.take_append_drop (at_ - a) ((F.drop a).take n), List.drop_eq_getElem_cons k1, k2]
  · have hk : (((F.set at_ x).drop a).take n) = ((F.drop a).take n).set (at_ - a) x := by
      apply List.ext_getElem?
      intro i
      rw [List.getElem?_take, List.getElem?_drop, List.getElem?_set, List.getElem?_set, List.getElem?_take, List.getElem?_drop]
      by_cases hi : i < n
      · rw [if_pos hi, if_pos hi]
        by_cases he : at_ = a + i
        · subst he
          rw [if_pos rfl, if_pos (by omega), if_pos (by omega), if_pos (by simp; omega)]
        · rw [if_neg he, if_neg (by omega)]
      · rw [if_neg hi, if_neg hi, if_neg (by omega)]
    rw [hk, List.set_eq_take_append_cons_drop, if_pos (by simp; omega)]
theorem fixAt_set_out {F : List UInt8} {at_ : Nat} {x : UInt8} {a : Nat} (h : at_ < a ∨ a + 4 ≤ at_) : fixAt (F.set at_ x) a = fixAt F a := by
  unfold fixAt
  simp only [List.getD_eq_getElem?_getD]
  rw [List.getElem?_set, List.getElem?_set, List.getElem?_set, List.getElem?_set, if_neg (by omega), if_neg (by omega), if_neg (by omega), if_neg (by omega)]
theorem fixAt_set_in {F : List UInt8} {at_ : Nat} {x y : UInt8} {a : Nat} (h1 : a ≤ at_) (h2 : at_ < a + 4) (hy : F[at_]? = some y) (hne : ¬ y = x) : ¬ fixAt (F.set at_ x) a = fixAt F a := by
  have hl := (List.getElem?_eq_some_iff.1 hy).1
  have hn : ¬ y.toNat = x.toNat := fun q => hne (UInt8.toNat_inj.1 q)
  have hg : ∀ k, (F.set at_ x).getD k 0 = if at_ = k then x else F.getD k 0 := by
    intro k
    simp only [List.getD_eq_getElem?_getD, List.getElem?_set]
    by_cases hk : at_ = k
    · subst hk; simp [hl]
    · simp [hk]
  have hyd : F.getD at_ 0 = y := by rw [List.getD_eq_getElem?_getD, hy]; rfl
  have b1 := u8lt x
  have b2 := u8lt y
  have b3 := u8lt (F.getD a 0)
  have b4 := u8lt (F.getD (a + 1) 0)
  have b5 := u8lt (F.getD (a + 2) 0)
  have b6 := u8lt (F.getD (a + 3) 0)
  unfold fixAt fix4
  rw [hg, hg, hg, hg]
  intro hq
  by_cases c0 : at_ = a
  · subst c0
    rw [if_pos rfl, if_neg (by omega), if_neg (by omega), if_neg (by omega), hyd] at hq
    omega
  · by_cases c1 : at_ = a + 1
    · subst c1
      rw [if_neg (by omega), if_pos rfl, if_neg (by omega), if_neg (by omega), hyd] at hq
      omega
    · by_cases c2 : at_ = a + 2
      · subst c2
        rw [if_neg (by omega), if_neg (by omega), if_pos rfl, if_neg (by omega), hyd] at hq
        omega
      · have c3 : at_ = a + 3 := by omega
        subst c3
        rw [if_neg (by omega), if_neg (by omega), if_neg (by omega), if_pos rfl, hyd] at hq
        omega
/-- A block that was read without a fault is read so again, or with one. -/
theorem blkM_set {F : List UInt8} {at_ : Nat} {x y : UInt8} {k : Blk} (hy : F[at_]? = some y) (hne : ¬ y = x) (hk1 : k.fr ≤ k.til) (hk2 : k.til + 4 ≤ F.length) (h0 : (blkM F k).1 = 0) : blkM (F.set at_ x) k = blkM F k ∨ (blkM (F.set at_ x) k).1 ≠ 0 := by
  have hc : (crc ((F.drop k.fr).take (k.til - k.fr))).toNat = fixAt F k.til := by
    unfold blkM at h0
    split at h0
    · cases h0
    · next hq => exact Decidable.of_not_not hq
  by_cases hin : k.fr ≤ at_ ∧ at_ < k.til
  · right
    obtain ⟨p, z, q, e1, e2, e3⟩ := stretch_set_in (F := F) (x := x) (a := k.fr) (n := k.til - k.fr) hin.1 (by omega) (by omega)
    have hz : z = y := by rw [hy] at e3; exact (Option.some.inj e3).symm
    subst hz
    unfold blkM
    rw [if_pos]
    · decide
    · rw [e2, fixAt_set_out (by omega), ← hc, e1]
      intro hq
      exact crc_one (xs := p) (ys := q) hne (BitVec.eq_of_toNat_eq hq).symm
  · by_cases hs : k.til ≤ at_ ∧ at_ < k.til + 4
    · right
      unfold blkM
      rw [if_pos]
      · decide
      · rw [stretch_set_out (by omega), hc]
        exact fun q => fixAt_set_in hs.1 hs.2 hy hne q.symm
    · left
      unfold blkM
      rw [stretch_set_out (by omega), fixAt_set_out (by omega)]
theorem seekFrom_set {F : List UInt8} {at_ : Nat} {x y : UInt8} {row : ByteArray} (hy : F[at_]? = some y) (hne : ¬ y = x) : ∀ (l : List Blk) (n : Nat), (∀ k ∈ l, k.fr ≤ k.til ∧ k.til + 4 ≤ F.length ∧ (blkM F k).1 = 0) → seekFrom (F.set at_ x) row l n = seekFrom F row l n ∨ (seekFrom (F.set at_ x) row l n).err ≠ 0
  | [], n, _ => .inl rfl
  | k :: l, n, h => by
    obtain ⟨h1, h2, h3⟩ := h k (by simp)
    rcases blkM_set (x := x) hy hne h1 h2 h3 with q | q
    · rw [seekFrom, seekFrom, q, if_neg (fun c => c h3), if_neg (fun c => c h3)]
      split
      · exact .inl rfl
      · exact seekFrom_set hy hne l (n + 1) (fun k hk => h k (by simp [hk]))
    · right
      rw [seekFrom, if_pos q]
      exact q
theorem idxM_set {F : List UInt8} {at_ : Nat} {x y : UInt8} (hy : F[at_]? = some y) (hne : ¬ y = x) (h4 : 4 ≤ at_) (h8 : at_ + 8 < F.length) (h0 : (idxM F).1 = 0) : idxM (F.set at_ x) = idxM F ∨ (idxM (F.set at_ x)).1 ≠ 0 := by
  have hlen : (F.set at_ x).length = F.length := List.length_set ..
  have ht : (F.set at_ x).take 4 = F.take 4 := by
    have := stretch_set_out (F := F) (at_ := at_) (x := x) (a := 0) (n := 4) (by omega)
    simpa using this
  have hf4 : fixAt (F.set at_ x) (F.length - 4) = fixAt F (F.length - 4) := fixAt_set_out (by omega)
  have hf8 : fixAt (F.set at_ x) (F.length - 8) = fixAt F (F.length - 8) := fixAt_set_out (by omega)
  unfold idxM at h0 ⊢
  rw [hlen, ht, hf4, hf8]
  by_cases c1 : F.length < 13 ∨ F.take 4 ≠ headB
  · rw [if_pos c1] at h0; cases h0
  rw [if_neg c1] at h0 ⊢
  rw [if_neg c1]
  by_cases c2 : F.length < fixAt F (F.length - 4) + 12
  · rw [if_pos c2] at h0; cases h0
  rw [if_neg c2] at h0 ⊢
  rw [if_neg c2]
  by_cases c3 : (crc ((F.drop (F.length - 8 - fixAt F (F.length - 4))).take (fixAt F (F.length - 4)))).toNat ≠ fixAt F (F.length - 8)
  · rw [if_pos c3] at h0; cases h0
  by_cases hin : F.length - 8 - fixAt F (F.length - 4) ≤ at_
  · right
    obtain ⟨p, z, q, e1, e2, e3⟩ := stretch_set_in (F := F) (x := x) (a := F.length - 8 - fixAt F (F.length - 4)) (n := fixAt F (F.length - 4)) hin (by omega) (by omega)
    have hz : z = y := by rw [hy] at e3; exact (Option.some.inj e3).symm
    subst hz
    rw [if_pos]
    · decide
    · have hc : (crc ((F.drop (F.length - 8 - fixAt F (F.length - 4))).take (fixAt F (F.length - 4)))).toNat = fixAt F (F.length - 8) := Decidable.of_not_not c3
      rw [e2, ← hc, e1]
      intro hq
      exact crc_one (xs := p) (ys := q) hne (BitVec.eq_of_toNat_eq hq).symm
  · left
    rw [stretch_set_out (by omega)]
/-- A seek after one byte was changed: the same answer, or a fault. -/
theorem seekM_set {F : List UInt8} {at_ : Nat} {x y : UInt8} {row : ByteArray} {l : List Blk} (hy : F[at_]? = some y) (hne : ¬ y = x) (h4 : 4 ≤ at_) (h8 : at_ + 8 < F.length) (hi : idxM F = (0, l)) (hl : ∀ k ∈ l, k.fr ≤ k.til ∧ k.til + 4 ≤ F.length ∧ (blkM F k).1 = 0) : seekM (F.set at_ x) row = seekM F row ∨ (seekM (F.set at_ x) row).err ≠ 0 := by
  rcases idxM_set hy hne h4 h8 (by rw [hi]) with q | q
  · unfold seekM
    rw [q, hi, if_neg (fun c => c rfl), if_neg (fun c => c rfl)]
    exact seekFrom_set hy hne _ 0 (fun k hk => hl k (List.mem_of_mem_drop hk))
  · right
    unfold seekM
    rw [if_pos q]
    exact q
theorem blksOf_all {F C : List UInt8} : ∀ (bs : List (List Ent)) (A : List UInt8) (p : Nat), (∀ es ∈ bs, OkB es) → F = A ++ (fblocks bs ++ C) → A.length = p → ∀ k ∈ blksOf p bs, k.fr ≤ k.til ∧ k.til + 4 ≤ F.length ∧ (blkM F k).1 = 0
  | [], A, p, _, _, _, k, hk => by simp [blksOf] at hk
  | es :: bs, A, p, hok, hF, hA, k, hk => by
    have h1 : F = A ++ (fblock es ++ (fblocks bs ++ C)) := by rw [hF]; simp [fblocks]
    rw [blksOf] at hk
    rcases List.mem_cons.1 hk with rfl | hk
    · refine ⟨by simp, ?_, by rw [blkM_back (hok es (by simp)) h1 hA]⟩
      rw [h1]
      simp only [List.length_append, fblock, sumOf_len, hA]
      omega
    · exact blksOf_all (F := F) (C := C) bs (A ++ fblock es) _ (fun x hx => hok x (by simp [hx])) (by rw [h1]; simp only [List.append_assoc]) (by rw [List.length_append, hA]; simp [fblock, sumOf_len]; omega) k hk
theorem fblocks_cons_len (es : List Ent) (bs : List (List Ent)) : (fblocks (es :: bs)).length = (body [] es).length + 4 + (fblocks bs).length := by simp [fblocks, fblock, sumOf_len]; omega
theorem blksOf_drop : ∀ (bs : List (List Ent)) (p j : Nat), (blksOf p bs).drop j = blksOf (p + (fblocks (bs.take j)).length) (bs.drop j)
  | [], p, j => by simp [blksOf]
  | es :: bs, p, 0 => by simp [fblocks]
  | es :: bs, p, j + 1 => by
    rw [blksOf, List.drop_succ_cons, List.take_succ_cons, List.drop_succ_cons, blksOf_drop bs _ j, fblocks_cons_len]
    congr 1
    omega
theorem blksOf_get : ∀ (bs : List (List Ent)) (p j : Nat) (k : Blk), (blksOf p bs)[j]? = some k → ∃ es, bs[j]? = some es ∧ k.row = ba (row0 es)
  | [], p, j, k, h => by simp [blksOf] at h
  | es :: bs, p, 0, k, h => by
    rw [blksOf] at h
    simp at h
    subst h
    exact ⟨es, rfl, rfl⟩
  | es :: bs, p, j + 1, k, h => by
    rw [blksOf, List.getElem?_cons_succ] at h
    obtain ⟨fs, h1, h2⟩ := blksOf_get bs _ j k h
    exact ⟨fs, by simpa using h1, h2⟩
theorem fblocks_append (a b : List (List Ent)) : fblocks (a ++ b) = fblocks a ++ fblocks b := by simp [fblocks]
/-- What a seek from a block on finds. -/
theorem seekFrom_back {F C : List UInt8} {row : ByteArray} : ∀ (bs : List (List Ent)) (A : List UInt8) (p n : Nat), (∀ es ∈ bs, OkB es) → F = A ++ (fblocks bs ++ C) → A.length = p → (seekFrom F row (blksOf p bs) n).err = 0 ∧ (seekFrom F row (blksOf p bs) n).found = (bs.flatten.find? (fun e => !lessB e.row row)).isSome ∧ (seekFrom F row (blksOf p bs) n).ent = (bs.flatten.find? (fun e => !lessB e.row row)).getD zeroE
  | [], A, p, n, _, _, _ => by simp [blksOf, seekFrom]
  | es :: bs, A, p, n, hok, hF, hA => by
    have h1 : F = A ++ (fblock es ++ (fblocks bs ++ C)) := by rw [hF]; simp [fblocks]
    have h2 := blkM_back (hok es (by simp)) h1 hA
    have h3 := seekFrom_back (F := F) (C := C) (row := row) bs (A ++ fblock es) (p + (body [] es).length + 4) (n + 1) (fun x hx => hok x (by simp [hx])) (by rw [h1]; simp only [List.append_assoc]) (by rw [List.length_append, hA]; simp [fblock, sumOf_len]; omega)
    rw [blksOf, seekFrom, h2, if_neg (fun c => c rfl), List.flatten_cons, List.find?_append]
    cases hf : es.find? (fun e => !lessB e.row row) with
    | some e => simp
    | none => simpa using h3
theorem firstTo_spec (bs : List Blk) (row : ByteArray) : ∀ k, firstTo bs row k = 0 ∨ ∃ b, bs[firstTo bs row k]? = some b ∧ lessB b.row row = true
  | 0 => .inl rfl
  | k + 1 => by
    rw [firstTo]
    split
    · exact firstTo_spec bs row k
    · next b hb =>
      split
      · next hl => exact .inr ⟨b, hb, hl⟩
      · exact firstTo_spec bs row k
theorem lessB_iff (a b : ByteArray) : lessB a b = true ↔ cB a b = -1 := by
  constructor
  · exact fun h => cB_less h
  · intro h
    unfold lessB
    cases hl : Op.bytesLess a.toList b.toList with
    | true => rfl
    | false =>
      cases he : (a.toList == b.toList) with
      | true => have := cB_same he; omega
      | false => have := cB_more hl he; omega
/-- Rows go up with the keys. -/
theorem key_row {a b : Ent} {row : ByteArray} (h : keyCmp a b = -1) (hb : lessB b.row row = true) : lessB a.row row = true := by
  rw [lessB_iff] at hb ⊢
  obtain ⟨_, p2, _, p4⟩ := cB_pack a.row b.row row
  rcases cB_vals a.row b.row with q | q | q
  · exact p2 q hb
  · exact p4 q hb
  · unfold keyCmp at h
    rw [q] at h
    simp [firstOf] at h
/-- A seek in a file finds the first entry with a row that is not before. -/
theorem seekM_back {es : List Ent} {p : Nat} {row : ByteArray} (hg : GoodR es) (hok : ∀ e ∈ es, e.ok) (h1 : 1 ≤ p) (h2 : p ≤ 1000) :
    (seekM (fileM (chunks p es)) row).err = 0 ∧ (seekM (fileM (chunks p es)) row).found = (es.find? (fun e => !lessB e.row row)).isSome ∧ (seekM (fileM (chunks p es)) row).ent = (es.find? (fun e => !lessB e.row row)).getD zeroE := by
  have hk := chunks_ok (p := p) hg.1.2 hok
  have hl : ∀ c ∈ chunks p es, c.length ≤ 1000 := fun c hc => Nat.le_trans ((chunks_mem p _ es (Nat.le_refl _) c hc).2.1 (by omega)) h2
  have hf := chunks_flatten p _ es (Nat.le_refl _)
  have hi := idxM_back hk hl (by rw [hf]; exact hg.1.1)
  obtain ⟨bs, hbs⟩ : ∃ bs, bs = chunks p es := ⟨_, rfl⟩
  rw [← hbs] at hk hl hf hi ⊢
  unfold seekM
  rw [hi, if_neg (fun c => c rfl)]
  simp only []
  obtain ⟨j, hj⟩ : ∃ j, j = firstTo (blksOf 4 bs) row (blksOf 4 bs).length := ⟨_, rfl⟩
  rw [← hj, blksOf_drop]
  have hF : fileM bs = (headB ++ fblocks (bs.take j)) ++ (fblocks (bs.drop j) ++ (findex bs ++ sumOf (findex bs) ++ fixed (findex bs).length)) := by
    unfold fileM
    conv => lhs; rw [← List.take_append_drop j bs, fblocks_append]
    simp only [List.take_append_drop, List.append_assoc]
  have hs := seekFrom_back (row := row) (bs.drop j) (headB ++ fblocks (bs.take j)) (4 + (fblocks (bs.take j)).length) 0 (fun x hx => hk x (List.mem_of_mem_drop hx)) hF (by rw [List.length_append]; rfl)
  have hskip : es.find? (fun e => !lessB e.row row) = (bs.drop j).flatten.find? (fun e => !lessB e.row row) := by
    conv => lhs; rw [← hf, ← List.take_append_drop j bs, List.flatten_append, List.find?_append]
    rcases firstTo_spec (blksOf 4 bs) row (blksOf 4 bs).length with q | ⟨b, hb, hlt⟩
    · rw [← hj] at q
      subst q
      simp
    · rw [← hj] at hb
      obtain ⟨c, hc, hr⟩ := blksOf_get bs 4 j b hb
      obtain ⟨e, c', rfl⟩ : ∃ e c', c = e :: c' := by
        have := (hk c (List.mem_of_getElem? hc)).ne
        cases c with
        | nil => simp at this
        | cons e c' => exact ⟨e, c', rfl⟩
      have hrow : b.row = e.row := by rw [hr]; exact ba_bl _
      rw [hrow] at hlt
      have hord : Ord ((bs.take j).flatten ++ (bs.drop j).flatten) := by
        rw [← List.flatten_append, List.take_append_drop, hf]
        exact ord_of_good hg
      have hd : (bs.drop j).flatten = e :: (c' ++ (bs.drop (j + 1)).flatten) := by
        obtain ⟨k1, k2⟩ := List.getElem?_eq_some_iff.1 hc
        rw [List.drop_eq_getElem_cons k1, k2]
        simp
      have hn : (bs.take j).flatten.find? (fun e => !lessB e.row row) = none := by
        rw [List.find?_eq_none]
        intro x hx
        have hkx : keyCmp x e = -1 := by
          have h5 := (List.pairwise_append.1 hord).2.2 x hx e (by rw [hd]; simp)
          exact h5
        simp [key_row hkx hlt]
      rw [hn]
      simp
  rw [hskip]
  exact hs
end Go.Proofs.YtlgeffinhbodeaeGreatDoor

/-
  A region that draws its order and in which an operation, a call, ends in a panic: one walk in the order of the text. That operation and those behind it are taken out by
  stand-ins that leave a mark; the values of its operands, as they are when all has come up, are those that it finds.
-/
namespace Go.Proofs.YtlgeffinhbodeaeGreatDoor
open Go.ChangeShapes Go.WideShapes Go.ChangeAt Go.RowKit Go.Deep
set_option linter.unusedVariables false
set_option linter.unusedSimpArgs false

variable {P : Program} {C : World → Prop}
/-- The stand-in. -/
def fk (m : Value) (o : Oper) : Oper := { o with op := .move (.const m) }
/-- Every operation that lays a slot that 'o' reads is waited for by it; its own slot is nobody else's; what stands behind it waits for it. -/
def waitsB (pre : List Oper) (o : Oper) (tl : List Oper) (d : Tmp) (sl : List Tmp) : Bool :=
  sl.all (fun s => s != d && ((List.range pre.length).all (fun i => match pre[i]? with
    | some oi => oi.dst != some s || o.after.any (fun e => Region.binds .any e && e.on == i)
    | none => true) && tl.all (fun oi => oi.dst != some s))) && pre.all (fun oi => oi.dst != some d) && tl.all (fun oi => oi.dst != some d && oi.after.any (fun e => Region.binds .any e && Nat.ble pre.length e.on))
theorem get_part (pre tl : List Oper) (i : Nat) : (pre ++ tl).toArray[i]? = if i < pre.length then pre[i]? else tl[i - pre.length]? := by
  rw [List.getElem?_toArray]
  by_cases h : i < pre.length
  · rw [if_pos h, List.getElem?_append_left h]
  · rw [if_neg h, List.getElem?_append_right (by omega)]
theorem ready_fk (m : Value) (pre tl : List Oper) (listed : Array Bool) : Region.ready .any (pre ++ tl.map (fk m)).toArray listed = Region.ready .any (pre ++ tl).toArray listed := by
  unfold Region.ready
  have hz : (pre ++ tl.map (fk m)).toArray.size = (pre ++ tl).toArray.size := by simp
  rw [hz]
  congr 1
  funext i
  rw [get_part, get_part]
  by_cases h : i < pre.length
  · rw [if_pos h, if_pos h]
  · rw [if_neg h, if_neg h, List.getElem?_map]
    cases tl[i - pre.length]? <;> rfl
theorem yielded_fk (m : Value) (pre tl : List Oper) (tmps : Array Value) : yielded (pre ++ tl.map (fk m)).toArray tmps = yielded (pre ++ tl).toArray tmps := by
  funext j
  unfold yielded
  rw [get_part, get_part]
  by_cases h : j < pre.length
  · rw [if_pos h, if_pos h]
  · rw [if_neg h, if_neg h, List.getElem?_map]
    cases tl[j - pre.length]? <;> rfl
theorem put_getD (a : Act) (dst : Option Tmp) (v : Value) (s : Tmp) (h : dst ≠ some s) : (a.put dst v).tmps.getD s undef = a.tmps.getD s undef := by
  cases dst with
  | none => rfl
  | some t =>
    have hts : t ≠ s := fun q => h (by rw [q])
    show (a.tmps.setIfInBounds t v).getD s undef = _
    rw [Array.getD_eq_getD_getElem?, Array.getD_eq_getD_getElem?, Array.getElem?_setIfInBounds_ne hts]
theorem put_defers (a : Act) (dst : Option Tmp) (v : Value) : (a.put dst v).defers = a.defers := by cases dst <;> rfl
theorem listed_set (listed : Array Bool) (i j : Nat) (d : Bool) (h : listed.getD j d = true) : (listed.setIfInBounds i true).getD j d = true := by
  rw [Array.getD_eq_getD_getElem?] at h ⊢
  by_cases q : i = j
  · subst q
    rw [Array.getElem?_setIfInBounds_self]
    split
    · rfl
    · next hl => rw [Array.getElem?_eq_none (by omega)] at h; exact h
  · rw [Array.getElem?_setIfInBounds_ne q]; exact h
/-- A slot that nobody lays any more holds what it holds at the end. -/
theorem slot_end {ops : Array Oper} {Q : Act → Prop} (s : Tmp) (x : Value) (hQ : ∀ a, Q a → a.tmps.getD s undef = x) : ∀ (fuel : Nat) (listed : Array Bool) (a : Act), wpAnyQ P .any ops C Q fuel listed a →
    (∀ i oi, ops[i]? = some oi → oi.dst = some s → listed.getD i true = true) → a.tmps.getD s undef = x
  | 0, listed, a, h, _ => hQ a h.2
  | fuel + 1, listed, a, h, hl => by
    cases hr : Region.ready .any ops listed with
    | nil => exact hQ a (h.1 hr)
    | cons i rest =>
      have hi : i ∈ Region.ready .any ops listed := by rw [hr]; simp
      have hq := h.2 i hi
      obtain ⟨hun, oi, hoi, _⟩ := mem_ready.1 hi
      have hd : oi.dst ≠ some s := fun e => by
        have := hl i oi hoi e
        rw [hun] at this; cases this
      have hl' : ∀ j oj, ops[j]? = some oj → oj.dst = some s → (listed.setIfInBounds i true).getD j true = true := fun j oj hj e => listed_set _ _ _ _ (hl j oj hj e)
      unfold qOp at hq
      simp only [hoi] at hq
      split at hq
      · obtain ⟨v, _, h2⟩ := hq
        have := slot_end s x hQ fuel _ _ h2 hl'
        rwa [put_getD _ _ _ _ hd] at this
      · have := slot_end s x hQ fuel _ _ hq hl'
        rwa [put_getD _ _ _ _ hd] at this
theorem any_of_fk {m : Value} {Q : Exit → Act → World → Prop} {pre tl : List Oper} {o : Oper} {D : List Deferred} (d : Tmp) (sl : List (Tmp × Value)) (hB2 : waitsB pre o tl d (sl.map (·.1)) = true) (hdst : o.dst = some d) (hg : o.guard = none)
    (hop : ∀ (a' : Act) (w' : World) (K : Act → World → Prop), C w' → a'.defers = D → (∀ p ∈ sl, a'.tmps.getD p.1 undef = p.2) → o.wp P a' w' K Q) :
    ∀ (fuel : Nat) (listed : Array Bool) (a : Act) (w : World), wpAnyQ P .any (pre ++ (o :: tl).map (fk m)).toArray C (fun a' => a'.tmps.getD d undef = m ∧ ∀ p ∈ sl, a'.tmps.getD p.1 undef = p.2) fuel listed a → C w →
      a.tmps.getD d undef ≠ m → a.defers = D → (∀ j, pre.length ≤ j → listed.getD j false = false) → wpAny P .any (pre ++ o :: tl).toArray Q fuel listed a w
  | 0, listed, a, w, h, _, hm, _, _ => absurd h.2.1 hm
  | fuel + 1, listed, a, w, h, hw, hm, hD, hJ => by
    have hB3 := hB2
    simp only [waitsB, Bool.and_eq_true, List.all_eq_true] at hB2
    obtain ⟨⟨hS, hP⟩, hT⟩ := hB2
    refine ⟨fun hr => absurd (h.1 (by rw [ready_fk]; exact hr)).1 hm, fun i hi => ?_⟩
    have hq := h.2 i (by rw [ready_fk]; exact hi)
    obtain ⟨hun, oi, hoi, hdep⟩ := mem_ready.1 hi
    rw [get_part] at hoi
    unfold wpOp
    unfold qOp at hq
    rw [get_part] at hq ⊢
    by_cases hlt : i < pre.length
    · rw [if_pos hlt] at hoi hq ⊢
      have hne : oi.dst ≠ some d := by
        have := hP oi (List.mem_of_getElem? hoi)
        simpa using this
      have hJ' : ∀ j, pre.length ≤ j → (listed.setIfInBounds i true).getD j false = false := by
        intro j hj
        have := hJ j hj
        rw [Array.getD_eq_getD_getElem?] at this ⊢
        rw [Array.getElem?_setIfInBounds_ne (by omega)]
        exact this
      simp only [hoi] at hq ⊢
      rw [yielded_fk] at hq
      split
      · next hwt =>
        rw [if_pos hwt] at hq
        obtain ⟨v, h1, h2⟩ := hq
        refine .inl (Oper.wp_of_quiet (K := fun a' => wpAnyQ P .any (pre ++ (o :: tl).map (fk m)).toArray C (fun a' => a'.tmps.getD d undef = m ∧ ∀ p ∈ sl, a'.tmps.getD p.1 undef = p.2) fuel (listed.setIfInBounds i true) a' ∧ a'.tmps.getD d undef ≠ m ∧ a'.defers = D) hw ?_ ⟨v, h1, h2, by rw [put_getD _ _ _ _ hne]; exact hm, by rw [put_defers]; exact hD⟩)
        intro a' w' hw' hk
        exact any_of_fk d sl hB3 hdst hg hop fuel _ a' w' hk.1 hw' hk.2.1 hk.2.2 hJ'
      · next hwt =>
        rw [if_neg hwt] at hq
        exact any_of_fk d sl hB3 hdst hg hop fuel _ _ w hq hw (by rw [put_getD _ _ _ _ hne]; exact hm) (by rw [put_defers]; exact hD) hJ'
    · rw [if_neg hlt] at hoi hq ⊢
      by_cases hn : i = pre.length
      · rw [hn, Nat.sub_self] at hoi hq ⊢
        simp only [List.getElem?_cons_zero, List.map_cons, Option.some.injEq] at hoi hq ⊢
        have hw1 : ∀ y, Region.wanted o y = true := fun y => by unfold Region.wanted; rw [hg]
        have hw2 : ∀ y, Region.wanted (fk m o) y = true := fun y => by unfold Region.wanted; show (match o.guard with | none => true | some (j, want) => y j == some want) = true; rw [hg]
        simp only [hw1, hw2, if_true] at hq ⊢
        obtain ⟨v, _, h2⟩ := hq
        refine .inl (hop a w _ hw hD fun p hp => ?_)
        have hps := hS p.1 (List.mem_map.2 ⟨p, hp, rfl⟩)
        have hpd : (some d : Option Tmp) ≠ some p.1 := by
          have := hps.1
          intro q
          cases q
          simp at this
        have h3 := slot_end (C := C) p.1 p.2 (fun a' h => h.2 p hp) fuel _ _ h2 (by
          intro j oj hj e
          rw [get_part] at hj
          by_cases hjl : j < pre.length
          · rw [if_pos hjl] at hj
            have h4 := hps.2.1 j (List.mem_range.2 hjl)
            simp only [hj, Bool.or_eq_true] at h4
            rcases h4 with h4 | h4
            · rw [e] at h4; simp at h4
            · rw [Array.any_eq_true'] at h4
              obtain ⟨ed, hed, h5⟩ := h4
              simp only [Bool.and_eq_true, beq_iff_eq] at h5
              have h6 := hdep ed (by rw [← hoi]; exact hed) h5.1
              rw [h5.2] at h6
              refine listed_set _ _ _ _ ?_
              rw [Array.getD_eq_getD_getElem?] at h6 ⊢
              cases hx : listed[j]? with
              | none => rfl
              | some y => rw [hx] at h6; exact h6
          · rw [if_neg hjl] at hj
            obtain ⟨k, hk⟩ : ∃ k, j - pre.length = k := ⟨_, rfl⟩
            rw [hk, ← List.map_cons, List.getElem?_map] at hj
            cases k with
            | zero =>
              simp only [List.getElem?_cons_zero, Option.map_some, Option.some.injEq] at hj
              rw [← hj] at e
              exact absurd (hdst.symm.trans e) hpd
            | succ k =>
              simp only [List.getElem?_cons_succ] at hj
              cases ht : tl[k]? with
              | none => rw [ht] at hj; cases hj
              | some ot =>
                rw [ht] at hj
                simp only [Option.map_some, Option.some.injEq] at hj
                have h7 := hps.2.2 ot (List.mem_of_getElem? ht)
                rw [← hj] at e
                have e2 : ot.dst = some p.1 := e
                rw [e2] at h7
                simp at h7)
        have hfd : (fk m o).dst = some d := hdst
        rwa [hfd, put_getD _ _ _ _ hpd] at h3
      · exfalso
        obtain ⟨k, hk⟩ : ∃ k, i - pre.length = k + 1 := ⟨i - pre.length - 1, by omega⟩
        rw [hk] at hoi
        simp only [List.getElem?_cons_succ] at hoi
        have h8 := hT oi (List.mem_of_getElem? hoi)
        rw [Array.any_eq_true'] at h8
        obtain ⟨ed, hed, h9⟩ := h8.2
        simp only [Bool.and_eq_true] at h9
        have h10 := hdep ed hed h9.1
        rw [hJ ed.on (Nat.le_of_ble_eq_true h9.2)] at h10
        cases h10
/-- The region. -/
theorem wp_region_dies {id : Nat} {Q : Exit → Act → World → Prop} {a : Act} {w : World} (pre : List Oper) (o : Oper) (tl : List Oper) (d : Tmp) (sl : List (Tmp × Value)) (l : List Oper) (hl : l = pre ++ o :: tl) (hm : P.follows .mixedOrders = true) (hB : ∀ m, Region.lexB .any (pre ++ (o :: tl).map (fk m)).toArray = true)
    (hB2 : waitsB pre o tl d (sl.map (·.1)) = true) (hdst : o.dst = some d) (hg : o.guard = none) (hC : C { w with drawn := w.drawn + 1 })
    (h : ∀ m, wpQuiet P (pre ++ (o :: tl).map (fk m)).toArray C (fun a' => a'.tmps.getD d undef = m ∧ ∀ p ∈ sl, a'.tmps.getD p.1 undef = p.2) (pre ++ (o :: tl).map (fk m)) a)
    (hop : ∀ (a' : Act) (w' : World) (K : Act → World → Prop), C w' → a'.defers = a.defers → (∀ p ∈ sl, a'.tmps.getD p.1 undef = p.2) → o.wp P a' w' K Q) : (Code.region id l.toArray true).wp P Q a w := by
  subst hl
  obtain ⟨m, h0⟩ : ∃ m, a.tmps.getD d undef ≠ m := by
    by_cases q : a.tmps.getD d undef = .bool true
    · exact ⟨.bool false, by rw [q]; intro e; cases e⟩
    · exact ⟨.bool true, q⟩
  have hBm := hB m
  simp only [Region.lexB, Bool.and_eq_true] at hBm
  refine wp_region_any hm ?_
  have h1 := wpAnyQ_lex (C := C) (md := .any) hBm.1 (pre ++ (o :: tl).map (fk m)) 0 (Array.replicate (pre ++ (o :: tl).map (fk m)).toArray.size false) a (by simp) (by simpa using hBm.2) (h m)
  have hz : (pre ++ o :: tl).toArray.size = (pre ++ (o :: tl).map (fk m)).length := by simp
  rw [hz]
  have hz2 : (pre ++ (o :: tl).map (fk m)).toArray.size = (pre ++ (o :: tl).map (fk m)).length := by simp
  rw [hz2] at h1
  refine any_of_fk d sl hB2 hdst hg hop _ _ _ _ h1 hC h0 rfl ?_
  intro j _
  rw [Array.getD_eq_getD_getElem?, Array.getElem?_replicate]
  split <;> rfl
end Go.Proofs.YtlgeffinhbodeaeGreatDoor

