/-
  spec.l2Body.
-/
import Derived.Test.YtlgeffinhbodeacQBysB
namespace Go.Proofs.Ytlgeffinhbodeac
open Go.ChangeShapes Go.WideShapes Go.ChangeAt Go.RowKit Go.Deep
set_option linter.unusedVariables false
set_option linter.unusedSimpArgs false
set_option maxRecDepth 100000

/-- Bytes being written, beside an entry of the round's. -/
structure ES (w0 : World) (ge : Nat) (e : Ent) (g cp : Nat) (xs : List UInt8) (wr : World) : Prop where
  out : OwnY wr w0.heap.size g cp xs
  c0 : wr.cell? ⟨ge, 0, none⟩ = some (.string e.row)
  c1 : wr.cell? ⟨ge, 1, none⟩ = some (.string e.fam)
  c2 : wr.cell? ⟨ge, 2, none⟩ = some (.string e.qual)
  c3 : wr.cell? ⟨ge, 3, none⟩ = some (.int .u64 e.ts)
  c4 : wr.cell? ⟨ge, 4, none⟩ = some (.int .i64 e.kind)
  c5 : wr.cell? ⟨ge, 5, none⟩ = some (.string e.val)
  lt : ge < wr.heap.size
  ne : ¬ ge = g
  below : Below w0.heap.size w0 wr
theorem ES.call {w0 : World} {ge : Nat} {e : Ent} {g cp : Nat} {xs : List UInt8} {wr w1 : World} (h : ES w0 ge e g cp xs wr) (hb : Below wr.heap.size wr w1) : ES w0 ge e g cp xs w1 := by
  have hs := hb.size
  have hl := h.lt
  have q : ∀ j, w1.cell? ⟨ge, j, none⟩ = wr.cell? ⟨ge, j, none⟩ := fun j => hb.cell (p := ⟨ge, j, none⟩) hl
  exact ⟨h.out.below hb, by rw [q]; exact h.c0, by rw [q]; exact h.c1, by rw [q]; exact h.c2, by rw [q]; exact h.c3, by rw [q]; exact h.c4, by rw [q]; exact h.c5, by omega, h.ne, h.below.trans (hb.mono h.below.size)⟩
theorem ES.app {w0 : World} {ge : Nat} {e : Ent} {g cp g' cp' : Nat} {xs ys : List UInt8} {wr w1 : World} (h : ES w0 ge e g cp xs wr) (hO : OwnY w1 w0.heap.size g' cp' ys) (hgr : wr.grownBy w1 (some g)) (hat : g' = g ∨ g' = wr.heap.size) : ES w0 ge e g' cp' ys w1 := by
  have hl := h.lt
  have hn := h.ne
  have hs := hgr.size
  have q : ∀ j, w1.cell? ⟨ge, j, none⟩ = wr.cell? ⟨ge, j, none⟩ := fun j => World.cell?_of_block (w := wr) (hgr.block ge hl (fun z => hn (Option.some.inj z)))
  exact ⟨hO, by rw [q]; exact h.c0, by rw [q]; exact h.c1, by rw [q]; exact h.c2, by rw [q]; exact h.c3, by rw [q]; exact h.c4, by rw [q]; exact h.c5, by omega, by omega, h.below.grown hgr h.below.size (fun k hk => by cases hk; exact h.out.lt.1)⟩

set_option maxHeartbeats 8000000 in
theorem l2Body_core (b off cap : Nat) (es : List Ent) (w : World) (hE : EntsAt w b off es) (hok : ∀ e ∈ es, e.ok) (hv : ∀ e ∈ es, e.vld = true) (hB : b < w.heap.size) (hlen : es.length ≤ 10000) :
    Calls Try.prog 92 #[.slice (some ⟨b, off, none⟩) es.length cap] w fun r w' =>
      ∃ (g cp : Nat), r = .returned (.slice (some ⟨g, 0, none⟩) (body [] es).length cp) ∧ OwnY w' w.heap.size g cp (body [] es) ∧ Below w.heap.size w w' := by
  obtain ⟨W0, hW0⟩ : ∃ W0 : World, W0 = w.alloc (Obj.cells #[] 5) := ⟨_, rfl⟩
  have hb0 : Below w.heap.size w W0 := by rw [hW0]; exact (Below.refl _ _).alloc (Nat.le_refl _) _
  have HO0 : Hid (OwnY W0 w.heap.size w.heap.size 0 []) := by rw [hW0]; exact ownY_new w (Nat.le_refl _)
  have HE : Hid (EntsAt w b off es ∧ (∀ e ∈ es, e.ok) ∧ (∀ e ∈ es, e.vld = true)) := ⟨hE, hok, hv⟩
  clear hE hok hv
  go_enter Try.func92, Try.ntmps92
  go_upto_region 4 with fail
  rw [← hW0]
  clear hW0
  go_loopw [3, 4, 5] (fun o s i wr => ∃ (k g cp : Nat) (bf : ByteArray), k ≤ es.length ∧ i = .int .i64 k ∧ o = .slice (some ⟨g, 0, none⟩) (body [] (es.take k)).length cp ∧ s = .string bf ∧ bf.size ≤ 64 ∧ bl bf = lastRow [] (es.take k) ∧ OwnY wr w.heap.size g cp (body [] (es.take k)) ∧ Below w.heap.size w wr) (fun _ _ i _ => es.length - (intOf i).toNat)
  case atStart => exact ⟨0, _, 0, ⟨#[]⟩, Nat.zero_le _, rfl, rfl, rfl, by decide, rfl, HO0.out, hb0⟩
  case round =>
    obtain ⟨k, g, cp, bf, hk, rfl, rfl, rfl, hbs, hbf, hO, hb⟩ := hrel
    have hsb := hb.size
    obtain ⟨X0, hX0⟩ : ∃ X0, X0 = body [] (es.take k) := ⟨_, rfl⟩
    have HX0 : Hid (X0 = body [] (es.take k)) := hX0
    have HBF : Hid (bl bf = lastRow [] (es.take k)) := hbf
    have hx0 : X0.length ≤ 500 * k := by
      rw [hX0]
      have := body_len (es.take k) [] (fun e he => HE.out.2.2 e (List.mem_of_mem_take he)) (fun e he => by have := wf_u64 (HE.out.2.1 e (List.mem_of_mem_take he)).ts; omega)
      rw [List.length_take, Nat.min_eq_left hk] at this
      exact this
    rw [← hX0] at hO ⊢
    have HO : Hid (OwnY wr w.heap.size g cp X0) := hO
    have hgl := hO.lt
    clear hX0 hbf hO
    by_cases hlt : k < es.length
    · obtain ⟨e, he⟩ : ∃ e, es[k]? = some e := ⟨_, List.getElem?_eq_getElem hlt⟩
      have hem := List.mem_of_getElem? he
      obtain ⟨v1, v2, v3, v4, v5, v6, v7, v8⟩ := vld_parts (HE.out.2.2 e hem)
      have hts := wf_u64 (HE.out.2.1 e hem).ts
      have HT : Hid (es.take (k + 1) = es.take k ++ [e]) := by rw [List.take_add_one, he]; rfl
      obtain ⟨c0, c1, c2, c3, c4, c5⟩ := HE.out.1.below hb hB k e he
      obtain ⟨W1, hW1⟩ : ∃ W1 : World, W1 = wr.alloc (Obj.cells #[.string e.row, .string e.fam, .string e.qual, .int .u64 e.ts, .int .i64 e.kind, .string e.val] 73) := ⟨_, rfl⟩
      have HS1 : Hid (ES w wr.heap.size e g cp X0 W1) := by
        have hba : Below wr.heap.size wr W1 := by rw [hW1]; exact (Below.refl _ _).alloc (Nat.le_refl _) _
        refine ⟨HO.out.below hba, ?_, ?_, ?_, ?_, ?_, ?_, by rw [hW1]; simp, by omega, hb.trans (hba.mono hsb)⟩ <;> (rw [hW1]; simp)
      clear he hem
      go_upto_region 7 with fail
      rw [← hW1]
      clear hW1 c0 c1 c2 c3 c4 c5
      have q := HS1.out.c0
      go_wp2_with fail
      clear q
      refine (l2Shared_core bf e.row W1 (by unfold maxLen; omega) (by unfold maxLen; omega)).mono ?_
      rintro r w2 ⟨rfl, hb2⟩
      obtain ⟨n, hn⟩ : ∃ n, n = shared (bl bf) (bl e.row) := ⟨_, rfl⟩
      have hn1 : n ≤ e.row.size := by rw [hn, ← bl_len]; exact (shared_le _ _).2
      have HN : Hid (n = shared (lastRow [] (es.take k)) (bl e.row)) := by rw [← HBF.out]; exact hn
      rw [← hn]
      have HS2 : Hid (ES w wr.heap.size e g cp X0 w2) := HS1.out.call hb2
      clear hn hb2 HS1
      obtain ⟨X2, hX2⟩ : ∃ X : List UInt8, X = X0 := ⟨_, rfl⟩
      have HX2 : Hid (X2 = X0) := hX2
      have hx2 : X2.length ≤ X0.length := by rw [hX2]; exact Nat.le_refl _
      rw [← hX2] at HS2 ⊢
      clear hX2
      obtain ⟨g2, hg2⟩ : ∃ x : Nat, x = g := ⟨_, rfl⟩
      obtain ⟨cp2, hcp2⟩ : ∃ x : Nat, x = cp := ⟨_, rfl⟩
      rw [← hg2, ← hcp2] at HS2 ⊢
      clear hg2 hcp2
      obtain ⟨rs, hrs⟩ : ∃ s : ByteArray, s = e.row.extract n e.row.size := ⟨_, rfl⟩
      have hrs1 : rs.size ≤ 64 := by rw [hrs, ByteArray.size_extract]; omega
      have HRS : Hid (bl rs = (bl e.row).drop n) := by
        show bl rs = (bl e.row).drop n
        rw [hrs]
        show (e.row.extract n e.row.size).data.toList = _
        rw [Lib.extract_data, List.take_of_length_le (by rw [List.length_drop, bl_len]; omega)]
      have HRS2 : Hid (rs = e.row.extract n e.row.size) := hrs
      clear hrs
      -- piece 2
      go_wp2_with fail
      refine (l2Num_all n w2 (by omega)).mono ?_
      rintro r v20 ⟨p2, d2, rfl, hP2, hbp2⟩
      have HA2 : Hid (ES w wr.heap.size e g2 cp2 X2 v20 ∧ OwnY v20 w2.heap.size p2 d2 (num n)) := ⟨HS2.out.call hbp2, hP2⟩
      have hl2 : (num n).length ≤ 300 := Nat.le_trans (num_len64 (by omega)) (by omega)
      have sz2 := (HA2.out.1).below.size
      obtain ⟨P2, hPd2⟩ : ∃ P : List UInt8, P = num n := ⟨_, rfl⟩
      have HPd2 : Hid (P2 = num n) := hPd2
      rw [← hPd2] at HA2 hl2 ⊢
      clear hP2 hbp2 hPd2 HS2
      go_wp2_with (at_builtin; refine wpList_append_bys _ rfl _ _ rfl w.heap.size g2 cp2 X2.length p2 0 P2.length d2 X2 P2 rfl rfl rfl rfl ?hO ?hc ?hl ?hb ?_)
      case hO => exact HA2.out.1.out
      case hc => exact HA2.out.2.at
      case hl => omega
      case hb => exact sz2
      intro g3 cp3 w3 hO3 hgr3 hat3
      have HS3 : Hid (ES w wr.heap.size e g3 cp3 (X2 ++ P2) w3) := HA2.out.1.app hO3 hgr3 hat3
      rw [show X2.length + P2.length = (X2 ++ P2).length from (List.length_append).symm]
      obtain ⟨X3, hX3⟩ : ∃ X : List UInt8, X = X2 ++ P2 := ⟨_, rfl⟩
      have HX3 : Hid (X3 = X2 ++ P2) := hX3
      have hx3 : X3.length ≤ X2.length + 300 := by rw [hX3, List.length_append]; omega
      rw [← hX3] at HS3 ⊢
      clear hO3 hgr3 hat3 hX3 HA2 sz2
      -- piece 3
      have q := HS3.out.c0
      go_wp2_with fail
      clear q
      rw [← HRS2.out]
      refine (l2Str_core rs w3 (by omega)).mono ?_
      rintro r v30 ⟨p3, d3, rfl, hP3, hbp3⟩
      have HA3 : Hid (ES w wr.heap.size e g3 cp3 X3 v30 ∧ OwnY v30 w3.heap.size p3 d3 (strB (bl rs))) := ⟨HS3.out.call hbp3, hP3⟩
      have hl3 : (strB (bl rs)).length ≤ 300 := by have := strB_len (s := bl rs) (by rw [bl_len]; omega); rw [bl_len] at this; omega
      have sz3 := (HA3.out.1).below.size
      obtain ⟨P3, hPd3⟩ : ∃ P : List UInt8, P = strB (bl rs) := ⟨_, rfl⟩
      have HPd3 : Hid (P3 = strB (bl rs)) := hPd3
      rw [← hPd3] at HA3 hl3 ⊢
      clear hP3 hbp3 hPd3 HS3
      go_wp2_with (at_builtin; refine wpList_append_bys _ rfl _ _ rfl w.heap.size g3 cp3 X3.length p3 0 P3.length d3 X3 P3 rfl rfl rfl rfl ?hO ?hc ?hl ?hb ?_)
      case hO => exact HA3.out.1.out
      case hc => exact HA3.out.2.at
      case hl => omega
      case hb => exact sz3
      intro g4 cp4 w4 hO4 hgr4 hat4
      have HS4 : Hid (ES w wr.heap.size e g4 cp4 (X3 ++ P3) w4) := HA3.out.1.app hO4 hgr4 hat4
      rw [show X3.length + P3.length = (X3 ++ P3).length from (List.length_append).symm]
      obtain ⟨X4, hX4⟩ : ∃ X : List UInt8, X = X3 ++ P3 := ⟨_, rfl⟩
      have HX4 : Hid (X4 = X3 ++ P3) := hX4
      have hx4 : X4.length ≤ X3.length + 300 := by rw [hX4, List.length_append]; omega
      rw [← hX4] at HS4 ⊢
      clear hO4 hgr4 hat4 hX4 HA3 sz3
      -- piece 4
      have q := HS4.out.c1
      go_wp2_with fail
      clear q
      refine (l2Str_core e.fam w4 (by omega)).mono ?_
      rintro r v40 ⟨p4, d4, rfl, hP4, hbp4⟩
      have HA4 : Hid (ES w wr.heap.size e g4 cp4 X4 v40 ∧ OwnY v40 w4.heap.size p4 d4 (strB (bl e.fam))) := ⟨HS4.out.call hbp4, hP4⟩
      have hl4 : (strB (bl e.fam)).length ≤ 300 := by have := strB_len (s := bl e.fam) (by rw [bl_len]; omega); rw [bl_len] at this; omega
      have sz4 := (HA4.out.1).below.size
      obtain ⟨P4, hPd4⟩ : ∃ P : List UInt8, P = strB (bl e.fam) := ⟨_, rfl⟩
      have HPd4 : Hid (P4 = strB (bl e.fam)) := hPd4
      rw [← hPd4] at HA4 hl4 ⊢
      clear hP4 hbp4 hPd4 HS4
      go_wp2_with (at_builtin; refine wpList_append_bys _ rfl _ _ rfl w.heap.size g4 cp4 X4.length p4 0 P4.length d4 X4 P4 rfl rfl rfl rfl ?hO ?hc ?hl ?hb ?_)
      case hO => exact HA4.out.1.out
      case hc => exact HA4.out.2.at
      case hl => omega
      case hb => exact sz4
      intro g5 cp5 w5 hO5 hgr5 hat5
      have HS5 : Hid (ES w wr.heap.size e g5 cp5 (X4 ++ P4) w5) := HA4.out.1.app hO5 hgr5 hat5
      rw [show X4.length + P4.length = (X4 ++ P4).length from (List.length_append).symm]
      obtain ⟨X5, hX5⟩ : ∃ X : List UInt8, X = X4 ++ P4 := ⟨_, rfl⟩
      have HX5 : Hid (X5 = X4 ++ P4) := hX5
      have hx5 : X5.length ≤ X4.length + 300 := by rw [hX5, List.length_append]; omega
      rw [← hX5] at HS5 ⊢
      clear hO5 hgr5 hat5 hX5 HA4 sz4
      -- piece 5
      have q := HS5.out.c2
      go_wp2_with fail
      clear q
      refine (l2Str_core e.qual w5 (by omega)).mono ?_
      rintro r v50 ⟨p5, d5, rfl, hP5, hbp5⟩
      have HA5 : Hid (ES w wr.heap.size e g5 cp5 X5 v50 ∧ OwnY v50 w5.heap.size p5 d5 (strB (bl e.qual))) := ⟨HS5.out.call hbp5, hP5⟩
      have hl5 : (strB (bl e.qual)).length ≤ 300 := by have := strB_len (s := bl e.qual) (by rw [bl_len]; omega); rw [bl_len] at this; omega
      have sz5 := (HA5.out.1).below.size
      obtain ⟨P5, hPd5⟩ : ∃ P : List UInt8, P = strB (bl e.qual) := ⟨_, rfl⟩
      have HPd5 : Hid (P5 = strB (bl e.qual)) := hPd5
      rw [← hPd5] at HA5 hl5 ⊢
      clear hP5 hbp5 hPd5 HS5
      go_wp2_with (at_builtin; refine wpList_append_bys _ rfl _ _ rfl w.heap.size g5 cp5 X5.length p5 0 P5.length d5 X5 P5 rfl rfl rfl rfl ?hO ?hc ?hl ?hb ?_)
      case hO => exact HA5.out.1.out
      case hc => exact HA5.out.2.at
      case hl => omega
      case hb => exact sz5
      intro g6 cp6 w6 hO6 hgr6 hat6
      have HS6 : Hid (ES w wr.heap.size e g6 cp6 (X5 ++ P5) w6) := HA5.out.1.app hO6 hgr6 hat6
      rw [show X5.length + P5.length = (X5 ++ P5).length from (List.length_append).symm]
      obtain ⟨X6, hX6⟩ : ∃ X : List UInt8, X = X5 ++ P5 := ⟨_, rfl⟩
      have HX6 : Hid (X6 = X5 ++ P5) := hX6
      have hx6 : X6.length ≤ X5.length + 300 := by rw [hX6, List.length_append]; omega
      rw [← hX6] at HS6 ⊢
      clear hO6 hgr6 hat6 hX6 HA5 sz5
      -- piece 6
      have q := HS6.out.c3
      go_wp2_with fail
      clear q
      have hq6 := l2Num_all e.ts.toNat w6 (by omega)
      rw [Int.toNat_of_nonneg hts.1] at hq6
      refine (hq6).mono ?_
      rintro r v60 ⟨p6, d6, rfl, hP6, hbp6⟩
      have HA6 : Hid (ES w wr.heap.size e g6 cp6 X6 v60 ∧ OwnY v60 w6.heap.size p6 d6 (num e.ts.toNat)) := ⟨HS6.out.call hbp6, hP6⟩
      have hl6 : (num e.ts.toNat).length ≤ 300 := Nat.le_trans (num_len64 (by omega)) (by omega)
      have sz6 := (HA6.out.1).below.size
      obtain ⟨P6, hPd6⟩ : ∃ P : List UInt8, P = num e.ts.toNat := ⟨_, rfl⟩
      have HPd6 : Hid (P6 = num e.ts.toNat) := hPd6
      rw [← hPd6] at HA6 hl6 ⊢
      clear hP6 hbp6 hPd6 HS6
      go_wp2_with (at_builtin; refine wpList_append_bys _ rfl _ _ rfl w.heap.size g6 cp6 X6.length p6 0 P6.length d6 X6 P6 rfl rfl rfl rfl ?hO ?hc ?hl ?hb ?_)
      case hO => exact HA6.out.1.out
      case hc => exact HA6.out.2.at
      case hl => omega
      case hb => exact sz6
      intro g7 cp7 w7 hO7 hgr7 hat7
      have HS7 : Hid (ES w wr.heap.size e g7 cp7 (X6 ++ P6) w7) := HA6.out.1.app hO7 hgr7 hat7
      rw [show X6.length + P6.length = (X6 ++ P6).length from (List.length_append).symm]
      obtain ⟨X7, hX7⟩ : ∃ X : List UInt8, X = X6 ++ P6 := ⟨_, rfl⟩
      have HX7 : Hid (X7 = X6 ++ P6) := hX7
      have hx7 : X7.length ≤ X6.length + 300 := by rw [hX7, List.length_append]; omega
      rw [← hX7] at HS7 ⊢
      clear hO7 hgr7 hat7 hX7 HA6 sz6
      -- piece 7
      have q := HS7.out.c4
      go_wp2_with fail
      clear q
      have hq7 := l2Num_all e.kind.toNat w7 (by omega)
      rw [Int.toNat_of_nonneg v7] at hq7
      refine (hq7).mono ?_
      rintro r v70 ⟨p7, d7, rfl, hP7, hbp7⟩
      have HA7 : Hid (ES w wr.heap.size e g7 cp7 X7 v70 ∧ OwnY v70 w7.heap.size p7 d7 (num e.kind.toNat)) := ⟨HS7.out.call hbp7, hP7⟩
      have hl7 : (num e.kind.toNat).length ≤ 300 := Nat.le_trans (num_len64 (by omega)) (by omega)
      have sz7 := (HA7.out.1).below.size
      obtain ⟨P7, hPd7⟩ : ∃ P : List UInt8, P = num e.kind.toNat := ⟨_, rfl⟩
      have HPd7 : Hid (P7 = num e.kind.toNat) := hPd7
      rw [← hPd7] at HA7 hl7 ⊢
      clear hP7 hbp7 hPd7 HS7
      go_wp2_with (at_builtin; refine wpList_append_bys _ rfl _ _ rfl w.heap.size g7 cp7 X7.length p7 0 P7.length d7 X7 P7 rfl rfl rfl rfl ?hO ?hc ?hl ?hb ?_)
      case hO => exact HA7.out.1.out
      case hc => exact HA7.out.2.at
      case hl => omega
      case hb => exact sz7
      intro g8 cp8 w8 hO8 hgr8 hat8
      have HS8 : Hid (ES w wr.heap.size e g8 cp8 (X7 ++ P7) w8) := HA7.out.1.app hO8 hgr8 hat8
      rw [show X7.length + P7.length = (X7 ++ P7).length from (List.length_append).symm]
      obtain ⟨X8, hX8⟩ : ∃ X : List UInt8, X = X7 ++ P7 := ⟨_, rfl⟩
      have HX8 : Hid (X8 = X7 ++ P7) := hX8
      have hx8 : X8.length ≤ X7.length + 300 := by rw [hX8, List.length_append]; omega
      rw [← hX8] at HS8 ⊢
      clear hO8 hgr8 hat8 hX8 HA7 sz7
      -- piece 8
      have q := HS8.out.c5
      go_wp2_with fail
      clear q
      refine (l2Str_core e.val w8 (by omega)).mono ?_
      rintro r v80 ⟨p8, d8, rfl, hP8, hbp8⟩
      have HA8 : Hid (ES w wr.heap.size e g8 cp8 X8 v80 ∧ OwnY v80 w8.heap.size p8 d8 (strB (bl e.val))) := ⟨HS8.out.call hbp8, hP8⟩
      have hl8 : (strB (bl e.val)).length ≤ 300 := by have := strB_len (s := bl e.val) (by rw [bl_len]; omega); rw [bl_len] at this; omega
      have sz8 := (HA8.out.1).below.size
      obtain ⟨P8, hPd8⟩ : ∃ P : List UInt8, P = strB (bl e.val) := ⟨_, rfl⟩
      have HPd8 : Hid (P8 = strB (bl e.val)) := hPd8
      rw [← hPd8] at HA8 hl8 ⊢
      clear hP8 hbp8 hPd8 HS8
      go_wp2_with (at_builtin; refine wpList_append_bys _ rfl _ _ rfl w.heap.size g8 cp8 X8.length p8 0 P8.length d8 X8 P8 rfl rfl rfl rfl ?hO ?hc ?hl ?hb ?_)
      case hO => exact HA8.out.1.out
      case hc => exact HA8.out.2.at
      case hl => omega
      case hb => exact sz8
      intro g9 cp9 w9 hO9 hgr9 hat9
      have HS9 : Hid (ES w wr.heap.size e g9 cp9 (X8 ++ P8) w9) := HA8.out.1.app hO9 hgr9 hat9
      rw [show X8.length + P8.length = (X8 ++ P8).length from (List.length_append).symm]
      obtain ⟨X9, hX9⟩ : ∃ X : List UInt8, X = X8 ++ P8 := ⟨_, rfl⟩
      have HX9 : Hid (X9 = X8 ++ P8) := hX9
      have hx9 : X9.length ≤ X8.length + 300 := by rw [hX9, List.length_append]; omega
      rw [← hX9] at HS9 ⊢
      clear hO9 hgr9 hat9 hX9 HA8 sz8
      have HF : Hid (X9 = body [] (es.take (k + 1))) := by
        show X9 = body [] (es.take (k + 1))
        rw [HT.out, body_snoc, HX9.out, HX8.out, HX7.out, HX6.out, HX5.out, HX4.out, HX3.out, HX2.out, HX0.out, HPd2.out, HPd3.out, HPd4.out, HPd5.out, HPd6.out, HPd7.out, HPd8.out, HRS.out]
        unfold entB
        rw [← HN.out]
        simp only [List.append_assoc]
      have q := HS9.out.c0
      go_wp2_with fail
      go_roundw
      case rel =>
        refine ⟨k + 1, g9, cp9, e.row, by omega, by go_num, by rw [HF.out], rfl, v2, ?_, ?_, HS9.out.below⟩
        · rw [HT.out, lastRow_snoc]
        · rw [← HF.out]; exact HS9.out.out
      case measure => simp [intOf]; omega
    · obtain rfl : k = es.length := by omega
      have HF : Hid (X0 = body [] es) := by
        show X0 = body [] es
        rw [HX0.out, List.take_of_length_le (Nat.le_refl _)]
      go_wp2_with fail
      go_ret
      exact ⟨g, cp, by rw [← HF.out]; rfl, by rw [← HF.out]; exact HO.out, hb⟩
end Go.Proofs.Ytlgeffinhbodeac
