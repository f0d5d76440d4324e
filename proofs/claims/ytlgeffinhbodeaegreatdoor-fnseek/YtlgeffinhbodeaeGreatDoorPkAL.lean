import Derived.ArgAppend
import Derived.Lib.SlBytesConst
import Derived.Maps.OwnIn
import Derived.Deep.RegionLaw
import Derived.Deep.AppendLies
import Derived.Test.YtlgeffinhbodeaeGreatDoorPkAK
import Derived.Test.YtlgeffinhbodeaeGreatDoorPkAB
import Derived.Test.YtlgeffinhbodeaeGreatDoorPkAD
import Derived.Test.YtlgeffinhbodeaeGreatDoorPkAJ
import Derived.Test.YtlgeffinhbodeaeGreatDoorPkAH
/-
  spec.l2File.
-/
namespace Go.Proofs.YtlgeffinhbodeaeGreatDoor
open Go.ChangeShapes Go.WideShapes Go.ChangeAt Go.RowKit Go.Deep
set_option linter.unusedVariables false
set_option linter.unusedSimpArgs false
set_option maxRecDepth 100000

/-- Bytes that are written on: a row of the call's own, or a row that is full. -/
def OutB (w : World) (base g cp : Nat) (xs : List UInt8) : Prop := OwnY w base g cp xs ∨ (base ≤ g ∧ g < w.heap.size ∧ BysAt w g 0 xs ∧ cp = xs.length)
theorem OutB.lt {w : World} {base g cp : Nat} {xs : List UInt8} (h : OutB w base g cp xs) : base ≤ g ∧ g < w.heap.size := by
  rcases h with h | h
  · exact h.lt
  · exact ⟨h.1, h.2.1⟩
theorem BysAt.chg {S : Nat → Prop} {w w' : World} {b off : Nat} {xs : List UInt8} (h : BysAt w b off xs) (hc : Chg S w w') (hlt : b < w.heap.size) (hn : ¬ S b) : BysAt w' b off xs := by
  intro i x hx
  rw [World.cell?_of_block (w := w) (a := ⟨b, off + i, none⟩) (hc.block b hlt hn)]
  exact h i x hx
theorem OutB.chg {S : Nat → Prop} {w w' : World} {base g cp : Nat} {xs : List UInt8} (h : OutB w base g cp xs) (hc : Chg S w w') (hn : ¬ S g) : OutB w' base g cp xs := by
  rcases h with h | ⟨h1, h2, h3, h4⟩
  · exact .inl (h.chg hc hn)
  · exact .inr ⟨h1, by have := hc.size; omega, h3.chg hc h2 hn, h4⟩
theorem OutB.at {w : World} {base g cp : Nat} {xs : List UInt8} (h : OutB w base g cp xs) : BysAt w g 0 xs := by
  rcases h with h | h
  · exact h.at
  · exact h.2.2.1
theorem wpList_append_out {ops : Array Oper} {rest : List Oper} {o : Oper} {a : Act} {Q : Exit → Act → World → Prop} (w : World) (hgd : o.guard = none) (s x : Operand)
    (ho : o.op = .call { callee := .builtin .append, args := #[s, x], argTypes := #[22, 22] })
    (base g cp n b off m cx : Nat) (l k : List UInt8) (hs : a.eval s = .slice (some ⟨g, 0, none⟩) n cp) (hx : a.eval x = .slice (some ⟨b, off, none⟩) m cx) (hn : n = l.length) (hm : m = k.length) (hO : OutB w base g cp l)
    (hc : BysAt w b off k) (hk : 0 < k.length) (hlen : l.length + k.length ≤ 2 ^ 30) (hbase : base ≤ w.heap.size)
    (h : ∀ g' cp' w', OwnY w' base g' cp' (l ++ k) → w.grownBy w' (some g) → (g' = g ∨ w.heap.size ≤ g') → wpList Tryz.prog ops Q rest (a.put o.dst (.slice (some ⟨g', 0, none⟩) (n + m) cp')) w') : wpList Tryz.prog ops Q (o :: rest) a w := by
  rcases hO with hO | ⟨h1, h2, h3, h4⟩
  · exact wpList_append_bys w hgd s x ho base g cp n b off m cx l k hs hx hn hm hO hc hlen hbase (fun g' cp' w' q1 q2 q3 => h g' cp' w' q1 q2 (by rcases q3 with q | q; exact .inl q; exact .inr (Nat.le_of_eq q.symm)))
  · subst hn hm
    obtain ⟨i, hi, hz0, hz1, hz2⟩ := info_parts Tryz.infoByte
    refine wpList_append_grows w hgd s x 22 ho 5 i _ 1 1 Tryz.underlying22 hi hz0 hz1 hz2 rfl (by decide) (some ⟨g, 0, none⟩) l.length cp (l.map ub) hs (fun q => by cases q) (by simp) ?_ ⟨b, off, none⟩ k.length cx (k.map ub) hx (by simp) ?_ (ub_one k) (by omega) (by unfold maxLen; omega) (by omega) ?_
    · intro b' hb' j u hu
      cases hb'
      rw [List.getElem?_map] at hu
      cases hk : l[j]? with
      | none => rw [hk] at hu; cases hu
      | some r =>
        rw [hk] at hu
        simp at hu
        rw [Addr.add_mid, h3 j r hk, ← hu]
    · intro j u hu
      rw [List.getElem?_map] at hu
      cases hk : k[j]? with
      | none => rw [hk] at hu; cases hu
      | some r =>
        rw [hk] at hu
        simp at hu
        rw [Addr.add_mid, hc j r hk, ← hu]
    · intro v' w' hO' hgr
      rcases hO'.2 with ⟨h0, hz⟩ | ⟨g', cap', cur, hv, hb', _, hn, hcap, _, _⟩
      · omega
      · subst hv
        refine h g' cap' w' ?_ ⟨hgr.os, hgr.tape, hgr.output, hgr.size, fun k hk _ => hgr.block k hk (fun q => by cases q)⟩ (.inr hb')
        refine OwnY.mono (base := w.heap.size) ?_ hbase
        unfold OwnY
        rw [List.length_append, List.map_append]
        exact hO'
/-- The file and its index being written. -/
structure FS (w0 : World) (g cp : Nat) (X : List UInt8) (gi ci : Nat) (Y : List UInt8) (wr : World) : Prop where
  out : OutB wr w0.heap.size g cp X
  idx : OwnY wr w0.heap.size gi ci Y
  ne : ¬ g = gi
  below : Below w0.heap.size w0 wr
theorem FS.call {w0 : World} {g cp : Nat} {X : List UInt8} {gi ci : Nat} {Y : List UInt8} {wr w1 : World} (h : FS w0 g cp X gi ci Y wr) (hb : Below wr.heap.size wr w1) : FS w0 g cp X gi ci Y w1 :=
  ⟨h.out.chg (Chg.of_below hb) (S := fun _ => False) (fun q => q), h.idx.below hb, h.ne, h.below.trans (hb.mono h.below.size)⟩
theorem FS.appO {w0 : World} {g cp : Nat} {X : List UInt8} {gi ci : Nat} {Y : List UInt8} {wr w1 : World} {g' cp' : Nat} {X' : List UInt8} (h : FS w0 g cp X gi ci Y wr) (hO : OwnY w1 w0.heap.size g' cp' X') (hgr : wr.grownBy w1 (some g)) (hat : g' = g ∨ wr.heap.size ≤ g') : FS w0 g' cp' X' gi ci Y w1 := by
  have hi := h.idx.lt
  have hn := h.ne
  exact ⟨.inl hO, h.idx.chg (Chg.of_grown hgr (S := fun k => k = g) (fun k hk => by cases hk; rfl)) (fun q => hn q.symm), by omega, h.below.grown hgr h.below.size (fun k hk => by cases hk; exact h.out.lt.1)⟩
theorem FS.appI {w0 : World} {g cp : Nat} {X : List UInt8} {gi ci : Nat} {Y : List UInt8} {wr w1 : World} {g' cp' : Nat} {Y' : List UInt8} (h : FS w0 g cp X gi ci Y wr) (hO : OwnY w1 w0.heap.size g' cp' Y') (hgr : wr.grownBy w1 (some gi)) (hat : g' = gi ∨ g' = wr.heap.size) : FS w0 g cp X g' cp' Y' w1 := by
  have hi := h.out.lt
  have hn := h.ne
  exact ⟨h.out.chg (Chg.of_grown hgr (S := fun k => k = gi) (fun k hk => by cases hk; rfl)) hn, hO, by omega, h.below.grown hgr h.below.size (fun k hk => by cases hk; exact h.idx.lt.1)⟩

set_option maxHeartbeats 8000000 in
theorem l2File_core (b off cap : Nat) (l : List Rm) (w : World) (hR : RmsAt w b off l) (hok : ∀ es ∈ esM l, OkB es) (hB : b < w.heap.size) (hlen : (esM l).flatten.length ≤ 10000) :
    Calls Tryz.prog 50 #[.slice (some ⟨b, off, none⟩) l.length cap] w fun r w' =>
      ∃ (g cp : Nat), r = .returned (.slice (some ⟨g, 0, none⟩) (fileM (esM l)).length cp) ∧ OwnY w' w.heap.size g cp (fileM (esM l)) ∧ Below w.heap.size w w' := by
  have kc := fun (w : World) (C : Array Value) (n c : Nat) => Lib.run_convert_bytes_const (P := Tryz.prog) w 22 5 C n c Tryz.underlying22 Tryz.underlying5
  have HR : Hid (RmsAt w b off l ∧ (∀ es ∈ esM l, OkB es)) := ⟨hR, hok⟩
  have hll : l.length ≤ 10000 := by have := blocks_many (esM l) hok; simp only [List.length_map] at this; omega
  have HLn : Hid ((esM l).flatten.length ≤ 10000) := hlen
  clear hR hok hlen
  go_enter Tryz.func50, Tryz.ntmps50
  obtain ⟨W1, hW1⟩ : ∃ W1 : World, W1 = w.alloc (Obj.cells #[.int .u8 82, .int .u8 85, .int .u8 78, .int .u8 49] 5 (4, 5)) := ⟨_, rfl⟩
  have hb1 : Below w.heap.size w W1 := by rw [hW1]; exact (Below.refl _ _).alloc (Nat.le_refl _) _
  have z1 : W1.heap.size = w.heap.size + 1 := by rw [hW1]; simp
  have HO1 : Hid (OutB W1 w.heap.size w.heap.size 4 headB) := by
    refine .inr ⟨Nat.le_refl _, by omega, ?_, rfl⟩
    intro i x hx
    rw [hW1]
    unfold headB at hx
    rcases i with _ | _ | _ | _ | i
    · simp at hx; subst hx; simp [World.cell?_alloc_mark]
    · simp at hx; subst hx; simp [World.cell?_alloc_mark]
    · simp at hx; subst hx; simp [World.cell?_alloc_mark]
    · simp at hx; subst hx; simp [World.cell?_alloc_mark]
    · simp at hx
  go_wp2_with fail
  rw [← hW1]
  clear hW1 kc
  refine (l2Num_all l.length W1 (by omega)).mono ?_
  rintro e w2 ⟨gi, ci, rfl, hOi, hb2⟩
  have hgi := hOi.lt
  have HF2 : Hid (FS w w.heap.size 4 headB gi ci (num l.length) w2) := ⟨HO1.out.chg (Chg.of_below hb2) (S := fun _ => False) (fun q => q), hOi.mono (by omega), by omega, hb1.trans (hb2.mono (by omega))⟩
  clear hOi hb2 HO1 hb1
  go_upto_region 4 with fail
  go_loopw [3, 4, 5] (fun o x i wr => ∃ (k g cp gi ci : Nat) (X Y : List UInt8), k ≤ l.length ∧ i = .int .i64 k ∧ o = .slice (some ⟨g, 0, none⟩) X.length cp ∧ x = .slice (some ⟨gi, 0, none⟩) Y.length ci ∧ X = headB ++ fblocks ((esM l).take k) ∧ Y = num l.length ++ fones ((esM l).take k) ∧ FS w g cp X gi ci Y wr) (fun _ _ i _ => l.length - (intOf i).toNat)
  case atStart => exact ⟨0, _, 4, _, _, headB, num l.length, Nat.zero_le _, rfl, rfl, rfl, by simp [fblocks], by simp [fones], HF2.out⟩
  case round =>
    clear HF2 hgi
    obtain ⟨k, g, cp, gi, ci, X, Y, hk, rfl, rfl, rfl, hX, hY, hF⟩ := hrel
    have HXY : Hid (X = headB ++ fblocks ((esM l).take k) ∧ Y = num l.length ++ fones ((esM l).take k)) := ⟨hX, hY⟩
    have hokt : ∀ es ∈ (esM l).take k, OkB es := fun es he => HR.out.2 es (List.mem_of_mem_take he)
    have hft := flatten_take (esM l) k
    have hxl : X.length ≤ 4 + 5040000 := by
      rw [hX, List.length_append]
      have h1 := fblocks_len ((esM l).take k) hokt
      have h2 : headB.length = 4 := rfl
      have h3 : ((esM l).take k).length ≤ 10000 := by simp; omega
      have := HLn.out
      omega
    have hyl : Y.length ≤ 1000010 := by
      rw [hY, List.length_append]
      have h1 := fones_len ((esM l).take k) hokt (by have := HLn.out; omega)
      have h2 := num_len64 (n := l.length) (by omega)
      have h3 : ((esM l).take k).length ≤ 10000 := by simp; omega
      omega
    have HF : Hid (FS w g cp X gi ci Y wr) := hF
    have hbr := hF.below
    have sr := hbr.size
    clear hX hY hF hokt hft
    by_cases hlt : k < l.length
    · obtain ⟨r, hr⟩ : ∃ r, l[k]? = some r := ⟨_, List.getElem?_eq_getElem hlt⟩
      have hrm := List.mem_of_getElem? hr
      obtain ⟨rb, ro, rc, es⟩ := r
      obtain ⟨hcl, hrat⟩ := HR.out.1 k _ hr
      have hes : es ∈ esM l := List.mem_map.2 ⟨_, hrm, rfl⟩
      have hOk : OkB es := HR.out.2 es hes
      have hml := flatten_mem hes
      have hrl : rb < w.heap.size := hrat.lt
      have HEs : Hid (EntsAt w rb ro es ∧ OkB es ∧ es.length ≤ 10000) := ⟨hrat.ents, hOk, Nat.le_trans hml HLn.out⟩
      have HCl : Hid (w.cell? ⟨b, off + k, none⟩ = some (.slice (some ⟨rb, ro, none⟩) es.length rc)) := hcl
      have HTk : Hid ((esM l).take (k + 1) = (esM l).take k ++ [es]) := by rw [List.take_add_one, List.getElem?_map, hr]; rfl
      obtain ⟨e0, he0⟩ : ∃ e0, es[0]? = some e0 := ⟨_, List.getElem?_eq_getElem hOk.ne⟩
      have HE0 : Hid (w.cell? ⟨rb, ro, none⟩ = some (.string e0.row) ∧ row0 es = bl e0.row ∧ e0.row.size ≤ 64) := by
        refine ⟨?_, ?_, (vld_parts (hOk.vld e0 (List.mem_of_getElem? he0))).2.1⟩
        · have := (hrat.ents 0 e0 he0).1
          simpa using this
        · cases es with
          | nil => simp at he0
          | cons x t => simp at he0; subst he0; rfl
      obtain ⟨m, hm⟩ : ∃ m, es.length = m := ⟨_, rfl⟩
      have hm1 : 0 < m ∧ m ≤ 10000 := by rw [← hm]; exact ⟨hOk.ne, HEs.out.2.2⟩
      rw [hm] at HCl
      have HMe : Hid (es.length = m) := hm
      clear hr hrm hcl hrat hes hOk hml he0 hm
      have q : wr.cell? ⟨b, off + k, none⟩ = some (.slice (some ⟨rb, ro, none⟩) m rc) := by rw [hbr.cell (p := ⟨b, off + k, none⟩) hB]; exact HCl.out
      go_wp2_with fail
      clear q
      have hq := l2Body_core rb ro rc es wr (HEs.out.1.below hbr hrl) HEs.out.2.1.ok HEs.out.2.1.vld (by omega) HEs.out.2.2
      rw [HMe.out] at hq
      refine hq.mono ?_
      rintro e v1 ⟨gb, cb, rfl, hO1, hc1⟩
      obtain ⟨B, hBd⟩ : ∃ B, B = body [] es := ⟨_, rfl⟩
      have HBd : Hid (B = body [] es) := hBd
      have hB1 : 0 < B.length := by rw [hBd]; exact body_pos (by rw [HMe.out]; exact hm1.1)
      have hB2 : B.length ≤ 5000000 := by
        have := body_len es [] HEs.out.2.1.vld HEs.out.2.1.ts
        rw [HMe.out] at this
        rw [hBd]; omega
      rw [← hBd] at hO1 ⊢
      have hgb := hO1.lt
      have hgo := HF.out.out.lt
      have hgi := HF.out.idx.lt
      have HF1 : Hid (FS w g cp X gi ci Y v1 ∧ OwnY v1 wr.heap.size gb cb B) := ⟨HF.out.call hc1, hO1⟩
      have k1 := HF1.out.1.below.size
      clear hq hO1 hc1 hBd HF
      go_wp2_with (at_builtin; refine wpList_append_out _ rfl _ _ rfl w.heap.size g cp X.length gb 0 B.length cb X B rfl rfl rfl rfl ?hO ?hc ?hk ?hl ?hb ?_)
      case hO => exact HF1.out.1.out
      case hc => exact HF1.out.2.at
      case hk => exact hB1
      case hl => omega
      case hb => exact k1
      intro g2 cp2 v2 hO2 hgr2 hat2
      have HF2 : Hid (FS w g2 cp2 (X ++ B) gi ci Y v2 ∧ OwnY v2 wr.heap.size gb cb B) := ⟨HF1.out.1.appO hO2 hgr2 hat2, HF1.out.2.chg (Chg.of_grown hgr2 (S := fun k => k = g) (fun k hk => by cases hk; rfl)) (by show ¬ gb = g; omega)⟩
      rw [show X.length + B.length = (X ++ B).length from (List.length_append).symm]
      obtain ⟨X2, hX2⟩ : ∃ Z : List UInt8, Z = X ++ B := ⟨_, rfl⟩
      have HX2 : Hid (X2 = X ++ B) := hX2
      have hx2 : X2.length ≤ X.length + 5000000 := by rw [hX2, List.length_append]; omega
      rw [← hX2] at HF2 ⊢
      clear hO2 hgr2 hat2 hX2 HF1 k1
      go_wp2_with fail
      refine (specCrc_core gb 0 cb B v2 HF2.out.2.at (by unfold maxLen; omega)).mono ?_
      rintro e v3 ⟨rfl, rfl⟩
      go_wp2_with fail
      refine (l2Fixed_core (crc B).toNat v3 (crc B).isLt).mono ?_
      rintro e v4 ⟨gf, rfl, hO4, hc4⟩
      have HF4 : Hid (FS w g2 cp2 X2 gi ci Y v4 ∧ OwnY v4 v3.heap.size gf 4 (sumOf B)) := ⟨HF2.out.1.call hc4, hO4⟩
      have k4 := HF4.out.1.below.size
      clear hO4 hc4 HF2
      go_wp2_with (at_builtin; refine wpList_append_out _ rfl _ _ rfl w.heap.size g2 cp2 X2.length gf 0 4 4 X2 (sumOf B) rfl rfl rfl rfl ?hO ?hc ?hk ?hl ?hb ?_)
      case hO => exact HF4.out.1.out
      case hc => exact HF4.out.2.at
      case hk => rw [sumOf_len]; omega
      case hl => rw [sumOf_len]; omega
      case hb => exact k4
      intro g5 cp5 v5 hO5 hgr5 hat5
      have HF5 : Hid (FS w g5 cp5 (X2 ++ sumOf B) gi ci Y v5) := HF4.out.1.appO hO5 hgr5 hat5
      rw [show X2.length + 4 = (X2 ++ sumOf B).length by rw [List.length_append, sumOf_len]]
      obtain ⟨X5, hX5⟩ : ∃ Z : List UInt8, Z = X2 ++ sumOf B := ⟨_, rfl⟩
      have HX5 : Hid (X5 = X2 ++ sumOf B) := hX5
      rw [← hX5] at HF5 ⊢
      clear hO5 hgr5 hat5 hX5 HF4 k4
      obtain ⟨Y5, hY5⟩ : ∃ Z : List UInt8, Z = Y := ⟨_, rfl⟩
      have HY5 : Hid (Y5 = Y) := hY5
      have hy5 : Y5.length ≤ Y.length := by rw [hY5]; exact Nat.le_refl _
      rw [← hY5] at HF5 ⊢
      clear hY5
      obtain ⟨i5, hi5⟩ : ∃ x : Nat, x = gi := ⟨_, rfl⟩
      obtain ⟨c5, hc5⟩ : ∃ x : Nat, x = ci := ⟨_, rfl⟩
      rw [← hi5, ← hc5] at HF5 ⊢
      clear hi5 hc5
      -- index 5
      have bw5 := HF5.out.below
      go_wp2_with fail
      refine (l2Num_all B.length v5 (by omega)).mono ?_
      rintro r t5 ⟨p5, d5, rfl, hP5, hbp5⟩
      have HA5 : Hid (FS w g5 cp5 X5 i5 c5 Y5 t5 ∧ OwnY t5 v5.heap.size p5 d5 (num B.length)) := ⟨HF5.out.call hbp5, hP5⟩
      have hl5 : (num B.length).length ≤ 300 := Nat.le_trans (num_len64 (by omega)) (by omega)
      have sz5 := (HA5.out.1).below.size
      obtain ⟨P5, hPd5⟩ : ∃ P : List UInt8, P = num B.length := ⟨_, rfl⟩
      have HPd5 : Hid (P5 = num B.length) := hPd5
      rw [← hPd5] at HA5 hl5 ⊢
      clear hP5 hbp5 hPd5 HF5 bw5
      go_wp2_with (at_builtin; refine wpList_append_bys _ rfl _ _ rfl w.heap.size i5 c5 Y5.length p5 0 P5.length d5 Y5 P5 rfl rfl rfl rfl ?hO ?hc ?hl ?hb ?_)
      case hO => exact HA5.out.1.idx
      case hc => exact HA5.out.2.at
      case hl => omega
      case hb => exact sz5
      intro i6 c6 v6 hO6 hgr6 hat6
      have HF6 : Hid (FS w g5 cp5 X5 i6 c6 (Y5 ++ P5) v6) := HA5.out.1.appI hO6 hgr6 hat6
      rw [show Y5.length + P5.length = (Y5 ++ P5).length from (List.length_append).symm]
      obtain ⟨Y6, hY6⟩ : ∃ X : List UInt8, X = Y5 ++ P5 := ⟨_, rfl⟩
      have HY6 : Hid (Y6 = Y5 ++ P5) := hY6
      have hy6 : Y6.length ≤ Y5.length + 300 := by rw [hY6, List.length_append]; omega
      rw [← hY6] at HF6 ⊢
      clear hO6 hgr6 hat6 hY6 HA5 sz5
      -- index 6
      have bw6 := HF6.out.below
      have q : v6.cell? ⟨b, off + k, none⟩ = some (.slice (some ⟨rb, ro, none⟩) m rc) := by rw [bw6.cell (p := ⟨b, off + k, none⟩) hB]; exact HCl.out
      go_wp2_with fail
      clear q
      refine (l2Num_all m v6 (by omega)).mono ?_
      rintro r t6 ⟨p6, d6, rfl, hP6, hbp6⟩
      have HA6 : Hid (FS w g5 cp5 X5 i6 c6 Y6 t6 ∧ OwnY t6 v6.heap.size p6 d6 (num m)) := ⟨HF6.out.call hbp6, hP6⟩
      have hl6 : (num m).length ≤ 300 := Nat.le_trans (num_len64 (by omega)) (by omega)
      have sz6 := (HA6.out.1).below.size
      obtain ⟨P6, hPd6⟩ : ∃ P : List UInt8, P = num m := ⟨_, rfl⟩
      have HPd6 : Hid (P6 = num m) := hPd6
      rw [← hPd6] at HA6 hl6 ⊢
      clear hP6 hbp6 hPd6 HF6 bw6
      go_wp2_with (at_builtin; refine wpList_append_bys _ rfl _ _ rfl w.heap.size i6 c6 Y6.length p6 0 P6.length d6 Y6 P6 rfl rfl rfl rfl ?hO ?hc ?hl ?hb ?_)
      case hO => exact HA6.out.1.idx
      case hc => exact HA6.out.2.at
      case hl => omega
      case hb => exact sz6
      intro i7 c7 v7 hO7 hgr7 hat7
      have HF7 : Hid (FS w g5 cp5 X5 i7 c7 (Y6 ++ P6) v7) := HA6.out.1.appI hO7 hgr7 hat7
      rw [show Y6.length + P6.length = (Y6 ++ P6).length from (List.length_append).symm]
      obtain ⟨Y7, hY7⟩ : ∃ X : List UInt8, X = Y6 ++ P6 := ⟨_, rfl⟩
      have HY7 : Hid (Y7 = Y6 ++ P6) := hY7
      have hy7 : Y7.length ≤ Y6.length + 300 := by rw [hY7, List.length_append]; omega
      rw [← hY7] at HF7 ⊢
      clear hO7 hgr7 hat7 hY7 HA6 sz6
      -- index 7
      have bw7 := HF7.out.below
      have q : v7.cell? ⟨b, off + k, none⟩ = some (.slice (some ⟨rb, ro, none⟩) m rc) := by rw [bw7.cell (p := ⟨b, off + k, none⟩) hB]; exact HCl.out
      have q2 : v7.cell? ⟨rb, ro, none⟩ = some (.string e0.row) := by rw [bw7.cell (p := ⟨rb, ro, none⟩) hrl]; exact HE0.out.1
      have hm2 := hm1.1
      go_wp2_with fail
      clear q
      clear q2 hm2
      refine (l2Str_core e0.row v7 (by have := HE0.out.2.2; omega)).mono ?_
      rintro r t7 ⟨p7, d7, rfl, hP7, hbp7⟩
      have HA7 : Hid (FS w g5 cp5 X5 i7 c7 Y7 t7 ∧ OwnY t7 v7.heap.size p7 d7 (strB (bl e0.row))) := ⟨HF7.out.call hbp7, hP7⟩
      have hl7 : (strB (bl e0.row)).length ≤ 300 := by have := strB_len (s := bl e0.row) (by rw [bl_len]; have := HE0.out.2.2; omega); rw [bl_len] at this; have := HE0.out.2.2; omega
      have sz7 := (HA7.out.1).below.size
      obtain ⟨P7, hPd7⟩ : ∃ P : List UInt8, P = strB (bl e0.row) := ⟨_, rfl⟩
      have HPd7 : Hid (P7 = strB (bl e0.row)) := hPd7
      rw [← hPd7] at HA7 hl7 ⊢
      clear hP7 hbp7 hPd7 HF7 bw7
      go_wp2_with (at_builtin; refine wpList_append_bys _ rfl _ _ rfl w.heap.size i7 c7 Y7.length p7 0 P7.length d7 Y7 P7 rfl rfl rfl rfl ?hO ?hc ?hl ?hb ?_)
      case hO => exact HA7.out.1.idx
      case hc => exact HA7.out.2.at
      case hl => omega
      case hb => exact sz7
      intro i8 c8 v8 hO8 hgr8 hat8
      have HF8 : Hid (FS w g5 cp5 X5 i8 c8 (Y7 ++ P7) v8) := HA7.out.1.appI hO8 hgr8 hat8
      rw [show Y7.length + P7.length = (Y7 ++ P7).length from (List.length_append).symm]
      obtain ⟨Y8, hY8⟩ : ∃ X : List UInt8, X = Y7 ++ P7 := ⟨_, rfl⟩
      have HY8 : Hid (Y8 = Y7 ++ P7) := hY8
      have hy8 : Y8.length ≤ Y7.length + 300 := by rw [hY8, List.length_append]; omega
      rw [← hY8] at HF8 ⊢
      clear hO8 hgr8 hat8 hY8 HA7 sz7
      go_wp2_with fail
      go_roundw
      case rel =>
        refine ⟨k + 1, g5, cp5, i8, c8, X5, Y8, by omega, by go_num, rfl, rfl, ?_, ?_, HF8.out⟩
        · rw [HTk.out, fblocks_snoc, HX5.out, HX2.out, HXY.out.1, HBd.out]
          simp only [List.append_assoc]
        · rw [HTk.out, fones_snoc, HY8.out, HPd7.out, HY7.out, HPd6.out, HY6.out, HPd5.out, HY5.out, HXY.out.2, HBd.out, HE0.out.2.1, HMe.out]
          simp only [List.append_assoc]
      case measure => simp [intOf]; omega
    · obtain rfl : k = l.length := by omega
      have HXY2 : Hid (X = headB ++ fblocks (esM l) ∧ Y = findex (esM l)) := by
        obtain ⟨h1, h2⟩ := HXY.out
        rw [List.take_of_length_le (by simp)] at h1 h2
        exact ⟨h1, by rw [h2]; unfold findex; rw [List.length_map]⟩
      have hy0 : 0 < Y.length := by rw [HXY.out.2, List.length_append]; have := num_pos l.length; omega
      have k0 := HF.out.below.size
      have hne := HF.out.ne
      go_wp2_with (at_builtin; refine wpList_append_out _ rfl _ _ rfl w.heap.size g cp X.length gi 0 Y.length ci X Y rfl rfl rfl rfl ?hO ?hc ?hk ?hl ?hb ?_)
      case hO => exact HF.out.out
      case hc => exact HF.out.idx.at
      case hk => exact hy0
      case hl => omega
      case hb => exact k0
      intro g2 cp2 v2 hO2 hgr2 hat2
      have HF2 : Hid (FS w g2 cp2 (X ++ Y) gi ci Y v2) := HF.out.appO hO2 hgr2 hat2
      rw [show X.length + Y.length = (X ++ Y).length from (List.length_append).symm]
      obtain ⟨X2, hX2⟩ : ∃ Z : List UInt8, Z = X ++ Y := ⟨_, rfl⟩
      have HX2 : Hid (X2 = X ++ Y) := hX2
      have hx2 : X2.length ≤ X.length + 1000010 := by rw [hX2, List.length_append]; omega
      rw [← hX2] at HF2 ⊢
      clear hO2 hgr2 hat2 hX2 HF k0 hne
      go_wp2_with fail
      refine (specCrc_core gi 0 ci Y v2 HF2.out.idx.at (by unfold maxLen; omega)).mono ?_
      rintro e v3 ⟨rfl, rfl⟩
      go_wp2_with fail
      refine (l2Fixed_core (crc Y).toNat v3 (crc Y).isLt).mono ?_
      rintro e v4 ⟨gf, rfl, hO4, hc4⟩
      have HF4 : Hid (FS w g2 cp2 X2 gi ci Y v4 ∧ OwnY v4 v3.heap.size gf 4 (sumOf Y)) := ⟨HF2.out.call hc4, hO4⟩
      have k4 := HF4.out.1.below.size
      clear hO4 hc4 HF2
      go_wp2_with (at_builtin; refine wpList_append_out _ rfl _ _ rfl w.heap.size g2 cp2 X2.length gf 0 4 4 X2 (sumOf Y) rfl rfl rfl rfl ?hO ?hc ?hk ?hl ?hb ?_)
      case hO => exact HF4.out.1.out
      case hc => exact HF4.out.2.at
      case hk => rw [sumOf_len]; omega
      case hl => rw [sumOf_len]; omega
      case hb => exact k4
      intro g5 cp5 v5 hO5 hgr5 hat5
      have HF5 : Hid (FS w g5 cp5 (X2 ++ sumOf Y) gi ci Y v5) := HF4.out.1.appO hO5 hgr5 hat5
      rw [show X2.length + 4 = (X2 ++ sumOf Y).length by rw [List.length_append, sumOf_len]]
      obtain ⟨X5, hX5⟩ : ∃ Z : List UInt8, Z = X2 ++ sumOf Y := ⟨_, rfl⟩
      have HX5 : Hid (X5 = X2 ++ sumOf Y) := hX5
      have hx5 : X5.length = X2.length + 4 := by rw [hX5, List.length_append, sumOf_len]
      have hx6 : X5.length ≤ X2.length + 4 := Nat.le_of_eq hx5
      rw [← hX5] at HF5 ⊢
      clear hO5 hgr5 hat5 hX5 HF4 k4 hx5
      go_wp2_with fail
      have hq := l2Fixed_core Y.length v5 (by omega)
      refine hq.mono ?_
      rintro e v6 ⟨gf6, rfl, hO6, hc6⟩
      have HF6 : Hid (FS w g5 cp5 X5 gi ci Y v6 ∧ OwnY v6 v5.heap.size gf6 4 (fixed Y.length)) := ⟨HF5.out.call hc6, hO6⟩
      have k6 := HF6.out.1.below.size
      clear hO6 hc6 HF5 hq
      go_wp2_with (at_builtin; refine wpList_append_out _ rfl _ _ rfl w.heap.size g5 cp5 X5.length gf6 0 4 4 X5 (fixed Y.length) rfl rfl rfl rfl ?hO ?hc ?hk ?hl ?hb ?_)
      case hO => exact HF6.out.1.out
      case hc => exact HF6.out.2.at
      case hk => rw [fixed_len]; omega
      case hl => rw [fixed_len]; omega
      case hb => exact k6
      intro g7 cp7 v7 hO7 hgr7 hat7
      have hb7 := (HF6.out.1.appO hO7 hgr7 hat7).below
      have hfin : X5 ++ fixed Y.length = fileM (esM l) := by
        rw [HX5.out, HX2.out, HXY2.out.1, HXY2.out.2]
        unfold fileM
        simp only [List.append_assoc]
      rw [show X5.length + 4 = (X5 ++ fixed Y.length).length by rw [List.length_append, fixed_len], hfin]
      rw [hfin] at hO7
      go_wp2_with fail
      go_ret
      exact ⟨g7, cp7, rfl, hO7, hb7⟩
end Go.Proofs.YtlgeffinhbodeaeGreatDoor

/-
  The state of impl.EncodeRun's loop.
-/
namespace Go.Proofs.YtlgeffinhbodeaeGreatDoor
open Go.ChangeShapes Go.WideShapes Go.ChangeAt Go.RowKit Go.Deep
set_option linter.unusedVariables false
set_option linter.unusedSimpArgs false
set_option maxRecDepth 100000

structure EnS (w Wst : World) (SS : Nat → Prop) (T B6 B7 B8 : Nat) (F M : List UInt8) (c mf gf cpf mm gm cpm : Nat) (W : World) : Prop where
  file : BoxAt W w.heap.size 22 1 B6 [.slice (some ⟨gf, 0, none⟩) mf cpf]
  mfl : mf = F.length
  frow : OutB W w.heap.size gf cpf F
  marks : BoxAt W w.heap.size 22 1 B7 [.slice (some ⟨gm, 0, none⟩) mm cpm]
  mml : mm = M.length
  mrow : OwnY W w.heap.size gm cpm M
  cnt : BoxAt W w.heap.size 43 1 B8 [.int .u64 (c : Int)]
  tab : TabAt W T 0
  tlt : w.heap.size ≤ T ∧ T < W.heap.size
  n1 : ¬ B6 = B7 ∧ ¬ B6 = B8 ∧ ¬ B7 = B8 ∧ ¬ T = B6 ∧ ¬ T = B7 ∧ ¬ T = B8
  n2 : ¬ gf = B6 ∧ ¬ gf = B7 ∧ ¬ gf = B8 ∧ ¬ gf = gm ∧ ¬ gf = T
  n3 : ¬ gm = B6 ∧ ¬ gm = B7 ∧ ¬ gm = B8 ∧ ¬ gm = T
  below : Below w.heap.size w W
  ch : Chg SS Wst W
  ss : SS B6 ∧ SS B7 ∧ SS B8 ∧ (SS gf ∨ Wst.heap.size ≤ gf) ∧ (SS gm ∨ Wst.heap.size ≤ gm)
variable {w Wst : World} {SS : Nat → Prop} {T B6 B7 B8 : Nat} {F M : List UInt8} {c mf gf cpf mm gm cpm : Nat} {W W1 : World}
theorem ne_of {g' g S B : Nat} (hat : g' = g ∨ S ≤ g') (h : ¬ g = B) (hl : B < S) : ¬ g' = B := by
  rcases hat with rfl | q
  · exact h
  · omega
theorem Chg.takeIn {S T : Nat → Prop} {w w1 w2 : World} (h : Chg S w w1) (k : Chg T w1 w2) (hT : ∀ j, T j → S j ∨ w.heap.size ≤ j) : Chg S w w2 :=
  ⟨k.os.trans h.os, k.tape.trans h.tape, k.output.trans h.output, Nat.le_trans h.size k.size, fun i hi hn => (k.block i (Nat.lt_of_lt_of_le hi h.size) (fun q => by rcases hT i q with q | q; exact hn q; omega)).trans (h.block i hi hn)⟩
theorem tab_chg {S : Nat → Prop} {w w' : World} {T : Nat} (h : TabAt w T 0) (hc : Chg S w w') (hl : T < w.heap.size) (hn : ¬ S T) : TabAt w' T 0 := fun i hi => by
  rw [hc.cell (p := ⟨T, 0 + i, none⟩) hl hn]; exact h i hi
theorem EnS.move (h : EnS w Wst SS T B6 B7 B8 F M c mf gf cpf mm gm cpm W) (hb : Below W.heap.size W W1) : EnS w Wst SS T B6 B7 B8 F M c mf gf cpf mm gm cpm W1 :=
  ⟨h.file.below hb, h.mfl, h.frow.chg (Chg.of_below hb) (S := fun _ => False) (fun q => q), h.marks.below hb, h.mml, h.mrow.below hb, h.cnt.below hb, h.tab.below hb h.tlt.2, ⟨h.tlt.1, Nat.lt_of_lt_of_le h.tlt.2 hb.size⟩, h.n1, h.n2, h.n3, h.below.trans (hb.mono h.below.size), h.ch.trans (Chg.of_below hb), h.ss⟩
/-- The file's row grown, then its variable set. -/
theorem EnS.newFile (h : EnS w Wst SS T B6 B7 B8 F M c mf gf cpf mm gm cpm W) {gf' cpf' mf' : Nat} {F' : List UInt8} (hO : OwnY W1 w.heap.size gf' cpf' F') (hC : Chg (fun k => k = gf) W W1) (hat : gf' = gf ∨ W.heap.size ≤ gf') (hm : mf' = F'.length) :
    EnS w Wst SS T B6 B7 B8 F' M c mf' gf' cpf' mm gm cpm (W1.setCell ⟨B6, 0, none⟩ (.slice (some ⟨gf', 0, none⟩) mf' cpf')) ∧ W1.cell? ⟨B6, 0, none⟩ = some (.slice (some ⟨gf, 0, none⟩) mf cpf) ∧ W1.frozen? ⟨B6, 0, none⟩ = false := by
  obtain ⟨a1, a2, a3, a4, a5, a6⟩ := h.n1
  obtain ⟨b1, b2, b3, b4, b5⟩ := h.n2
  obtain ⟨c1, c2, c3, c4⟩ := h.n3
  have l6 := h.file.lt
  have l7 := h.marks.lt
  have l8 := h.cnt.lt
  have lm := h.mrow.lt
  have lf := h.frow.lt
  have lt := h.tlt
  have hs := Chg.of_set W1 B6 0 (.slice (some ⟨gf', 0, none⟩) mf' cpf') (S := fun k => k = B6) rfl
  have hsz := hC.size
  have hbx := h.file.chg hC (fun q => b1 q.symm)
  have e6 := ne_of hat b1 l6.2
  have e7 := ne_of hat b2 l7.2
  have e8 := ne_of hat b3 l8.2
  have em := ne_of hat b4 lm.2
  have eT := ne_of hat b5 lt.2
  have hsz2 := hs.size
  refine ⟨⟨hbx.set 0 _, hm, .inl (hO.chg hs e6), (h.marks.chg hC (fun q => b2 q.symm)).chg hs (fun q => a1 q.symm), h.mml, (h.mrow.chg hC (fun q => b4 q.symm)).chg hs c1, (h.cnt.chg hC (fun q => b3 q.symm)).chg hs (fun q => a2 q.symm), tab_chg (tab_chg h.tab hC lt.2 (fun q => b5 q.symm)) hs (Nat.lt_of_lt_of_le lt.2 hsz) a4, ⟨lt.1, Nat.lt_of_lt_of_le lt.2 (Nat.le_trans hsz hsz2)⟩, h.n1, ⟨e6, e7, e8, em, eT⟩, h.n3, ?_, ?_, ?_⟩, hbx.cell (j := 0) rfl, hbx.frozen 0⟩
  · exact below_set (Chg.below h.below hC h.below.size (fun k q => by subst q; exact lf.1)) l6.1 0 _
  · exact (h.ch.takeIn hC (fun k q => by subst q; exact h.ss.2.2.2.1)).takeIn hs (fun k q => by subst q; exact .inl h.ss.1)
  · obtain ⟨s1, s2, s3, s4, s5⟩ := h.ss
    refine ⟨s1, s2, s3, ?_, s5⟩
    rcases hat with q | q
    · rw [q]; exact s4
    · exact .inr (Nat.le_trans h.ch.size q)
theorem EnS.newMarks (h : EnS w Wst SS T B6 B7 B8 F M c mf gf cpf mm gm cpm W) {gm' cpm' mm' : Nat} {M' : List UInt8} (hO : OwnY W1 w.heap.size gm' cpm' M') (hC : Chg (fun k => k = gm) W W1) (hat : gm' = gm ∨ W.heap.size ≤ gm') (hm : mm' = M'.length) :
    EnS w Wst SS T B6 B7 B8 F M' c mf gf cpf mm' gm' cpm' (W1.setCell ⟨B7, 0, none⟩ (.slice (some ⟨gm', 0, none⟩) mm' cpm')) ∧ W1.cell? ⟨B7, 0, none⟩ = some (.slice (some ⟨gm, 0, none⟩) mm cpm) ∧ W1.frozen? ⟨B7, 0, none⟩ = false := by
  obtain ⟨a1, a2, a3, a4, a5, a6⟩ := h.n1
  obtain ⟨b1, b2, b3, b4, b5⟩ := h.n2
  obtain ⟨c1, c2, c3, c4⟩ := h.n3
  have l6 := h.file.lt
  have l7 := h.marks.lt
  have l8 := h.cnt.lt
  have lm := h.mrow.lt
  have lf := h.frow.lt
  have lt := h.tlt
  have hs := Chg.of_set W1 B7 0 (.slice (some ⟨gm', 0, none⟩) mm' cpm') (S := fun k => k = B7) rfl
  have hsz := hC.size
  have hbx := h.marks.chg hC (fun q => c2 q.symm)
  have e6 := ne_of hat c1 l6.2
  have e7 := ne_of hat c2 l7.2
  have e8 := ne_of hat c3 l8.2
  have ef := ne_of hat (fun q => b4 q.symm) lf.2
  have eT := ne_of hat c4 lt.2
  have hsz2 := hs.size
  refine ⟨⟨(h.file.chg hC (fun q => c1 q.symm)).chg hs a1, h.mfl, (h.frow.chg hC b4).chg hs b2, hbx.set 0 _, hm, hO.chg hs e7, (h.cnt.chg hC (fun q => c3 q.symm)).chg hs (fun q => a3 q.symm), tab_chg (tab_chg h.tab hC lt.2 (fun q => c4 q.symm)) hs (Nat.lt_of_lt_of_le lt.2 hsz) a5, ⟨lt.1, Nat.lt_of_lt_of_le lt.2 (Nat.le_trans hsz hsz2)⟩, h.n1, ⟨b1, b2, b3, fun q => ef q.symm, b5⟩, ⟨e6, e7, e8, eT⟩, ?_, ?_, ?_⟩, hbx.cell (j := 0) rfl, hbx.frozen 0⟩
  · exact below_set (Chg.below h.below hC h.below.size (fun k q => by subst q; exact lm.1)) l7.1 0 _
  · exact (h.ch.takeIn hC (fun k q => by subst q; exact h.ss.2.2.2.2)).takeIn hs (fun k q => by subst q; exact .inl h.ss.2.1)
  · obtain ⟨s1, s2, s3, s4, s5⟩ := h.ss
    refine ⟨s1, s2, s3, s4, ?_⟩
    rcases hat with q | q
    · rw [q]; exact s5
    · exact .inr (Nat.le_trans h.ch.size q)
theorem EnS.incr (h : EnS w Wst SS T B6 B7 B8 F M c mf gf cpf mm gm cpm W) : EnS w Wst SS T B6 B7 B8 F M (c + 1) mf gf cpf mm gm cpm (W.setCell ⟨B8, 0, none⟩ (.int .u64 ((c : Int) + 1))) := by
  obtain ⟨a1, a2, a3, a4, a5, a6⟩ := h.n1
  obtain ⟨b1, b2, b3, b4, b5⟩ := h.n2
  obtain ⟨c1, c2, c3, c4⟩ := h.n3
  have l8 := h.cnt.lt
  have lt := h.tlt
  have hs := Chg.of_set W B8 0 (.int .u64 ((c : Int) + 1)) (S := fun k => k = B8) rfl
  exact ⟨h.file.chg hs a2, h.mfl, h.frow.chg hs b3, h.marks.chg hs a3, h.mml, h.mrow.chg hs c3, h.cnt.set 0 _, tab_chg h.tab hs lt.2 a6, ⟨lt.1, Nat.lt_of_lt_of_le lt.2 hs.size⟩, h.n1, h.n2, h.n3, below_set h.below l8.1 0 _, h.ch.takeIn hs (fun k q => by subst q; exact .inl h.ss.2.2.1), h.ss⟩
end Go.Proofs.YtlgeffinhbodeaeGreatDoor

/-
  The state between the rounds of impl.EncodeRun's loop.
-/
namespace Go.Proofs.YtlgeffinhbodeaeGreatDoor
open Go.ChangeShapes Go.WideShapes Go.ChangeAt Go.RowKit Go.Deep Go.Shelf
set_option linter.unusedVariables false
set_option linter.unusedSimpArgs false
set_option maxRecDepth 100000

variable {w Wst : World} {SS : Nat → Prop} {T B6 B7 B8 : Nat} {F M : List UInt8} {c mf gf cpf mm gm cpm : Nat} {W W1 : World}
theorem chg_true (h : Below w.heap.size w W) : Chg (fun _ => True) w W := ⟨h.os, h.tape, h.output, h.size, fun k hk q => absurd trivial q⟩
/-- A round begins. -/
theorem EnS.rebase (h : EnS w Wst SS T B6 B7 B8 F M c mf gf cpf mm gm cpm W) : EnS w W (fun k => k = B6 ∨ k = B7 ∨ k = B8 ∨ k = gf ∨ k = gm) T B6 B7 B8 F M c mf gf cpf mm gm cpm W :=
  ⟨h.file, h.mfl, h.frow, h.marks, h.mml, h.mrow, h.cnt, h.tab, h.tlt, h.n1, h.n2, h.n3, h.below, Chg.refl _ _, ⟨.inl rfl, .inr (.inl rfl), .inr (.inr (.inl rfl)), .inl (.inr (.inr (.inr (.inl rfl)))), .inl (.inr (.inr (.inr (.inr rfl))))⟩⟩
/-- A round ends. -/
theorem EnS.forget (h : EnS w Wst SS T B6 B7 B8 F M c mf gf cpf mm gm cpm W) : EnS w w (fun _ => True) T B6 B7 B8 F M c mf gf cpf mm gm cpm W :=
  ⟨h.file, h.mfl, h.frow, h.marks, h.mml, h.mrow, h.cnt, h.tab, h.tlt, h.n1, h.n2, h.n3, h.below, chg_true h.below, ⟨trivial, trivial, trivial, .inl trivial, .inl trivial⟩⟩
/-- What lies in a block of cells. -/
theorem cells_of_cell {w : World} {g o : Nat} {v : Value} (h : w.cell? ⟨g, o, none⟩ = some v) : ∃ x : Obj, w.heap[g]? = some x ∧ x.isCells = true := by
  unfold World.cell? at h
  cases hx : w.heap[g]? with
  | none => simp [hx] at h
  | some x =>
    refine ⟨x, rfl, ?_⟩
    cases x <;> simp_all [Obj.isCells]
theorem cells_of_own {w : World} {base e size : Nat} {g cp n : Nat} {xs : List Value} (h : w.ownsRow base e size (.slice (some ⟨g, 0, none⟩) n cp) n xs) : ∃ x : Obj, w.heap[g]? = some x ∧ x.isCells = true := by
  rcases h.2 with ⟨h0, _⟩ | ⟨g', cap', cur, hv, _, hc, _⟩
  · cases h0
  · simp only [Value.slice.injEq, Option.some.injEq, Addr.mk.injEq, and_true, true_and] at hv
    obtain ⟨rfl, rfl⟩ := hv
    exact ⟨_, hc, rfl⟩
theorem cells_of_out {w : World} {base g cp : Nat} {xs : List UInt8} (h : OutB w base g cp xs) (hx : 0 < xs.length) : ∃ x : Obj, w.heap[g]? = some x ∧ x.isCells = true := by
  obtain ⟨y, hy⟩ : ∃ y, xs[0]? = some y := ⟨_, List.getElem?_eq_getElem hx⟩
  exact cells_of_cell (h.at 0 y hy)
/-- The blocks of a round are cells. -/
theorem EnS.cells (h : EnS w Wst SS T B6 B7 B8 F M c mf gf cpf mm gm cpm W) (hF : 0 < F.length) : ∀ k, (k = B6 ∨ k = B7 ∨ k = B8 ∨ k = gf ∨ k = gm) → ∃ x : Obj, W.heap[k]? = some x ∧ x.isCells = true := by
  rintro k (rfl | rfl | rfl | rfl | rfl)
  · exact cells_of_own h.file
  · exact cells_of_own h.marks
  · exact cells_of_own h.cnt
  · exact cells_of_out h.frow hF
  · exact cells_of_own h.mrow
theorem keeps_of {S : Nat → Prop} {B : Nat} {W W' : World} (hC : Chg S W W') (hS : ∀ k, S k → ∃ x : Obj, W.heap[k]? = some x ∧ x.isCells = true) : KeepsFrom B W W' := by
  refine ⟨hC.size, fun k o _ hk ho => ?_⟩
  have hlt : k < W.heap.size := (Array.getElem?_eq_some_iff.1 hk).1
  rw [hC.block k hlt (fun q => by
    obtain ⟨x, hx, hc⟩ := hS k q
    rw [hk] at hx
    cases hx
    rw [ho] at hc
    cases hc)]
  exact hk
theorem EnS.grown {row : Option Nat} (h : EnS w w (fun _ => True) T B6 B7 B8 F M c mf gf cpf mm gm cpm W) (hF : 0 < F.length) (hg : W.grownBy W1 row) (hr : ∀ r, row = some r → ∃ o : Obj, W.heap[r]? = some o ∧ o.isCells = false) (hrB : ∀ r, row = some r → w.heap.size ≤ r) : EnS w w (fun _ => True) T B6 B7 B8 F M c mf gf cpf mm gm cpm W1 := by
  have hne : ∀ k, (∃ x : Obj, W.heap[k]? = some x ∧ x.isCells = true) → ¬ row = some k := fun k ⟨x, hx, hc⟩ q => by
    obtain ⟨o, ho, hf⟩ := hr k q
    rw [hx] at ho
    cases ho
    rw [hc] at hf
    cases hf
  have hc := h.cells hF
  have hC : Chg (fun k => row = some k) W W1 := Chg.of_grown hg (fun k hk => hk)
  have hT : ¬ row = some T := hne T (cells_of_cell (h.tab 0 (by decide)))
  have hB : Below w.heap.size w W1 := Chg.below h.below hC h.below.size (fun k q => hrB k q)
  exact ⟨h.file.chg hC (hne _ (hc _ (.inl rfl))), h.mfl, h.frow.chg hC (hne _ (hc _ (.inr (.inr (.inr (.inl rfl)))))), h.marks.chg hC (hne _ (hc _ (.inr (.inl rfl)))), h.mml, h.mrow.chg hC (hne _ (hc _ (.inr (.inr (.inr (.inr rfl)))))), h.cnt.chg hC (hne _ (hc _ (.inr (.inr (.inl rfl))))), tab_chg h.tab hC h.tlt.2 hT, ⟨h.tlt.1, Nat.lt_of_lt_of_le h.tlt.2 hC.size⟩, h.n1, h.n2, h.n3, hB, chg_true hB, h.ss⟩
end Go.Proofs.YtlgeffinhbodeaeGreatDoor

/-
  The steps of a round of impl.EncodeRun's loop.
-/
namespace Go.Proofs.YtlgeffinhbodeaeGreatDoor
open Go.ChangeShapes Go.WideShapes Go.ChangeAt Go.RowKit Go.Deep Go.Shelf
set_option linter.unusedVariables false
set_option linter.unusedSimpArgs false
set_option maxRecDepth 100000

variable {w Wst : World} {SS : Nat → Prop} {T B6 B7 B8 : Nat} {F M : List UInt8} {c mf gf cpf mm gm cpm : Nat} {W V : World}
theorem own_block {g cp n : Nat} {S : Nat → Prop} {W W' : World} (hC : Chg (fun k => (Value.slice (some ⟨g, 0, none⟩) n cp).ownBlock = some k) W W') : Chg (fun k => k = g) W W' := hC.mono (fun k q => by simp [Value.ownBlock] at q; exact q.symm)
theorem own_at {g cp n g' B : Nat} (h : (Value.slice (some ⟨g, 0, none⟩) n cp).ownBlock = some g' ∨ B ≤ g') : g' = g ∨ B ≤ g' := by
  rcases h with q | q
  · simp [Value.ownBlock] at q; exact .inl q.symm
  · exact .inr q
theorem en_num (h : EnS w Wst SS T B6 B7 B8 F M c mf gf cpf mm gm cpm W) (hV : Below W.heap.size W V) (x : Nat) (hx : x < 2 ^ 64) (hl : mm ≤ 2 ^ 27) :
    Calls Tryz.prog 47 #[.slice (some ⟨gm, 0, none⟩) mm cpm, .int .u64 (x : Int)] V fun e w' => ∃ g cp m, e = .returned (.slice (some ⟨g, 0, none⟩) m cp) ∧ m ≤ mm + 10 ∧ Hid (EnS w Wst SS T B6 B7 B8 F (M ++ num x) c mf gf cpf m g cp (w'.setCell ⟨B7, 0, none⟩ (.slice (some ⟨g, 0, none⟩) m cp))) ∧ w'.cell? ⟨B7, 0, none⟩ = some (.slice (some ⟨gm, 0, none⟩) mm cpm) ∧ w'.frozen? ⟨B7, 0, none⟩ = false := by
  have hJ := h.move hV
  have hm := hJ.mml
  have hr := OwnS.of hJ.mrow
  rw [← hm] at hr
  refine (appendNumber_core w.heap.size _ M x V hr hx (by omega) hJ.below.size).mono ?_
  rintro e w' ⟨g, cp, rfl, hO, hC, hat⟩
  have h1 := hJ.newMarks hO (own_block (S := fun _ => False) hC) (own_at hat) rfl
  refine ⟨g, cp, _, rfl, ?_, h1.1, h1.2⟩
  have := num_len64 hx
  rw [List.length_append]
  omega
theorem en_text (h : EnS w Wst SS T B6 B7 B8 F M c mf gf cpf mm gm cpm W) (hV : Below W.heap.size W V) (s : ByteArray) (hs : s.size ≤ 200) (hl : mm ≤ 2 ^ 27) :
    Calls Tryz.prog 48 #[.slice (some ⟨gm, 0, none⟩) mm cpm, .string s] V fun e w' => ∃ g cp m, e = .returned (.slice (some ⟨g, 0, none⟩) m cp) ∧ m ≤ mm + 300 ∧ Hid (EnS w Wst SS T B6 B7 B8 F (M ++ strB (bl s)) c mf gf cpf m g cp (w'.setCell ⟨B7, 0, none⟩ (.slice (some ⟨g, 0, none⟩) m cp))) ∧ w'.cell? ⟨B7, 0, none⟩ = some (.slice (some ⟨gm, 0, none⟩) mm cpm) ∧ w'.frozen? ⟨B7, 0, none⟩ = false := by
  have hJ := h.move hV
  have hm := hJ.mml
  have hr := OwnS.of hJ.mrow
  rw [← hm] at hr
  have e1 : M ++ num s.size ++ bl s = M ++ strB (bl s) := by unfold strB; rw [bl_len, List.append_assoc]
  refine (appendText_core w.heap.size _ M s V hr (by omega) hJ.below.size).mono ?_
  rintro e w' ⟨g, cp, rfl, hO, hC, hat⟩
  rw [e1] at hO ⊢
  have h1 := hJ.newMarks hO (own_block (S := fun _ => False) hC) (own_at hat) rfl
  refine ⟨g, cp, _, rfl, ?_, h1.1, h1.2⟩
  have := strB_len (s := bl s) (by rw [bl_len]; omega)
  rw [bl_len] at this
  rw [List.length_append]
  omega
theorem en_fix (h : EnS w Wst SS T B6 B7 B8 F M c mf gf cpf mm gm cpm W) (hO0 : OwnY W w.heap.size gf cpf F) (hV : Below W.heap.size W V) (x : Nat) (hx : x < 2 ^ 32) (hl : mf ≤ 2 ^ 27) :
    Calls Tryz.prog 45 #[.slice (some ⟨gf, 0, none⟩) mf cpf, .int .u32 (x : Int)] V fun e w' => ∃ g cp m, e = .returned (.slice (some ⟨g, 0, none⟩) m cp) ∧ m ≤ mf + 4 ∧ Hid (EnS w Wst SS T B6 B7 B8 (F ++ fixed x) M c m g cp mm gm cpm (w'.setCell ⟨B6, 0, none⟩ (.slice (some ⟨g, 0, none⟩) m cp)) ∧ OwnY (w'.setCell ⟨B6, 0, none⟩ (.slice (some ⟨g, 0, none⟩) m cp)) w.heap.size g cp (F ++ fixed x)) ∧ w'.cell? ⟨B6, 0, none⟩ = some (.slice (some ⟨gf, 0, none⟩) mf cpf) ∧ w'.frozen? ⟨B6, 0, none⟩ = false := by
  have hJ := h.move hV
  have hm := hJ.mfl
  have hr := OwnS.of (hO0.below hV)
  rw [← hm] at hr
  refine (appendFixed_core w.heap.size _ F x V hr hx (by omega) hJ.below.size).mono ?_
  rintro e w' ⟨g, cp, rfl, hO, hC, hat⟩
  have hat' := own_at hat
  have h1 := hJ.newFile hO (own_block (S := fun _ => False) hC) hat' rfl
  have hne : ¬ g = B6 := h1.1.n2.1
  have hs := Chg.of_set w' B6 0 (.slice (some ⟨g, 0, none⟩) (F ++ fixed x).length cp) (S := fun k => k = B6) rfl
  refine ⟨g, cp, _, rfl, ?_, ⟨h1.1, hO.chg hs hne⟩, h1.2⟩
  rw [List.length_append]
  have : (fixed x).length = 4 := rfl
  omega
theorem en_sum (h : EnS w Wst SS T B6 B7 B8 F M c mf gf cpf mm gm cpm W) (hV : Below W.heap.size W V) {g1 m1 cp1 : Nat} {xs : List UInt8} (hg : g1 < W.heap.size) (hB : BysAt W g1 0 xs) (hm : m1 = xs.length) (hl : m1 ≤ 2 ^ 27) :
    Calls Tryz.prog 46 #[.pointer (some ⟨T, 0, none⟩), .slice (some ⟨g1, 0, none⟩) m1 cp1] V fun e w' => e = .returned (.int .u32 ((crc xs).toNat : Int)) ∧ w' = V := by
  subst hm
  exact tableOf_core T 0 g1 0 cp1 xs V ((h.move hV).tab) (hB.chg (Chg.of_below hV) (S := fun _ => False) hg (fun q => q)) (by unfold maxLen; omega)
theorem en_app {v2 : World} {g2 cp2 m2 : Nat} {F2 : List UInt8} (h : EnS w Wst SS T B6 B7 B8 F M c mf gf cpf mm gm cpm W) (hO : OwnY v2 w.heap.size g2 cp2 F2) (hgr : W.grownBy v2 (some gf)) (hat : g2 = gf ∨ W.heap.size ≤ g2) (hm : m2 = F2.length) :
    (EnS w Wst SS T B6 B7 B8 F2 M c m2 g2 cp2 mm gm cpm (v2.setCell ⟨B6, 0, none⟩ (.slice (some ⟨g2, 0, none⟩) m2 cp2)) ∧ OwnY (v2.setCell ⟨B6, 0, none⟩ (.slice (some ⟨g2, 0, none⟩) m2 cp2)) w.heap.size g2 cp2 F2) ∧ v2.cell? ⟨B6, 0, none⟩ = some (.slice (some ⟨gf, 0, none⟩) mf cpf) ∧ v2.frozen? ⟨B6, 0, none⟩ = false := by
  have h1 := h.newFile hO (Chg.of_grown hgr (fun j hj => by cases hj; rfl)) hat hm
  have hs := Chg.of_set v2 B6 0 (.slice (some ⟨g2, 0, none⟩) m2 cp2) (S := fun k => k = B6) rfl
  exact ⟨⟨h1.1, hO.chg hs h1.1.n2.1⟩, h1.2⟩
theorem en_bys {W0 v2 : World} {g1 cp1 g2 m2 cp2 : Nat} {xs : List UInt8} {F0 M0 : List UInt8} {c0 mf0 cpf0 mm0 gm0 cpm0 : Nat} (h : EnS w Wst SS T B6 B7 B8 F M c mf gf cpf mm gm cpm W) (h0 : EnS w Wst SS T B6 B7 B8 F0 M0 c0 mf0 gf cpf0 mm0 gm0 cpm0 W0) (hO : OwnY W W0.heap.size g1 cp1 xs) (hgr : W.grownBy v2 (some gf)) : BysAt (v2.setCell ⟨B6, 0, none⟩ (.slice (some ⟨g2, 0, none⟩) m2 cp2)) g1 0 xs ∧ g1 < (v2.setCell ⟨B6, 0, none⟩ (.slice (some ⟨g2, 0, none⟩) m2 cp2)).heap.size := by
  have h1 := hO.lt
  have h2 := h0.file.lt.2
  have h3 := h0.frow.lt.2
  have hC : Chg (fun k => k = gf) W v2 := Chg.of_grown hgr (fun j hj => by cases hj; rfl)
  have hs := Chg.of_set v2 B6 0 (.slice (some ⟨g2, 0, none⟩) m2 cp2) (S := fun k => k = B6) rfl
  have hsz := hC.size
  have hsz2 := hs.size
  exact ⟨(hO.at.chg hC h1.2 (by omega)).chg hs (by omega) (by omega), by omega⟩
end Go.Proofs.YtlgeffinhbodeaeGreatDoor

/-
  What a round of impl.EncodeRun's loop begins and ends with.
-/
namespace Go.Proofs.YtlgeffinhbodeaeGreatDoor
open Go.ChangeShapes Go.WideShapes Go.ChangeAt Go.RowKit Go.Deep Go.Shelf
set_option linter.unusedVariables false
set_option linter.unusedSimpArgs false
set_option maxRecDepth 100000

/-- The rows lie apart from the iterator's boxes. -/
def ApartB (B gf gm : Nat) : Prop := ¬ gf = B ∧ ¬ gf = B + 1 ∧ ¬ gm = B ∧ ¬ gm = B + 1
theorem en_end {w W W9 : World} {T B6 B7 B8 : Nat} {F M F' M' : List UInt8} {c c' mf gf cpf mm gm cpm mf' gf' cpf' mm' gm' cpm' BB X : Nat}
    (h0 : EnS w W (fun j => j = B6 ∨ j = B7 ∨ j = B8 ∨ j = gf ∨ j = gm) T B6 B7 B8 F M c mf gf cpf mm gm cpm W) (h9 : EnS w W (fun j => j = B6 ∨ j = B7 ∨ j = B8 ∨ j = gf ∨ j = gm) T B6 B7 B8 F' M' c' mf' gf' cpf' mm' gm' cpm' W9)
    (hF : 0 < F.length) (hap : ApartB BB gf gm) (h6 : B6 < BB) (h7 : B7 < BB) (h8 : B8 < BB) (hlt : BB + 1 < W.heap.size) :
    KeepsFrom X W W9 ∧ Kc BB (BB + 1) W W9 ∧ ApartB BB gf' gm' ∧ W.heap.size ≤ W9.heap.size := by
  obtain ⟨a1, a2, a3, a4⟩ := hap
  have n1 : ¬ (BB = B6 ∨ BB = B7 ∨ BB = B8 ∨ BB = gf ∨ BB = gm) := by
    rintro (q | q | q | q | q)
    · omega
    · omega
    · omega
    · exact a1 q.symm
    · exact a3 q.symm
  have n2 : ¬ (BB + 1 = B6 ∨ BB + 1 = B7 ∨ BB + 1 = B8 ∨ BB + 1 = gf ∨ BB + 1 = gm) := by
    rintro (q | q | q | q | q)
    · omega
    · omega
    · omega
    · exact a2 q.symm
    · exact a4 q.symm
  refine ⟨keeps_of h9.ch (h0.cells hF), ⟨h9.ch.cell (p := ⟨BB, 0, none⟩) (by show BB < _; omega) n1, h9.ch.cell (p := ⟨BB + 1, 0, none⟩) hlt n2⟩, ⟨?_, ?_, ?_, ?_⟩, h9.ch.size⟩
  · rcases h9.ss.2.2.2.1 with q | q
    · exact fun e => n1 (by rw [← e]; exact q)
    · omega
  · rcases h9.ss.2.2.2.1 with q | q
    · exact fun e => n2 (by rw [← e]; exact q)
    · omega
  · rcases h9.ss.2.2.2.2 with q | q
    · exact fun e => n1 (by rw [← e]; exact q)
    · omega
  · rcases h9.ss.2.2.2.2 with q | q
    · exact fun e => n2 (by rw [← e]; exact q)
    · omega
theorem ck_ok {es : List Ent} {n p k : Nat} (hn : n = es.length) (hp : 1 ≤ p) (hk : k * p < n) (hok : ∀ e ∈ es, e.ok) (hv : ∀ e ∈ es, e.vld = true) : OkB (ckE es p k) := by
  have hm : ∀ e ∈ ckE es p k, e ∈ es := fun e he => List.mem_of_mem_drop (List.mem_of_mem_take he)
  exact ⟨fun e he => hv e (hm e he), fun e he => hok e (hm e he), by rw [ckE_len]; omega⟩
theorem ck_at {w : World} {b off : Nat} {es : List Ent} (hE : EntsAt w b off es) (p k : Nat) : EntsAt w b (off + k * p * 6) (ckE es p k) := by
  intro i e he
  have h1 : es[k * p + i]? = some e := by
    unfold ckE at he
    rw [List.getElem?_take] at he
    split at he
    · rw [List.getElem?_drop] at he; exact he
    · cases he
  have := hE (k * p + i) e h1
  rw [Nat.add_mul, ← Nat.add_assoc] at this
  exact this
theorem ck_flat {es : List Ent} {n p : Nat} : ∀ (pre : List (Ck n p)), (pre.map (fun k => ckE es p k.1)).flatten.length ≤ pre.length * p
  | [] => by simp
  | x :: pre => by
    have h1 := ck_flat (es := es) pre
    have h2 := ckE_len es p x.1
    simp only [List.map_cons, List.flatten_cons, List.length_append, List.length_cons]
    rw [Nat.add_mul, Nat.one_mul]
    omega
theorem ck_bound {es : List Ent} {n p : Nat} (hn : n = es.length) (hn2 : n ≤ 10000) (hp1 : 1 ≤ p) (hp2 : p ≤ 1000) (hok : ∀ e ∈ es, e.ok) (hv : ∀ e ∈ es, e.vld = true) (pre : List (Ck n p)) (hpre : pre.length ≤ (n + p - 1) / p) :
    (headB ++ fblocks (pre.map (fun k => ckE es p k.1))).length ≤ 10000000 ∧ (fones (pre.map (fun k => ckE es p k.1))).length ≤ 10000000 ∧ 0 < (headB ++ fblocks (pre.map (fun k => ckE es p k.1))).length ∧ pre.length ≤ 20000 := by
  have hokb : ∀ c ∈ pre.map (fun k => ckE es p k.1), OkB c := by
    intro c hc
    obtain ⟨x, _, rfl⟩ := List.mem_map.1 hc
    exact ck_ok hn hp1 x.2 hok hv
  have h1 : pre.length * p ≤ n + p - 1 := (Nat.le_div_iff_mul_le hp1).1 hpre
  have h2 := ck_flat (es := es) pre
  have h3 : pre.length ≤ pre.length * p := Nat.le_mul_of_pos_right _ hp1
  have h4 := fblocks_len _ hokb
  rw [List.length_map] at h4
  have h5 : (fones (pre.map (fun k => ckE es p k.1))).length ≤ 100 * pre.length := by
    have h6 : ∀ (l : List (List Ent)), (∀ c ∈ l, OkB c) → (∀ c ∈ l, c.length ≤ 10000) → (fones l).length ≤ 100 * l.length := by
      intro l
      induction l with
      | nil => intro _ _; simp [fones]
      | cons c l ih =>
        intro h k
        have q1 := fone_len (h c (by simp)) (k c (by simp))
        have q2 := ih (fun x hx => h x (by simp [hx])) (fun x hx => k x (by simp [hx]))
        simp only [fones, List.flatMap_cons, List.length_append, List.length_cons] at q2 ⊢
        omega
    have h7 := h6 _ hokb (by
      intro c hc
      obtain ⟨x, _, rfl⟩ := List.mem_map.1 hc
      rw [ckE_len]; omega)
    rw [List.length_map] at h7
    exact h7
  have h8 : headB.length = 4 := rfl
  rw [List.length_append, h8]
  refine ⟨by omega, by omega, by omega, by omega⟩
theorem en_init {w W3 : World} {T : Nat} (hb : Below w.heap.size w W3) (hT : TabAt W3 T 0) (hwT : w.heap.size ≤ T) (hz : W3.heap.size = T + 1) :
    EnS w w (fun _ => True) T (T + 1 + 1) (T + 1 + 1 + 1 + 1) (T + 1 + 1 + 1 + 1 + 1) (headB ++ fblocks []) (fones []) 0 4 (T + 1) 4 0 (T + 1 + 1 + 1) 0 (((((W3.alloc (Obj.cells #[.int .u8 82, .int .u8 85, .int .u8 78, .int .u8 49] 5 (4, 5))).alloc (Obj.cells #[.slice (some ⟨T + 1, 0, none⟩) 4 4] 22)).alloc (Obj.cells #[] 5)).alloc (Obj.cells #[.slice (some ⟨T + 1 + 1 + 1, 0, none⟩) 0 0] 22)).alloc (Obj.cells #[.int .u64 0] 43)) := by
  obtain ⟨A1, hA1⟩ : ∃ A : World, A = W3.alloc (Obj.cells #[.int .u8 82, .int .u8 85, .int .u8 78, .int .u8 49] 5 (4, 5)) := ⟨_, rfl⟩
  have z1 : A1.heap.size = T + 1 + 1 := by rw [hA1]; simp; omega
  have b1 : Below W3.heap.size W3 A1 := by rw [hA1]; exact (Below.refl _ _).alloc (Nat.le_refl _) _
  rw [← hA1]
  obtain ⟨A2, hA2⟩ : ∃ A : World, A = A1.alloc (Obj.cells #[.slice (some ⟨T + 1, 0, none⟩) 4 4] 22) := ⟨_, rfl⟩
  have z2 : A2.heap.size = T + 1 + 1 + 1 := by rw [hA2]; simp; omega
  have b2 : Below A1.heap.size A1 A2 := by rw [hA2]; exact (Below.refl _ _).alloc (Nat.le_refl _) _
  rw [← hA2]
  obtain ⟨A3, hA3⟩ : ∃ A : World, A = A2.alloc (Obj.cells #[] 5) := ⟨_, rfl⟩
  have z3 : A3.heap.size = T + 1 + 1 + 1 + 1 := by rw [hA3]; simp; omega
  have b3 : Below A2.heap.size A2 A3 := by rw [hA3]; exact (Below.refl _ _).alloc (Nat.le_refl _) _
  rw [← hA3]
  obtain ⟨A4, hA4⟩ : ∃ A : World, A = A3.alloc (Obj.cells #[.slice (some ⟨T + 1 + 1 + 1, 0, none⟩) 0 0] 22) := ⟨_, rfl⟩
  have z4 : A4.heap.size = T + 1 + 1 + 1 + 1 + 1 := by rw [hA4]; simp; omega
  have b4 : Below A3.heap.size A3 A4 := by rw [hA4]; exact (Below.refl _ _).alloc (Nat.le_refl _) _
  rw [← hA4]
  obtain ⟨A5, hA5⟩ : ∃ A : World, A = A4.alloc (Obj.cells #[.int .u64 0] 43) := ⟨_, rfl⟩
  have b5 : Below A4.heap.size A4 A5 := by rw [hA5]; exact (Below.refl _ _).alloc (Nat.le_refl _) _
  have z5 : A5.heap.size = T + 1 + 1 + 1 + 1 + 1 + 1 := by rw [hA5]; simp; omega
  rw [← hA5]
  have hrow : BysAt A1 (T + 1) 0 headB := by
    intro i x hx
    rw [hA1]
    unfold headB at hx
    have ht : T + 1 = W3.heap.size := hz.symm
    rw [ht]
    rcases i with _ | _ | _ | _ | i
    · simp at hx; subst hx; simp [World.cell?_alloc_mark]
    · simp at hx; subst hx; simp [World.cell?_alloc_mark]
    · simp at hx; subst hx; simp [World.cell?_alloc_mark]
    · simp at hx; subst hx; simp [World.cell?_alloc_mark]
    · simp at hx
  have hbox6 : BoxAt A2 w.heap.size 22 1 (T + 1 + 1) [.slice (some ⟨T + 1, 0, none⟩) 4 4] := by rw [hA2, ← z1]; exact boxAt_new A1 _ (by omega) rfl
  have hmr : OwnY A3 w.heap.size (T + 1 + 1 + 1) 0 [] := by rw [hA3, ← z2]; exact ownY_new A2 (by omega)
  have hbox7 : BoxAt A4 w.heap.size 22 1 (T + 1 + 1 + 1 + 1) [.slice (some ⟨T + 1 + 1 + 1, 0, none⟩) 0 0] := by rw [hA4, ← z3]; exact boxAt_new A3 _ (by omega) rfl
  have hbox8 : BoxAt A5 w.heap.size 43 1 (T + 1 + 1 + 1 + 1 + 1) [.int .u64 0] := by rw [hA5, ← z4]; exact boxAt_new A4 _ (by omega) rfl
  have b15 : Below A1.heap.size A1 A5 := ((b2.trans (b3.mono (by omega))).trans (b4.mono (by omega))).trans (b5.mono (by omega))
  have b35 : Below W3.heap.size W3 A5 := b1.trans (b15.mono (by omega))
  have hB5 : Below w.heap.size w A5 := hb.trans (b35.mono (by omega))
  have e1 : headB ++ fblocks [] = headB := by simp [fblocks]
  have e2 : fones [] = [] := by simp [fones]
  rw [e1, e2]
  refine ⟨((hbox6.below b3).below b4).below b5, rfl, .inr ⟨by omega, by omega, ?_, rfl⟩, hbox7.below b5, rfl, (hmr.below b4).below b5, hbox8, hT.below b35 (by omega), ⟨hwT, by omega⟩, ⟨by omega, by omega, by omega, by omega, by omega, by omega⟩, ⟨by omega, by omega, by omega, by omega, by omega⟩, ⟨by omega, by omega, by omega, by omega⟩, hB5, chg_true hB5, ⟨trivial, trivial, trivial, .inl trivial, .inl trivial⟩⟩
  exact hrow.chg (Chg.of_below b15) (S := fun _ => False) (by omega) (fun q => q)
end Go.Proofs.YtlgeffinhbodeaeGreatDoor

/-
  append to bytes, within a fence.
-/
namespace Go.Proofs.YtlgeffinhbodeaeGreatDoor
open Go.ChangeShapes Go.WideShapes Go.ChangeAt Go.RowKit Go.Deep
set_option linter.unusedVariables false
set_option linter.unusedSimpArgs false
set_option maxRecDepth 100000

theorem run_append_out (w : World) (ty : TypeId) (base g cp n b off m cx : Nat) (l k : List UInt8) (hn : n = l.length) (hm : m = k.length) (hO : OutB w base g cp l)
    (hc : BysAt w b off k) (hk : 0 < k.length) (hlen : l.length + k.length ≤ 2 ^ 30) (hbase : base ≤ w.heap.size) :
    ∃ g' cp' w', (Builtin.append_ #[22, 22] ty #[.slice (some ⟨g, 0, none⟩) n cp, .slice (some ⟨b, off, none⟩) m cx]).run Tryz.prog w = .ok (.slice (some ⟨g', 0, none⟩) (n + m) cp') w' ∧ OwnY w' base g' cp' (l ++ k) ∧ w.grownBy w' (some g) ∧ (g' = g ∨ w.heap.size ≤ g') := by
  subst hn hm
  obtain ⟨i, hi, hz0, hz1, hz2⟩ := info_parts Tryz.infoByte
  have hnews : ∀ (j : Nat) u, (k.map ub)[j]? = some u → w.cell? ((⟨b, off, none⟩ : Addr).add j) = some u := by
    intro j u hu
    rw [List.getElem?_map] at hu
    cases hk : k[j]? with
    | none => rw [hk] at hu; cases hu
    | some r =>
      rw [hk] at hu
      simp at hu
      rw [Addr.add_mid, hc j r hk, ← hu]
  rcases hO with hO | ⟨h1, h2, h3, h4⟩
  · obtain ⟨v', w', hr, hO', hgr, hnil, hat⟩ := run_append_own_at (P := Tryz.prog) w base 22 ty 5 i _ 1 1 Tryz.underlying22 hi hz0 hz1 hz2 rfl (by decide) (.slice (some ⟨g, 0, none⟩) l.length cp) l.length (l.map ub) hO ⟨b, off, none⟩ k.length cx (k.map ub) (by simp) hnews (ub_one k) (by unfold maxLen; omega) (by omega) hbase
    rcases hO'.2 with ⟨h0, hz⟩ | ⟨g', cap', cur, hv, hb', _, hn, hcap, _, _⟩
    · omega
    · subst hv
      refine ⟨g', cap', w', hr, ?_, hgr, ?_⟩
      · unfold OwnY
        rw [List.length_append, List.map_append]
        exact hO'
      · simp [Value.ownBlock] at hat
        rcases hat with q | q
        · exact .inl q
        · exact .inr (Nat.le_of_eq q.symm)
  · obtain ⟨v', w', hr, hO', hgr⟩ := run_append_arg_grows (P := Tryz.prog) w 22 ty 5 i _ 1 1 Tryz.underlying22 hi hz0 hz1 hz2 rfl (by decide) ⟨g, 0, none⟩ l.length cp (l.map ub) (by simp) (by
        intro j u hu
        rw [List.getElem?_map] at hu
        cases hk : l[j]? with
        | none => rw [hk] at hu; cases hu
        | some r =>
          rw [hk] at hu
          simp at hu
          rw [Addr.add_mid, h3 j r hk, ← hu]) ⟨b, off, none⟩ k.length cx (k.map ub) (by simp) hnews (by omega) (by unfold maxLen; omega) (by omega)
    rcases hO'.2 with ⟨h0, hz⟩ | ⟨g', cap', cur, hv, hb', _, hn, hcap, _, _⟩
    · omega
    · subst hv
      refine ⟨g', cap', w', hr, ?_, ⟨hgr.os, hgr.tape, hgr.output, hgr.size, fun k hk _ => hgr.block k hk (fun q => by cases q)⟩, .inr hb'⟩
      refine OwnY.mono (base := w.heap.size) ?_ hbase
      unfold OwnY
      rw [List.length_append, List.map_append]
      exact hO'
theorem wpListIn_append_out {F : Fence} {nF : Nat} {ops : Array Oper} {rest : List Oper} {o : Oper} {a : Act} {Q : Exit → Act → World → Prop} (w : World) (hgd : o.guard = none) (s x : Operand)
    (ho : o.op = .call { callee := .builtin .append, args := #[s, x], argTypes := #[22, 22] })
    (base g cp n b off m cx : Nat) (l k : List UInt8) (hs : a.eval s = .slice (some ⟨g, 0, none⟩) n cp) (hx : a.eval x = .slice (some ⟨b, off, none⟩) m cx) (hn : n = l.length) (hm : m = k.length) (hO : OutB w base g cp l)
    (hc : BysAt w b off k) (hk : 0 < k.length) (hlen : l.length + k.length ≤ 2 ^ 30) (hbase : base ≤ w.heap.size)
    (h : ∀ g' cp' w', OwnY w' base g' cp' (l ++ k) → w.grownBy w' (some g) → (g' = g ∨ w.heap.size ≤ g') → wpListIn F nF Tryz.prog ops Q rest (a.put o.dst (.slice (some ⟨g', 0, none⟩) (n + m) cp')) w') : wpListIn F nF Tryz.prog ops Q (o :: rest) a w := by
  refine wpListIn_plain hgd fun K hK => ?_
  obtain ⟨g', cp', w', hr, h2, h3, h4⟩ := run_append_out w o.type base g cp n b off m cx l k hn hm hO hc hk hlen hbase
  unfold Oper.wpIn
  refine ⟨by simp [Oper.about, ho, resolve, Target.leads, Sem.run_pure], ?_⟩
  rw [Oper.semAt_plain F _ _ (by rw [ho]; intro c hc'; cases hc')]
  simp [execOp, ho, resolve, invoke, builtin, hs, hx, hr, Result.andThen]
  exact hK _ _ (h g' cp' w' h2 h3 h4)
end Go.Proofs.YtlgeffinhbodeaeGreatDoor

/-
  append to bytes of the call's own, at a step of a region that draws.
-/
namespace Go.Proofs.YtlgeffinhbodeaeGreatDoor
open Go.ChangeShapes Go.WideShapes Go.ChangeAt Go.RowKit Go.Deep
set_option linter.unusedVariables false
set_option linter.unusedSimpArgs false
set_option maxRecDepth 100000

theorem step_append_y {ops : Array Oper} {oo : Oper} {a : Act} {K : Act → World → Prop} {Q : Exit → Act → World → Prop} {E : Prop} (w : World) (hgd : oo.guard = none) (s x : Operand)
    (ho : oo.op = .call { callee := .builtin .append, args := #[s, x], argTypes := #[22, 22] })
    (base g cp n b off m cx : Nat) (l k : List UInt8) (hs : a.eval s = .slice (some ⟨g, 0, none⟩) n cp) (hx : a.eval x = .slice (some ⟨b, off, none⟩) m cx) (hn : n = l.length) (hm : m = k.length) (hO : OwnY w base g cp l)
    (hc : BysAt w b off k) (hl : 0 < l.length) (hlen : l.length + k.length ≤ 2 ^ 30) (hbase : base ≤ w.heap.size)
    (h : ∀ g' cp' w', OwnY w' base g' cp' (l ++ k) → w.grownBy w' (some g) → (g' = g ∨ w.heap.size ≤ g') → K (a.put oo.dst (.slice (some ⟨g', 0, none⟩) (n + m) cp')) w') : if Region.wanted oo (yielded ops a.tmps) = true then Oper.wp Tryz.prog oo a w K Q else E := by
  have hw : Region.wanted oo (yielded ops a.tmps) = true := by simp [Region.wanted, hgd]
  rw [if_pos hw]
  subst hn hm
  obtain ⟨i, hi, hz0, hz1, hz2⟩ := info_parts Tryz.infoByte
  have hnews : ∀ (j : Nat) u, (k.map ub)[j]? = some u → w.cell? ((⟨b, off, none⟩ : Addr).add j) = some u := by
    intro j u hu
    rw [List.getElem?_map] at hu
    cases hk : k[j]? with
    | none => rw [hk] at hu; cases hu
    | some r =>
      rw [hk] at hu
      simp at hu
      rw [Addr.add_mid, hc j r hk, ← hu]
  obtain ⟨v', w', hr, hO', hgr, hnil, hat⟩ := run_append_own_at (P := Tryz.prog) w base 22 oo.type 5 i _ 1 1 Tryz.underlying22 hi hz0 hz1 hz2 rfl (by decide) (.slice (some ⟨g, 0, none⟩) l.length cp) l.length (l.map ub) hO ⟨b, off, none⟩ k.length cx (k.map ub) (by simp) hnews (ub_one k) (by unfold maxLen; omega) (by omega) hbase
  rcases hO'.2 with ⟨h0, hz⟩ | ⟨g', cap', cur, hv, hb', _, hn, hcap, _, _⟩
  · omega
  · subst hv
    have hfin := h g' cap' w' (by unfold OwnY; rw [List.length_append, List.map_append]; exact hO') hgr (by
      simp [Value.ownBlock] at hat
      rcases hat with q | q
      · exact .inl q
      · exact .inr (Nat.le_of_eq q.symm))
    unfold Oper.wp
    simp [execOp, ho, resolve, invoke, builtin, hs, hx, hr, Result.andThen]
    exact hfin
theorem en_last {w Wst : World} {SS : Nat → Prop} {T B6 B7 B8 : Nat} {F M : List UInt8} {c mf gf cpf mm gm cpm : Nat} {W : World} (h : EnS w Wst SS T B6 B7 B8 F M c mf gf cpf mm gm cpm W) (hO0 : OwnY W w.heap.size gf cpf F) (x : Nat) (hx : x < 2 ^ 32) (hl : mf ≤ 2 ^ 27) :
    Calls Tryz.prog 45 #[.slice (some ⟨gf, 0, none⟩) mf cpf, .int .u32 (x : Int)] W fun e w' => ∃ g cp m, e = .returned (.slice (some ⟨g, 0, none⟩) m cp) ∧ Hid (m = (F ++ fixed x).length ∧ OwnY w' w.heap.size g cp (F ++ fixed x) ∧ Below w.heap.size w w' ∧ Chg SS Wst w') := by
  have hm := h.mfl
  have hr := OwnS.of hO0
  rw [← hm] at hr
  refine (appendFixed_core w.heap.size _ F x W hr hx (by omega) h.below.size).mono ?_
  rintro e w' ⟨g, cp, rfl, hO, hC, hat⟩
  have hC2 := own_block (S := fun _ => False) hC
  exact ⟨g, cp, _, rfl, rfl, hO, Chg.below h.below hC2 h.below.size (fun k q => by subst q; exact hO0.lt.1), h.ch.takeIn hC2 (fun k q => by subst q; exact h.ss.2.2.2.1)⟩
end Go.Proofs.YtlgeffinhbodeaeGreatDoor

