/-
  spec.l2File.
-/
import Derived.Test.YtlgeffinhbodeacQBodyS
import Derived.Test.YtlgeffinhbodeacPkB
import Derived.Test.YtlgeffinhbodeacQRms
import Derived.ArgAppend
import Derived.Lib.SlBytesConst
namespace Go.Proofs.Ytlgeffinhbodeac
open Go.ChangeShapes Go.WideShapes Go.ChangeAt Go.RowKit Go.Deep
set_option linter.unusedVariables false
set_option linter.unusedSimpArgs false
set_option maxRecDepth 100000

/-- Bytes that are written on: a row of the call's own, or a row that is full. -/
def OutB (w : World) (base g cp : Nat) (xs : List UInt8) : Prop := OwnY w base g cp xs ∨ (base ≤ g ∧ g < w.heap.size ∧ BysAt w g 0 xs ∧ cp = xs.length)
theorem OutB.lt {w : World} {base g cp : Nat} {xs : List UInt8} (h : OutB w base g cp xs) : base ≤ g ∧ g < w.heap.size := by
  rcases h with h | h
  · exact h.lt
  · exact ⟨h.1, h.2.1⟩
theorem BysAt.chg {S : Nat → Prop} {w w' : World} {b off : Nat} {xs : List UInt8} (h : BysAt w b off xs) (hc : Chg S w w') (hlt : b < w.heap.size) (hn : ¬ S b) : BysAt w' b off xs := by
  intro i x hx
  rw [World.cell?_of_block (w := w) (a := ⟨b, off + i, none⟩) (hc.block b hlt hn)]
  exact h i x hx
theorem OutB.chg {S : Nat → Prop} {w w' : World} {base g cp : Nat} {xs : List UInt8} (h : OutB w base g cp xs) (hc : Chg S w w') (hn : ¬ S g) : OutB w' base g cp xs := by
  rcases h with h | ⟨h1, h2, h3, h4⟩
  · exact .inl (h.chg hc hn)
  · exact .inr ⟨h1, by have := hc.size; omega, h3.chg hc h2 hn, h4⟩
theorem OutB.at {w : World} {base g cp : Nat} {xs : List UInt8} (h : OutB w base g cp xs) : BysAt w g 0 xs := by
  rcases h with h | h
  · exact h.at
  · exact h.2.2.1
theorem wpList_append_out {ops : Array Oper} {rest : List Oper} {o : Oper} {a : Act} {Q : Exit → Act → World → Prop} (w : World) (hgd : o.guard = none) (s x : Operand)
    (ho : o.op = .call { callee := .builtin .append, args := #[s, x], argTypes := #[47, 47] })
    (base g cp n b off m cx : Nat) (l k : List UInt8) (hs : a.eval s = .slice (some ⟨g, 0, none⟩) n cp) (hx : a.eval x = .slice (some ⟨b, off, none⟩) m cx) (hn : n = l.length) (hm : m = k.length) (hO : OutB w base g cp l)
    (hc : BysAt w b off k) (hk : 0 < k.length) (hlen : l.length + k.length ≤ 2 ^ 30) (hbase : base ≤ w.heap.size)
    (h : ∀ g' cp' w', OwnY w' base g' cp' (l ++ k) → w.grownBy w' (some g) → (g' = g ∨ w.heap.size ≤ g') → wpList Try.prog ops Q rest (a.put o.dst (.slice (some ⟨g', 0, none⟩) (n + m) cp')) w') : wpList Try.prog ops Q (o :: rest) a w := by
  rcases hO with hO | ⟨h1, h2, h3, h4⟩
  · exact wpList_append_bys w hgd s x ho base g cp n b off m cx l k hs hx hn hm hO hc hlen hbase (fun g' cp' w' q1 q2 q3 => h g' cp' w' q1 q2 (by rcases q3 with q | q; exact .inl q; exact .inr (Nat.le_of_eq q.symm)))
  · subst hn hm
    obtain ⟨i, hi, hz0, hz1, hz2⟩ := info_parts Try.infoByte
    refine wpList_append_grows w hgd s x 47 ho 5 i _ 1 1 Try.underlying47 hi hz0 hz1 hz2 rfl (by decide) (some ⟨g, 0, none⟩) l.length cp (l.map ub) hs (fun q => by cases q) (by simp) ?_ ⟨b, off, none⟩ k.length cx (k.map ub) hx (by simp) ?_ (ub_one k) (by omega) (by unfold maxLen; omega) (by omega) ?_
    · intro b' hb' j u hu
      cases hb'
      rw [List.getElem?_map] at hu
      cases hk : l[j]? with
      | none => rw [hk] at hu; cases hu
      | some r =>
        rw [hk] at hu
        simp at hu
        rw [Addr.add_mid, h3 j r hk, ← hu]
    · intro j u hu
      rw [List.getElem?_map] at hu
      cases hk : k[j]? with
      | none => rw [hk] at hu; cases hu
      | some r =>
        rw [hk] at hu
        simp at hu
        rw [Addr.add_mid, hc j r hk, ← hu]
    · intro v' w' hO' hgr
      rcases hO'.2 with ⟨h0, hz⟩ | ⟨g', cap', cur, hv, hb', _, hn, hcap, _, _⟩
      · omega
      · subst hv
        refine h g' cap' w' ?_ ⟨hgr.os, hgr.tape, hgr.output, hgr.size, fun k hk _ => hgr.block k hk (fun q => by cases q)⟩ (.inr hb')
        refine OwnY.mono (base := w.heap.size) ?_ hbase
        unfold OwnY
        rw [List.length_append, List.map_append]
        exact hO'
/-- The file and its index being written. -/
structure FS (w0 : World) (g cp : Nat) (X : List UInt8) (gi ci : Nat) (Y : List UInt8) (wr : World) : Prop where
  out : OutB wr w0.heap.size g cp X
  idx : OwnY wr w0.heap.size gi ci Y
  ne : ¬ g = gi
  below : Below w0.heap.size w0 wr
theorem FS.call {w0 : World} {g cp : Nat} {X : List UInt8} {gi ci : Nat} {Y : List UInt8} {wr w1 : World} (h : FS w0 g cp X gi ci Y wr) (hb : Below wr.heap.size wr w1) : FS w0 g cp X gi ci Y w1 :=
  ⟨h.out.chg (Chg.of_below hb) (S := fun _ => False) (fun q => q), h.idx.below hb, h.ne, h.below.trans (hb.mono h.below.size)⟩
theorem FS.appO {w0 : World} {g cp : Nat} {X : List UInt8} {gi ci : Nat} {Y : List UInt8} {wr w1 : World} {g' cp' : Nat} {X' : List UInt8} (h : FS w0 g cp X gi ci Y wr) (hO : OwnY w1 w0.heap.size g' cp' X') (hgr : wr.grownBy w1 (some g)) (hat : g' = g ∨ wr.heap.size ≤ g') : FS w0 g' cp' X' gi ci Y w1 := by
  have hi := h.idx.lt
  have hn := h.ne
  exact ⟨.inl hO, h.idx.chg (Chg.of_grown hgr (S := fun k => k = g) (fun k hk => by cases hk; rfl)) (fun q => hn q.symm), by omega, h.below.grown hgr h.below.size (fun k hk => by cases hk; exact h.out.lt.1)⟩
theorem FS.appI {w0 : World} {g cp : Nat} {X : List UInt8} {gi ci : Nat} {Y : List UInt8} {wr w1 : World} {g' cp' : Nat} {Y' : List UInt8} (h : FS w0 g cp X gi ci Y wr) (hO : OwnY w1 w0.heap.size g' cp' Y') (hgr : wr.grownBy w1 (some gi)) (hat : g' = gi ∨ g' = wr.heap.size) : FS w0 g cp X g' cp' Y' w1 := by
  have hi := h.out.lt
  have hn := h.ne
  exact ⟨h.out.chg (Chg.of_grown hgr (S := fun k => k = gi) (fun k hk => by cases hk; rfl)) hn, hO, by omega, h.below.grown hgr h.below.size (fun k hk => by cases hk; exact h.idx.lt.1)⟩

set_option maxHeartbeats 8000000 in
theorem l2File_core (b off cap : Nat) (l : List Rm) (w : World) (hR : RmsAt w b off l) (hok : ∀ es ∈ esM l, OkB es) (hB : b < w.heap.size) (hlen : (esM l).flatten.length ≤ 10000) :
    Calls Try.prog 55 #[.slice (some ⟨b, off, none⟩) l.length cap] w fun r w' =>
      ∃ (g cp : Nat), r = .returned (.slice (some ⟨g, 0, none⟩) (fileM (esM l)).length cp) ∧ OwnY w' w.heap.size g cp (fileM (esM l)) ∧ Below w.heap.size w w' := by
  have kc := fun (w : World) (C : Array Value) (n c : Nat) => Lib.run_convert_bytes_const (P := Try.prog) w 47 5 C n c Try.underlying47 Try.underlying5
  have HR : Hid (RmsAt w b off l ∧ (∀ es ∈ esM l, OkB es)) := ⟨hR, hok⟩
  have hll : l.length ≤ 10000 := by have := blocks_many (esM l) hok; simp only [List.length_map] at this; omega
  have HLn : Hid ((esM l).flatten.length ≤ 10000) := hlen
  clear hR hok hlen
  go_enter Try.func55, Try.ntmps55
  obtain ⟨W1, hW1⟩ : ∃ W1 : World, W1 = w.alloc (Obj.cells #[.int .u8 82, .int .u8 85, .int .u8 78, .int .u8 49] 5 (4, 5)) := ⟨_, rfl⟩
  have hb1 : Below w.heap.size w W1 := by rw [hW1]; exact (Below.refl _ _).alloc (Nat.le_refl _) _
  have z1 : W1.heap.size = w.heap.size + 1 := by rw [hW1]; simp
  have HO1 : Hid (OutB W1 w.heap.size w.heap.size 4 headB) := by
    refine .inr ⟨Nat.le_refl _, by omega, ?_, rfl⟩
    intro i x hx
    rw [hW1]
    unfold headB at hx
    rcases i with _ | _ | _ | _ | i
    · simp at hx; subst hx; simp [World.cell?_alloc_mark]
    · simp at hx; subst hx; simp [World.cell?_alloc_mark]
    · simp at hx; subst hx; simp [World.cell?_alloc_mark]
    · simp at hx; subst hx; simp [World.cell?_alloc_mark]
    · simp at hx
  go_wp2_with fail
  rw [← hW1]
  clear hW1 kc
  refine (l2Num_all l.length W1 (by omega)).mono ?_
  rintro e w2 ⟨gi, ci, rfl, hOi, hb2⟩
  have hgi := hOi.lt
  have HF2 : Hid (FS w w.heap.size 4 headB gi ci (num l.length) w2) := ⟨HO1.out.chg (Chg.of_below hb2) (S := fun _ => False) (fun q => q), hOi.mono (by omega), by omega, hb1.trans (hb2.mono (by omega))⟩
  clear hOi hb2 HO1 hb1
  go_upto_region 4 with fail
  go_loopw [3, 4, 5] (fun o x i wr => ∃ (k g cp gi ci : Nat) (X Y : List UInt8), k ≤ l.length ∧ i = .int .i64 k ∧ o = .slice (some ⟨g, 0, none⟩) X.length cp ∧ x = .slice (some ⟨gi, 0, none⟩) Y.length ci ∧ X = headB ++ fblocks ((esM l).take k) ∧ Y = num l.length ++ fones ((esM l).take k) ∧ FS w g cp X gi ci Y wr) (fun _ _ i _ => l.length - (intOf i).toNat)
  case atStart => exact ⟨0, _, 4, _, _, headB, num l.length, Nat.zero_le _, rfl, rfl, rfl, by simp [fblocks], by simp [fones], HF2.out⟩
  case round =>
    clear HF2 hgi
    obtain ⟨k, g, cp, gi, ci, X, Y, hk, rfl, rfl, rfl, hX, hY, hF⟩ := hrel
    have HXY : Hid (X = headB ++ fblocks ((esM l).take k) ∧ Y = num l.length ++ fones ((esM l).take k)) := ⟨hX, hY⟩
    have hokt : ∀ es ∈ (esM l).take k, OkB es := fun es he => HR.out.2 es (List.mem_of_mem_take he)
    have hft := flatten_take (esM l) k
    have hxl : X.length ≤ 4 + 5040000 := by
      rw [hX, List.length_append]
      have h1 := fblocks_len ((esM l).take k) hokt
      have h2 : headB.length = 4 := rfl
      have h3 : ((esM l).take k).length ≤ 10000 := by simp; omega
      have := HLn.out
      omega
    have hyl : Y.length ≤ 1000010 := by
      rw [hY, List.length_append]
      have h1 := fones_len ((esM l).take k) hokt (by have := HLn.out; omega)
      have h2 := num_len64 (n := l.length) (by omega)
      have h3 : ((esM l).take k).length ≤ 10000 := by simp; omega
      omega
    have HF : Hid (FS w g cp X gi ci Y wr) := hF
    have hbr := hF.below
    have sr := hbr.size
    clear hX hY hF hokt hft
    by_cases hlt : k < l.length
    · obtain ⟨r, hr⟩ : ∃ r, l[k]? = some r := ⟨_, List.getElem?_eq_getElem hlt⟩
      have hrm := List.mem_of_getElem? hr
      obtain ⟨rb, ro, rc, es⟩ := r
      obtain ⟨hcl, hrat⟩ := HR.out.1 k _ hr
      have hes : es ∈ esM l := List.mem_map.2 ⟨_, hrm, rfl⟩
      have hOk : OkB es := HR.out.2 es hes
      have hml := flatten_mem hes
      have hrl : rb < w.heap.size := hrat.lt
      have HEs : Hid (EntsAt w rb ro es ∧ OkB es ∧ es.length ≤ 10000) := ⟨hrat.ents, hOk, Nat.le_trans hml HLn.out⟩
      have HCl : Hid (w.cell? ⟨b, off + k, none⟩ = some (.slice (some ⟨rb, ro, none⟩) es.length rc)) := hcl
      have HTk : Hid ((esM l).take (k + 1) = (esM l).take k ++ [es]) := by rw [List.take_add_one, List.getElem?_map, hr]; rfl
      obtain ⟨e0, he0⟩ : ∃ e0, es[0]? = some e0 := ⟨_, List.getElem?_eq_getElem hOk.ne⟩
      have HE0 : Hid (w.cell? ⟨rb, ro, none⟩ = some (.string e0.row) ∧ row0 es = bl e0.row ∧ e0.row.size ≤ 64) := by
        refine ⟨?_, ?_, (vld_parts (hOk.vld e0 (List.mem_of_getElem? he0))).2.1⟩
        · have := (hrat.ents 0 e0 he0).1
          simpa using this
        · cases es with
          | nil => simp at he0
          | cons x t => simp at he0; subst he0; rfl
      obtain ⟨m, hm⟩ : ∃ m, es.length = m := ⟨_, rfl⟩
      have hm1 : 0 < m ∧ m ≤ 10000 := by rw [← hm]; exact ⟨hOk.ne, HEs.out.2.2⟩
      rw [hm] at HCl
      have HMe : Hid (es.length = m) := hm
      clear hr hrm hcl hrat hes hOk hml he0 hm
      have q : wr.cell? ⟨b, off + k, none⟩ = some (.slice (some ⟨rb, ro, none⟩) m rc) := by rw [hbr.cell (p := ⟨b, off + k, none⟩) hB]; exact HCl.out
      go_wp2_with fail
      clear q
      have hq := l2Body_core rb ro rc es wr (HEs.out.1.below hbr hrl) HEs.out.2.1.ok HEs.out.2.1.vld (by omega) HEs.out.2.2
      rw [HMe.out] at hq
      refine hq.mono ?_
      rintro e v1 ⟨gb, cb, rfl, hO1, hc1⟩
      obtain ⟨B, hBd⟩ : ∃ B, B = body [] es := ⟨_, rfl⟩
      have HBd : Hid (B = body [] es) := hBd
      have hB1 : 0 < B.length := by rw [hBd]; exact body_pos (by rw [HMe.out]; exact hm1.1)
      have hB2 : B.length ≤ 5000000 := by
        have := body_len es [] HEs.out.2.1.vld HEs.out.2.1.ts
        rw [HMe.out] at this
        rw [hBd]; omega
      rw [← hBd] at hO1 ⊢
      have hgb := hO1.lt
      have hgo := HF.out.out.lt
      have hgi := HF.out.idx.lt
      have HF1 : Hid (FS w g cp X gi ci Y v1 ∧ OwnY v1 wr.heap.size gb cb B) := ⟨HF.out.call hc1, hO1⟩
      have k1 := HF1.out.1.below.size
      clear hq hO1 hc1 hBd HF
      go_wp2_with (at_builtin; refine wpList_append_out _ rfl _ _ rfl w.heap.size g cp X.length gb 0 B.length cb X B rfl rfl rfl rfl ?hO ?hc ?hk ?hl ?hb ?_)
      case hO => exact HF1.out.1.out
      case hc => exact HF1.out.2.at
      case hk => exact hB1
      case hl => omega
      case hb => exact k1
      intro g2 cp2 v2 hO2 hgr2 hat2
      have HF2 : Hid (FS w g2 cp2 (X ++ B) gi ci Y v2 ∧ OwnY v2 wr.heap.size gb cb B) := ⟨HF1.out.1.appO hO2 hgr2 hat2, HF1.out.2.chg (Chg.of_grown hgr2 (S := fun k => k = g) (fun k hk => by cases hk; rfl)) (by show ¬ gb = g; omega)⟩
      rw [show X.length + B.length = (X ++ B).length from (List.length_append).symm]
      obtain ⟨X2, hX2⟩ : ∃ Z : List UInt8, Z = X ++ B := ⟨_, rfl⟩
      have HX2 : Hid (X2 = X ++ B) := hX2
      have hx2 : X2.length ≤ X.length + 5000000 := by rw [hX2, List.length_append]; omega
      rw [← hX2] at HF2 ⊢
      clear hO2 hgr2 hat2 hX2 HF1 k1
      go_wp2_with fail
      refine (specCrc_core gb 0 cb B v2 HF2.out.2.at (by unfold maxLen; omega)).mono ?_
      rintro e v3 ⟨rfl, rfl⟩
      go_wp2_with fail
      refine (l2Fixed_core (crc B).toNat v3 (crc B).isLt).mono ?_
      rintro e v4 ⟨gf, rfl, hO4, hc4⟩
      have HF4 : Hid (FS w g2 cp2 X2 gi ci Y v4 ∧ OwnY v4 v3.heap.size gf 4 (sumOf B)) := ⟨HF2.out.1.call hc4, hO4⟩
      have k4 := HF4.out.1.below.size
      clear hO4 hc4 HF2
      go_wp2_with (at_builtin; refine wpList_append_out _ rfl _ _ rfl w.heap.size g2 cp2 X2.length gf 0 4 4 X2 (sumOf B) rfl rfl rfl rfl ?hO ?hc ?hk ?hl ?hb ?_)
      case hO => exact HF4.out.1.out
      case hc => exact HF4.out.2.at
      case hk => rw [sumOf_len]; omega
      case hl => rw [sumOf_len]; omega
      case hb => exact k4
      intro g5 cp5 v5 hO5 hgr5 hat5
      have HF5 : Hid (FS w g5 cp5 (X2 ++ sumOf B) gi ci Y v5) := HF4.out.1.appO hO5 hgr5 hat5
      rw [show X2.length + 4 = (X2 ++ sumOf B).length by rw [List.length_append, sumOf_len]]
      obtain ⟨X5, hX5⟩ : ∃ Z : List UInt8, Z = X2 ++ sumOf B := ⟨_, rfl⟩
      have HX5 : Hid (X5 = X2 ++ sumOf B) := hX5
      rw [← hX5] at HF5 ⊢
      clear hO5 hgr5 hat5 hX5 HF4 k4
      obtain ⟨Y5, hY5⟩ : ∃ Z : List UInt8, Z = Y := ⟨_, rfl⟩
      have HY5 : Hid (Y5 = Y) := hY5
      have hy5 : Y5.length ≤ Y.length := by rw [hY5]; exact Nat.le_refl _
      rw [← hY5] at HF5 ⊢
      clear hY5
      obtain ⟨i5, hi5⟩ : ∃ x : Nat, x = gi := ⟨_, rfl⟩
      obtain ⟨c5, hc5⟩ : ∃ x : Nat, x = ci := ⟨_, rfl⟩
      rw [← hi5, ← hc5] at HF5 ⊢
      clear hi5 hc5
      -- index 5
      have bw5 := HF5.out.below
      go_wp2_with fail
      refine (l2Num_all B.length v5 (by omega)).mono ?_
      rintro r t5 ⟨p5, d5, rfl, hP5, hbp5⟩
      have HA5 : Hid (FS w g5 cp5 X5 i5 c5 Y5 t5 ∧ OwnY t5 v5.heap.size p5 d5 (num B.length)) := ⟨HF5.out.call hbp5, hP5⟩
      have hl5 : (num B.length).length ≤ 300 := Nat.le_trans (num_len64 (by omega)) (by omega)
      have sz5 := (HA5.out.1).below.size
      obtain ⟨P5, hPd5⟩ : ∃ P : List UInt8, P = num B.length := ⟨_, rfl⟩
      have HPd5 : Hid (P5 = num B.length) := hPd5
      rw [← hPd5] at HA5 hl5 ⊢
      clear hP5 hbp5 hPd5 HF5 bw5
      go_wp2_with (at_builtin; refine wpList_append_bys _ rfl _ _ rfl w.heap.size i5 c5 Y5.length p5 0 P5.length d5 Y5 P5 rfl rfl rfl rfl ?hO ?hc ?hl ?hb ?_)
      case hO => exact HA5.out.1.idx
      case hc => exact HA5.out.2.at
      case hl => omega
      case hb => exact sz5
      intro i6 c6 v6 hO6 hgr6 hat6
      have HF6 : Hid (FS w g5 cp5 X5 i6 c6 (Y5 ++ P5) v6) := HA5.out.1.appI hO6 hgr6 hat6
      rw [show Y5.length + P5.length = (Y5 ++ P5).length from (List.length_append).symm]
      obtain ⟨Y6, hY6⟩ : ∃ X : List UInt8, X = Y5 ++ P5 := ⟨_, rfl⟩
      have HY6 : Hid (Y6 = Y5 ++ P5) := hY6
      have hy6 : Y6.length ≤ Y5.length + 300 := by rw [hY6, List.length_append]; omega
      rw [← hY6] at HF6 ⊢
      clear hO6 hgr6 hat6 hY6 HA5 sz5
      -- index 6
      have bw6 := HF6.out.below
      have q : v6.cell? ⟨b, off + k, none⟩ = some (.slice (some ⟨rb, ro, none⟩) m rc) := by rw [bw6.cell (p := ⟨b, off + k, none⟩) hB]; exact HCl.out
      go_wp2_with fail
      clear q
      refine (l2Num_all m v6 (by omega)).mono ?_
      rintro r t6 ⟨p6, d6, rfl, hP6, hbp6⟩
      have HA6 : Hid (FS w g5 cp5 X5 i6 c6 Y6 t6 ∧ OwnY t6 v6.heap.size p6 d6 (num m)) := ⟨HF6.out.call hbp6, hP6⟩
      have hl6 : (num m).length ≤ 300 := Nat.le_trans (num_len64 (by omega)) (by omega)
      have sz6 := (HA6.out.1).below.size
      obtain ⟨P6, hPd6⟩ : ∃ P : List UInt8, P = num m := ⟨_, rfl⟩
      have HPd6 : Hid (P6 = num m) := hPd6
      rw [← hPd6] at HA6 hl6 ⊢
      clear hP6 hbp6 hPd6 HF6 bw6
      go_wp2_with (at_builtin; refine wpList_append_bys _ rfl _ _ rfl w.heap.size i6 c6 Y6.length p6 0 P6.length d6 Y6 P6 rfl rfl rfl rfl ?hO ?hc ?hl ?hb ?_)
      case hO => exact HA6.out.1.idx
      case hc => exact HA6.out.2.at
      case hl => omega
      case hb => exact sz6
      intro i7 c7 v7 hO7 hgr7 hat7
      have HF7 : Hid (FS w g5 cp5 X5 i7 c7 (Y6 ++ P6) v7) := HA6.out.1.appI hO7 hgr7 hat7
      rw [show Y6.length + P6.length = (Y6 ++ P6).length from (List.length_append).symm]
      obtain ⟨Y7, hY7⟩ : ∃ X : List UInt8, X = Y6 ++ P6 := ⟨_, rfl⟩
      have HY7 : Hid (Y7 = Y6 ++ P6) := hY7
      have hy7 : Y7.length ≤ Y6.length + 300 := by rw [hY7, List.length_append]; omega
      rw [← hY7] at HF7 ⊢
      clear hO7 hgr7 hat7 hY7 HA6 sz6
      -- index 7
      have bw7 := HF7.out.below
      have q : v7.cell? ⟨b, off + k, none⟩ = some (.slice (some ⟨rb, ro, none⟩) m rc) := by rw [bw7.cell (p := ⟨b, off + k, none⟩) hB]; exact HCl.out
      have q2 : v7.cell? ⟨rb, ro, none⟩ = some (.string e0.row) := by rw [bw7.cell (p := ⟨rb, ro, none⟩) hrl]; exact HE0.out.1
      have hm2 := hm1.1
      go_wp2_with fail
      clear q
      clear q2 hm2
      refine (l2Str_core e0.row v7 (by have := HE0.out.2.2; omega)).mono ?_
      rintro r t7 ⟨p7, d7, rfl, hP7, hbp7⟩
      have HA7 : Hid (FS w g5 cp5 X5 i7 c7 Y7 t7 ∧ OwnY t7 v7.heap.size p7 d7 (strB (bl e0.row))) := ⟨HF7.out.call hbp7, hP7⟩
      have hl7 : (strB (bl e0.row)).length ≤ 300 := by have := strB_len (s := bl e0.row) (by rw [bl_len]; have := HE0.out.2.2; omega); rw [bl_len] at this; have := HE0.out.2.2; omega
      have sz7 := (HA7.out.1).below.size
      obtain ⟨P7, hPd7⟩ : ∃ P : List UInt8, P = strB (bl e0.row) := ⟨_, rfl⟩
      have HPd7 : Hid (P7 = strB (bl e0.row)) := hPd7
      rw [← hPd7] at HA7 hl7 ⊢
      clear hP7 hbp7 hPd7 HF7 bw7
      go_wp2_with (at_builtin; refine wpList_append_bys _ rfl _ _ rfl w.heap.size i7 c7 Y7.length p7 0 P7.length d7 Y7 P7 rfl rfl rfl rfl ?hO ?hc ?hl ?hb ?_)
      case hO => exact HA7.out.1.idx
      case hc => exact HA7.out.2.at
      case hl => omega
      case hb => exact sz7
      intro i8 c8 v8 hO8 hgr8 hat8
      have HF8 : Hid (FS w g5 cp5 X5 i8 c8 (Y7 ++ P7) v8) := HA7.out.1.appI hO8 hgr8 hat8
      rw [show Y7.length + P7.length = (Y7 ++ P7).length from (List.length_append).symm]
      obtain ⟨Y8, hY8⟩ : ∃ X : List UInt8, X = Y7 ++ P7 := ⟨_, rfl⟩
      have HY8 : Hid (Y8 = Y7 ++ P7) := hY8
      have hy8 : Y8.length ≤ Y7.length + 300 := by rw [hY8, List.length_append]; omega
      rw [← hY8] at HF8 ⊢
      clear hO8 hgr8 hat8 hY8 HA7 sz7
      go_wp2_with fail
      go_roundw
      case rel =>
        refine ⟨k + 1, g5, cp5, i8, c8, X5, Y8, by omega, by go_num, rfl, rfl, ?_, ?_, HF8.out⟩
        · rw [HTk.out, fblocks_snoc, HX5.out, HX2.out, HXY.out.1, HBd.out]
          simp only [List.append_assoc]
        · rw [HTk.out, fones_snoc, HY8.out, HPd7.out, HY7.out, HPd6.out, HY6.out, HPd5.out, HY5.out, HXY.out.2, HBd.out, HE0.out.2.1, HMe.out]
          simp only [List.append_assoc]
      case measure => simp [intOf]; omega
    · obtain rfl : k = l.length := by omega
      have HXY2 : Hid (X = headB ++ fblocks (esM l) ∧ Y = findex (esM l)) := by
        obtain ⟨h1, h2⟩ := HXY.out
        rw [List.take_of_length_le (by simp)] at h1 h2
        exact ⟨h1, by rw [h2]; unfold findex; rw [List.length_map]⟩
      have hy0 : 0 < Y.length := by rw [HXY.out.2, List.length_append]; have := num_pos l.length; omega
      have k0 := HF.out.below.size
      have hne := HF.out.ne
      go_wp2_with (at_builtin; refine wpList_append_out _ rfl _ _ rfl w.heap.size g cp X.length gi 0 Y.length ci X Y rfl rfl rfl rfl ?hO ?hc ?hk ?hl ?hb ?_)
      case hO => exact HF.out.out
      case hc => exact HF.out.idx.at
      case hk => exact hy0
      case hl => omega
      case hb => exact k0
      intro g2 cp2 v2 hO2 hgr2 hat2
      have HF2 : Hid (FS w g2 cp2 (X ++ Y) gi ci Y v2) := HF.out.appO hO2 hgr2 hat2
      rw [show X.length + Y.length = (X ++ Y).length from (List.length_append).symm]
      obtain ⟨X2, hX2⟩ : ∃ Z : List UInt8, Z = X ++ Y := ⟨_, rfl⟩
      have HX2 : Hid (X2 = X ++ Y) := hX2
      have hx2 : X2.length ≤ X.length + 1000010 := by rw [hX2, List.length_append]; omega
      rw [← hX2] at HF2 ⊢
      clear hO2 hgr2 hat2 hX2 HF k0 hne
      go_wp2_with fail
      refine (specCrc_core gi 0 ci Y v2 HF2.out.idx.at (by unfold maxLen; omega)).mono ?_
      rintro e v3 ⟨rfl, rfl⟩
      go_wp2_with fail
      refine (l2Fixed_core (crc Y).toNat v3 (crc Y).isLt).mono ?_
      rintro e v4 ⟨gf, rfl, hO4, hc4⟩
      have HF4 : Hid (FS w g2 cp2 X2 gi ci Y v4 ∧ OwnY v4 v3.heap.size gf 4 (sumOf Y)) := ⟨HF2.out.call hc4, hO4⟩
      have k4 := HF4.out.1.below.size
      clear hO4 hc4 HF2
      go_wp2_with (at_builtin; refine wpList_append_out _ rfl _ _ rfl w.heap.size g2 cp2 X2.length gf 0 4 4 X2 (sumOf Y) rfl rfl rfl rfl ?hO ?hc ?hk ?hl ?hb ?_)
      case hO => exact HF4.out.1.out
      case hc => exact HF4.out.2.at
      case hk => rw [sumOf_len]; omega
      case hl => rw [sumOf_len]; omega
      case hb => exact k4
      intro g5 cp5 v5 hO5 hgr5 hat5
      have HF5 : Hid (FS w g5 cp5 (X2 ++ sumOf Y) gi ci Y v5) := HF4.out.1.appO hO5 hgr5 hat5
      rw [show X2.length + 4 = (X2 ++ sumOf Y).length by rw [List.length_append, sumOf_len]]
      obtain ⟨X5, hX5⟩ : ∃ Z : List UInt8, Z = X2 ++ sumOf Y := ⟨_, rfl⟩
      have HX5 : Hid (X5 = X2 ++ sumOf Y) := hX5
      have hx5 : X5.length = X2.length + 4 := by rw [hX5, List.length_append, sumOf_len]
      have hx6 : X5.length ≤ X2.length + 4 := Nat.le_of_eq hx5
      rw [← hX5] at HF5 ⊢
      clear hO5 hgr5 hat5 hX5 HF4 k4 hx5
      go_wp2_with fail
      have hq := l2Fixed_core Y.length v5 (by omega)
      refine hq.mono ?_
      rintro e v6 ⟨gf6, rfl, hO6, hc6⟩
      have HF6 : Hid (FS w g5 cp5 X5 gi ci Y v6 ∧ OwnY v6 v5.heap.size gf6 4 (fixed Y.length)) := ⟨HF5.out.call hc6, hO6⟩
      have k6 := HF6.out.1.below.size
      clear hO6 hc6 HF5 hq
      go_wp2_with (at_builtin; refine wpList_append_out _ rfl _ _ rfl w.heap.size g5 cp5 X5.length gf6 0 4 4 X5 (fixed Y.length) rfl rfl rfl rfl ?hO ?hc ?hk ?hl ?hb ?_)
      case hO => exact HF6.out.1.out
      case hc => exact HF6.out.2.at
      case hk => rw [fixed_len]; omega
      case hl => rw [fixed_len]; omega
      case hb => exact k6
      intro g7 cp7 v7 hO7 hgr7 hat7
      have hb7 := (HF6.out.1.appO hO7 hgr7 hat7).below
      have hfin : X5 ++ fixed Y.length = fileM (esM l) := by
        rw [HX5.out, HX2.out, HXY2.out.1, HXY2.out.2]
        unfold fileM
        simp only [List.append_assoc]
      rw [show X5.length + 4 = (X5 ++ fixed Y.length).length by rw [List.length_append, fixed_len], hfin]
      rw [hfin] at hO7
      go_wp2_with fail
      go_ret
      exact ⟨g7, cp7, rfl, hO7, hb7⟩
end Go.Proofs.Ytlgeffinhbodeac
