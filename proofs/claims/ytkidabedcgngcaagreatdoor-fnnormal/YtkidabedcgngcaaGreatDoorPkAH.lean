import Derived.Deep.DeepCutAuto
import Derived.Deep.RegionWith
import Derived.Test.YtkidabedcgngcaaGreatDoorPkAG
import Derived.Test.YtkidabedcgngcaaGreatDoorPkAB
import Derived.Test.YtkidabedcgngcaaGreatDoorPkAA
import Derived.Test.YtkidabedcgngcaaGreatDoorPkAF
/-
  Runs that are valid: the loop of spec.ValidRun.
-/
namespace Go.Proofs.YtkidabedcgngcaaGreatDoor
open Go.ChangeShapes Go.WideShapes Go.ChangeAt Go.RowKit Go.Deep
set_option linter.unusedVariables false

theorem okPair_f1 {p e : Ent} (h : (keyCmp p e != -1) = true) : okPair p e = false := by
  unfold okPair; simp at h; simp [h]
theorem okPair_t1 {p e : Ent} (h : (keyCmp p e != -1) = false) (h2 : (p.kind == 2) = false) : okPair p e = true := by
  unfold okPair; simp at h; simp [h, h2]
theorem okPair_t2 {p e : Ent} (h : (keyCmp p e != -1) = false) (h2 : (e.kind == 2) = false) : okPair p e = true := by
  unfold okPair; simp at h; simp [h, h2]
theorem okPair_s {p e : Ent} (h : (keyCmp p e != -1) = false) (h2 : (p.kind == 2) = true) (h3 : (e.kind == 2) = true) : okPair p e = !sameCol p e := by
  unfold okPair; simp at h; simp [h, h2, h3]

/-- How the test of spec.ValidRun on two neighbours comes out. -/
theorem pair_ways (p e : Ent) :
    ((keyCmp p e != -1) = true ∧ okPair p e = false) ∨ ((keyCmp p e != -1) = false ∧ (p.kind == 2) = false ∧ okPair p e = true) ∨
    ((keyCmp p e != -1) = false ∧ (p.kind == 2) = true ∧ (e.kind == 2) = false ∧ okPair p e = true) ∨
    ((keyCmp p e != -1) = false ∧ (p.kind == 2) = true ∧ (e.kind == 2) = true ∧ sameCol p e = true ∧ okPair p e = false) ∨
    ((keyCmp p e != -1) = false ∧ (p.kind == 2) = true ∧ (e.kind == 2) = true ∧ sameCol p e = false ∧ okPair p e = true) := by
  cases h1 : (keyCmp p e != -1)
  · cases h2 : (p.kind == 2)
    · exact .inr (.inl ⟨rfl, rfl, okPair_t1 h1 h2⟩)
    · cases h3 : (e.kind == 2)
      · exact .inr (.inr (.inl ⟨rfl, rfl, rfl, okPair_t2 h1 h3⟩))
      · cases h4 : sameCol p e
        · exact .inr (.inr (.inr (.inr ⟨rfl, rfl, rfl, rfl, by rw [okPair_s h1 h2 h3, h4]; rfl⟩)))
        · exact .inr (.inr (.inr (.inl ⟨rfl, rfl, rfl, rfl, by rw [okPair_s h1 h2 h3, h4]; rfl⟩)))
  · exact .inl ⟨rfl, okPair_f1 h1⟩

set_option maxHeartbeats 2000000 in
theorem specValidRun_core (b off cap : Nat) (es : List Ent) (w : World) (hE : EntsAt w b off es) (hok : ∀ e ∈ es, e.ok) (hB : b < w.heap.size) (hlen : es.length ≤ cap) (hcap : cap ≤ maxLen) :
    Calls Tryz.prog 51 #[.agg #[.slice (some ⟨b, off, none⟩) es.length cap]] w fun e w' =>
      ∃ r : Bool, e = .returned (.bool r) ∧ (r = true ↔ GoodR es) ∧ Below w.heap.size w w' := by
  obtain ⟨W0, hW0⟩ : ∃ W0 : World, W0 = w.alloc (Obj.cells #[.slice (some ⟨b, off, none⟩) es.length cap] 90) := ⟨_, rfl⟩
  have hb0 : Below w.heap.size w W0 := by rw [hW0]; exact (Below.refl _ _).alloc (Nat.le_refl _) _
  have hz0 : w.heap.size < W0.heap.size := by rw [hW0]; simp
  have ca : W0.cell? ⟨w.heap.size, 0, none⟩ = some (.slice (some ⟨b, off, none⟩) es.length cap) := by rw [hW0]; simp
  have HE : Hid (EntsAt W0 b off es) := hE.below hb0 hB
  have HO : Hid (∀ e ∈ es, e.ok) := hok
  clear hE hok
  unfold maxLen at hcap
  by_cases hbig : 10000 < es.length
  · have H : Hid (¬ GoodR es) := fun h => by have := h.1.1; omega
    go_enter Tryz.func51, Tryz.ntmps51
    go_wp2
    go_ret
    exact ⟨_, rfl, iffF H.out, (Below.refl _ _).alloc (Nat.le_refl _) _⟩
  go_enter Tryz.func51, Tryz.ntmps51
  go_wp2_with fail
  rw [← hW0]
  clear hW0
  go_loopw [3] (fun i wr => ∃ (k : Nat), k ≤ es.length ∧ i = .int .i64 k ∧ (∀ x ∈ es.take k, x.vld = true) ∧ PairsTo es k ∧ Below W0.heap.size W0 wr) (fun i _ => es.length - (intOf i).toNat)
  case atStart => exact ⟨0, Nat.zero_le _, rfl, by simp, fun i p e hi => by omega, Below.refl _ _⟩
  case round =>
    obtain ⟨k, hk, rfl, hv, hP, hb⟩ := hrel
    have HV : Hid ((∀ x ∈ es.take k, x.vld = true) ∧ PairsTo es k) := ⟨hv, hP⟩
    clear hv hP
    have hs2 := hb.size
    have car : wr.cell? ⟨w.heap.size, 0, none⟩ = some (.slice (some ⟨b, off, none⟩) es.length cap) := by rw [hb.cell (p := ⟨w.heap.size, 0, none⟩) (by show w.heap.size < _; omega)]; exact ca
    by_cases hlt : k < es.length
    · obtain ⟨e, he⟩ : ∃ e, es[k]? = some e := ⟨_, List.getElem?_eq_getElem hlt⟩
      have HEr := HE.out.below hb (by omega)
      obtain ⟨c0, c1, c2, c3, c4, c5⟩ := HEr k e he
      have HK : Hid (e.ok ∧ es[k]? = some e ∧ EntsAt wr b off es) := ⟨HO.out e (List.mem_of_getElem? he), he, HEr⟩
      clear he HEr
      go_wp2_with fail
      refine (specValid_core e.row e.fam e.qual e.val e.ts e.kind _ HK.out.1.row HK.out.1.fam HK.out.1.qual HK.out.1.val).mono ?_
      rintro e' w1 ⟨rfl, hb1⟩
      obtain ⟨hc1, hf1⟩ := bcell hb1
      have hz1 : wr.heap.size < w1.heap.size := by have := hb1.size; simp at this; omega
      have hb2 := (hb.alloc hb.size (Obj.cells #[.string e.row, .string e.fam, .string e.qual, .int .u64 e.ts, .int .i64 e.kind, .string e.val] 102)).trans (hb1.mono (by simp; omega))
      clear c0 c1 c2 c3 c4 c5
      cases hv : vE e.row e.fam e.qual e.kind e.val
      · have H : Hid (¬ GoodR es) := fun h => by
          have := h.1.2 e (List.mem_of_getElem? HK.out.2.1)
          unfold Ent.vld at this
          rw [hv] at this
          cases this
        go_wp2_with fail
        go_ret
        exact ⟨_, rfl, iffF H.out, hb0.trans (hb2.mono (by omega))⟩
      · have H : Hid (∀ x ∈ es.take (k + 1), x.vld = true) := vld_of_take HV.out.1 HK.out.2.1 hv
        by_cases hk0 : k = 0
        · subst hk0
          go_wp2_with fail
          go_roundw
          case rel => exact ⟨0 + 1, by omega, by go_num, H.out, fun i p e hi => by omega, hb2⟩
          case measure => simp [intOf]; omega
        · obtain ⟨m, rfl⟩ : ∃ m, k = m + 1 := ⟨k - 1, by omega⟩
          obtain ⟨p, hp⟩ : ∃ e, es[m]? = some e := ⟨_, List.getElem?_eq_getElem (by omega)⟩
          have hbw : Below wr.heap.size wr w1 := ((Below.refl _ _).alloc (Nat.le_refl _) (Obj.cells #[.string e.row, .string e.fam, .string e.qual, .int .u64 e.ts, .int .i64 e.kind, .string e.val] 102)).trans (hb1.mono (by simp))
          have car1 : w1.cell? ⟨w.heap.size, 0, none⟩ = some (.slice (some ⟨b, off, none⟩) es.length cap) := by rw [hbw.cell (p := ⟨w.heap.size, 0, none⟩) (by show w.heap.size < _; omega)]; exact car
          obtain ⟨d0, d1, d2, d3, d4, d5⟩ := HK.out.2.2.below hbw (by omega) m p hp
          have HKp : Hid (es[m]? = some p) := hp
          clear hp
          have hw : IntKind.i64.wrap (m : Int) = (m : Int) := Go.IntWalk.i64_in _ (by omega)
          go_wp2_with fail
          refine (specCompareKeys_any p e _).mono ?_
          rintro e' w2 ⟨rfl, hb3⟩
          obtain ⟨hc3, hf3⟩ := bcell hb3
          have hz3 : w1.heap.size < w2.heap.size := by have := hb3.size; simp at this; omega
          have hb4 := (hb2.alloc hb2.size (Obj.cells #[.string p.row, .string p.fam, .string p.qual, .int .u64 p.ts, .int .i64 p.kind, .string p.val] 102)).trans (hb3.mono (by have := hb2.size; simp; omega))
          clear d0 d1 d2 d3 d4 d5
          rcases pair_ways p e with ⟨g1, ho⟩ | ⟨g1, g2, ho⟩ | ⟨g1, g2, g3, ho⟩ | ⟨g1, g2, g3, g4, ho⟩ | ⟨g1, g2, g3, g4, ho⟩
          · have H2 : Hid (¬ GoodR es) := fun h => by
              have := h.2 m p e HKp.out HK.out.2.1
              rw [ho] at this; cases this
            go_wp2_with fail
            go_ret
            exact ⟨_, rfl, iffF H2.out, hb0.trans (hb4.mono (by omega))⟩
          · have H2 : Hid (PairsTo es (m + 1 + 1)) := pairsTo_succ HV.out.2 HKp.out HK.out.2.1 ho
            go_wp2_with fail
            go_roundw
            case rel => exact ⟨m + 1 + 1, by omega, by go_num, H.out, H2.out, hb4⟩
            case measure => simp [intOf]; omega
          · have H2 : Hid (PairsTo es (m + 1 + 1)) := pairsTo_succ HV.out.2 HKp.out HK.out.2.1 ho
            go_wp2_with fail
            go_roundw
            case rel => exact ⟨m + 1 + 1, by omega, by go_num, H.out, H2.out, hb4⟩
            case measure => simp [intOf]; omega
          · have H2 : Hid (¬ GoodR es) := fun h => by
              have := h.2 m p e HKp.out HK.out.2.1
              rw [ho] at this; cases this
            go_wp2_with fail
            refine (sameColumn_any p e _).mono ?_
            rintro e' w3 ⟨rfl, hb5⟩
            have hb6 := hb4.trans (hb5.mono hb4.size)
            go_wp2_with fail
            go_ret
            exact ⟨_, rfl, iffF H2.out, hb0.trans (hb6.mono (by omega))⟩
          · have H2 : Hid (PairsTo es (m + 1 + 1)) := pairsTo_succ HV.out.2 HKp.out HK.out.2.1 ho
            go_wp2_with fail
            refine (sameColumn_any p e _).mono ?_
            rintro e' w3 ⟨rfl, hb5⟩
            have hb6 := hb4.trans (hb5.mono hb4.size)
            go_wp2_with fail
            go_roundw
            case rel => exact ⟨m + 1 + 1, by omega, by go_num, H.out, H2.out, hb6⟩
            case measure => simp [intOf]; omega
    · go_wp2_with fail
      go_ret
      refine ⟨_, rfl, iffT ⟨⟨by omega, fun e he => ?_⟩, pairs_of_to HV.out.2 (by omega)⟩, hb0.trans (hb.mono (by omega))⟩
      have := HV.out.1
      rw [List.take_of_length_le (by omega)] at this
      exact this e he
end Go.Proofs.YtkidabedcgngcaaGreatDoor

/-
  Runs in memory, each a slice that is not nil; spec.l3GoodRuns, impl.validStack, spec.l3Says.
-/
namespace Go.Proofs.YtkidabedcgngcaaGreatDoor
open Go.ChangeShapes Go.WideShapes Go.ChangeAt Go.RowKit Go.Deep
set_option linter.unusedVariables false
set_option linter.unusedSimpArgs false

/-- A run: where its entries lie, and what they are. -/
structure Rm where
  b : Nat
  off : Nat
  cap : Nat
  es : List Ent
abbrev Rm.u (r : Rm) : Value := .slice (some ⟨r.b, r.off, none⟩) r.es.length r.cap
structure Rm.at (w : World) (r : Rm) : Prop where
  ents : EntsAt w r.b r.off r.es
  lt : r.b < w.heap.size
  len : r.es.length ≤ r.cap
  cap : r.cap ≤ maxLen
theorem Rm.at.below {w w' : World} {r : Rm} (h : r.at w) (hb : Below w.heap.size w w') : r.at w' := ⟨h.ents.below hb h.lt, by have := hb.size; have := h.lt; omega, h.len, h.cap⟩
def RmsAt (w : World) (b off : Nat) (l : List Rm) : Prop := ∀ i r, l[i]? = some r → w.cell? ⟨b, off + i, none⟩ = some r.u ∧ r.at w
theorem RmsAt.below {w w' : World} {b off : Nat} {l : List Rm} (h : RmsAt w b off l) (hb : Below w.heap.size w w') (hlt : b < w.heap.size) : RmsAt w' b off l := by
  intro i r hr
  obtain ⟨h1, h2⟩ := h i r hr
  exact ⟨by rw [hb.cell (p := ⟨b, off + i, none⟩) (by exact hlt)]; exact h1, h2.below hb⟩
def okM (l : List Rm) : Prop := ∀ r ∈ l, ∀ e ∈ r.es, e.ok
abbrev esM (l : List Rm) : List (List Ent) := l.map Rm.es

theorem goodRs_of {l : List Rm} (h : l.length ≤ 50) (k : ∀ r ∈ l, GoodR r.es) : GoodRs (esM l) := by
  refine ⟨by simpa using h, fun es he => ?_⟩
  obtain ⟨r, hr, rfl⟩ := List.mem_map.1 he
  exact k r hr
theorem goodRs_mem {l : List Rm} (h : GoodRs (esM l)) {r : Rm} (hr : r ∈ l) : GoodR r.es := h.2 _ (List.mem_map.2 ⟨r, hr, rfl⟩)
theorem mem_take_succ {α : Type} {l : List α} {k : Nat} {a x : α} (h : l[k]? = some a) (hx : x ∈ l.take (k + 1)) : x ∈ l.take k ∨ x = a := by
  rw [List.take_add_one, h] at hx
  simpa using hx

/-- What the entries of a run say of a key. -/
def saysF (e : Ent) : List Ent → Int → Int × ByteArray
  | [], h => (h, ⟨#[]⟩)
  | d :: r, h => if sameCol d e = true then
      (if (d.kind == 0) = true ∧ (d.ts == e.ts) = true then (1, d.val) else if (d.kind == 1) = true ∧ (d.ts == e.ts) = true then (2, ⟨#[]⟩) else if (d.kind == 2) = true ∧ e.ts ≤ d.ts then saysF e r 2 else saysF e r h)
    else saysF e r h
theorem saysF_kills (e : Ent) : ∀ (es : List Ent) (h : Int), (∀ d ∈ es, d.vld = true) → ((saysF e es h).1 ≠ 0 ↔ h ≠ 0 ∨ ∃ d ∈ es, kills d e = true)
  | [], h, _ => by simp [saysF]
  | d :: r, h, hv => by
    have ih2 := saysF_kills e r 2 (fun x hx => hv x (List.mem_cons_of_mem _ hx))
    have ihh := saysF_kills e r h (fun x hx => hv x (List.mem_cons_of_mem _ hx))
    have hd := hv d (by simp)
    unfold Ent.vld vE at hd
    have hk := of_decide_eq_true hd
    unfold saysF
    have hex : (∃ x ∈ d :: r, kills x e = true) ↔ kills d e = true ∨ ∃ x ∈ r, kills x e = true := by simp
    rw [hex]
    by_cases hc : sameCol d e = true
    · rw [if_pos hc]
      by_cases h0 : (d.kind == 0) = true ∧ (d.ts == e.ts) = true
      · rw [if_pos h0]
        have : kills d e = true := by
          unfold kills
          have : d.kind = 0 := by simpa using h0.1
          simp [hc, this, h0.2]
        simp [this]
      · rw [if_neg h0]
        by_cases h1 : (d.kind == 1) = true ∧ (d.ts == e.ts) = true
        · rw [if_pos h1]
          have : kills d e = true := by
            unfold kills
            have : d.kind = 1 := by simpa using h1.1
            simp [hc, this, h1.2]
          simp [this]
        · rw [if_neg h1]
          by_cases h2 : (d.kind == 2) = true ∧ e.ts ≤ d.ts
          · rw [if_pos h2, ih2]
            have : kills d e = true := by
              unfold kills
              have : d.kind = 2 := by simpa using h2.1
              simp [hc, this, h2.2]
            simp [this]
          · rw [if_neg h2, ihh]
            have : kills d e = false := by
              unfold kills
              simp only [beq_iff_eq] at h0 h1 h2
              rw [hc]
              by_cases hk2 : d.kind = 2
              · simp [hk2]
                have : ¬ e.ts ≤ d.ts := fun q => h2 ⟨hk2, q⟩
                omega
              · simp [hk2]
                intro q
                have : d.kind = 0 ∨ d.kind = 1 := by omega
                rcases this with z | z
                · exact h0 ⟨z, q⟩
                · exact h1 ⟨z, q⟩
            simp [this]
    · rw [if_neg hc, ihh]
      have : kills d e = false := by
        unfold kills
        simp [hc]
      simp [this]
theorem saysF_drop {e d : Ent} {es : List Ent} {k : Nat} {h : Int} (hd : es[k]? = some d) : saysF e (es.drop k) h = saysF e (d :: es.drop (k + 1)) h := by
  congr 1
  obtain ⟨h1, rfl⟩ := List.getElem?_eq_some_iff.1 hd
  exact List.drop_eq_getElem_cons h1
theorem rms_out {w : World} {b off m : Nat} {l : List Rm} {r : Rm} (h : RmsAt w b off l) (hb : b < w.heap.size) (hr : l[m]? = some r) : (∀ n : Out w, n.u.cell? ⟨b, off + m, none⟩ = some (.slice (some ⟨r.b, r.off, none⟩) r.es.length r.cap)) ∧ ∀ n : Out w, r.at n.u :=
  ⟨fun n => (h.below n.out hb m r hr).1, fun n => (h.below n.out hb m r hr).2⟩
end Go.Proofs.YtkidabedcgngcaaGreatDoor

/-
  spec.l3Says.
-/
namespace Go.Proofs.YtkidabedcgngcaaGreatDoor
open Go.ChangeShapes Go.WideShapes Go.ChangeAt Go.RowKit Go.Deep
set_option linter.unusedVariables false
set_option linter.unusedSimpArgs false

theorem ent_box (w : World) (e : Ent) : EntsAt (w.alloc (Obj.cells #[.string e.row, .string e.fam, .string e.qual, .int .u64 e.ts, .int .i64 e.kind, .string e.val] 102)) w.heap.size 0 [e] := by
  intro j y hy
  obtain rfl : j = 0 := by
    have := (List.getElem?_eq_some_iff.1 hy).1
    simpa using this
  simp at hy
  subst hy
  simp

theorem saysF_cons (e d : Ent) (r : List Ent) (h : Int) : saysF e (d :: r) h = if sameCol d e = true then
      (if (d.kind == 0) = true ∧ (d.ts == e.ts) = true then (1, d.val) else if (d.kind == 1) = true ∧ (d.ts == e.ts) = true then (2, ⟨#[]⟩) else if (d.kind == 2) = true ∧ e.ts ≤ d.ts then saysF e r 2 else saysF e r h)
    else saysF e r h := rfl

end Go.Proofs.YtkidabedcgngcaaGreatDoor

/-
  The draws: a list of writes.
-/
namespace Go.Proofs.YtkidabedcgngcaaGreatDoor
open Go.ChangeShapes Go.WideShapes Go.ChangeAt Go.RowKit Go.Deep
set_option linter.unusedVariables false
set_option linter.unusedSimpArgs false
set_option maxRecDepth 100000

/-- A list of writes of the call's own, beside the drawing. -/
structure LInv (base cb : Nat) (bv : Value) (n : Nat) (w : World) (g cp : Nat) (es : List Ent) (wr : World) : Prop where
  row : OwnE wr w.heap.size g cp es
  ok : ∀ e ∈ es, e.small
  d : DrawAt base cb bv n wr
  c : Chg (fun k => k = cb) w wr
  lt : cb < w.heap.size
  hb : base ≤ w.heap.size
/-- And a variable with an entry. -/
structure YInv (base cb : Nat) (bv : Value) (n : Nat) (w : World) (g cp : Nat) (es : List Ent) (vb : Nat) (f : Ent) (wr : World) : Prop extends LInv base cb bv n w g cp es wr where
  var : OwnE wr w.heap.size vb 1 [f]
  ne : ¬ g = vb
theorem LInv.call {base cb : Nat} {bv : Value} {n : Nat} {w : World} {g cp : Nat} {es : List Ent} {wr w1 : World} (h : LInv base cb bv n w g cp es wr) (hd : Drew base cb bv n wr w1) : LInv base cb bv n w g cp es w1 :=
  ⟨own_chg h.row hd.2 (fun k q => by simp [Value.ownBlock] at q; subst q; have := h.row.lt.1; have := h.lt; omega), h.ok, hd.1, h.c.trans hd.2, h.lt, h.hb⟩
theorem LInv.below {base cb : Nat} {bv : Value} {n : Nat} {w : World} {g cp : Nat} {es : List Ent} {wr w1 : World} (h : LInv base cb bv n w g cp es wr) (hb : Below wr.heap.size wr w1) : LInv base cb bv n w g cp es w1 :=
  ⟨h.row.below hb h.row.lt.2, h.ok, h.d.below hb, h.c.trans (Chg.of_below hb), h.lt, h.hb⟩
theorem LInv.make {base cb : Nat} {bv : Value} {n : Nat} {w : World} {g cp : Nat} {es : List Ent} {wr : World} (h : LInv base cb bv n w g cp es wr) (f : Ent) : YInv base cb bv n w g cp es wr.heap.size f (wr.alloc (Obj.cells #[.string f.row, .string f.fam, .string f.qual, .int .u64 f.ts, .int .i64 f.kind, .string f.val] 102)) :=
  { h.below ((Below.refl _ _).alloc (Nat.le_refl _) _) with
    var := ownE_new wr w.heap.size f h.c.size
    ne := by have := h.row.lt.2; omega }
theorem YInv.call {base cb : Nat} {bv : Value} {n : Nat} {w : World} {g cp : Nat} {es : List Ent} {vb : Nat} {f : Ent} {wr w1 : World} (h : YInv base cb bv n w g cp es vb f wr) (hd : Drew base cb bv n wr w1) : YInv base cb bv n w g cp es vb f w1 :=
  { h.toLInv.call hd with
    var := own_chg h.var hd.2 (fun k q => by simp [Value.ownBlock] at q; subst q; have := h.var.lt.1; have := h.lt; omega)
    ne := h.ne }
theorem YInv.set {base cb : Nat} {bv : Value} {n : Nat} {w : World} {g cp : Nat} {es : List Ent} {vb : Nat} {f : Ent} {wr : World} (h : YInv base cb bv n w g cp es vb f wr) (j : Nat) (f' : Ent) (u : Value) (hj : j < 6) (hc : f'.cells = f.cells.set j u) : YInv base cb bv n w g cp es vb f' (wr.setCell ⟨vb, j, none⟩ u) := by
  have h1 := h.var.set 0 j f f' u rfl hj hc
  simp only [Nat.zero_mul, Nat.zero_add] at h1
  have hl := h.var.lt
  have hcb := h.lt
  have hbb := h.hb
  have hcg : Chg (fun k => k = vb) wr (wr.setCell ⟨vb, j, none⟩ u) := Chg.of_set _ _ _ _ rfl
  exact { row := own_chg h.row hcg (fun k q => by simp [Value.ownBlock] at q; subst q; exact h.ne), ok := h.ok, d := h.d.chg hcg (by omega) (fun k q => by omega), c := Chg.grown_new h.c (grown_set wr vb j u) (fun k hk => by cases hk; exact hl.1), lt := h.lt, hb := h.hb, var := h1, ne := h.ne }
theorem YInv.cells {base cb : Nat} {bv : Value} {n : Nat} {w : World} {g cp : Nat} {es : List Ent} {vb : Nat} {f : Ent} {wr : World} (h : YInv base cb bv n w g cp es vb f wr) :
    (wr.cell? ⟨vb, 0, none⟩ = some (.string f.row) ∧ wr.cell? ⟨vb, 1, none⟩ = some (.string f.fam) ∧ wr.cell? ⟨vb, 2, none⟩ = some (.string f.qual) ∧ wr.cell? ⟨vb, 3, none⟩ = some (.int .u64 f.ts) ∧ wr.cell? ⟨vb, 4, none⟩ = some (.int .i64 f.kind) ∧ wr.cell? ⟨vb, 5, none⟩ = some (.string f.val)) ∧ ∀ j, wr.frozen? ⟨vb, j, none⟩ = false := by
  have := h.var.at 0 f rfl
  simp only [Nat.zero_add, Nat.zero_mul] at this
  exact ⟨this, fun j => World.ownsRow.frozenAt h.var j⟩
theorem YInv.push {base cb : Nat} {bv : Value} {n : Nat} {w : World} {g cp : Nat} {es : List Ent} {vb : Nat} {f : Ent} {wr w' : World} {o : Obj} (h : YInv base cb bv n w g cp es vb f wr) (hf : f.small) {g' cp' : Nat} (hO : OwnE w' w.heap.size g' cp' (es ++ [f])) (hgr : (wr.alloc o).grownBy w' (some g)) : LInv base cb bv n w g' cp' (es ++ [f]) w' := by
  have hb : Below wr.heap.size wr (wr.alloc o) := (Below.refl _ _).alloc (Nat.le_refl _) _
  have hl := h.row.lt
  have hcb := h.lt
  have hbb := h.hb
  refine ⟨hO, fun e he => ?_, ?_, ?_, h.lt, h.hb⟩
  · rcases List.mem_append.1 he with q | q
    · exact h.ok e q
    · simp at q; subst q; exact hf
  · exact (h.d.below hb).chg (Chg.of_grown (S := fun k => k = g) hgr (fun k hk => by cases hk; rfl)) (by omega) (fun k q => by omega)
  · exact Chg.grown_new (h.c.trans (Chg.of_below hb)) hgr (fun k hk => by cases hk; exact hl.1)

set_option maxHeartbeats 4000000 in
theorem writes_core (base cb : Nat) (bv : Value) (n : Nat) (most : Nat) (w : World) (h : DrawAt base cb bv n w) (hm : most ≤ 100) :
    Calls Tryz.prog 82 #[.pointer (some ⟨cb, 0, none⟩), .int .i64 most] w fun r w' => ∃ (g cp : Nat) (es : List Ent), r = .returned (.slice (some ⟨g, 0, none⟩) es.length cp) ∧ es.length ≤ 100 ∧ LInv base cb bv n w g cp es w' := by
  have HD : Hid (DrawAt base cb bv n w) := h
  have hlt := h.lt
  have hbase := h.base
  clear h
  go_enter Tryz.func82, Tryz.ntmps82
  go_wp2_with fail
  refine (below_core base cb bv n ((most : Int) / 2 + 1) _ HD.out (by omega) (by omega)).mono ?_
  rintro e w1 ⟨x, rfl, hx0, hx1, hd1⟩
  obtain ⟨W2, hW2⟩ : ∃ W2 : World, W2 = w1.alloc (Obj.cells #[] 102) := ⟨_, rfl⟩
  have H2 : Hid (LInv base cb bv n w w1.heap.size 0 [] W2) := by
    have hb : Below w1.heap.size w1 W2 := by rw [hW2]; exact (Below.refl _ _).alloc (Nat.le_refl _) _
    refine ⟨?_, fun e he => by simp at he, hd1.1.below hb, hd1.2.trans (Chg.of_below hb), hlt.2, hbase⟩
    rw [hW2]
    exact World.ownsRow_made w1 #[] 0 hd1.2.size (Nat.zero_le _) (by simp)
  obtain ⟨m, hm2⟩ : ∃ m : Nat, (most : Int) / 2 + x = (m : Int) := ⟨((most : Int) / 2 + x).toNat, by omega⟩
  have hm3 : m ≤ 100 := by omega
  go_wp2_with fail
  rw [← hW2]
  clear hW2 hm2 hd1
  go_loopw [6, 7] (fun o i wr => ∃ (k g cp : Nat) (es : List Ent), k ≤ m ∧ i = .int .i64 k ∧ o = .slice (some ⟨g, 0, none⟩) k cp ∧ es.length = k ∧ LInv base cb bv n w g cp es wr) (fun _ i _ => m - (intOf i).toNat)
  case atStart => exact ⟨0, _, 0, [], Nat.zero_le _, rfl, rfl, rfl, H2.out⟩
  case round =>
    obtain ⟨k, g, cp, es, hk, rfl, rfl, hel, hL⟩ := hrel
    have HL : Hid (es.length = k ∧ LInv base cb bv n w g cp es wr) := ⟨hel, hL⟩
    clear hel hL
    by_cases hlk : k < m
    · have zk : (k : Int) < (m : Int) := by omega
      go_wp2_with fail
      refine (write_core base cb bv n _ HL.out.2.d).mono ?_
      rintro e w3 ⟨f, rfl, hf, hd3⟩
      have HL3 : Hid (LInv base cb bv n w g cp es w3) := HL.out.2.call hd3
      clear hd3
      obtain ⟨W4, hW4⟩ : ∃ W4 : World, W4 = w3.alloc (Obj.cells #[.string f.row, .string f.fam, .string f.qual, .int .u64 f.ts, .int .i64 f.kind, .string f.val] 102) := ⟨_, rfl⟩
      have HY4 : Hid (YInv base cb bv n w g cp es w3.heap.size f W4 ∧ f.small ∧ es.length = k) := ⟨by rw [hW4]; exact HL3.out.make f, hf, HL.out.1⟩
      go_upto_region 7 with fail
      rw [← hW4]
      clear hW4
      generalize w3.heap.size = vb at *
      by_cases hk0 : k = 0
      · have zk0 : ¬ (0 : Int) < (k : Int) := by omega
        clear hk0
        obtain ⟨⟨k0, k1, k2, k3, k4, k5⟩, _⟩ := HY4.out.1.cells
        have hgX := HY4.out.1.row.lt
        have hsX := HY4.out.1.c.size
        have HKl : Hid (k = es.length) := HY4.out.2.2.symm
        go_wp2_with (at_builtin; refine wpList_append_ent _ rfl _ _ rfl w.heap.size g cp _ _ es f rfl rfl HKl.out ?hO ?hc ?hl ?hb ?_)
        case hO => exact HY4.out.1.row.below ((Below.refl _ _).alloc (Nat.le_refl _) _) (by omega)
        case hc => exact ent_box W4 f
        case hl => rw [← HKl.out]; omega
        case hb => first | (simp; omega) | omega
        intro g' cp' w' hO' hgr
        have HN : Hid (LInv base cb bv n w g' cp' (es ++ [f]) w' ∧ (es ++ [f]).length = k + 1) := ⟨HY4.out.1.push HY4.out.2.1 hO' hgr, by simp [HY4.out.2.2]⟩
        clear hO' hgr
        go_wp2_with fail
        go_roundw
        case rel => exact ⟨k + 1, g', cp', es ++ [f], by omega, by go_num, rfl, HN.out.2, HN.out.1⟩
        case measure => go_light; simp [intOf]; omega
      · have zk0 : (0 : Int) < (k : Int) := by omega
        go_wp2_with fail
        refine (once_core base cb bv n 2 _ HY4.out.1.d (by omega) (by omega)).mono ?_
        rintro e w5 ⟨v, rfl, hv, hd5⟩
        have HY5 : Hid (YInv base cb bv n w g cp es vb f w5 ∧ f.small ∧ es.length = k) := ⟨HY4.out.1.call hd5, HY4.out.2⟩
        clear hd5
        rcases hv with rfl | rfl
        · go_wp2_with fail
          refine (below_core base cb bv n (k : Int) _ HY5.out.1.d (by omega) (by omega)).mono ?_
          rintro e w6 ⟨y, rfl, hy0, hy1, hd6⟩
          have HY6 : Hid (YInv base cb bv n w g cp es vb f w6 ∧ f.small ∧ es.length = k) := ⟨HY5.out.1.call hd6, HY5.out.2⟩
          clear hd6
          obtain ⟨j, rfl⟩ := Int.eq_ofNat_of_zero_le hy0
          obtain ⟨x, hx⟩ : ∃ x, es[j]? = some x := ⟨_, List.getElem?_eq_getElem (by have := HY6.out.2.2; omega)⟩
          have HXs : Hid (x.small) := HY6.out.1.ok x (List.mem_of_getElem? hx)
          have hA := HY6.out.1.set 0 { f with row := x.row } (.string x.row) (by omega) rfl
          have hB := hA.set 1 { f with row := x.row, fam := x.fam } (.string x.fam) (by omega) rfl
          have hC := hB.set 2 { f with row := x.row, fam := x.fam, qual := x.qual } (.string x.qual) (by omega) rfl
          obtain ⟨a0, a1, a2, _⟩ := HY6.out.1.row.at j x hx
          obtain ⟨b0, b1, b2, _⟩ := hA.row.at j x hx
          obtain ⟨c0, c1, c2, _⟩ := hB.row.at j x hx
          simp only [Nat.zero_add] at a0 a1 a2 b0 b1 b2 c0 c1 c2
          obtain ⟨⟨k0, _⟩, kf⟩ := HY6.out.1.cells
          obtain ⟨⟨_, k1, _⟩, kg⟩ := hA.cells
          obtain ⟨⟨_, _, k2, _⟩, kh⟩ := hB.cells
          have kf0 := kf 0
          have kg1 := kg 1
          have kh2 := kh 2
          simp only at k1 k2
          obtain ⟨W7, hW7⟩ : ∃ W7 : World, W7 = ((w6.setCell ⟨vb, 0, none⟩ (.string x.row)).setCell ⟨vb, 1, none⟩ (.string x.fam)).setCell ⟨vb, 2, none⟩ (.string x.qual) := ⟨_, rfl⟩
          have HY7 : Hid (YInv base cb bv n w g cp es vb { f with row := x.row, fam := x.fam, qual := x.qual } W7 ∧ ({ f with row := x.row, fam := x.fam, qual := x.qual } : Ent).small ∧ es.length = k) := by
            refine ⟨by rw [hW7]; exact hC, ⟨HXs.out.row, HXs.out.fam, HXs.out.qual, hf.val, hf.ts, hf.kind⟩, HY6.out.2.2⟩
          clear hA hB hC kf kg kh hx
          go_upto_region 12 with fail
          rw [← hW7]
          clear hW7 a0 a1 a2 b0 b1 b2 c0 c1 c2 k0 k1 k2 kf0 kg1 kh2
          generalize ({ f with row := x.row, fam := x.fam, qual := x.qual } : Ent) = f7 at *
          obtain ⟨⟨k0, k1, k2, k3, k4, k5⟩, _⟩ := HY7.out.1.cells
          have hgX := HY7.out.1.row.lt
          have hsX := HY7.out.1.c.size
          have HKl : Hid (k = es.length) := HY7.out.2.2.symm
          go_wp2_with (at_builtin; refine wpList_append_ent _ rfl _ _ rfl w.heap.size g cp _ _ es f7 rfl rfl HKl.out ?hO ?hc ?hl ?hb ?_)
          case hO => exact HY7.out.1.row.below ((Below.refl _ _).alloc (Nat.le_refl _) _) (by omega)
          case hc => exact ent_box W7 f7
          case hl => rw [← HKl.out]; omega
          case hb => first | (simp; omega) | omega
          intro g' cp' w' hO' hgr
          have HN : Hid (LInv base cb bv n w g' cp' (es ++ [f7]) w' ∧ (es ++ [f7]).length = k + 1) := ⟨HY7.out.1.push HY7.out.2.1 hO' hgr, by simp [HY7.out.2.2]⟩
          clear hO' hgr
          go_wp2_with fail
          go_roundw
          case rel => exact ⟨k + 1, g', cp', es ++ [f7], by omega, by go_num, rfl, HN.out.2, HN.out.1⟩
          case measure => go_light; simp [intOf]; omega
        ·
          obtain ⟨⟨k0, k1, k2, k3, k4, k5⟩, _⟩ := HY5.out.1.cells
          have hgX := HY5.out.1.row.lt
          have hsX := HY5.out.1.c.size
          have HKl : Hid (k = es.length) := HY5.out.2.2.symm
          go_wp2_with (at_builtin; refine wpList_append_ent _ rfl _ _ rfl w.heap.size g cp _ _ es f rfl rfl HKl.out ?hO ?hc ?hl ?hb ?_)
          case hO => exact HY5.out.1.row.below ((Below.refl _ _).alloc (Nat.le_refl _) _) (by omega)
          case hc => exact ent_box w5 f
          case hl => rw [← HKl.out]; omega
          case hb => first | (simp; omega) | omega
          intro g' cp' w' hO' hgr
          have HN : Hid (LInv base cb bv n w g' cp' (es ++ [f]) w' ∧ (es ++ [f]).length = k + 1) := ⟨HY5.out.1.push HY5.out.2.1 hO' hgr, by simp [HY5.out.2.2]⟩
          clear hO' hgr
          go_wp2_with fail
          go_roundw
          case rel => exact ⟨k + 1, g', cp', es ++ [f], by omega, by go_num, rfl, HN.out.2, HN.out.1⟩
          case measure => go_light; simp [intOf]; omega
    · have zk : ¬ (k : Int) < (m : Int) := by omega
      have HE : Hid (k = es.length) := HL.out.1.symm
      go_wp2_with fail
      go_ret
      refine ⟨g, cp, es, ?_, by rw [← HE.out]; omega, HL.out.2⟩
      show Ending.returned (Value.slice (some ⟨g, 0, none⟩) k cp) = _
      rw [HE.out]
end Go.Proofs.YtkidabedcgngcaaGreatDoor

/-
  spec.BuildRun.
-/
namespace Go.Proofs.YtkidabedcgngcaaGreatDoor
open Go.ChangeShapes Go.WideShapes Go.ChangeAt Go.RowKit Go.Deep
set_option linter.unusedVariables false

theorem ent_new (wx : World) (f : Ent) : EntsAt (wx.alloc (Obj.cells #[.string f.row, .string f.fam, .string f.qual, .int .u64 f.ts, .int .i64 f.kind, .string f.val] 102)) wx.heap.size 0 [f] := by
  intro j y hy
  obtain rfl : j = 0 := by
    have := (List.getElem?_eq_some_iff.1 hy).1
    simpa using this
  simp at hy
  subst hy
  simp

theorem OwnE.setBelow {w : World} {base g cap : Nat} {es : List Ent} (h : OwnE w base g cap es) (a : Addr) (ha : a.block < base) (u : Value) : OwnE (w.setCell a u) base g cap es := ownsRow_setCell_below h ha u

/-- The deletes of the column among the first 'j'. -/
def LargestTo (ws : List Ent) (e : Ent) (j : Nat) : Prop := ∀ i v, i < j → ws[i]? = some v → v.kind = 2 → sameCol v e = true → v.ts ≤ e.ts
theorem largest_of_to {ws : List Ent} {e : Ent} {j : Nat} (h : LargestTo ws e j) (hj : ws.length ≤ j) : Largest ws e := by
  intro v hv h1 h2
  obtain ⟨i, hi⟩ := List.getElem?_of_mem hv
  exact h i v (by have := (List.getElem?_eq_some_iff.1 hi).1; omega) hi h1 h2
theorem largestTo_succ {ws : List Ent} {e v : Ent} {j : Nat} (h : LargestTo ws e j) (hv : ws[j]? = some v) (hk : v.kind = 2 → sameCol v e = true → v.ts ≤ e.ts) : LargestTo ws e (j + 1) := by
  intro i u hi hu h1 h2
  by_cases e1 : i = j
  · subst e1
    rw [hv] at hu
    simp at hu
    subst hu
    exact hk h1 h2
  · exact h i u (by omega) hu h1 h2
theorem largestTo_bad {ws : List Ent} {e v : Ent} {j k : Nat} (hv : ws[j]? = some v) (h1 : v.kind = 2) (h2 : sameCol v e = true) (h3 : ¬ v.ts ≤ e.ts) (hk : j < k) : ¬ LargestTo ws e k := fun h => h3 (h j v hk hv h1 h2)
theorem largestTo_mono {ws : List Ent} {e : Ent} {j k : Nat} (h : LargestTo ws e k) (hj : j ≤ k) : LargestTo ws e j := fun i v hi => h i v (by omega)

end Go.Proofs.YtkidabedcgngcaaGreatDoor

/-
  The draws: their beginning, sizes, one run.
-/
namespace Go.Proofs.YtkidabedcgngcaaGreatDoor
open Go.ChangeShapes Go.WideShapes Go.ChangeAt Go.RowKit Go.Deep
set_option linter.unusedVariables false
set_option linter.unusedSimpArgs false
set_option maxRecDepth 100000

set_option maxHeartbeats 400000 in
theorem size_core (a : Option Addr) (n cap : Nat) (w : World) (hn : n ≤ 1048576) :
    Calls Tryz.prog 83 #[.slice a n cap] w fun e w' => ∃ k : Nat, e = .returned (.int .i64 k) ∧ k ≤ 22 ∧ w' = w := by
  by_cases hb : (22 : Int) < 8 + (n : Int) / 16
  · go_enter Tryz.func83, Tryz.ntmps83
    go_wp2_with fail
    go_ret
    exact ⟨22, rfl, Nat.le_refl _, rfl⟩
  · obtain ⟨k, hk⟩ : ∃ k : Nat, (8 : Int) + (n : Int) / 16 = (k : Int) := ⟨8 + n / 16, by omega⟩
    have hk2 : k ≤ 22 := by omega
    go_enter Tryz.func83, Tryz.ntmps83
    go_wp2_with fail
    go_ret
    exact ⟨k, rfl, hk2, rfl⟩

end Go.Proofs.YtkidabedcgngcaaGreatDoor

/-
  Visible cells in memory, one behind another: an entry without its kind.
-/
namespace Go.Proofs.YtkidabedcgngcaaGreatDoor
open Go.ChangeShapes Go.WideShapes Go.ChangeAt Go.RowKit Go.Deep
set_option linter.unusedVariables false
set_option linter.unusedSimpArgs false

abbrev Ent.five (e : Ent) : List Value := [.string e.row, .string e.fam, .string e.qual, .int .u64 e.ts, .string e.val]
abbrev Ent.c (e : Ent) : Value := .agg #[.string e.row, .string e.fam, .string e.qual, .int .u64 e.ts, .string e.val]
def cellsC (es : List Ent) : List Value := es.flatMap Ent.five
theorem cellsC_nil : cellsC [] = [] := rfl
theorem cellsC_cons (e : Ent) (es : List Ent) : cellsC (e :: es) = e.five ++ cellsC es := by simp [cellsC]
theorem cellsC_append (es fs : List Ent) : cellsC (es ++ fs) = cellsC es ++ cellsC fs := by simp [cellsC]
theorem length_cellsC (es : List Ent) : (cellsC es).length = es.length * 5 := by
  induction es with
  | nil => rfl
  | cons e es ih => rw [cellsC_cons, List.length_append, ih]; simp; omega
theorem cellsC_get (es : List Ent) : ∀ (k : Nat) (e : Ent), es[k]? = some e → ∀ j, j < 5 → (cellsC es)[k * 5 + j]? = e.five[j]? := by
  induction es with
  | nil => intro k e h; simp at h
  | cons f es ih =>
    intro k e h j hj
    rw [cellsC_cons]
    cases k with
    | zero =>
      simp at h; subst h
      rw [List.getElem?_append_left (by show 0 * 5 + j < 5; omega)]
      simp
    | succ k =>
      simp at h
      rw [List.getElem?_append_right (by show 5 ≤ (k + 1) * 5 + j; omega)]
      have : (k + 1) * 5 + j - f.five.length = k * 5 + j := by show (k + 1) * 5 + j - 5 = _; omega
      rw [this]; exact ih k e h j hj
theorem cellsC_set (es : List Ent) : ∀ (k : Nat) (e e' : Ent) (u : Value) (j : Nat), es[k]? = some e → j < 5 → e'.five = e.five.set j u → (cellsC es).set (k * 5 + j) u = cellsC (es.set k e') := by
  induction es with
  | nil => intro k e e' u j h; simp at h
  | cons f es ih =>
    intro k e e' u j h hj hc
    rw [cellsC_cons]
    cases k with
    | zero =>
      simp at h; subst h
      rw [List.set_append_left _ _ (by show 0 * 5 + j < 5; omega), List.set_cons_zero, cellsC_cons, hc]
      simp
    | succ k =>
      simp at h
      rw [List.set_append_right _ _ (by show 5 ≤ (k + 1) * 5 + j; omega), List.set_cons_succ, cellsC_cons]
      have : (k + 1) * 5 + j - f.five.length = k * 5 + j := by show (k + 1) * 5 + j - 5 = _; omega
      rw [this, ih k e e' u j h hj hc]

/-- The cells 'es' lie at ⟨b, off⟩, five each. -/
def CelsAt (w : World) (b off : Nat) (es : List Ent) : Prop :=
  ∀ i e, es[i]? = some e → w.cell? ⟨b, off + i * 5, none⟩ = some (.string e.row) ∧ w.cell? ⟨b, off + i * 5 + 1, none⟩ = some (.string e.fam) ∧ w.cell? ⟨b, off + i * 5 + 2, none⟩ = some (.string e.qual) ∧
    w.cell? ⟨b, off + i * 5 + 3, none⟩ = some (.int .u64 e.ts) ∧ w.cell? ⟨b, off + i * 5 + 4, none⟩ = some (.string e.val)
theorem CelsAt.below {B : Nat} {w w' : World} {b off : Nat} {es : List Ent} (h : CelsAt w b off es) (hb : Below B w w') (hlt : b < B) : CelsAt w' b off es := by
  intro i e he
  have := h i e he
  refine ⟨?_, ?_, ?_, ?_, ?_⟩
  all_goals rw [hb.cell (by exact hlt)]
  · exact this.1
  · exact this.2.1
  · exact this.2.2.1
  · exact this.2.2.2.1
  · exact this.2.2.2.2

/-- A row of the call's own holds the cells 'es'. -/
def OwnC (w : World) (base g cap : Nat) (es : List Ent) : Prop := w.ownsRow base 55 5 (.slice (some ⟨g, 0, none⟩) es.length cap) es.length (cellsC es)
theorem OwnC.at {w : World} {base g cap : Nat} {es : List Ent} (h : OwnC w base g cap es) : CelsAt w g 0 es := by
  intro i e he
  have hi : i < es.length := (List.getElem?_eq_some_iff.1 he).1
  have c := fun j (hj : j < 5) => (World.ownsRow.cellAt h (i * 5 + j) (by omega)).trans (cellsC_get es i e he j hj)
  refine ⟨?_, ?_, ?_, ?_, ?_⟩
  · simpa using c 0 (by omega)
  · simpa using c 1 (by omega)
  · simpa using c 2 (by omega)
  · simpa using c 3 (by omega)
  · simpa using c 4 (by omega)
theorem OwnC.lt {w : World} {base g cap : Nat} {es : List Ent} (h : OwnC w base g cap es) : base ≤ g ∧ g < w.heap.size := World.ownsRow.lt h g rfl
theorem OwnC.below {B : Nat} {w w' : World} {base g cap : Nat} {es : List Ent} (h : OwnC w base g cap es) (hb : Below B w w') (hg : g < B) : OwnC w' base g cap es := by
  refine ⟨h.1, ?_⟩
  rcases h.2 with hn | ⟨g', cap', cur, hv, h1, h2, rest⟩
  · exact .inl hn
  · simp only [Value.slice.injEq, Option.some.injEq, Addr.mk.injEq, and_true, true_and] at hv
    obtain ⟨rfl, rfl⟩ := hv
    exact .inr ⟨g, cap, cur, rfl, h1, by rw [hb.block g hg]; exact h2, rest⟩
theorem OwnC.set {w : World} {base g cap : Nat} {es : List Ent} (h : OwnC w base g cap es) (k j : Nat) (e e' : Ent) (u : Value) (hk : es[k]? = some e) (hj : j < 5) (hc : e'.five = e.five.set j u) :
    OwnC (w.setCell ⟨g, k * 5 + j, none⟩ u) base g cap (es.set k e') := by
  have := (World.ownsRow.stored h (k * 5 + j) u).1
  rw [cellsC_set es k e e' u j hk hj hc] at this
  unfold OwnC
  rw [List.length_set]
  exact this
theorem OwnC.upd {w : World} {base g cap m j : Nat} {fs : List Ent} {f f' : Ent} {u : Value} (h : OwnC w base g cap (fs.set m f)) (hm : m < fs.length) (hj : j < 5) (hc : f'.five = f.five.set j u) :
    OwnC (w.setCell ⟨g, m * 5 + j, none⟩ u) base g cap (fs.set m f') := by
  have := h.set m j f f' u (by simp [hm]) hj hc
  rwa [List.set_set] at this
theorem OwnC.mono {w : World} {base base' g cap : Nat} {es : List Ent} (h : OwnC w base g cap es) (hb : base' ≤ base) : OwnC w base' g cap es := by
  refine ⟨h.1, ?_⟩
  rcases h.2 with hn | ⟨g', cap', cur, hv, h1, rest⟩
  · exact .inl hn
  · exact .inr ⟨g', cap', cur, hv, Nat.le_trans hb h1, rest⟩
theorem OwnC.kept {w w' : World} {base g cp : Nat} {fs : List Ent} {row : Option Nat} (h : OwnC w base g cp fs) (hg : w.grownBy w' row) (hne : some g ≠ row) : OwnC w' base g cp fs :=
  World.ownsRow.kept h hg (.inr hne)
theorem OwnC.caps {w : World} {base g cp : Nat} {R : List Ent} (h : OwnC w base g cp R) : R.length ≤ cp ∧ cp ≤ maxLen := by
  rcases h.2 with ⟨h0, _⟩ | ⟨g', cap', cur, hv, _, _, hn, hcap, _, _⟩
  · cases h0
  · simp only [Value.slice.injEq, Option.some.injEq, Addr.mk.injEq, and_true, true_and] at hv
    obtain ⟨rfl, rfl⟩ := hv
    exact ⟨hn, hcap⟩
theorem ownC_new (w : World) : OwnC (w.alloc (Obj.cells #[] 55)) w.heap.size w.heap.size 0 [] := World.ownsRow_made w #[] 0 (Nat.le_refl _) (Nat.zero_le _) (by simp)

theorem Tryz.infoCel : (Tryz.prog.info? 55).map (fun i => (i.zero, i.size, i.bytes)) = some (some (.agg #[.string ⟨#[]⟩, .string ⟨#[]⟩, .string ⟨#[]⟩, .int .u64 0, .string ⟨#[]⟩]), 5, 72) := by kernel_rfl

theorem cel_new (wx : World) (f : Ent) : CelsAt (wx.alloc (Obj.cells #[.string f.row, .string f.fam, .string f.qual, .int .u64 f.ts, .string f.val] 55)) wx.heap.size 0 [f] := by
  intro j y hy
  obtain rfl : j = 0 := by
    have := (List.getElem?_eq_some_iff.1 hy).1
    simpa using this
  simp at hy
  subst hy
  simp

/-- One cell appended to a row of the call's own. -/
theorem wpList_append_cel {ops : Array Oper} {rest : List Oper} {o : Oper} {a : Act} {Q : Exit → Act → World → Prop} (w : World) (hgd : o.guard = none) (s x : Operand)
    (ho : o.op = .call { callee := .builtin .append, args := #[s, x], argTypes := #[28, 28] })
    (base g cp n blk : Nat) (fs : List Ent) (e : Ent) (hs : a.eval s = .slice (some ⟨g, 0, none⟩) n cp) (hx : a.eval x = .slice (some ⟨blk, 0, none⟩) 1 1) (hn : n = fs.length) (hO : OwnC w base g cp fs)
    (hc : CelsAt w blk 0 [e]) (hlen : fs.length ≤ 2 ^ 30) (hbase : base ≤ w.heap.size)
    (h : ∀ g' cp' w', OwnC w' base g' cp' (fs ++ [e]) → w.grownBy w' (some g) → wpList Tryz.prog ops Q rest (a.put o.dst (.slice (some ⟨g', 0, none⟩) (n + 1) cp')) w') : wpList Tryz.prog ops Q (o :: rest) a w := by
  obtain ⟨i, hi, hz0, hz1, hz2⟩ := info_parts Tryz.infoCel
  subst hn
  obtain ⟨c0, c1, c2, c3, c4⟩ := hc 0 e rfl
  refine wpList_append_own w hgd s x 28 ho base 55 i _ 5 72 Tryz.underlying28 hi hz0 hz1 hz2 rfl (by decide) (.slice (some ⟨g, 0, none⟩) fs.length cp) fs.length (cellsC fs) hs hO ⟨blk, 0, none⟩ 1 1 (cellsC [e]) hx rfl ?_ ?_ ?_ ?_ hbase ?_
  · intro j u hu
    have hj : j < 5 := by
      have := (List.getElem?_eq_some_iff.1 hu).1
      rw [length_cellsC] at this
      simpa using this
    rw [Addr.add_mid, Nat.zero_add]
    simp only [Nat.zero_mul, Nat.zero_add] at c0 c1 c2 c3 c4
    match j, hj, hu with
    | 0, _, hu => simp [cellsC] at hu; rw [← hu]; exact c0
    | 1, _, hu => simp [cellsC] at hu; rw [← hu]; exact c1
    | 2, _, hu => simp [cellsC] at hu; rw [← hu]; exact c2
    | 3, _, hu => simp [cellsC] at hu; rw [← hu]; exact c3
    | 4, _, hu => simp [cellsC] at hu; rw [← hu]; exact c4
  · intro u hu
    simp [cellsC] at hu
    rcases hu with rfl | rfl | rfl | rfl | rfl <;> rfl
  · unfold maxLen; omega
  · omega
  · intro v' w' hown hgr hnil
    rw [← cellsC_append] at hown
    have hlen' : (fs ++ [e]).length = fs.length + 1 := by simp
    rcases hown.2 with ⟨hv, _⟩ | ⟨g', cap', cur, hv, h1, h2, h3⟩
    · have := (hnil.1 hv).1
      simp at this
    · subst hv
      exact h g' cap' w' (by unfold OwnC; rw [hlen']; exact hown) hgr

set_option maxHeartbeats 400000 in
theorem specCell_any (e : Ent) (w : World) :
    Calls Tryz.prog 114 #[e.v] w fun r w' => r = .returned e.c ∧ Below w.heap.size w w' := by
  unfold Ent.v
  go_enter Tryz.func114, Tryz.ntmps114
  go_wp2
  refine bodyPost_ret (v := e.c) (by simp [results, Tryz.results114, go_sem]) rfl ⟨rfl, ?_⟩
  exact ((Below.refl _ _).alloc (Nat.le_refl _) _).alloc (by simp) _
set_option maxHeartbeats 400000 in
theorem eqCell_same (a : Ent) (w : World) :
    Calls Tryz.prog 33 #[a.c, a.c] w fun e w' => e = .returned (.bool true) ∧ Below w.heap.size w w' := by
  unfold Ent.c
  go_enter Tryz.func33, Tryz.ntmps33
  go_wp2
  go_ret
  exact ⟨rfl, ((Below.refl _ _).alloc (Nat.le_refl _) _).alloc (by simp) _⟩

set_option maxHeartbeats 1000000 in
theorem eqCellS_same (b off cap b' off' cap' : Nat) (es : List Ent) (w : World) (hE : CelsAt w b off es) (hE' : CelsAt w b' off' es) (hB : b < w.heap.size) (hB' : b' < w.heap.size) (hlen : es.length ≤ maxLen) :
    Calls Tryz.prog 11 #[.slice (some ⟨b, off, none⟩) es.length cap, .slice (some ⟨b', off', none⟩) es.length cap'] w fun e w' =>
      e = .returned (.bool true) ∧ Below w.heap.size w w' := by
  have HE : Hid (CelsAt w b off es ∧ CelsAt w b' off' es) := ⟨hE, hE'⟩
  clear hE hE'
  unfold maxLen at hlen
  go_enter Tryz.func11, Tryz.ntmps11
  go_wp2
  go_loopw [5] (fun i wr => ∃ (k : Nat), k ≤ es.length ∧ i = .int .i64 k ∧ Below w.heap.size w wr) (fun i _ => es.length - (intOf i).toNat)
  case atStart => exact ⟨0, Nat.zero_le _, rfl, Below.refl _ _⟩
  case round =>
    obtain ⟨k, hk, rfl, hb⟩ := hrel
    have hs2 := hb.size
    by_cases hlt : k < es.length
    · obtain ⟨e, he⟩ : ∃ e, es[k]? = some e := ⟨_, List.getElem?_eq_getElem hlt⟩
      obtain ⟨c0, c1, c2, c3, c4⟩ := HE.out.1.below hb hB k e he
      obtain ⟨d0, d1, d2, d3, d4⟩ := HE.out.2.below hb hB' k e he
      clear he
      go_upto_region 6 with fail
      go_cut [26] (fun s wx => s = .bool false ∧ Below w.heap.size w wx)
      case first =>
        have z2 : (k : Int) < (es.length : Int) := by omega
        go_region_with (go_at_call 33; refine (eqCell_same e _).mono ?_; rintro e' w' ⟨rfl, hbb⟩)
        all_goals go_wp2_with fail
        all_goals go_meet
        all_goals exact ⟨rfl, hb.drew.trans (hbb.mono (by simp; omega))⟩
      case rest =>
      obtain ⟨rfl, h3⟩ := hcut
      clear c0 c1 c2 c3 c4 d0 d1 d2 d3 d4
      go_wp2_with fail
      go_roundw
      case rel => exact ⟨k + 1, by omega, by go_num, h3⟩
      case measure => simp [intOf]; omega
    · go_wp2_with fail
      go_ret
      exact ⟨rfl, hb⟩
theorem eqCellS_own {w : World} {base g cp base' g' cp' : Nat} {es : List Ent} (h : OwnC w base g cp es) (h' : OwnC w base' g' cp' es) :
    Calls Tryz.prog 11 #[.slice (some ⟨g, 0, none⟩) es.length cp, .slice (some ⟨g', 0, none⟩) es.length cp'] w fun e w' => e = .returned (.bool true) ∧ Below w.heap.size w w' :=
  eqCellS_same g 0 cp g' 0 cp' es w h.at h'.at h.lt.2 h'.lt.2 (Nat.le_trans h.caps.1 h.caps.2)
end Go.Proofs.YtkidabedcgngcaaGreatDoor

/-
  spec.Replay.
-/
namespace Go.Proofs.YtkidabedcgngcaaGreatDoor
open Go.ChangeShapes Go.WideShapes Go.ChangeAt Go.RowKit Go.Deep
set_option linter.unusedVariables false
set_option linter.unusedSimpArgs false

theorem ord_len : ∀ (R ws : List Ent), Ord R → (∀ x ∈ R, x ∈ ws) → R.length ≤ ws.length
  | [], _, _, _ => by simp
  | a :: R, ws, h, hs => by
    have h' := List.pairwise_cons.1 h
    obtain ⟨l1, l2, rfl⟩ := List.append_of_mem (hs a (by simp))
    have := ord_len R (l1 ++ l2) h'.2 (fun x hx => by
      have h1 := hs x (List.mem_cons_of_mem _ hx)
      simp only [List.mem_append, List.mem_cons] at h1 ⊢
      rcases h1 with h1 | rfl | h1
      · exact .inl h1
      · have := h'.1 x hx
        rw [keyCmp_self] at this
        omega
      · exact .inr h1)
    simp at this ⊢
    omega
theorem rep_len {ws L : List Ent} {k : Nat} (h : Rep ws k L) : L.length ≤ ws.length :=
  ord_len L ws h.1 (fun x hx => by
    obtain ⟨i, _, a, _⟩ := (h.2 x).1 hx
    exact List.mem_of_getElem? a)
theorem kept_len {ws R : List Ent} {k : Nat} (h : Kept ws k R) : R.length ≤ ws.length :=
  ord_len R ws h.1 (fun x hx => by
    obtain ⟨i, _, a, _⟩ := (h.2 x).1 hx
    exact List.mem_of_getElem? a)

/-- What the replay of 'ws' may be. -/
def RepOf (ws L : List Ent) : Prop := (GoodW ws → Rep ws ws.length L) ∧ (¬ GoodW ws → L = [])
/-- What a delete leaves of the first 'j'. -/
def leftTo (e : Ent) (L : List Ent) (j : Nat) : List Ent := (L.take j).filter fun x => !(hit x e)
theorem leftTo_succ {e : Ent} {L : List Ent} {j : Nat} {x : Ent} (hx : L[j]? = some x) : leftTo e L (j + 1) = leftTo e L j ++ (if hit x e = true then [] else [x]) := by
  unfold leftTo
  rw [List.take_add_one, hx, List.filter_append]
  cases h : hit x e <;> simp [h]
theorem leftTo_all (e : Ent) (L : List Ent) : leftTo e L L.length = L.filter fun x => !(hit x e) := by unfold leftTo; rw [List.take_length]
theorem leftTo_len (e : Ent) (L : List Ent) (j : Nat) : (leftTo e L j).length ≤ L.length := Nat.le_trans (List.length_filter_le _ _) (by rw [List.length_take]; exact Nat.min_le_right _ _)
theorem OwnC.setBelow {w : World} {base g cap : Nat} {es : List Ent} (h : OwnC w base g cap es) (a : Addr) (ha : a.block < base) (u : Value) : OwnC (w.setCell a u) base g cap es := ownsRow_setCell_below h ha u

theorem OwnE.keptG {w w' : World} {base g cp : Nat} {fs : List Ent} {row : Option Nat} (h : OwnE w base g cp fs) (hg : w.grownBy w' row) (hne : some g ≠ row) : OwnE w' base g cp fs :=
  World.ownsRow.kept h hg (.inr hne)
theorem OwnC.ne_ent {w : World} {base g cp base' g' cp' : Nat} {es fs : List Ent} (h : OwnC w base g cp es) (h' : OwnE w base' g' cp' fs) : g ≠ g' := by
  rcases h.2 with ⟨h0, _⟩ | ⟨g1, cap1, cur, hv, _, hc, _⟩
  · cases h0
  · rcases h'.2 with ⟨h0, _⟩ | ⟨g2, cap2, cur2, hv2, _, hc2, _⟩
    · cases h0
    · simp only [Value.slice.injEq, Option.some.injEq, Addr.mk.injEq, and_true, true_and] at hv hv2
      obtain ⟨rfl, rfl⟩ := hv
      obtain ⟨rfl, rfl⟩ := hv2
      intro q
      rw [q, hc2] at hc
      simp at hc
theorem sameColumn_is (a b : Ent) {s : Bool} (hs : sameCol a b = s) (w : World) :
    Calls Tryz.prog 95 #[a.v, b.v] w fun e w' => e = .returned (.bool s) ∧ Below w.heap.size w w' := hs ▸ sameColumn_any a b w

set_option maxHeartbeats 8000000 in
set_option maxRecDepth 100000 in
theorem specReplay_core (b off cap : Nat) (ws : List Ent) (w : World) (hE : EntsAt w b off ws) (hok : ∀ e ∈ ws, e.ok) (hB : b < w.heap.size) (hlen : ws.length ≤ 1048576) :
    Calls Tryz.prog 81 #[.slice (some ⟨b, off, none⟩) ws.length cap] w fun r w' =>
      ∃ (g cp : Nat) (L : List Ent), r = .returned (.slice (some ⟨g, 0, none⟩) L.length cp) ∧ OwnC w' w.heap.size g cp L ∧ Below w.heap.size w w' ∧ L.length ≤ ws.length ∧ RepOf ws L := by
  have HE : Hid (EntsAt w b off ws) := hE
  have HO : Hid (∀ e ∈ ws, e.ok) := hok
  clear hE hok
  obtain ⟨W0, hW0⟩ : ∃ W0 : World, W0 = w.alloc (Obj.cells #[] 55) := ⟨_, rfl⟩
  have hb0 : Below w.heap.size w W0 := by rw [hW0]; exact (Below.refl _ _).alloc (Nat.le_refl _) _
  have hz0 : w.heap.size < W0.heap.size := by rw [hW0]; simp
  have HC0 : Hid (OwnC W0 w.heap.size w.heap.size 0 []) := by show OwnC W0 w.heap.size w.heap.size 0 []; rw [hW0]; exact ownC_new w
  have HE0 : Hid (EntsAt W0 b off ws) := HE.out.below hb0 hB
  go_enter Tryz.func81, Tryz.ntmps81
  go_wp2_with fail
  rw [← hW0]
  clear hW0
  refine (goodWrites_core b off cap ws _ HE0.out HO.out (by omega) hlen).mono ?_
  rintro e w1 ⟨r, rfl, hr, hb1⟩
  have HR : Hid (r = true ↔ GoodW ws) := hr
  clear hr
  have hs1 := hb1.size
  have k1 : Below w.heap.size w w1 := hb0.trans (hb1.mono (by omega))
  have HC1 : Hid (OwnC w1 w.heap.size w.heap.size 0 []) := HC0.out.below hb1 hz0
  cases r
  · have HN : Hid (¬ GoodW ws) := fun h => Bool.noConfusion (HR.out.2 h)
    go_wp2_with fail
    go_ret
    exact ⟨_, 0, [], rfl, HC1.out, k1, by simp, fun h => absurd h HN.out, fun _ => rfl⟩
  have HG : Hid (GoodW ws) := HR.out.1 rfl
  clear HR
  obtain ⟨W1, hW1⟩ : ∃ W1 : World, W1 = w1.alloc (Obj.cells #[] 102) := ⟨_, rfl⟩
  have hbA : Below w1.heap.size w1 W1 := by rw [hW1]; exact (Below.refl _ _).alloc (Nat.le_refl _) _
  have hzA : w1.heap.size < W1.heap.size := by rw [hW1]; simp
  have HL1 : Hid (OwnE W1 w1.heap.size w1.heap.size 0 []) := by
    show OwnE W1 w1.heap.size w1.heap.size 0 []
    rw [hW1]
    exact World.ownsRow_made w1 #[] 0 (Nat.le_refl _) (Nat.zero_le _) (by simp)
  have HE1 : Hid (EntsAt W1 b off ws) := (HE0.out.below hb1 (by omega)).below hbA (by omega)
  have HCA : Hid (OwnC W1 w.heap.size w.heap.size 0 []) := HC1.out.below hbA (by omega)
  go_wp2_with fail
  rw [← hW1]
  clear hW1
  go_loopw [4, 5] (fun o i wr => ∃ (k g cp : Nat) (L : List Ent), k ≤ ws.length ∧ i = .int .i64 k ∧ o = .slice (some ⟨g, 0, none⟩) L.length cp ∧ OwnE wr w1.heap.size g cp L ∧ Rep ws k L ∧ Below W1.heap.size W1 wr) (fun _ i _ => ws.length - (intOf i).toNat)
  case atStart => exact ⟨0, _, 0, [], Nat.zero_le _, rfl, rfl, HL1.out, rep_zero ws, Below.refl _ _⟩
  case round =>
    obtain ⟨k, g, cp, L, hk, rfl, rfl, hO, hK, hb⟩ := hrel
    obtain ⟨wo, rfl⟩ : ∃ wo : World, wo = wr := ⟨_, rfl⟩
    have HK : Hid (OwnE wo w1.heap.size g cp L ∧ Rep ws k L) := ⟨hO, hK⟩
    have hg := hO.lt
    have hLl := rep_len hK
    have hs := hb.size
    clear hO hK
    by_cases hlt : k < ws.length
    · obtain ⟨e, he⟩ : ∃ e, ws[k]? = some e := ⟨_, List.getElem?_eq_getElem hlt⟩
      have HEo : Hid (EntsAt wo b off ws) := HE1.out.below hb (by omega)
      obtain ⟨c0, c1, c2, c3, c4, c5⟩ := HEo.out k e he
      have HKe : Hid (ws[k]? = some e) := he
      clear he
      obtain ⟨W2, hW2⟩ : ∃ W2 : World, W2 = wo.alloc (Obj.cells #[.string e.row, .string e.fam, .string e.qual, .int .u64 e.ts, .int .i64 e.kind, .string e.val] 102) := ⟨_, rfl⟩
      have hbW : Below wo.heap.size wo W2 := by rw [hW2]; exact (Below.refl _ _).alloc (Nat.le_refl _) _
      have hzW : wo.heap.size < W2.heap.size := by rw [hW2]; simp
      have hzE : W2.heap.size = wo.heap.size + 1 := by rw [hW2]; simp
      have HN1 : Hid (EntsAt W2 wo.heap.size 0 [e]) := by show EntsAt W2 wo.heap.size 0 [e]; rw [hW2]; exact ent_new wo e
      have HL2 : Hid (OwnE W2 w1.heap.size g cp L) := HK.out.1.below hbW hg.2
      have hbX : Below W1.heap.size W1 W2 := hb.trans (hbW.mono hs)
      cases g2 : (e.kind == 0)
      · have HK2 : Hid (¬ e.kind = 0) := by show ¬ e.kind = 0; simpa using g2
        obtain ⟨W3, hW3⟩ : ∃ W3 : World, W3 = W2.alloc (Obj.cells #[] 102) := ⟨_, rfl⟩
        have hb3 : Below W2.heap.size W2 W3 := by rw [hW3]; exact (Below.refl _ _).alloc (Nat.le_refl _) _
        have hz3 : W2.heap.size < W3.heap.size := by rw [hW3]; simp
        have HL3 : Hid (OwnE W3 w1.heap.size g cp L) := HL2.out.below hb3 (by omega)
        have HN3 : Hid (EntsAt W3 wo.heap.size 0 [e]) := HN1.out.below hb3 hzW
        have HF3 : Hid (OwnE W3 W2.heap.size W2.heap.size 0 []) := by
          show OwnE W3 W2.heap.size W2.heap.size 0 []
          rw [hW3]
          exact World.ownsRow_made W2 #[] 0 (Nat.le_refl _) (Nat.zero_le _) (by simp)
        go_wp2_with fail
        rw [← hW2, ← hzE, ← hW3]
        clear hW2 hW3 hzE c0 c1 c2 c3 c4 c5
        go_loopw [7, 8] (fun l i wr => ∃ (j g2 cp2 : Nat), j ≤ L.length ∧ i = .int .i64 j ∧ l = .slice (some ⟨g2, 0, none⟩) (leftTo e L j).length cp2 ∧ OwnE wr W2.heap.size g2 cp2 (leftTo e L j) ∧ Below W2.heap.size W2 wr) (fun _ i _ => L.length - (intOf i).toNat)
        case atStart => exact ⟨0, _, 0, Nat.zero_le _, rfl, rfl, HF3.out, hb3⟩
        case round =>
          obtain ⟨j, g3, cp3, hj, rfl, rfl, hF, hbi⟩ := hrel
          have HF : Hid (OwnE wr W2.heap.size g3 cp3 (leftTo e L j)) := hF
          have hg3 := hF.lt
          have hlf := leftTo_len e L j
          clear hF
          have hsi := hbi.size
          by_cases hjl : j < L.length
          · obtain ⟨x, hx⟩ : ∃ x, L[j]? = some x := ⟨_, List.getElem?_eq_getElem hjl⟩
            have HX : Hid (L[j]? = some x) := hx
            have hec : ∀ wx, Below W2.heap.size W2 wx → EntsAt wx g 0 L ∧ EntsAt wx wo.heap.size 0 [e] := fun wx h => ⟨(HL2.out.below h (by omega)).at, HN1.out.below h hzW⟩
            have HEC : Hid (∀ wx, Below W2.heap.size W2 wx → EntsAt wx g 0 L ∧ EntsAt wx wo.heap.size 0 [e]) := hec
            clear hec hx
            obtain ⟨c0, c1, c2, c3, c4, c5⟩ := (HEC.out wr hbi).1 j x HX.out
            obtain ⟨d0, d1, d2, d3, d4, d5⟩ := (HEC.out wr hbi).2 0 e rfl
            simp only [Nat.zero_add, Nat.zero_mul] at c0 c1 c2 c3 c4 c5 d0 d1 d2 d3 d4 d5
            have z2 : (j : Int) < (L.length : Int) := by omega
            go_upto_region 15 with fail
            go_cut [9] (fun s wx => s = .bool (hit x e) ∧ Below wr.heap.size wr wx)
            case first =>
              obtain ⟨q0, q1, q2, q3, q4, q5⟩ := ents_out (HEC.out wr hbi).1 (by omega) HX.out
              obtain ⟨r0, r1, r2, r3, r4, r5⟩ := ents_out (HEC.out wr hbi).2 (by omega) (rfl : [e][0]? = some e)
              simp only [Nat.zero_add, Nat.zero_mul] at q0 q1 q2 q3 q4 q5 r0 r1 r2 r3 r4 r5
              clear c0 c1 c2 c3 c4 c5 d0 d1 d2 d3 d4 d5
              have inh : Nonempty (Out wr) := ⟨⟨wr, Below.refl _ _⟩⟩
              cases hsc : sameCol x e
              · have hh : hit x e = false := by unfold hit; rw [hsc]; rfl
                refine wp_region_out (by kernel_rfl) (by kernel_rfl) ?_
                repeat (go_big_quiet_step ((go_at_call 95; exact Calls.out_of (sameColumn_is x e hsc _))))
                refine wpQuiet_nil ?_
                rintro wx ⟨⟨wy, hby⟩, rfl⟩
                go_wp2_with fail
                go_meet
                exact ⟨by rw [hh], hby⟩
              · cases hts : (x.ts == e.ts)
                · cases hk2 : (e.kind == 2)
                  · have hh : hit x e = false := by unfold hit; rw [hsc, hts, hk2]; rfl
                    refine wp_region_out (by kernel_rfl) (by kernel_rfl) ?_
                    repeat (go_big_quiet_step ((go_at_call 95; exact Calls.out_of (sameColumn_is x e hsc _))))
                    refine wpQuiet_nil ?_
                    rintro wx ⟨⟨wy, hby⟩, rfl⟩
                    go_wp2_with fail
                    go_meet
                    exact ⟨by rw [hh], hby⟩
                  · have hh : hit x e = decide (x.ts ≤ e.ts) := by unfold hit; rw [hsc, hts, hk2]; rfl
                    refine wp_region_out (by kernel_rfl) (by kernel_rfl) ?_
                    repeat (go_big_quiet_step ((go_at_call 95; exact Calls.out_of (sameColumn_is x e hsc _))))
                    refine wpQuiet_nil ?_
                    rintro wx ⟨⟨wy, hby⟩, rfl⟩
                    go_wp2_with fail
                    go_meet
                    exact ⟨by rw [hh], hby⟩
                · have hh : hit x e = true := by unfold hit; rw [hsc, hts]; rfl
                  refine wp_region_out (by kernel_rfl) (by kernel_rfl) ?_
                  repeat (go_big_quiet_step ((go_at_call 95; exact Calls.out_of (sameColumn_is x e hsc _))))
                  refine wpQuiet_nil ?_
                  rintro wx ⟨⟨wy, hby⟩, rfl⟩
                  go_wp2_with fail
                  go_meet
                  exact ⟨by rw [hh], hby⟩
            case rest =>
            obtain ⟨rfl, h3⟩ := hcut
            have hb4 : Below W2.heap.size W2 wc := hbi.trans (h3.mono hsi)
            have HF4 : Hid (OwnE wc W2.heap.size g3 cp3 (leftTo e L j)) := HF.out.below h3 hg3.2
            have hs4 := h3.size
            clear c0 c1 c2 c3 c4 c5 d0 d1 d2 d3 d4 d5
            obtain ⟨c0, c1, c2, c3, c4, c5⟩ := (HEC.out wc hb4).1 j x HX.out
            simp only [Nat.zero_add, Nat.zero_mul] at c0 c1 c2 c3 c4 c5
            cases hh : hit x e
            · have HH : Hid (leftTo e L (j + 1) = leftTo e L j ++ [x]) := by show leftTo e L (j + 1) = leftTo e L j ++ [x]; rw [leftTo_succ HX.out, hh]; rfl
              go_wp2_with (at_builtin; refine wpList_append_ent _ rfl _ _ rfl W2.heap.size g3 cp3 _ _ (leftTo e L j) x rfl rfl rfl ?hO ?hc ?hl ?hb ?_)
              case hO => exact HF4.out.below ((Below.refl _ _).alloc (Nat.le_refl _) _) (by omega)
              case hc => exact ent_new wc x
              case hl => omega
              case hb => simp; omega
              intro g' cp' w' hO' hgr
              have HO' : Hid (OwnE w' W2.heap.size g' cp' (leftTo e L (j + 1))) := by show OwnE w' W2.heap.size g' cp' (leftTo e L (j + 1)); rw [HH.out]; exact hO'
              have hb' : Below W2.heap.size W2 w' := (hb4.alloc hb4.size _).grown hgr (by simp; omega) (fun j hj => by cases hj; omega)
              have hle : (leftTo e L (j + 1)).length = (leftTo e L j).length + 1 := by rw [HH.out]; simp
              have HLE : Hid ((leftTo e L (j + 1)).length = (leftTo e L j).length + 1) := hle
              clear hO' hgr hle
              go_wp2_with fail
              go_roundw
              case rel => exact ⟨j + 1, g', cp', by omega, by go_num, by rw [HLE.out], HO'.out, hb'⟩
              case measure => go_light; simp [intOf]; omega
            · have HH : Hid (leftTo e L (j + 1) = leftTo e L j) := by show leftTo e L (j + 1) = leftTo e L j; rw [leftTo_succ HX.out, hh]; simp
              go_wp2_with fail
              go_roundw
              case rel => exact ⟨j + 1, g3, cp3, by omega, by go_num, by rw [HH.out], by rw [HH.out]; exact HF4.out, hb4⟩
              case measure => go_light; simp [intOf]; omega
          · have HJ : Hid (j = L.length) := by show j = L.length; omega
            have HS' : Hid (Rep ws (k + 1) (leftTo e L j)) := by
              show Rep ws (k + 1) (leftTo e L j)
              rw [HJ.out, leftTo_all]
              exact rep_del HK.out.2 HKe.out HK2.out
            have hb5 : Below W1.heap.size W1 wr := hbX.trans (hbi.mono (by omega))
            go_wp2_with fail
            go_roundw
            case rel => exact ⟨k + 1, g3, cp3, leftTo e L j, by omega, by go_num, rfl, HF.out.mono (by omega), HS'.out, hb5⟩
            case measure => go_light; simp [intOf]; omega
      · have HK2 : Hid (e.kind = 0) := by show e.kind = 0; simpa using g2
        have HS' : Hid (Rep ws (k + 1) (into L e)) := rep_put HK.out.2 HKe.out HK2.out
        go_wp2_with fail
        rw [← hW2]
        clear hW2 hzE c0 c1 c2 c3 c4 c5
        refine (into_core g 0 cp L e _ HL2.out.at (by omega) (by omega)).mono ?_
        rintro e' w3 ⟨g', cp', rfl, hO', hb4⟩
        have HO' : Hid (OwnE w3 W2.heap.size g' cp' (into L e)) := hO'
        have hb5 := hbX.trans (hb4.mono (by omega))
        clear hO'
        go_wp2_with fail
        go_roundw
        case rel => exact ⟨k + 1, g', cp', into L e, by omega, by go_num, rfl, HO'.out.mono (by omega), HS'.out, hb5⟩
        case measure => go_light; simp [intOf]; omega
    · have hkk : k = ws.length := by omega
      have HKK : Hid (RepOf ws L) := by
        refine ⟨fun _ => ?_, fun h => absurd HG.out h⟩
        rw [← hkk]; exact HK.out.2
      clear hkk
      have hbw : Below w.heap.size w wo := (k1.trans (hbA.mono (by omega))).trans (hb.mono (by omega))
      have HCo : Hid (OwnC wo w.heap.size w.heap.size 0 []) := HCA.out.below hb (by omega)
      go_wp2_with fail
      go_loopw [3, 10] (fun o i wr => ∃ (m g5 cp5 : Nat), m ≤ L.length ∧ i = .int .i64 m ∧ o = .slice (some ⟨g5, 0, none⟩) m cp5 ∧ OwnC wr w.heap.size g5 cp5 (L.take m) ∧ OwnE wr w1.heap.size g cp L ∧ Below w.heap.size w wr) (fun _ i _ => L.length - (intOf i).toNat)
      case atStart => exact ⟨0, _, 0, Nat.zero_le _, rfl, rfl, HCo.out, HK.out.1, hbw⟩
      case round =>
        obtain ⟨m, g5, cp5, hm, rfl, rfl, hC, hL, hbm⟩ := hrel
        have HM : Hid (OwnC wr w.heap.size g5 cp5 (L.take m) ∧ OwnE wr w1.heap.size g cp L) := ⟨hC, hL⟩
        have hg5 := hC.lt
        have hgl := hL.lt
        have hne := hC.ne_ent hL
        have hsm := hbm.size
        have HTM : Hid (m = (L.take m).length) := by show m = (L.take m).length; rw [List.length_take]; omega
        clear hC hL
        by_cases hlt : m < L.length
        · obtain ⟨x, hx⟩ : ∃ x, L[m]? = some x := ⟨_, List.getElem?_eq_getElem hlt⟩
          have HX : Hid (L.take (m + 1) = L.take m ++ [x]) := by show L.take (m + 1) = L.take m ++ [x]; rw [List.take_add_one, hx]; rfl
          obtain ⟨c0, c1, c2, c3, c4, c5⟩ := HM.out.2.at m x hx
          simp only [Nat.zero_add, Nat.zero_mul] at c0 c1 c2 c3 c4 c5
          clear hx
          go_wp2_with fail
          refine (specCell_any x _).mono ?_
          rintro e' w3 ⟨rfl, hb3⟩
          have hs3 := hb3.size
          have HM3 : Hid (OwnC w3 w.heap.size g5 cp5 (L.take m) ∧ OwnE w3 w1.heap.size g cp L) := ⟨HM.out.1.below hb3 hg5.2, HM.out.2.below hb3 hgl.2⟩
          have hbm3 : Below w.heap.size w w3 := hbm.trans (hb3.mono (by omega))
          clear c0 c1 c2 c3 c4 c5 hb3
          go_wp2_with (at_builtin; refine wpList_append_cel _ rfl _ _ rfl w.heap.size g5 cp5 _ _ (L.take m) x rfl rfl HTM.out ?hO ?hc ?hl ?hb ?_)
          case hO => exact HM3.out.1.below ((Below.refl _ _).alloc (Nat.le_refl _) _) (by omega)
          case hc => exact cel_new w3 x
          case hl => rw [← HTM.out]; omega
          case hb => simp; omega
          intro g' cp' w' hO' hgr
          have HO' : Hid (OwnC w' w.heap.size g' cp' (L.take (m + 1))) := by show OwnC w' w.heap.size g' cp' (L.take (m + 1)); rw [HX.out]; exact hO'
          have hb' : Below w.heap.size w w' := (hbm3.alloc hbm3.size _).grown hgr (by simp; omega) (fun j hj => by cases hj; omega)
          have HL' : Hid (OwnE w' w1.heap.size g cp L) := OwnE.keptG (HM3.out.2.below ((Below.refl _ _).alloc (Nat.le_refl _) _) (by omega)) hgr (fun q => hne (Option.some.inj q).symm)
          clear hO' hgr
          go_wp2_with fail
          go_roundw
          case rel => exact ⟨m + 1, g', cp', by omega, by go_num, rfl, HO'.out, HL'.out, hb'⟩
          case measure => go_light; simp [intOf]; omega
        · have HT : Hid (L.take m = L) := List.take_of_length_le (by omega)
          go_wp2_with fail
          go_ret
          refine ⟨g5, cp5, L, ?_, ?_, hbm, hLl, HKK.out⟩
          · have e1 : m = L.length := by omega
            show Ending.returned (Value.slice (some ⟨g5, 0, none⟩) m cp5) = _
            rw [e1]
          · have h := HM.out.1
            rw [HT.out] at h
            exact h
end Go.Proofs.YtkidabedcgngcaaGreatDoor

/-
  The draws: cells.
-/
namespace Go.Proofs.YtkidabedcgngcaaGreatDoor
open Go.ChangeShapes Go.WideShapes Go.ChangeAt Go.RowKit Go.Deep
set_option linter.unusedVariables false
set_option linter.unusedSimpArgs false
set_option maxRecDepth 100000

/-- Cells drawn. -/
def CelP (base cb : Nat) (bv : Value) (n : Nat) (w : World) (e : Ending) (w' : World) : Prop := ∃ (g cp : Nat) (L : List Ent), e = .returned (.slice (some ⟨g, 0, none⟩) L.length cp) ∧ L.length ≤ 100 ∧ Hid (OwnC w' w.heap.size g cp L ∧ DInv base cb bv n w w' ∧ (∀ e ∈ L, e.ok) ∧ (∀ e ∈ L, e.kind = 0))
set_option maxHeartbeats 4000000 in
theorem drawCells_core (base cb : Nat) (a : Option Addr) (n cap : Nat) (w : World) (h : DrawAt base cb (.slice a n cap) n w) (hn : n ≤ 1048576) :
    Calls Tryz.prog 44 #[.pointer (some ⟨cb, 0, none⟩), .slice a n cap] w (CelP base cb (.slice a n cap) n w) := by
  have HD : Hid (DInv base cb (.slice a n cap) n w w) := DInv.start h
  clear h
  go_enter Tryz.func44, Tryz.ntmps44
  go_wp2_with fail
  refine (size_core a n cap w hn).mono ?_
  rintro e w1 ⟨k, rfl, hk, rfl⟩
  have HW : Hid (Calls Tryz.prog 82 #[.pointer (some ⟨cb, 0, none⟩), .int .i64 ((k : Int) + 6)] w1 fun r w' => ∃ (g cp : Nat) (es : List Ent), r = .returned (.slice (some ⟨g, 0, none⟩) es.length cp) ∧ es.length ≤ 100 ∧ LInv base cb (.slice a n cap) n w1 g cp es w') := by
    have h9 := writes_core base cb (.slice a n cap) n (k + 6) w1 HD.out.d (by omega)
    have e9 : ((k + 6 : Nat) : Int) = (k : Int) + 6 := by omega
    rw [e9] at h9
    exact h9
  go_wp2_with fail
  refine HW.out.mono ?_
  rintro e w2 ⟨g, cp, es, rfl, hl, hL⟩
  have HL : Hid (LInv base cb (.slice a n cap) n w1 g cp es w2) := hL
  clear hL HW
  go_wp2_with fail
  refine (specReplay_core g 0 cp es w2 HL.out.row.at (fun e he => (HL.out.ok e he).ok) HL.out.row.lt.2 (by omega)).mono ?_
  rintro e w3 ⟨g3, c3, L, rfl, hO3, hb3, hLl, hR3⟩
  have HE : Hid (CelP base cb (.slice a n cap) n w1 (.returned (.slice (some ⟨g3, 0, none⟩) L.length c3)) w3) := by
    have hd : DInv base cb (.slice a n cap) n w1 w2 := ⟨HL.out.d, HL.out.c, HD.out.lt, HD.out.hb⟩
    have hz := hd.c.size
    have hmem : ∀ e ∈ L, e ∈ es ∧ e.kind = 0 := fun e he => by
      by_cases hG : GoodW es
      · obtain ⟨i, _, hi, hk, _⟩ := ((hR3.1 hG).2 e).1 he
        exact ⟨List.mem_of_getElem? hi, hk⟩
      · rw [hR3.2 hG] at he; simp at he
    exact ⟨g3, c3, L, rfl, by omega, hO3.mono hz, hd.below hb3, fun e he => (HL.out.ok e (hmem e he).1).ok, fun e he => (hmem e he).2⟩
  clear hO3 hb3 hR3
  go_wp2_with fail
  go_ret
  exact HE.out
end Go.Proofs.YtkidabedcgngcaaGreatDoor

/-
  The draws: a filter.
-/
namespace Go.Proofs.YtkidabedcgngcaaGreatDoor
open Go.ChangeShapes Go.WideShapes Go.ChangeAt Go.RowKit Go.Deep
set_option linter.unusedVariables false
set_option linter.unusedSimpArgs false
set_option maxRecDepth 100000

theorem tree_any (base cb : Nat) (bv : Value) (n : Nat) (z : Int) (h0 : 0 ≤ z) (h3 : z ≤ 3) : TreC base cb bv n z 40 := by
  have t0 : TreC base cb bv n 0 1 := tree_step base cb bv n 0 0 (by omega) (by omega) (by omega) (fun q => absurd q (by omega))
  have t1 : TreC base cb bv n 1 4 := tree_step base cb bv n 1 1 (by omega) (by omega) (by omega) (fun _ => t0)
  have t2 : TreC base cb bv n 2 13 := tree_step base cb bv n 2 4 (by omega) (by omega) (by omega) (fun _ => t1)
  have t3 : TreC base cb bv n 3 40 := tree_step base cb bv n 3 13 (by omega) (by omega) (by omega) (fun _ => t2)
  have hz : z = 0 ∨ z = 1 ∨ z = 2 ∨ z = 3 := by omega
  rcases hz with rfl | rfl | rfl | rfl
  · exact fun w hw => (t0 w hw).mono fun e w' h => h.up (by omega)
  · exact fun w hw => (t1 w hw).mono fun e w' h => h.up (by omega)
  · exact fun w hw => (t2 w hw).mono fun e w' h => h.up (by omega)
  · exact t3
/-- A filter drawn, its nodes in a row of the call's own. -/
def FilP (base cb : Nat) (bv : Value) (n m : Nat) (w : World) (e : Ending) (w' : World) : Prop := ∃ (g cp : Nat) (xs : List Nd), e = .returned (.agg #[.slice (some ⟨g, 0, none⟩) xs.length cp]) ∧ xs.length ≤ m ∧ 0 < xs.length ∧ Hid ((∀ e ∈ xs, e.small) ∧ OwnNd w' w.heap.size g cp xs ∧ DInv base cb bv n w w')
set_option maxHeartbeats 4000000 in
theorem drawFilter_core (base cb : Nat) (bv : Value) (n : Nat) (w : World) (h : DrawAt base cb bv n w) :
    Calls Tryz.prog 43 #[.pointer (some ⟨cb, 0, none⟩)] w (FilP base cb bv n 40 w) := by
  obtain ⟨Wa, hWa⟩ : ∃ Wa : World, Wa = w.alloc (Obj.cells #[.slice none 0 0] 32) := ⟨_, rfl⟩
  have hba : Below w.heap.size w Wa := by rw [hWa]; exact (Below.refl _ _).alloc (Nat.le_refl _) _
  have HA : Hid (DInv base cb bv n w Wa ∧ BoxAt Wa w.heap.size 32 1 w.heap.size [.slice none 0 0]) := ⟨(DInv.start h).below hba, by rw [hWa]; exact boxAt_new w #[.slice none 0 0] (Nat.le_refl _) rfl⟩
  clear h hba
  go_enter Tryz.func43, Tryz.ntmps43
  go_wp2_with fail
  rw [← hWa]
  clear hWa
  refine (below_core base cb bv n 3 _ HA.out.1.d (by omega) (by omega)).mono ?_
  rintro e w1 ⟨x, rfl, hx0, hx1, hd1⟩
  have H1 : Hid (DInv base cb bv n w w1 ∧ BoxAt w1 w.heap.size 32 1 w.heap.size [.slice none 0 0]) := ⟨HA.out.1.call hd1, HA.out.2.chg hd1.2 (by have := HA.out.1.lt; omega)⟩
  clear hd1 HA
  have HC : Hid (Calls Tryz.prog 39 #[.pointer (some ⟨cb, 0, none⟩), .int .i64 (1 + x)] w1 (TreP base cb bv n 40 w1)) := tree_any base cb bv n (1 + x) (by omega) (by omega) w1 H1.out.1.d
  go_wp2_with fail
  refine HC.out.mono ?_
  rintro e w2 ⟨g, cp, xs, rfl, hl, h0, K2⟩
  have H2 : Hid (BoxAt w2 w.heap.size 32 1 w.heap.size [.slice none 0 0]) := H1.out.2.chg K2.out.2.2.c (by have := H1.out.1.lt; omega)
  obtain ⟨N, hN⟩ : ∃ N, N = xs.length := ⟨_, rfl⟩
  have HN : Hid (N = xs.length) := hN
  rw [← hN] at hl h0 ⊢
  clear hN
  obtain ⟨W3, hW3⟩ : ∃ W3 : World, W3 = w2.setCell ⟨w.heap.size, 0, none⟩ (.slice (some ⟨g, 0, none⟩) N cp) := ⟨_, rfl⟩
  have H3 : Hid (FilP base cb bv n 40 w (.returned (.agg #[.slice (some ⟨g, 0, none⟩) N cp])) W3) := by
    have hgl := K2.out.2.1.lt
    have hz1 := H1.out.2.lt.2
    have hc3 : Chg (fun k => k = w.heap.size) w2 W3 := by rw [hW3]; exact Chg.of_set _ _ _ _ rfl
    refine ⟨g, cp, xs, by rw [HN.out], by rw [← HN.out]; exact hl, by rw [← HN.out]; exact h0, K2.out.1, (K2.out.2.1.mono (by omega)).chg hc3 (by omega), ?_⟩
    have hd2 : DInv base cb bv n w w2 := ⟨K2.out.2.2.d, H1.out.1.c.trans K2.out.2.2.c, H1.out.1.lt, H1.out.1.hb⟩
    rw [hW3]
    exact hd2.grow (grown_set w2 w.heap.size 0 _) (fun k q => by cases q; exact Nat.le_refl _)
  have p0 : W3.cell? ⟨w.heap.size, 0, none⟩ = some (.slice (some ⟨g, 0, none⟩) N cp) := by
    rw [hW3]; exact (H2.out.set 0 (.slice (some ⟨g, 0, none⟩) N cp)).cell (j := 0) rfl
  have c0 := H2.out.cell (j := 0) rfl
  have f0 := H2.out.frozen 0
  clear K2 HC
  go_wp2_with fail
  rw [← hW3]
  exact bodyPost_ret (by simp [results, Tryz.results43, go_sem, p0]) rfl H3.out
end Go.Proofs.YtkidabedcgngcaaGreatDoor

