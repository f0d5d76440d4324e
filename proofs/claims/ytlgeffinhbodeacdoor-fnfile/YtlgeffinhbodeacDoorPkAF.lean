import Derived.Test.YtlgeffinhbodeacDoorPkAC
import Derived.Test.YtlgeffinhbodeacDoorPkAE
import Derived.Test.YtlgeffinhbodeacDoorPkAB
import Derived.Test.YtlgeffinhbodeacDoorPkAD
/-
  Runs that are valid: the loop of spec.ValidRun.
-/
namespace Go.Proofs.YtlgeffinhbodeacDoor
open Go.ChangeShapes Go.WideShapes Go.ChangeAt Go.RowKit Go.Deep
set_option linter.unusedVariables false

theorem okPair_f1 {p e : Ent} (h : (keyCmp p e != -1) = true) : okPair p e = false := by
  unfold okPair; simp at h; simp [h]
theorem okPair_t1 {p e : Ent} (h : (keyCmp p e != -1) = false) (h2 : (p.kind == 2) = false) : okPair p e = true := by
  unfold okPair; simp at h; simp [h, h2]
theorem okPair_t2 {p e : Ent} (h : (keyCmp p e != -1) = false) (h2 : (e.kind == 2) = false) : okPair p e = true := by
  unfold okPair; simp at h; simp [h, h2]
theorem okPair_s {p e : Ent} (h : (keyCmp p e != -1) = false) (h2 : (p.kind == 2) = true) (h3 : (e.kind == 2) = true) : okPair p e = !sameCol p e := by
  unfold okPair; simp at h; simp [h, h2, h3]

/-- How the test of spec.ValidRun on two neighbours comes out. -/
theorem pair_ways (p e : Ent) :
    ((keyCmp p e != -1) = true ∧ okPair p e = false) ∨ ((keyCmp p e != -1) = false ∧ (p.kind == 2) = false ∧ okPair p e = true) ∨
    ((keyCmp p e != -1) = false ∧ (p.kind == 2) = true ∧ (e.kind == 2) = false ∧ okPair p e = true) ∨
    ((keyCmp p e != -1) = false ∧ (p.kind == 2) = true ∧ (e.kind == 2) = true ∧ sameCol p e = true ∧ okPair p e = false) ∨
    ((keyCmp p e != -1) = false ∧ (p.kind == 2) = true ∧ (e.kind == 2) = true ∧ sameCol p e = false ∧ okPair p e = true) := by
  cases h1 : (keyCmp p e != -1)
  · cases h2 : (p.kind == 2)
    · exact .inr (.inl ⟨rfl, rfl, okPair_t1 h1 h2⟩)
    · cases h3 : (e.kind == 2)
      · exact .inr (.inr (.inl ⟨rfl, rfl, rfl, okPair_t2 h1 h3⟩))
      · cases h4 : sameCol p e
        · exact .inr (.inr (.inr (.inr ⟨rfl, rfl, rfl, rfl, by rw [okPair_s h1 h2 h3, h4]; rfl⟩)))
        · exact .inr (.inr (.inr (.inl ⟨rfl, rfl, rfl, rfl, by rw [okPair_s h1 h2 h3, h4]; rfl⟩)))
  · exact .inl ⟨rfl, okPair_f1 h1⟩

set_option maxHeartbeats 2000000 in
theorem specValidRun_core (b off cap : Nat) (es : List Ent) (w : World) (hE : EntsAt w b off es) (hok : ∀ e ∈ es, e.ok) (hB : b < w.heap.size) (hlen : es.length ≤ cap) (hcap : cap ≤ maxLen) :
    Calls Tryd.prog 15 #[.agg #[.slice (some ⟨b, off, none⟩) es.length cap]] w fun e w' =>
      ∃ r : Bool, e = .returned (.bool r) ∧ (r = true ↔ GoodR es) ∧ Below w.heap.size w w' := by
  obtain ⟨W0, hW0⟩ : ∃ W0 : World, W0 = w.alloc (Obj.cells #[.slice (some ⟨b, off, none⟩) es.length cap] 25) := ⟨_, rfl⟩
  have hb0 : Below w.heap.size w W0 := by rw [hW0]; exact (Below.refl _ _).alloc (Nat.le_refl _) _
  have hz0 : w.heap.size < W0.heap.size := by rw [hW0]; simp
  have ca : W0.cell? ⟨w.heap.size, 0, none⟩ = some (.slice (some ⟨b, off, none⟩) es.length cap) := by rw [hW0]; simp
  have HE : Hid (EntsAt W0 b off es) := hE.below hb0 hB
  have HO : Hid (∀ e ∈ es, e.ok) := hok
  clear hE hok
  unfold maxLen at hcap
  by_cases hbig : 10000 < es.length
  · have H : Hid (¬ GoodR es) := fun h => by have := h.1.1; omega
    go_enter Tryd.func15, Tryd.ntmps15
    go_wp2
    go_ret
    exact ⟨_, rfl, iffF H.out, (Below.refl _ _).alloc (Nat.le_refl _) _⟩
  go_enter Tryd.func15, Tryd.ntmps15
  go_wp2_with fail
  rw [← hW0]
  clear hW0
  go_loopw [3] (fun i wr => ∃ (k : Nat), k ≤ es.length ∧ i = .int .i64 k ∧ (∀ x ∈ es.take k, x.vld = true) ∧ PairsTo es k ∧ Below W0.heap.size W0 wr) (fun i _ => es.length - (intOf i).toNat)
  case atStart => exact ⟨0, Nat.zero_le _, rfl, by simp, fun i p e hi => by omega, Below.refl _ _⟩
  case round =>
    obtain ⟨k, hk, rfl, hv, hP, hb⟩ := hrel
    have HV : Hid ((∀ x ∈ es.take k, x.vld = true) ∧ PairsTo es k) := ⟨hv, hP⟩
    clear hv hP
    have hs2 := hb.size
    have car : wr.cell? ⟨w.heap.size, 0, none⟩ = some (.slice (some ⟨b, off, none⟩) es.length cap) := by rw [hb.cell (p := ⟨w.heap.size, 0, none⟩) (by show w.heap.size < _; omega)]; exact ca
    by_cases hlt : k < es.length
    · obtain ⟨e, he⟩ : ∃ e, es[k]? = some e := ⟨_, List.getElem?_eq_getElem hlt⟩
      have HEr := HE.out.below hb (by omega)
      obtain ⟨c0, c1, c2, c3, c4, c5⟩ := HEr k e he
      have HK : Hid (e.ok ∧ es[k]? = some e ∧ EntsAt wr b off es) := ⟨HO.out e (List.mem_of_getElem? he), he, HEr⟩
      clear he HEr
      go_wp2_with fail
      refine (specValid_core e.row e.fam e.qual e.val e.ts e.kind _ HK.out.1.row HK.out.1.fam HK.out.1.qual HK.out.1.val).mono ?_
      rintro e' w1 ⟨rfl, hb1⟩
      obtain ⟨hc1, hf1⟩ := bcell hb1
      have hz1 : wr.heap.size < w1.heap.size := by have := hb1.size; simp at this; omega
      have hb2 := (hb.alloc hb.size (Obj.cells #[.string e.row, .string e.fam, .string e.qual, .int .u64 e.ts, .int .i64 e.kind, .string e.val] 73)).trans (hb1.mono (by simp; omega))
      clear c0 c1 c2 c3 c4 c5
      cases hv : vE e.row e.fam e.qual e.kind e.val
      · have H : Hid (¬ GoodR es) := fun h => by
          have := h.1.2 e (List.mem_of_getElem? HK.out.2.1)
          unfold Ent.vld at this
          rw [hv] at this
          cases this
        go_wp2_with fail
        go_ret
        exact ⟨_, rfl, iffF H.out, hb0.trans (hb2.mono (by omega))⟩
      · have H : Hid (∀ x ∈ es.take (k + 1), x.vld = true) := vld_of_take HV.out.1 HK.out.2.1 hv
        by_cases hk0 : k = 0
        · subst hk0
          go_wp2_with fail
          go_roundw
          case rel => exact ⟨0 + 1, by omega, by go_num, H.out, fun i p e hi => by omega, hb2⟩
          case measure => simp [intOf]; omega
        · obtain ⟨m, rfl⟩ : ∃ m, k = m + 1 := ⟨k - 1, by omega⟩
          obtain ⟨p, hp⟩ : ∃ e, es[m]? = some e := ⟨_, List.getElem?_eq_getElem (by omega)⟩
          have hbw : Below wr.heap.size wr w1 := ((Below.refl _ _).alloc (Nat.le_refl _) (Obj.cells #[.string e.row, .string e.fam, .string e.qual, .int .u64 e.ts, .int .i64 e.kind, .string e.val] 73)).trans (hb1.mono (by simp))
          have car1 : w1.cell? ⟨w.heap.size, 0, none⟩ = some (.slice (some ⟨b, off, none⟩) es.length cap) := by rw [hbw.cell (p := ⟨w.heap.size, 0, none⟩) (by show w.heap.size < _; omega)]; exact car
          obtain ⟨d0, d1, d2, d3, d4, d5⟩ := HK.out.2.2.below hbw (by omega) m p hp
          have HKp : Hid (es[m]? = some p) := hp
          clear hp
          have hw : IntKind.i64.wrap (m : Int) = (m : Int) := Go.IntWalk.i64_in _ (by omega)
          go_wp2_with fail
          refine (specCompareKeys_any p e _).mono ?_
          rintro e' w2 ⟨rfl, hb3⟩
          obtain ⟨hc3, hf3⟩ := bcell hb3
          have hz3 : w1.heap.size < w2.heap.size := by have := hb3.size; simp at this; omega
          have hb4 := (hb2.alloc hb2.size (Obj.cells #[.string p.row, .string p.fam, .string p.qual, .int .u64 p.ts, .int .i64 p.kind, .string p.val] 73)).trans (hb3.mono (by have := hb2.size; simp; omega))
          clear d0 d1 d2 d3 d4 d5
          rcases pair_ways p e with ⟨g1, ho⟩ | ⟨g1, g2, ho⟩ | ⟨g1, g2, g3, ho⟩ | ⟨g1, g2, g3, g4, ho⟩ | ⟨g1, g2, g3, g4, ho⟩
          · have H2 : Hid (¬ GoodR es) := fun h => by
              have := h.2 m p e HKp.out HK.out.2.1
              rw [ho] at this; cases this
            go_wp2_with fail
            go_ret
            exact ⟨_, rfl, iffF H2.out, hb0.trans (hb4.mono (by omega))⟩
          · have H2 : Hid (PairsTo es (m + 1 + 1)) := pairsTo_succ HV.out.2 HKp.out HK.out.2.1 ho
            go_wp2_with fail
            go_roundw
            case rel => exact ⟨m + 1 + 1, by omega, by go_num, H.out, H2.out, hb4⟩
            case measure => simp [intOf]; omega
          · have H2 : Hid (PairsTo es (m + 1 + 1)) := pairsTo_succ HV.out.2 HKp.out HK.out.2.1 ho
            go_wp2_with fail
            go_roundw
            case rel => exact ⟨m + 1 + 1, by omega, by go_num, H.out, H2.out, hb4⟩
            case measure => simp [intOf]; omega
          · have H2 : Hid (¬ GoodR es) := fun h => by
              have := h.2 m p e HKp.out HK.out.2.1
              rw [ho] at this; cases this
            go_wp2_with fail
            refine (sameColumn_any p e _).mono ?_
            rintro e' w3 ⟨rfl, hb5⟩
            have hb6 := hb4.trans (hb5.mono hb4.size)
            go_wp2_with fail
            go_ret
            exact ⟨_, rfl, iffF H2.out, hb0.trans (hb6.mono (by omega))⟩
          · have H2 : Hid (PairsTo es (m + 1 + 1)) := pairsTo_succ HV.out.2 HKp.out HK.out.2.1 ho
            go_wp2_with fail
            refine (sameColumn_any p e _).mono ?_
            rintro e' w3 ⟨rfl, hb5⟩
            have hb6 := hb4.trans (hb5.mono hb4.size)
            go_wp2_with fail
            go_roundw
            case rel => exact ⟨m + 1 + 1, by omega, by go_num, H.out, H2.out, hb6⟩
            case measure => simp [intOf]; omega
    · go_wp2_with fail
      go_ret
      refine ⟨_, rfl, iffT ⟨⟨by omega, fun e he => ?_⟩, pairs_of_to HV.out.2 (by omega)⟩, hb0.trans (hb.mono (by omega))⟩
      have := HV.out.1
      rw [List.take_of_length_le (by omega)] at this
      exact this e he
end Go.Proofs.YtlgeffinhbodeacDoor

/-
  Runs in memory, each a slice that is not nil; spec.l3GoodRuns, impl.validStack, spec.l3Says.
-/
namespace Go.Proofs.YtlgeffinhbodeacDoor
open Go.ChangeShapes Go.WideShapes Go.ChangeAt Go.RowKit Go.Deep
set_option linter.unusedVariables false
set_option linter.unusedSimpArgs false

/-- A run: where its entries lie, and what they are. -/
structure Rm where
  b : Nat
  off : Nat
  cap : Nat
  es : List Ent
abbrev Rm.u (r : Rm) : Value := .slice (some ⟨r.b, r.off, none⟩) r.es.length r.cap
structure Rm.at (w : World) (r : Rm) : Prop where
  ents : EntsAt w r.b r.off r.es
  lt : r.b < w.heap.size
  len : r.es.length ≤ r.cap
  cap : r.cap ≤ maxLen
theorem Rm.at.below {w w' : World} {r : Rm} (h : r.at w) (hb : Below w.heap.size w w') : r.at w' := ⟨h.ents.below hb h.lt, by have := hb.size; have := h.lt; omega, h.len, h.cap⟩
def RmsAt (w : World) (b off : Nat) (l : List Rm) : Prop := ∀ i r, l[i]? = some r → w.cell? ⟨b, off + i, none⟩ = some r.u ∧ r.at w
theorem RmsAt.below {w w' : World} {b off : Nat} {l : List Rm} (h : RmsAt w b off l) (hb : Below w.heap.size w w') (hlt : b < w.heap.size) : RmsAt w' b off l := by
  intro i r hr
  obtain ⟨h1, h2⟩ := h i r hr
  exact ⟨by rw [hb.cell (p := ⟨b, off + i, none⟩) (by exact hlt)]; exact h1, h2.below hb⟩
def okM (l : List Rm) : Prop := ∀ r ∈ l, ∀ e ∈ r.es, e.ok
abbrev esM (l : List Rm) : List (List Ent) := l.map Rm.es

theorem goodRs_of {l : List Rm} (h : l.length ≤ 50) (k : ∀ r ∈ l, GoodR r.es) : GoodRs (esM l) := by
  refine ⟨by simpa using h, fun es he => ?_⟩
  obtain ⟨r, hr, rfl⟩ := List.mem_map.1 he
  exact k r hr
theorem goodRs_mem {l : List Rm} (h : GoodRs (esM l)) {r : Rm} (hr : r ∈ l) : GoodR r.es := h.2 _ (List.mem_map.2 ⟨r, hr, rfl⟩)
theorem mem_take_succ {α : Type} {l : List α} {k : Nat} {a x : α} (h : l[k]? = some a) (hx : x ∈ l.take (k + 1)) : x ∈ l.take k ∨ x = a := by
  rw [List.take_add_one, h] at hx
  simpa using hx

/-- What the entries of a run say of a key. -/
def saysF (e : Ent) : List Ent → Int → Int × ByteArray
  | [], h => (h, ⟨#[]⟩)
  | d :: r, h => if sameCol d e = true then
      (if (d.kind == 0) = true ∧ (d.ts == e.ts) = true then (1, d.val) else if (d.kind == 1) = true ∧ (d.ts == e.ts) = true then (2, ⟨#[]⟩) else if (d.kind == 2) = true ∧ e.ts ≤ d.ts then saysF e r 2 else saysF e r h)
    else saysF e r h
theorem saysF_kills (e : Ent) : ∀ (es : List Ent) (h : Int), (∀ d ∈ es, d.vld = true) → ((saysF e es h).1 ≠ 0 ↔ h ≠ 0 ∨ ∃ d ∈ es, kills d e = true)
  | [], h, _ => by simp [saysF]
  | d :: r, h, hv => by
    have ih2 := saysF_kills e r 2 (fun x hx => hv x (List.mem_cons_of_mem _ hx))
    have ihh := saysF_kills e r h (fun x hx => hv x (List.mem_cons_of_mem _ hx))
    have hd := hv d (by simp)
    unfold Ent.vld vE at hd
    have hk := of_decide_eq_true hd
    unfold saysF
    have hex : (∃ x ∈ d :: r, kills x e = true) ↔ kills d e = true ∨ ∃ x ∈ r, kills x e = true := by simp
    rw [hex]
    by_cases hc : sameCol d e = true
    · rw [if_pos hc]
      by_cases h0 : (d.kind == 0) = true ∧ (d.ts == e.ts) = true
      · rw [if_pos h0]
        have : kills d e = true := by
          unfold kills
          have : d.kind = 0 := by simpa using h0.1
          simp [hc, this, h0.2]
        simp [this]
      · rw [if_neg h0]
        by_cases h1 : (d.kind == 1) = true ∧ (d.ts == e.ts) = true
        · rw [if_pos h1]
          have : kills d e = true := by
            unfold kills
            have : d.kind = 1 := by simpa using h1.1
            simp [hc, this, h1.2]
          simp [this]
        · rw [if_neg h1]
          by_cases h2 : (d.kind == 2) = true ∧ e.ts ≤ d.ts
          · rw [if_pos h2, ih2]
            have : kills d e = true := by
              unfold kills
              have : d.kind = 2 := by simpa using h2.1
              simp [hc, this, h2.2]
            simp [this]
          · rw [if_neg h2, ihh]
            have : kills d e = false := by
              unfold kills
              simp only [beq_iff_eq] at h0 h1 h2
              rw [hc]
              by_cases hk2 : d.kind = 2
              · simp [hk2]
                have : ¬ e.ts ≤ d.ts := fun q => h2 ⟨hk2, q⟩
                omega
              · simp [hk2]
                intro q
                have : d.kind = 0 ∨ d.kind = 1 := by omega
                rcases this with z | z
                · exact h0 ⟨z, q⟩
                · exact h1 ⟨z, q⟩
            simp [this]
    · rw [if_neg hc, ihh]
      have : kills d e = false := by
        unfold kills
        simp [hc]
      simp [this]
theorem saysF_drop {e d : Ent} {es : List Ent} {k : Nat} {h : Int} (hd : es[k]? = some d) : saysF e (es.drop k) h = saysF e (d :: es.drop (k + 1)) h := by
  congr 1
  obtain ⟨h1, rfl⟩ := List.getElem?_eq_some_iff.1 hd
  exact List.drop_eq_getElem_cons h1
theorem rms_out {w : World} {b off m : Nat} {l : List Rm} {r : Rm} (h : RmsAt w b off l) (hb : b < w.heap.size) (hr : l[m]? = some r) : (∀ n : Out w, n.u.cell? ⟨b, off + m, none⟩ = some (.slice (some ⟨r.b, r.off, none⟩) r.es.length r.cap)) ∧ ∀ n : Out w, r.at n.u :=
  ⟨fun n => (h.below n.out hb m r hr).1, fun n => (h.below n.out hb m r hr).2⟩
end Go.Proofs.YtlgeffinhbodeacDoor

/-
  spec.l3Says.
-/
namespace Go.Proofs.YtlgeffinhbodeacDoor
open Go.ChangeShapes Go.WideShapes Go.ChangeAt Go.RowKit Go.Deep
set_option linter.unusedVariables false
set_option linter.unusedSimpArgs false

theorem ent_box (w : World) (e : Ent) : EntsAt (w.alloc (Obj.cells #[.string e.row, .string e.fam, .string e.qual, .int .u64 e.ts, .int .i64 e.kind, .string e.val] 73)) w.heap.size 0 [e] := by
  intro j y hy
  obtain rfl : j = 0 := by
    have := (List.getElem?_eq_some_iff.1 hy).1
    simpa using this
  simp at hy
  subst hy
  simp

theorem saysF_cons (e d : Ent) (r : List Ent) (h : Int) : saysF e (d :: r) h = if sameCol d e = true then
      (if (d.kind == 0) = true ∧ (d.ts == e.ts) = true then (1, d.val) else if (d.kind == 1) = true ∧ (d.ts == e.ts) = true then (2, ⟨#[]⟩) else if (d.kind == 2) = true ∧ e.ts ≤ d.ts then saysF e r 2 else saysF e r h)
    else saysF e r h := rfl

end Go.Proofs.YtlgeffinhbodeacDoor

/-
  The draws: a list of writes.
-/
namespace Go.Proofs.YtlgeffinhbodeacDoor
open Go.ChangeShapes Go.WideShapes Go.ChangeAt Go.RowKit Go.Deep
set_option linter.unusedVariables false
set_option linter.unusedSimpArgs false
set_option maxRecDepth 100000

/-- A list of writes of the call's own, beside the drawing. -/
structure LInv (base cb : Nat) (bv : Value) (n : Nat) (w : World) (g cp : Nat) (es : List Ent) (wr : World) : Prop where
  row : OwnE wr w.heap.size g cp es
  ok : ∀ e ∈ es, e.small
  d : DrawAt base cb bv n wr
  c : Chg (fun k => k = cb) w wr
  lt : cb < w.heap.size
  hb : base ≤ w.heap.size
/-- And a variable with an entry. -/
structure YInv (base cb : Nat) (bv : Value) (n : Nat) (w : World) (g cp : Nat) (es : List Ent) (vb : Nat) (f : Ent) (wr : World) : Prop extends LInv base cb bv n w g cp es wr where
  var : OwnE wr w.heap.size vb 1 [f]
  ne : ¬ g = vb
theorem LInv.call {base cb : Nat} {bv : Value} {n : Nat} {w : World} {g cp : Nat} {es : List Ent} {wr w1 : World} (h : LInv base cb bv n w g cp es wr) (hd : Drew base cb bv n wr w1) : LInv base cb bv n w g cp es w1 :=
  ⟨own_chg h.row hd.2 (fun k q => by simp [Value.ownBlock] at q; subst q; have := h.row.lt.1; have := h.lt; omega), h.ok, hd.1, h.c.trans hd.2, h.lt, h.hb⟩
theorem LInv.below {base cb : Nat} {bv : Value} {n : Nat} {w : World} {g cp : Nat} {es : List Ent} {wr w1 : World} (h : LInv base cb bv n w g cp es wr) (hb : Below wr.heap.size wr w1) : LInv base cb bv n w g cp es w1 :=
  ⟨h.row.below hb h.row.lt.2, h.ok, h.d.below hb, h.c.trans (Chg.of_below hb), h.lt, h.hb⟩
theorem LInv.make {base cb : Nat} {bv : Value} {n : Nat} {w : World} {g cp : Nat} {es : List Ent} {wr : World} (h : LInv base cb bv n w g cp es wr) (f : Ent) : YInv base cb bv n w g cp es wr.heap.size f (wr.alloc (Obj.cells #[.string f.row, .string f.fam, .string f.qual, .int .u64 f.ts, .int .i64 f.kind, .string f.val] 73)) :=
  { h.below ((Below.refl _ _).alloc (Nat.le_refl _) _) with
    var := ownE_new wr w.heap.size f h.c.size
    ne := by have := h.row.lt.2; omega }
theorem YInv.call {base cb : Nat} {bv : Value} {n : Nat} {w : World} {g cp : Nat} {es : List Ent} {vb : Nat} {f : Ent} {wr w1 : World} (h : YInv base cb bv n w g cp es vb f wr) (hd : Drew base cb bv n wr w1) : YInv base cb bv n w g cp es vb f w1 :=
  { h.toLInv.call hd with
    var := own_chg h.var hd.2 (fun k q => by simp [Value.ownBlock] at q; subst q; have := h.var.lt.1; have := h.lt; omega)
    ne := h.ne }
theorem YInv.set {base cb : Nat} {bv : Value} {n : Nat} {w : World} {g cp : Nat} {es : List Ent} {vb : Nat} {f : Ent} {wr : World} (h : YInv base cb bv n w g cp es vb f wr) (j : Nat) (f' : Ent) (u : Value) (hj : j < 6) (hc : f'.cells = f.cells.set j u) : YInv base cb bv n w g cp es vb f' (wr.setCell ⟨vb, j, none⟩ u) := by
  have h1 := h.var.set 0 j f f' u rfl hj hc
  simp only [Nat.zero_mul, Nat.zero_add] at h1
  have hl := h.var.lt
  have hcb := h.lt
  have hbb := h.hb
  have hcg : Chg (fun k => k = vb) wr (wr.setCell ⟨vb, j, none⟩ u) := Chg.of_set _ _ _ _ rfl
  exact { row := own_chg h.row hcg (fun k q => by simp [Value.ownBlock] at q; subst q; exact h.ne), ok := h.ok, d := h.d.chg hcg (by omega) (fun k q => by omega), c := Chg.grown_new h.c (grown_set wr vb j u) (fun k hk => by cases hk; exact hl.1), lt := h.lt, hb := h.hb, var := h1, ne := h.ne }
theorem YInv.cells {base cb : Nat} {bv : Value} {n : Nat} {w : World} {g cp : Nat} {es : List Ent} {vb : Nat} {f : Ent} {wr : World} (h : YInv base cb bv n w g cp es vb f wr) :
    (wr.cell? ⟨vb, 0, none⟩ = some (.string f.row) ∧ wr.cell? ⟨vb, 1, none⟩ = some (.string f.fam) ∧ wr.cell? ⟨vb, 2, none⟩ = some (.string f.qual) ∧ wr.cell? ⟨vb, 3, none⟩ = some (.int .u64 f.ts) ∧ wr.cell? ⟨vb, 4, none⟩ = some (.int .i64 f.kind) ∧ wr.cell? ⟨vb, 5, none⟩ = some (.string f.val)) ∧ ∀ j, wr.frozen? ⟨vb, j, none⟩ = false := by
  have := h.var.at 0 f rfl
  simp only [Nat.zero_add, Nat.zero_mul] at this
  exact ⟨this, fun j => World.ownsRow.frozenAt h.var j⟩
theorem YInv.push {base cb : Nat} {bv : Value} {n : Nat} {w : World} {g cp : Nat} {es : List Ent} {vb : Nat} {f : Ent} {wr w' : World} {o : Obj} (h : YInv base cb bv n w g cp es vb f wr) (hf : f.small) {g' cp' : Nat} (hO : OwnE w' w.heap.size g' cp' (es ++ [f])) (hgr : (wr.alloc o).grownBy w' (some g)) : LInv base cb bv n w g' cp' (es ++ [f]) w' := by
  have hb : Below wr.heap.size wr (wr.alloc o) := (Below.refl _ _).alloc (Nat.le_refl _) _
  have hl := h.row.lt
  have hcb := h.lt
  have hbb := h.hb
  refine ⟨hO, fun e he => ?_, ?_, ?_, h.lt, h.hb⟩
  · rcases List.mem_append.1 he with q | q
    · exact h.ok e q
    · simp at q; subst q; exact hf
  · exact (h.d.below hb).chg (Chg.of_grown (S := fun k => k = g) hgr (fun k hk => by cases hk; rfl)) (by omega) (fun k q => by omega)
  · exact Chg.grown_new (h.c.trans (Chg.of_below hb)) hgr (fun k hk => by cases hk; exact hl.1)

set_option maxHeartbeats 4000000 in
theorem writes_core (base cb : Nat) (bv : Value) (n : Nat) (most : Nat) (w : World) (h : DrawAt base cb bv n w) (hm : most ≤ 100) :
    Calls Tryd.prog 60 #[.pointer (some ⟨cb, 0, none⟩), .int .i64 most] w fun r w' => ∃ (g cp : Nat) (es : List Ent), r = .returned (.slice (some ⟨g, 0, none⟩) es.length cp) ∧ es.length ≤ 100 ∧ LInv base cb bv n w g cp es w' := by
  have HD : Hid (DrawAt base cb bv n w) := h
  have hlt := h.lt
  have hbase := h.base
  clear h
  go_enter Tryd.func60, Tryd.ntmps60
  go_wp2_with fail
  refine (below_core base cb bv n ((most : Int) / 2 + 1) _ HD.out (by omega) (by omega)).mono ?_
  rintro e w1 ⟨x, rfl, hx0, hx1, hd1⟩
  obtain ⟨W2, hW2⟩ : ∃ W2 : World, W2 = w1.alloc (Obj.cells #[] 73) := ⟨_, rfl⟩
  have H2 : Hid (LInv base cb bv n w w1.heap.size 0 [] W2) := by
    have hb : Below w1.heap.size w1 W2 := by rw [hW2]; exact (Below.refl _ _).alloc (Nat.le_refl _) _
    refine ⟨?_, fun e he => by simp at he, hd1.1.below hb, hd1.2.trans (Chg.of_below hb), hlt.2, hbase⟩
    rw [hW2]
    exact World.ownsRow_made w1 #[] 0 hd1.2.size (Nat.zero_le _) (by simp)
  obtain ⟨m, hm2⟩ : ∃ m : Nat, (most : Int) / 2 + x = (m : Int) := ⟨((most : Int) / 2 + x).toNat, by omega⟩
  have hm3 : m ≤ 100 := by omega
  go_wp2_with fail
  rw [← hW2]
  clear hW2 hm2 hd1
  go_loopw [6, 7] (fun o i wr => ∃ (k g cp : Nat) (es : List Ent), k ≤ m ∧ i = .int .i64 k ∧ o = .slice (some ⟨g, 0, none⟩) k cp ∧ es.length = k ∧ LInv base cb bv n w g cp es wr) (fun _ i _ => m - (intOf i).toNat)
  case atStart => exact ⟨0, _, 0, [], Nat.zero_le _, rfl, rfl, rfl, H2.out⟩
  case round =>
    obtain ⟨k, g, cp, es, hk, rfl, rfl, hel, hL⟩ := hrel
    have HL : Hid (es.length = k ∧ LInv base cb bv n w g cp es wr) := ⟨hel, hL⟩
    clear hel hL
    by_cases hlk : k < m
    · have zk : (k : Int) < (m : Int) := by omega
      go_wp2_with fail
      refine (write_core base cb bv n _ HL.out.2.d).mono ?_
      rintro e w3 ⟨f, rfl, hf, hd3⟩
      have HL3 : Hid (LInv base cb bv n w g cp es w3) := HL.out.2.call hd3
      clear hd3
      obtain ⟨W4, hW4⟩ : ∃ W4 : World, W4 = w3.alloc (Obj.cells #[.string f.row, .string f.fam, .string f.qual, .int .u64 f.ts, .int .i64 f.kind, .string f.val] 73) := ⟨_, rfl⟩
      have HY4 : Hid (YInv base cb bv n w g cp es w3.heap.size f W4 ∧ f.small ∧ es.length = k) := ⟨by rw [hW4]; exact HL3.out.make f, hf, HL.out.1⟩
      go_upto_region 7 with fail
      rw [← hW4]
      clear hW4
      generalize w3.heap.size = vb at *
      by_cases hk0 : k = 0
      · have zk0 : ¬ (0 : Int) < (k : Int) := by omega
        clear hk0
        obtain ⟨⟨k0, k1, k2, k3, k4, k5⟩, _⟩ := HY4.out.1.cells
        have hgX := HY4.out.1.row.lt
        have hsX := HY4.out.1.c.size
        have HKl : Hid (k = es.length) := HY4.out.2.2.symm
        go_wp2_with (at_builtin; refine wpList_append_ent _ rfl _ _ rfl w.heap.size g cp _ _ es f rfl rfl HKl.out ?hO ?hc ?hl ?hb ?_)
        case hO => exact HY4.out.1.row.below ((Below.refl _ _).alloc (Nat.le_refl _) _) (by omega)
        case hc => exact ent_box W4 f
        case hl => rw [← HKl.out]; omega
        case hb => first | (simp; omega) | omega
        intro g' cp' w' hO' hgr
        have HN : Hid (LInv base cb bv n w g' cp' (es ++ [f]) w' ∧ (es ++ [f]).length = k + 1) := ⟨HY4.out.1.push HY4.out.2.1 hO' hgr, by simp [HY4.out.2.2]⟩
        clear hO' hgr
        go_wp2_with fail
        go_roundw
        case rel => exact ⟨k + 1, g', cp', es ++ [f], by omega, by go_num, rfl, HN.out.2, HN.out.1⟩
        case measure => go_light; simp [intOf]; omega
      · have zk0 : (0 : Int) < (k : Int) := by omega
        go_wp2_with fail
        refine (once_core base cb bv n 2 _ HY4.out.1.d (by omega) (by omega)).mono ?_
        rintro e w5 ⟨v, rfl, hv, hd5⟩
        have HY5 : Hid (YInv base cb bv n w g cp es vb f w5 ∧ f.small ∧ es.length = k) := ⟨HY4.out.1.call hd5, HY4.out.2⟩
        clear hd5
        rcases hv with rfl | rfl
        · go_wp2_with fail
          refine (below_core base cb bv n (k : Int) _ HY5.out.1.d (by omega) (by omega)).mono ?_
          rintro e w6 ⟨y, rfl, hy0, hy1, hd6⟩
          have HY6 : Hid (YInv base cb bv n w g cp es vb f w6 ∧ f.small ∧ es.length = k) := ⟨HY5.out.1.call hd6, HY5.out.2⟩
          clear hd6
          obtain ⟨j, rfl⟩ := Int.eq_ofNat_of_zero_le hy0
          obtain ⟨x, hx⟩ : ∃ x, es[j]? = some x := ⟨_, List.getElem?_eq_getElem (by have := HY6.out.2.2; omega)⟩
          have HXs : Hid (x.small) := HY6.out.1.ok x (List.mem_of_getElem? hx)
          have hA := HY6.out.1.set 0 { f with row := x.row } (.string x.row) (by omega) rfl
          have hB := hA.set 1 { f with row := x.row, fam := x.fam } (.string x.fam) (by omega) rfl
          have hC := hB.set 2 { f with row := x.row, fam := x.fam, qual := x.qual } (.string x.qual) (by omega) rfl
          obtain ⟨a0, a1, a2, _⟩ := HY6.out.1.row.at j x hx
          obtain ⟨b0, b1, b2, _⟩ := hA.row.at j x hx
          obtain ⟨c0, c1, c2, _⟩ := hB.row.at j x hx
          simp only [Nat.zero_add] at a0 a1 a2 b0 b1 b2 c0 c1 c2
          obtain ⟨⟨k0, _⟩, kf⟩ := HY6.out.1.cells
          obtain ⟨⟨_, k1, _⟩, kg⟩ := hA.cells
          obtain ⟨⟨_, _, k2, _⟩, kh⟩ := hB.cells
          have kf0 := kf 0
          have kg1 := kg 1
          have kh2 := kh 2
          simp only at k1 k2
          obtain ⟨W7, hW7⟩ : ∃ W7 : World, W7 = ((w6.setCell ⟨vb, 0, none⟩ (.string x.row)).setCell ⟨vb, 1, none⟩ (.string x.fam)).setCell ⟨vb, 2, none⟩ (.string x.qual) := ⟨_, rfl⟩
          have HY7 : Hid (YInv base cb bv n w g cp es vb { f with row := x.row, fam := x.fam, qual := x.qual } W7 ∧ ({ f with row := x.row, fam := x.fam, qual := x.qual } : Ent).small ∧ es.length = k) := by
            refine ⟨by rw [hW7]; exact hC, ⟨HXs.out.row, HXs.out.fam, HXs.out.qual, hf.val, hf.ts, hf.kind⟩, HY6.out.2.2⟩
          clear hA hB hC kf kg kh hx
          go_upto_region 12 with fail
          rw [← hW7]
          clear hW7 a0 a1 a2 b0 b1 b2 c0 c1 c2 k0 k1 k2 kf0 kg1 kh2
          generalize ({ f with row := x.row, fam := x.fam, qual := x.qual } : Ent) = f7 at *
          obtain ⟨⟨k0, k1, k2, k3, k4, k5⟩, _⟩ := HY7.out.1.cells
          have hgX := HY7.out.1.row.lt
          have hsX := HY7.out.1.c.size
          have HKl : Hid (k = es.length) := HY7.out.2.2.symm
          go_wp2_with (at_builtin; refine wpList_append_ent _ rfl _ _ rfl w.heap.size g cp _ _ es f7 rfl rfl HKl.out ?hO ?hc ?hl ?hb ?_)
          case hO => exact HY7.out.1.row.below ((Below.refl _ _).alloc (Nat.le_refl _) _) (by omega)
          case hc => exact ent_box W7 f7
          case hl => rw [← HKl.out]; omega
          case hb => first | (simp; omega) | omega
          intro g' cp' w' hO' hgr
          have HN : Hid (LInv base cb bv n w g' cp' (es ++ [f7]) w' ∧ (es ++ [f7]).length = k + 1) := ⟨HY7.out.1.push HY7.out.2.1 hO' hgr, by simp [HY7.out.2.2]⟩
          clear hO' hgr
          go_wp2_with fail
          go_roundw
          case rel => exact ⟨k + 1, g', cp', es ++ [f7], by omega, by go_num, rfl, HN.out.2, HN.out.1⟩
          case measure => go_light; simp [intOf]; omega
        ·
          obtain ⟨⟨k0, k1, k2, k3, k4, k5⟩, _⟩ := HY5.out.1.cells
          have hgX := HY5.out.1.row.lt
          have hsX := HY5.out.1.c.size
          have HKl : Hid (k = es.length) := HY5.out.2.2.symm
          go_wp2_with (at_builtin; refine wpList_append_ent _ rfl _ _ rfl w.heap.size g cp _ _ es f rfl rfl HKl.out ?hO ?hc ?hl ?hb ?_)
          case hO => exact HY5.out.1.row.below ((Below.refl _ _).alloc (Nat.le_refl _) _) (by omega)
          case hc => exact ent_box w5 f
          case hl => rw [← HKl.out]; omega
          case hb => first | (simp; omega) | omega
          intro g' cp' w' hO' hgr
          have HN : Hid (LInv base cb bv n w g' cp' (es ++ [f]) w' ∧ (es ++ [f]).length = k + 1) := ⟨HY5.out.1.push HY5.out.2.1 hO' hgr, by simp [HY5.out.2.2]⟩
          clear hO' hgr
          go_wp2_with fail
          go_roundw
          case rel => exact ⟨k + 1, g', cp', es ++ [f], by omega, by go_num, rfl, HN.out.2, HN.out.1⟩
          case measure => go_light; simp [intOf]; omega
    · have zk : ¬ (k : Int) < (m : Int) := by omega
      have HE : Hid (k = es.length) := HL.out.1.symm
      go_wp2_with fail
      go_ret
      refine ⟨g, cp, es, ?_, by rw [← HE.out]; omega, HL.out.2⟩
      show Ending.returned (Value.slice (some ⟨g, 0, none⟩) k cp) = _
      rw [HE.out]
end Go.Proofs.YtlgeffinhbodeacDoor

/-
  spec.BuildRun.
-/
namespace Go.Proofs.YtlgeffinhbodeacDoor
open Go.ChangeShapes Go.WideShapes Go.ChangeAt Go.RowKit Go.Deep
set_option linter.unusedVariables false

theorem ent_new (wx : World) (f : Ent) : EntsAt (wx.alloc (Obj.cells #[.string f.row, .string f.fam, .string f.qual, .int .u64 f.ts, .int .i64 f.kind, .string f.val] 73)) wx.heap.size 0 [f] := by
  intro j y hy
  obtain rfl : j = 0 := by
    have := (List.getElem?_eq_some_iff.1 hy).1
    simpa using this
  simp at hy
  subst hy
  simp

theorem OwnE.setBelow {w : World} {base g cap : Nat} {es : List Ent} (h : OwnE w base g cap es) (a : Addr) (ha : a.block < base) (u : Value) : OwnE (w.setCell a u) base g cap es := ownsRow_setCell_below h ha u

/-- The deletes of the column among the first 'j'. -/
def LargestTo (ws : List Ent) (e : Ent) (j : Nat) : Prop := ∀ i v, i < j → ws[i]? = some v → v.kind = 2 → sameCol v e = true → v.ts ≤ e.ts
theorem largest_of_to {ws : List Ent} {e : Ent} {j : Nat} (h : LargestTo ws e j) (hj : ws.length ≤ j) : Largest ws e := by
  intro v hv h1 h2
  obtain ⟨i, hi⟩ := List.getElem?_of_mem hv
  exact h i v (by have := (List.getElem?_eq_some_iff.1 hi).1; omega) hi h1 h2
theorem largestTo_succ {ws : List Ent} {e v : Ent} {j : Nat} (h : LargestTo ws e j) (hv : ws[j]? = some v) (hk : v.kind = 2 → sameCol v e = true → v.ts ≤ e.ts) : LargestTo ws e (j + 1) := by
  intro i u hi hu h1 h2
  by_cases e1 : i = j
  · subst e1
    rw [hv] at hu
    simp at hu
    subst hu
    exact hk h1 h2
  · exact h i u (by omega) hu h1 h2
theorem largestTo_bad {ws : List Ent} {e v : Ent} {j k : Nat} (hv : ws[j]? = some v) (h1 : v.kind = 2) (h2 : sameCol v e = true) (h3 : ¬ v.ts ≤ e.ts) (hk : j < k) : ¬ LargestTo ws e k := fun h => h3 (h j v hk hv h1 h2)
theorem largestTo_mono {ws : List Ent} {e : Ent} {j k : Nat} (h : LargestTo ws e k) (hj : j ≤ k) : LargestTo ws e j := fun i v hi => h i v (by omega)

set_option maxHeartbeats 4000000 in
theorem specBuild_core (b off cap : Nat) (ws : List Ent) (w : World) (hE : EntsAt w b off ws) (hok : ∀ e ∈ ws, e.ok) (hB : b < w.heap.size) (hlen : ws.length ≤ 1048576) :
    Calls Tryd.prog 59 #[.slice (some ⟨b, off, none⟩) ws.length cap] w fun r w' =>
      ∃ (g cp : Nat) (R : List Ent), r = .returned (.agg #[.slice (some ⟨g, 0, none⟩) R.length cp]) ∧ OwnE w' w.heap.size g cp R ∧ Below w.heap.size w w' ∧ R.length ≤ ws.length ∧ (GoodW ws → Kept ws ws.length R) ∧ (¬ GoodW ws → R = []) := by
  have HE : Hid (EntsAt w b off ws) := hE
  have HO : Hid (∀ e ∈ ws, e.ok) := hok
  clear hE hok
  obtain ⟨W0, hW0⟩ : ∃ W0 : World, W0 = (w.alloc (Obj.cells #[.slice none 0 0] 25)).alloc (Obj.cells #[] 73) := ⟨_, rfl⟩
  have hb0 : Below w.heap.size w W0 := by rw [hW0]; exact ((Below.refl _ _).alloc (Nat.le_refl _) _).alloc (by simp) _
  have hz0 : w.heap.size + 1 < W0.heap.size := by rw [hW0]; simp
  have ca : W0.cell? ⟨w.heap.size, 0, none⟩ = some (.slice none 0 0) := by rw [hW0]; simp
  have cf : W0.frozen? ⟨w.heap.size, 0, none⟩ = false := by rw [hW0]; simp
  have HS : Hid (OwnE W0 (w.heap.size + 1) (w.heap.size + 1) 0 []) := by
    show OwnE W0 (w.heap.size + 1) (w.heap.size + 1) 0 []
    have h := World.ownsRow_made (base := w.heap.size + 1) (e := 73) (size := 6) (w.alloc (Obj.cells #[.slice none 0 0] 25)) #[] 0 (by simp) (Nat.zero_le _) (by simp)
    rw [hW0]
    have h3 : ((w.alloc (Obj.cells #[.slice none 0 0] 25)).alloc (Obj.cells #[] 73)).ownsRow (w.heap.size + 1) 73 6 (.slice (some ⟨w.heap.size + 1, 0, none⟩) 0 0) 0 [] := by simpa using h
    exact h3
  have HE0 : Hid (EntsAt W0 b off ws) := HE.out.below hb0 hB
  go_enter Tryd.func59, Tryd.ntmps59
  go_wp2_with fail
  rw [← hW0]
  clear hW0
  refine (goodWrites_core b off cap ws _ HE0.out HO.out (by omega) hlen).mono ?_
  rintro e w1 ⟨r, rfl, hr, hb1⟩
  have HR : Hid (r = true ↔ GoodW ws) := hr
  clear hr
  have hs1 := hb1.size
  have ca1 : w1.cell? ⟨w.heap.size, 0, none⟩ = some (.slice none 0 0) := by rw [hb1.cell (p := ⟨w.heap.size, 0, none⟩) (by show w.heap.size < _; omega)]; exact ca
  have cf1 : w1.frozen? ⟨w.heap.size, 0, none⟩ = false := by rw [hb1.frozen (p := ⟨w.heap.size, 0, none⟩) (by show w.heap.size < _; omega)]; exact cf
  have HS1 : Hid (OwnE w1 (w.heap.size + 1) (w.heap.size + 1) 0 []) := HS.out.below hb1 (by omega)
  have HE1 : Hid (EntsAt w1 b off ws) := HE0.out.below hb1 (by omega)
  have k1 : Below w.heap.size w w1 := hb0.trans (hb1.mono (by omega))
  cases r
  · have HN : Hid (¬ GoodW ws) := fun h => Bool.noConfusion (HR.out.2 h)
    go_wp2_with fail
    refine bodyPost_ret (v := .agg #[.slice (some ⟨w.heap.size + 1, 0, none⟩) 0 0]) (by simp [results, Tryd.results59, go_sem, ca1]) rfl ⟨_, _, [], rfl, ?_, k1.setCell (by show w.heap.size ≤ w.heap.size; omega) _, by simp, fun h => absurd h HN.out, fun _ => rfl⟩
    exact (HS1.out.setBelow ⟨w.heap.size, 0, none⟩ (by show w.heap.size < _; omega) _).mono (by omega)
  have HG : Hid (GoodW ws) := HR.out.1 rfl
  clear HR
  go_wp2_with fail
  go_loopw [3, 4] (fun o i wr => ∃ (k g cp : Nat) (R : List Ent), k ≤ ws.length ∧ i = .int .i64 k ∧ o = .slice (some ⟨g, 0, none⟩) R.length cp ∧ OwnE wr (w.heap.size + 1) g cp R ∧ Kept ws k R ∧ R.length ≤ k ∧ Below w1.heap.size w1 wr) (fun _ i _ => ws.length - (intOf i).toNat)
  case atStart => exact ⟨0, _, 0, [], Nat.zero_le _, rfl, rfl, HS1.out, kept_zero ws, Nat.le_refl _, Below.refl _ _⟩
  case round =>
    obtain ⟨k, g, cp, R, hk, rfl, rfl, hO, hK, hRl, hb⟩ := hrel
    obtain ⟨wo, rfl⟩ : ∃ wo : World, wo = wr := ⟨_, rfl⟩
    have HK : Hid (OwnE wo (w.heap.size + 1) g cp R ∧ Kept ws k R) := ⟨hO, hK⟩
    have hg := hO.lt
    have hs := hb.size
    clear hO hK
    by_cases hlt : k < ws.length
    · obtain ⟨e, he⟩ : ∃ e, ws[k]? = some e := ⟨_, List.getElem?_eq_getElem hlt⟩
      have HEo : Hid (EntsAt wo b off ws) := HE1.out.below hb (by omega)
      obtain ⟨c0, c1, c2, c3, c4, c5⟩ := HEo.out k e he
      have HKe : Hid (ws[k]? = some e) := he
      clear he
      obtain ⟨W1, hW1⟩ : ∃ W1 : World, W1 = wo.alloc (Obj.cells #[.string e.row, .string e.fam, .string e.qual, .int .u64 e.ts, .int .i64 e.kind, .string e.val] 73) := ⟨_, rfl⟩
      have hbW : Below wo.heap.size wo W1 := by rw [hW1]; exact (Below.refl _ _).alloc (Nat.le_refl _) _
      have hzW : wo.heap.size < W1.heap.size := by rw [hW1]; simp
      have HN1 : Hid (EntsAt W1 wo.heap.size 0 [e]) := by show EntsAt W1 wo.heap.size 0 [e]; rw [hW1]; exact ent_new wo e
      have HEW : Hid (EntsAt W1 b off ws) := HEo.out.below hbW (by omega)
      cases g2 : (e.kind != 2)
      · have hk2 : e.kind = 2 := by simpa using g2
        have HK2 : Hid (e.kind = 2) := hk2
        clear hk2
        go_wp2_with fail
        rw [← hW1]
        clear hW1 c0 c1 c2 c3 c4 c5
        go_loopw [6, 7] (fun l i wr => ∃ (j : Nat) (lb : Bool), j ≤ ws.length ∧ i = .int .i64 j ∧ l = .bool lb ∧ (lb = true ↔ LargestTo ws e j) ∧ Below W1.heap.size W1 wr) (fun _ i _ => ws.length - (intOf i).toNat)
        case atStart => exact ⟨0, true, Nat.zero_le _, rfl, rfl, iffT (fun i v hi => by omega), Below.refl _ _⟩
        case round =>
          obtain ⟨j, lb, hj, rfl, rfl, hl, hbi⟩ := hrel
          have HL : Hid (lb = true ↔ LargestTo ws e j) := hl
          clear hl
          have hsi := hbi.size
          have hzw : wo.heap.size < wr.heap.size := by omega
          by_cases hjl : j < ws.length
          · obtain ⟨v, hv⟩ : ∃ v, ws[j]? = some v := ⟨_, List.getElem?_eq_getElem hjl⟩
            obtain ⟨c0, c1, c2, c3, c4, c5⟩ := HEW.out.below hbi (by omega) j v hv
            obtain ⟨d0, d1, d2, d3, d4, d5⟩ := HN1.out.below hbi (by omega) 0 e rfl
            simp only [Nat.zero_add, Nat.zero_mul] at d0 d1 d2 d3 d4 d5
            have HVj : Hid (ws[j]? = some v) := hv
            clear hv
            have hb7 : Below W1.heap.size W1 (wr.alloc (Obj.cells #[.string v.row, .string v.fam, .string v.qual, .int .u64 v.ts, .int .i64 v.kind, .string v.val] 73)) := hbi.alloc hbi.size _
            cases gv : (v.kind == 2)
            · have HL' : Hid (lb = true ↔ LargestTo ws e (j + 1)) := ⟨fun h => largestTo_succ (HL.out.1 h) HVj.out (fun q => by simp at gv; exact absurd q gv), fun h => HL.out.2 (largestTo_mono h (by omega))⟩
              go_wp2_with fail
              go_roundw
              case rel => exact ⟨j + 1, lb, by omega, by go_num, rfl, HL'.out, hb7⟩
              case measure => go_light; simp [intOf]; omega
            · have HV2 : Hid (v.kind = 2) := by show v.kind = 2; simpa using gv
              go_wp2_with fail
              refine (sameColumn_any v e _).mono ?_
              rintro e' w8 ⟨rfl, hb8⟩
              have hb9 := hb7.trans (hb8.mono (by simp; omega))
              obtain ⟨hc8, hf8⟩ := bcell hb8
              have hs8 := hb8.size
              have cw : ∀ o, w8.cell? ⟨wo.heap.size, o, none⟩ = wr.cell? ⟨wo.heap.size, o, none⟩ := fun o => by
                rw [hc8 _ _ (by simp; omega), World.cell?_alloc_past _ _ _ hzw]
              cases hsc : sameCol v e
              · have HL' : Hid (lb = true ↔ LargestTo ws e (j + 1)) := ⟨fun h => largestTo_succ (HL.out.1 h) HVj.out (fun _ q => by rw [hsc] at q; cases q), fun h => HL.out.2 (largestTo_mono h (by omega))⟩
                go_wp2_with fail
                go_roundw
                case rel => exact ⟨j + 1, lb, by omega, by go_num, rfl, HL'.out, hb9⟩
                case measure => go_light; simp [intOf]; omega
              · by_cases ht : e.ts < v.ts
                · have HL' : Hid (false = true ↔ LargestTo ws e (j + 1)) := iffF (largestTo_bad HVj.out HV2.out hsc (by omega) (by omega))
                  go_wp2_with fail
                  go_roundw
                  case rel => exact ⟨j + 1, false, by omega, by go_num, rfl, HL'.out, hb9⟩
                  case measure => go_light; simp [intOf]; omega
                · have HL' : Hid (lb = true ↔ LargestTo ws e (j + 1)) := ⟨fun h => largestTo_succ (HL.out.1 h) HVj.out (fun _ _ => by omega), fun h => HL.out.2 (largestTo_mono h (by omega))⟩
                  go_wp2_with fail
                  go_roundw
                  case rel => exact ⟨j + 1, lb, by omega, by go_num, rfl, HL'.out, hb9⟩
                  case measure => go_light; simp [intOf]; omega
          · have HLL : Hid (lb = true ↔ Largest ws e) := ⟨fun h => largest_of_to (HL.out.1 h) (by omega), fun h => HL.out.2 (fun i v hi hv => h v (List.mem_of_getElem? hv))⟩
            have hb3 : Below w1.heap.size w1 wr := (hb.trans (hbW.mono (by omega))).trans (hbi.mono (by omega))
            have HK3 : Hid (OwnE wr (w.heap.size + 1) g cp R) := (HK.out.1.below hbW hg.2).below hbi (by omega)
            cases lb
            · have HS' : Hid (Kept ws (k + 1) R) := kept_skip HK.out.2 HKe.out (fun h => by
                rcases h with h | h
                · exact h.1 HK2.out
                · exact Bool.noConfusion (HLL.out.2 h.2))
              go_wp2_with fail
              go_roundw
              case rel => exact ⟨k + 1, g, cp, R, by omega, by go_num, rfl, HK3.out, HS'.out, by omega, hb3⟩
              case measure => go_light; simp [intOf]; omega
            · have HS' : Hid (Kept ws (k + 1) (into R e)) := kept_step HG.out.2 HK.out.2 HKe.out (.inr ⟨HK2.out, HLL.out.1 rfl⟩)
              obtain ⟨d0, d1, d2, d3, d4, d5⟩ := HN1.out.below hbi (by omega) 0 e rfl
              simp only [Nat.zero_add, Nat.zero_mul] at d0 d1 d2 d3 d4 d5
              go_wp2_with fail
              refine (into_core g 0 cp R e _ HK3.out.at (by have := HK3.out.lt; omega) (by omega)).mono ?_
              rintro e' w3 ⟨g', cp', rfl, hO', hb4⟩
              have HO' : Hid (OwnE w3 wr.heap.size g' cp' (into R e)) := hO'
              have hlen' := length_into R e
              have hb5 := hb3.trans (hb4.mono (by omega))
              clear hO'
              go_wp2_with fail
              go_roundw
              case rel => exact ⟨k + 1, g', cp', into R e, by omega, by go_num, rfl, HO'.out.mono (by omega), HS'.out, by omega, hb5⟩
              case measure => go_light; simp [intOf]; omega
      · have HK2 : Hid (¬ e.kind = 2) := by show ¬ e.kind = 2; simpa using g2
        go_wp2_with fail
        rw [← hW1]
        clear hW1 c0 c1 c2 c3 c4 c5
        refine (stands_core b off cap ws k e _ HEW.out (by omega) HKe.out hlen).mono ?_
        rintro e' w2 ⟨s, rfl, hst, hb2⟩
        have HST : Hid (s = true ↔ Stands ws k) := hst
        clear hst
        have hs2 := hb2.size
        have hb3 : Below w1.heap.size w1 w2 := (hb.trans (hbW.mono (by omega))).trans (hb2.mono (by omega))
        have HK3 : Hid (OwnE w2 (w.heap.size + 1) g cp R) := (HK.out.1.below hbW hg.2).below hb2 (by omega)
        cases s
        · have HS' : Hid (Kept ws (k + 1) R) := kept_skip HK.out.2 HKe.out (fun h => by
            rcases h with h | h
            · exact Bool.noConfusion (HST.out.2 h.2)
            · exact HK2.out h.1)
          go_wp2_with fail
          go_roundw
          case rel => exact ⟨k + 1, g, cp, R, by omega, by go_num, rfl, HK3.out, HS'.out, by omega, hb3⟩
          case measure => go_light; simp [intOf]; omega
        · have HS' : Hid (Kept ws (k + 1) (into R e)) := kept_step HG.out.2 HK.out.2 HKe.out (.inl ⟨HK2.out, HST.out.1 rfl⟩)
          obtain ⟨d0, d1, d2, d3, d4, d5⟩ := HN1.out.below hb2 (by omega) 0 e rfl
          simp only [Nat.zero_add, Nat.zero_mul] at d0 d1 d2 d3 d4 d5
          go_wp2_with fail
          refine (into_core g 0 cp R e _ HK3.out.at (by have := HK3.out.lt; omega) (by omega)).mono ?_
          rintro e' w3 ⟨g', cp', rfl, hO', hb4⟩
          have HO' : Hid (OwnE w3 w2.heap.size g' cp' (into R e)) := hO'
          have hlen' := length_into R e
          have hb5 := hb3.trans (hb4.mono (by omega))
          clear hO'
          go_wp2_with fail
          go_roundw
          case rel => exact ⟨k + 1, g', cp', into R e, by omega, by go_num, rfl, HO'.out.mono (by omega), HS'.out, by omega, hb5⟩
          case measure => go_light; simp [intOf]; omega
    · have hkk : k = ws.length := by omega
      have ca2 : wo.cell? ⟨w.heap.size, 0, none⟩ = some (.slice none 0 0) := by rw [hb.cell (p := ⟨w.heap.size, 0, none⟩) (by show w.heap.size < _; omega)]; exact ca1
      have cf2 : wo.frozen? ⟨w.heap.size, 0, none⟩ = false := by rw [hb.frozen (p := ⟨w.heap.size, 0, none⟩) (by show w.heap.size < _; omega)]; exact cf1
      have HKK : Hid (Kept ws ws.length R) := by show Kept ws ws.length R; rw [← hkk]; exact HK.out.2
      go_wp2_with fail
      refine bodyPost_ret (v := .agg #[.slice (some ⟨g, 0, none⟩) R.length cp]) (by simp [results, Tryd.results59, go_sem, ca2]) rfl ⟨_, _, R, rfl, ?_, (k1.trans (hb.mono (by omega))).setCell (by show w.heap.size ≤ w.heap.size; omega) _, by omega, fun _ => HKK.out, fun h => absurd HG.out h⟩
      exact (HK.out.1.setBelow ⟨w.heap.size, 0, none⟩ (by show w.heap.size < _; omega) _).mono (by omega)
end Go.Proofs.YtlgeffinhbodeacDoor

/-
  The draws: their beginning, sizes, one run.
-/
namespace Go.Proofs.YtlgeffinhbodeacDoor
open Go.ChangeShapes Go.WideShapes Go.ChangeAt Go.RowKit Go.Deep
set_option linter.unusedVariables false
set_option linter.unusedSimpArgs false
set_option maxRecDepth 100000

set_option maxHeartbeats 1000000 in
theorem new_core (bv : Value) (n : Nat) (w : World) (h : CodeAt w w.heap.size bv n) :
    Calls Tryd.prog 28 #[bv] w fun e w' => e = .returned (.pointer (some ⟨w.heap.size, 0, none⟩)) ∧ DrawAt w.heap.size w.heap.size bv n w' ∧ Below w.heap.size w w' := by
  have HC : Hid (CodeAt w w.heap.size bv n) := h
  have hn := h.1
  have fin : ∀ x : Int, DrawAt w.heap.size w.heap.size bv n (w.alloc (Obj.cells #[bv, .int .i64 0, .int .i64 x] 105)) ∧ Below w.heap.size w (w.alloc (Obj.cells #[bv, .int .i64 0, .int .i64 x] 105)) := fun x => by
    have hb : Below w.heap.size w (w.alloc (Obj.cells #[bv, .int .i64 0, .int .i64 x] 105)) := (Below.refl _ _).alloc (Nat.le_refl _) _
    refine ⟨⟨⟨0, x, Nat.zero_le _, ?_⟩, HC.out.chg (T := fun _ => False) (Chg.of_below hb) (Nat.le_refl _) (fun k q => q.elim), hb.size⟩, hb⟩
    exact World.ownsRow_lit (base := w.heap.size) (e := 105) (size := 3) w #[bv, .int .i64 0, .int .i64 x] 1 (Nat.le_refl _) (by decide) rfl
  have HF : Hid (∀ x : Int, DrawAt w.heap.size w.heap.size bv n (w.alloc (Obj.cells #[bv, .int .i64 0, .int .i64 x] 105)) ∧ Below w.heap.size w (w.alloc (Obj.cells #[bv, .int .i64 0, .int .i64 x] 105))) := fin
  clear fin
  rcases h.2 with ⟨a, cap, rfl, rfl⟩ | ⟨b, off, cap, rfl, hlt, hx⟩
  · go_enter Tryd.func28, Tryd.ntmps28
    go_wp2_with fail
    go_loopw [3, 4] (fun h i wr => (∃ x : Int, h = .int .i64 x) ∧ i = .int .i64 0 ∧ wr = w) (fun _ _ _ => 0)
    case atStart => exact ⟨⟨_, rfl⟩, rfl, rfl⟩
    case round =>
      obtain ⟨⟨x, rfl⟩, rfl, rfl⟩ := hrel
      go_wp2_with fail
      go_ret
      exact ⟨rfl, (HF.out x).1, (HF.out x).2⟩
  · have HX : Hid (∀ k, k < n → ∃ x : Int, w.cell? ⟨b, off + k, none⟩ = some (.int .u8 x) ∧ 0 ≤ x ∧ x < 256) := hx
    clear hx h
    go_enter Tryd.func28, Tryd.ntmps28
    go_wp2_with fail
    go_loopw [3, 4] (fun h i wr => ∃ (k : Nat) (x : Int), k ≤ n ∧ h = .int .i64 x ∧ i = .int .i64 k ∧ wr = w) (fun _ i _ => n - (intOf i).toNat)
    case atStart => exact ⟨0, _, Nat.zero_le _, rfl, rfl, rfl⟩
    case round =>
      obtain ⟨k, x, hk, rfl, rfl, rfl⟩ := hrel
      by_cases hkn : k < n
      · obtain ⟨y, hc, hy0, hy1⟩ := HX.out k hkn
        have zk : (k : Int) < (n : Int) := by omega
        go_wp2_with fail
        go_roundw
        case rel => exact ⟨k + 1, _, by omega, rfl, by go_num, trivial⟩
        case measure => go_light; simp [intOf]; omega
      · have zk : ¬ (k : Int) < (n : Int) := by omega
        go_wp2_with fail
        go_ret
        exact ⟨rfl, (HF.out x).1, (HF.out x).2⟩

set_option maxHeartbeats 400000 in
theorem size_core (a : Option Addr) (n cap : Nat) (w : World) (hn : n ≤ 1048576) :
    Calls Tryd.prog 30 #[.slice a n cap] w fun e w' => ∃ k : Nat, e = .returned (.int .i64 k) ∧ k ≤ 22 ∧ w' = w := by
  by_cases hb : (22 : Int) < 8 + (n : Int) / 16
  · go_enter Tryd.func30, Tryd.ntmps30
    go_wp2_with fail
    go_ret
    exact ⟨22, rfl, Nat.le_refl _, rfl⟩
  · obtain ⟨k, hk⟩ : ∃ k : Nat, (8 : Int) + (n : Int) / 16 = (k : Int) := ⟨8 + n / 16, by omega⟩
    have hk2 : k ≤ 22 := by omega
    go_enter Tryd.func30, Tryd.ntmps30
    go_wp2_with fail
    go_ret
    exact ⟨k, rfl, hk2, rfl⟩

set_option maxHeartbeats 1000000 in
theorem run_core (base cb : Nat) (bv : Value) (n : Nat) (most : Nat) (w : World) (h : DrawAt base cb bv n w) (hm : most ≤ 100) :
    Calls Tryd.prog 29 #[.pointer (some ⟨cb, 0, none⟩), .int .i64 most] w fun r w' => ∃ (g cp : Nat) (es : List Ent), r = .returned (.agg #[.slice (some ⟨g, 0, none⟩) es.length cp]) ∧ es.length ≤ 100 ∧ LInv base cb bv n w g cp es w' := by
  have hlt := h.lt
  have hbase := h.base
  obtain ⟨Wa, hWa⟩ : ∃ Wa : World, Wa = w.alloc (Obj.cells #[.slice none 0 0] 25) := ⟨_, rfl⟩
  have hba : Below w.heap.size w Wa := by rw [hWa]; exact (Below.refl _ _).alloc (Nat.le_refl _) _
  have hza : Wa.heap.size = w.heap.size + 1 := by rw [hWa]; simp
  have HRes : Hid (Wa.cell? ⟨w.heap.size, 0, none⟩ = some (.slice none 0 0) ∧ Wa.frozen? ⟨w.heap.size, 0, none⟩ = false) := by
    rw [hWa]
    exact ⟨by simp, World.ownsRow.frozenAt (World.ownsRow_lit (base := 0) (e := 25) (size := 1) w #[.slice none 0 0] 1 (Nat.zero_le _) (by decide) rfl) 0⟩
  have HD : Hid (DrawAt base cb bv n Wa) := h.below hba
  clear h
  go_enter Tryd.func29, Tryd.ntmps29
  go_wp2_with fail
  rw [← hWa]
  clear hWa
  refine (writes_core base cb bv n most _ HD.out hm).mono ?_
  rintro e w1 ⟨g1, cp1, ws, rfl, hwl, hL1⟩
  have HL1 : Hid (LInv base cb bv n Wa g1 cp1 ws w1) := hL1
  have hg1 := hL1.row.lt
  clear hL1
  go_wp2_with fail
  refine (specBuild_core g1 0 cp1 ws _ HL1.out.row.at (fun e he => (HL1.out.ok e he).ok) hg1.2 (by omega)).mono ?_
  rintro e w2 ⟨g2, cp2, R, rfl, hO2, hb2, hRl, hK, hN⟩
  have hg2 := hO2.lt
  have hs1 := HL1.out.c.size
  have hok : ∀ e ∈ R, e.small := by
    intro e he
    by_cases hg : GoodW ws
    · obtain ⟨i, _, hi, _⟩ := ((hK hg).2 e).1 he
      exact HL1.out.ok e (List.mem_of_getElem? hi)
    · rw [hN hg] at he; simp at he
  have hC2 : Chg (fun k => k = cb) w w2 := ((Chg.of_below hba).trans HL1.out.c).trans (Chg.of_below hb2)
  have s2 := hb2.size
  have hne : ¬ w.heap.size = cb := by omega
  have r2 : w2.cell? ⟨w.heap.size, 0, none⟩ = some (.slice none 0 0) := by
    rw [hb2.cell (p := ⟨w.heap.size, 0, none⟩) (by show w.heap.size < w1.heap.size; omega), HL1.out.c.cell (p := ⟨w.heap.size, 0, none⟩) (by show w.heap.size < Wa.heap.size; omega) hne]; exact HRes.out.1
  have f2 : w2.frozen? ⟨w.heap.size, 0, none⟩ = false := by
    rw [hb2.frozen (p := ⟨w.heap.size, 0, none⟩) (by show w.heap.size < w1.heap.size; omega), HL1.out.c.frozen (p := ⟨w.heap.size, 0, none⟩) (by show w.heap.size < Wa.heap.size; omega) hne]; exact HRes.out.2
  have HFin : Hid (LInv base cb bv n w g2 cp2 R (w2.setCell ⟨w.heap.size, 0, none⟩ (.slice (some ⟨g2, 0, none⟩) R.length cp2)) ∧ R.length ≤ 100) := by
    have hcg : Chg (fun k => k = w.heap.size) w2 (w2.setCell ⟨w.heap.size, 0, none⟩ (.slice (some ⟨g2, 0, none⟩) R.length cp2)) := Chg.of_set _ _ _ _ rfl
    refine ⟨⟨?_, hok, ((HL1.out.d.below hb2).chg hcg (by omega) (fun k q => by omega)), ?_, hlt.2, hbase⟩, by omega⟩
    · exact OwnE.mono (own_chg hO2 hcg (fun k q => by simp [Value.ownBlock] at q; subst q; omega)) (by omega)
    · exact Chg.grown_new hC2 (grown_set w2 w.heap.size 0 _) (fun k hk => by cases hk; exact Nat.le_refl _)
  clear hO2 hK hN hok hC2
  go_wp2_with fail
  exact bodyPost_ret (v := .agg #[.slice (some ⟨g2, 0, none⟩) R.length cp2]) (by simp [results, Tryd.results29, go_sem, World.cell?_setCell_same _ _ _ r2]) rfl ⟨g2, cp2, R, rfl, HFin.out.2, HFin.out.1⟩
end Go.Proofs.YtlgeffinhbodeacDoor

/-
  The draws: an entry spoilt.
-/
namespace Go.Proofs.YtlgeffinhbodeacDoor
open Go.ChangeShapes Go.WideShapes Go.ChangeAt Go.RowKit Go.Deep
set_option linter.unusedVariables false
set_option linter.unusedSimpArgs false
set_option maxRecDepth 100000

theorem WInv.below {base cb : Nat} {bv : Value} {n : Nat} {w : World} {eb rb : Nat} {f : Ent} {wr w1 : World} (h : WInv base cb bv n w eb rb f wr) (hb : Below wr.heap.size wr w1) : WInv base cb bv n w eb rb f w1 := h.call ⟨h.d.below hb, Chg.of_below hb⟩
set_option maxHeartbeats 8000000 in
theorem spoilE_core (base cb : Nat) (bv : Value) (n : Nat) (f : Ent) (w : World) (h : DrawAt base cb bv n w) (hf : f.small) :
    Calls Tryd.prog 62 #[.pointer (some ⟨cb, 0, none⟩), .agg #[.string f.row, .string f.fam, .string f.qual, .int .u64 f.ts, .int .i64 f.kind, .string f.val]] w fun r w' => ∃ e : Ent, r = .returned e.v ∧ e.small ∧ Drew base cb bv n w w' := by
  have hlt := h.lt
  have hbase := h.base
  have HS : Hid f.small := hf
  obtain ⟨Wa, hWa⟩ : ∃ Wa : World, Wa = w.alloc (Obj.cells #[.string f.row, .string f.fam, .string f.qual, .int .u64 f.ts, .int .i64 f.kind, .string f.val] 73) := ⟨_, rfl⟩
  have hba : Below w.heap.size w Wa := by rw [hWa]; exact (Below.refl _ _).alloc (Nat.le_refl _) _
  have hza : Wa.heap.size = w.heap.size + 1 := by rw [hWa]; simp
  obtain ⟨Wb, hWb⟩ : ∃ Wb : World, Wb = Wa.alloc (Obj.cells #[.string ⟨#[]⟩, .string ⟨#[]⟩, .string ⟨#[]⟩, .int .u64 0, .int .i64 0, .string ⟨#[]⟩] 73) := ⟨_, rfl⟩
  have hbb : Below Wa.heap.size Wa Wb := by rw [hWb]; exact (Below.refl _ _).alloc (Nat.le_refl _) _
  have H0 : Hid (WInv base cb bv n w w.heap.size (w.heap.size + 1) f Wb) := by
    refine ⟨?_, ?_, by omega, (h.below hba).below hbb, (Chg.of_below hba).trans (Chg.of_below hbb), hlt.2, hbase⟩
    · have : OwnE Wa w.heap.size w.heap.size 1 [f] := by rw [hWa]; exact ownE_new w w.heap.size f (Nat.le_refl _)
      exact this.below hbb (by omega)
    · rw [hWb, ← hza]; exact ownE_new Wa w.heap.size zeroE (by omega)
  clear h hlt hf
  go_enter Tryd.func62, Tryd.ntmps62
  go_wp2_with fail
  rw [← hWa, ← hWb]
  clear hWa hWb hba hbb hza
  generalize w.heap.size + 1 = rb at *
  refine (below_core base cb bv n 7 _ H0.out.d (by omega) (by omega)).mono ?_
  rintro e w5 ⟨x, rfl, hx0, hx1, hd5⟩
  have H5 : Hid (WInv base cb bv n w w.heap.size rb f w5) := H0.out.call hd5
  clear hd5
  have hx : x = 0 ∨ x = 1 ∨ x = 2 ∨ x = 3 ∨ x = 4 ∨ x = 5 ∨ x = 6 := by omega
  clear hx0 hx1
  rcases hx with rfl | rfl | rfl | rfl | rfl | rfl | rfl
  · obtain ⟨⟨c0, c1, c2, c3, c4, c5⟩, f1⟩ := H5.out.cells
    have g0 := f1 0
    obtain ⟨W7, hW7⟩ : ∃ W7 : World, W7 = w5.setCell ⟨w.heap.size, 0, none⟩ (.string ⟨#[]⟩) := ⟨_, rfl⟩
    have H7 : Hid (WInv base cb bv n w w.heap.size rb ⟨⟨#[]⟩, f.fam, f.qual, f.ts, f.kind, f.val⟩ W7 ∧ (⟨⟨#[]⟩, f.fam, f.qual, f.ts, f.kind, f.val⟩ : Ent).small) := ⟨by rw [hW7]; exact H5.out.set 0 _ _ (by omega) rfl, ⟨by show (0 : Nat) ≤ 1000; omega, HS.out.fam, HS.out.qual, HS.out.val, HS.out.ts, HS.out.kind⟩⟩
    clear f1
    go_upto_region 4 with fail
    rw [← hW7]
    clear hW7 c0 c1 c2 c3 c4 c5 g0
    obtain ⟨⟨k0, k1, k2, k3, k4, k5⟩, _⟩ := H7.out.1.cells
    obtain ⟨⟨l0, l1, l2, l3, l4, l5⟩, lf, _⟩ := H7.out.1.back
    simp only at k0 k1 k2 k3 k4 k5
    obtain ⟨W9, hW9⟩ : ∃ W9 : World, W9 = ((((((W7.setCell ⟨rb, 0, none⟩ (.string (⟨⟨#[]⟩, f.fam, f.qual, f.ts, f.kind, f.val⟩ : Ent).row)).setCell ⟨rb, 1, none⟩ (.string (⟨⟨#[]⟩, f.fam, f.qual, f.ts, f.kind, f.val⟩ : Ent).fam)).setCell ⟨rb, 2, none⟩ (.string (⟨⟨#[]⟩, f.fam, f.qual, f.ts, f.kind, f.val⟩ : Ent).qual)).setCell ⟨rb, 3, none⟩ (.int .u64 (⟨⟨#[]⟩, f.fam, f.qual, f.ts, f.kind, f.val⟩ : Ent).ts)).setCell ⟨rb, 4, none⟩ (.int .i64 (⟨⟨#[]⟩, f.fam, f.qual, f.ts, f.kind, f.val⟩ : Ent).kind)).setCell ⟨rb, 5, none⟩ (.string (⟨⟨#[]⟩, f.fam, f.qual, f.ts, f.kind, f.val⟩ : Ent).val)) := ⟨_, rfl⟩
    obtain ⟨⟨p0, p1, p2, p3, p4, p5⟩, hdr⟩ := H7.out.1.back.2.2 W9 hW9
    have HR : Hid ((⟨⟨#[]⟩, f.fam, f.qual, f.ts, f.kind, f.val⟩ : Ent).small ∧ Drew base cb bv n w W9) := ⟨H7.out.2, hdr⟩
    clear hdr
    simp only at p0 p1 p2 p3 p4 p5 hW9
    go_wp2_with fail
    rw [← hW9]
    exact bodyPost_ret (v := (⟨⟨#[]⟩, f.fam, f.qual, f.ts, f.kind, f.val⟩ : Ent).v) (by simp [results, Tryd.results62, go_sem, p0, p1, p2, p3, p4, p5]) rfl ⟨⟨⟨#[]⟩, f.fam, f.qual, f.ts, f.kind, f.val⟩, rfl, HR.out.1, HR.out.2⟩
  · go_wp2_with fail
    refine (many_core 98 65 _ (by omega)).mono ?_
    rintro e w6 ⟨s6, rfl, hs6, hb6⟩
    have H6 : Hid (WInv base cb bv n w w.heap.size rb f w6) := H5.out.below hb6
    clear hb6
    obtain ⟨⟨c0, c1, c2, c3, c4, c5⟩, f1⟩ := H6.out.cells
    have g0 := f1 0
    obtain ⟨W7, hW7⟩ : ∃ W7 : World, W7 = w6.setCell ⟨w.heap.size, 0, none⟩ (.string s6) := ⟨_, rfl⟩
    have H7 : Hid (WInv base cb bv n w w.heap.size rb ⟨s6, f.fam, f.qual, f.ts, f.kind, f.val⟩ W7 ∧ (⟨s6, f.fam, f.qual, f.ts, f.kind, f.val⟩ : Ent).small) := ⟨by rw [hW7]; exact H6.out.set 0 _ _ (by omega) rfl, ⟨hs6, HS.out.fam, HS.out.qual, HS.out.val, HS.out.ts, HS.out.kind⟩⟩
    clear f1
    go_upto_region 6 with fail
    rw [← hW7]
    clear hW7 c0 c1 c2 c3 c4 c5 g0
    obtain ⟨⟨k0, k1, k2, k3, k4, k5⟩, _⟩ := H7.out.1.cells
    obtain ⟨⟨l0, l1, l2, l3, l4, l5⟩, lf, _⟩ := H7.out.1.back
    simp only at k0 k1 k2 k3 k4 k5
    obtain ⟨W9, hW9⟩ : ∃ W9 : World, W9 = ((((((W7.setCell ⟨rb, 0, none⟩ (.string (⟨s6, f.fam, f.qual, f.ts, f.kind, f.val⟩ : Ent).row)).setCell ⟨rb, 1, none⟩ (.string (⟨s6, f.fam, f.qual, f.ts, f.kind, f.val⟩ : Ent).fam)).setCell ⟨rb, 2, none⟩ (.string (⟨s6, f.fam, f.qual, f.ts, f.kind, f.val⟩ : Ent).qual)).setCell ⟨rb, 3, none⟩ (.int .u64 (⟨s6, f.fam, f.qual, f.ts, f.kind, f.val⟩ : Ent).ts)).setCell ⟨rb, 4, none⟩ (.int .i64 (⟨s6, f.fam, f.qual, f.ts, f.kind, f.val⟩ : Ent).kind)).setCell ⟨rb, 5, none⟩ (.string (⟨s6, f.fam, f.qual, f.ts, f.kind, f.val⟩ : Ent).val)) := ⟨_, rfl⟩
    obtain ⟨⟨p0, p1, p2, p3, p4, p5⟩, hdr⟩ := H7.out.1.back.2.2 W9 hW9
    have HR : Hid ((⟨s6, f.fam, f.qual, f.ts, f.kind, f.val⟩ : Ent).small ∧ Drew base cb bv n w W9) := ⟨H7.out.2, hdr⟩
    clear hdr
    simp only at p0 p1 p2 p3 p4 p5 hW9
    go_wp2_with fail
    rw [← hW9]
    exact bodyPost_ret (v := (⟨s6, f.fam, f.qual, f.ts, f.kind, f.val⟩ : Ent).v) (by simp [results, Tryd.results62, go_sem, p0, p1, p2, p3, p4, p5]) rfl ⟨⟨s6, f.fam, f.qual, f.ts, f.kind, f.val⟩, rfl, HR.out.1, HR.out.2⟩
  · go_wp2_with fail
    refine (many_core 102 17 _ (by omega)).mono ?_
    rintro e w6 ⟨s6, rfl, hs6, hb6⟩
    have H6 : Hid (WInv base cb bv n w w.heap.size rb f w6) := H5.out.below hb6
    clear hb6
    obtain ⟨⟨c0, c1, c2, c3, c4, c5⟩, f1⟩ := H6.out.cells
    have g0 := f1 1
    obtain ⟨W7, hW7⟩ : ∃ W7 : World, W7 = w6.setCell ⟨w.heap.size, 1, none⟩ (.string s6) := ⟨_, rfl⟩
    have H7 : Hid (WInv base cb bv n w w.heap.size rb ⟨f.row, s6, f.qual, f.ts, f.kind, f.val⟩ W7 ∧ (⟨f.row, s6, f.qual, f.ts, f.kind, f.val⟩ : Ent).small) := ⟨by rw [hW7]; exact H6.out.set 1 _ _ (by omega) rfl, ⟨HS.out.row, hs6, HS.out.qual, HS.out.val, HS.out.ts, HS.out.kind⟩⟩
    clear f1
    go_upto_region 8 with fail
    rw [← hW7]
    clear hW7 c0 c1 c2 c3 c4 c5 g0
    obtain ⟨⟨k0, k1, k2, k3, k4, k5⟩, _⟩ := H7.out.1.cells
    obtain ⟨⟨l0, l1, l2, l3, l4, l5⟩, lf, _⟩ := H7.out.1.back
    simp only at k0 k1 k2 k3 k4 k5
    obtain ⟨W9, hW9⟩ : ∃ W9 : World, W9 = ((((((W7.setCell ⟨rb, 0, none⟩ (.string (⟨f.row, s6, f.qual, f.ts, f.kind, f.val⟩ : Ent).row)).setCell ⟨rb, 1, none⟩ (.string (⟨f.row, s6, f.qual, f.ts, f.kind, f.val⟩ : Ent).fam)).setCell ⟨rb, 2, none⟩ (.string (⟨f.row, s6, f.qual, f.ts, f.kind, f.val⟩ : Ent).qual)).setCell ⟨rb, 3, none⟩ (.int .u64 (⟨f.row, s6, f.qual, f.ts, f.kind, f.val⟩ : Ent).ts)).setCell ⟨rb, 4, none⟩ (.int .i64 (⟨f.row, s6, f.qual, f.ts, f.kind, f.val⟩ : Ent).kind)).setCell ⟨rb, 5, none⟩ (.string (⟨f.row, s6, f.qual, f.ts, f.kind, f.val⟩ : Ent).val)) := ⟨_, rfl⟩
    obtain ⟨⟨p0, p1, p2, p3, p4, p5⟩, hdr⟩ := H7.out.1.back.2.2 W9 hW9
    have HR : Hid ((⟨f.row, s6, f.qual, f.ts, f.kind, f.val⟩ : Ent).small ∧ Drew base cb bv n w W9) := ⟨H7.out.2, hdr⟩
    clear hdr
    simp only at p0 p1 p2 p3 p4 p5 hW9
    go_wp2_with fail
    rw [← hW9]
    exact bodyPost_ret (v := (⟨f.row, s6, f.qual, f.ts, f.kind, f.val⟩ : Ent).v) (by simp [results, Tryd.results62, go_sem, p0, p1, p2, p3, p4, p5]) rfl ⟨⟨f.row, s6, f.qual, f.ts, f.kind, f.val⟩, rfl, HR.out.1, HR.out.2⟩
  · obtain ⟨⟨c0, c1, c2, c3, c4, c5⟩, f1⟩ := H5.out.cells
    have g0 := f1 4
    obtain ⟨W7, hW7⟩ : ∃ W7 : World, W7 = w5.setCell ⟨w.heap.size, 4, none⟩ (.int .i64 3) := ⟨_, rfl⟩
    have H7 : Hid (WInv base cb bv n w w.heap.size rb ⟨f.row, f.fam, f.qual, f.ts, 3, f.val⟩ W7 ∧ (⟨f.row, f.fam, f.qual, f.ts, 3, f.val⟩ : Ent).small) := ⟨by rw [hW7]; exact H5.out.set 4 _ _ (by omega) rfl, ⟨HS.out.row, HS.out.fam, HS.out.qual, HS.out.val, HS.out.ts, by simp⟩⟩
    clear f1
    go_upto_region 10 with fail
    rw [← hW7]
    clear hW7 c0 c1 c2 c3 c4 c5 g0
    obtain ⟨⟨k0, k1, k2, k3, k4, k5⟩, _⟩ := H7.out.1.cells
    obtain ⟨⟨l0, l1, l2, l3, l4, l5⟩, lf, _⟩ := H7.out.1.back
    simp only at k0 k1 k2 k3 k4 k5
    obtain ⟨W9, hW9⟩ : ∃ W9 : World, W9 = ((((((W7.setCell ⟨rb, 0, none⟩ (.string (⟨f.row, f.fam, f.qual, f.ts, 3, f.val⟩ : Ent).row)).setCell ⟨rb, 1, none⟩ (.string (⟨f.row, f.fam, f.qual, f.ts, 3, f.val⟩ : Ent).fam)).setCell ⟨rb, 2, none⟩ (.string (⟨f.row, f.fam, f.qual, f.ts, 3, f.val⟩ : Ent).qual)).setCell ⟨rb, 3, none⟩ (.int .u64 (⟨f.row, f.fam, f.qual, f.ts, 3, f.val⟩ : Ent).ts)).setCell ⟨rb, 4, none⟩ (.int .i64 (⟨f.row, f.fam, f.qual, f.ts, 3, f.val⟩ : Ent).kind)).setCell ⟨rb, 5, none⟩ (.string (⟨f.row, f.fam, f.qual, f.ts, 3, f.val⟩ : Ent).val)) := ⟨_, rfl⟩
    obtain ⟨⟨p0, p1, p2, p3, p4, p5⟩, hdr⟩ := H7.out.1.back.2.2 W9 hW9
    have HR : Hid ((⟨f.row, f.fam, f.qual, f.ts, 3, f.val⟩ : Ent).small ∧ Drew base cb bv n w W9) := ⟨H7.out.2, hdr⟩
    clear hdr
    simp only at p0 p1 p2 p3 p4 p5 hW9
    go_wp2_with fail
    rw [← hW9]
    exact bodyPost_ret (v := (⟨f.row, f.fam, f.qual, f.ts, 3, f.val⟩ : Ent).v) (by simp [results, Tryd.results62, go_sem, p0, p1, p2, p3, p4, p5]) rfl ⟨⟨f.row, f.fam, f.qual, f.ts, 3, f.val⟩, rfl, HR.out.1, HR.out.2⟩
  · go_wp2_with fail
    refine (many_core 118 201 _ (by omega)).mono ?_
    rintro e w6 ⟨s6, rfl, hs6, hb6⟩
    have H6 : Hid (WInv base cb bv n w w.heap.size rb f w6) := H5.out.below hb6
    clear hb6
    obtain ⟨⟨c0, c1, c2, c3, c4, c5⟩, f1⟩ := H6.out.cells
    have g0 := f1 5
    obtain ⟨W7, hW7⟩ : ∃ W7 : World, W7 = w6.setCell ⟨w.heap.size, 5, none⟩ (.string s6) := ⟨_, rfl⟩
    have H7 : Hid (WInv base cb bv n w w.heap.size rb ⟨f.row, f.fam, f.qual, f.ts, f.kind, s6⟩ W7 ∧ (⟨f.row, f.fam, f.qual, f.ts, f.kind, s6⟩ : Ent).small) := ⟨by rw [hW7]; exact H6.out.set 5 _ _ (by omega) rfl, ⟨HS.out.row, HS.out.fam, HS.out.qual, hs6, HS.out.ts, HS.out.kind⟩⟩
    clear f1
    go_upto_region 12 with fail
    rw [← hW7]
    clear hW7 c0 c1 c2 c3 c4 c5 g0
    obtain ⟨⟨k0, k1, k2, k3, k4, k5⟩, _⟩ := H7.out.1.cells
    obtain ⟨⟨l0, l1, l2, l3, l4, l5⟩, lf, _⟩ := H7.out.1.back
    simp only at k0 k1 k2 k3 k4 k5
    obtain ⟨W9, hW9⟩ : ∃ W9 : World, W9 = ((((((W7.setCell ⟨rb, 0, none⟩ (.string (⟨f.row, f.fam, f.qual, f.ts, f.kind, s6⟩ : Ent).row)).setCell ⟨rb, 1, none⟩ (.string (⟨f.row, f.fam, f.qual, f.ts, f.kind, s6⟩ : Ent).fam)).setCell ⟨rb, 2, none⟩ (.string (⟨f.row, f.fam, f.qual, f.ts, f.kind, s6⟩ : Ent).qual)).setCell ⟨rb, 3, none⟩ (.int .u64 (⟨f.row, f.fam, f.qual, f.ts, f.kind, s6⟩ : Ent).ts)).setCell ⟨rb, 4, none⟩ (.int .i64 (⟨f.row, f.fam, f.qual, f.ts, f.kind, s6⟩ : Ent).kind)).setCell ⟨rb, 5, none⟩ (.string (⟨f.row, f.fam, f.qual, f.ts, f.kind, s6⟩ : Ent).val)) := ⟨_, rfl⟩
    obtain ⟨⟨p0, p1, p2, p3, p4, p5⟩, hdr⟩ := H7.out.1.back.2.2 W9 hW9
    have HR : Hid ((⟨f.row, f.fam, f.qual, f.ts, f.kind, s6⟩ : Ent).small ∧ Drew base cb bv n w W9) := ⟨H7.out.2, hdr⟩
    clear hdr
    simp only at p0 p1 p2 p3 p4 p5 hW9
    go_wp2_with fail
    rw [← hW9]
    exact bodyPost_ret (v := (⟨f.row, f.fam, f.qual, f.ts, f.kind, s6⟩ : Ent).v) (by simp [results, Tryd.results62, go_sem, p0, p1, p2, p3, p4, p5]) rfl ⟨⟨f.row, f.fam, f.qual, f.ts, f.kind, s6⟩, rfl, HR.out.1, HR.out.2⟩
  · have hA := H5.out.set 4 ⟨f.row, f.fam, f.qual, f.ts, 1, f.val⟩ (.int .i64 1) (by omega) rfl
    obtain ⟨⟨_, _, _, _, c4, _⟩, f1⟩ := H5.out.cells
    obtain ⟨⟨_, _, _, _, _, c5⟩, f2⟩ := hA.cells
    have g4 := f1 4
    have g5 := f2 5
    simp only at c5
    obtain ⟨W7, hW7⟩ : ∃ W7 : World, W7 = (w5.setCell ⟨w.heap.size, 4, none⟩ (.int .i64 1)).setCell ⟨w.heap.size, 5, none⟩ (.string ⟨#[120]⟩) := ⟨_, rfl⟩
    have H7 : Hid (WInv base cb bv n w w.heap.size rb ⟨f.row, f.fam, f.qual, f.ts, 1, ⟨#[120]⟩⟩ W7 ∧ (⟨f.row, f.fam, f.qual, f.ts, 1, ⟨#[120]⟩⟩ : Ent).small) := ⟨by rw [hW7]; exact hA.set 5 _ _ (by omega) rfl, ⟨HS.out.row, HS.out.fam, HS.out.qual, by show (1 : Nat) ≤ 1000; omega, HS.out.ts, by simp⟩⟩
    clear hA f1 f2
    go_upto_region 15 with fail
    rw [← hW7]
    clear hW7 c4 c5 g4 g5
    obtain ⟨⟨k0, k1, k2, k3, k4, k5⟩, _⟩ := H7.out.1.cells
    obtain ⟨⟨l0, l1, l2, l3, l4, l5⟩, lf, _⟩ := H7.out.1.back
    simp only at k0 k1 k2 k3 k4 k5
    obtain ⟨W9, hW9⟩ : ∃ W9 : World, W9 = ((((((W7.setCell ⟨rb, 0, none⟩ (.string (⟨f.row, f.fam, f.qual, f.ts, 1, ⟨#[120]⟩⟩ : Ent).row)).setCell ⟨rb, 1, none⟩ (.string (⟨f.row, f.fam, f.qual, f.ts, 1, ⟨#[120]⟩⟩ : Ent).fam)).setCell ⟨rb, 2, none⟩ (.string (⟨f.row, f.fam, f.qual, f.ts, 1, ⟨#[120]⟩⟩ : Ent).qual)).setCell ⟨rb, 3, none⟩ (.int .u64 (⟨f.row, f.fam, f.qual, f.ts, 1, ⟨#[120]⟩⟩ : Ent).ts)).setCell ⟨rb, 4, none⟩ (.int .i64 (⟨f.row, f.fam, f.qual, f.ts, 1, ⟨#[120]⟩⟩ : Ent).kind)).setCell ⟨rb, 5, none⟩ (.string (⟨f.row, f.fam, f.qual, f.ts, 1, ⟨#[120]⟩⟩ : Ent).val)) := ⟨_, rfl⟩
    obtain ⟨⟨p0, p1, p2, p3, p4, p5⟩, hdr⟩ := H7.out.1.back.2.2 W9 hW9
    have HR : Hid ((⟨f.row, f.fam, f.qual, f.ts, 1, ⟨#[120]⟩⟩ : Ent).small ∧ Drew base cb bv n w W9) := ⟨H7.out.2, hdr⟩
    clear hdr
    simp only at p0 p1 p2 p3 p4 p5 hW9
    go_wp2_with fail
    rw [← hW9]
    exact bodyPost_ret (v := (⟨f.row, f.fam, f.qual, f.ts, 1, ⟨#[120]⟩⟩ : Ent).v) (by simp [results, Tryd.results62, go_sem, p0, p1, p2, p3, p4, p5]) rfl ⟨⟨f.row, f.fam, f.qual, f.ts, 1, ⟨#[120]⟩⟩, rfl, HR.out.1, HR.out.2⟩
  · go_wp2_with fail
    refine (many_core 113 65 _ (by omega)).mono ?_
    rintro e w6 ⟨s6, rfl, hs6, hb6⟩
    have H6 : Hid (WInv base cb bv n w w.heap.size rb f w6) := H5.out.below hb6
    clear hb6
    obtain ⟨⟨c0, c1, c2, c3, c4, c5⟩, f1⟩ := H6.out.cells
    have g0 := f1 2
    obtain ⟨W7, hW7⟩ : ∃ W7 : World, W7 = w6.setCell ⟨w.heap.size, 2, none⟩ (.string s6) := ⟨_, rfl⟩
    have H7 : Hid (WInv base cb bv n w w.heap.size rb ⟨f.row, f.fam, s6, f.ts, f.kind, f.val⟩ W7 ∧ (⟨f.row, f.fam, s6, f.ts, f.kind, f.val⟩ : Ent).small) := ⟨by rw [hW7]; exact H6.out.set 2 _ _ (by omega) rfl, ⟨HS.out.row, HS.out.fam, hs6, HS.out.val, HS.out.ts, HS.out.kind⟩⟩
    clear f1
    go_upto_region 17 with fail
    rw [← hW7]
    clear hW7 c0 c1 c2 c3 c4 c5 g0
    obtain ⟨⟨k0, k1, k2, k3, k4, k5⟩, _⟩ := H7.out.1.cells
    obtain ⟨⟨l0, l1, l2, l3, l4, l5⟩, lf, _⟩ := H7.out.1.back
    simp only at k0 k1 k2 k3 k4 k5
    obtain ⟨W9, hW9⟩ : ∃ W9 : World, W9 = ((((((W7.setCell ⟨rb, 0, none⟩ (.string (⟨f.row, f.fam, s6, f.ts, f.kind, f.val⟩ : Ent).row)).setCell ⟨rb, 1, none⟩ (.string (⟨f.row, f.fam, s6, f.ts, f.kind, f.val⟩ : Ent).fam)).setCell ⟨rb, 2, none⟩ (.string (⟨f.row, f.fam, s6, f.ts, f.kind, f.val⟩ : Ent).qual)).setCell ⟨rb, 3, none⟩ (.int .u64 (⟨f.row, f.fam, s6, f.ts, f.kind, f.val⟩ : Ent).ts)).setCell ⟨rb, 4, none⟩ (.int .i64 (⟨f.row, f.fam, s6, f.ts, f.kind, f.val⟩ : Ent).kind)).setCell ⟨rb, 5, none⟩ (.string (⟨f.row, f.fam, s6, f.ts, f.kind, f.val⟩ : Ent).val)) := ⟨_, rfl⟩
    obtain ⟨⟨p0, p1, p2, p3, p4, p5⟩, hdr⟩ := H7.out.1.back.2.2 W9 hW9
    have HR : Hid ((⟨f.row, f.fam, s6, f.ts, f.kind, f.val⟩ : Ent).small ∧ Drew base cb bv n w W9) := ⟨H7.out.2, hdr⟩
    clear hdr
    simp only at p0 p1 p2 p3 p4 p5 hW9
    go_wp2_with fail
    rw [← hW9]
    exact bodyPost_ret (v := (⟨f.row, f.fam, s6, f.ts, f.kind, f.val⟩ : Ent).v) (by simp [results, Tryd.results62, go_sem, p0, p1, p2, p3, p4, p5]) rfl ⟨⟨f.row, f.fam, s6, f.ts, f.kind, f.val⟩, rfl, HR.out.1, HR.out.2⟩
end Go.Proofs.YtlgeffinhbodeacDoor

