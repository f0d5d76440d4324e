import Derived.Deep.DeepCutAuto
import Derived.Deep.RegionWith
import Derived.Lib.SlBytesRow
import Derived.Deep.QuietTactic
import Derived.BigQuiet
import Derived.Maps.AppendAt
import Derived.Lib.ConvBytes
import Derived.Test.YtlgeffinhbodeaeGreatDoorPkAA
/-
  Runs that are valid: spec.ValidRun and impl.ValidRun.
-/
namespace Go.Proofs.YtlgeffinhbodeaeGreatDoor
open Go.ChangeShapes Go.WideShapes Go.ChangeAt Go.RowKit Go.Deep
set_option linter.unusedVariables false

def Ent.vld (e : Ent) : Bool := vE e.row e.fam e.qual e.kind e.val
/-- One column? -/
def sameCol (a b : Ent) : Bool := (a.row.toList == b.row.toList) && ((a.fam.toList == b.fam.toList) && (a.qual.toList == b.qual.toList))

set_option maxHeartbeats 400000 in
theorem sameColumn_any (a b : Ent) (w : World) :
    Calls Tryz.prog 39 #[a.v, b.v] w fun e w' => e = .returned (.bool (sameCol a b)) ∧ Below w.heap.size w w' := by
  unfold sameCol Ent.v
  cases h1 : (a.row.toList == b.row.toList)
  · go_enter Tryz.func39, Tryz.ntmps39
    go_wp2
    go_ret
    exact ⟨by simp, ((Below.refl _ _).alloc (Nat.le_refl _) _).alloc (by simp) _⟩
  · cases h2 : (a.fam.toList == b.fam.toList)
    · go_enter Tryz.func39, Tryz.ntmps39
      go_wp2
      go_ret
      exact ⟨by simp, ((Below.refl _ _).alloc (Nat.le_refl _) _).alloc (by simp) _⟩
    · go_enter Tryz.func39, Tryz.ntmps39
      go_wp2
      go_ret
      exact ⟨by simp, ((Below.refl _ _).alloc (Nat.le_refl _) _).alloc (by simp) _⟩

set_option maxHeartbeats 400000 in
theorem column_any (a : Ent) (w : World) :
    Calls Tryz.prog 139 #[a.v] w fun e w' => e = .returned (.agg #[.string a.row, .string a.fam, .string a.qual]) ∧ Below w.heap.size w w' := by
  unfold Ent.v
  go_enter Tryz.func139, Tryz.ntmps139
  go_wp2
  refine bodyPost_ret (v := .agg #[.string a.row, .string a.fam, .string a.qual]) (by simp [results, Tryz.results139, go_sem]) rfl ⟨rfl, ?_⟩
  exact ((Below.refl _ _).alloc (Nat.le_refl _) _).alloc (by simp) _

theorem colEq_run (a b : Ent) (wx : World) : (binOp .eql 195 (.agg #[.string a.row, .string a.fam, .string a.qual]) (.agg #[.string b.row, .string b.fam, .string b.qual])).run Tryz.prog wx = .ok (.bool (sameCol a b)) wx := by
  unfold sameCol
  cases h1 : (a.row.toList == b.row.toList)
  · go_simp
  · cases h2 : (a.fam.toList == b.fam.toList)
    · go_simp
    · cases h3 : (a.qual.toList == b.qual.toList)
      · go_simp
      · go_simp

theorem lift_in {P : Program} {f : Nat} {args : Array Value} {w : World} {v : Value} (W0 : World) (h : Below W0.heap.size W0 w) (c : Calls P f args w fun e w' => e = .returned v ∧ Below w.heap.size w w') :
    Calls P f args w fun e w' => e = .returned v ∧ Below W0.heap.size W0 w' ∧ (∀ b o, b < W0.heap.size → w'.cell? ⟨b, o, none⟩ = W0.cell? ⟨b, o, none⟩) := by
  refine c.mono ?_
  rintro e w' ⟨he, hb⟩
  have k := h.trans (hb.mono h.size)
  exact ⟨he, k, fun b o hlt => k.cell (p := ⟨b, o, none⟩) hlt⟩

/-- May 'p' stand right before 'e' in a run? -/
def okPair (p e : Ent) : Bool := (keyCmp p e == -1) && !((p.kind == 2) && ((e.kind == 2) && sameCol p e))

set_option maxHeartbeats 1000000 in
theorem mayPrecede_any (a b : Ent) (w : World) :
    Calls Tryz.prog 93 #[a.v, b.v] w fun e w' => e = .returned (.bool (okPair a b)) ∧ Below w.heap.size w w' := by
  unfold Ent.v
  cases ga : (a.kind == 2)
  · have H : Hid (okPair a b = decide (keyCmp a b < 0)) := by
      show okPair a b = _
      unfold okPair; rw [ga]
      rcases keyCmp_vals a b with h | h | h <;> rw [h] <;> rfl
    go_enter Tryz.func93, Tryz.ntmps93
    go_wp2_with fail
    go_quiet (fail)
    go_wp2_with fail
    refine (compare_any a b _).mono ?_
    rintro e w1 ⟨rfl, hb1⟩
    go_wp2_with fail
    go_ret
    exact ⟨ret_bool H.out.symm, (below_drewN (((Below.refl _ _).alloc (Nat.le_refl _) _).alloc (by simp) _) _).trans (hb1.mono (by simp; omega))⟩
  · cases gb : (b.kind == 2)
    · have H : Hid (okPair a b = decide (keyCmp a b < 0)) := by
        show okPair a b = _
        unfold okPair; rw [ga, gb]
        rcases keyCmp_vals a b with h | h | h <;> rw [h] <;> rfl
      go_enter Tryz.func93, Tryz.ntmps93
      go_wp2_with fail
      go_quiet (fail)
      go_wp2_with fail
      refine (compare_any a b _).mono ?_
      rintro e w1 ⟨rfl, hb1⟩
      go_wp2_with fail
      go_ret
      exact ⟨ret_bool H.out.symm, (below_drewN (((Below.refl _ _).alloc (Nat.le_refl _) _).alloc (by simp) _) _).trans (hb1.mono (by simp; omega))⟩
    · go_enter Tryz.func93, Tryz.ntmps93
      go_upto_region 1 with fail
      obtain ⟨W0, hW0⟩ : ∃ W0 : World, W0 = (w.alloc (Obj.cells #[.string a.row, .string a.fam, .string a.qual, .int .u64 a.ts, .int .i64 a.kind, .string a.val] 45)).alloc (Obj.cells #[.string b.row, .string b.fam, .string b.qual, .int .u64 b.ts, .int .i64 b.kind, .string b.val] 45) := ⟨_, rfl⟩
      have hb0 : Below w.heap.size w W0 := by rw [hW0]; exact ((Below.refl _ _).alloc (Nat.le_refl _) _).alloc (by simp) _
      have hz0 : w.heap.size + 1 < W0.heap.size := by rw [hW0]; simp
      have ca : ∀ o, W0.cell? ⟨w.heap.size, o, none⟩ = ((w.alloc (Obj.cells #[.string a.row, .string a.fam, .string a.qual, .int .u64 a.ts, .int .i64 a.kind, .string a.val] 45)).alloc (Obj.cells #[.string b.row, .string b.fam, .string b.qual, .int .u64 b.ts, .int .i64 b.kind, .string b.val] 45)).cell? ⟨w.heap.size, o, none⟩ := fun o => by rw [hW0]
      have cb : ∀ o, W0.cell? ⟨w.heap.size + 1, o, none⟩ = ((w.alloc (Obj.cells #[.string a.row, .string a.fam, .string a.qual, .int .u64 a.ts, .int .i64 a.kind, .string a.val] 45)).alloc (Obj.cells #[.string b.row, .string b.fam, .string b.qual, .int .u64 b.ts, .int .i64 b.kind, .string b.val] 45)).cell? ⟨w.heap.size + 1, o, none⟩ := fun o => by rw [hW0]
      rw [← hW0]
      clear hW0
      go_cut [19] (fun s wx => s = .bool (sameCol a b) ∧ Below W0.heap.size W0 wx)
      case first =>
        have e3 := colEq_run a b
        go_region_with (first
          | (go_at_call_of 139 (a.row); refine (lift_in W0 ?hB (column_any a _)).mono ?_; (case hB => (repeat (first | assumption | exact Below.refl _ _ | refine Below.drew ?_))); rintro e w' ⟨rfl, hbb, hcc⟩)
          | (go_at_call_of 139 (b.row); refine (lift_in W0 ?hB (column_any b _)).mono ?_; (case hB => (repeat (first | assumption | exact Below.refl _ _ | refine Below.drew ?_))); rintro e w' ⟨rfl, hbb, hcc⟩))
        all_goals go_wp2_with fail
        all_goals go_meet
        all_goals exact ⟨rfl, by assumption⟩
      case rest =>
      obtain ⟨rfl, h3⟩ := hcut
      have ca3 : ∀ o, wc.cell? ⟨w.heap.size, o, none⟩ = W0.cell? ⟨w.heap.size, o, none⟩ := fun o => h3.cell (p := ⟨w.heap.size, o, none⟩) (by show w.heap.size < _; omega)
      have cb3 : ∀ o, wc.cell? ⟨w.heap.size + 1, o, none⟩ = W0.cell? ⟨w.heap.size + 1, o, none⟩ := fun o => h3.cell (p := ⟨w.heap.size + 1, o, none⟩) hz0
      cases hs : sameCol a b
      · have H : Hid (okPair a b = decide (keyCmp a b < 0)) := by
          show okPair a b = _
          unfold okPair; rw [ga, gb, hs]
          rcases keyCmp_vals a b with h | h | h <;> rw [h] <;> rfl
        go_wp2_with fail
        refine (compare_any a b _).mono ?_
        rintro e w1 ⟨rfl, hb1⟩
        go_wp2_with fail
        go_ret
        exact ⟨ret_bool H.out.symm, (hb0.trans (h3.mono (by omega))).trans (hb1.mono (by have := h3.size; omega))⟩
      · have H : Hid (okPair a b = false) := by
          show okPair a b = _
          unfold okPair; rw [ga, gb, hs]; simp
        go_wp2_with fail
        go_ret
        exact ⟨ret_bool H.out.symm, hb0.trans (h3.mono (by omega))⟩
end Go.Proofs.YtlgeffinhbodeaeGreatDoor

/-
  Runs that are valid: the loops of spec.ValidRun, impl.validWrites, impl.ValidRun.
-/
namespace Go.Proofs.YtlgeffinhbodeaeGreatDoor
open Go.ChangeShapes Go.WideShapes Go.ChangeAt Go.RowKit Go.Deep
set_option linter.unusedVariables false

/-- All of them are valid, and not too many. -/
def GoodW (es : List Ent) : Prop := es.length ≤ 10000 ∧ ∀ e ∈ es, e.vld = true
/-- Each may stand right before the next. -/
def Pairs (es : List Ent) : Prop := ∀ i p e, es[i]? = some p → es[i + 1]? = some e → okPair p e = true
def GoodR (es : List Ent) : Prop := GoodW es ∧ Pairs es

theorem iffF {p : Prop} (h : ¬ p) : (false = true ↔ p) := ⟨fun x => Bool.noConfusion x, fun x => absurd x h⟩
theorem iffT {p : Prop} (h : p) : (true = true ↔ p) := ⟨fun _ => h, fun _ => rfl⟩
theorem vld_of_take {es : List Ent} {k : Nat} {e : Ent} (h : ∀ x ∈ es.take k, x.vld = true) (he : es[k]? = some e) (hv : e.vld = true) : ∀ x ∈ es.take (k + 1), x.vld = true := by
  intro x hx
  rw [List.take_add_one, he] at hx
  simp at hx
  rcases hx with hx | rfl
  · exact h x hx
  · exact hv

set_option maxHeartbeats 400000 in
theorem validWrites_core (b off cap : Nat) (es : List Ent) (w : World) (hE : EntsAt w b off es) (hok : ∀ e ∈ es, e.ok) (hB : b < w.heap.size) (hlen : es.length ≤ cap) (hcap : cap ≤ maxLen) :
    Calls Tryz.prog 92 #[.slice (some ⟨b, off, none⟩) es.length cap] w fun e w' =>
      ∃ r : Bool, e = .returned (.bool r) ∧ (r = true ↔ GoodW es) ∧ Below w.heap.size w w' := by
  have HE : Hid (EntsAt w b off es) := hE
  have HO : Hid (∀ e ∈ es, e.ok) := hok
  clear hE hok
  unfold maxLen at hcap
  by_cases hbig : 10000 < es.length
  · have H : Hid (¬ GoodW es) := fun h => by have := h.1; omega
    go_enter Tryz.func92, Tryz.ntmps92
    go_wp2
    go_ret
    exact ⟨_, rfl, iffF H.out, Below.refl _ _⟩
  go_enter Tryz.func92, Tryz.ntmps92
  go_wp2
  go_loopw [10] (fun i wr => ∃ (k : Nat), k ≤ es.length ∧ i = .int .i64 k ∧ (∀ x ∈ es.take k, x.vld = true) ∧ Below w.heap.size w wr) (fun i _ => es.length - (intOf i).toNat)
  case atStart => exact ⟨0, Nat.zero_le _, rfl, by simp, Below.refl _ _⟩
  case round =>
    obtain ⟨k, hk, rfl, hv, hb⟩ := hrel
    have HV : Hid (∀ x ∈ es.take k, x.vld = true) := hv
    clear hv
    by_cases hlt : k < es.length
    · obtain ⟨e, he⟩ : ∃ e, es[k]? = some e := ⟨_, List.getElem?_eq_getElem hlt⟩
      obtain ⟨c0, c1, c2, c3, c4, c5⟩ := (HE.out.below hb hB) k e he
      have HK : Hid (e.ok ∧ es[k]? = some e) := ⟨HO.out e (List.mem_of_getElem? he), he⟩
      clear he
      go_wp2_with fail
      refine (implValid_core e.row e.fam e.qual e.val e.ts e.kind _ HK.out.1.row HK.out.1.fam HK.out.1.qual HK.out.1.val).mono ?_
      rintro e' w1 ⟨rfl, hb1⟩
      have hb2 := (hb.alloc hb.size (Obj.cells #[.string e.row, .string e.fam, .string e.qual, .int .u64 e.ts, .int .i64 e.kind, .string e.val] 45)).trans (hb1.mono (by have := hb.size; simp; omega))
      clear c0 c1 c2 c3 c4 c5 hb1
      cases hv : vE e.row e.fam e.qual e.kind e.val
      · have H : Hid (¬ GoodW es) := fun h => by
          have := h.2 e (List.mem_of_getElem? HK.out.2)
          unfold Ent.vld at this
          rw [hv] at this
          cases this
        go_wp2_with fail
        go_ret
        exact ⟨_, rfl, iffF H.out, hb2⟩
      · have H : Hid (∀ x ∈ es.take (k + 1), x.vld = true) := vld_of_take HV.out HK.out.2 hv
        go_wp2_with fail
        go_roundw
        case rel => exact ⟨k + 1, by omega, by go_num, H.out, hb2⟩
        case measure => simp [intOf]; omega
    · go_wp2
      go_ret
      refine ⟨_, rfl, ⟨fun _ => ⟨by omega, fun e he => ?_⟩, fun _ => rfl⟩, hb⟩
      have := HV.out
      rw [List.take_of_length_le (by omega)] at this
      exact this e he

theorem pairs_short {es : List Ent} (h : es.length ≤ 1) : Pairs es := by
  intro i p e h1 h2
  have := (List.getElem?_eq_some_iff.1 h2).1
  omega

/-- The pairs below place 'k'. -/
def PairsTo (es : List Ent) (k : Nat) : Prop := ∀ i p e, i + 1 < k → es[i]? = some p → es[i + 1]? = some e → okPair p e = true
theorem pairsTo_succ {es : List Ent} {m : Nat} {p e : Ent} (h : PairsTo es (m + 1)) (hp : es[m]? = some p) (he : es[m + 1]? = some e) (ho : okPair p e = true) : PairsTo es (m + 1 + 1) := by
  intro i p' e' hi h1 h2
  by_cases hm : i = m
  · subst hm
    rw [hp] at h1; rw [he] at h2
    simp at h1 h2
    subst h1 h2
    exact ho
  · exact h i p' e' (by omega) h1 h2
theorem pairs_of_to {es : List Ent} {k : Nat} (h : PairsTo es k) (hk : es.length ≤ k) : Pairs es := by
  intro i p e h1 h2
  have := (List.getElem?_eq_some_iff.1 h2).1
  exact h i p e (by omega) h1 h2

set_option maxHeartbeats 1000000 in
theorem implValidRun_core (b off cap : Nat) (es : List Ent) (w : World) (hE : EntsAt w b off es) (hok : ∀ e ∈ es, e.ok) (hB : b < w.heap.size) (hlen : es.length ≤ cap) (hcap : cap ≤ maxLen) :
    Calls Tryz.prog 41 #[.agg #[.slice (some ⟨b, off, none⟩) es.length cap]] w fun e w' =>
      ∃ r : Bool, e = .returned (.bool r) ∧ (r = true ↔ GoodR es) ∧ Below w.heap.size w w' := by
  obtain ⟨W0, hW0⟩ : ∃ W0 : World, W0 = w.alloc (Obj.cells #[.slice (some ⟨b, off, none⟩) es.length cap] 37) := ⟨_, rfl⟩
  have hb0 : Below w.heap.size w W0 := by rw [hW0]; exact (Below.refl _ _).alloc (Nat.le_refl _) _
  have hz0 : w.heap.size < W0.heap.size := by rw [hW0]; simp
  have ca : W0.cell? ⟨w.heap.size, 0, none⟩ = some (.slice (some ⟨b, off, none⟩) es.length cap) := by rw [hW0]; simp
  have HE : Hid (EntsAt W0 b off es) := hE.below hb0 hB
  have HO : Hid (∀ e ∈ es, e.ok) := hok
  have HC : Hid (cap ≤ maxLen) := hcap
  clear hE hok
  unfold maxLen at hcap
  go_enter Tryz.func41, Tryz.ntmps41
  go_wp2_with fail
  rw [← hW0]
  refine (validWrites_core b off cap es _ HE.out HO.out (by omega) hlen HC.out).mono ?_
  rintro e w1 ⟨r, rfl, hr, hb1⟩
  have HR : Hid (r = true ↔ GoodW es) := hr
  clear hr hW0
  have k1 := hb0.trans (hb1.mono (by omega))
  have ca1 : w1.cell? ⟨w.heap.size, 0, none⟩ = some (.slice (some ⟨b, off, none⟩) es.length cap) := by rw [hb1.cell (p := ⟨w.heap.size, 0, none⟩) hz0]; exact ca
  cases r
  · go_wp2_with fail
    go_ret
    exact ⟨_, rfl, iffF (fun h => Bool.noConfusion (HR.out.2 h.1)), k1⟩
  have HR1 : Hid (GoodW es) := HR.out.1 rfl
  clear HR
  go_wp2_with fail
  go_loopw [3] (fun i wr => ∃ (k : Nat), 1 ≤ k ∧ i = .int .i64 k ∧ PairsTo es k ∧ Below w1.heap.size w1 wr) (fun i _ => es.length - (intOf i).toNat)
  case atStart => exact ⟨1, Nat.le_refl _, rfl, fun i p e hi => by omega, Below.refl _ _⟩
  case round =>
    obtain ⟨k, hk, rfl, hP, hb⟩ := hrel
    have HP : Hid (PairsTo es k) := hP
    clear hP
    have hs1 := hb1.size
    have hs2 := hb.size
    have car : wr.cell? ⟨w.heap.size, 0, none⟩ = some (.slice (some ⟨b, off, none⟩) es.length cap) := by rw [hb.cell (p := ⟨w.heap.size, 0, none⟩) (by show w.heap.size < _; omega)]; exact ca1
    obtain ⟨m, rfl⟩ : ∃ m, k = m + 1 := ⟨k - 1, by omega⟩
    by_cases hlt : m + 1 < es.length
    · obtain ⟨p, hp⟩ : ∃ e, es[m]? = some e := ⟨_, List.getElem?_eq_getElem (by omega)⟩
      obtain ⟨e, he⟩ : ∃ e, es[m + 1]? = some e := ⟨_, List.getElem?_eq_getElem hlt⟩
      have HEr := (HE.out.below hb1 (by omega)).below hb (by omega)
      obtain ⟨c0, c1, c2, c3, c4, c5⟩ := HEr m p hp
      obtain ⟨d0, d1, d2, d3, d4, d5⟩ := HEr (m + 1) e he
      have HK : Hid (es[m]? = some p ∧ es[m + 1]? = some e) := ⟨hp, he⟩
      clear hp he HEr
      go_upto_region 6 with fail
      go_cut [27] (fun s wx => s = .bool (!okPair p e) ∧ Below w1.heap.size w1 wx)
      case first =>
        have hw : IntKind.i64.wrap (m : Int) = (m : Int) := Go.IntWalk.i64_in _ (by omega)
        have z1 : (0 : Int) ≤ (m : Int) := by omega
        have z2 : (m : Int) < (es.length : Int) := by omega
        have z3 : (m : Int) + 1 < (es.length : Int) := by omega
        go_region_with (go_at_call 93; refine (mayPrecede_any p e _).mono ?_; rintro e' w' ⟨rfl, hbb⟩)
        all_goals go_wp2_with fail
        all_goals go_meet
        all_goals exact ⟨rfl, hb.drew.trans (hbb.mono (by simp; omega))⟩
      case rest =>
      obtain ⟨rfl, h3⟩ := hcut
      clear c0 c1 c2 c3 c4 c5 d0 d1 d2 d3 d4 d5
      cases ho : okPair p e
      · have H : Hid (¬ GoodR es) := fun h => by
          have := h.2 m p e HK.out.1 HK.out.2
          rw [ho] at this; cases this
        go_wp2_with fail
        go_ret
        exact ⟨_, rfl, iffF H.out, k1.trans (h3.mono (by omega))⟩
      · have H : Hid (PairsTo es (m + 1 + 1)) := pairsTo_succ HP.out HK.out.1 HK.out.2 ho
        go_wp2_with fail
        go_roundw
        case rel => exact ⟨m + 1 + 1, by omega, by go_num, H.out, h3⟩
        case measure => simp [intOf]; omega
    · go_wp2_with fail
      go_ret
      exact ⟨_, rfl, iffT ⟨HR1.out, pairs_of_to HP.out (by omega)⟩, k1.trans (hb.mono (by omega))⟩
end Go.Proofs.YtlgeffinhbodeaeGreatDoor

/-
  The body of a block, the file of a run (mathematics).
-/
namespace Go.Proofs.YtlgeffinhbodeaeGreatDoor
set_option linter.unusedVariables false
set_option linter.unusedSimpArgs false

/-- The bytes of a string. -/
abbrev bl (s : ByteArray) : List UInt8 := s.data.toList
theorem bl_len (s : ByteArray) : (bl s).length = s.size := by simp [bl]
theorem wf_u64 {t : Int} (h : (Lit.int .u64 t).wf = true) : 0 ≤ t ∧ t < 2 ^ 64 := by
  simp only [Lit.wf, Bool.and_eq_true, decide_eq_true_eq] at h
  have h1 : IntKind.u64.min = 0 := rfl
  have h2 : IntKind.u64.max = 18446744073709551615 := rfl
  omega
/-- One entry behind a row. -/
def entB (before : List UInt8) (e : Ent) : List UInt8 :=
  num (shared before (bl e.row)) ++ strB ((bl e.row).drop (shared before (bl e.row))) ++ strB (bl e.fam) ++ strB (bl e.qual) ++ num e.ts.toNat ++ num e.kind.toNat ++ strB (bl e.val)
def body : List UInt8 → List Ent → List UInt8
  | _, [] => []
  | b, e :: es => entB b e ++ body (bl e.row) es
/-- The row ahead. -/
def lastRow : List UInt8 → List Ent → List UInt8
  | b, [] => b
  | _, e :: es => lastRow (bl e.row) es
theorem body_snoc : ∀ (b : List UInt8) (es : List Ent) (e : Ent), body b (es ++ [e]) = body b es ++ entB (lastRow b es) e
  | b, [], e => by simp [body, lastRow]
  | b, x :: es, e => by rw [List.cons_append, body, body, body_snoc (bl x.row) es e, List.append_assoc]; rfl
theorem lastRow_snoc : ∀ (b : List UInt8) (es : List Ent) (e : Ent), lastRow b (es ++ [e]) = bl e.row
  | _, [], _ => rfl
  | _, x :: es, e => lastRow_snoc (bl x.row) es e
theorem vld_parts {e : Ent} (h : e.vld = true) : 1 ≤ e.row.size ∧ e.row.size ≤ 64 ∧ 1 ≤ e.fam.size ∧ e.fam.size ≤ 16 ∧ e.qual.size ≤ 64 ∧ e.val.size ≤ 200 ∧ 0 ≤ e.kind ∧ e.kind ≤ 2 := by
  unfold Ent.vld vE at h
  simp only [Bool.and_eq_true, decide_eq_true_eq] at h
  omega
theorem strB_len {s : List UInt8} (h : s.length < 2 ^ 64) : (strB s).length ≤ 10 + s.length := by
  unfold strB
  have := num_len64 h
  simp; omega
theorem num_kind {k : Nat} (h : k ≤ 2) : (num k).length = 1 := by rw [num_small (by omega)]; rfl
theorem entB_len {b : List UInt8} {e : Ent} (h : e.vld = true) (ht : e.ts.toNat < 2 ^ 64) : (entB b e).length ≤ 500 := by
  obtain ⟨h1, h2, h3, h4, h5, h6, h7, h8⟩ := vld_parts h
  have l0 := (shared_le b (bl e.row)).2
  rw [bl_len] at l0
  have l1 := num_len64 (n := shared b (bl e.row)) (by omega)
  have l2 := strB_len (s := (bl e.row).drop (shared b (bl e.row))) (by simp only [List.length_drop, bl_len]; omega)
  have l3 := strB_len (s := bl e.fam) (by rw [bl_len]; omega)
  have l4 := strB_len (s := bl e.qual) (by rw [bl_len]; omega)
  have l5 := num_len64 (n := e.ts.toNat) ht
  have l6 := num_len64 (n := e.kind.toNat) (by omega)
  have l7 := strB_len (s := bl e.val) (by rw [bl_len]; omega)
  simp only [List.length_drop, bl_len] at l2 l3 l4 l7
  unfold entB
  simp only [List.length_append]
  omega
theorem body_len : ∀ (es : List Ent) (b : List UInt8), (∀ e ∈ es, e.vld = true) → (∀ e ∈ es, e.ts.toNat < 2 ^ 64) → (body b es).length ≤ 500 * es.length
  | [], b, _, _ => by simp [body]
  | e :: es, b, h, k => by
    have h1 := entB_len (b := b) (h e (by simp)) (k e (by simp))
    have h2 := body_len es (bl e.row) (fun x hx => h x (by simp [hx])) (fun x hx => k x (by simp [hx]))
    simp only [body, List.length_append, List.length_cons]
    omega
theorem body_pos {b : List UInt8} {es : List Ent} (h : 0 < es.length) : 0 < (body b es).length := by
  cases es with
  | nil => simp at h
  | cons e es =>
    have := num_pos (shared b (bl e.row))
    simp only [body, entB, List.length_append]
    omega
end Go.Proofs.YtlgeffinhbodeaeGreatDoor

/-
  spec.l2GetStr, spec.l2GetFixed.
-/
namespace Go.Proofs.YtlgeffinhbodeaeGreatDoor
open Go.ChangeShapes Go.WideShapes Go.ChangeAt Go.RowKit Go.Deep
set_option linter.unusedVariables false
set_option linter.unusedSimpArgs false
set_option maxRecDepth 100000

theorem bytes_of_bys {w : World} {b off : Nat} {xs : List UInt8} (h : BysAt w b off xs) : Lib.Bytes w b off ⟨xs.toArray⟩ := by
  intro i hi
  have hi' : i < xs.length := by
    have h2 : (⟨xs.toArray⟩ : ByteArray).size = xs.length := by show xs.toArray.size = _; simp
    omega
  rw [h i xs[i] (List.getElem?_eq_getElem hi')]
  rfl
/-- A string read. -/
def GotStr (xs : List UInt8) (i : Nat) (bad : Bool) (i' : Nat) (bad' : Bool) (s : ByteArray) : Prop :=
  i' ≤ xs.length ∧ s.size ≤ xs.length ∧ ((bad' = true ∧ (rd xs i bad).bind getStr = none) ∨ (bad' = false ∧ (rd xs i bad).bind getStr = some (bl s, xs.drop i')))
def StrPost (w : World) (b off cap : Nat) (xs : List UInt8) (i : Nat) (bad : Bool) (r : Ending) (w' : World) : Prop :=
  ∃ (i' : Nat) (bad' : Bool) (s : ByteArray), r = .returned (.tuple #[rdV b off cap xs.length i' bad', .string s]) ∧ GotStr xs i bad i' bad' s ∧ Below w.heap.size w w'
theorem gotStr_bad {xs : List UInt8} {i : Nat} {bad : Bool} {i1 n : Nat} (h : GotNum xs i bad i1 true n) : (rd xs i bad).bind getStr = none := by
  rcases h.2.2 with ⟨_, q⟩ | ⟨q, _⟩
  · cases hr : rd xs i bad with
    | none => rfl
    | some ys =>
      rw [hr] at q
      simp only [Option.bind_some] at q ⊢
      unfold getStr
      rw [q]
  · cases q
theorem gotStr_of {xs : List UInt8} {i : Nat} {bad : Bool} {i1 n : Nat} (h : GotNum xs i bad i1 false n) : (rd xs i bad).bind getStr = if n ≤ (xs.drop i1).length then some ((xs.drop i1).take n, (xs.drop i1).drop n) else none := by
  rcases h.2.2 with ⟨q, _⟩ | ⟨_, q⟩
  · cases q
  · cases hr : rd xs i bad with
    | none => rw [hr] at q; cases q
    | some ys =>
      rw [hr] at q
      simp only [Option.bind_some] at q ⊢
      unfold getStr
      rw [q]

set_option maxHeartbeats 8000000 in
theorem l2GetStr_core (b off cap : Nat) (xs : List UInt8) (i : Nat) (bad : Bool) (w : World) (hx : BysAt w b off xs) (hb : b < w.heap.size) (hlen : xs.length ≤ 2 ^ 30) (hcap : xs.length ≤ cap) (hi : i ≤ xs.length) :
    Calls Tryz.prog 103 #[rdV b off cap xs.length i bad] w fun r w' => StrPost w b off cap xs i bad r w' := by
  obtain ⟨W, hW⟩ : ∃ W : World, W = (w.alloc (Obj.cells #[.slice (some ⟨b, off, none⟩) xs.length cap, .int .i64 (i : Int), .bool bad] 160)).alloc (Obj.cells #[.slice none 0 0, .int .i64 0, .bool false] 160) := ⟨_, rfl⟩
  have hbW : Below w.heap.size w W := by rw [hW]; exact ((Below.refl _ _).alloc (Nat.le_refl _) _).alloc (by simp) _
  have hzW : W.heap.size = w.heap.size + 2 := by rw [hW]; simp
  have HBx : Hid (BoxAt W w.heap.size 160 3 w.heap.size [.slice (some ⟨b, off, none⟩) xs.length cap, .int .i64 (i : Int), .bool bad] ∧ BoxAt W w.heap.size 160 3 (w.heap.size + 1) [.slice none 0 0, .int .i64 0, .bool false]) := by
    rw [hW]
    refine ⟨(boxAt_new w _ (Nat.le_refl _) rfl).below ((Below.refl _ _).alloc (Nat.le_refl _) _), ?_⟩
    have := boxAt_new (w.alloc (Obj.cells #[.slice (some ⟨b, off, none⟩) xs.length cap, .int .i64 (i : Int), .bool bad] 160)) (base := w.heap.size) (t := 160) (sz := 3) #[.slice none 0 0, .int .i64 0, .bool false] (by simp) rfl
    simpa using this
  have HX : Hid (BysAt w b off xs ∧ BysAt W b off xs) := ⟨hx, hx.below hbW hb⟩
  clear hx
  go_enter Tryz.func103, Tryz.ntmps103
  go_upto_region 2 with fail
  rw [← hW]
  clear hW
  have q0 := HBx.out.1.cell (j := 0) rfl
  have q1 := HBx.out.1.cell (j := 1) rfl
  have q2 := HBx.out.1.cell (j := 2) rfl
  go_wp2_with fail
  clear q0 q1 q2
  refine (l2GetNum_core b off cap xs i bad W HX.out.2 (by omega) hlen hi).mono ?_
  rintro r w1 ⟨i1, bad1, n, rfl, hGN, hb1⟩
  have s1 := hb1.size
  have hi1 := hGN.1
  have hn1 := hGN.2.1
  have HGN : Hid (GotNum xs i bad i1 bad1 n) := hGN
  have HB1 : Hid (BoxAt w1 w.heap.size 160 3 w.heap.size [.slice (some ⟨b, off, none⟩) xs.length cap, .int .i64 (i : Int), .bool bad] ∧ BoxAt w1 w.heap.size 160 3 (w.heap.size + 1) [.slice none 0 0, .int .i64 0, .bool false]) := ⟨HBx.out.1.below hb1, HBx.out.2.below hb1⟩
  have k1 : Below w.heap.size w w1 := hbW.trans (hb1.mono (by omega))
  have HX1 : Hid (BysAt w1 b off xs) := HX.out.2.below hb1 (by omega)
  clear hGN hb1
  have f0 := HB1.out.1.frozen 0
  have f1 := HB1.out.1.frozen 1
  have f2 := HB1.out.1.frozen 2
  have q0 := HB1.out.1.cell (j := 0) rfl
  have q1 := HB1.out.1.cell (j := 1) rfl
  have q2 := HB1.out.1.cell (j := 2) rfl
  obtain ⟨W2, hW2⟩ : ∃ W2 : World, W2 = set3 w1 w.heap.size (.slice (some ⟨b, off, none⟩) xs.length cap) (.int .i64 (i1 : Int)) (.bool bad1) := ⟨_, rfl⟩
  have HB2 : Hid (BoxAt W2 w.heap.size 160 3 w.heap.size [.slice (some ⟨b, off, none⟩) xs.length cap, .int .i64 (i1 : Int), .bool bad1] ∧ BoxAt W2 w.heap.size 160 3 (w.heap.size + 1) [.slice none 0 0, .int .i64 0, .bool false]) := by
    rw [hW2]; exact ⟨HB1.out.1.set3 _ _ _, HB1.out.2.beside3 (by omega) _ _ _⟩
  have k2 : Below w.heap.size w W2 := by rw [hW2]; exact below_set3 k1 (Nat.le_refl _) _ _ _
  unfold set3 at hW2
  go_upto_region 3 with fail
  rw [← hW2]
  clear hW2 f0 f1 f2 q0 q1 q2
  have q0 := HB2.out.1.cell (j := 0) rfl
  have q1 := HB2.out.1.cell (j := 1) rfl
  have q2 := HB2.out.1.cell (j := 2) rfl
  have f1 := HB2.out.1.frozen 1
  have f2 := HB2.out.1.frozen 2
  have hbadcase : ∀ (W3 : World), W3 = W2.setCell ⟨w.heap.size, 2, none⟩ (.bool true) → (BoxAt W3 w.heap.size 160 3 w.heap.size [.slice (some ⟨b, off, none⟩) xs.length cap, .int .i64 (i1 : Int), .bool true] ∧ BoxAt W3 w.heap.size 160 3 (w.heap.size + 1) [.slice none 0 0, .int .i64 0, .bool false]) ∧ Below w.heap.size w W3 := by
    intro W3 h
    rw [h]
    exact ⟨⟨HB2.out.1.set 2 (.bool true), HB2.out.2.beside (by omega) _ _⟩, below_set k2 (Nat.le_refl _) _ _⟩
  have HBC : Hid (∀ (W3 : World), W3 = W2.setCell ⟨w.heap.size, 2, none⟩ (.bool true) → (BoxAt W3 w.heap.size 160 3 w.heap.size [.slice (some ⟨b, off, none⟩) xs.length cap, .int .i64 (i1 : Int), .bool true] ∧ BoxAt W3 w.heap.size 160 3 (w.heap.size + 1) [.slice none 0 0, .int .i64 0, .bool false]) ∧ Below w.heap.size w W3) := hbadcase
  clear hbadcase
  by_cases hbd : bad1 = true ∨ xs.length - i1 < n
  · have HN : Hid ((rd xs i bad).bind getStr = none) := by
      show (rd xs i bad).bind getStr = none
      cases bad1 with
      | true => exact gotStr_bad HGN.out
      | false =>
        rw [gotStr_of HGN.out, if_neg]
        rw [List.length_drop]
        rcases hbd with h | h
        · cases h
        · omega
    obtain ⟨W3, hW3⟩ : ∃ W3 : World, W3 = W2.setCell ⟨w.heap.size, 2, none⟩ (.bool true) := ⟨_, rfl⟩
    obtain ⟨hB3, k3⟩ := HBC.out W3 hW3
    have HB3 : Hid (BoxAt W3 w.heap.size 160 3 w.heap.size [.slice (some ⟨b, off, none⟩) xs.length cap, .int .i64 (i1 : Int), .bool true] ∧ BoxAt W3 w.heap.size 160 3 (w.heap.size + 1) [.slice none 0 0, .int .i64 0, .bool false]) := hB3
    clear hB3
    cases bad1 with
    | true =>
      go_upto_region 5 with fail
      rw [← hW3]
      clear hW3 q0 q1 q2 f1 f2
      have f0 := HB3.out.2.frozen 0
      have f1 := HB3.out.2.frozen 1
      have f2 := HB3.out.2.frozen 2
      have l0 := HB3.out.2.cell (j := 0) rfl
      have l1 := HB3.out.2.cell (j := 1) rfl
      have l2 := HB3.out.2.cell (j := 2) rfl
      have q0 := HB3.out.1.cell (j := 0) rfl
      have q1 := HB3.out.1.cell (j := 1) rfl
      have q2 := HB3.out.1.cell (j := 2) rfl
      obtain ⟨W4, hW4⟩ : ∃ W4 : World, W4 = set3 W3 (w.heap.size + 1) (.slice (some ⟨b, off, none⟩) xs.length cap) (.int .i64 (i1 : Int)) (.bool true) := ⟨_, rfl⟩
      have hB4 : BoxAt W4 w.heap.size 160 3 (w.heap.size + 1) [.slice (some ⟨b, off, none⟩) xs.length cap, .int .i64 (i1 : Int), .bool true] := by rw [hW4]; exact HB3.out.2.set3 _ _ _
      have k4 : Below w.heap.size w W4 := by rw [hW4]; exact below_set3 k3 (by omega) _ _ _
      have p0 := hB4.cell (j := 0) rfl
      have p1 := hB4.cell (j := 1) rfl
      have p2 := hB4.cell (j := 2) rfl
      unfold set3 at hW4
      go_wp2_with fail
      rw [← hW4]
      exact bodyPost_ret (v := .tuple #[rdV b off cap xs.length i1 true, .string ⟨#[]⟩]) (by simp [results, Tryz.results103, go_sem, p0, p1, p2]) rfl ⟨i1, true, ⟨#[]⟩, rfl, ⟨hi1, Nat.zero_le _, .inl ⟨rfl, HN.out⟩⟩, k4⟩
    | false =>
      have z1 : (xs.length : Int) - (i1 : Int) < (n : Int) := by
        rcases hbd with h | h
        · cases h
        · omega
      go_upto_region 5 with fail
      rw [← hW3]
      clear hW3 q0 q1 q2 f1 f2
      have f0 := HB3.out.2.frozen 0
      have f1 := HB3.out.2.frozen 1
      have f2 := HB3.out.2.frozen 2
      have l0 := HB3.out.2.cell (j := 0) rfl
      have l1 := HB3.out.2.cell (j := 1) rfl
      have l2 := HB3.out.2.cell (j := 2) rfl
      have q0 := HB3.out.1.cell (j := 0) rfl
      have q1 := HB3.out.1.cell (j := 1) rfl
      have q2 := HB3.out.1.cell (j := 2) rfl
      obtain ⟨W4, hW4⟩ : ∃ W4 : World, W4 = set3 W3 (w.heap.size + 1) (.slice (some ⟨b, off, none⟩) xs.length cap) (.int .i64 (i1 : Int)) (.bool true) := ⟨_, rfl⟩
      have hB4 : BoxAt W4 w.heap.size 160 3 (w.heap.size + 1) [.slice (some ⟨b, off, none⟩) xs.length cap, .int .i64 (i1 : Int), .bool true] := by rw [hW4]; exact HB3.out.2.set3 _ _ _
      have k4 : Below w.heap.size w W4 := by rw [hW4]; exact below_set3 k3 (by omega) _ _ _
      have p0 := hB4.cell (j := 0) rfl
      have p1 := hB4.cell (j := 1) rfl
      have p2 := hB4.cell (j := 2) rfl
      unfold set3 at hW4
      go_wp2_with fail
      rw [← hW4]
      exact bodyPost_ret (v := .tuple #[rdV b off cap xs.length i1 true, .string ⟨#[]⟩]) (by simp [results, Tryz.results103, go_sem, p0, p1, p2]) rfl ⟨i1, true, ⟨#[]⟩, rfl, ⟨hi1, Nat.zero_le _, .inl ⟨rfl, HN.out⟩⟩, k4⟩
  · have hb1 : bad1 = false := by
      cases bad1 with
      | true => exact absurd (.inl rfl) hbd
      | false => rfl
    subst hb1
    have hnl : n ≤ xs.length - i1 := by
      rcases Nat.lt_or_ge (xs.length - i1) n with h | h
      · exact absurd (.inr h) hbd
      · exact h
    have z1 : ¬ (xs.length : Int) - (i1 : Int) < (n : Int) := by omega
    clear hbd HBC
    have HGs : Hid ((rd xs i bad).bind getStr = some ((xs.drop i1).take n, xs.drop (i1 + n))) := by
      show (rd xs i bad).bind getStr = _
      rw [gotStr_of HGN.out, if_pos (by rw [List.length_drop]; exact hnl), List.drop_drop]
    have HBy : Hid (Lib.Bytes W2 b off ⟨xs.toArray⟩) := bytes_of_bys (fun j x hj => by rw [k2.cell (p := ⟨b, off + j, none⟩) hb]; exact HX.out.1 j x hj)
    have hsz : (⟨xs.toArray⟩ : ByteArray).size = xs.length := by show xs.toArray.size = _; simp
    obtain ⟨W3, hW3⟩ : ∃ W3 : World, W3 = W2.setCell ⟨w.heap.size, 1, none⟩ (.int .i64 ((i1 : Int) + (n : Int))) := ⟨_, rfl⟩
    have HB3 : Hid (BoxAt W3 w.heap.size 160 3 w.heap.size [.slice (some ⟨b, off, none⟩) xs.length cap, .int .i64 ((i1 : Int) + (n : Int)), .bool false] ∧ BoxAt W3 w.heap.size 160 3 (w.heap.size + 1) [.slice none 0 0, .int .i64 0, .bool false]) := by
      rw [hW3]; exact ⟨HB2.out.1.set 1 _, HB2.out.2.beside (by omega) _ _⟩
    have k3 : Below w.heap.size w W3 := by rw [hW3]; exact below_set k2 (Nat.le_refl _) _ _
    have z2 : (i1 : Int) + (n : Int) ≤ (cap : Int) := by omega
    have z3 : (i1 : Int) ≤ (i1 : Int) + (n : Int) := by omega
    by_cases hci : cap = i1
    · obtain rfl : n = 0 := by omega
      have hcv := Lib.run_convert_window (P := Tryz.prog) W2 22 5 9 Tryz.underlying22 Tryz.underlying5 Tryz.underlying9 b off ⟨xs.toArray⟩ HBy.out 0 0 0 (by omega)
      rw [Nat.add_zero, Nat.zero_add] at hcv
      obtain ⟨st, hstd⟩ : ∃ st : ByteArray, st = (⟨xs.toArray⟩ : ByteArray).extract 0 0 := ⟨_, rfl⟩
      have hst : st.size ≤ xs.length := by rw [hstd, ByteArray.size_extract]; omega
      have HSt : Hid ((rd xs i bad).bind getStr = some (bl st, xs.drop (i1 + 0))) := by
        show (rd xs i bad).bind getStr = _
        rw [HGs.out]
        have : bl st = [] := List.length_eq_zero_iff.1 (by rw [bl_len, hstd, ByteArray.size_extract]; omega)
        rw [this]; rfl
      rw [← hstd] at hcv
      subst hci
      clear hstd HB3 hW3 k3
      obtain ⟨W5, hW5⟩ : ∃ W5 : World, W5 = W2.setCell ⟨w.heap.size, 1, none⟩ (.int .i64 (cap : Int)) := ⟨_, rfl⟩
      have HB5 : Hid (BoxAt W5 w.heap.size 160 3 w.heap.size [.slice (some ⟨b, off, none⟩) xs.length cap, .int .i64 (cap : Int), .bool false] ∧ BoxAt W5 w.heap.size 160 3 (w.heap.size + 1) [.slice none 0 0, .int .i64 0, .bool false]) := by
        rw [hW5]; exact ⟨HB2.out.1.set 1 _, HB2.out.2.beside (by omega) _ _⟩
      have k5 : Below w.heap.size w W5 := by rw [hW5]; exact below_set k2 (Nat.le_refl _) _ _
      go_upto_region 8 with fail
      rw [← hW5]
      clear hW5 q0 q1 q2 f1 f2 hcv
      have f0 := HB5.out.2.frozen 0
      have g1 := HB5.out.2.frozen 1
      have g2 := HB5.out.2.frozen 2
      have l0 := HB5.out.2.cell (j := 0) rfl
      have l1 := HB5.out.2.cell (j := 1) rfl
      have l2 := HB5.out.2.cell (j := 2) rfl
      have q0 := HB5.out.1.cell (j := 0) rfl
      have q1 := HB5.out.1.cell (j := 1) rfl
      have q2 := HB5.out.1.cell (j := 2) rfl
      obtain ⟨W4, hW4⟩ : ∃ W4 : World, W4 = set3 W5 (w.heap.size + 1) (.slice (some ⟨b, off, none⟩) xs.length cap) (.int .i64 (cap : Int)) (.bool false) := ⟨_, rfl⟩
      have hB4 : BoxAt W4 w.heap.size 160 3 (w.heap.size + 1) [.slice (some ⟨b, off, none⟩) xs.length cap, .int .i64 (cap : Int), .bool false] := by rw [hW4]; exact HB5.out.2.set3 _ _ _
      have k4 : Below w.heap.size w W4 := by rw [hW4]; exact below_set3 k5 (by omega) _ _ _
      have p0 := hB4.cell (j := 0) rfl
      have p1 := hB4.cell (j := 1) rfl
      have p2 := hB4.cell (j := 2) rfl
      unfold set3 at hW4
      go_wp2_with fail
      rw [← hW4]
      exact bodyPost_ret (v := .tuple #[rdV b off cap xs.length cap false, .string st]) (by simp [results, Tryz.results103, go_sem, p0, p1, p2]) rfl ⟨cap, false, st, rfl, ⟨hi1, hst, .inr ⟨rfl, HSt.out⟩⟩, k4⟩
    · have hcv := Lib.run_convert_window (P := Tryz.prog) W2 22 5 9 Tryz.underlying22 Tryz.underlying5 Tryz.underlying9 b off ⟨xs.toArray⟩ HBy.out i1 n (cap - i1) (by omega)
      obtain ⟨st, hstd⟩ : ∃ st : ByteArray, st = (⟨xs.toArray⟩ : ByteArray).extract i1 (i1 + n) := ⟨_, rfl⟩
      have hst : st.size ≤ xs.length := by rw [hstd, ByteArray.size_extract]; omega
      have HSt : Hid ((rd xs i bad).bind getStr = some (bl st, xs.drop (i1 + n))) := by
        show (rd xs i bad).bind getStr = _
        rw [HGs.out]
        have : bl st = (xs.drop i1).take n := by rw [hstd]; show ((⟨xs.toArray⟩ : ByteArray).extract i1 (i1 + n)).data.toList = _; rw [Lib.extract_data, Nat.add_sub_cancel_left]
        rw [this]
      rw [← hstd] at hcv
      clear hstd hsz
      go_upto_region 8 with fail
      rw [← hW3]
      clear hW3 q0 q1 q2 f1 f2 hcv
      have f0 := HB3.out.2.frozen 0
      have g1 := HB3.out.2.frozen 1
      have g2 := HB3.out.2.frozen 2
      have l0 := HB3.out.2.cell (j := 0) rfl
      have l1 := HB3.out.2.cell (j := 1) rfl
      have l2 := HB3.out.2.cell (j := 2) rfl
      have q0 := HB3.out.1.cell (j := 0) rfl
      have q1 := HB3.out.1.cell (j := 1) rfl
      have q2 := HB3.out.1.cell (j := 2) rfl
      obtain ⟨W4, hW4⟩ : ∃ W4 : World, W4 = set3 W3 (w.heap.size + 1) (.slice (some ⟨b, off, none⟩) xs.length cap) (.int .i64 ((i1 : Int) + (n : Int))) (.bool false) := ⟨_, rfl⟩
      have hB4 : BoxAt W4 w.heap.size 160 3 (w.heap.size + 1) [.slice (some ⟨b, off, none⟩) xs.length cap, .int .i64 ((i1 : Int) + (n : Int)), .bool false] := by rw [hW4]; exact HB3.out.2.set3 _ _ _
      have k4 : Below w.heap.size w W4 := by rw [hW4]; exact below_set3 k3 (by omega) _ _ _
      have p0 := hB4.cell (j := 0) rfl
      have p1 := hB4.cell (j := 1) rfl
      have p2 := hB4.cell (j := 2) rfl
      unfold set3 at hW4
      go_wp2_with fail
      rw [← hW4]
      exact bodyPost_ret (v := .tuple #[rdV b off cap xs.length (i1 + n) false, .string st]) (by simp [results, Tryz.results103, go_sem, p0, p1, p2]) rfl ⟨i1 + n, false, st, rfl, ⟨by omega, hst, .inr ⟨rfl, HSt.out⟩⟩, k4⟩

theorem below_drewN {B : Nat} {a w : World} (h : Below B a w) (q : Nat) : Below B a (w.drewN q) := by
  induction q with
  | zero => exact h
  | succ q ih => exact ih.drew
set_option maxHeartbeats 4000000 in
theorem l2GetFixed_core (b off cap : Nat) (xs : List UInt8) (i : Nat) (w : World) (hx : BysAt w b off xs) (hlen : xs.length ≤ 2 ^ 30) (hi : i + 4 ≤ xs.length) :
    Calls Tryz.prog 101 #[.slice (some ⟨b, off, none⟩) xs.length cap, .int .i64 (i : Int)] w fun r w' => r = .returned (.int .u32 (fixAt xs i : Int)) ∧ Below w.heap.size w w' := by
  have g : ∀ j, j < xs.length → w.cell? ⟨b, off + j, none⟩ = some (.int .u8 ((xs.getD j 0).toNat : Int)) := by
    intro j hj
    rw [hx j xs[j] (List.getElem?_eq_getElem hj), List.getD_eq_getElem?_getD, List.getElem?_eq_getElem hj]
    rfl
  have c0 := g i (by omega)
  have c1 := g (i + 1) (by omega)
  have c2 := g (i + 2) (by omega)
  have c3 := g (i + 3) (by omega)
  have HF : Hid (fixAt xs i = (xs.getD i 0).toNat + 256 * (xs.getD (i + 1) 0).toNat + 65536 * (xs.getD (i + 2) 0).toNat + 16777216 * (xs.getD (i + 3) 0).toNat) := rfl
  have b0 := u8lt (xs.getD i 0)
  have b1 := u8lt (xs.getD (i + 1) 0)
  have b2 := u8lt (xs.getD (i + 2) 0)
  have b3 := u8lt (xs.getD (i + 3) 0)
  obtain ⟨y0, hy0⟩ : ∃ y : Nat, (xs.getD i 0).toNat = y := ⟨_, rfl⟩
  obtain ⟨y1, hy1⟩ : ∃ y : Nat, (xs.getD (i + 1) 0).toNat = y := ⟨_, rfl⟩
  obtain ⟨y2, hy2⟩ : ∃ y : Nat, (xs.getD (i + 2) 0).toNat = y := ⟨_, rfl⟩
  obtain ⟨y3, hy3⟩ : ∃ y : Nat, (xs.getD (i + 3) 0).toNat = y := ⟨_, rfl⟩
  rw [hy0] at c0 b0 HF
  rw [hy1] at c1 b1 HF
  rw [hy2] at c2 b2 HF
  rw [hy3] at c3 b3 HF
  clear hy0 hy1 hy2 hy3 g hx
  rw [HF.out]
  clear HF
  obtain ⟨j1, hj1⟩ : ∃ j : Nat, j = i + 1 := ⟨_, rfl⟩
  obtain ⟨j2, hj2⟩ : ∃ j : Nat, j = i + 2 := ⟨_, rfl⟩
  obtain ⟨j3, hj3⟩ : ∃ j : Nat, j = i + 3 := ⟨_, rfl⟩
  rw [← hj1] at c1
  rw [← hj2] at c2
  rw [← hj3] at c3
  have e1 : (i : Int) + 1 = (j1 : Int) := by omega
  have e2 : (i : Int) + 2 = (j2 : Int) := by omega
  have e3 : (i : Int) + 3 = (j3 : Int) := by omega
  obtain ⟨N, hN⟩ : ∃ N : Nat, xs.length = N := ⟨_, rfl⟩
  rw [hN] at hi hlen ⊢
  clear hN
  go_enter Tryz.func101, Tryz.ntmps101
  go_upto_region 1 with fail
  have z0 : (i : Int) < (N : Int) := by omega
  have z1 : (j1 : Int) < (N : Int) := by omega
  have z2 : (j2 : Int) < (N : Int) := by omega
  have z3 : (j3 : Int) < (N : Int) := by omega
  clear hj1 hj2 hj3
  go_quiet (fail)
  go_wp2_with fail
  go_ret
  refine ⟨?_, ?_⟩
  · show Ending.returned (Value.int .u32 ((y0 : Int) + 256 * (y1 : Int) + 65536 * (y2 : Int) + 16777216 * (y3 : Int))) = _
    congr 2
  · exact below_drewN (Below.refl _ _) _
end Go.Proofs.YtlgeffinhbodeaeGreatDoor

/-
  Bytes of the call's own; append; l2Num, l2Cat, l2Str, l2Fixed, l2Shared.
-/
namespace Go.Proofs.YtlgeffinhbodeaeGreatDoor
open Go.ChangeShapes Go.WideShapes Go.ChangeAt Go.RowKit Go.Deep
set_option linter.unusedVariables false
set_option linter.unusedSimpArgs false
set_option maxRecDepth 100000

/-- A row of bytes of the call's own. -/
def OwnY (w : World) (base g cp : Nat) (xs : List UInt8) : Prop := w.ownsRow base 5 1 (.slice (some ⟨g, 0, none⟩) xs.length cp) xs.length (xs.map ub)
theorem OwnY.lt {w : World} {base g cp : Nat} {xs : List UInt8} (h : OwnY w base g cp xs) : base ≤ g ∧ g < w.heap.size := World.ownsRow.lt h g rfl
theorem OwnY.chg {S : Nat → Prop} {w w' : World} {base g cp : Nat} {xs : List UInt8} (h : OwnY w base g cp xs) (hc : Chg S w w') (hn : ¬ S g) : OwnY w' base g cp xs := own_chg h hc (fun k q => by simp [Value.ownBlock] at q; subst q; exact hn)
theorem OwnY.below {w w' : World} {base g cp : Nat} {xs : List UInt8} (h : OwnY w base g cp xs) (hb : Below w.heap.size w w') : OwnY w' base g cp xs := h.chg (Chg.of_below hb) (S := fun _ => False) (fun q => q)
theorem OwnY.at {w : World} {base g cp : Nat} {xs : List UInt8} (h : OwnY w base g cp xs) : BysAt w g 0 xs := by
  intro k x hx
  have hk := (List.getElem?_eq_some_iff.1 hx).1
  rw [Nat.zero_add, World.ownsRow.cellAt h k (by omega), List.getElem?_map, hx]; rfl
theorem OwnY.caps {w : World} {base g cp : Nat} {xs : List UInt8} (h : OwnY w base g cp xs) : xs.length ≤ cp ∧ cp ≤ maxLen := by
  rcases h.2 with ⟨h0, _⟩ | ⟨g', cap', cur, hv, _, _, hn, hcap, _, _⟩
  · cases h0
  · simp only [Value.slice.injEq, Option.some.injEq, Addr.mk.injEq, and_true, true_and] at hv
    obtain ⟨rfl, rfl⟩ := hv
    exact ⟨hn, hcap⟩
theorem OwnY.mono {w : World} {base base' g cp : Nat} {xs : List UInt8} (h : OwnY w base g cp xs) (hb : base' ≤ base) : OwnY w base' g cp xs := by
  refine ⟨h.1, ?_⟩
  rcases h.2 with hn | ⟨g', cap', cur, hv, h1, rest⟩
  · exact .inl hn
  · exact .inr ⟨g', cap', cur, hv, Nat.le_trans hb h1, rest⟩
theorem ub_one (xs : List UInt8) : ∀ u ∈ xs.map ub, u.oneCell' = true := by
  intro u hu
  obtain ⟨r, _, rfl⟩ := List.mem_map.1 hu
  rfl
theorem Tryz.infoByte : (Tryz.prog.info? 5).map (fun i => (i.zero, i.size, i.bytes)) = some (some (.int .u8 0), 1, 1) := by kernel_rfl
/-- Bytes appended to a row of the call's own. -/
theorem wpList_append_bys {ops : Array Oper} {rest : List Oper} {o : Oper} {a : Act} {Q : Exit → Act → World → Prop} (w : World) (hgd : o.guard = none) (s x : Operand)
    (ho : o.op = .call { callee := .builtin .append, args := #[s, x], argTypes := #[22, 22] })
    (base g cp n b off m cx : Nat) (l k : List UInt8) (hs : a.eval s = .slice (some ⟨g, 0, none⟩) n cp) (hx : a.eval x = .slice (some ⟨b, off, none⟩) m cx) (hn : n = l.length) (hm : m = k.length) (hO : OwnY w base g cp l)
    (hc : BysAt w b off k) (hlen : l.length + k.length ≤ 2 ^ 30) (hbase : base ≤ w.heap.size)
    (h : ∀ g' cp' w', OwnY w' base g' cp' (l ++ k) → w.grownBy w' (some g) → (g' = g ∨ g' = w.heap.size) → wpList Tryz.prog ops Q rest (a.put o.dst (.slice (some ⟨g', 0, none⟩) (n + m) cp')) w') : wpList Tryz.prog ops Q (o :: rest) a w := by
  subst hn hm
  obtain ⟨i, hi, hz0, hz1, hz2⟩ := info_parts Tryz.infoByte
  refine wpList_append_own_at w hgd s x 22 ho base 5 i _ 1 1 Tryz.underlying22 hi hz0 hz1 hz2 rfl (by decide) (.slice (some ⟨g, 0, none⟩) l.length cp) l.length (l.map ub) hs hO ⟨b, off, none⟩ k.length cx (k.map ub) hx (by simp) ?_ (ub_one k) ?_ ?_ hbase ?_
  · intro j u hu
    rw [List.getElem?_map] at hu
    cases hk : k[j]? with
    | none => rw [hk] at hu; cases hu
    | some r =>
      rw [hk] at hu
      simp at hu
      rw [Addr.add_mid, hc j r hk, ← hu]
  · unfold maxLen; omega
  · omega
  · intro v' w' hO' hgr hnil hat
    rcases hO'.2 with ⟨h0, _⟩ | ⟨g', cap', cur, hv, _, _, hn, hcap, _, _⟩
    · have := (hnil.1 h0).1
      cases this
    · subst hv
      refine h g' cap' w' ?_ hgr ?_
      · unfold OwnY
        rw [List.length_append, List.map_append]
        exact hO'
      · simp [Value.ownBlock] at hat
        exact hat
theorem ownY_new (w : World) {base : Nat} (hb : base ≤ w.heap.size) : OwnY (w.alloc (Obj.cells #[] 5)) base w.heap.size 0 [] :=
  World.ownsRow_made w #[] 0 hb (Nat.zero_le _) (by simp)
theorem ownY_one (w : World) {base : Nat} (hb : base ≤ w.heap.size) (x : UInt8) {v : Int} (hv : v = (x.toNat : Int)) : OwnY (w.alloc (Obj.cells #[.int .u8 v] 5)) base w.heap.size 1 [x] := by
  subst hv
  exact World.ownsRow_lit w #[ub x] 1 hb (by decide) rfl

set_option maxHeartbeats 2000000 in
theorem l2Num_core : ∀ (f n : Nat) (w : World), n < 128 ^ (f + 1) → n < 2 ^ 64 →
    Calls Tryz.prog 96 #[.int .u64 (n : Int)] w fun e w' => ∃ g cp, e = .returned (.slice (some ⟨g, 0, none⟩) (num n).length cp) ∧ OwnY w' w.heap.size g cp (num n) ∧ Below w.heap.size w w' := by
  intro f
  induction f with
  | zero =>
    intro n w h1 h2
    have hs : (n : Int) < 128 := by simp at h1; omega
    go_enter Tryz.func96, Tryz.ntmps96
    go_wp2_with fail
    go_ret
    refine ⟨w.heap.size, 1, ?_, ?_, (Below.refl _ _).alloc (Nat.le_refl _) _⟩
    · rw [num_small (by omega)]; rfl
    · rw [num_small (by omega)]
      exact ownY_one w (Nat.le_refl _) _ (by rw [byt_nat (by omega)])
  | succ f ih =>
    intro n w h1 h2
    by_cases hs : (n : Int) < 128
    · go_enter Tryz.func96, Tryz.ntmps96
      go_wp2_with fail
      go_ret
      refine ⟨w.heap.size, 1, ?_, ?_, (Below.refl _ _).alloc (Nat.le_refl _) _⟩
      · rw [num_small (by omega)]; rfl
      · rw [num_small (by omega)]
        exact ownY_one w (Nat.le_refl _) _ (by rw [byt_nat (by omega)])
    · go_enter Tryz.func96, Tryz.ntmps96
      obtain ⟨W1, hW1⟩ : ∃ W1 : World, W1 = w.alloc (Obj.cells #[.int .u8 (128 + (n : Int) % 128)] 5) := ⟨_, rfl⟩
      have hb1 : Below w.heap.size w W1 := by rw [hW1]; exact (Below.refl _ _).alloc (Nat.le_refl _) _
      have hz1 : W1.heap.size = w.heap.size + 1 := by rw [hW1]; simp
      have HO1 : Hid (OwnY W1 w.heap.size w.heap.size 1 [byt (128 + n % 128)]) := by
        rw [hW1]
        exact ownY_one w (Nat.le_refl _) _ (by rw [byt_nat (by omega)]; omega)
      go_wp2_with fail
      rw [← hW1]
      clear hW1
      have hc := ih (n / 128) W1 (by rw [Nat.div_lt_iff_lt_mul (by omega), ← Nat.pow_succ]; exact h1) (by omega)
      rw [show ((n / 128 : Nat) : Int) = (n : Int) / 128 by omega] at hc
      refine hc.mono ?_
      rintro e w2 ⟨g, cp, rfl, hO2, hb2⟩
      have hl := num_len64 (n := n / 128) (by omega)
      have hg := hO2.lt
      have HO2 : Hid (OwnY w2 W1.heap.size g cp (num (n / 128)) ∧ OwnY w2 w.heap.size w.heap.size 1 [byt (128 + n % 128)]) := ⟨hO2, HO1.out.below hb2⟩
      have s2 := hb2.size
      clear hc hO2
      go_wp2_with (at_builtin; refine wpList_append_bys _ rfl _ _ rfl w.heap.size w.heap.size 1 1 g 0 _ cp [byt (128 + n % 128)] (num (n / 128)) rfl rfl rfl rfl ?hO ?hc ?hl ?hb ?_)
      case hO => exact HO2.out.2
      case hc => exact HO2.out.1.at
      case hl => simp; omega
      case hb => omega
      intro g' cp' w3 hO' hgr hat
      go_wp2_with fail
      go_ret
      refine ⟨g', cp', ?_, ?_, (hb1.trans (hb2.mono (by omega))).grown hgr (by omega) (fun j hj => by cases hj; omega)⟩
      · rw [num_large (n := n) (by omega), List.length_cons]
        first | rfl | (rw [Nat.add_comm]; rfl)
      · rw [num_large (n := n) (by omega)]
        exact hO'
theorem l2Num_all (n : Nat) (w : World) (h : n < 2 ^ 64) :
    Calls Tryz.prog 96 #[.int .u64 (n : Int)] w fun e w' => ∃ g cp, e = .returned (.slice (some ⟨g, 0, none⟩) (num n).length cp) ∧ OwnY w' w.heap.size g cp (num n) ∧ Below w.heap.size w w' :=
  l2Num_core 9 n w (Nat.lt_trans h (by decide)) h

set_option maxHeartbeats 1000000 in
theorem l2Fixed_core (n : Nat) (w : World) (h : n < 2 ^ 32) :
    Calls Tryz.prog 98 #[.int .u32 (n : Int)] w fun e w' => ∃ g, e = .returned (.slice (some ⟨g, 0, none⟩) 4 4) ∧ OwnY w' w.heap.size g 4 (fixed n) ∧ Below w.heap.size w w' := by
  go_enter Tryz.func98, Tryz.ntmps98
  go_wp2_with fail
  go_ret
  refine ⟨w.heap.size, rfl, ?_, (Below.refl _ _).alloc (Nat.le_refl _) _⟩
  have e0 : (n : Int) % 256 = ((byt (n % 256)).toNat : Int) := by rw [byt_nat (by omega)]; omega
  have e1 : (n : Int) / 256 % 256 = ((byt (n / 256 % 256)).toNat : Int) := by rw [byt_nat (by omega)]; omega
  have e2 : (n : Int) / 65536 % 256 = ((byt (n / 65536 % 256)).toNat : Int) := by rw [byt_nat (by omega)]; omega
  have e3 : (n : Int) / 16777216 = ((byt (n / 16777216 % 256)).toNat : Int) := by rw [byt_nat (by omega)]; omega
  rw [e0, e1, e2, e3]
  exact World.ownsRow_lit w #[ub (byt (n % 256)), ub (byt (n / 256 % 256)), ub (byt (n / 65536 % 256)), ub (byt (n / 16777216 % 256))] 4 (Nat.le_refl _) (by decide) rfl

set_option maxHeartbeats 1000000 in
theorem l2Cat_core (b off cap b' off' cap' : Nat) (xs ys : List UInt8) (w : World) (h : BysAt w b off xs) (h' : BysAt w b' off' ys) (hb : b < w.heap.size) (hb' : b' < w.heap.size) (hl : xs.length + ys.length ≤ 2 ^ 30) :
    Calls Tryz.prog 141 #[.slice (some ⟨b, off, none⟩) xs.length cap, .slice (some ⟨b', off', none⟩) ys.length cap'] w fun e w' => ∃ g cp, e = .returned (.slice (some ⟨g, 0, none⟩) (xs ++ ys).length cp) ∧ OwnY w' w.heap.size g cp (xs ++ ys) ∧ Below w.heap.size w w' := by
  obtain ⟨W1, hW1⟩ : ∃ W1 : World, W1 = w.alloc (Obj.cells #[] 5) := ⟨_, rfl⟩
  have hb1 : Below w.heap.size w W1 := by rw [hW1]; exact (Below.refl _ _).alloc (Nat.le_refl _) _
  have hz1 : W1.heap.size = w.heap.size + 1 := by rw [hW1]; simp
  have HO1 : Hid (OwnY W1 w.heap.size w.heap.size 0 [] ∧ BysAt W1 b off xs ∧ BysAt W1 b' off' ys) := by
    refine ⟨?_, h.below hb1 hb, h'.below hb1 hb'⟩
    rw [hW1]; exact ownY_new w (Nat.le_refl _)
  clear h h'
  go_enter Tryz.func141, Tryz.ntmps141
  go_wp2_with (at_builtin; rw [← hW1]; refine wpList_append_bys _ rfl _ _ rfl w.heap.size w.heap.size 0 0 b off _ cap [] xs rfl rfl rfl rfl ?hO ?hc ?hl ?hb ?_)
  case hO => exact HO1.out.1
  case hc => exact HO1.out.2.1
  case hl => simp; omega
  case hb => omega
  intro g2 cp2 w2 hO2 hgr2 hat2
  rw [← hW1] at hgr2
  have hb2 : Below w.heap.size w w2 := hb1.grown hgr2 (by omega) (fun j hj => by cases hj; omega)
  have hcg : Chg (fun k => k = w.heap.size) W1 w2 := Chg.of_grown hgr2 (fun k hk => by cases hk; rfl)
  have HO2 : Hid (OwnY w2 w.heap.size g2 cp2 xs ∧ BysAt w2 b' off' ys) := ⟨hO2, fun i x hx => by rw [hb2.cell (p := ⟨b', off' + i, none⟩) hb', ← hb1.cell (p := ⟨b', off' + i, none⟩) hb']; exact HO1.out.2.2 i x hx⟩
  have s2 := hb2.size
  clear hO2 hgr2 hat2 hW1 hcg
  go_wp2_with (at_builtin; refine wpList_append_bys _ rfl _ _ rfl w.heap.size g2 cp2 _ b' off' _ cap' xs ys rfl rfl rfl rfl ?hO ?hc ?hl ?hb ?_)
  case hO => exact HO2.out.1
  case hc => exact HO2.out.2
  case hl => omega
  case hb => omega
  intro g3 cp3 w3 hO3 hgr3 hat3
  go_wp2_with fail
  go_ret
  refine ⟨g3, cp3, ?_, hO3, hb2.grown hgr3 (by omega) (fun j hj => by cases hj; exact HO2.out.1.lt.1)⟩
  rw [List.length_append]
  rfl
end Go.Proofs.YtlgeffinhbodeaeGreatDoor

/-
  The file of blocks (mathematics).
-/
namespace Go.Proofs.YtlgeffinhbodeaeGreatDoor
set_option linter.unusedVariables false
set_option linter.unusedSimpArgs false

/-- The first row of a block. -/
def row0 : List Ent → List UInt8
  | [] => []
  | e :: _ => bl e.row
def sumOf (xs : List UInt8) : List UInt8 := fixed (crc xs).toNat
theorem sumOf_len (xs : List UInt8) : (sumOf xs).length = 4 := rfl
def fblock (es : List Ent) : List UInt8 := body [] es ++ sumOf (body [] es)
def fblocks (bs : List (List Ent)) : List UInt8 := bs.flatMap fblock
def fone (es : List Ent) : List UInt8 := num (body [] es).length ++ num es.length ++ strB (row0 es)
def fones (bs : List (List Ent)) : List UInt8 := bs.flatMap fone
def findex (bs : List (List Ent)) : List UInt8 := num bs.length ++ fones bs
def headB : List UInt8 := [82, 85, 78, 49]
def fileM (bs : List (List Ent)) : List UInt8 := headB ++ fblocks bs ++ findex bs ++ sumOf (findex bs) ++ fixed (findex bs).length
theorem fblocks_snoc (bs : List (List Ent)) (es : List Ent) : fblocks (bs ++ [es]) = fblocks bs ++ body [] es ++ sumOf (body [] es) := by
  simp [fblocks, fblock]
theorem fones_snoc (bs : List (List Ent)) (es : List Ent) : fones (bs ++ [es]) = fones bs ++ num (body [] es).length ++ num es.length ++ strB (row0 es) := by
  simp [fones, fone]
/-- What a block may be. -/
structure OkB (es : List Ent) : Prop where
  vld : ∀ e ∈ es, e.vld = true
  ok : ∀ e ∈ es, e.ok
  ne : 0 < es.length
theorem OkB.ts {es : List Ent} (h : OkB es) : ∀ e ∈ es, e.ts.toNat < 2 ^ 64 := fun e he => by have := wf_u64 (h.ok e he).ts; omega
theorem row0_len {es : List Ent} (h : OkB es) : (row0 es).length ≤ 64 := by
  cases es with
  | nil => simp [row0]
  | cons e es => have := vld_parts (h.vld e (by simp)); simp only [row0, bl_len]; omega
theorem fblocks_len : ∀ (bs : List (List Ent)), (∀ es ∈ bs, OkB es) → (fblocks bs).length ≤ 500 * bs.flatten.length + 4 * bs.length
  | [], _ => by simp [fblocks]
  | es :: bs, h => by
    have h1 := body_len es [] (h es (by simp)).vld (h es (by simp)).ts
    have h2 := fblocks_len bs (fun x hx => h x (by simp [hx]))
    simp only [fblocks, List.flatMap_cons, List.length_append, fblock, sumOf_len, List.flatten_cons, List.length_cons] at h2 ⊢
    omega
theorem fone_len {es : List Ent} (h : OkB es) (hl : es.length ≤ 10000) : (fone es).length ≤ 100 := by
  have h1 := body_len es [] h.vld h.ts
  have l1 := num_len64 (n := (body [] es).length) (by omega)
  have l2 := num_len64 (n := es.length) (by omega)
  have l3 := row0_len h
  have l4 := strB_len (s := row0 es) (by omega)
  simp only [fone, List.length_append]
  omega
theorem fones_len : ∀ (bs : List (List Ent)), (∀ es ∈ bs, OkB es) → bs.flatten.length ≤ 10000 → (fones bs).length ≤ 100 * bs.length
  | [], _, _ => by simp [fones]
  | es :: bs, h, hl => by
    simp only [List.flatten_cons, List.length_append] at hl
    have h1 := fone_len (h es (by simp)) (by omega)
    have h2 := fones_len bs (fun x hx => h x (by simp [hx])) (by omega)
    simp only [fones, List.flatMap_cons, List.length_append, List.length_cons] at h2 ⊢
    omega
theorem flatten_take (bs : List (List Ent)) (k : Nat) : (bs.take k).flatten.length ≤ bs.flatten.length := by
  have : bs.flatten = (bs.take k).flatten ++ (bs.drop k).flatten := by rw [← List.flatten_append, List.take_append_drop]
  rw [this, List.length_append]
  omega
theorem flatten_mem {bs : List (List Ent)} {es : List Ent} (h : es ∈ bs) : es.length ≤ bs.flatten.length := by
  obtain ⟨s, t, rfl⟩ := List.append_of_mem h
  simp
  omega
theorem blocks_many : ∀ (bs : List (List Ent)), (∀ es ∈ bs, OkB es) → bs.length ≤ bs.flatten.length
  | [], _ => by simp
  | es :: bs, h => by
    have h1 := (h es (by simp)).ne
    have h2 := blocks_many bs (fun x hx => h x (by simp [hx]))
    simp only [List.flatten_cons, List.length_append, List.length_cons]
    omega
end Go.Proofs.YtlgeffinhbodeaeGreatDoor

/-
  The index of a file, read (mathematics).
-/
namespace Go.Proofs.YtlgeffinhbodeaeGreatDoor
set_option linter.unusedVariables false
set_option linter.unusedSimpArgs false

/-- The string of bytes. -/
def ba (l : List UInt8) : ByteArray := ⟨l.toArray⟩
theorem bl_ba (l : List UInt8) : bl (ba l) = l := by simp [bl, ba]
theorem ba_bl (s : ByteArray) : ba (bl s) = s := by
  apply ByteArray.ext
  simp [bl, ba]
/-- One block of the index. -/
structure Blk where
  fr : Nat
  til : Nat
  count : Nat
  row : ByteArray
def oneBlk (n lim p : Nat) (t : List UInt8) : Option (Blk × Nat × List UInt8) :=
  match getNum t with
  | none => none
  | some (size, t1) =>
    match getNum t1 with
    | none => none
    | some (count, t2) =>
      match getStr t2 with
      | none => none
      | some (row, t3) => if count < 1 ∨ 1000 < count ∨ n < size ∨ lim < p + size + 4 then none else some (⟨p, p + size, count, ba row⟩, p + size + 4, t3)
def getBlks (n lim : Nat) : Nat → Nat → List UInt8 → Option (List Blk × Nat × List UInt8)
  | 0, p, t => some ([], p, t)
  | k + 1, p, t =>
    match oneBlk n lim p t with
    | none => none
    | some (b, p1, t1) =>
      match getBlks n lim k p1 t1 with
      | none => none
      | some (l, p2, t2) => some (b :: l, p2, t2)
def pre (l : List Blk) (o : Option (List Blk × Nat × List UInt8)) : Option (List Blk × Nat × List UInt8) :=
  match o with
  | none => none
  | some (l', p, t) => some (l ++ l', p, t)
theorem pre_nil (o : Option (List Blk × Nat × List UInt8)) : pre [] o = o := by
  cases o with
  | none => rfl
  | some q => obtain ⟨l, p, t⟩ := q; rfl
/-- The blocks read so far and what follows. -/
def BlksTo (n lim K : Nat) (t0 : List UInt8) (k : Nat) (l : List Blk) (p : Nat) (t : List UInt8) : Prop := k ≤ K ∧ l.length = k ∧ getBlks n lim K 4 t0 = pre l (getBlks n lim (K - k) p t)
theorem blksTo_zero (n lim K : Nat) (t0 : List UInt8) : BlksTo n lim K t0 0 [] 4 t0 := ⟨Nat.zero_le _, rfl, by rw [pre_nil]; rfl⟩
theorem BlksTo.more {n lim K : Nat} {t0 : List UInt8} {k : Nat} {l : List Blk} {p : Nat} {t : List UInt8} (h : BlksTo n lim K t0 k l p t) (hk : k < K) {b : Blk} {p1 : Nat} {t1 : List UInt8} (ho : oneBlk n lim p t = some (b, p1, t1)) : BlksTo n lim K t0 (k + 1) (l ++ [b]) p1 t1 := by
  refine ⟨hk, by rw [List.length_append, h.2.1]; rfl, ?_⟩
  rw [h.2.2, show K - k = (K - (k + 1)) + 1 by omega, getBlks, ho]
  simp only []
  cases getBlks n lim (K - (k + 1)) p1 t1 with
  | none => rfl
  | some q => obtain ⟨l', p', t'⟩ := q; simp [pre]
theorem BlksTo.stop {n lim K : Nat} {t0 : List UInt8} {k : Nat} {l : List Blk} {p : Nat} {t : List UInt8} (h : BlksTo n lim K t0 k l p t) (hk : k < K) (ho : oneBlk n lim p t = none) : getBlks n lim K 4 t0 = none := by
  rw [h.2.2, show K - k = (K - (k + 1)) + 1 by omega, getBlks, ho]
  rfl
theorem BlksTo.done {n lim K : Nat} {t0 : List UInt8} {l : List Blk} {p : Nat} {t : List UInt8} (h : BlksTo n lim K t0 K l p t) : getBlks n lim K 4 t0 = some (l, p, t) := by
  rw [h.2.2, Nat.sub_self]
  simp [getBlks, pre]
def idxEnd (lim : Nat) (o : Option (List Blk × Nat × List UInt8)) : Int × List Blk :=
  match o with
  | none => (1, [])
  | some (l, p, t') => if t' ≠ [] ∨ p ≠ lim then (1, []) else (0, l)
/-- What l2Index answers. -/
def idxBody (n lim : Nat) (ix : List UInt8) : Int × List Blk :=
  match getNum ix with
  | none => (1, [])
  | some (k, t) => if 10000 < k then (1, []) else idxEnd lim (getBlks n lim k 4 t)
def idxM (b : List UInt8) : Int × List Blk :=
  if b.length < 13 ∨ b.take 4 ≠ headB then (1, []) else
  if b.length < fixAt b (b.length - 4) + 12 then (1, []) else
  if (crc ((b.drop (b.length - 8 - fixAt b (b.length - 4))).take (fixAt b (b.length - 4)))).toNat ≠ fixAt b (b.length - 8) then (2, []) else
  idxBody b.length (b.length - 8 - fixAt b (b.length - 4)) ((b.drop (b.length - 8 - fixAt b (b.length - 4))).take (fixAt b (b.length - 4)))
/-- Blocks of an index lie within the file. -/
def Blk.in (n : Nat) (b : Blk) : Prop := 4 ≤ b.fr ∧ b.fr ≤ b.til ∧ b.til + 4 ≤ n ∧ 1 ≤ b.count ∧ b.count ≤ 1000
theorem oneBlk_in {n lim p : Nat} {t : List UInt8} {b : Blk} {p1 : Nat} {t1 : List UInt8} (h : oneBlk n lim p t = some (b, p1, t1)) (hp : 4 ≤ p) : b.in lim ∧ p ≤ p1 ∧ p1 ≤ lim := by
  unfold oneBlk at h
  cases h1 : getNum t with
  | none => rw [h1] at h; cases h
  | some q =>
    obtain ⟨size, u1⟩ := q
    rw [h1] at h
    simp only [] at h
    cases h2 : getNum u1 with
    | none => rw [h2] at h; cases h
    | some q =>
      obtain ⟨count, u2⟩ := q
      rw [h2] at h
      simp only [] at h
      cases h3 : getStr u2 with
      | none => rw [h3] at h; cases h
      | some q =>
        obtain ⟨row, u3⟩ := q
        rw [h3] at h
        simp only [] at h
        split at h
        · cases h
        · simp only [Option.some.injEq, Prod.mk.injEq] at h
          obtain ⟨rfl, rfl, rfl⟩ := h
          refine ⟨⟨hp, ?_, ?_, ?_, ?_⟩, ?_, ?_⟩ <;> (try simp only []) <;> omega
theorem getBlks_in {n lim : Nat} : ∀ (k p : Nat) (t : List UInt8) (l : List Blk) (p1 : Nat) (t1 : List UInt8), getBlks n lim k p t = some (l, p1, t1) → 4 ≤ p → (∀ b ∈ l, b.in lim) ∧ l.length = k
  | 0, p, t, l, p1, t1, h, hp => by
    simp only [getBlks, Option.some.injEq, Prod.mk.injEq] at h
    obtain ⟨rfl, _, _⟩ := h
    exact ⟨fun b hb => by simp at hb, rfl⟩
  | k + 1, p, t, l, p1, t1, h, hp => by
    rw [getBlks] at h
    cases ho : oneBlk n lim p t with
    | none => rw [ho] at h; cases h
    | some q =>
      obtain ⟨b, p2, t2⟩ := q
      rw [ho] at h
      simp only [] at h
      obtain ⟨hb, hp2, _⟩ := oneBlk_in ho hp
      cases hg : getBlks n lim k p2 t2 with
      | none => rw [hg] at h; cases h
      | some q =>
        obtain ⟨l', p3, t3⟩ := q
        rw [hg] at h
        simp only [Option.some.injEq, Prod.mk.injEq] at h
        obtain ⟨rfl, _, _⟩ := h
        obtain ⟨h1, h2⟩ := getBlks_in k p2 t2 l' p3 t3 hg (by omega)
        refine ⟨fun x hx => ?_, by simp [h2]⟩
        rcases List.mem_cons.1 hx with rfl | hx
        · exact hb
        · exact h1 x hx
theorem idxM_in (b : List UInt8) : ∀ k ∈ (idxM b).2, k.in b.length := by
  intro k hk
  unfold idxM at hk
  split at hk
  · simp at hk
  split at hk
  · simp at hk
  split at hk
  · simp at hk
  unfold idxBody at hk
  split at hk
  · simp at hk
  · split at hk
    · simp at hk
    · unfold idxEnd at hk
      split at hk
      · simp at hk
      · next heq =>
        split at hk
        · simp at hk
        · obtain ⟨h1, h2, h3, h4, h5⟩ := (getBlks_in _ _ _ _ _ _ heq (Nat.le_refl _)).1 k hk
          exact ⟨h1, h2, by omega, h4, h5⟩
end Go.Proofs.YtlgeffinhbodeaeGreatDoor

/-
  spec.l1Into: an entry laid into an ordered list.
-/
namespace Go.Proofs.YtlgeffinhbodeaeGreatDoor
open Go.ChangeShapes Go.WideShapes Go.ChangeAt Go.RowKit Go.Deep
set_option linter.unusedVariables false

/-- One entry appended to a row of the call's own. -/
theorem wpList_append_ent {ops : Array Oper} {rest : List Oper} {o : Oper} {a : Act} {Q : Exit → Act → World → Prop} (w : World) (hgd : o.guard = none) (s x : Operand)
    (ho : o.op = .call { callee := .builtin .append, args := #[s, x], argTypes := #[35, 35] })
    (base g cp n blk : Nat) (fs : List Ent) (e : Ent) (hs : a.eval s = .slice (some ⟨g, 0, none⟩) n cp) (hx : a.eval x = .slice (some ⟨blk, 0, none⟩) 1 1) (hn : n = fs.length) (hO : OwnE w base g cp fs)
    (hc : EntsAt w blk 0 [e]) (hlen : fs.length ≤ 2 ^ 30) (hbase : base ≤ w.heap.size)
    (h : ∀ g' cp' w', OwnE w' base g' cp' (fs ++ [e]) → w.grownBy w' (some g) → wpList Tryz.prog ops Q rest (a.put o.dst (.slice (some ⟨g', 0, none⟩) (n + 1) cp')) w') : wpList Tryz.prog ops Q (o :: rest) a w := by
  obtain ⟨i, hi, hz0, hz1, hz2⟩ := info_parts Tryz.infoEnt
  subst hn
  obtain ⟨c0, c1, c2, c3, c4, c5⟩ := hc 0 e rfl
  refine wpList_append_own w hgd s x 35 ho base 45 i _ 6 80 Tryz.underlying35 hi hz0 hz1 hz2 rfl (by decide) (.slice (some ⟨g, 0, none⟩) fs.length cp) fs.length (cellsE fs) hs hO ⟨blk, 0, none⟩ 1 1 (cellsE [e]) hx rfl ?_ ?_ ?_ ?_ hbase ?_
  · intro j u hu
    have hj : j < 6 := by
      have := (List.getElem?_eq_some_iff.1 hu).1
      rw [length_cellsE] at this
      simpa using this
    rw [Addr.add_mid, Nat.zero_add]
    simp only [Nat.zero_mul, Nat.zero_add] at c0 c1 c2 c3 c4 c5
    match j, hj, hu with
    | 0, _, hu => simp [cellsE] at hu; rw [← hu]; exact c0
    | 1, _, hu => simp [cellsE] at hu; rw [← hu]; exact c1
    | 2, _, hu => simp [cellsE] at hu; rw [← hu]; exact c2
    | 3, _, hu => simp [cellsE] at hu; rw [← hu]; exact c3
    | 4, _, hu => simp [cellsE] at hu; rw [← hu]; exact c4
    | 5, _, hu => simp [cellsE] at hu; rw [← hu]; exact c5
  · intro u hu
    simp [cellsE] at hu
    rcases hu with rfl | rfl | rfl | rfl | rfl | rfl <;> rfl
  · unfold maxLen; omega
  · omega
  · intro v' w' hown hgr hnil
    rw [← cellsE_append] at hown
    have hlen' : (fs ++ [e]).length = fs.length + 1 := by simp
    rcases hown.2 with ⟨hv, _⟩ | ⟨g', cap', cur, hv, h1, h2, h3⟩
    · have := (hnil.1 hv).1
      simp at this
    · subst hv
      exact h g' cap' w' (by unfold OwnE; rw [hlen']; exact hown) hgr

/-- An entry laid into an ordered list, in the place of one with the same key. -/
def intoG (e : Ent) : List Ent → Bool → List Ent
  | [], done => if done then [] else [e]
  | x :: r, done =>
    if keyCmp x e = -1 then x :: intoG e r done
    else if keyCmp x e = 0 then (if done then intoG e r true else e :: intoG e r true)
    else (if done then x :: intoG e r true else e :: x :: intoG e r true)
def into (L : List Ent) (e : Ent) : List Ent := intoG e L false

theorem length_intoG (e : Ent) : ∀ (L : List Ent) (d : Bool), (intoG e L d).length ≤ L.length + 1
  | [], d => by unfold intoG; split <;> simp
  | x :: r, d => by
    have h1 := length_intoG e r d
    have h2 := length_intoG e r true
    have h3 : ∀ (L : List Ent), (intoG e L true).length ≤ L.length := by
      intro L
      induction L with
      | nil => simp [intoG]
      | cons y s ih =>
        unfold intoG
        split
        · simp; omega
        · split
          · simp; omega
          · simp; omega
    have h4 := h3 r
    unfold intoG
    split
    · simp; omega
    · split
      · split <;> simp <;> omega
      · split <;> simp <;> omega

set_option maxHeartbeats 2000000 in
theorem into_core (b off cap : Nat) (L : List Ent) (e : Ent) (w : World) (hE : EntsAt w b off L) (hB : b < w.heap.size) (hlen : L.length ≤ 1048576) :
    Calls Tryz.prog 38 #[.slice (some ⟨b, off, none⟩) L.length cap, e.v] w fun r w' =>
      ∃ g cp, r = .returned (.slice (some ⟨g, 0, none⟩) (into L e).length cp) ∧ OwnE w' w.heap.size g cp (into L e) ∧ Below w.heap.size w w' := by
  unfold Ent.v
  obtain ⟨W0, hW0⟩ : ∃ W0 : World, W0 = w.alloc (Obj.cells #[.string e.row, .string e.fam, .string e.qual, .int .u64 e.ts, .int .i64 e.kind, .string e.val] 45) := ⟨_, rfl⟩
  have hb0 : Below w.heap.size w W0 := by rw [hW0]; exact (Below.refl _ _).alloc (Nat.le_refl _) _
  have hz0 : W0.heap.size = w.heap.size + 1 := by rw [hW0]; simp
  have HX : Hid (EntsAt W0 w.heap.size 0 [e]) := by
    show EntsAt W0 w.heap.size 0 [e]
    intro j f hf
    obtain rfl : j = 0 := by
      have := (List.getElem?_eq_some_iff.1 hf).1
      simpa using this
    simp at hf
    subst hf
    rw [hW0]
    simp
  have HE : Hid (EntsAt W0 b off L) := hE.below hb0 hB
  have HS : Hid (OwnE (W0.alloc (Obj.cells #[] 45)) (w.heap.size + 1) (w.heap.size + 1) 0 []) := by
    show OwnE (W0.alloc (Obj.cells #[] 45)) (w.heap.size + 1) (w.heap.size + 1) 0 []
    rw [← hz0]
    exact World.ownsRow_made W0 #[] 0 (Nat.le_refl _) (Nat.zero_le _) (by simp)
  clear hE
  have HZ : Hid (W0.heap.size = w.heap.size + 1) := hz0
  have hz1 : w.heap.size < W0.heap.size := by omega
  have hz2 : W0.heap.size ≤ w.heap.size + 1 := by omega
  clear hz0
  go_enter Tryz.func38, Tryz.ntmps38
  go_wp2_with fail
  rw [← hW0]
  clear hW0
  go_loopw [5, 6, 7] (fun o d i wr => ∃ (k g cp : Nat) (fs : List Ent) (dn : Bool), k ≤ L.length ∧ i = .int .i64 k ∧ d = .bool dn ∧ o = .slice (some ⟨g, 0, none⟩) fs.length cp ∧ fs ++ intoG e (L.drop k) dn = into L e ∧ OwnE wr (w.heap.size + 1) g cp fs ∧ Below W0.heap.size W0 wr) (fun _ _ i _ => L.length - (intOf i).toNat)
  case atStart => exact ⟨0, _, 0, [], false, Nat.zero_le _, rfl, rfl, rfl, rfl, HS.out, (Below.refl _ _).alloc (Nat.le_refl _) _⟩
  case round =>
    obtain ⟨k, g, cp, fs, dn, hk, rfl, rfl, rfl, hin, hO, hb⟩ := hrel
    have hfl : fs.length ≤ 1048577 := by
      have h1 := congrArg List.length hin
      have h2 := length_intoG e L false
      rw [List.length_append] at h1
      unfold into at h1
      omega
    have HI : Hid (fs ++ intoG e (L.drop k) dn = into L e) := hin
    have HO : Hid (OwnE wr (w.heap.size + 1) g cp fs) := hO
    have hg := hO.lt
    have hs := hb.size
    clear hin hO
    by_cases hlt : k < L.length
    · obtain ⟨x, hx⟩ : ∃ x, L[k]? = some x := ⟨_, List.getElem?_eq_getElem hlt⟩
      have hdr : L.drop k = x :: L.drop (k + 1) := by
        rw [List.drop_eq_getElem_cons hlt]
        rw [List.getElem?_eq_getElem hlt] at hx
        simp at hx
        rw [hx]
      have HD : Hid (L.drop k = x :: L.drop (k + 1)) := hdr
      clear hdr
      have hec : ∀ wx, Below W0.heap.size W0 wx → EntsAt wx b off L ∧ EntsAt wx w.heap.size 0 [e] := fun wx h => ⟨HE.out.below h (by omega), HX.out.below h (by omega)⟩
      have HEC : Hid (∀ wx, Below W0.heap.size W0 wx → EntsAt wx b off L ∧ EntsAt wx w.heap.size 0 [e]) := hec
      clear hec
      obtain ⟨c0, c1, c2, c3, c4, c5⟩ := (HEC.out wr hb).1 k x hx
      obtain ⟨d0, d1, d2, d3, d4, d5⟩ := (HEC.out wr hb).2 0 e rfl
      simp only [Nat.zero_add, Nat.zero_mul] at d0 d1 d2 d3 d4 d5
      have HXK : Hid (L[k]? = some x) := hx
      clear hx
      have z2 : (k : Int) < (L.length : Int) := by omega
      go_upto_region 6 with fail
      go_cut [8] (fun s wx => s = .int .i64 (keyCmp x e) ∧ Below wr.heap.size wr wx)
      case first =>
        go_region_with (go_at_call 88; refine (specCompareKeys_any x e _).mono ?_; rintro e' w' ⟨rfl, hbb⟩)
        all_goals go_wp2_with fail
        all_goals go_meet
        all_goals exact ⟨rfl, ((Below.refl _ _).drew).trans (hbb.mono (by simp))⟩
      case rest =>
      obtain ⟨rfl, h3⟩ := hcut
      have hb3 := hb.trans (h3.mono hb.size)
      have HO3 : Hid (OwnE wc (w.heap.size + 1) g cp fs) := HO.out.below h3 hg.2
      have hs3 := h3.size
      clear c0 c1 c2 c3 c4 c5 d0 d1 d2 d3 d4 d5
      obtain ⟨c0, c1, c2, c3, c4, c5⟩ := (HEC.out wc hb3).1 k x HXK.out
      obtain ⟨d0, d1, d2, d3, d4, d5⟩ := (HEC.out wc hb3).2 0 e rfl
      simp only [Nat.zero_add, Nat.zero_mul] at d0 d1 d2 d3 d4 d5
      have ent_new : ∀ (wx : World) (f : Ent), EntsAt (wx.alloc (Obj.cells #[.string f.row, .string f.fam, .string f.qual, .int .u64 f.ts, .int .i64 f.kind, .string f.val] 45)) wx.heap.size 0 [f] := by
        intro wx f j y hy
        obtain rfl : j = 0 := by
          have := (List.getElem?_eq_some_iff.1 hy).1
          simpa using this
        simp at hy
        subst hy
        simp
      have HN : Hid (∀ (wx : World) (f : Ent), EntsAt (wx.alloc (Obj.cells #[.string f.row, .string f.fam, .string f.qual, .int .u64 f.ts, .int .i64 f.kind, .string f.val] 45)) wx.heap.size 0 [f]) := ent_new
      clear ent_new
      rcases keyCmp_vals x e with hc | hc | hc
      · have HC : Hid (keyCmp x e = -1) := hc
        go_wp2_with (at_builtin; refine wpList_append_ent _ rfl _ _ rfl (w.heap.size + 1) g cp _ _ fs x rfl rfl rfl ?hO ?hc ?hl ?hb ?_)
        case hO => exact HO3.out.below ((Below.refl _ _).alloc (Nat.le_refl _) _) (by omega)
        case hc => exact HN.out wc x
        case hl => omega
        case hb => simp; omega
        intro g' cp' w' hO' hgr
        have HO' : Hid (OwnE w' (w.heap.size + 1) g' cp' (fs ++ [x])) := hO'
        have hb' : Below W0.heap.size W0 w' := (hb3.alloc hb3.size _).grown hgr (by simp; omega) (fun j hj => by cases hj; omega)
        clear hO' hgr
        go_wp2_with fail
        go_roundw
        case rel =>
          go_light
          refine ⟨k + 1, g', cp', fs ++ [x], dn, by omega, by go_num, rfl, by simp, ?_, HO'.out, hb'⟩
          have h := HI.out
          rw [HD.out] at h
          rw [← h]
          simp [intoG, HC.out]
        case measure => go_light; simp [intOf]; omega
      · have HC : Hid (keyCmp x e = 0) := hc
        cases dn
        · go_wp2_with (at_builtin; refine wpList_append_ent _ rfl _ _ rfl (w.heap.size + 1) g cp _ _ (fs) e rfl rfl rfl ?hO ?hc ?hl ?hb ?_)
          case hO => exact HO3.out.below ((Below.refl _ _).alloc (Nat.le_refl _) _) (by omega)
          case hc => exact HN.out wc e
          case hl => omega
          case hb => simp; omega
          intro g' cp' w' hO' hgr
          have HO' : Hid (OwnE w' (w.heap.size + 1) g' cp' (fs ++ [e])) := hO'
          have hb' : Below W0.heap.size W0 w' := (hb3.alloc hb3.size _).grown hgr (by simp; omega) (fun j hj => by cases hj; omega)
          clear hO' hgr
          go_wp2_with fail
          go_roundw
          case rel =>
            go_light
            refine ⟨k + 1, g', cp', fs ++ [e], true, by omega, by go_num, rfl, by simp, ?_, HO'.out, hb'⟩
            have h := HI.out
            rw [HD.out] at h
            rw [← h]
            simp [intoG, HC.out]
          case measure => go_light; simp [intOf]; omega
        · go_wp2_with fail
          go_roundw
          case rel =>
            go_light
            refine ⟨k + 1, g, cp, fs, true, by omega, by go_num, rfl, by simp, ?_, HO3.out, hb3⟩
            have h := HI.out
            rw [HD.out] at h
            rw [← h]
            simp [intoG, HC.out]
          case measure => go_light; simp [intOf]; omega
      · have HC : Hid (keyCmp x e = 1) := hc
        cases dn
        · go_wp2_with (at_builtin; refine wpList_append_ent _ rfl _ _ rfl (w.heap.size + 1) g cp _ _ (fs) e rfl rfl rfl ?hO ?hc ?hl ?hb ?_)
          case hO => exact HO3.out.below ((Below.refl _ _).alloc (Nat.le_refl _) _) (by omega)
          case hc => exact HN.out wc e
          case hl => omega
          case hb => simp; omega
          intro g1 cp1 w1 hO1 hgr1
          have HO1 : Hid (OwnE w1 (w.heap.size + 1) g1 cp1 (fs ++ [e])) := hO1
          have hb1 : Below W0.heap.size W0 w1 := (hb3.alloc hb3.size _).grown hgr1 (by simp; omega) (fun j hj => by cases hj; omega)
          have hg1 := hO1.lt
          have hs1 := hb1.size
          clear hO1 hgr1 c0 c1 c2 c3 c4 c5
          obtain ⟨c0, c1, c2, c3, c4, c5⟩ := (HEC.out w1 hb1).1 k x HXK.out
          go_wp2_with (at_builtin; refine wpList_append_ent _ rfl _ _ rfl (w.heap.size + 1) g1 cp1 _ _ (fs ++ [e]) x rfl rfl (by simp) ?hO ?hc ?hl ?hb ?_)
          case hO => exact HO1.out.below ((Below.refl _ _).alloc (Nat.le_refl _) _) hg1.2
          case hc => exact HN.out w1 x
          case hl => simp; omega
          case hb => simp; omega
          intro g' cp' w' hO' hgr
          have HO' : Hid (OwnE w' (w.heap.size + 1) g' cp' (fs ++ [e, x])) := hO'
          have hb' : Below W0.heap.size W0 w' := (hb1.alloc hb1.size _).grown hgr (by simp; omega) (fun j hj => by cases hj; omega)
          clear hO' hgr
          go_wp2_with fail
          go_roundw
          case rel =>
            go_light
            refine ⟨k + 1, g', cp', fs ++ [e, x], true, by omega, by go_num, rfl, by simp, ?_, HO'.out, hb'⟩
            have h := HI.out
            rw [HD.out] at h
            rw [← h]
            simp [intoG, HC.out]
          case measure => go_light; simp [intOf]; omega
        · go_wp2_with (at_builtin; refine wpList_append_ent _ rfl _ _ rfl (w.heap.size + 1) g cp _ _ (fs) x rfl rfl rfl ?hO ?hc ?hl ?hb ?_)
          case hO => exact HO3.out.below ((Below.refl _ _).alloc (Nat.le_refl _) _) (by omega)
          case hc => exact HN.out wc x
          case hl => omega
          case hb => simp; omega
          intro g' cp' w' hO' hgr
          have HO' : Hid (OwnE w' (w.heap.size + 1) g' cp' (fs ++ [x])) := hO'
          have hb' : Below W0.heap.size W0 w' := (hb3.alloc hb3.size _).grown hgr (by simp; omega) (fun j hj => by cases hj; omega)
          clear hO' hgr
          go_wp2_with fail
          go_roundw
          case rel =>
            go_light
            refine ⟨k + 1, g', cp', fs ++ [x], true, by omega, by go_num, rfl, by simp, ?_, HO'.out, hb'⟩
            have h := HI.out
            rw [HD.out] at h
            rw [← h]
            simp [intoG, HC.out]
          case measure => go_light; simp [intOf]; omega
    · have hdr : L.drop k = [] := List.drop_eq_nil_of_le (by omega)
      have HD : Hid (L.drop k = []) := hdr
      clear hdr
      have hkk : k = L.length := by omega
      cases dn
      · obtain ⟨d0, d1, d2, d3, d4, d5⟩ := HX.out.below hb (by omega) 0 e rfl
        simp only [Nat.zero_add, Nat.zero_mul] at d0 d1 d2 d3 d4 d5
        have HF : Hid (fs ++ [e] = into L e) := by
          have h := HI.out
          rw [HD.out] at h
          exact h
        go_wp2_with (at_builtin; refine wpList_append_ent _ rfl _ _ rfl (w.heap.size + 1) g cp _ _ fs e rfl rfl rfl ?hO ?hc ?hl ?hb ?_)
        case hO => exact HO.out.below ((Below.refl _ _).alloc (Nat.le_refl _) _) (by omega)
        case hc =>
          intro j y hy
          obtain rfl : j = 0 := by
            have := (List.getElem?_eq_some_iff.1 hy).1
            simpa using this
          simp at hy
          subst hy
          simp
        case hl => omega
        case hb => simp; omega
        intro g' cp' w' hO' hgr
        have HO' : Hid (OwnE w' (w.heap.size + 1) g' cp' (fs ++ [e])) := hO'
        have hb' : Below W0.heap.size W0 w' := (hb.alloc hb.size _).grown hgr (by simp; omega) (fun j hj => by cases hj; omega)
        clear hO' hgr
        go_wp2_with fail
        go_ret
        refine ⟨g', cp', ?_, ?_, hb0.trans (hb'.mono (by omega))⟩
        · rw [← HF.out]; simp
        · rw [← HF.out]; exact HO'.out.mono (by omega)
      · have HF : Hid (fs = into L e) := by
          have h := HI.out
          rw [HD.out] at h
          show fs = into L e
          simpa [intoG] using h
        go_wp2_with fail
        go_ret
        refine ⟨g, cp, ?_, ?_, hb0.trans (hb.mono (by omega))⟩
        · rw [← HF.out]; rfl
        · rw [← HF.out]; exact HO.out.mono (by omega)
end Go.Proofs.YtlgeffinhbodeaeGreatDoor

