/-
  Runs that are valid: the loops of spec.ValidRun, impl.validWrites, impl.ValidRun.
-/
import Derived.Test.YtlgeffinhbodeaeQVRun
namespace Go.Proofs.Ytlgeffinhbodeae
open Go.ChangeShapes Go.WideShapes Go.ChangeAt Go.RowKit Go.Deep
set_option linter.unusedVariables false

/-- All of them are valid, and not too many. -/
def GoodW (es : List Ent) : Prop := es.length ≤ 10000 ∧ ∀ e ∈ es, e.vld = true
/-- Each may stand right before the next. -/
def Pairs (es : List Ent) : Prop := ∀ i p e, es[i]? = some p → es[i + 1]? = some e → okPair p e = true
def GoodR (es : List Ent) : Prop := GoodW es ∧ Pairs es

theorem iffF {p : Prop} (h : ¬ p) : (false = true ↔ p) := ⟨fun x => Bool.noConfusion x, fun x => absurd x h⟩
theorem iffT {p : Prop} (h : p) : (true = true ↔ p) := ⟨fun _ => h, fun _ => rfl⟩
theorem vld_of_take {es : List Ent} {k : Nat} {e : Ent} (h : ∀ x ∈ es.take k, x.vld = true) (he : es[k]? = some e) (hv : e.vld = true) : ∀ x ∈ es.take (k + 1), x.vld = true := by
  intro x hx
  rw [List.take_add_one, he] at hx
  simp at hx
  rcases hx with hx | rfl
  · exact h x hx
  · exact hv

set_option maxHeartbeats 400000 in
theorem validWrites_core (b off cap : Nat) (es : List Ent) (w : World) (hE : EntsAt w b off es) (hok : ∀ e ∈ es, e.ok) (hB : b < w.heap.size) (hlen : es.length ≤ cap) (hcap : cap ≤ maxLen) :
    Calls Try.prog 58 #[.slice (some ⟨b, off, none⟩) es.length cap] w fun e w' =>
      ∃ r : Bool, e = .returned (.bool r) ∧ (r = true ↔ GoodW es) ∧ Below w.heap.size w w' := by
  have HE : Hid (EntsAt w b off es) := hE
  have HO : Hid (∀ e ∈ es, e.ok) := hok
  clear hE hok
  unfold maxLen at hcap
  by_cases hbig : 10000 < es.length
  · have H : Hid (¬ GoodW es) := fun h => by have := h.1; omega
    go_enter Try.func58, Try.ntmps58
    go_wp2
    go_ret
    exact ⟨_, rfl, iffF H.out, Below.refl _ _⟩
  go_enter Try.func58, Try.ntmps58
  go_wp2
  go_loopw [10] (fun i wr => ∃ (k : Nat), k ≤ es.length ∧ i = .int .i64 k ∧ (∀ x ∈ es.take k, x.vld = true) ∧ Below w.heap.size w wr) (fun i _ => es.length - (intOf i).toNat)
  case atStart => exact ⟨0, Nat.zero_le _, rfl, by simp, Below.refl _ _⟩
  case round =>
    obtain ⟨k, hk, rfl, hv, hb⟩ := hrel
    have HV : Hid (∀ x ∈ es.take k, x.vld = true) := hv
    clear hv
    by_cases hlt : k < es.length
    · obtain ⟨e, he⟩ : ∃ e, es[k]? = some e := ⟨_, List.getElem?_eq_getElem hlt⟩
      obtain ⟨c0, c1, c2, c3, c4, c5⟩ := (HE.out.below hb hB) k e he
      have HK : Hid (e.ok ∧ es[k]? = some e) := ⟨HO.out e (List.mem_of_getElem? he), he⟩
      clear he
      go_wp2_with fail
      refine (implValid_core e.row e.fam e.qual e.val e.ts e.kind _ HK.out.1.row HK.out.1.fam HK.out.1.qual HK.out.1.val).mono ?_
      rintro e' w1 ⟨rfl, hb1⟩
      have hb2 := (hb.alloc hb.size (Obj.cells #[.string e.row, .string e.fam, .string e.qual, .int .u64 e.ts, .int .i64 e.kind, .string e.val] 85)).trans (hb1.mono (by have := hb.size; simp; omega))
      clear c0 c1 c2 c3 c4 c5 hb1
      cases hv : vE e.row e.fam e.qual e.kind e.val
      · have H : Hid (¬ GoodW es) := fun h => by
          have := h.2 e (List.mem_of_getElem? HK.out.2)
          unfold Ent.vld at this
          rw [hv] at this
          cases this
        go_wp2_with fail
        go_ret
        exact ⟨_, rfl, iffF H.out, hb2⟩
      · have H : Hid (∀ x ∈ es.take (k + 1), x.vld = true) := vld_of_take HV.out HK.out.2 hv
        go_wp2_with fail
        go_roundw
        case rel => exact ⟨k + 1, by omega, by go_num, H.out, hb2⟩
        case measure => simp [intOf]; omega
    · go_wp2
      go_ret
      refine ⟨_, rfl, ⟨fun _ => ⟨by omega, fun e he => ?_⟩, fun _ => rfl⟩, hb⟩
      have := HV.out
      rw [List.take_of_length_le (by omega)] at this
      exact this e he

theorem pairs_short {es : List Ent} (h : es.length ≤ 1) : Pairs es := by
  intro i p e h1 h2
  have := (List.getElem?_eq_some_iff.1 h2).1
  omega

/-- The pairs below place 'k'. -/
def PairsTo (es : List Ent) (k : Nat) : Prop := ∀ i p e, i + 1 < k → es[i]? = some p → es[i + 1]? = some e → okPair p e = true
theorem pairsTo_succ {es : List Ent} {m : Nat} {p e : Ent} (h : PairsTo es (m + 1)) (hp : es[m]? = some p) (he : es[m + 1]? = some e) (ho : okPair p e = true) : PairsTo es (m + 1 + 1) := by
  intro i p' e' hi h1 h2
  by_cases hm : i = m
  · subst hm
    rw [hp] at h1; rw [he] at h2
    simp at h1 h2
    subst h1 h2
    exact ho
  · exact h i p' e' (by omega) h1 h2
theorem pairs_of_to {es : List Ent} {k : Nat} (h : PairsTo es k) (hk : es.length ≤ k) : Pairs es := by
  intro i p e h1 h2
  have := (List.getElem?_eq_some_iff.1 h2).1
  exact h i p e (by omega) h1 h2

set_option maxHeartbeats 1000000 in
theorem implValidRun_core (b off cap : Nat) (es : List Ent) (w : World) (hE : EntsAt w b off es) (hok : ∀ e ∈ es, e.ok) (hB : b < w.heap.size) (hlen : es.length ≤ cap) (hcap : cap ≤ maxLen) :
    Calls Try.prog 92 #[.agg #[.slice (some ⟨b, off, none⟩) es.length cap]] w fun e w' =>
      ∃ r : Bool, e = .returned (.bool r) ∧ (r = true ↔ GoodR es) ∧ Below w.heap.size w w' := by
  obtain ⟨W0, hW0⟩ : ∃ W0 : World, W0 = w.alloc (Obj.cells #[.slice (some ⟨b, off, none⟩) es.length cap] 30) := ⟨_, rfl⟩
  have hb0 : Below w.heap.size w W0 := by rw [hW0]; exact (Below.refl _ _).alloc (Nat.le_refl _) _
  have hz0 : w.heap.size < W0.heap.size := by rw [hW0]; simp
  have ca : W0.cell? ⟨w.heap.size, 0, none⟩ = some (.slice (some ⟨b, off, none⟩) es.length cap) := by rw [hW0]; simp
  have HE : Hid (EntsAt W0 b off es) := hE.below hb0 hB
  have HO : Hid (∀ e ∈ es, e.ok) := hok
  have HC : Hid (cap ≤ maxLen) := hcap
  clear hE hok
  unfold maxLen at hcap
  go_enter Try.func92, Try.ntmps92
  go_wp2_with fail
  rw [← hW0]
  refine (validWrites_core b off cap es _ HE.out HO.out (by omega) hlen HC.out).mono ?_
  rintro e w1 ⟨r, rfl, hr, hb1⟩
  have HR : Hid (r = true ↔ GoodW es) := hr
  clear hr hW0
  have k1 := hb0.trans (hb1.mono (by omega))
  have ca1 : w1.cell? ⟨w.heap.size, 0, none⟩ = some (.slice (some ⟨b, off, none⟩) es.length cap) := by rw [hb1.cell (p := ⟨w.heap.size, 0, none⟩) hz0]; exact ca
  cases r
  · go_wp2_with fail
    go_ret
    exact ⟨_, rfl, iffF (fun h => Bool.noConfusion (HR.out.2 h.1)), k1⟩
  have HR1 : Hid (GoodW es) := HR.out.1 rfl
  clear HR
  go_wp2_with fail
  go_loopw [3] (fun i wr => ∃ (k : Nat), 1 ≤ k ∧ i = .int .i64 k ∧ PairsTo es k ∧ Below w1.heap.size w1 wr) (fun i _ => es.length - (intOf i).toNat)
  case atStart => exact ⟨1, Nat.le_refl _, rfl, fun i p e hi => by omega, Below.refl _ _⟩
  case round =>
    obtain ⟨k, hk, rfl, hP, hb⟩ := hrel
    have HP : Hid (PairsTo es k) := hP
    clear hP
    have hs1 := hb1.size
    have hs2 := hb.size
    have car : wr.cell? ⟨w.heap.size, 0, none⟩ = some (.slice (some ⟨b, off, none⟩) es.length cap) := by rw [hb.cell (p := ⟨w.heap.size, 0, none⟩) (by show w.heap.size < _; omega)]; exact ca1
    obtain ⟨m, rfl⟩ : ∃ m, k = m + 1 := ⟨k - 1, by omega⟩
    by_cases hlt : m + 1 < es.length
    · obtain ⟨p, hp⟩ : ∃ e, es[m]? = some e := ⟨_, List.getElem?_eq_getElem (by omega)⟩
      obtain ⟨e, he⟩ : ∃ e, es[m + 1]? = some e := ⟨_, List.getElem?_eq_getElem hlt⟩
      have HEr := (HE.out.below hb1 (by omega)).below hb (by omega)
      obtain ⟨c0, c1, c2, c3, c4, c5⟩ := HEr m p hp
      obtain ⟨d0, d1, d2, d3, d4, d5⟩ := HEr (m + 1) e he
      have HK : Hid (es[m]? = some p ∧ es[m + 1]? = some e) := ⟨hp, he⟩
      clear hp he HEr
      go_upto_region 6 with fail
      go_cut [27] (fun s wx => s = .bool (!okPair p e) ∧ Below w1.heap.size w1 wx)
      case first =>
        have hw : IntKind.i64.wrap (m : Int) = (m : Int) := Go.IntWalk.i64_in _ (by omega)
        have z1 : (0 : Int) ≤ (m : Int) := by omega
        have z2 : (m : Int) < (es.length : Int) := by omega
        have z3 : (m : Int) + 1 < (es.length : Int) := by omega
        go_region_with (go_at_call 129; refine (mayPrecede_any p e _).mono ?_; rintro e' w' ⟨rfl, hbb⟩)
        all_goals go_wp2_with fail
        all_goals go_meet
        all_goals exact ⟨rfl, hb.drew.trans (hbb.mono (by simp; omega))⟩
      case rest =>
      obtain ⟨rfl, h3⟩ := hcut
      clear c0 c1 c2 c3 c4 c5 d0 d1 d2 d3 d4 d5
      cases ho : okPair p e
      · have H : Hid (¬ GoodR es) := fun h => by
          have := h.2 m p e HK.out.1 HK.out.2
          rw [ho] at this; cases this
        go_wp2_with fail
        go_ret
        exact ⟨_, rfl, iffF H.out, k1.trans (h3.mono (by omega))⟩
      · have H : Hid (PairsTo es (m + 1 + 1)) := pairsTo_succ HP.out HK.out.1 HK.out.2 ho
        go_wp2_with fail
        go_roundw
        case rel => exact ⟨m + 1 + 1, by omega, by go_num, H.out, h3⟩
        case measure => simp [intOf]; omega
    · go_wp2_with fail
      go_ret
      exact ⟨_, rfl, iffT ⟨HR1.out, pairs_of_to HP.out (by omega)⟩, k1.trans (hb.mono (by omega))⟩
end Go.Proofs.Ytlgeffinhbodeae
