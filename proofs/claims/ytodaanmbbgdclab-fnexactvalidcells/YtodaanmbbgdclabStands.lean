/-
  spec.l1Stands, spec.l1GoodWrites.
-/
import Derived.Test.YtodaanmbbgdclabInto
import Derived.Deep.QuietTactic
import Derived.BigQuiet
namespace Go.Proofs.Ytodaanmbbgdclab
open Go.ChangeShapes Go.WideShapes Go.ChangeAt Go.RowKit Go.Deep
set_option linter.unusedVariables false

/-- Does the later write 'v' do away with 'e'? -/
def kills (v e : Ent) : Bool := sameCol v e && (if (v.kind == 2) = true then decide (e.ts ≤ v.ts) else (v.ts == e.ts))
/-- No write behind place 'i' does away with the one there. -/
def Stands (ws : List Ent) (i : Nat) : Prop := ∀ j v e, i < j → ws[j]? = some v → ws[i]? = some e → kills v e = false
def StandsTo (ws : List Ent) (i k : Nat) : Prop := ∀ j v e, i < j → j < k → ws[j]? = some v → ws[i]? = some e → kills v e = false
theorem standsTo_succ {ws : List Ent} {i k : Nat} {v e : Ent} (h : StandsTo ws i k) (hv : ws[k]? = some v) (he : ws[i]? = some e) (hk : kills v e = false) : StandsTo ws i (k + 1) := by
  intro j v' e' h1 h2 h3 h4
  by_cases hj : j = k
  · subst hj
    rw [hv] at h3; rw [he] at h4
    simp at h3 h4
    subst h3 h4
    exact hk
  · exact h j v' e' h1 (by omega) h3 h4

set_option maxHeartbeats 2000000 in
theorem stands_core (b off cap : Nat) (ws : List Ent) (i : Nat) (e : Ent) (w : World) (hE : EntsAt w b off ws) (hB : b < w.heap.size) (hi : ws[i]? = some e) (hlen : ws.length ≤ 1048576) :
    Calls Try.prog 38 #[.slice (some ⟨b, off, none⟩) ws.length cap, .int .i64 i] w fun r w' =>
      ∃ s : Bool, r = .returned (.bool s) ∧ (s = true ↔ Stands ws i) ∧ Below w.heap.size w w' := by
  have hil : i < ws.length := (List.getElem?_eq_some_iff.1 hi).1
  have HE : Hid (EntsAt w b off ws) := hE
  have HI : Hid (ws[i]? = some e) := hi
  clear hE hi
  go_enter Try.func38, Try.ntmps38
  go_wp2
  go_loopw [5] (fun c wr => ∃ k : Nat, i < k ∧ c = .int .i64 k ∧ StandsTo ws i k ∧ Below w.heap.size w wr) (fun c _ => ws.length - (intOf c).toNat)
  case atStart => exact ⟨i + 1, by omega, by go_num, fun j v e h1 h2 => by omega, Below.refl _ _⟩
  case round =>
    obtain ⟨k, hk, rfl, hst, hb⟩ := hrel
    have HS : Hid (StandsTo ws i k) := hst
    clear hst
    have hs := hb.size
    by_cases hlt : k < ws.length
    · obtain ⟨v, hv⟩ : ∃ v, ws[k]? = some v := ⟨_, List.getElem?_eq_getElem hlt⟩
      have HV : Hid (ws[k]? = some v) := hv
      obtain ⟨c0, c1, c2, c3, c4, c5⟩ := (HE.out.below hb hB) k v hv
      obtain ⟨d0, d1, d2, d3, d4, d5⟩ := (HE.out.below hb hB) i e HI.out
      clear hv
      obtain ⟨W1, hW1⟩ : ∃ W1 : World, W1 = wr.alloc (Obj.cells #[.string v.row, .string v.fam, .string v.qual, .int .u64 v.ts, .int .i64 v.kind, .string v.val] 49) := ⟨_, rfl⟩
      have hb1 : Below wr.heap.size wr W1 := by rw [hW1]; exact (Below.refl _ _).alloc (Nat.le_refl _) _
      have hz1 : wr.heap.size < W1.heap.size := by rw [hW1]; simp
      have HV1 : Hid (EntsAt W1 wr.heap.size 0 [v]) := by
        show EntsAt W1 wr.heap.size 0 [v]
        intro j y hy
        obtain rfl : j = 0 := by
          have := (List.getElem?_eq_some_iff.1 hy).1
          simpa using this
        simp at hy
        subst hy
        rw [hW1]
        simp
      have zi : (i : Int) < (ws.length : Int) := by omega
      go_upto_region 5 with fail
      rw [← hW1]
      clear hW1 c0 c1 c2 c3 c4 c5 d0 d1 d2 d3 d4 d5
      obtain ⟨c0, c1, c2, c3, c4, c5⟩ := HV1.out 0 v rfl
      obtain ⟨d0, d1, d2, d3, d4, d5⟩ := ((HE.out.below hb hB).below hb1 (by omega)) i e HI.out
      simp only [Nat.zero_add, Nat.zero_mul] at c0 c1 c2 c3 c4 c5
      go_cut [24] (fun s wx => s = .bool (sameCol v e) ∧ Below W1.heap.size W1 wx)
      case first =>
        go_region_with (go_at_call 26; refine (sameColumn_any v e _).mono ?_; rintro e' w' ⟨rfl, hbb⟩)
        all_goals go_wp2_with fail
        all_goals go_meet
        all_goals exact ⟨rfl, ((Below.refl _ _).drew).trans (hbb.mono (by simp))⟩
      case rest =>
      obtain ⟨rfl, h3⟩ := hcut
      have hs3 := h3.size
      have hb3 : Below w.heap.size w wc := (hb.trans (hb1.mono (by omega))).trans (h3.mono (by omega))
      clear c0 c1 c2 c3 c4 c5 d0 d1 d2 d3 d4 d5
      obtain ⟨c0, c1, c2, c3, c4, c5⟩ := (HV1.out.below h3 (by omega)) 0 v rfl
      obtain ⟨d0, d1, d2, d3, d4, d5⟩ := (HE.out.below hb3 hB) i e HI.out
      simp only [Nat.zero_add, Nat.zero_mul] at c0 c1 c2 c3 c4 c5
      have fin : ∀ (wx : World), Below w.heap.size w wx → kills v e = true → (∃ s : Bool, Ending.returned (.bool false) = .returned (.bool s) ∧ (s = true ↔ Stands ws i) ∧ Below w.heap.size w wx) := by
        intro wx hx hkl
        refine ⟨false, rfl, iffF (fun h => ?_), hx⟩
        have := h k v e hk HV.out HI.out
        rw [hkl] at this
        cases this
      have HFin : Hid (∀ (wx : World), Below w.heap.size w wx → kills v e = true → (∃ s : Bool, Ending.returned (.bool false) = .returned (.bool s) ∧ (s = true ↔ Stands ws i) ∧ Below w.heap.size w wx)) := fin
      clear fin
      cases hsc : sameCol v e
      · have HN : Hid (StandsTo ws i (k + 1)) := standsTo_succ HS.out HV.out HI.out (by unfold kills; rw [hsc]; rfl)
        go_wp2_with fail
        go_roundw
        case rel => exact ⟨k + 1, by omega, by go_num, HN.out, hb3⟩
        case measure => go_light; simp [intOf]; omega
      · cases g2 : (v.kind == 2)
        · have g2' : (v.kind != 2) = true := by
            simp at g2 ⊢; exact g2
          cases ge : (v.ts == e.ts)
          · have HN : Hid (StandsTo ws i (k + 1)) := standsTo_succ HS.out HV.out HI.out (by unfold kills; rw [hsc, g2]; simpa using ge)
            go_upto_region 6 with fail
            go_quiet (fail)
            go_upto_region 8 with fail
            go_quiet (fail)
            go_wp2_with fail
            go_roundw
            case rel => exact ⟨k + 1, by omega, by go_num, HN.out, below_drewN hb3 _⟩
            case measure => go_light; simp [intOf]; omega
          · have HK : Hid (kills v e = true) := by show kills v e = true; unfold kills; rw [hsc, g2]; simpa using ge
            go_upto_region 6 with fail
            go_quiet (fail)
            go_upto_region 8 with fail
            go_quiet (fail)
            go_wp2_with fail
            go_ret
            exact HFin.out _ (below_drewN (below_drewN hb3 _) _) HK.out
        · have g2' : (v.kind != 2) = false := by
            simp at g2 ⊢; exact g2
          by_cases ge : e.ts ≤ v.ts
          · have HK : Hid (kills v e = true) := by show kills v e = true; unfold kills; rw [hsc, g2]; simpa using ge
            go_upto_region 6 with fail
            go_quiet (fail)
            go_wp2_with fail
            go_ret
            exact HFin.out _ (below_drewN hb3 _) HK.out
          · have HN : Hid (StandsTo ws i (k + 1)) := standsTo_succ HS.out HV.out HI.out (by unfold kills; rw [hsc, g2]; simpa using ge)
            go_upto_region 6 with fail
            go_quiet (fail)
            go_upto_region 8 with fail
            go_quiet (fail)
            go_wp2_with fail
            go_roundw
            case rel => exact ⟨k + 1, by omega, by go_num, HN.out, below_drewN hb3 _⟩
            case measure => go_light; simp [intOf]; omega
    · go_wp2_with fail
      go_ret
      refine ⟨true, rfl, iffT (fun j v e h1 h2 h3 => ?_), hb⟩
      have := (List.getElem?_eq_some_iff.1 h2).1
      exact HS.out j v e h1 (by omega) h2 h3

set_option maxHeartbeats 400000 in
theorem goodWrites_core (b off cap : Nat) (es : List Ent) (w : World) (hE : EntsAt w b off es) (hok : ∀ e ∈ es, e.ok) (hB : b < w.heap.size) (hlen : es.length ≤ 1048576) :
    Calls Try.prog 37 #[.slice (some ⟨b, off, none⟩) es.length cap] w fun e w' =>
      ∃ r : Bool, e = .returned (.bool r) ∧ (r = true ↔ GoodW es) ∧ Below w.heap.size w w' := by
  have HE : Hid (EntsAt w b off es) := hE
  have HO : Hid (∀ e ∈ es, e.ok) := hok
  clear hE hok
  by_cases hbig : 10000 < es.length
  · have H : Hid (¬ GoodW es) := fun h => by have := h.1; omega
    go_enter Try.func37, Try.ntmps37
    go_wp2
    go_ret
    exact ⟨_, rfl, iffF H.out, Below.refl _ _⟩
  go_enter Try.func37, Try.ntmps37
  go_wp2
  go_loopw [3] (fun i wr => ∃ (k : Nat), k ≤ es.length ∧ i = .int .i64 k ∧ (∀ x ∈ es.take k, x.vld = true) ∧ Below w.heap.size w wr) (fun i _ => es.length - (intOf i).toNat)
  case atStart => exact ⟨0, Nat.zero_le _, rfl, by simp, Below.refl _ _⟩
  case round =>
    obtain ⟨k, hk, rfl, hv, hb⟩ := hrel
    have HV : Hid (∀ x ∈ es.take k, x.vld = true) := hv
    clear hv
    by_cases hlt : k < es.length
    · obtain ⟨e, he⟩ : ∃ e, es[k]? = some e := ⟨_, List.getElem?_eq_getElem hlt⟩
      obtain ⟨c0, c1, c2, c3, c4, c5⟩ := (HE.out.below hb hB) k e he
      have HK : Hid (e.ok ∧ es[k]? = some e) := ⟨HO.out e (List.mem_of_getElem? he), he⟩
      clear he
      go_wp2_with fail
      refine (specValid_core e.row e.fam e.qual e.val e.ts e.kind _ HK.out.1.row HK.out.1.fam HK.out.1.qual HK.out.1.val).mono ?_
      rintro e' w1 ⟨rfl, hb1⟩
      have hb2 := hb.trans (hb1.mono hb.size)
      clear c0 c1 c2 c3 c4 c5 hb1
      cases hv : vE e.row e.fam e.qual e.kind e.val
      · have H : Hid (¬ GoodW es) := fun h => by
          have := h.2 e (List.mem_of_getElem? HK.out.2)
          unfold Ent.vld at this
          rw [hv] at this
          cases this
        go_wp2_with fail
        go_ret
        exact ⟨_, rfl, iffF H.out, hb2⟩
      · have H : Hid (∀ x ∈ es.take (k + 1), x.vld = true) := vld_of_take HV.out HK.out.2 hv
        go_wp2_with fail
        go_roundw
        case rel => exact ⟨k + 1, by omega, by go_num, H.out, hb2⟩
        case measure => go_light; simp [intOf]; omega
    · go_wp2
      go_ret
      refine ⟨_, rfl, iffT ⟨by omega, fun e he => ?_⟩, hb⟩
      have := HV.out
      rw [List.take_of_length_le (by omega)] at this
      exact this e he
end Go.Proofs.Ytodaanmbbgdclab
