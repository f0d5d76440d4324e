/-
  spec.l3Says.
-/
import Derived.Test.YtlgeffinhbodeaeQRms
import Derived.Test.YtlgeffinhbodeaePkA
namespace Go.Proofs.Ytlgeffinhbodeae
open Go.ChangeShapes Go.WideShapes Go.ChangeAt Go.RowKit Go.Deep
set_option linter.unusedVariables false
set_option linter.unusedSimpArgs false

theorem ent_box (w : World) (e : Ent) : EntsAt (w.alloc (Obj.cells #[.string e.row, .string e.fam, .string e.qual, .int .u64 e.ts, .int .i64 e.kind, .string e.val] 85)) w.heap.size 0 [e] := by
  intro j y hy
  obtain rfl : j = 0 := by
    have := (List.getElem?_eq_some_iff.1 hy).1
    simpa using this
  simp at hy
  subst hy
  simp

theorem saysF_cons (e d : Ent) (r : List Ent) (h : Int) : saysF e (d :: r) h = if sameCol d e = true then
      (if (d.kind == 0) = true ∧ (d.ts == e.ts) = true then (1, d.val) else if (d.kind == 1) = true ∧ (d.ts == e.ts) = true then (2, ⟨#[]⟩) else if (d.kind == 2) = true ∧ e.ts ≤ d.ts then saysF e r 2 else saysF e r h)
    else saysF e r h := rfl

set_option maxHeartbeats 4000000 in
theorem says_core (r : Rm) (e : Ent) (w : World) (hr : r.at w) (hlen : r.es.length ≤ 1048576) :
    Calls Try.prog 43 #[.agg #[.slice (some ⟨r.b, r.off, none⟩) r.es.length r.cap], .agg #[.string e.row, .string e.fam, .string e.qual, .int .u64 e.ts, .int .i64 e.kind, .string e.val]] w fun x w' =>
      x = .returned (.tuple #[.int .i64 (saysF e r.es 0).1, .string (saysF e r.es 0).2]) ∧ Below w.heap.size w w' := by
  obtain ⟨rb, ro, rc, es⟩ := r
  simp only at *
  obtain ⟨Wa, hWa⟩ : ∃ Wa : World, Wa = w.alloc (Obj.cells #[.slice (some ⟨rb, ro, none⟩) es.length rc] 30) := ⟨_, rfl⟩
  obtain ⟨W0, hW0⟩ : ∃ W0 : World, W0 = Wa.alloc (Obj.cells #[.string e.row, .string e.fam, .string e.qual, .int .u64 e.ts, .int .i64 e.kind, .string e.val] 85) := ⟨_, rfl⟩
  have hba : Below w.heap.size w Wa := by rw [hWa]; exact (Below.refl _ _).alloc (Nat.le_refl _) _
  have hza : Wa.heap.size = w.heap.size + 1 := by rw [hWa]; simp
  have hbb : Below Wa.heap.size Wa W0 := by rw [hW0]; exact (Below.refl _ _).alloc (Nat.le_refl _) _
  have hz0 : W0.heap.size = w.heap.size + 1 + 1 := by rw [hW0]; simp [hza]
  have hb0 : Below w.heap.size w W0 := hba.trans (hbb.mono (by omega))
  have hcA : Wa.cell? ⟨w.heap.size, 0, none⟩ = some (.slice (some ⟨rb, ro, none⟩) es.length rc) := by rw [hWa]; simp
  have HC : Hid (W0.cell? ⟨w.heap.size, 0, none⟩ = some (.slice (some ⟨rb, ro, none⟩) es.length rc)) := by
    show W0.cell? ⟨w.heap.size, 0, none⟩ = _
    rw [hbb.cell (p := ⟨w.heap.size, 0, none⟩) (by show w.heap.size < Wa.heap.size; omega)]; exact hcA
  have HX : Hid (EntsAt W0 (w.heap.size + 1) 0 [e]) := by
    show EntsAt W0 (w.heap.size + 1) 0 [e]
    rw [hW0, ← hza]; exact ent_box Wa e
  have HR : Hid (EntsAt W0 rb ro es ∧ rb < w.heap.size) := ⟨(hr.below hba).ents.below hbb (hr.below hba).lt, hr.lt⟩
  have hrb := hr.lt
  simp only at hrb
  clear hr hcA
  go_enter Try.func43, Try.ntmps43
  go_wp2_with fail
  rw [← hWa, ← hW0]
  clear hWa hW0
  go_loopw [6, 7] (fun h i wr => ∃ (k : Nat) (x : Int), k ≤ es.length ∧ i = .int .i64 k ∧ h = .int .i64 x ∧ saysF e es 0 = saysF e (es.drop k) x ∧ Below W0.heap.size W0 wr) (fun _ i _ => es.length - (intOf i).toNat)
  case atStart => exact ⟨0, 0, Nat.zero_le _, rfl, rfl, by simp, Below.refl _ _⟩
  case round =>
    obtain ⟨k, x, hk, rfl, rfl, hS, hb⟩ := hrel
    have HS : Hid (saysF e es 0 = saysF e (es.drop k) x) := hS
    clear hS
    have hs := hb.size
    have ca : wr.cell? ⟨w.heap.size, 0, none⟩ = some (.slice (some ⟨rb, ro, none⟩) es.length rc) := by
      rw [hb.cell (p := ⟨w.heap.size, 0, none⟩) (by show w.heap.size < W0.heap.size; omega)]; exact HC.out
    by_cases hlt : k < es.length
    · obtain ⟨v, hv⟩ : ∃ v, es[k]? = some v := ⟨_, List.getElem?_eq_getElem hlt⟩
      obtain ⟨c0, c1, c2, c3, c4, c5⟩ := (HR.out.1.below hb (by omega)) k v hv
      obtain ⟨d0, d1, d2, d3, d4, d5⟩ := (HX.out.below hb (by omega)) 0 e rfl
      simp only [Nat.zero_add, Nat.zero_mul] at d0 d1 d2 d3 d4 d5
      have HD : Hid (saysF e es 0 = saysF e (v :: es.drop (k + 1)) x) := HS.out.trans (saysF_drop hv)
      clear hv
      obtain ⟨W1, hW1⟩ : ∃ W1 : World, W1 = wr.alloc (Obj.cells #[.string v.row, .string v.fam, .string v.qual, .int .u64 v.ts, .int .i64 v.kind, .string v.val] 85) := ⟨_, rfl⟩
      have hb1 : Below wr.heap.size wr W1 := by rw [hW1]; exact (Below.refl _ _).alloc (Nat.le_refl _) _
      have hz1 : W1.heap.size = wr.heap.size + 1 := by rw [hW1]; simp
      have HV1 : Hid (EntsAt W1 wr.heap.size 0 [v]) := by show EntsAt W1 wr.heap.size 0 [v]; rw [hW1]; exact ent_box wr v
      go_upto_region 6 with fail
      rw [← hW1]
      clear hW1 c0 c1 c2 c3 c4 c5 d0 d1 d2 d3 d4 d5 ca
      obtain ⟨c0, c1, c2, c3, c4, c5⟩ := HV1.out 0 v rfl
      obtain ⟨d0, d1, d2, d3, d4, d5⟩ := ((HX.out.below hb (by omega)).below hb1 (by omega)) 0 e rfl
      simp only [Nat.zero_add, Nat.zero_mul] at c0 c1 c2 c3 c4 c5 d0 d1 d2 d3 d4 d5
      go_wp2_with fail
      refine (sameColumn_any v e _).mono ?_
      rintro e' w2 ⟨rfl, hb2⟩
      have hs2 := hb2.size
      have hb3 : Below W0.heap.size W0 w2 := (hb.trans (hb1.mono (by omega))).trans (hb2.mono (by omega))
      clear c0 c1 c2 c3 c4 c5 d0 d1 d2 d3 d4 d5
      obtain ⟨c0, c1, c2, c3, c4, c5⟩ := (HV1.out.below hb2 (by omega)) 0 v rfl
      obtain ⟨d0, d1, d2, d3, d4, d5⟩ := (HX.out.below hb3 (by omega)) 0 e rfl
      simp only [Nat.zero_add, Nat.zero_mul] at c0 c1 c2 c3 c4 c5 d0 d1 d2 d3 d4 d5
      have hbw : Below w.heap.size w w2 := hb0.trans (hb3.mono (by omega))
      have fin : ∀ (wx : World) (a : Int) (t : ByteArray), Below w.heap.size w wx → saysF e es 0 = (a, t) → (Ending.returned (Value.tuple #[.int .i64 a, .string t]) = .returned (.tuple #[.int .i64 (saysF e es 0).1, .string (saysF e es 0).2]) ∧ Below w.heap.size w wx) := by
        intro wx a t hx hq
        rw [hq]; exact ⟨rfl, hx⟩
      have HFin : Hid (∀ (wx : World) (a : Int) (t : ByteArray), Below w.heap.size w wx → saysF e es 0 = (a, t) → (Ending.returned (Value.tuple #[.int .i64 a, .string t]) = .returned (.tuple #[.int .i64 (saysF e es 0).1, .string (saysF e es 0).2]) ∧ Below w.heap.size w wx)) := fin
      clear fin
      cases hsc : sameCol v e
      · have HN : Hid (saysF e es 0 = saysF e (es.drop (k + 1)) x) := by show saysF e es 0 = _; rw [HD.out]; rw [saysF_cons, if_neg (by rw [hsc]; simp)]
        go_wp2_with fail
        go_roundw
        case rel => exact ⟨k + 1, x, by omega, by go_num, rfl, HN.out, hb3⟩
        case measure => go_light; simp [intOf]; omega
      · cases k0 : (v.kind == 0)
        · cases k1 : (v.kind == 1)
          · cases k2 : (v.kind == 2)
            · have HN : Hid (saysF e es 0 = saysF e (es.drop (k + 1)) x) := by show saysF e es 0 = _; rw [HD.out]; rw [saysF_cons, if_pos hsc, if_neg (by rw [k0]; simp), if_neg (by rw [k1]; simp), if_neg (by rw [k2]; simp)]
              go_wp2_with fail
              go_roundw
              case rel => exact ⟨k + 1, x, by omega, by go_num, rfl, HN.out, hb3⟩
              case measure => go_light; simp [intOf]; omega
            · by_cases ge : e.ts ≤ v.ts
              · have HN : Hid (saysF e es 0 = saysF e (es.drop (k + 1)) 2) := by show saysF e es 0 = _; rw [HD.out]; rw [saysF_cons, if_pos hsc, if_neg (by rw [k0]; simp), if_neg (by rw [k1]; simp), if_pos ⟨k2, ge⟩]
                go_wp2_with fail
                go_roundw
                case rel => exact ⟨k + 1, 2, by omega, by go_num, rfl, HN.out, hb3⟩
                case measure => go_light; simp [intOf]; omega
              · have HN : Hid (saysF e es 0 = saysF e (es.drop (k + 1)) x) := by show saysF e es 0 = _; rw [HD.out]; rw [saysF_cons, if_pos hsc, if_neg (by rw [k0]; simp), if_neg (by rw [k1]; simp), if_neg (fun q => ge q.2)]
                go_wp2_with fail
                go_roundw
                case rel => exact ⟨k + 1, x, by omega, by go_num, rfl, HN.out, hb3⟩
                case measure => go_light; simp [intOf]; omega
          · have k2 : (v.kind == 2) = false := by
              simp at k1 ⊢; omega
            cases ht : (v.ts == e.ts)
            · have HN : Hid (saysF e es 0 = saysF e (es.drop (k + 1)) x) := by show saysF e es 0 = _; rw [HD.out]; rw [saysF_cons, if_pos hsc, if_neg (by rw [k0]; simp), if_neg (by rw [ht]; simp), if_neg (by rw [k2]; simp)]
              go_wp2_with fail
              go_roundw
              case rel => exact ⟨k + 1, x, by omega, by go_num, rfl, HN.out, hb3⟩
              case measure => go_light; simp [intOf]; omega
            · have HN : Hid (saysF e es 0 = (2, ⟨#[]⟩)) := by show saysF e es 0 = _; rw [HD.out]; rw [saysF_cons, if_pos hsc, if_neg (by rw [k0]; simp), if_pos ⟨k1, ht⟩]
              go_wp2_with fail
              go_ret2
              exact HFin.out _ _ _ hbw HN.out
        · have k1 : (v.kind == 1) = false := by
            simp at k0 ⊢; omega
          have k2 : (v.kind == 2) = false := by
            simp at k0 ⊢; omega
          cases ht : (v.ts == e.ts)
          · have HN : Hid (saysF e es 0 = saysF e (es.drop (k + 1)) x) := by show saysF e es 0 = _; rw [HD.out]; rw [saysF_cons, if_pos hsc, if_neg (by rw [ht]; simp), if_neg (by rw [ht]; simp), if_neg (by rw [k2]; simp)]
            go_wp2_with fail
            go_roundw
            case rel => exact ⟨k + 1, x, by omega, by go_num, rfl, HN.out, hb3⟩
            case measure => go_light; simp [intOf]; omega
          · have HN : Hid (saysF e es 0 = (1, v.val)) := by show saysF e es 0 = _; rw [HD.out]; rw [saysF_cons, if_pos hsc, if_pos ⟨k0, ht⟩]
            go_upto_region 8 with fail
            go_quiet (fail)
            go_wp2_with fail
            go_ret2
            exact HFin.out _ _ _ (below_drewN hbw _) HN.out
    · have HN : Hid (saysF e es 0 = (x, ⟨#[]⟩)) := by
        show saysF e es 0 = _
        rw [HS.out, List.drop_of_length_le (by omega)]; rfl
      go_wp2_with fail
      go_ret2
      refine ⟨?_, hb0.trans (hb.mono (by omega))⟩
      rw [HN.out]; rfl
end Go.Proofs.Ytlgeffinhbodeae
