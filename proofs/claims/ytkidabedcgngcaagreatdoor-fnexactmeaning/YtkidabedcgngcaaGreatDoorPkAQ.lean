import Derived.Maps.RangeWalk
import Derived.Maps.OwnSet
import Derived.Maps.OwnOps
import Derived.DeepKeys4
import Derived.Maps.AppendAt
import Derived.Laws.IdiomRangeMap
import Derived.Test.YtkidabedcgngcaaGreatDoorPkAP
import Derived.Test.YtkidabedcgngcaaGreatDoorPkAG
import Derived.Test.YtkidabedcgngcaaGreatDoorPkAF
import Derived.Test.YtkidabedcgngcaaGreatDoorPkAA
/-
  Slices of cells; spec.l5Before.
-/
namespace Go.Proofs.YtkidabedcgngcaaGreatDoor
open Go.ChangeShapes Go.WideShapes Go.ChangeAt Go.RowKit Go.Deep
set_option linter.unusedVariables false
set_option linter.unusedSimpArgs false
set_option maxRecDepth 100000

/-- A slice of cells that is only read. -/
structure CSl (w : World) (b off cap : Nat) (es : List Ent) : Prop where
  at_ : CelsAt w b off es
  lt : b < w.heap.size
  len : es.length ≤ cap
  cap : cap ≤ maxLen
theorem CelsAt.chg {S : Nat → Prop} {w w' : World} {b off : Nat} {es : List Ent} (h : CelsAt w b off es) (hc : Chg S w w') (hb : b < w.heap.size) (hn : ¬ S b) : CelsAt w' b off es := by
  intro i e he
  obtain ⟨h0, h1, h2, h3, h4⟩ := h i e he
  exact ⟨by rw [hc.cell (p := ⟨b, off + i * 5, none⟩) hb hn]; exact h0, by rw [hc.cell (p := ⟨b, off + i * 5 + 1, none⟩) hb hn]; exact h1, by rw [hc.cell (p := ⟨b, off + i * 5 + 2, none⟩) hb hn]; exact h2, by rw [hc.cell (p := ⟨b, off + i * 5 + 3, none⟩) hb hn]; exact h3, by rw [hc.cell (p := ⟨b, off + i * 5 + 4, none⟩) hb hn]; exact h4⟩
theorem CSl.chg {S : Nat → Prop} {w w' : World} {b off cap : Nat} {es : List Ent} (h : CSl w b off cap es) (hc : Chg S w w') (hn : ¬ S b) : CSl w' b off cap es := ⟨h.at_.chg hc h.lt hn, Nat.lt_of_lt_of_le h.lt hc.size, h.len, h.cap⟩
theorem CSl.below {w w' : World} {b off cap : Nat} {es : List Ent} (h : CSl w b off cap es) (hb : Below w.heap.size w w') : CSl w' b off cap es := h.chg (S := fun _ => False) (Chg.of_below hb) (fun q => q)
theorem OwnC.sl {w : World} {base g cap : Nat} {es : List Ent} (h : OwnC w base g cap es) : CSl w g 0 cap es := ⟨h.at, h.lt.2, h.caps.1, h.caps.2⟩
theorem CSl.drop {w : World} {b off cap : Nat} {es : List Ent} (h : CSl w b off cap es) {k : Nat} (hk : k ≤ es.length) : CSl w b (off + k * 5) (cap - k) (es.drop k) := by
  refine ⟨fun i e he => ?_, h.lt, by rw [List.length_drop]; have := h.len; omega, by have := h.cap; omega⟩
  rw [List.getElem?_drop] at he
  have := h.at_ (k + i) e he
  rw [show off + (k + i) * 5 = off + k * 5 + i * 5 by omega] at this
  exact this
theorem CSl.take {w : World} {b off cap : Nat} {es : List Ent} (h : CSl w b off cap es) {k : Nat} (hk : k ≤ es.length) : CSl w b off cap (es.take k) := by
  refine ⟨fun i e he => ?_, h.lt, by rw [List.length_take]; have := h.len; omega, h.cap⟩
  rw [List.getElem?_take] at he
  split at he
  · exact h.at_ i e he
  · cases he
theorem befN_succ {es : List Ent} {j : Nat} {x c : Ent} (h : es[j]? = some x) : befN (es.take (j + 1)) c = befN (es.take j) c + (if colB x c then 1 else 0) := by
  unfold befN
  rw [List.take_add_one, h, Option.toList_some, List.countP_append]
  simp [List.countP_cons]
set_option maxHeartbeats 4000000 in
theorem before_core {w : World} {b off cap : Nat} {es : List Ent} (h : CSl w b off cap es) {i : Nat} {c : Ent} (hi : es[i]? = some c) (hl : es.length ≤ 1048576) : Calls Tryz.prog 125 #[.slice (some ⟨b, off, none⟩) es.length cap, .int .i64 (i : Int)] w fun e w' => e = .returned (.int .i64 (befN (es.take i) c : Int)) ∧ Below w.heap.size w w' := by
  obtain ⟨n, hn⟩ : ∃ n, n = es.length := ⟨_, rfl⟩
  have hin : i < n := by rw [hn]; exact (List.getElem?_eq_some_iff.1 hi).1
  have HL : Hid (CSl w b off cap es ∧ n = es.length ∧ es[i]? = some c) := ⟨h, hn, hi⟩
  rw [← hn]
  rw [← hn] at hl
  clear h hn hi
  go_enter Tryz.func125, Tryz.ntmps125
  go_wp2_with fail
  go_loopw [5, 6] (fun kv jv wr => ∃ (j : Nat), j ≤ i ∧ jv = .int .i64 (j : Int) ∧ kv = .int .i64 (befN (es.take j) c : Int) ∧ Hid (Below w.heap.size w wr)) (fun _ jv _ => i - (intOf jv).toNat)
  case atStart => exact ⟨0, Nat.zero_le _, rfl, rfl, Below.refl _ _⟩
  case round =>
    obtain ⟨j, hj, rfl, rfl, HB⟩ := hrel
    obtain ⟨m, hm⟩ : ∃ m, m = befN (es.take j) c := ⟨_, rfl⟩
    have HM : Hid (m = befN (es.take j) c) := hm
    have hml : m ≤ 1048576 := by
      rw [hm]
      refine Nat.le_trans List.countP_le_length ?_
      rw [List.length_take]
      omega
    rw [← hm]
    clear hm
    by_cases hlt : j < i
    · have zj : (j : Int) < (i : Int) := by omega
      have zjn : (j : Int) < (n : Int) := by omega
      have zin : (i : Int) < (n : Int) := by omega
      obtain ⟨x, hx⟩ : ∃ x, es[j]? = some x := ⟨_, List.getElem?_eq_getElem (by have := HL.out.2.1; omega)⟩
      have hC := HL.out.1.below HB.out
      obtain ⟨-, f1, f2, -, -⟩ := hC.at_ j x hx
      obtain ⟨-, g1, g2, -, -⟩ := hC.at_ i c HL.out.2.2
      have hS0 : (fun w' : World => w'.cell? ⟨b, off + j * 5 + 1, none⟩ = some (.string x.fam) ∧ w'.cell? ⟨b, off + j * 5 + 2, none⟩ = some (.string x.qual) ∧ w'.cell? ⟨b, off + i * 5 + 1, none⟩ = some (.string c.fam) ∧ w'.cell? ⟨b, off + i * 5 + 2, none⟩ = some (.string c.qual)) wr.drew := ⟨f1, f2, g1, g2⟩
      have HBd : Hid (Below w.heap.size w wr.drew) := HB.out.trans (((Below.refl _ _).drew).mono HB.out.size)
      have HN : Hid (befN (es.take (j + 1)) c = m + (if colB x c then 1 else 0)) := by rw [HM.out]; exact befN_succ hx
      clear f1 f2 g1 g2 hC hx
      cases hf : (x.fam.toList == c.fam.toList)
      · have HN2 : Hid (befN (es.take (j + 1)) c = m) := by
          show _ = _
          have := HN.out
          unfold colB at this
          rw [hf] at this
          simpa using this
        go_upto_region 5 with fail
        refine wp_region_T 99 (fun w' : World => w'.cell? ⟨b, off + j * 5 + 1, none⟩ = some (.string x.fam) ∧ w'.cell? ⟨b, off + j * 5 + 2, none⟩ = some (.string x.qual) ∧ w'.cell? ⟨b, off + i * 5 + 1, none⟩ = some (.string c.fam) ∧ w'.cell? ⟨b, off + i * 5 + 2, none⟩ = some (.string c.qual)) (by kernel_rfl) ?_
        refine anyT_takeN (i := 0) (v := ?vba0) rfl (by kernel_rfl) (by kernel_rfl) (by kernel_rfl) (by rfl) (fun _ _ _ h => h) (Or.inl ⟨by rfl, ?yba0⟩) hS0 ?_
        case yba0 => (intro wz hSw; obtain ⟨hz0, hz1, hz2, hz3⟩ := hSw; go_simp; (try with_reducible rfl))
        try simp only [Act.put, List.getElem_toArray, List.getElem_cons_zero, List.getElem_cons_succ, List.setIfInBounds_toArray, List.set_cons_zero, List.set_cons_succ]
        refine anyT_takeN (i := 1) (v := ?vba1) rfl (by kernel_rfl) (by kernel_rfl) (by kernel_rfl) (by rfl) (fun _ _ _ h => h) (Or.inl ⟨by rfl, ?yba1⟩) hS0 ?_
        case yba1 => (intro wz hSw; obtain ⟨hz0, hz1, hz2, hz3⟩ := hSw; go_simp; (try with_reducible rfl))
        try simp only [Act.put, List.getElem_toArray, List.getElem_cons_zero, List.getElem_cons_succ, List.setIfInBounds_toArray, List.set_cons_zero, List.set_cons_succ]
        refine anyT_takeN (i := 2) (v := ?vba2) rfl (by kernel_rfl) (by kernel_rfl) (by kernel_rfl) (by rfl) (fun _ _ _ h => h) (Or.inl ⟨by rfl, ?yba2⟩) hS0 ?_
        case yba2 => (intro wz hSw; obtain ⟨hz0, hz1, hz2, hz3⟩ := hSw; go_simp; (try with_reducible rfl))
        try simp only [Act.put, List.getElem_toArray, List.getElem_cons_zero, List.getElem_cons_succ, List.setIfInBounds_toArray, List.set_cons_zero, List.set_cons_succ]
        refine anyT_takeN (i := 3) (v := ?vba3) rfl (by kernel_rfl) (by kernel_rfl) (by kernel_rfl) (by rfl) (fun _ _ _ h => h) (Or.inl ⟨by rfl, ?yba3⟩) hS0 ?_
        case yba3 => (intro wz hSw; obtain ⟨hz0, hz1, hz2, hz3⟩ := hSw; go_simp; (try with_reducible rfl))
        try simp only [Act.put, List.getElem_toArray, List.getElem_cons_zero, List.getElem_cons_succ, List.setIfInBounds_toArray, List.set_cons_zero, List.set_cons_succ]
        refine anyT_takeN (i := 4) (v := ?vba4) rfl (by kernel_rfl) (by kernel_rfl) (by kernel_rfl) (by rfl) (fun _ _ _ h => h) (Or.inl ⟨by rfl, ?yba4⟩) hS0 ?_
        case yba4 => (intro wz hSw; obtain ⟨hz0, hz1, hz2, hz3⟩ := hSw; go_simp; (try with_reducible rfl))
        try simp only [Act.put, List.getElem_toArray, List.getElem_cons_zero, List.getElem_cons_succ, List.setIfInBounds_toArray, List.set_cons_zero, List.set_cons_succ]
        refine anyT_takeN (i := 5) (v := ?vba5) rfl (by kernel_rfl) (by kernel_rfl) (by kernel_rfl) (by rfl) (fun _ _ _ h => h) (Or.inl ⟨by rfl, ?yba5⟩) hS0 ?_
        case yba5 => (intro wz hSw; obtain ⟨hz0, hz1, hz2, hz3⟩ := hSw; go_simp; (try with_reducible rfl))
        try simp only [Act.put, List.getElem_toArray, List.getElem_cons_zero, List.getElem_cons_succ, List.setIfInBounds_toArray, List.set_cons_zero, List.set_cons_succ]
        refine anyT_takeN (i := 6) (v := ?vba6) rfl (by kernel_rfl) (by kernel_rfl) (by kernel_rfl) (by rfl) (fun _ _ _ h => h) (Or.inl ⟨by rfl, ?yba6⟩) hS0 ?_
        case yba6 => (intro wz hSw; obtain ⟨hz0, hz1, hz2, hz3⟩ := hSw; go_simp; (try with_reducible rfl))
        try simp only [Act.put, List.getElem_toArray, List.getElem_cons_zero, List.getElem_cons_succ, List.setIfInBounds_toArray, List.set_cons_zero, List.set_cons_succ]
        refine anyT_takeN (i := 7) (v := ?vba7) rfl (by kernel_rfl) (by kernel_rfl) (by kernel_rfl) (by rfl) (fun _ _ _ h => h) (Or.inl ⟨by rfl, ?yba7⟩) hS0 ?_
        case yba7 => (intro wz hSw; obtain ⟨hz0, hz1, hz2, hz3⟩ := hSw; go_simp; (try with_reducible rfl))
        try simp only [Act.put, List.getElem_toArray, List.getElem_cons_zero, List.getElem_cons_succ, List.setIfInBounds_toArray, List.set_cons_zero, List.set_cons_succ]
        refine anyT_takeN (i := 8) (v := ?vba8) rfl (by kernel_rfl) (by kernel_rfl) (by kernel_rfl) (by rfl) (fun _ _ _ h => h) (Or.inl ⟨by rfl, ?yba8⟩) hS0 ?_
        case yba8 => (intro wz hSw; obtain ⟨hz0, hz1, hz2, hz3⟩ := hSw; go_simp; (try with_reducible rfl))
        try simp only [Act.put, List.getElem_toArray, List.getElem_cons_zero, List.getElem_cons_succ, List.setIfInBounds_toArray, List.set_cons_zero, List.set_cons_succ]
        refine anyT_takeN (i := 9) (v := ?vba9) rfl (by kernel_rfl) (by kernel_rfl) (by kernel_rfl) (by rfl) (fun _ _ _ h => h) (Or.inl ⟨by rfl, ?yba9⟩) hS0 ?_
        case yba9 => (intro wz hSw; obtain ⟨hz0, hz1, hz2, hz3⟩ := hSw; go_simp; (try with_reducible rfl))
        try simp only [Act.put, List.getElem_toArray, List.getElem_cons_zero, List.getElem_cons_succ, List.setIfInBounds_toArray, List.set_cons_zero, List.set_cons_succ]
        refine anyT_takeN (i := 10) (v := ?vba10) rfl (by kernel_rfl) (by kernel_rfl) (by kernel_rfl) (by rfl) (fun _ _ _ h => h) (Or.inl ⟨by rfl, ?yba10⟩) hS0 ?_
        case yba10 => (intro wz hSw; obtain ⟨hz0, hz1, hz2, hz3⟩ := hSw; go_simp; (try with_reducible rfl))
        try simp only [Act.put, List.getElem_toArray, List.getElem_cons_zero, List.getElem_cons_succ, List.setIfInBounds_toArray, List.set_cons_zero, List.set_cons_succ]
        refine anyT_takeN (i := 11) (v := ?vba11) rfl (by kernel_rfl) (by kernel_rfl) (by kernel_rfl) (by rfl) (fun _ _ _ h => h) (Or.inl ⟨by rfl, ?yba11⟩) hS0 ?_
        case yba11 => (intro wz hSw; obtain ⟨hz0, hz1, hz2, hz3⟩ := hSw; go_simp; (try with_reducible rfl))
        try simp only [Act.put, List.getElem_toArray, List.getElem_cons_zero, List.getElem_cons_succ, List.setIfInBounds_toArray, List.set_cons_zero, List.set_cons_succ]
        refine anyT_takeN (i := 12) (v := undef) rfl (by kernel_rfl) (by kernel_rfl) (by kernel_rfl) (by rfl) (fun _ _ _ h => h) (Or.inr ⟨by rfl, rfl⟩) hS0 ?_
        try simp only [Act.put, List.getElem_toArray, List.getElem_cons_zero, List.getElem_cons_succ, List.setIfInBounds_toArray, List.set_cons_zero, List.set_cons_succ]
        refine anyT_takeN (i := 13) (v := undef) rfl (by kernel_rfl) (by kernel_rfl) (by kernel_rfl) (by rfl) (fun _ _ _ h => h) (Or.inr ⟨by rfl, rfl⟩) hS0 ?_
        try simp only [Act.put, List.getElem_toArray, List.getElem_cons_zero, List.getElem_cons_succ, List.setIfInBounds_toArray, List.set_cons_zero, List.set_cons_succ]
        refine anyT_takeN (i := 14) (v := undef) rfl (by kernel_rfl) (by kernel_rfl) (by kernel_rfl) (by rfl) (fun _ _ _ h => h) (Or.inr ⟨by rfl, rfl⟩) hS0 ?_
        try simp only [Act.put, List.getElem_toArray, List.getElem_cons_zero, List.getElem_cons_succ, List.setIfInBounds_toArray, List.set_cons_zero, List.set_cons_succ]
        refine anyT_takeN (i := 15) (v := undef) rfl (by kernel_rfl) (by kernel_rfl) (by kernel_rfl) (by rfl) (fun _ _ _ h => h) (Or.inr ⟨by rfl, rfl⟩) hS0 ?_
        try simp only [Act.put, List.getElem_toArray, List.getElem_cons_zero, List.getElem_cons_succ, List.setIfInBounds_toArray, List.set_cons_zero, List.set_cons_succ]
        refine anyT_takeN (i := 16) (v := undef) rfl (by kernel_rfl) (by kernel_rfl) (by kernel_rfl) (by rfl) (fun _ _ _ h => h) (Or.inr ⟨by rfl, rfl⟩) hS0 ?_
        try simp only [Act.put, List.getElem_toArray, List.getElem_cons_zero, List.getElem_cons_succ, List.setIfInBounds_toArray, List.set_cons_zero, List.set_cons_succ]
        refine anyT_takeN (i := 17) (v := undef) rfl (by kernel_rfl) (by kernel_rfl) (by kernel_rfl) (by rfl) (fun _ _ _ h => h) (Or.inr ⟨by rfl, rfl⟩) hS0 ?_
        try simp only [Act.put, List.getElem_toArray, List.getElem_cons_zero, List.getElem_cons_succ, List.setIfInBounds_toArray, List.set_cons_zero, List.set_cons_succ]
        refine anyT_takeN (i := 18) (v := undef) rfl (by kernel_rfl) (by kernel_rfl) (by kernel_rfl) (by rfl) (fun _ _ _ h => h) (Or.inr ⟨by rfl, rfl⟩) hS0 ?_
        try simp only [Act.put, List.getElem_toArray, List.getElem_cons_zero, List.getElem_cons_succ, List.setIfInBounds_toArray, List.set_cons_zero, List.set_cons_succ]
        refine anyT_takeN (i := 19) (v := undef) rfl (by kernel_rfl) (by kernel_rfl) (by kernel_rfl) (by rfl) (fun _ _ _ h => h) (Or.inr ⟨by rfl, rfl⟩) hS0 ?_
        try simp only [Act.put, List.getElem_toArray, List.getElem_cons_zero, List.getElem_cons_succ, List.setIfInBounds_toArray, List.set_cons_zero, List.set_cons_succ]
        refine anyT_takeN (i := 20) (v := undef) rfl (by kernel_rfl) (by kernel_rfl) (by kernel_rfl) (by rfl) (fun _ _ _ h => h) (Or.inr ⟨by rfl, rfl⟩) hS0 ?_
        try simp only [Act.put, List.getElem_toArray, List.getElem_cons_zero, List.getElem_cons_succ, List.setIfInBounds_toArray, List.set_cons_zero, List.set_cons_succ]
        refine anyT_takeN (i := 21) (v := undef) rfl (by kernel_rfl) (by kernel_rfl) (by kernel_rfl) (by rfl) (fun _ _ _ h => h) (Or.inr ⟨by rfl, rfl⟩) hS0 ?_
        try simp only [Act.put, List.getElem_toArray, List.getElem_cons_zero, List.getElem_cons_succ, List.setIfInBounds_toArray, List.set_cons_zero, List.set_cons_succ]
        refine anyT_takeN (i := 22) (v := undef) rfl (by kernel_rfl) (by kernel_rfl) (by kernel_rfl) (by rfl) (fun _ _ _ h => h) (Or.inr ⟨by rfl, rfl⟩) hS0 ?_
        try simp only [Act.put, List.getElem_toArray, List.getElem_cons_zero, List.getElem_cons_succ, List.setIfInBounds_toArray, List.set_cons_zero, List.set_cons_succ]
        refine anyT_takeN (i := 23) (v := ?vba23) rfl (by kernel_rfl) (by kernel_rfl) (by kernel_rfl) (by rfl) (fun _ _ _ h => h) (Or.inl ⟨by rfl, ?yba23⟩) hS0 ?_
        case yba23 => (intro wz hSw; obtain ⟨hz0, hz1, hz2, hz3⟩ := hSw; go_simp; (try with_reducible rfl))
        try simp only [Act.put, List.getElem_toArray, List.getElem_cons_zero, List.getElem_cons_succ, List.setIfInBounds_toArray, List.set_cons_zero, List.set_cons_succ]
        refine anyT_done (by kernel_rfl) ?_
        go_wp2_with fail
        go_roundw
        case rel => exact ⟨j + 1, by omega, by go_num, by rw [HN2.out], HBd.out⟩
        case measure => go_light; simp [intOf]; omega
      · cases hq : (x.qual.toList == c.qual.toList)
        · have HN2 : Hid (befN (es.take (j + 1)) c = m) := by
            show _ = _
            have := HN.out
            unfold colB at this
            rw [hf, hq] at this
            simpa using this
          go_upto_region 5 with fail
          refine wp_region_T 99 (fun w' : World => w'.cell? ⟨b, off + j * 5 + 1, none⟩ = some (.string x.fam) ∧ w'.cell? ⟨b, off + j * 5 + 2, none⟩ = some (.string x.qual) ∧ w'.cell? ⟨b, off + i * 5 + 1, none⟩ = some (.string c.fam) ∧ w'.cell? ⟨b, off + i * 5 + 2, none⟩ = some (.string c.qual)) (by kernel_rfl) ?_
          refine anyT_takeN (i := 0) (v := ?vbb0) rfl (by kernel_rfl) (by kernel_rfl) (by kernel_rfl) (by rfl) (fun _ _ _ h => h) (Or.inl ⟨by rfl, ?ybb0⟩) hS0 ?_
          case ybb0 => (intro wz hSw; obtain ⟨hz0, hz1, hz2, hz3⟩ := hSw; go_simp; (try with_reducible rfl))
          try simp only [Act.put, List.getElem_toArray, List.getElem_cons_zero, List.getElem_cons_succ, List.setIfInBounds_toArray, List.set_cons_zero, List.set_cons_succ]
          refine anyT_takeN (i := 1) (v := ?vbb1) rfl (by kernel_rfl) (by kernel_rfl) (by kernel_rfl) (by rfl) (fun _ _ _ h => h) (Or.inl ⟨by rfl, ?ybb1⟩) hS0 ?_
          case ybb1 => (intro wz hSw; obtain ⟨hz0, hz1, hz2, hz3⟩ := hSw; go_simp; (try with_reducible rfl))
          try simp only [Act.put, List.getElem_toArray, List.getElem_cons_zero, List.getElem_cons_succ, List.setIfInBounds_toArray, List.set_cons_zero, List.set_cons_succ]
          refine anyT_takeN (i := 2) (v := ?vbb2) rfl (by kernel_rfl) (by kernel_rfl) (by kernel_rfl) (by rfl) (fun _ _ _ h => h) (Or.inl ⟨by rfl, ?ybb2⟩) hS0 ?_
          case ybb2 => (intro wz hSw; obtain ⟨hz0, hz1, hz2, hz3⟩ := hSw; go_simp; (try with_reducible rfl))
          try simp only [Act.put, List.getElem_toArray, List.getElem_cons_zero, List.getElem_cons_succ, List.setIfInBounds_toArray, List.set_cons_zero, List.set_cons_succ]
          refine anyT_takeN (i := 3) (v := ?vbb3) rfl (by kernel_rfl) (by kernel_rfl) (by kernel_rfl) (by rfl) (fun _ _ _ h => h) (Or.inl ⟨by rfl, ?ybb3⟩) hS0 ?_
          case ybb3 => (intro wz hSw; obtain ⟨hz0, hz1, hz2, hz3⟩ := hSw; go_simp; (try with_reducible rfl))
          try simp only [Act.put, List.getElem_toArray, List.getElem_cons_zero, List.getElem_cons_succ, List.setIfInBounds_toArray, List.set_cons_zero, List.set_cons_succ]
          refine anyT_takeN (i := 4) (v := ?vbb4) rfl (by kernel_rfl) (by kernel_rfl) (by kernel_rfl) (by rfl) (fun _ _ _ h => h) (Or.inl ⟨by rfl, ?ybb4⟩) hS0 ?_
          case ybb4 => (intro wz hSw; obtain ⟨hz0, hz1, hz2, hz3⟩ := hSw; go_simp; (try with_reducible rfl))
          try simp only [Act.put, List.getElem_toArray, List.getElem_cons_zero, List.getElem_cons_succ, List.setIfInBounds_toArray, List.set_cons_zero, List.set_cons_succ]
          refine anyT_takeN (i := 5) (v := ?vbb5) rfl (by kernel_rfl) (by kernel_rfl) (by kernel_rfl) (by rfl) (fun _ _ _ h => h) (Or.inl ⟨by rfl, ?ybb5⟩) hS0 ?_
          case ybb5 => (intro wz hSw; obtain ⟨hz0, hz1, hz2, hz3⟩ := hSw; go_simp; (try with_reducible rfl))
          try simp only [Act.put, List.getElem_toArray, List.getElem_cons_zero, List.getElem_cons_succ, List.setIfInBounds_toArray, List.set_cons_zero, List.set_cons_succ]
          refine anyT_takeN (i := 6) (v := ?vbb6) rfl (by kernel_rfl) (by kernel_rfl) (by kernel_rfl) (by rfl) (fun _ _ _ h => h) (Or.inl ⟨by rfl, ?ybb6⟩) hS0 ?_
          case ybb6 => (intro wz hSw; obtain ⟨hz0, hz1, hz2, hz3⟩ := hSw; go_simp; (try with_reducible rfl))
          try simp only [Act.put, List.getElem_toArray, List.getElem_cons_zero, List.getElem_cons_succ, List.setIfInBounds_toArray, List.set_cons_zero, List.set_cons_succ]
          refine anyT_takeN (i := 7) (v := ?vbb7) rfl (by kernel_rfl) (by kernel_rfl) (by kernel_rfl) (by rfl) (fun _ _ _ h => h) (Or.inl ⟨by rfl, ?ybb7⟩) hS0 ?_
          case ybb7 => (intro wz hSw; obtain ⟨hz0, hz1, hz2, hz3⟩ := hSw; go_simp; (try with_reducible rfl))
          try simp only [Act.put, List.getElem_toArray, List.getElem_cons_zero, List.getElem_cons_succ, List.setIfInBounds_toArray, List.set_cons_zero, List.set_cons_succ]
          refine anyT_takeN (i := 8) (v := ?vbb8) rfl (by kernel_rfl) (by kernel_rfl) (by kernel_rfl) (by rfl) (fun _ _ _ h => h) (Or.inl ⟨by rfl, ?ybb8⟩) hS0 ?_
          case ybb8 => (intro wz hSw; obtain ⟨hz0, hz1, hz2, hz3⟩ := hSw; go_simp; (try with_reducible rfl))
          try simp only [Act.put, List.getElem_toArray, List.getElem_cons_zero, List.getElem_cons_succ, List.setIfInBounds_toArray, List.set_cons_zero, List.set_cons_succ]
          refine anyT_takeN (i := 9) (v := ?vbb9) rfl (by kernel_rfl) (by kernel_rfl) (by kernel_rfl) (by rfl) (fun _ _ _ h => h) (Or.inl ⟨by rfl, ?ybb9⟩) hS0 ?_
          case ybb9 => (intro wz hSw; obtain ⟨hz0, hz1, hz2, hz3⟩ := hSw; go_simp; (try with_reducible rfl))
          try simp only [Act.put, List.getElem_toArray, List.getElem_cons_zero, List.getElem_cons_succ, List.setIfInBounds_toArray, List.set_cons_zero, List.set_cons_succ]
          refine anyT_takeN (i := 10) (v := ?vbb10) rfl (by kernel_rfl) (by kernel_rfl) (by kernel_rfl) (by rfl) (fun _ _ _ h => h) (Or.inl ⟨by rfl, ?ybb10⟩) hS0 ?_
          case ybb10 => (intro wz hSw; obtain ⟨hz0, hz1, hz2, hz3⟩ := hSw; go_simp; (try with_reducible rfl))
          try simp only [Act.put, List.getElem_toArray, List.getElem_cons_zero, List.getElem_cons_succ, List.setIfInBounds_toArray, List.set_cons_zero, List.set_cons_succ]
          refine anyT_takeN (i := 11) (v := ?vbb11) rfl (by kernel_rfl) (by kernel_rfl) (by kernel_rfl) (by rfl) (fun _ _ _ h => h) (Or.inl ⟨by rfl, ?ybb11⟩) hS0 ?_
          case ybb11 => (intro wz hSw; obtain ⟨hz0, hz1, hz2, hz3⟩ := hSw; go_simp; (try with_reducible rfl))
          try simp only [Act.put, List.getElem_toArray, List.getElem_cons_zero, List.getElem_cons_succ, List.setIfInBounds_toArray, List.set_cons_zero, List.set_cons_succ]
          refine anyT_takeN (i := 12) (v := ?vbb12) rfl (by kernel_rfl) (by kernel_rfl) (by kernel_rfl) (by rfl) (fun _ _ _ h => h) (Or.inl ⟨by rfl, ?ybb12⟩) hS0 ?_
          case ybb12 => (intro wz hSw; obtain ⟨hz0, hz1, hz2, hz3⟩ := hSw; go_simp; (try with_reducible rfl))
          try simp only [Act.put, List.getElem_toArray, List.getElem_cons_zero, List.getElem_cons_succ, List.setIfInBounds_toArray, List.set_cons_zero, List.set_cons_succ]
          refine anyT_takeN (i := 13) (v := ?vbb13) rfl (by kernel_rfl) (by kernel_rfl) (by kernel_rfl) (by rfl) (fun _ _ _ h => h) (Or.inl ⟨by rfl, ?ybb13⟩) hS0 ?_
          case ybb13 => (intro wz hSw; obtain ⟨hz0, hz1, hz2, hz3⟩ := hSw; go_simp; (try with_reducible rfl))
          try simp only [Act.put, List.getElem_toArray, List.getElem_cons_zero, List.getElem_cons_succ, List.setIfInBounds_toArray, List.set_cons_zero, List.set_cons_succ]
          refine anyT_takeN (i := 14) (v := ?vbb14) rfl (by kernel_rfl) (by kernel_rfl) (by kernel_rfl) (by rfl) (fun _ _ _ h => h) (Or.inl ⟨by rfl, ?ybb14⟩) hS0 ?_
          case ybb14 => (intro wz hSw; obtain ⟨hz0, hz1, hz2, hz3⟩ := hSw; go_simp; (try with_reducible rfl))
          try simp only [Act.put, List.getElem_toArray, List.getElem_cons_zero, List.getElem_cons_succ, List.setIfInBounds_toArray, List.set_cons_zero, List.set_cons_succ]
          refine anyT_takeN (i := 15) (v := ?vbb15) rfl (by kernel_rfl) (by kernel_rfl) (by kernel_rfl) (by rfl) (fun _ _ _ h => h) (Or.inl ⟨by rfl, ?ybb15⟩) hS0 ?_
          case ybb15 => (intro wz hSw; obtain ⟨hz0, hz1, hz2, hz3⟩ := hSw; go_simp; (try with_reducible rfl))
          try simp only [Act.put, List.getElem_toArray, List.getElem_cons_zero, List.getElem_cons_succ, List.setIfInBounds_toArray, List.set_cons_zero, List.set_cons_succ]
          refine anyT_takeN (i := 16) (v := ?vbb16) rfl (by kernel_rfl) (by kernel_rfl) (by kernel_rfl) (by rfl) (fun _ _ _ h => h) (Or.inl ⟨by rfl, ?ybb16⟩) hS0 ?_
          case ybb16 => (intro wz hSw; obtain ⟨hz0, hz1, hz2, hz3⟩ := hSw; go_simp; (try with_reducible rfl))
          try simp only [Act.put, List.getElem_toArray, List.getElem_cons_zero, List.getElem_cons_succ, List.setIfInBounds_toArray, List.set_cons_zero, List.set_cons_succ]
          refine anyT_takeN (i := 17) (v := ?vbb17) rfl (by kernel_rfl) (by kernel_rfl) (by kernel_rfl) (by rfl) (fun _ _ _ h => h) (Or.inl ⟨by rfl, ?ybb17⟩) hS0 ?_
          case ybb17 => (intro wz hSw; obtain ⟨hz0, hz1, hz2, hz3⟩ := hSw; go_simp; (try with_reducible rfl))
          try simp only [Act.put, List.getElem_toArray, List.getElem_cons_zero, List.getElem_cons_succ, List.setIfInBounds_toArray, List.set_cons_zero, List.set_cons_succ]
          refine anyT_takeN (i := 18) (v := ?vbb18) rfl (by kernel_rfl) (by kernel_rfl) (by kernel_rfl) (by rfl) (fun _ _ _ h => h) (Or.inl ⟨by rfl, ?ybb18⟩) hS0 ?_
          case ybb18 => (intro wz hSw; obtain ⟨hz0, hz1, hz2, hz3⟩ := hSw; go_simp; (try with_reducible rfl))
          try simp only [Act.put, List.getElem_toArray, List.getElem_cons_zero, List.getElem_cons_succ, List.setIfInBounds_toArray, List.set_cons_zero, List.set_cons_succ]
          refine anyT_takeN (i := 19) (v := ?vbb19) rfl (by kernel_rfl) (by kernel_rfl) (by kernel_rfl) (by rfl) (fun _ _ _ h => h) (Or.inl ⟨by rfl, ?ybb19⟩) hS0 ?_
          case ybb19 => (intro wz hSw; obtain ⟨hz0, hz1, hz2, hz3⟩ := hSw; go_simp; (try with_reducible rfl))
          try simp only [Act.put, List.getElem_toArray, List.getElem_cons_zero, List.getElem_cons_succ, List.setIfInBounds_toArray, List.set_cons_zero, List.set_cons_succ]
          refine anyT_takeN (i := 20) (v := ?vbb20) rfl (by kernel_rfl) (by kernel_rfl) (by kernel_rfl) (by rfl) (fun _ _ _ h => h) (Or.inl ⟨by rfl, ?ybb20⟩) hS0 ?_
          case ybb20 => (intro wz hSw; obtain ⟨hz0, hz1, hz2, hz3⟩ := hSw; go_simp; (try with_reducible rfl))
          try simp only [Act.put, List.getElem_toArray, List.getElem_cons_zero, List.getElem_cons_succ, List.setIfInBounds_toArray, List.set_cons_zero, List.set_cons_succ]
          refine anyT_takeN (i := 21) (v := ?vbb21) rfl (by kernel_rfl) (by kernel_rfl) (by kernel_rfl) (by rfl) (fun _ _ _ h => h) (Or.inl ⟨by rfl, ?ybb21⟩) hS0 ?_
          case ybb21 => (intro wz hSw; obtain ⟨hz0, hz1, hz2, hz3⟩ := hSw; go_simp; (try with_reducible rfl))
          try simp only [Act.put, List.getElem_toArray, List.getElem_cons_zero, List.getElem_cons_succ, List.setIfInBounds_toArray, List.set_cons_zero, List.set_cons_succ]
          refine anyT_takeN (i := 22) (v := ?vbb22) rfl (by kernel_rfl) (by kernel_rfl) (by kernel_rfl) (by rfl) (fun _ _ _ h => h) (Or.inl ⟨by rfl, ?ybb22⟩) hS0 ?_
          case ybb22 => (intro wz hSw; obtain ⟨hz0, hz1, hz2, hz3⟩ := hSw; go_simp; (try with_reducible rfl))
          try simp only [Act.put, List.getElem_toArray, List.getElem_cons_zero, List.getElem_cons_succ, List.setIfInBounds_toArray, List.set_cons_zero, List.set_cons_succ]
          refine anyT_takeN (i := 23) (v := ?vbb23) rfl (by kernel_rfl) (by kernel_rfl) (by kernel_rfl) (by rfl) (fun _ _ _ h => h) (Or.inl ⟨by rfl, ?ybb23⟩) hS0 ?_
          case ybb23 => (intro wz hSw; obtain ⟨hz0, hz1, hz2, hz3⟩ := hSw; go_simp; (try with_reducible rfl))
          try simp only [Act.put, List.getElem_toArray, List.getElem_cons_zero, List.getElem_cons_succ, List.setIfInBounds_toArray, List.set_cons_zero, List.set_cons_succ]
          refine anyT_done (by kernel_rfl) ?_
          go_wp2_with fail
          go_roundw
          case rel => exact ⟨j + 1, by omega, by go_num, by rw [HN2.out]; try go_num, HBd.out⟩
          case measure => go_light; simp [intOf]; omega
        · have HN2 : Hid (befN (es.take (j + 1)) c = m + 1) := by
            show _ = _
            have := HN.out
            unfold colB at this
            rw [hf, hq] at this
            simpa using this
          go_upto_region 5 with fail
          refine wp_region_T 99 (fun w' : World => w'.cell? ⟨b, off + j * 5 + 1, none⟩ = some (.string x.fam) ∧ w'.cell? ⟨b, off + j * 5 + 2, none⟩ = some (.string x.qual) ∧ w'.cell? ⟨b, off + i * 5 + 1, none⟩ = some (.string c.fam) ∧ w'.cell? ⟨b, off + i * 5 + 2, none⟩ = some (.string c.qual)) (by kernel_rfl) ?_
          refine anyT_takeN (i := 0) (v := ?vbc0) rfl (by kernel_rfl) (by kernel_rfl) (by kernel_rfl) (by rfl) (fun _ _ _ h => h) (Or.inl ⟨by rfl, ?ybc0⟩) hS0 ?_
          case ybc0 => (intro wz hSw; obtain ⟨hz0, hz1, hz2, hz3⟩ := hSw; go_simp; (try with_reducible rfl))
          try simp only [Act.put, List.getElem_toArray, List.getElem_cons_zero, List.getElem_cons_succ, List.setIfInBounds_toArray, List.set_cons_zero, List.set_cons_succ]
          refine anyT_takeN (i := 1) (v := ?vbc1) rfl (by kernel_rfl) (by kernel_rfl) (by kernel_rfl) (by rfl) (fun _ _ _ h => h) (Or.inl ⟨by rfl, ?ybc1⟩) hS0 ?_
          case ybc1 => (intro wz hSw; obtain ⟨hz0, hz1, hz2, hz3⟩ := hSw; go_simp; (try with_reducible rfl))
          try simp only [Act.put, List.getElem_toArray, List.getElem_cons_zero, List.getElem_cons_succ, List.setIfInBounds_toArray, List.set_cons_zero, List.set_cons_succ]
          refine anyT_takeN (i := 2) (v := ?vbc2) rfl (by kernel_rfl) (by kernel_rfl) (by kernel_rfl) (by rfl) (fun _ _ _ h => h) (Or.inl ⟨by rfl, ?ybc2⟩) hS0 ?_
          case ybc2 => (intro wz hSw; obtain ⟨hz0, hz1, hz2, hz3⟩ := hSw; go_simp; (try with_reducible rfl))
          try simp only [Act.put, List.getElem_toArray, List.getElem_cons_zero, List.getElem_cons_succ, List.setIfInBounds_toArray, List.set_cons_zero, List.set_cons_succ]
          refine anyT_takeN (i := 3) (v := ?vbc3) rfl (by kernel_rfl) (by kernel_rfl) (by kernel_rfl) (by rfl) (fun _ _ _ h => h) (Or.inl ⟨by rfl, ?ybc3⟩) hS0 ?_
          case ybc3 => (intro wz hSw; obtain ⟨hz0, hz1, hz2, hz3⟩ := hSw; go_simp; (try with_reducible rfl))
          try simp only [Act.put, List.getElem_toArray, List.getElem_cons_zero, List.getElem_cons_succ, List.setIfInBounds_toArray, List.set_cons_zero, List.set_cons_succ]
          refine anyT_takeN (i := 4) (v := ?vbc4) rfl (by kernel_rfl) (by kernel_rfl) (by kernel_rfl) (by rfl) (fun _ _ _ h => h) (Or.inl ⟨by rfl, ?ybc4⟩) hS0 ?_
          case ybc4 => (intro wz hSw; obtain ⟨hz0, hz1, hz2, hz3⟩ := hSw; go_simp; (try with_reducible rfl))
          try simp only [Act.put, List.getElem_toArray, List.getElem_cons_zero, List.getElem_cons_succ, List.setIfInBounds_toArray, List.set_cons_zero, List.set_cons_succ]
          refine anyT_takeN (i := 5) (v := ?vbc5) rfl (by kernel_rfl) (by kernel_rfl) (by kernel_rfl) (by rfl) (fun _ _ _ h => h) (Or.inl ⟨by rfl, ?ybc5⟩) hS0 ?_
          case ybc5 => (intro wz hSw; obtain ⟨hz0, hz1, hz2, hz3⟩ := hSw; go_simp; (try with_reducible rfl))
          try simp only [Act.put, List.getElem_toArray, List.getElem_cons_zero, List.getElem_cons_succ, List.setIfInBounds_toArray, List.set_cons_zero, List.set_cons_succ]
          refine anyT_takeN (i := 6) (v := ?vbc6) rfl (by kernel_rfl) (by kernel_rfl) (by kernel_rfl) (by rfl) (fun _ _ _ h => h) (Or.inl ⟨by rfl, ?ybc6⟩) hS0 ?_
          case ybc6 => (intro wz hSw; obtain ⟨hz0, hz1, hz2, hz3⟩ := hSw; go_simp; (try with_reducible rfl))
          try simp only [Act.put, List.getElem_toArray, List.getElem_cons_zero, List.getElem_cons_succ, List.setIfInBounds_toArray, List.set_cons_zero, List.set_cons_succ]
          refine anyT_takeN (i := 7) (v := ?vbc7) rfl (by kernel_rfl) (by kernel_rfl) (by kernel_rfl) (by rfl) (fun _ _ _ h => h) (Or.inl ⟨by rfl, ?ybc7⟩) hS0 ?_
          case ybc7 => (intro wz hSw; obtain ⟨hz0, hz1, hz2, hz3⟩ := hSw; go_simp; (try with_reducible rfl))
          try simp only [Act.put, List.getElem_toArray, List.getElem_cons_zero, List.getElem_cons_succ, List.setIfInBounds_toArray, List.set_cons_zero, List.set_cons_succ]
          refine anyT_takeN (i := 8) (v := ?vbc8) rfl (by kernel_rfl) (by kernel_rfl) (by kernel_rfl) (by rfl) (fun _ _ _ h => h) (Or.inl ⟨by rfl, ?ybc8⟩) hS0 ?_
          case ybc8 => (intro wz hSw; obtain ⟨hz0, hz1, hz2, hz3⟩ := hSw; go_simp; (try with_reducible rfl))
          try simp only [Act.put, List.getElem_toArray, List.getElem_cons_zero, List.getElem_cons_succ, List.setIfInBounds_toArray, List.set_cons_zero, List.set_cons_succ]
          refine anyT_takeN (i := 9) (v := ?vbc9) rfl (by kernel_rfl) (by kernel_rfl) (by kernel_rfl) (by rfl) (fun _ _ _ h => h) (Or.inl ⟨by rfl, ?ybc9⟩) hS0 ?_
          case ybc9 => (intro wz hSw; obtain ⟨hz0, hz1, hz2, hz3⟩ := hSw; go_simp; (try with_reducible rfl))
          try simp only [Act.put, List.getElem_toArray, List.getElem_cons_zero, List.getElem_cons_succ, List.setIfInBounds_toArray, List.set_cons_zero, List.set_cons_succ]
          refine anyT_takeN (i := 10) (v := ?vbc10) rfl (by kernel_rfl) (by kernel_rfl) (by kernel_rfl) (by rfl) (fun _ _ _ h => h) (Or.inl ⟨by rfl, ?ybc10⟩) hS0 ?_
          case ybc10 => (intro wz hSw; obtain ⟨hz0, hz1, hz2, hz3⟩ := hSw; go_simp; (try with_reducible rfl))
          try simp only [Act.put, List.getElem_toArray, List.getElem_cons_zero, List.getElem_cons_succ, List.setIfInBounds_toArray, List.set_cons_zero, List.set_cons_succ]
          refine anyT_takeN (i := 11) (v := ?vbc11) rfl (by kernel_rfl) (by kernel_rfl) (by kernel_rfl) (by rfl) (fun _ _ _ h => h) (Or.inl ⟨by rfl, ?ybc11⟩) hS0 ?_
          case ybc11 => (intro wz hSw; obtain ⟨hz0, hz1, hz2, hz3⟩ := hSw; go_simp; (try with_reducible rfl))
          try simp only [Act.put, List.getElem_toArray, List.getElem_cons_zero, List.getElem_cons_succ, List.setIfInBounds_toArray, List.set_cons_zero, List.set_cons_succ]
          refine anyT_takeN (i := 12) (v := ?vbc12) rfl (by kernel_rfl) (by kernel_rfl) (by kernel_rfl) (by rfl) (fun _ _ _ h => h) (Or.inl ⟨by rfl, ?ybc12⟩) hS0 ?_
          case ybc12 => (intro wz hSw; obtain ⟨hz0, hz1, hz2, hz3⟩ := hSw; go_simp; (try with_reducible rfl))
          try simp only [Act.put, List.getElem_toArray, List.getElem_cons_zero, List.getElem_cons_succ, List.setIfInBounds_toArray, List.set_cons_zero, List.set_cons_succ]
          refine anyT_takeN (i := 13) (v := ?vbc13) rfl (by kernel_rfl) (by kernel_rfl) (by kernel_rfl) (by rfl) (fun _ _ _ h => h) (Or.inl ⟨by rfl, ?ybc13⟩) hS0 ?_
          case ybc13 => (intro wz hSw; obtain ⟨hz0, hz1, hz2, hz3⟩ := hSw; go_simp; (try with_reducible rfl))
          try simp only [Act.put, List.getElem_toArray, List.getElem_cons_zero, List.getElem_cons_succ, List.setIfInBounds_toArray, List.set_cons_zero, List.set_cons_succ]
          refine anyT_takeN (i := 14) (v := ?vbc14) rfl (by kernel_rfl) (by kernel_rfl) (by kernel_rfl) (by rfl) (fun _ _ _ h => h) (Or.inl ⟨by rfl, ?ybc14⟩) hS0 ?_
          case ybc14 => (intro wz hSw; obtain ⟨hz0, hz1, hz2, hz3⟩ := hSw; go_simp; (try with_reducible rfl))
          try simp only [Act.put, List.getElem_toArray, List.getElem_cons_zero, List.getElem_cons_succ, List.setIfInBounds_toArray, List.set_cons_zero, List.set_cons_succ]
          refine anyT_takeN (i := 15) (v := ?vbc15) rfl (by kernel_rfl) (by kernel_rfl) (by kernel_rfl) (by rfl) (fun _ _ _ h => h) (Or.inl ⟨by rfl, ?ybc15⟩) hS0 ?_
          case ybc15 => (intro wz hSw; obtain ⟨hz0, hz1, hz2, hz3⟩ := hSw; go_simp; (try with_reducible rfl))
          try simp only [Act.put, List.getElem_toArray, List.getElem_cons_zero, List.getElem_cons_succ, List.setIfInBounds_toArray, List.set_cons_zero, List.set_cons_succ]
          refine anyT_takeN (i := 16) (v := ?vbc16) rfl (by kernel_rfl) (by kernel_rfl) (by kernel_rfl) (by rfl) (fun _ _ _ h => h) (Or.inl ⟨by rfl, ?ybc16⟩) hS0 ?_
          case ybc16 => (intro wz hSw; obtain ⟨hz0, hz1, hz2, hz3⟩ := hSw; go_simp; (try with_reducible rfl))
          try simp only [Act.put, List.getElem_toArray, List.getElem_cons_zero, List.getElem_cons_succ, List.setIfInBounds_toArray, List.set_cons_zero, List.set_cons_succ]
          refine anyT_takeN (i := 17) (v := ?vbc17) rfl (by kernel_rfl) (by kernel_rfl) (by kernel_rfl) (by rfl) (fun _ _ _ h => h) (Or.inl ⟨by rfl, ?ybc17⟩) hS0 ?_
          case ybc17 => (intro wz hSw; obtain ⟨hz0, hz1, hz2, hz3⟩ := hSw; go_simp; (try with_reducible rfl))
          try simp only [Act.put, List.getElem_toArray, List.getElem_cons_zero, List.getElem_cons_succ, List.setIfInBounds_toArray, List.set_cons_zero, List.set_cons_succ]
          refine anyT_takeN (i := 18) (v := ?vbc18) rfl (by kernel_rfl) (by kernel_rfl) (by kernel_rfl) (by rfl) (fun _ _ _ h => h) (Or.inl ⟨by rfl, ?ybc18⟩) hS0 ?_
          case ybc18 => (intro wz hSw; obtain ⟨hz0, hz1, hz2, hz3⟩ := hSw; go_simp; (try with_reducible rfl))
          try simp only [Act.put, List.getElem_toArray, List.getElem_cons_zero, List.getElem_cons_succ, List.setIfInBounds_toArray, List.set_cons_zero, List.set_cons_succ]
          refine anyT_takeN (i := 19) (v := ?vbc19) rfl (by kernel_rfl) (by kernel_rfl) (by kernel_rfl) (by rfl) (fun _ _ _ h => h) (Or.inl ⟨by rfl, ?ybc19⟩) hS0 ?_
          case ybc19 => (intro wz hSw; obtain ⟨hz0, hz1, hz2, hz3⟩ := hSw; go_simp; (try with_reducible rfl))
          try simp only [Act.put, List.getElem_toArray, List.getElem_cons_zero, List.getElem_cons_succ, List.setIfInBounds_toArray, List.set_cons_zero, List.set_cons_succ]
          refine anyT_takeN (i := 20) (v := ?vbc20) rfl (by kernel_rfl) (by kernel_rfl) (by kernel_rfl) (by rfl) (fun _ _ _ h => h) (Or.inl ⟨by rfl, ?ybc20⟩) hS0 ?_
          case ybc20 => (intro wz hSw; obtain ⟨hz0, hz1, hz2, hz3⟩ := hSw; go_simp; (try with_reducible rfl))
          try simp only [Act.put, List.getElem_toArray, List.getElem_cons_zero, List.getElem_cons_succ, List.setIfInBounds_toArray, List.set_cons_zero, List.set_cons_succ]
          refine anyT_takeN (i := 21) (v := ?vbc21) rfl (by kernel_rfl) (by kernel_rfl) (by kernel_rfl) (by rfl) (fun _ _ _ h => h) (Or.inl ⟨by rfl, ?ybc21⟩) hS0 ?_
          case ybc21 => (intro wz hSw; obtain ⟨hz0, hz1, hz2, hz3⟩ := hSw; go_simp; (try with_reducible rfl))
          try simp only [Act.put, List.getElem_toArray, List.getElem_cons_zero, List.getElem_cons_succ, List.setIfInBounds_toArray, List.set_cons_zero, List.set_cons_succ]
          refine anyT_takeN (i := 22) (v := ?vbc22) rfl (by kernel_rfl) (by kernel_rfl) (by kernel_rfl) (by rfl) (fun _ _ _ h => h) (Or.inl ⟨by rfl, ?ybc22⟩) hS0 ?_
          case ybc22 => (intro wz hSw; obtain ⟨hz0, hz1, hz2, hz3⟩ := hSw; go_simp; (try with_reducible rfl))
          try simp only [Act.put, List.getElem_toArray, List.getElem_cons_zero, List.getElem_cons_succ, List.setIfInBounds_toArray, List.set_cons_zero, List.set_cons_succ]
          refine anyT_takeN (i := 23) (v := ?vbc23) rfl (by kernel_rfl) (by kernel_rfl) (by kernel_rfl) (by rfl) (fun _ _ _ h => h) (Or.inl ⟨by rfl, ?ybc23⟩) hS0 ?_
          case ybc23 => (intro wz hSw; obtain ⟨hz0, hz1, hz2, hz3⟩ := hSw; go_simp; (try with_reducible rfl))
          try simp only [Act.put, List.getElem_toArray, List.getElem_cons_zero, List.getElem_cons_succ, List.setIfInBounds_toArray, List.set_cons_zero, List.set_cons_succ]
          refine anyT_done (by kernel_rfl) ?_
          go_wp2_with fail
          go_roundw
          case rel => exact ⟨j + 1, by omega, by go_num, by rw [HN2.out]; try go_num, HBd.out⟩
          case measure => go_light; simp [intOf]; omega
    · obtain rfl : j = i := by omega
      have zj : ¬ (j : Int) < (j : Int) := by omega
      go_wp2_with fail
      go_ret
      exact ⟨by rw [HM.out]; rfl, HB.out⟩
end Go.Proofs.YtkidabedcgngcaaGreatDoor

/-
  spec.l5Leaf.
-/
namespace Go.Proofs.YtkidabedcgngcaaGreatDoor
open Go.ChangeShapes Go.WideShapes Go.ChangeAt Go.RowKit Go.Deep
set_option linter.unusedVariables false
set_option linter.unusedSimpArgs false
set_option maxRecDepth 100000

theorem leafG_append (n : Nd) : ∀ (a pre b : List Ent), leafG n pre (a ++ b) = leafG n pre a ++ leafG n (pre ++ a) b
  | [], pre, b => by simp [leafG]
  | c :: a, pre, b => by
    have ih := leafG_append n a (pre ++ [c]) b
    simp only [List.cons_append, leafG]
    split <;> simp [ih]
theorem leaf_step (n : Nd) {es : List Ent} {i : Nat} {c : Ent} (h : es[i]? = some c) : leafG n [] (es.take (i + 1)) = leafG n [] (es.take i) ++ (if keepB n (es.take i) c then [stripE n c] else []) := by
  rw [List.take_add_one, h, Option.toList_some, leafG_append]
  simp only [List.nil_append, leafG]
theorem leafG_len (n : Nd) : ∀ (a pre : List Ent), (leafG n pre a).length ≤ a.length
  | [], _ => Nat.le_refl _
  | c :: a, pre => by
    have := leafG_len n a (pre ++ [c])
    unfold leafG
    split <;> simp <;> omega

structure LfJ (w : World) (n : Nd) (b off cap : Nat) (es : List Ent) (g cp : Nat) (L : List Ent) (wr : World) : Prop where
  own : OwnC wr w.heap.size g cp L
  box : BoxAt wr w.heap.size 75 7 w.heap.size n.seven
  row : CSl wr b off cap es
  low : b < w.heap.size
  below : Below w.heap.size w wr
theorem LfJ.move {w : World} {n : Nd} {b off cap : Nat} {es : List Ent} {g cp : Nat} {L : List Ent} {wr w' : World} (h : LfJ w n b off cap es g cp L wr) (hb : Below wr.heap.size wr w') : LfJ w n b off cap es g cp L w' :=
  ⟨h.own.below hb h.own.lt.2, h.box.below hb, h.row.below hb, h.low, h.below.trans (hb.mono h.below.size)⟩
theorem LfJ.push {w : World} {n : Nd} {b off cap : Nat} {es : List Ent} {g cp g' cp' : Nat} {L L' : List Ent} {X w' : World} (h : LfJ w n b off cap es g cp L X) (hO : OwnC w' w.heap.size g' cp' L') (hg : X.grownBy w' (some g)) : LfJ w n b off cap es g' cp' L' w' := by
  have hc : Chg (fun k => k = g) X w' := Chg.of_grown hg (fun k q => by cases q; rfl)
  have hgl := h.own.lt
  have hlo := h.low
  refine ⟨hO, h.box.chg hc (fun q => own_apart h.own h.box (by decide) g rfl (by rw [← q]; rfl)), h.row.chg hc (by omega), hlo, ?_⟩
  exact h.below.grown hg h.below.size (fun j hj => by cases hj; omega)
theorem LfJ.set {w : World} {n : Nd} {b off cap : Nat} {es : List Ent} {g cp : Nat} {L : List Ent} {X : World} (h : LfJ w n b off cap es g cp L X) {k : Nat} (hk : w.heap.size < k) (hg : ¬ g = k) (j : Nat) (u : Value) : LfJ w n b off cap es g cp L (X.setCell ⟨k, j, none⟩ u) := by
  have hc : Chg (fun q => q = k) X (X.setCell ⟨k, j, none⟩ u) := Chg.of_set _ _ _ _ rfl
  have hlo := h.low
  have hs := h.below.size
  exact ⟨own_chg h.own hc (fun q z => by simp [Value.ownBlock] at z; subst z; exact hg), h.box.chg hc (by omega), h.row.chg hc (by omega), hlo, Chg.below h.below hc hs (fun q z => by omega)⟩

set_option maxHeartbeats 8000000 in
theorem l5Leaf_core (n : Nd) (hns : n.s.size ≤ maxLen) {w : World} {b off cap : Nat} {es : List Ent} (h : CSl w b off cap es) (hl : es.length ≤ 1048576) : Calls Tryz.prog 98 #[n.v, .slice (some ⟨b, off, none⟩) es.length cap] w fun e w' => ∃ g cp, e = .returned (.slice (some ⟨g, 0, none⟩) (leafM n es).length cp) ∧ OwnC w' w.heap.size g cp (leafM n es) ∧ Below w.heap.size w w' := by
  obtain ⟨N, hN⟩ : ∃ N, N = es.length := ⟨_, rfl⟩
  have HL : Hid (N = es.length) := hN
  have HLM : Hid (leafM n es = leafG n [] (es.take N)) := by show _ = _; rw [hN, List.take_length]; rfl
  have HTs : Hid (∀ (c : Ent) (w : World), Calls Tryz.prog 124 #[n.v, c.c] w fun e w' => e = .returned (.bool (tstB n c)) ∧ Below w.heap.size w w') := fun c w => l5Test_core n c w hns
  obtain ⟨W0, hW0⟩ : ∃ W0 : World, W0 = (w.alloc (.cells n.seven.toArray 75)).alloc (.cells #[] 55) := ⟨_, rfl⟩
  have HJ0 : Hid (LfJ w n b off cap es (w.heap.size + 1) 0 [] W0) := by
    have k1 : Below w.heap.size w (w.alloc (.cells n.seven.toArray 75)) := (Below.refl _ _).alloc (Nat.le_refl _) _
    have k2 : Below (w.alloc (.cells n.seven.toArray 75)).heap.size (w.alloc (.cells n.seven.toArray 75)) W0 := by rw [hW0]; exact (Below.refl _ _).alloc (Nat.le_refl _) _
    have k3 : Below w.heap.size w W0 := k1.trans (k2.mono k1.size)
    refine ⟨?_, (boxAt_new w _ (Nat.le_refl _) rfl).below k2, h.below k3, h.lt, k3⟩
    have := ownC_new (w.alloc (.cells n.seven.toArray 75))
    rw [hW0]
    have e : (w.alloc (.cells n.seven.toArray 75)).heap.size = w.heap.size + 1 := by simp
    rw [e] at this
    exact this.mono (by omega)
  rw [← hN]
  rw [← hN] at hl
  obtain ⟨k, s, hi, t, lo, up, nn⟩ := n
  clear h hns
  go_enter Tryz.func98, Tryz.ntmps98
  go_wp2_with fail
  have hW0' := hW0
  simp only [Nd.seven] at hW0'
  rw [← hW0']
  clear hW0 hW0' hN
  go_loopw [5, 6] (fun o iv wr => ∃ (i g cp m : Nat), i ≤ N ∧ iv = .int .i64 (i : Int) ∧ o = .slice (some ⟨g, 0, none⟩) m cp ∧ Hid (m = (leafG ⟨k, s, hi, t, lo, up, nn⟩ [] (es.take i)).length ∧ LfJ w ⟨k, s, hi, t, lo, up, nn⟩ b off cap es g cp (leafG ⟨k, s, hi, t, lo, up, nn⟩ [] (es.take i)) wr)) (fun _ iv _ => N - (intOf iv).toNat)
  case atStart => exact ⟨0, w.heap.size + 1, 0, 0, Nat.zero_le _, rfl, rfl, rfl, HJ0.out⟩
  case round =>
    obtain ⟨i, g, cp, m, hiN, rfl, rfl, HJ⟩ := hrel
    by_cases hlt : i < N
    · have zi : (i : Int) < (N : Int) := by omega
      obtain ⟨c, hc⟩ : ∃ c, es[i]? = some c := ⟨_, List.getElem?_eq_getElem (by have := HL.out; omega)⟩
      have HStep : Hid (leafG ⟨k, s, hi, t, lo, up, nn⟩ [] (es.take (i + 1)) = leafG ⟨k, s, hi, t, lo, up, nn⟩ [] (es.take i) ++ (if keepB ⟨k, s, hi, t, lo, up, nn⟩ (es.take i) c then [stripE ⟨k, s, hi, t, lo, up, nn⟩ c] else [])) := leaf_step _ hc
      have HC : Hid (es[i]? = some c) := hc
      have HMl : Hid (m = (leafG ⟨k, s, hi, t, lo, up, nn⟩ [] (es.take i)).length) := HJ.out.1
      have hml : m ≤ 1048576 := by
        rw [HJ.out.1]
        refine Nat.le_trans (leafG_len _ _ _) ?_
        rw [List.length_take]
        omega
      obtain ⟨c0, c1, c2, c3, c4⟩ := HJ.out.2.row.at_ i c hc
      obtain ⟨W1, hW1⟩ : ∃ W1 : World, W1 = wr.alloc (.cells #[.string c.row, .string c.fam, .string c.qual, .int .u64 c.ts, .string c.val] 55) := ⟨_, rfl⟩
      have hb1 : Below wr.heap.size wr W1 := by rw [hW1]; exact (Below.refl _ _).alloc (Nat.le_refl _) _
      obtain ⟨cb, hcb⟩ : ∃ cb, cb = wr.heap.size := ⟨_, rfl⟩
      have HB1 : Hid (LfJ w ⟨k, s, hi, t, lo, up, nn⟩ b off cap es g cp (leafG ⟨k, s, hi, t, lo, up, nn⟩ [] (es.take i)) W1 ∧ BoxAt W1 w.heap.size 55 5 cb c.five ∧ g < cb ∧ w.heap.size < cb) := by
        refine ⟨HJ.out.2.move hb1, ?_, by rw [hcb]; exact HJ.out.2.own.lt.2, by rw [hcb]; exact HJ.out.2.box.lt.2⟩
        rw [hW1, hcb]; exact boxAt_new wr #[.string c.row, .string c.fam, .string c.qual, .int .u64 c.ts, .string c.val] HJ.out.2.below.size rfl
      go_upto_region 6 with fail
      rw [← hW1, ← hcb]
      clear hW1 hcb hb1 c0 c1 c2 c3 c4 hc
      have n0 := HB1.out.1.box.cell (j := 0) rfl
      have n1 := HB1.out.1.box.cell (j := 1) rfl
      have n2 := HB1.out.1.box.cell (j := 2) rfl
      have n3 := HB1.out.1.box.cell (j := 3) rfl
      have n4 := HB1.out.1.box.cell (j := 4) rfl
      have n5 := HB1.out.1.box.cell (j := 5) rfl
      have n6 := HB1.out.1.box.cell (j := 6) rfl
      have c0 := HB1.out.2.1.cell (j := 0) rfl
      have c1 := HB1.out.2.1.cell (j := 1) rfl
      have c2 := HB1.out.2.1.cell (j := 2) rfl
      have c3 := HB1.out.2.1.cell (j := 3) rfl
      have c4 := HB1.out.2.1.cell (j := 4) rfl
      go_wp2_with fail
      refine (HTs.out c W1).mono ?_
      rintro e w2 ⟨rfl, hb2⟩
      have HB2 : Hid (LfJ w ⟨k, s, hi, t, lo, up, nn⟩ b off cap es g cp (leafG ⟨k, s, hi, t, lo, up, nn⟩ [] (es.take i)) w2 ∧ BoxAt w2 w.heap.size 55 5 cb c.five ∧ g < cb ∧ w.heap.size < cb) := ⟨HB1.out.1.move hb2, HB1.out.2.1.below hb2, HB1.out.2.2⟩
      clear n0 n1 n2 n3 n4 n5 n6 c0 c1 c2 c3 c4 hb2 HB1 HJ
      obtain ⟨tb, htb⟩ : ∃ tb, tb = tstB ⟨k, s, hi, t, lo, up, nn⟩ c := ⟨_, rfl⟩
      have HTb : Hid (tb = tstB ⟨k, s, hi, t, lo, up, nn⟩ c) := htb
      rw [← htb]
      clear htb
      have n0 := HB2.out.1.box.cell (j := 0) rfl
      have n6 := HB2.out.1.box.cell (j := 6) rfl
      dsimp only at n0 n6
      have HM : Hid (m = (leafG ⟨k, s, hi, t, lo, up, nn⟩ [] (es.take i)).length) := HMl.out
      by_cases h12 : k = 12
      · subst h12
        have hlenT : ((es.take i).length : Int) = (i : Int) := by rw [List.length_take]; have := HL.out; omega
        by_cases gq : (i : Int) < nn
        · have HSt : Hid (leafG ⟨12, s, hi, t, lo, up, nn⟩ [] (es.take (i + 1)) = leafG ⟨12, s, hi, t, lo, up, nn⟩ [] (es.take i) ++ [c]) := by
            show _ = _
            have hk : keepB ⟨12, s, hi, t, lo, up, nn⟩ (es.take i) c = true := by simp only [keepB, hlenT]; simp [gq]
            rw [HStep.out, hk, if_pos rfl]
            rfl
          clear hlenT
          have d0 := HB2.out.2.1.cell (j := 0) rfl
          have d1 := HB2.out.2.1.cell (j := 1) rfl
          have d2 := HB2.out.2.1.cell (j := 2) rfl
          have d3 := HB2.out.2.1.cell (j := 3) rfl
          have d4 := HB2.out.2.1.cell (j := 4) rfl
          have HKm : Hid (m = (leafG ⟨12, s, hi, t, lo, up, nn⟩ [] (es.take i)).length) := HM.out
          go_wp2_with (at_builtin; refine wpList_append_cel _ rfl _ _ rfl w.heap.size g cp _ _ (leafG ⟨12, s, hi, t, lo, up, nn⟩ [] (es.take i)) c rfl rfl HKm.out ?hO ?hc ?hl ?hb ?_)
          case hO => exact HB2.out.1.own.below ((Below.refl _ _).alloc (Nat.le_refl _) _) HB2.out.1.own.lt.2
          case hc => exact cel_new w2 c
          case hl => rw [← HKm.out]; omega
          case hb => have := HB2.out.1.below.size; simp; omega
          intro g' cp' w' hO' hgr
          have HN : Hid (m + 1 = (leafG ⟨12, s, hi, t, lo, up, nn⟩ [] (es.take (i + 1))).length ∧ LfJ w ⟨12, s, hi, t, lo, up, nn⟩ b off cap es g' cp' (leafG ⟨12, s, hi, t, lo, up, nn⟩ [] (es.take (i + 1))) w') := by
            rw [HSt.out]
            exact ⟨by rw [List.length_append, ← HKm.out]; rfl, (HB2.out.1.move ((Below.refl _ _).alloc (Nat.le_refl _) _)).push hO' hgr⟩
          clear hO' hgr d0 d1 d2 d3 d4
          go_wp2_with fail
          go_roundw
          case rel => exact ⟨i + 1, g', cp', m + 1, by omega, by go_num, rfl, HN.out⟩
          case measure => go_light; simp [intOf]; omega
        · have HSt : Hid (leafG ⟨12, s, hi, t, lo, up, nn⟩ [] (es.take (i + 1)) = leafG ⟨12, s, hi, t, lo, up, nn⟩ [] (es.take i)) := by
            show _ = _
            have hk : keepB ⟨12, s, hi, t, lo, up, nn⟩ (es.take i) c = false := by simp only [keepB, hlenT]; simp [gq]
            rw [HStep.out, hk, if_neg (by decide), List.append_nil]
          clear hlenT
          have HN : Hid (m = (leafG ⟨12, s, hi, t, lo, up, nn⟩ [] (es.take (i + 1))).length ∧ LfJ w ⟨12, s, hi, t, lo, up, nn⟩ b off cap es g cp (leafG ⟨12, s, hi, t, lo, up, nn⟩ [] (es.take (i + 1))) w2) := by
            rw [HSt.out]
            exact ⟨HM.out, HB2.out.1⟩
          go_wp2_with fail
          go_roundw
          case rel => exact ⟨i + 1, g, cp, m, by omega, by go_num, rfl, HN.out⟩
          case measure => go_light; simp [intOf]; omega
      have b12 : (k == 12) = false := by rw [beq_eq_false_iff_ne]; exact h12
      by_cases h13 : k = 13
      · subst h13
        have hlenT : ((es.take i).length : Int) = (i : Int) := by rw [List.length_take]; have := HL.out; omega
        by_cases gq : nn ≤ (i : Int)
        · have HSt : Hid (leafG ⟨13, s, hi, t, lo, up, nn⟩ [] (es.take (i + 1)) = leafG ⟨13, s, hi, t, lo, up, nn⟩ [] (es.take i) ++ [c]) := by
            show _ = _
            have hk : keepB ⟨13, s, hi, t, lo, up, nn⟩ (es.take i) c = true := by simp only [keepB, hlenT]; simp [gq]
            rw [HStep.out, hk, if_pos rfl]
            rfl
          clear hlenT
          have d0 := HB2.out.2.1.cell (j := 0) rfl
          have d1 := HB2.out.2.1.cell (j := 1) rfl
          have d2 := HB2.out.2.1.cell (j := 2) rfl
          have d3 := HB2.out.2.1.cell (j := 3) rfl
          have d4 := HB2.out.2.1.cell (j := 4) rfl
          have HKm : Hid (m = (leafG ⟨13, s, hi, t, lo, up, nn⟩ [] (es.take i)).length) := HM.out
          go_wp2_with (at_builtin; refine wpList_append_cel _ rfl _ _ rfl w.heap.size g cp _ _ (leafG ⟨13, s, hi, t, lo, up, nn⟩ [] (es.take i)) c rfl rfl HKm.out ?hO ?hc ?hl ?hb ?_)
          case hO => exact HB2.out.1.own.below ((Below.refl _ _).alloc (Nat.le_refl _) _) HB2.out.1.own.lt.2
          case hc => exact cel_new w2 c
          case hl => rw [← HKm.out]; omega
          case hb => have := HB2.out.1.below.size; simp; omega
          intro g' cp' w' hO' hgr
          have HN : Hid (m + 1 = (leafG ⟨13, s, hi, t, lo, up, nn⟩ [] (es.take (i + 1))).length ∧ LfJ w ⟨13, s, hi, t, lo, up, nn⟩ b off cap es g' cp' (leafG ⟨13, s, hi, t, lo, up, nn⟩ [] (es.take (i + 1))) w') := by
            rw [HSt.out]
            exact ⟨by rw [List.length_append, ← HKm.out]; rfl, (HB2.out.1.move ((Below.refl _ _).alloc (Nat.le_refl _) _)).push hO' hgr⟩
          clear hO' hgr d0 d1 d2 d3 d4
          go_wp2_with fail
          go_roundw
          case rel => exact ⟨i + 1, g', cp', m + 1, by omega, by go_num, rfl, HN.out⟩
          case measure => go_light; simp [intOf]; omega
        · have HSt : Hid (leafG ⟨13, s, hi, t, lo, up, nn⟩ [] (es.take (i + 1)) = leafG ⟨13, s, hi, t, lo, up, nn⟩ [] (es.take i)) := by
            show _ = _
            have hk : keepB ⟨13, s, hi, t, lo, up, nn⟩ (es.take i) c = false := by simp only [keepB, hlenT]; simp [gq]
            rw [HStep.out, hk, if_neg (by decide), List.append_nil]
          clear hlenT
          have HN : Hid (m = (leafG ⟨13, s, hi, t, lo, up, nn⟩ [] (es.take (i + 1))).length ∧ LfJ w ⟨13, s, hi, t, lo, up, nn⟩ b off cap es g cp (leafG ⟨13, s, hi, t, lo, up, nn⟩ [] (es.take (i + 1))) w2) := by
            rw [HSt.out]
            exact ⟨HM.out, HB2.out.1⟩
          go_wp2_with fail
          go_roundw
          case rel => exact ⟨i + 1, g, cp, m, by omega, by go_num, rfl, HN.out⟩
          case measure => go_light; simp [intOf]; omega
      have b13 : (k == 13) = false := by rw [beq_eq_false_iff_ne]; exact h13
      by_cases h11 : k = 11
      · subst h11
        have hS0 : (fun w' : World => w'.cell? ⟨w.heap.size, 6, none⟩ = some (.int .i64 nn)) w2.drew := n6
        have HBf : Hid (Calls Tryz.prog 125 #[.slice (some ⟨b, off, none⟩) N cap, .int .i64 (i : Int)] w2.drew fun e w' => e = .returned (.int .i64 (befN (es.take i) c : Int)) ∧ Below w2.drew.heap.size w2.drew w') := by
          rw [HL.out]
          exact before_core ((HB2.out.1.row).below ((Below.refl _ _).drew)) HC.out (by rw [← HL.out]; exact hl)
        obtain ⟨bf, hbf⟩ : ∃ bf, bf = befN (es.take i) c := ⟨_, rfl⟩
        have HBn : Hid (bf = befN (es.take i) c) := hbf
        rw [← hbf] at HBf
        clear hbf
        go_upto_region 8 with fail
        refine wp_region_T 99 (fun w' : World => w'.cell? ⟨w.heap.size, 6, none⟩ = some (.int .i64 nn)) (by kernel_rfl) ?_
        refine anyT_takeN (i := 0) (v := ?vle0) rfl (by kernel_rfl) (by kernel_rfl) (by kernel_rfl) (by rfl) (fun _ _ _ h => h) (Or.inl ⟨by rfl, ?yle0⟩) hS0 ?_
        case yle0 => (intro wz hSw; obtain hz0 := hSw; go_simp; (try with_reducible rfl))
        try simp only [Act.put, List.getElem_toArray, List.getElem_cons_zero, List.getElem_cons_succ, List.setIfInBounds_toArray, List.set_cons_zero, List.set_cons_succ]
        refine anyT_takeN (i := 1) (v := ?vle1) rfl (by kernel_rfl) (by kernel_rfl) (by kernel_rfl) (by rfl) (fun _ _ _ h => h) (Or.inl ⟨by rfl, ?yle1⟩) hS0 ?_
        case yle1 => (intro wz hSw; obtain hz0 := hSw; go_simp; (try with_reducible rfl))
        try simp only [Act.put, List.getElem_toArray, List.getElem_cons_zero, List.getElem_cons_succ, List.setIfInBounds_toArray, List.set_cons_zero, List.set_cons_succ]
        refine anyT_takeN (i := 3) (v := ?vle3) rfl (by kernel_rfl) (by kernel_rfl) (by kernel_rfl) (by rfl) (fun _ _ _ h => h) (Or.inl ⟨by rfl, ?yle3⟩) hS0 ?_
        case yle3 => (intro wz hSw; obtain hz0 := hSw; go_simp; (try with_reducible rfl))
        try simp only [Act.put, List.getElem_toArray, List.getElem_cons_zero, List.getElem_cons_succ, List.setIfInBounds_toArray, List.set_cons_zero, List.set_cons_succ]
        refine anyT_takeN (i := 4) (v := ?vle4) rfl (by kernel_rfl) (by kernel_rfl) (by kernel_rfl) (by rfl) (fun _ _ _ h => h) (Or.inl ⟨by rfl, ?yle4⟩) hS0 ?_
        case yle4 => (intro wz hSw; obtain hz0 := hSw; go_simp; (try with_reducible rfl))
        try simp only [Act.put, List.getElem_toArray, List.getElem_cons_zero, List.getElem_cons_succ, List.setIfInBounds_toArray, List.set_cons_zero, List.set_cons_succ]
        refine anyT_one (i := 2) (by kernel_rfl) rfl (fun K hK => ?_)
        go_simp
        go_at_call 125
        refine HBf.out.mono ?_
        rintro e w3 ⟨rfl, hb3⟩
        have hb3' : Below w2.heap.size w2 w3 := ((Below.refl _ _).drew).trans hb3
        have HB3 : Hid (LfJ w ⟨11, s, hi, t, lo, up, nn⟩ b off cap es g cp (leafG ⟨11, s, hi, t, lo, up, nn⟩ [] (es.take i)) w3 ∧ BoxAt w3 w.heap.size 55 5 cb c.five ∧ g < cb ∧ w.heap.size < cb) := ⟨HB2.out.1.move hb3', HB2.out.2.1.below hb3', HB2.out.2.2⟩
        have hS3 : (fun w' : World => w'.cell? ⟨w.heap.size, 6, none⟩ = some (.int .i64 nn)) w3 := HB3.out.1.box.cell (j := 6) rfl
        clear hb3 hb3'
        refine hK.out _ _ (.inr hS3) ?_
        clear hK
        try simp only [Act.put, List.getElem_toArray, List.getElem_cons_zero, List.getElem_cons_succ, List.setIfInBounds_toArray, List.set_cons_zero, List.set_cons_succ]
        by_cases gq : (bf : Int) < nn
        · refine anyT_takeN (i := 5) (v := .bool true) rfl (by kernel_rfl) (by kernel_rfl) (by kernel_rfl) (by rfl) (fun _ _ _ h => h) (Or.inl ⟨by rfl, ?ylt5⟩) hS3 ?_
          case ylt5 => (intro wz hSw; obtain hz0 := hSw; go_simp; (try simp [gq]); (try with_reducible rfl))
          try simp only [Act.put, List.getElem_toArray, List.getElem_cons_zero, List.getElem_cons_succ, List.setIfInBounds_toArray, List.set_cons_zero, List.set_cons_succ]
          refine anyT_takeN (i := 6) (v := ?vlt6) rfl (by kernel_rfl) (by kernel_rfl) (by kernel_rfl) (by rfl) (fun _ _ _ h => h) (Or.inl ⟨by rfl, ?ylt6⟩) hS3 ?_
          case ylt6 => (intro wz hSw; obtain hz0 := hSw; go_simp; (try with_reducible rfl))
          try simp only [Act.put, List.getElem_toArray, List.getElem_cons_zero, List.getElem_cons_succ, List.setIfInBounds_toArray, List.set_cons_zero, List.set_cons_succ]
          refine anyT_done (by kernel_rfl) ?_
          have n0 := HB3.out.1.box.cell (j := 0) rfl
          dsimp only at n0
          have HSt : Hid (leafG ⟨11, s, hi, t, lo, up, nn⟩ [] (es.take (i + 1)) = leafG ⟨11, s, hi, t, lo, up, nn⟩ [] (es.take i) ++ [c]) := by
            show _ = _
            have hk : keepB ⟨11, s, hi, t, lo, up, nn⟩ (es.take i) c = true := by simp only [keepB, ← HBn.out]; simp [gq]
            rw [HStep.out, hk, if_pos rfl]
            rfl
          have d0 := HB3.out.2.1.cell (j := 0) rfl
          have d1 := HB3.out.2.1.cell (j := 1) rfl
          have d2 := HB3.out.2.1.cell (j := 2) rfl
          have d3 := HB3.out.2.1.cell (j := 3) rfl
          have d4 := HB3.out.2.1.cell (j := 4) rfl
          have HKm : Hid (m = (leafG ⟨11, s, hi, t, lo, up, nn⟩ [] (es.take i)).length) := HM.out
          go_wp2_with (at_builtin; refine wpList_append_cel _ rfl _ _ rfl w.heap.size g cp _ _ (leafG ⟨11, s, hi, t, lo, up, nn⟩ [] (es.take i)) c rfl rfl HKm.out ?hO ?hc ?hl ?hb ?_)
          case hO => exact HB3.out.1.own.below ((Below.refl _ _).alloc (Nat.le_refl _) _) HB3.out.1.own.lt.2
          case hc => exact cel_new w3 c
          case hl => rw [← HKm.out]; omega
          case hb => have := HB3.out.1.below.size; simp; omega
          intro g' cp' w' hO' hgr
          have HN : Hid (m + 1 = (leafG ⟨11, s, hi, t, lo, up, nn⟩ [] (es.take (i + 1))).length ∧ LfJ w ⟨11, s, hi, t, lo, up, nn⟩ b off cap es g' cp' (leafG ⟨11, s, hi, t, lo, up, nn⟩ [] (es.take (i + 1))) w') := by
            rw [HSt.out]
            exact ⟨by rw [List.length_append, ← HKm.out]; rfl, (HB3.out.1.move ((Below.refl _ _).alloc (Nat.le_refl _) _)).push hO' hgr⟩
          clear hO' hgr d0 d1 d2 d3 d4
          go_wp2_with fail
          go_roundw
          case rel => exact ⟨i + 1, g', cp', m + 1, by omega, by go_num, rfl, HN.out⟩
          case measure => go_light; simp [intOf]; omega
        · refine anyT_takeN (i := 5) (v := .bool false) rfl (by kernel_rfl) (by kernel_rfl) (by kernel_rfl) (by rfl) (fun _ _ _ h => h) (Or.inl ⟨by rfl, ?ylf5⟩) hS3 ?_
          case ylf5 => (intro wz hSw; obtain hz0 := hSw; go_simp; (try simp [gq]); (try with_reducible rfl))
          try simp only [Act.put, List.getElem_toArray, List.getElem_cons_zero, List.getElem_cons_succ, List.setIfInBounds_toArray, List.set_cons_zero, List.set_cons_succ]
          refine anyT_takeN (i := 6) (v := ?vlf6) rfl (by kernel_rfl) (by kernel_rfl) (by kernel_rfl) (by rfl) (fun _ _ _ h => h) (Or.inl ⟨by rfl, ?ylf6⟩) hS3 ?_
          case ylf6 => (intro wz hSw; obtain hz0 := hSw; go_simp; (try with_reducible rfl))
          try simp only [Act.put, List.getElem_toArray, List.getElem_cons_zero, List.getElem_cons_succ, List.setIfInBounds_toArray, List.set_cons_zero, List.set_cons_succ]
          refine anyT_done (by kernel_rfl) ?_
          have n0 := HB3.out.1.box.cell (j := 0) rfl
          dsimp only at n0
          have HSt : Hid (leafG ⟨11, s, hi, t, lo, up, nn⟩ [] (es.take (i + 1)) = leafG ⟨11, s, hi, t, lo, up, nn⟩ [] (es.take i)) := by
            show _ = _
            have hk : keepB ⟨11, s, hi, t, lo, up, nn⟩ (es.take i) c = false := by simp only [keepB, ← HBn.out]; simp [gq]
            rw [HStep.out, hk, if_neg (by decide), List.append_nil]
          have HN : Hid (m = (leafG ⟨11, s, hi, t, lo, up, nn⟩ [] (es.take (i + 1))).length ∧ LfJ w ⟨11, s, hi, t, lo, up, nn⟩ b off cap es g cp (leafG ⟨11, s, hi, t, lo, up, nn⟩ [] (es.take (i + 1))) w3) := by
            rw [HSt.out]
            exact ⟨HM.out, HB3.out.1⟩
          go_wp2_with fail
          go_roundw
          case rel => exact ⟨i + 1, g, cp, m, by omega, by go_num, rfl, HN.out⟩
          case measure => go_light; simp [intOf]; omega
      have b11 : (k == 11) = false := by rw [beq_eq_false_iff_ne]; exact h11
      by_cases h3 : k = 3
      · subst h3
        have htt : tb = true := HTb.out.trans (by simp [tstB])
        subst htt
        have f4 := HB2.out.2.1.frozen 4
        have d4 := HB2.out.2.1.cell (j := 4) rfl
        obtain ⟨W3, hW3⟩ : ∃ W3 : World, W3 = w2.setCell ⟨cb, 4, none⟩ (.string ⟨#[]⟩) := ⟨_, rfl⟩
        have HB3 : Hid (LfJ w ⟨3, s, hi, t, lo, up, nn⟩ b off cap es g cp (leafG ⟨3, s, hi, t, lo, up, nn⟩ [] (es.take i)) W3 ∧ BoxAt W3 w.heap.size 55 5 cb (⟨c.row, c.fam, c.qual, c.ts, c.kind, ⟨#[]⟩⟩ : Ent).five ∧ g < cb ∧ w.heap.size < cb) := by
          rw [hW3]
          exact ⟨HB2.out.1.set HB2.out.2.2.2 (by have := HB2.out.2.2.1; omega) 4 _, HB2.out.2.1.set 4 _, HB2.out.2.2⟩
        go_upto_region 15 with fail
        rw [← hW3]
        clear hW3 f4 d4
        have HSt : Hid (leafG ⟨3, s, hi, t, lo, up, nn⟩ [] (es.take (i + 1)) = leafG ⟨3, s, hi, t, lo, up, nn⟩ [] (es.take i) ++ [⟨c.row, c.fam, c.qual, c.ts, c.kind, ⟨#[]⟩⟩]) := by
          show _ = _
          have hk : keepB ⟨3, s, hi, t, lo, up, nn⟩ (es.take i) c = true := by simp [keepB, tstB]
          rw [HStep.out, hk, if_pos rfl]
          rfl
        have d0 := HB3.out.2.1.cell (j := 0) rfl
        have d1 := HB3.out.2.1.cell (j := 1) rfl
        have d2 := HB3.out.2.1.cell (j := 2) rfl
        have d3 := HB3.out.2.1.cell (j := 3) rfl
        have d4 := HB3.out.2.1.cell (j := 4) rfl
        have HKm : Hid (m = (leafG ⟨3, s, hi, t, lo, up, nn⟩ [] (es.take i)).length) := HM.out
        go_wp2_with (at_builtin; refine wpList_append_cel _ rfl _ _ rfl w.heap.size g cp _ _ (leafG ⟨3, s, hi, t, lo, up, nn⟩ [] (es.take i)) ⟨c.row, c.fam, c.qual, c.ts, c.kind, ⟨#[]⟩⟩ rfl rfl HKm.out ?hO ?hc ?hl ?hb ?_)
        case hO => exact HB3.out.1.own.below ((Below.refl _ _).alloc (Nat.le_refl _) _) HB3.out.1.own.lt.2
        case hc => exact cel_new W3 ⟨c.row, c.fam, c.qual, c.ts, c.kind, ⟨#[]⟩⟩
        case hl => rw [← HKm.out]; omega
        case hb => have := HB3.out.1.below.size; simp; omega
        intro g' cp' w' hO' hgr
        have HN : Hid (m + 1 = (leafG ⟨3, s, hi, t, lo, up, nn⟩ [] (es.take (i + 1))).length ∧ LfJ w ⟨3, s, hi, t, lo, up, nn⟩ b off cap es g' cp' (leafG ⟨3, s, hi, t, lo, up, nn⟩ [] (es.take (i + 1))) w') := by
          rw [HSt.out]
          exact ⟨by rw [List.length_append, ← HKm.out]; rfl, (HB3.out.1.move ((Below.refl _ _).alloc (Nat.le_refl _) _)).push hO' hgr⟩
        clear hO' hgr d0 d1 d2 d3 d4
        go_wp2_with fail
        go_roundw
        case rel => exact ⟨i + 1, g', cp', m + 1, by omega, by go_num, rfl, HN.out⟩
        case measure => go_light; simp [intOf]; omega
      have b3 : (k == 3) = false := by rw [beq_eq_false_iff_ne]; exact h3
      have hst : Hid (stripE ⟨k, s, hi, t, lo, up, nn⟩ c = c) := by show stripE ⟨k, s, hi, t, lo, up, nn⟩ c = c; unfold stripE; rw [if_neg h3]
      have hkt : Hid (keepB ⟨k, s, hi, t, lo, up, nn⟩ (es.take i) c = tb) := by rw [HTb.out]; show keepB _ _ _ = _; simp only [keepB]; rw [if_neg h11, if_neg h12, if_neg h13]
      cases tb
      · have HSt : Hid (leafG ⟨k, s, hi, t, lo, up, nn⟩ [] (es.take (i + 1)) = leafG ⟨k, s, hi, t, lo, up, nn⟩ [] (es.take i)) := by
          show _ = _
          have hk : keepB ⟨k, s, hi, t, lo, up, nn⟩ (es.take i) c = false := by exact hkt.out
          rw [HStep.out, hk, if_neg (by decide), List.append_nil]
        have HN : Hid (m = (leafG ⟨k, s, hi, t, lo, up, nn⟩ [] (es.take (i + 1))).length ∧ LfJ w ⟨k, s, hi, t, lo, up, nn⟩ b off cap es g cp (leafG ⟨k, s, hi, t, lo, up, nn⟩ [] (es.take (i + 1))) w2) := by
          rw [HSt.out]
          exact ⟨HM.out, HB2.out.1⟩
        go_wp2_with fail
        go_roundw
        case rel => exact ⟨i + 1, g, cp, m, by omega, by go_num, rfl, HN.out⟩
        case measure => go_light; simp [intOf]; omega
      · have HSt : Hid (leafG ⟨k, s, hi, t, lo, up, nn⟩ [] (es.take (i + 1)) = leafG ⟨k, s, hi, t, lo, up, nn⟩ [] (es.take i) ++ [c]) := by
          show _ = _
          have hk : keepB ⟨k, s, hi, t, lo, up, nn⟩ (es.take i) c = true := by exact hkt.out
          rw [HStep.out, hk, if_pos rfl, hst.out]
        have d0 := HB2.out.2.1.cell (j := 0) rfl
        have d1 := HB2.out.2.1.cell (j := 1) rfl
        have d2 := HB2.out.2.1.cell (j := 2) rfl
        have d3 := HB2.out.2.1.cell (j := 3) rfl
        have d4 := HB2.out.2.1.cell (j := 4) rfl
        have HKm : Hid (m = (leafG ⟨k, s, hi, t, lo, up, nn⟩ [] (es.take i)).length) := HM.out
        go_wp2_with (at_builtin; refine wpList_append_cel _ rfl _ _ rfl w.heap.size g cp _ _ (leafG ⟨k, s, hi, t, lo, up, nn⟩ [] (es.take i)) c rfl rfl HKm.out ?hO ?hc ?hl ?hb ?_)
        case hO => exact HB2.out.1.own.below ((Below.refl _ _).alloc (Nat.le_refl _) _) HB2.out.1.own.lt.2
        case hc => exact cel_new w2 c
        case hl => rw [← HKm.out]; omega
        case hb => have := HB2.out.1.below.size; simp; omega
        intro g' cp' w' hO' hgr
        have HN : Hid (m + 1 = (leafG ⟨k, s, hi, t, lo, up, nn⟩ [] (es.take (i + 1))).length ∧ LfJ w ⟨k, s, hi, t, lo, up, nn⟩ b off cap es g' cp' (leafG ⟨k, s, hi, t, lo, up, nn⟩ [] (es.take (i + 1))) w') := by
          rw [HSt.out]
          exact ⟨by rw [List.length_append, ← HKm.out]; rfl, (HB2.out.1.move ((Below.refl _ _).alloc (Nat.le_refl _) _)).push hO' hgr⟩
        clear hO' hgr d0 d1 d2 d3 d4
        go_wp2_with fail
        go_roundw
        case rel => exact ⟨i + 1, g', cp', m + 1, by omega, by go_num, rfl, HN.out⟩
        case measure => go_light; simp [intOf]; omega
    · obtain rfl : i = N := by omega
      have zi : ¬ (i : Int) < (i : Int) := by omega
      go_wp2_with fail
      go_ret
      refine ⟨g, cp, ?_, ?_, HJ.out.2.below⟩
      · rw [HLM.out, ← HJ.out.1]; rfl
      · rw [HLM.out]; exact HJ.out.2.own
end Go.Proofs.YtkidabedcgngcaaGreatDoor

/-
  spec.BuildRun.
-/
namespace Go.Proofs.YtkidabedcgngcaaGreatDoor
open Go.ChangeShapes Go.WideShapes Go.ChangeAt Go.RowKit Go.Deep
set_option linter.unusedVariables false

theorem ent_new (wx : World) (f : Ent) : EntsAt (wx.alloc (Obj.cells #[.string f.row, .string f.fam, .string f.qual, .int .u64 f.ts, .int .i64 f.kind, .string f.val] 102)) wx.heap.size 0 [f] := by
  intro j y hy
  obtain rfl : j = 0 := by
    have := (List.getElem?_eq_some_iff.1 hy).1
    simpa using this
  simp at hy
  subst hy
  simp

theorem OwnE.setBelow {w : World} {base g cap : Nat} {es : List Ent} (h : OwnE w base g cap es) (a : Addr) (ha : a.block < base) (u : Value) : OwnE (w.setCell a u) base g cap es := ownsRow_setCell_below h ha u

/-- The deletes of the column among the first 'j'. -/
def LargestTo (ws : List Ent) (e : Ent) (j : Nat) : Prop := ∀ i v, i < j → ws[i]? = some v → v.kind = 2 → sameCol v e = true → v.ts ≤ e.ts
theorem largest_of_to {ws : List Ent} {e : Ent} {j : Nat} (h : LargestTo ws e j) (hj : ws.length ≤ j) : Largest ws e := by
  intro v hv h1 h2
  obtain ⟨i, hi⟩ := List.getElem?_of_mem hv
  exact h i v (by have := (List.getElem?_eq_some_iff.1 hi).1; omega) hi h1 h2
theorem largestTo_succ {ws : List Ent} {e v : Ent} {j : Nat} (h : LargestTo ws e j) (hv : ws[j]? = some v) (hk : v.kind = 2 → sameCol v e = true → v.ts ≤ e.ts) : LargestTo ws e (j + 1) := by
  intro i u hi hu h1 h2
  by_cases e1 : i = j
  · subst e1
    rw [hv] at hu
    simp at hu
    subst hu
    exact hk h1 h2
  · exact h i u (by omega) hu h1 h2
theorem largestTo_bad {ws : List Ent} {e v : Ent} {j k : Nat} (hv : ws[j]? = some v) (h1 : v.kind = 2) (h2 : sameCol v e = true) (h3 : ¬ v.ts ≤ e.ts) (hk : j < k) : ¬ LargestTo ws e k := fun h => h3 (h j v hk hv h1 h2)
theorem largestTo_mono {ws : List Ent} {e : Ent} {j k : Nat} (h : LargestTo ws e k) (hj : j ≤ k) : LargestTo ws e j := fun i v hi => h i v (by omega)

end Go.Proofs.YtkidabedcgngcaaGreatDoor

/-
  The maps of impl.gatherColumns: by column (a struct of three texts), and by timestamp.
-/
namespace Go.Proofs.YtkidabedcgngcaaGreatDoor
open Go.ChangeShapes Go.WideShapes Go.ChangeAt Go.RowKit Go.Deep Go.Maps
set_option linter.unusedVariables false
set_option maxRecDepth 100000

theorem mapLaid : laidOutB Tryz.prog = true := by kernel_rfl
theorem lawTs : Keyed Tryz.prog 49 := int_keyed Tryz.underlying49

abbrev colV (r f q : ByteArray) : Value := .agg #[.string r, .string f, .string q]
/-- What a column reads as. -/
def colL (r f q : ByteArray) : Lit := .string (keyBytes [.string r.data.toList, .string f.data.toList, .string q.data.toList])
theorem keyTs {t : Int} (h : (Lit.int .u64 t).wf = true) : keyOf Tryz.prog 49 (.int .u64 t) = some (.int .u64 t) := keyOf_int_mk Tryz.underlying49 h

/-- An element reads as its own value. -/
def Rh : Value → Option (DataW Value × List MemPlace) := fun v => some (.held v, [])
theorem Rh_eq {v : Value} {x : DataW Value} {ps : List MemPlace} (h : Rh v = some (x, ps)) : x = .held v ∧ ps = [] := by
  unfold Rh at h
  simp at h
  exact ⟨h.1.symm, h.2⟩

/-- Block 'b' is a map from timestamps to entries: the function 'f'. -/
def Inn (w : World) (b n : Nat) (f : Int → Option Ent) : Prop :=
  ∃ D, w.ownsMap Tryz.prog 49 Rh b n D ∧ ∀ t, (Lit.int .u64 t).wf = true → (f t = none ∧ Maps.has D (.int .u64 t) = false) ∨ ∃ e, f t = some e ∧ Maps.has D (.int .u64 t) = true ∧ ∀ z, D.atKey (.int .u64 t) z = .held e.v
theorem Inn.lt {w : World} {b n : Nat} {f : Int → Option Ent} (h : Inn w b n f) : b < w.heap.size := by
  obtain ⟨D, h, _⟩ := h
  exact h.lt
theorem Inn.kept {w w' : World} {b n : Nat} {f : Int → Option Ent} {row : Option Nat} (h : Inn w b n f) (hg : w.grownBy w' row) (hne : some b ≠ row) : Inn w' b n f := by
  obtain ⟨D, h, k⟩ := h
  exact ⟨D, h.kept hg hne, k⟩
theorem Inn.mono {w : World} {b n n' : Nat} {f : Int → Option Ent} (h : Inn w b n f) (hn : n ≤ n') : Inn w b n' f := by
  obtain ⟨D, h, k⟩ := h
  exact ⟨D, h.mono hn, k⟩
theorem Inn.setCell {w : World} {b n : Nat} {f : Int → Option Ent} (h : Inn w b n f) {a : Addr} (ha : b ≠ a.block) (u : Value) : Inn (w.setCell a u) b n f := by
  obtain ⟨D, h, k⟩ := h
  exact ⟨D, h.setCell ha u, k⟩
theorem grown_setNew {w w' : World} {row : Option Nat} (h : w.grownBy w' row) {a : Addr} (ha : w.heap.size ≤ a.block) (u : Value) : w.grownBy (w'.setCell a u) row := by
  have k := (Below.refl a.block w').setCell (Nat.le_refl _) (p := a) u
  exact ⟨k.os.trans h.os, k.tape.trans h.tape, k.output.trans h.output, Nat.le_trans h.size k.size, fun j hj hne => (Below.heap_setCell w' a u j (by omega)).trans (h.block j hj hne)⟩
theorem below4 (w : World) (a b c d : Obj) : Below w.heap.size w ((((w.alloc a).alloc b).alloc c).alloc d) := ((((Below.refl _ _).alloc (Nat.le_refl _) _).alloc (by simp) _).alloc (by simp; omega) _).alloc (by simp; omega) _
theorem Inn.made (w : World) : Inn (w.alloc (.map #[] 0)) w.heap.size 0 (fun _ => none) :=
  ⟨.map [], World.ownsMap_made w Tryz.prog 49 Rh, fun t _ => .inl ⟨rfl, rfl⟩⟩

theorem zeroE6 (w : World) : (zeroValue 102).run Tryz.prog w = .ok (.agg #[.string ⟨#[]⟩, .string ⟨#[]⟩, .string ⟨#[]⟩, .int .u64 0, .int .i64 0, .string ⟨#[]⟩]) w := by kernel_rfl
end Go.Proofs.YtkidabedcgngcaaGreatDoor

/-
  The columns of a list of writes: the model, and the map that holds them.
-/
namespace Go.Proofs.YtkidabedcgngcaaGreatDoor
open Go.ChangeShapes Go.WideShapes Go.ChangeAt Go.RowKit Go.Deep Go.Maps
set_option linter.unusedVariables false
set_option maxRecDepth 100000

/-- What a list of writes leaves of one column. -/
structure CW where
  d : Bool
  u : Int
  f : Int → Option Ent
def cw0 : CW := ⟨false, 0, fun _ => none⟩
def cwAdd (c : CW) (e : Ent) : CW :=
  if e.kind = 2 then ⟨true, max c.u e.ts, c.f⟩
  else if c.d = true ∧ e.ts ≤ c.u then c
  else ⟨c.d, c.u, fun t => if t = e.ts then (if (c.f t).isSome then c.f t else some e) else c.f t⟩
/-- A column's name. -/
abbrev Col := ByteArray × ByteArray × ByteArray
def Ent.wcol (e : Ent) : Col := (e.row, e.fam, e.qual)
def colsOf : List Ent → Col → Option CW
  | [], _ => none
  | w :: rest, c => if c = w.wcol then some (cwAdd ((colsOf rest c).getD cw0) w) else colsOf rest c

def Col.okc (c : Col) : Prop := c.1.size ≤ maxLen ∧ c.2.1.size ≤ maxLen ∧ c.2.2.size ≤ maxLen
abbrev Col.v (c : Col) : Value := colV c.1 c.2.1 c.2.2
def Col.l (c : Col) : Lit := colL c.1 c.2.1 c.2.2
/-- The inner map of a column. -/
def Inner (w : World) (base N : Nat) (m : Option Nat) (f : Int → Option Ent) : Prop :=
  (m = none ∧ f = fun _ => none) ∨ ∃ b n, m = some b ∧ Inn w b n f ∧ n ≤ N ∧ base ≤ b
theorem Inner.kept {w w' : World} {base N : Nat} {m : Option Nat} {f : Int → Option Ent} {row : Option Nat} (h : Inner w base N m f) (hg : w.grownBy w' row) (hne : m = none ∨ m ≠ row) : Inner w' base N m f := by
  rcases h with h | ⟨b, n, rfl, h, hn, hb⟩
  · exact .inl h
  · refine .inr ⟨b, n, rfl, h.kept hg ?_, hn, hb⟩
    rcases hne with e | e
    · cases e
    · exact e
theorem Inner.mono {w : World} {base N N' : Nat} {m : Option Nat} {f : Int → Option Ent} (h : Inner w base N m f) (hn : N ≤ N') : Inner w base N' m f := by
  rcases h with h | ⟨b, n, rfl, h, h1, hb⟩
  · exact .inl h
  · exact .inr ⟨b, n, rfl, h, by omega, hb⟩

end Go.Proofs.YtkidabedcgngcaaGreatDoor

/-
  impl.appendEntries: what a column leaves, appended.
-/
namespace Go.Proofs.YtkidabedcgngcaaGreatDoor
open Go.ChangeShapes Go.WideShapes Go.ChangeAt Go.RowKit Go.Deep Go.Maps
set_option linter.unusedVariables false
set_option maxRecDepth 100000

/-- One entry appended to a row of the call's own: and where the row then lies. -/
theorem wpList_append_entAt {ops : Array Oper} {rest : List Oper} {o : Oper} {a : Act} {Q : Exit → Act → World → Prop} (w : World) (hgd : o.guard = none) (s x : Operand)
    (ho : o.op = .call { callee := .builtin .append, args := #[s, x], argTypes := #[88, 88] })
    (base g cp n blk : Nat) (fs : List Ent) (e : Ent) (hs : a.eval s = .slice (some ⟨g, 0, none⟩) n cp) (hx : a.eval x = .slice (some ⟨blk, 0, none⟩) 1 1) (hn : n = fs.length) (hO : OwnE w base g cp fs)
    (hc : EntsAt w blk 0 [e]) (hlen : fs.length ≤ 2 ^ 30) (hbase : base ≤ w.heap.size)
    (h : ∀ g' cp' w', OwnE w' base g' cp' (fs ++ [e]) → w.grownBy w' (some g) → (g' = g ∨ g' = w.heap.size) → wpList Tryz.prog ops Q rest (a.put o.dst (.slice (some ⟨g', 0, none⟩) (n + 1) cp')) w') : wpList Tryz.prog ops Q (o :: rest) a w := by
  obtain ⟨i, hi, hz0, hz1, hz2⟩ := info_parts Tryz.infoEnt
  subst hn
  obtain ⟨c0, c1, c2, c3, c4, c5⟩ := hc 0 e rfl
  refine wpList_append_own_at w hgd s x 88 ho base 102 i _ 6 80 Tryz.underlying88 hi hz0 hz1 hz2 rfl (by decide) (.slice (some ⟨g, 0, none⟩) fs.length cp) fs.length (cellsE fs) hs hO ⟨blk, 0, none⟩ 1 1 (cellsE [e]) hx rfl ?_ ?_ ?_ ?_ hbase ?_
  · intro j u hu
    have hj : j < 6 := by
      have := (List.getElem?_eq_some_iff.1 hu).1
      rw [length_cellsE] at this
      simpa using this
    rw [Addr.add_mid, Nat.zero_add]
    simp only [Nat.zero_mul, Nat.zero_add] at c0 c1 c2 c3 c4 c5
    match j, hj, hu with
    | 0, _, hu => simp [cellsE] at hu; rw [← hu]; exact c0
    | 1, _, hu => simp [cellsE] at hu; rw [← hu]; exact c1
    | 2, _, hu => simp [cellsE] at hu; rw [← hu]; exact c2
    | 3, _, hu => simp [cellsE] at hu; rw [← hu]; exact c3
    | 4, _, hu => simp [cellsE] at hu; rw [← hu]; exact c4
    | 5, _, hu => simp [cellsE] at hu; rw [← hu]; exact c5
  · intro u hu
    simp [cellsE] at hu
    rcases hu with rfl | rfl | rfl | rfl | rfl | rfl <;> rfl
  · unfold maxLen; omega
  · omega
  · intro v' w' hown hgr hnil hloc
    rw [← cellsE_append] at hown
    have hlen' : (fs ++ [e]).length = fs.length + 1 := by simp
    rcases hown.2 with ⟨hv, _⟩ | ⟨g', cap', cur, hv, h1, h2, h3⟩
    · have := (hnil.1 hv).1
      simp at this
    · subst hv
      refine h g' cap' w' (by unfold OwnE; rw [hlen']; exact hown) hgr ?_
      rcases hloc with q | q
      · exact .inl (Option.some.inj q)
      · exact .inr (Option.some.inj q)

theorem OwnE.kept {w w' : World} {base g cp : Nat} {fs : List Ent} {row : Option Nat} (h : OwnE w base g cp fs) (hg : w.grownBy w' row) (hne : some g ≠ row) : OwnE w' base g cp fs :=
  World.ownsRow.kept h hg (.inr hne)
theorem OwnE.ne_map {w : World} {base g cp b : Nat} {fs : List Ent} {es : Array MapEntry} {ck : Nat} (h : OwnE w base g cp fs) (hb : w.heap[b]? = some (.map es ck)) : g ≠ b := by
  rcases h.2 with ⟨h0, _⟩ | ⟨g', cap', cur, hv, _, hc, _⟩
  · cases h0
  · simp only [Value.slice.injEq, Option.some.injEq, Addr.mk.injEq, and_true, true_and] at hv
    obtain ⟨rfl, rfl⟩ := hv
    intro q
    rw [q, hb] at hc
    cases hc

/-- The delete that a column's state tells. -/
def delE (c : Col) (u : Int) : Ent := ⟨c.1, c.2.1, c.2.2, u, 2, ⟨#[]⟩⟩
def del0 (d : Bool) (c : Col) (u : Int) : List Ent := if d = true then [delE c u] else []

/-- The entries that a map from timestamps holds. -/
def Holds6 (F : Int → Option Ent) (S : List Ent) : Prop := (∀ x, x ∈ S ↔ ∃ t, (Lit.int .u64 t).wf = true ∧ F t = some x) ∧ S.Nodup
def HoldsTo (F : Int → Option Ent) (left : Lit → Bool) (S : List Ent) : Prop := (∀ x, x ∈ S ↔ ∃ t, (Lit.int .u64 t).wf = true ∧ F t = some x ∧ left (.int .u64 t) = false) ∧ S.Nodup
theorem holdsTo_step {F : Int → Option Ent} {left : Lit → Bool} {S : List Ent} {t : Int} {e : Ent} (h : HoldsTo F left S) (hts : ∀ t e, F t = some e → e.ts = t) (hw : (Lit.int .u64 t).wf = true) (he : F t = some e) (hl : left (.int .u64 t) = true) :
    HoldsTo F (fun z => left z && !z.sameKey (.int .u64 t)) (S ++ [e]) := by
  have hkey : WideAt.IsKeyLit (.int .u64 t) := lawTs.key (keyTs hw)
  have hne : e ∉ S := fun hm => by
    obtain ⟨t', h1, h2, h3⟩ := (h.1 e).1 hm
    have : t' = t := (hts t' e h2).symm.trans (hts t e he)
    subst this
    rw [hl] at h3
    cases h3
  refine ⟨fun x => ?_, ?_⟩
  · rw [List.mem_append, h.1 x]
    constructor
    · rintro (⟨t', h1, h2, h3⟩ | hx)
      · exact ⟨t', h1, h2, by simp [h3]⟩
      · simp at hx
        subst hx
        exact ⟨t, hw, he, by simp [Lit.sameKey]⟩
    · rintro ⟨t', h1, h2, h3⟩
      by_cases q : t' = t
      · subst q
        rw [he] at h2
        simp at h2
        right; simp [h2]
      · left
        have hs : (Lit.int .u64 t').sameKey (.int .u64 t) = false := Maps.sameKey_ne (fun e => q (by injection e))
        refine ⟨t', h1, h2, ?_⟩
        simpa [hs] using h3
  · rw [List.nodup_append]
    exact ⟨h.2, by simp, fun a ha b hb => by simp at hb; subst hb; exact fun q => hne (q ▸ ha)⟩

end Go.Proofs.YtkidabedcgngcaaGreatDoor

