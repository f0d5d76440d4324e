import Derived.Maps.RangeWalk
import Derived.Maps.OwnSet
import Derived.Maps.OwnOps
import Derived.DeepKeys4
import Derived.Maps.AppendAt
import Derived.Laws.IdiomRangeMap
import Derived.Deep.RegionLaw
import Derived.Deep.AppendLies
import Derived.Test.YtkidabedcgngcaaGreatDoorPkAU
import Derived.Test.YtkidabedcgngcaaGreatDoorPkAH
import Derived.Test.YtkidabedcgngcaaGreatDoorPkAA
import Derived.Test.YtkidabedcgngcaaGreatDoorPkAG
/-
  spec.l5Leaf.
-/
namespace Go.Proofs.YtkidabedcgngcaaGreatDoor
open Go.ChangeShapes Go.WideShapes Go.ChangeAt Go.RowKit Go.Deep
set_option linter.unusedVariables false
set_option linter.unusedSimpArgs false
set_option maxRecDepth 100000

theorem leafG_append (n : Nd) : ∀ (a pre b : List Ent), leafG n pre (a ++ b) = leafG n pre a ++ leafG n (pre ++ a) b
  | [], pre, b => by simp [leafG]
  | c :: a, pre, b => by
    have ih := leafG_append n a (pre ++ [c]) b
    simp only [List.cons_append, leafG]
    split <;> simp [ih]
theorem leaf_step (n : Nd) {es : List Ent} {i : Nat} {c : Ent} (h : es[i]? = some c) : leafG n [] (es.take (i + 1)) = leafG n [] (es.take i) ++ (if keepB n (es.take i) c then [stripE n c] else []) := by
  rw [List.take_add_one, h, Option.toList_some, leafG_append]
  simp only [List.nil_append, leafG]
theorem leafG_len (n : Nd) : ∀ (a pre : List Ent), (leafG n pre a).length ≤ a.length
  | [], _ => Nat.le_refl _
  | c :: a, pre => by
    have := leafG_len n a (pre ++ [c])
    unfold leafG
    split <;> simp <;> omega

structure LfJ (w : World) (n : Nd) (b off cap : Nat) (es : List Ent) (g cp : Nat) (L : List Ent) (wr : World) : Prop where
  own : OwnC wr w.heap.size g cp L
  box : BoxAt wr w.heap.size 75 7 w.heap.size n.seven
  row : CSl wr b off cap es
  low : b < w.heap.size
  below : Below w.heap.size w wr
theorem LfJ.move {w : World} {n : Nd} {b off cap : Nat} {es : List Ent} {g cp : Nat} {L : List Ent} {wr w' : World} (h : LfJ w n b off cap es g cp L wr) (hb : Below wr.heap.size wr w') : LfJ w n b off cap es g cp L w' :=
  ⟨h.own.below hb h.own.lt.2, h.box.below hb, h.row.below hb, h.low, h.below.trans (hb.mono h.below.size)⟩
theorem LfJ.push {w : World} {n : Nd} {b off cap : Nat} {es : List Ent} {g cp g' cp' : Nat} {L L' : List Ent} {X w' : World} (h : LfJ w n b off cap es g cp L X) (hO : OwnC w' w.heap.size g' cp' L') (hg : X.grownBy w' (some g)) : LfJ w n b off cap es g' cp' L' w' := by
  have hc : Chg (fun k => k = g) X w' := Chg.of_grown hg (fun k q => by cases q; rfl)
  have hgl := h.own.lt
  have hlo := h.low
  refine ⟨hO, h.box.chg hc (fun q => own_apart h.own h.box (by decide) g rfl (by rw [← q]; rfl)), h.row.chg hc (by omega), hlo, ?_⟩
  exact h.below.grown hg h.below.size (fun j hj => by cases hj; omega)
theorem LfJ.set {w : World} {n : Nd} {b off cap : Nat} {es : List Ent} {g cp : Nat} {L : List Ent} {X : World} (h : LfJ w n b off cap es g cp L X) {k : Nat} (hk : w.heap.size < k) (hg : ¬ g = k) (j : Nat) (u : Value) : LfJ w n b off cap es g cp L (X.setCell ⟨k, j, none⟩ u) := by
  have hc : Chg (fun q => q = k) X (X.setCell ⟨k, j, none⟩ u) := Chg.of_set _ _ _ _ rfl
  have hlo := h.low
  have hs := h.below.size
  exact ⟨own_chg h.own hc (fun q z => by simp [Value.ownBlock] at z; subst z; exact hg), h.box.chg hc (by omega), h.row.chg hc (by omega), hlo, Chg.below h.below hc hs (fun q z => by omega)⟩

set_option maxHeartbeats 8000000 in
theorem l5Leaf_core (n : Nd) (hns : n.s.size ≤ maxLen) {w : World} {b off cap : Nat} {es : List Ent} (h : CSl w b off cap es) (hl : es.length ≤ 1048576) : Calls Tryz.prog 98 #[n.v, .slice (some ⟨b, off, none⟩) es.length cap] w fun e w' => ∃ g cp, e = .returned (.slice (some ⟨g, 0, none⟩) (leafM n es).length cp) ∧ OwnC w' w.heap.size g cp (leafM n es) ∧ Below w.heap.size w w' := by
  obtain ⟨N, hN⟩ : ∃ N, N = es.length := ⟨_, rfl⟩
  have HL : Hid (N = es.length) := hN
  have HLM : Hid (leafM n es = leafG n [] (es.take N)) := by show _ = _; rw [hN, List.take_length]; rfl
  have HTs : Hid (∀ (c : Ent) (w : World), Calls Tryz.prog 124 #[n.v, c.c] w fun e w' => e = .returned (.bool (tstB n c)) ∧ Below w.heap.size w w') := fun c w => l5Test_core n c w hns
  obtain ⟨W0, hW0⟩ : ∃ W0 : World, W0 = (w.alloc (.cells n.seven.toArray 75)).alloc (.cells #[] 55) := ⟨_, rfl⟩
  have HJ0 : Hid (LfJ w n b off cap es (w.heap.size + 1) 0 [] W0) := by
    have k1 : Below w.heap.size w (w.alloc (.cells n.seven.toArray 75)) := (Below.refl _ _).alloc (Nat.le_refl _) _
    have k2 : Below (w.alloc (.cells n.seven.toArray 75)).heap.size (w.alloc (.cells n.seven.toArray 75)) W0 := by rw [hW0]; exact (Below.refl _ _).alloc (Nat.le_refl _) _
    have k3 : Below w.heap.size w W0 := k1.trans (k2.mono k1.size)
    refine ⟨?_, (boxAt_new w _ (Nat.le_refl _) rfl).below k2, h.below k3, h.lt, k3⟩
    have := ownC_new (w.alloc (.cells n.seven.toArray 75))
    rw [hW0]
    have e : (w.alloc (.cells n.seven.toArray 75)).heap.size = w.heap.size + 1 := by simp
    rw [e] at this
    exact this.mono (by omega)
  rw [← hN]
  rw [← hN] at hl
  obtain ⟨k, s, hi, t, lo, up, nn⟩ := n
  clear h hns
  go_enter Tryz.func98, Tryz.ntmps98
  go_wp2_with fail
  have hW0' := hW0
  simp only [Nd.seven] at hW0'
  rw [← hW0']
  clear hW0 hW0' hN
  go_loopw [5, 6] (fun o iv wr => ∃ (i g cp m : Nat), i ≤ N ∧ iv = .int .i64 (i : Int) ∧ o = .slice (some ⟨g, 0, none⟩) m cp ∧ Hid (m = (leafG ⟨k, s, hi, t, lo, up, nn⟩ [] (es.take i)).length ∧ LfJ w ⟨k, s, hi, t, lo, up, nn⟩ b off cap es g cp (leafG ⟨k, s, hi, t, lo, up, nn⟩ [] (es.take i)) wr)) (fun _ iv _ => N - (intOf iv).toNat)
  case atStart => exact ⟨0, w.heap.size + 1, 0, 0, Nat.zero_le _, rfl, rfl, rfl, HJ0.out⟩
  case round =>
    obtain ⟨i, g, cp, m, hiN, rfl, rfl, HJ⟩ := hrel
    by_cases hlt : i < N
    · have zi : (i : Int) < (N : Int) := by omega
      obtain ⟨c, hc⟩ : ∃ c, es[i]? = some c := ⟨_, List.getElem?_eq_getElem (by have := HL.out; omega)⟩
      have HStep : Hid (leafG ⟨k, s, hi, t, lo, up, nn⟩ [] (es.take (i + 1)) = leafG ⟨k, s, hi, t, lo, up, nn⟩ [] (es.take i) ++ (if keepB ⟨k, s, hi, t, lo, up, nn⟩ (es.take i) c then [stripE ⟨k, s, hi, t, lo, up, nn⟩ c] else [])) := leaf_step _ hc
      have HC : Hid (es[i]? = some c) := hc
      have HMl : Hid (m = (leafG ⟨k, s, hi, t, lo, up, nn⟩ [] (es.take i)).length) := HJ.out.1
      have hml : m ≤ 1048576 := by
        rw [HJ.out.1]
        refine Nat.le_trans (leafG_len _ _ _) ?_
        rw [List.length_take]
        omega
      obtain ⟨c0, c1, c2, c3, c4⟩ := HJ.out.2.row.at_ i c hc
      obtain ⟨W1, hW1⟩ : ∃ W1 : World, W1 = wr.alloc (.cells #[.string c.row, .string c.fam, .string c.qual, .int .u64 c.ts, .string c.val] 55) := ⟨_, rfl⟩
      have hb1 : Below wr.heap.size wr W1 := by rw [hW1]; exact (Below.refl _ _).alloc (Nat.le_refl _) _
      obtain ⟨cb, hcb⟩ : ∃ cb, cb = wr.heap.size := ⟨_, rfl⟩
      have HB1 : Hid (LfJ w ⟨k, s, hi, t, lo, up, nn⟩ b off cap es g cp (leafG ⟨k, s, hi, t, lo, up, nn⟩ [] (es.take i)) W1 ∧ BoxAt W1 w.heap.size 55 5 cb c.five ∧ g < cb ∧ w.heap.size < cb) := by
        refine ⟨HJ.out.2.move hb1, ?_, by rw [hcb]; exact HJ.out.2.own.lt.2, by rw [hcb]; exact HJ.out.2.box.lt.2⟩
        rw [hW1, hcb]; exact boxAt_new wr #[.string c.row, .string c.fam, .string c.qual, .int .u64 c.ts, .string c.val] HJ.out.2.below.size rfl
      go_upto_region 6 with fail
      rw [← hW1, ← hcb]
      clear hW1 hcb hb1 c0 c1 c2 c3 c4 hc
      have n0 := HB1.out.1.box.cell (j := 0) rfl
      have n1 := HB1.out.1.box.cell (j := 1) rfl
      have n2 := HB1.out.1.box.cell (j := 2) rfl
      have n3 := HB1.out.1.box.cell (j := 3) rfl
      have n4 := HB1.out.1.box.cell (j := 4) rfl
      have n5 := HB1.out.1.box.cell (j := 5) rfl
      have n6 := HB1.out.1.box.cell (j := 6) rfl
      have c0 := HB1.out.2.1.cell (j := 0) rfl
      have c1 := HB1.out.2.1.cell (j := 1) rfl
      have c2 := HB1.out.2.1.cell (j := 2) rfl
      have c3 := HB1.out.2.1.cell (j := 3) rfl
      have c4 := HB1.out.2.1.cell (j := 4) rfl
      go_wp2_with fail
      refine (HTs.out c W1).mono ?_
      rintro e w2 ⟨rfl, hb2⟩
      have HB2 : Hid (LfJ w ⟨k, s, hi, t, lo, up, nn⟩ b off cap es g cp (leafG ⟨k, s, hi, t, lo, up, nn⟩ [] (es.take i)) w2 ∧ BoxAt w2 w.heap.size 55 5 cb c.five ∧ g < cb ∧ w.heap.size < cb) := ⟨HB1.out.1.move hb2, HB1.out.2.1.below hb2, HB1.out.2.2⟩
      clear n0 n1 n2 n3 n4 n5 n6 c0 c1 c2 c3 c4 hb2 HB1 HJ
      obtain ⟨tb, htb⟩ : ∃ tb, tb = tstB ⟨k, s, hi, t, lo, up, nn⟩ c := ⟨_, rfl⟩
      have HTb : Hid (tb = tstB ⟨k, s, hi, t, lo, up, nn⟩ c) := htb
      rw [← htb]
      clear htb
      have n0 := HB2.out.1.box.cell (j := 0) rfl
      have n6 := HB2.out.1.box.cell (j := 6) rfl
      dsimp only at n0 n6
      have HM : Hid (m = (leafG ⟨k, s, hi, t, lo, up, nn⟩ [] (es.take i)).length) := HMl.out
      by_cases h12 : k = 12
      · subst h12
        have hlenT : ((es.take i).length : Int) = (i : Int) := by rw [List.length_take]; have := HL.out; omega
        by_cases gq : (i : Int) < nn
        · have HSt : Hid (leafG ⟨12, s, hi, t, lo, up, nn⟩ [] (es.take (i + 1)) = leafG ⟨12, s, hi, t, lo, up, nn⟩ [] (es.take i) ++ [c]) := by
            show _ = _
            have hk : keepB ⟨12, s, hi, t, lo, up, nn⟩ (es.take i) c = true := by simp only [keepB, hlenT]; simp [gq]
            rw [HStep.out, hk, if_pos rfl]
            rfl
          clear hlenT
          have d0 := HB2.out.2.1.cell (j := 0) rfl
          have d1 := HB2.out.2.1.cell (j := 1) rfl
          have d2 := HB2.out.2.1.cell (j := 2) rfl
          have d3 := HB2.out.2.1.cell (j := 3) rfl
          have d4 := HB2.out.2.1.cell (j := 4) rfl
          have HKm : Hid (m = (leafG ⟨12, s, hi, t, lo, up, nn⟩ [] (es.take i)).length) := HM.out
          go_wp2_with (at_builtin; refine wpList_append_cel _ rfl _ _ rfl w.heap.size g cp _ _ (leafG ⟨12, s, hi, t, lo, up, nn⟩ [] (es.take i)) c rfl rfl HKm.out ?hO ?hc ?hl ?hb ?_)
          case hO => exact HB2.out.1.own.below ((Below.refl _ _).alloc (Nat.le_refl _) _) HB2.out.1.own.lt.2
          case hc => exact cel_new w2 c
          case hl => rw [← HKm.out]; omega
          case hb => have := HB2.out.1.below.size; simp; omega
          intro g' cp' w' hO' hgr
          have HN : Hid (m + 1 = (leafG ⟨12, s, hi, t, lo, up, nn⟩ [] (es.take (i + 1))).length ∧ LfJ w ⟨12, s, hi, t, lo, up, nn⟩ b off cap es g' cp' (leafG ⟨12, s, hi, t, lo, up, nn⟩ [] (es.take (i + 1))) w') := by
            rw [HSt.out]
            exact ⟨by rw [List.length_append, ← HKm.out]; rfl, (HB2.out.1.move ((Below.refl _ _).alloc (Nat.le_refl _) _)).push hO' hgr⟩
          clear hO' hgr d0 d1 d2 d3 d4
          go_wp2_with fail
          go_roundw
          case rel => exact ⟨i + 1, g', cp', m + 1, by omega, by go_num, rfl, HN.out⟩
          case measure => go_light; simp [intOf]; omega
        · have HSt : Hid (leafG ⟨12, s, hi, t, lo, up, nn⟩ [] (es.take (i + 1)) = leafG ⟨12, s, hi, t, lo, up, nn⟩ [] (es.take i)) := by
            show _ = _
            have hk : keepB ⟨12, s, hi, t, lo, up, nn⟩ (es.take i) c = false := by simp only [keepB, hlenT]; simp [gq]
            rw [HStep.out, hk, if_neg (by decide), List.append_nil]
          clear hlenT
          have HN : Hid (m = (leafG ⟨12, s, hi, t, lo, up, nn⟩ [] (es.take (i + 1))).length ∧ LfJ w ⟨12, s, hi, t, lo, up, nn⟩ b off cap es g cp (leafG ⟨12, s, hi, t, lo, up, nn⟩ [] (es.take (i + 1))) w2) := by
            rw [HSt.out]
            exact ⟨HM.out, HB2.out.1⟩
          go_wp2_with fail
          go_roundw
          case rel => exact ⟨i + 1, g, cp, m, by omega, by go_num, rfl, HN.out⟩
          case measure => go_light; simp [intOf]; omega
      have b12 : (k == 12) = false := by rw [beq_eq_false_iff_ne]; exact h12
      by_cases h13 : k = 13
      · subst h13
        have hlenT : ((es.take i).length : Int) = (i : Int) := by rw [List.length_take]; have := HL.out; omega
        by_cases gq : nn ≤ (i : Int)
        · have HSt : Hid (leafG ⟨13, s, hi, t, lo, up, nn⟩ [] (es.take (i + 1)) = leafG ⟨13, s, hi, t, lo, up, nn⟩ [] (es.take i) ++ [c]) := by
            show _ = _
            have hk : keepB ⟨13, s, hi, t, lo, up, nn⟩ (es.take i) c = true := by simp only [keepB, hlenT]; simp [gq]
            rw [HStep.out, hk, if_pos rfl]
            rfl
          clear hlenT
          have d0 := HB2.out.2.1.cell (j := 0) rfl
          have d1 := HB2.out.2.1.cell (j := 1) rfl
          have d2 := HB2.out.2.1.cell (j := 2) rfl
          have d3 := HB2.out.2.1.cell (j := 3) rfl
          have d4 := HB2.out.2.1.cell (j := 4) rfl
          have HKm : Hid (m = (leafG ⟨13, s, hi, t, lo, up, nn⟩ [] (es.take i)).length) := HM.out
          go_wp2_with (at_builtin; refine wpList_append_cel _ rfl _ _ rfl w.heap.size g cp _ _ (leafG ⟨13, s, hi, t, lo, up, nn⟩ [] (es.take i)) c rfl rfl HKm.out ?hO ?hc ?hl ?hb ?_)
          case hO => exact HB2.out.1.own.below ((Below.refl _ _).alloc (Nat.le_refl _) _) HB2.out.1.own.lt.2
          case hc => exact cel_new w2 c
          case hl => rw [← HKm.out]; omega
          case hb => have := HB2.out.1.below.size; simp; omega
          intro g' cp' w' hO' hgr
          have HN : Hid (m + 1 = (leafG ⟨13, s, hi, t, lo, up, nn⟩ [] (es.take (i + 1))).length ∧ LfJ w ⟨13, s, hi, t, lo, up, nn⟩ b off cap es g' cp' (leafG ⟨13, s, hi, t, lo, up, nn⟩ [] (es.take (i + 1))) w') := by
            rw [HSt.out]
            exact ⟨by rw [List.length_append, ← HKm.out]; rfl, (HB2.out.1.move ((Below.refl _ _).alloc (Nat.le_refl _) _)).push hO' hgr⟩
          clear hO' hgr d0 d1 d2 d3 d4
          go_wp2_with fail
          go_roundw
          case rel => exact ⟨i + 1, g', cp', m + 1, by omega, by go_num, rfl, HN.out⟩
          case measure => go_light; simp [intOf]; omega
        · have HSt : Hid (leafG ⟨13, s, hi, t, lo, up, nn⟩ [] (es.take (i + 1)) = leafG ⟨13, s, hi, t, lo, up, nn⟩ [] (es.take i)) := by
            show _ = _
            have hk : keepB ⟨13, s, hi, t, lo, up, nn⟩ (es.take i) c = false := by simp only [keepB, hlenT]; simp [gq]
            rw [HStep.out, hk, if_neg (by decide), List.append_nil]
          clear hlenT
          have HN : Hid (m = (leafG ⟨13, s, hi, t, lo, up, nn⟩ [] (es.take (i + 1))).length ∧ LfJ w ⟨13, s, hi, t, lo, up, nn⟩ b off cap es g cp (leafG ⟨13, s, hi, t, lo, up, nn⟩ [] (es.take (i + 1))) w2) := by
            rw [HSt.out]
            exact ⟨HM.out, HB2.out.1⟩
          go_wp2_with fail
          go_roundw
          case rel => exact ⟨i + 1, g, cp, m, by omega, by go_num, rfl, HN.out⟩
          case measure => go_light; simp [intOf]; omega
      have b13 : (k == 13) = false := by rw [beq_eq_false_iff_ne]; exact h13
      by_cases h11 : k = 11
      · subst h11
        have hS0 : (fun w' : World => w'.cell? ⟨w.heap.size, 6, none⟩ = some (.int .i64 nn)) w2.drew := n6
        have HBf : Hid (Calls Tryz.prog 125 #[.slice (some ⟨b, off, none⟩) N cap, .int .i64 (i : Int)] w2.drew fun e w' => e = .returned (.int .i64 (befN (es.take i) c : Int)) ∧ Below w2.drew.heap.size w2.drew w') := by
          rw [HL.out]
          exact before_core ((HB2.out.1.row).below ((Below.refl _ _).drew)) HC.out (by rw [← HL.out]; exact hl)
        obtain ⟨bf, hbf⟩ : ∃ bf, bf = befN (es.take i) c := ⟨_, rfl⟩
        have HBn : Hid (bf = befN (es.take i) c) := hbf
        rw [← hbf] at HBf
        clear hbf
        go_upto_region 8 with fail
        refine wp_region_T 99 (fun w' : World => w'.cell? ⟨w.heap.size, 6, none⟩ = some (.int .i64 nn)) (by kernel_rfl) ?_
        refine anyT_takeN (i := 0) (v := ?vle0) rfl (by kernel_rfl) (by kernel_rfl) (by kernel_rfl) (by rfl) (fun _ _ _ h => h) (Or.inl ⟨by rfl, ?yle0⟩) hS0 ?_
        case yle0 => (intro wz hSw; obtain hz0 := hSw; go_simp; (try with_reducible rfl))
        try simp only [Act.put, List.getElem_toArray, List.getElem_cons_zero, List.getElem_cons_succ, List.setIfInBounds_toArray, List.set_cons_zero, List.set_cons_succ]
        refine anyT_takeN (i := 1) (v := ?vle1) rfl (by kernel_rfl) (by kernel_rfl) (by kernel_rfl) (by rfl) (fun _ _ _ h => h) (Or.inl ⟨by rfl, ?yle1⟩) hS0 ?_
        case yle1 => (intro wz hSw; obtain hz0 := hSw; go_simp; (try with_reducible rfl))
        try simp only [Act.put, List.getElem_toArray, List.getElem_cons_zero, List.getElem_cons_succ, List.setIfInBounds_toArray, List.set_cons_zero, List.set_cons_succ]
        refine anyT_takeN (i := 3) (v := ?vle3) rfl (by kernel_rfl) (by kernel_rfl) (by kernel_rfl) (by rfl) (fun _ _ _ h => h) (Or.inl ⟨by rfl, ?yle3⟩) hS0 ?_
        case yle3 => (intro wz hSw; obtain hz0 := hSw; go_simp; (try with_reducible rfl))
        try simp only [Act.put, List.getElem_toArray, List.getElem_cons_zero, List.getElem_cons_succ, List.setIfInBounds_toArray, List.set_cons_zero, List.set_cons_succ]
        refine anyT_takeN (i := 4) (v := ?vle4) rfl (by kernel_rfl) (by kernel_rfl) (by kernel_rfl) (by rfl) (fun _ _ _ h => h) (Or.inl ⟨by rfl, ?yle4⟩) hS0 ?_
        case yle4 => (intro wz hSw; obtain hz0 := hSw; go_simp; (try with_reducible rfl))
        try simp only [Act.put, List.getElem_toArray, List.getElem_cons_zero, List.getElem_cons_succ, List.setIfInBounds_toArray, List.set_cons_zero, List.set_cons_succ]
        refine anyT_one (i := 2) (by kernel_rfl) rfl (fun K hK => ?_)
        go_simp
        go_at_call 125
        refine HBf.out.mono ?_
        rintro e w3 ⟨rfl, hb3⟩
        have hb3' : Below w2.heap.size w2 w3 := ((Below.refl _ _).drew).trans hb3
        have HB3 : Hid (LfJ w ⟨11, s, hi, t, lo, up, nn⟩ b off cap es g cp (leafG ⟨11, s, hi, t, lo, up, nn⟩ [] (es.take i)) w3 ∧ BoxAt w3 w.heap.size 55 5 cb c.five ∧ g < cb ∧ w.heap.size < cb) := ⟨HB2.out.1.move hb3', HB2.out.2.1.below hb3', HB2.out.2.2⟩
        have hS3 : (fun w' : World => w'.cell? ⟨w.heap.size, 6, none⟩ = some (.int .i64 nn)) w3 := HB3.out.1.box.cell (j := 6) rfl
        clear hb3 hb3'
        refine hK.out _ _ (.inr hS3) ?_
        clear hK
        try simp only [Act.put, List.getElem_toArray, List.getElem_cons_zero, List.getElem_cons_succ, List.setIfInBounds_toArray, List.set_cons_zero, List.set_cons_succ]
        by_cases gq : (bf : Int) < nn
        · refine anyT_takeN (i := 5) (v := .bool true) rfl (by kernel_rfl) (by kernel_rfl) (by kernel_rfl) (by rfl) (fun _ _ _ h => h) (Or.inl ⟨by rfl, ?ylt5⟩) hS3 ?_
          case ylt5 => (intro wz hSw; obtain hz0 := hSw; go_simp; (try simp [gq]); (try with_reducible rfl))
          try simp only [Act.put, List.getElem_toArray, List.getElem_cons_zero, List.getElem_cons_succ, List.setIfInBounds_toArray, List.set_cons_zero, List.set_cons_succ]
          refine anyT_takeN (i := 6) (v := ?vlt6) rfl (by kernel_rfl) (by kernel_rfl) (by kernel_rfl) (by rfl) (fun _ _ _ h => h) (Or.inl ⟨by rfl, ?ylt6⟩) hS3 ?_
          case ylt6 => (intro wz hSw; obtain hz0 := hSw; go_simp; (try with_reducible rfl))
          try simp only [Act.put, List.getElem_toArray, List.getElem_cons_zero, List.getElem_cons_succ, List.setIfInBounds_toArray, List.set_cons_zero, List.set_cons_succ]
          refine anyT_done (by kernel_rfl) ?_
          have n0 := HB3.out.1.box.cell (j := 0) rfl
          dsimp only at n0
          have HSt : Hid (leafG ⟨11, s, hi, t, lo, up, nn⟩ [] (es.take (i + 1)) = leafG ⟨11, s, hi, t, lo, up, nn⟩ [] (es.take i) ++ [c]) := by
            show _ = _
            have hk : keepB ⟨11, s, hi, t, lo, up, nn⟩ (es.take i) c = true := by simp only [keepB, ← HBn.out]; simp [gq]
            rw [HStep.out, hk, if_pos rfl]
            rfl
          have d0 := HB3.out.2.1.cell (j := 0) rfl
          have d1 := HB3.out.2.1.cell (j := 1) rfl
          have d2 := HB3.out.2.1.cell (j := 2) rfl
          have d3 := HB3.out.2.1.cell (j := 3) rfl
          have d4 := HB3.out.2.1.cell (j := 4) rfl
          have HKm : Hid (m = (leafG ⟨11, s, hi, t, lo, up, nn⟩ [] (es.take i)).length) := HM.out
          go_wp2_with (at_builtin; refine wpList_append_cel _ rfl _ _ rfl w.heap.size g cp _ _ (leafG ⟨11, s, hi, t, lo, up, nn⟩ [] (es.take i)) c rfl rfl HKm.out ?hO ?hc ?hl ?hb ?_)
          case hO => exact HB3.out.1.own.below ((Below.refl _ _).alloc (Nat.le_refl _) _) HB3.out.1.own.lt.2
          case hc => exact cel_new w3 c
          case hl => rw [← HKm.out]; omega
          case hb => have := HB3.out.1.below.size; simp; omega
          intro g' cp' w' hO' hgr
          have HN : Hid (m + 1 = (leafG ⟨11, s, hi, t, lo, up, nn⟩ [] (es.take (i + 1))).length ∧ LfJ w ⟨11, s, hi, t, lo, up, nn⟩ b off cap es g' cp' (leafG ⟨11, s, hi, t, lo, up, nn⟩ [] (es.take (i + 1))) w') := by
            rw [HSt.out]
            exact ⟨by rw [List.length_append, ← HKm.out]; rfl, (HB3.out.1.move ((Below.refl _ _).alloc (Nat.le_refl _) _)).push hO' hgr⟩
          clear hO' hgr d0 d1 d2 d3 d4
          go_wp2_with fail
          go_roundw
          case rel => exact ⟨i + 1, g', cp', m + 1, by omega, by go_num, rfl, HN.out⟩
          case measure => go_light; simp [intOf]; omega
        · refine anyT_takeN (i := 5) (v := .bool false) rfl (by kernel_rfl) (by kernel_rfl) (by kernel_rfl) (by rfl) (fun _ _ _ h => h) (Or.inl ⟨by rfl, ?ylf5⟩) hS3 ?_
          case ylf5 => (intro wz hSw; obtain hz0 := hSw; go_simp; (try simp [gq]); (try with_reducible rfl))
          try simp only [Act.put, List.getElem_toArray, List.getElem_cons_zero, List.getElem_cons_succ, List.setIfInBounds_toArray, List.set_cons_zero, List.set_cons_succ]
          refine anyT_takeN (i := 6) (v := ?vlf6) rfl (by kernel_rfl) (by kernel_rfl) (by kernel_rfl) (by rfl) (fun _ _ _ h => h) (Or.inl ⟨by rfl, ?ylf6⟩) hS3 ?_
          case ylf6 => (intro wz hSw; obtain hz0 := hSw; go_simp; (try with_reducible rfl))
          try simp only [Act.put, List.getElem_toArray, List.getElem_cons_zero, List.getElem_cons_succ, List.setIfInBounds_toArray, List.set_cons_zero, List.set_cons_succ]
          refine anyT_done (by kernel_rfl) ?_
          have n0 := HB3.out.1.box.cell (j := 0) rfl
          dsimp only at n0
          have HSt : Hid (leafG ⟨11, s, hi, t, lo, up, nn⟩ [] (es.take (i + 1)) = leafG ⟨11, s, hi, t, lo, up, nn⟩ [] (es.take i)) := by
            show _ = _
            have hk : keepB ⟨11, s, hi, t, lo, up, nn⟩ (es.take i) c = false := by simp only [keepB, ← HBn.out]; simp [gq]
            rw [HStep.out, hk, if_neg (by decide), List.append_nil]
          have HN : Hid (m = (leafG ⟨11, s, hi, t, lo, up, nn⟩ [] (es.take (i + 1))).length ∧ LfJ w ⟨11, s, hi, t, lo, up, nn⟩ b off cap es g cp (leafG ⟨11, s, hi, t, lo, up, nn⟩ [] (es.take (i + 1))) w3) := by
            rw [HSt.out]
            exact ⟨HM.out, HB3.out.1⟩
          go_wp2_with fail
          go_roundw
          case rel => exact ⟨i + 1, g, cp, m, by omega, by go_num, rfl, HN.out⟩
          case measure => go_light; simp [intOf]; omega
      have b11 : (k == 11) = false := by rw [beq_eq_false_iff_ne]; exact h11
      by_cases h3 : k = 3
      · subst h3
        have htt : tb = true := HTb.out.trans (by simp [tstB])
        subst htt
        have f4 := HB2.out.2.1.frozen 4
        have d4 := HB2.out.2.1.cell (j := 4) rfl
        obtain ⟨W3, hW3⟩ : ∃ W3 : World, W3 = w2.setCell ⟨cb, 4, none⟩ (.string ⟨#[]⟩) := ⟨_, rfl⟩
        have HB3 : Hid (LfJ w ⟨3, s, hi, t, lo, up, nn⟩ b off cap es g cp (leafG ⟨3, s, hi, t, lo, up, nn⟩ [] (es.take i)) W3 ∧ BoxAt W3 w.heap.size 55 5 cb (⟨c.row, c.fam, c.qual, c.ts, c.kind, ⟨#[]⟩⟩ : Ent).five ∧ g < cb ∧ w.heap.size < cb) := by
          rw [hW3]
          exact ⟨HB2.out.1.set HB2.out.2.2.2 (by have := HB2.out.2.2.1; omega) 4 _, HB2.out.2.1.set 4 _, HB2.out.2.2⟩
        go_upto_region 15 with fail
        rw [← hW3]
        clear hW3 f4 d4
        have HSt : Hid (leafG ⟨3, s, hi, t, lo, up, nn⟩ [] (es.take (i + 1)) = leafG ⟨3, s, hi, t, lo, up, nn⟩ [] (es.take i) ++ [⟨c.row, c.fam, c.qual, c.ts, c.kind, ⟨#[]⟩⟩]) := by
          show _ = _
          have hk : keepB ⟨3, s, hi, t, lo, up, nn⟩ (es.take i) c = true := by simp [keepB, tstB]
          rw [HStep.out, hk, if_pos rfl]
          rfl
        have d0 := HB3.out.2.1.cell (j := 0) rfl
        have d1 := HB3.out.2.1.cell (j := 1) rfl
        have d2 := HB3.out.2.1.cell (j := 2) rfl
        have d3 := HB3.out.2.1.cell (j := 3) rfl
        have d4 := HB3.out.2.1.cell (j := 4) rfl
        have HKm : Hid (m = (leafG ⟨3, s, hi, t, lo, up, nn⟩ [] (es.take i)).length) := HM.out
        go_wp2_with (at_builtin; refine wpList_append_cel _ rfl _ _ rfl w.heap.size g cp _ _ (leafG ⟨3, s, hi, t, lo, up, nn⟩ [] (es.take i)) ⟨c.row, c.fam, c.qual, c.ts, c.kind, ⟨#[]⟩⟩ rfl rfl HKm.out ?hO ?hc ?hl ?hb ?_)
        case hO => exact HB3.out.1.own.below ((Below.refl _ _).alloc (Nat.le_refl _) _) HB3.out.1.own.lt.2
        case hc => exact cel_new W3 ⟨c.row, c.fam, c.qual, c.ts, c.kind, ⟨#[]⟩⟩
        case hl => rw [← HKm.out]; omega
        case hb => have := HB3.out.1.below.size; simp; omega
        intro g' cp' w' hO' hgr
        have HN : Hid (m + 1 = (leafG ⟨3, s, hi, t, lo, up, nn⟩ [] (es.take (i + 1))).length ∧ LfJ w ⟨3, s, hi, t, lo, up, nn⟩ b off cap es g' cp' (leafG ⟨3, s, hi, t, lo, up, nn⟩ [] (es.take (i + 1))) w') := by
          rw [HSt.out]
          exact ⟨by rw [List.length_append, ← HKm.out]; rfl, (HB3.out.1.move ((Below.refl _ _).alloc (Nat.le_refl _) _)).push hO' hgr⟩
        clear hO' hgr d0 d1 d2 d3 d4
        go_wp2_with fail
        go_roundw
        case rel => exact ⟨i + 1, g', cp', m + 1, by omega, by go_num, rfl, HN.out⟩
        case measure => go_light; simp [intOf]; omega
      have b3 : (k == 3) = false := by rw [beq_eq_false_iff_ne]; exact h3
      have hst : Hid (stripE ⟨k, s, hi, t, lo, up, nn⟩ c = c) := by show stripE ⟨k, s, hi, t, lo, up, nn⟩ c = c; unfold stripE; rw [if_neg h3]
      have hkt : Hid (keepB ⟨k, s, hi, t, lo, up, nn⟩ (es.take i) c = tb) := by rw [HTb.out]; show keepB _ _ _ = _; simp only [keepB]; rw [if_neg h11, if_neg h12, if_neg h13]
      cases tb
      · have HSt : Hid (leafG ⟨k, s, hi, t, lo, up, nn⟩ [] (es.take (i + 1)) = leafG ⟨k, s, hi, t, lo, up, nn⟩ [] (es.take i)) := by
          show _ = _
          have hk : keepB ⟨k, s, hi, t, lo, up, nn⟩ (es.take i) c = false := by exact hkt.out
          rw [HStep.out, hk, if_neg (by decide), List.append_nil]
        have HN : Hid (m = (leafG ⟨k, s, hi, t, lo, up, nn⟩ [] (es.take (i + 1))).length ∧ LfJ w ⟨k, s, hi, t, lo, up, nn⟩ b off cap es g cp (leafG ⟨k, s, hi, t, lo, up, nn⟩ [] (es.take (i + 1))) w2) := by
          rw [HSt.out]
          exact ⟨HM.out, HB2.out.1⟩
        go_wp2_with fail
        go_roundw
        case rel => exact ⟨i + 1, g, cp, m, by omega, by go_num, rfl, HN.out⟩
        case measure => go_light; simp [intOf]; omega
      · have HSt : Hid (leafG ⟨k, s, hi, t, lo, up, nn⟩ [] (es.take (i + 1)) = leafG ⟨k, s, hi, t, lo, up, nn⟩ [] (es.take i) ++ [c]) := by
          show _ = _
          have hk : keepB ⟨k, s, hi, t, lo, up, nn⟩ (es.take i) c = true := by exact hkt.out
          rw [HStep.out, hk, if_pos rfl, hst.out]
        have d0 := HB2.out.2.1.cell (j := 0) rfl
        have d1 := HB2.out.2.1.cell (j := 1) rfl
        have d2 := HB2.out.2.1.cell (j := 2) rfl
        have d3 := HB2.out.2.1.cell (j := 3) rfl
        have d4 := HB2.out.2.1.cell (j := 4) rfl
        have HKm : Hid (m = (leafG ⟨k, s, hi, t, lo, up, nn⟩ [] (es.take i)).length) := HM.out
        go_wp2_with (at_builtin; refine wpList_append_cel _ rfl _ _ rfl w.heap.size g cp _ _ (leafG ⟨k, s, hi, t, lo, up, nn⟩ [] (es.take i)) c rfl rfl HKm.out ?hO ?hc ?hl ?hb ?_)
        case hO => exact HB2.out.1.own.below ((Below.refl _ _).alloc (Nat.le_refl _) _) HB2.out.1.own.lt.2
        case hc => exact cel_new w2 c
        case hl => rw [← HKm.out]; omega
        case hb => have := HB2.out.1.below.size; simp; omega
        intro g' cp' w' hO' hgr
        have HN : Hid (m + 1 = (leafG ⟨k, s, hi, t, lo, up, nn⟩ [] (es.take (i + 1))).length ∧ LfJ w ⟨k, s, hi, t, lo, up, nn⟩ b off cap es g' cp' (leafG ⟨k, s, hi, t, lo, up, nn⟩ [] (es.take (i + 1))) w') := by
          rw [HSt.out]
          exact ⟨by rw [List.length_append, ← HKm.out]; rfl, (HB2.out.1.move ((Below.refl _ _).alloc (Nat.le_refl _) _)).push hO' hgr⟩
        clear hO' hgr d0 d1 d2 d3 d4
        go_wp2_with fail
        go_roundw
        case rel => exact ⟨i + 1, g', cp', m + 1, by omega, by go_num, rfl, HN.out⟩
        case measure => go_light; simp [intOf]; omega
    · obtain rfl : i = N := by omega
      have zi : ¬ (i : Int) < (i : Int) := by omega
      go_wp2_with fail
      go_ret
      refine ⟨g, cp, ?_, ?_, HJ.out.2.below⟩
      · rw [HLM.out, ← HJ.out.1]; rfl
      · rw [HLM.out]; exact HJ.out.2.own
end Go.Proofs.YtkidabedcgngcaaGreatDoor

/-
  The maps of impl.gatherColumns: by column (a struct of three texts), and by timestamp.
-/
namespace Go.Proofs.YtkidabedcgngcaaGreatDoor
open Go.ChangeShapes Go.WideShapes Go.ChangeAt Go.RowKit Go.Deep Go.Maps
set_option linter.unusedVariables false
set_option maxRecDepth 100000

theorem mapLaid : laidOutB Tryz.prog = true := by kernel_rfl
theorem lawTs : Keyed Tryz.prog 49 := int_keyed Tryz.underlying49

abbrev colV (r f q : ByteArray) : Value := .agg #[.string r, .string f, .string q]
/-- What a column reads as. -/
def colL (r f q : ByteArray) : Lit := .string (keyBytes [.string r.data.toList, .string f.data.toList, .string q.data.toList])
theorem keyTs {t : Int} (h : (Lit.int .u64 t).wf = true) : keyOf Tryz.prog 49 (.int .u64 t) = some (.int .u64 t) := keyOf_int_mk Tryz.underlying49 h

/-- An element reads as its own value. -/
def Rh : Value → Option (DataW Value × List MemPlace) := fun v => some (.held v, [])
theorem Rh_eq {v : Value} {x : DataW Value} {ps : List MemPlace} (h : Rh v = some (x, ps)) : x = .held v ∧ ps = [] := by
  unfold Rh at h
  simp at h
  exact ⟨h.1.symm, h.2⟩

/-- Block 'b' is a map from timestamps to entries: the function 'f'. -/
def Inn (w : World) (b n : Nat) (f : Int → Option Ent) : Prop :=
  ∃ D, w.ownsMap Tryz.prog 49 Rh b n D ∧ ∀ t, (Lit.int .u64 t).wf = true → (f t = none ∧ Maps.has D (.int .u64 t) = false) ∨ ∃ e, f t = some e ∧ Maps.has D (.int .u64 t) = true ∧ ∀ z, D.atKey (.int .u64 t) z = .held e.v
theorem Inn.lt {w : World} {b n : Nat} {f : Int → Option Ent} (h : Inn w b n f) : b < w.heap.size := by
  obtain ⟨D, h, _⟩ := h
  exact h.lt
theorem Inn.kept {w w' : World} {b n : Nat} {f : Int → Option Ent} {row : Option Nat} (h : Inn w b n f) (hg : w.grownBy w' row) (hne : some b ≠ row) : Inn w' b n f := by
  obtain ⟨D, h, k⟩ := h
  exact ⟨D, h.kept hg hne, k⟩
theorem Inn.mono {w : World} {b n n' : Nat} {f : Int → Option Ent} (h : Inn w b n f) (hn : n ≤ n') : Inn w b n' f := by
  obtain ⟨D, h, k⟩ := h
  exact ⟨D, h.mono hn, k⟩
theorem Inn.setCell {w : World} {b n : Nat} {f : Int → Option Ent} (h : Inn w b n f) {a : Addr} (ha : b ≠ a.block) (u : Value) : Inn (w.setCell a u) b n f := by
  obtain ⟨D, h, k⟩ := h
  exact ⟨D, h.setCell ha u, k⟩
theorem grown_setNew {w w' : World} {row : Option Nat} (h : w.grownBy w' row) {a : Addr} (ha : w.heap.size ≤ a.block) (u : Value) : w.grownBy (w'.setCell a u) row := by
  have k := (Below.refl a.block w').setCell (Nat.le_refl _) (p := a) u
  exact ⟨k.os.trans h.os, k.tape.trans h.tape, k.output.trans h.output, Nat.le_trans h.size k.size, fun j hj hne => (Below.heap_setCell w' a u j (by omega)).trans (h.block j hj hne)⟩
theorem below4 (w : World) (a b c d : Obj) : Below w.heap.size w ((((w.alloc a).alloc b).alloc c).alloc d) := ((((Below.refl _ _).alloc (Nat.le_refl _) _).alloc (by simp) _).alloc (by simp; omega) _).alloc (by simp; omega) _
theorem Inn.made (w : World) : Inn (w.alloc (.map #[] 0)) w.heap.size 0 (fun _ => none) :=
  ⟨.map [], World.ownsMap_made w Tryz.prog 49 Rh, fun t _ => .inl ⟨rfl, rfl⟩⟩

theorem zeroE6 (w : World) : (zeroValue 102).run Tryz.prog w = .ok (.agg #[.string ⟨#[]⟩, .string ⟨#[]⟩, .string ⟨#[]⟩, .int .u64 0, .int .i64 0, .string ⟨#[]⟩]) w := by kernel_rfl
end Go.Proofs.YtkidabedcgngcaaGreatDoor

/-
  The columns of a list of writes: the model, and the map that holds them.
-/
namespace Go.Proofs.YtkidabedcgngcaaGreatDoor
open Go.ChangeShapes Go.WideShapes Go.ChangeAt Go.RowKit Go.Deep Go.Maps
set_option linter.unusedVariables false
set_option maxRecDepth 100000

/-- What a list of writes leaves of one column. -/
structure CW where
  d : Bool
  u : Int
  f : Int → Option Ent
def cw0 : CW := ⟨false, 0, fun _ => none⟩
def cwAdd (c : CW) (e : Ent) : CW :=
  if e.kind = 2 then ⟨true, max c.u e.ts, c.f⟩
  else if c.d = true ∧ e.ts ≤ c.u then c
  else ⟨c.d, c.u, fun t => if t = e.ts then (if (c.f t).isSome then c.f t else some e) else c.f t⟩
/-- A column's name. -/
abbrev Col := ByteArray × ByteArray × ByteArray
def Ent.wcol (e : Ent) : Col := (e.row, e.fam, e.qual)
def colsOf : List Ent → Col → Option CW
  | [], _ => none
  | w :: rest, c => if c = w.wcol then some (cwAdd ((colsOf rest c).getD cw0) w) else colsOf rest c

def Col.okc (c : Col) : Prop := c.1.size ≤ maxLen ∧ c.2.1.size ≤ maxLen ∧ c.2.2.size ≤ maxLen
abbrev Col.v (c : Col) : Value := colV c.1 c.2.1 c.2.2
def Col.l (c : Col) : Lit := colL c.1 c.2.1 c.2.2
/-- The inner map of a column. -/
def Inner (w : World) (base N : Nat) (m : Option Nat) (f : Int → Option Ent) : Prop :=
  (m = none ∧ f = fun _ => none) ∨ ∃ b n, m = some b ∧ Inn w b n f ∧ n ≤ N ∧ base ≤ b
theorem Inner.kept {w w' : World} {base N : Nat} {m : Option Nat} {f : Int → Option Ent} {row : Option Nat} (h : Inner w base N m f) (hg : w.grownBy w' row) (hne : m = none ∨ m ≠ row) : Inner w' base N m f := by
  rcases h with h | ⟨b, n, rfl, h, hn, hb⟩
  · exact .inl h
  · refine .inr ⟨b, n, rfl, h.kept hg ?_, hn, hb⟩
    rcases hne with e | e
    · cases e
    · exact e
theorem Inner.mono {w : World} {base N N' : Nat} {m : Option Nat} {f : Int → Option Ent} (h : Inner w base N m f) (hn : N ≤ N') : Inner w base N' m f := by
  rcases h with h | ⟨b, n, rfl, h, h1, hb⟩
  · exact .inl h
  · exact .inr ⟨b, n, rfl, h, by omega, hb⟩

end Go.Proofs.YtkidabedcgngcaaGreatDoor

/-
  impl.appendEntries: what a column leaves, appended.
-/
namespace Go.Proofs.YtkidabedcgngcaaGreatDoor
open Go.ChangeShapes Go.WideShapes Go.ChangeAt Go.RowKit Go.Deep Go.Maps
set_option linter.unusedVariables false
set_option maxRecDepth 100000

/-- One entry appended to a row of the call's own: and where the row then lies. -/
theorem wpList_append_entAt {ops : Array Oper} {rest : List Oper} {o : Oper} {a : Act} {Q : Exit → Act → World → Prop} (w : World) (hgd : o.guard = none) (s x : Operand)
    (ho : o.op = .call { callee := .builtin .append, args := #[s, x], argTypes := #[88, 88] })
    (base g cp n blk : Nat) (fs : List Ent) (e : Ent) (hs : a.eval s = .slice (some ⟨g, 0, none⟩) n cp) (hx : a.eval x = .slice (some ⟨blk, 0, none⟩) 1 1) (hn : n = fs.length) (hO : OwnE w base g cp fs)
    (hc : EntsAt w blk 0 [e]) (hlen : fs.length ≤ 2 ^ 30) (hbase : base ≤ w.heap.size)
    (h : ∀ g' cp' w', OwnE w' base g' cp' (fs ++ [e]) → w.grownBy w' (some g) → (g' = g ∨ g' = w.heap.size) → wpList Tryz.prog ops Q rest (a.put o.dst (.slice (some ⟨g', 0, none⟩) (n + 1) cp')) w') : wpList Tryz.prog ops Q (o :: rest) a w := by
  obtain ⟨i, hi, hz0, hz1, hz2⟩ := info_parts Tryz.infoEnt
  subst hn
  obtain ⟨c0, c1, c2, c3, c4, c5⟩ := hc 0 e rfl
  refine wpList_append_own_at w hgd s x 88 ho base 102 i _ 6 80 Tryz.underlying88 hi hz0 hz1 hz2 rfl (by decide) (.slice (some ⟨g, 0, none⟩) fs.length cp) fs.length (cellsE fs) hs hO ⟨blk, 0, none⟩ 1 1 (cellsE [e]) hx rfl ?_ ?_ ?_ ?_ hbase ?_
  · intro j u hu
    have hj : j < 6 := by
      have := (List.getElem?_eq_some_iff.1 hu).1
      rw [length_cellsE] at this
      simpa using this
    rw [Addr.add_mid, Nat.zero_add]
    simp only [Nat.zero_mul, Nat.zero_add] at c0 c1 c2 c3 c4 c5
    match j, hj, hu with
    | 0, _, hu => simp [cellsE] at hu; rw [← hu]; exact c0
    | 1, _, hu => simp [cellsE] at hu; rw [← hu]; exact c1
    | 2, _, hu => simp [cellsE] at hu; rw [← hu]; exact c2
    | 3, _, hu => simp [cellsE] at hu; rw [← hu]; exact c3
    | 4, _, hu => simp [cellsE] at hu; rw [← hu]; exact c4
    | 5, _, hu => simp [cellsE] at hu; rw [← hu]; exact c5
  · intro u hu
    simp [cellsE] at hu
    rcases hu with rfl | rfl | rfl | rfl | rfl | rfl <;> rfl
  · unfold maxLen; omega
  · omega
  · intro v' w' hown hgr hnil hloc
    rw [← cellsE_append] at hown
    have hlen' : (fs ++ [e]).length = fs.length + 1 := by simp
    rcases hown.2 with ⟨hv, _⟩ | ⟨g', cap', cur, hv, h1, h2, h3⟩
    · have := (hnil.1 hv).1
      simp at this
    · subst hv
      refine h g' cap' w' (by unfold OwnE; rw [hlen']; exact hown) hgr ?_
      rcases hloc with q | q
      · exact .inl (Option.some.inj q)
      · exact .inr (Option.some.inj q)

theorem OwnE.kept {w w' : World} {base g cp : Nat} {fs : List Ent} {row : Option Nat} (h : OwnE w base g cp fs) (hg : w.grownBy w' row) (hne : some g ≠ row) : OwnE w' base g cp fs :=
  World.ownsRow.kept h hg (.inr hne)
theorem OwnE.ne_map {w : World} {base g cp b : Nat} {fs : List Ent} {es : Array MapEntry} {ck : Nat} (h : OwnE w base g cp fs) (hb : w.heap[b]? = some (.map es ck)) : g ≠ b := by
  rcases h.2 with ⟨h0, _⟩ | ⟨g', cap', cur, hv, _, hc, _⟩
  · cases h0
  · simp only [Value.slice.injEq, Option.some.injEq, Addr.mk.injEq, and_true, true_and] at hv
    obtain ⟨rfl, rfl⟩ := hv
    intro q
    rw [q, hb] at hc
    cases hc

/-- The delete that a column's state tells. -/
def delE (c : Col) (u : Int) : Ent := ⟨c.1, c.2.1, c.2.2, u, 2, ⟨#[]⟩⟩
def del0 (d : Bool) (c : Col) (u : Int) : List Ent := if d = true then [delE c u] else []

/-- The entries that a map from timestamps holds. -/
def Holds6 (F : Int → Option Ent) (S : List Ent) : Prop := (∀ x, x ∈ S ↔ ∃ t, (Lit.int .u64 t).wf = true ∧ F t = some x) ∧ S.Nodup
def HoldsTo (F : Int → Option Ent) (left : Lit → Bool) (S : List Ent) : Prop := (∀ x, x ∈ S ↔ ∃ t, (Lit.int .u64 t).wf = true ∧ F t = some x ∧ left (.int .u64 t) = false) ∧ S.Nodup
theorem holdsTo_step {F : Int → Option Ent} {left : Lit → Bool} {S : List Ent} {t : Int} {e : Ent} (h : HoldsTo F left S) (hts : ∀ t e, F t = some e → e.ts = t) (hw : (Lit.int .u64 t).wf = true) (he : F t = some e) (hl : left (.int .u64 t) = true) :
    HoldsTo F (fun z => left z && !z.sameKey (.int .u64 t)) (S ++ [e]) := by
  have hkey : WideAt.IsKeyLit (.int .u64 t) := lawTs.key (keyTs hw)
  have hne : e ∉ S := fun hm => by
    obtain ⟨t', h1, h2, h3⟩ := (h.1 e).1 hm
    have : t' = t := (hts t' e h2).symm.trans (hts t e he)
    subst this
    rw [hl] at h3
    cases h3
  refine ⟨fun x => ?_, ?_⟩
  · rw [List.mem_append, h.1 x]
    constructor
    · rintro (⟨t', h1, h2, h3⟩ | hx)
      · exact ⟨t', h1, h2, by simp [h3]⟩
      · simp at hx
        subst hx
        exact ⟨t, hw, he, by simp [Lit.sameKey]⟩
    · rintro ⟨t', h1, h2, h3⟩
      by_cases q : t' = t
      · subst q
        rw [he] at h2
        simp at h2
        right; simp [h2]
      · left
        have hs : (Lit.int .u64 t').sameKey (.int .u64 t) = false := Maps.sameKey_ne (fun e => q (by injection e))
        refine ⟨t', h1, h2, ?_⟩
        simpa [hs] using h3
  · rw [List.nodup_append]
    exact ⟨h.2, by simp, fun a ha b hb => by simp at hb; subst hb; exact fun q => hne (q ▸ ha)⟩

end Go.Proofs.YtkidabedcgngcaaGreatDoor

/-
  The put of a cell; spec.l3Puts.
-/
namespace Go.Proofs.YtkidabedcgngcaaGreatDoor
open Go.ChangeShapes Go.WideShapes Go.ChangeAt Go.RowKit Go.Deep
set_option linter.unusedVariables false
set_option linter.unusedSimpArgs false
set_option maxRecDepth 100000

theorem ent_boxP (w : World) (e : Ent) : EntsAt (w.alloc (Obj.cells #[.string e.row, .string e.fam, .string e.qual, .int .u64 e.ts, .int .i64 e.kind, .string e.val] 102)) w.heap.size 0 [e] := by
  intro j y hy
  obtain rfl : j = 0 := by
    have := (List.getElem?_eq_some_iff.1 hy).1
    simpa using this
  simp at hy
  subst hy
  simp
/-- The put of a cell. -/
def putE (x : Ent) : Ent := { x with kind := 0 }
set_option maxHeartbeats 400000 in
theorem specPut_any (e : Ent) (w : World) :
    Calls Tryz.prog 96 #[.agg #[.string e.row, .string e.fam, .string e.qual, .int .u64 e.ts, .string e.val]] w fun r w' => r = .returned (putE e).v ∧ Below w.heap.size w w' := by
  go_enter Tryz.func96, Tryz.ntmps96
  go_wp2
  refine bodyPost_ret (v := (putE e).v) (by simp [results, Tryz.results96, go_sem, putE]) rfl ⟨rfl, ?_⟩
  exact ((Below.refl _ _).alloc (Nat.le_refl _) _).alloc (by simp) _
set_option maxHeartbeats 400000 in
theorem implPut_any (e : Ent) (w : World) :
    Calls Tryz.prog 59 #[.agg #[.string e.row, .string e.fam, .string e.qual, .int .u64 e.ts, .string e.val]] w fun r w' => r = .returned (putE e).v ∧ Below w.heap.size w w' := by
  go_enter Tryz.func59, Tryz.ntmps59
  go_wp2
  refine bodyPost_ret (v := (putE e).v) (by simp [results, Tryz.results59, go_sem, putE]) rfl ⟨rfl, ?_⟩
  exact ((Below.refl _ _).alloc (Nat.le_refl _) _).alloc (by simp) _

/-- One entry appended, at a step of a region that draws. -/
theorem step_append_ent {ops : Array Oper} {o : Oper} {a : Act} {K : Act → World → Prop} {Q : Exit → Act → World → Prop} {E : Prop} (w : World) (hgd : o.guard = none) (s x : Operand)
    (ho : o.op = .call { callee := .builtin .append, args := #[s, x], argTypes := #[88, 88] })
    (base g cp n blk : Nat) (fs : List Ent) (e : Ent) (hn : n = fs.length) (hs : a.eval s = .slice (some ⟨g, 0, none⟩) n cp) (hx : a.eval x = .slice (some ⟨blk, 0, none⟩) 1 1) (hO : OwnE w base g cp fs)
    (hc : EntsAt w blk 0 [e]) (hlen : fs.length ≤ 2 ^ 30) (hbase : base ≤ w.heap.size)
    (h : ∀ g' cp' w', OwnE w' base g' cp' (fs ++ [e]) → w.grownBy w' (some g) → (g = g' ∨ g' = w.heap.size) → K (a.put o.dst (.slice (some ⟨g', 0, none⟩) (n + 1) cp')) w') : if Region.wanted o (yielded ops a.tmps) = true then Oper.wp Tryz.prog o a w K Q else E := by
  subst hn
  obtain ⟨i, hi, hz0, hz1, hz2⟩ := info_parts Tryz.infoEnt
  obtain ⟨c0, c1, c2, c3, c4, c5⟩ := hc 0 e rfl
  refine step_append_lies w hgd s x 88 ho base 102 i _ 6 80 Tryz.underlying88 hi hz0 hz1 hz2 rfl (by decide) (.slice (some ⟨g, 0, none⟩) fs.length cp) fs.length (cellsE fs) hs hO ⟨blk, 0, none⟩ 1 1 (cellsE [e]) hx rfl ?_ ?_ (by decide) ?_ ?_ hbase w.heap.size rfl ?_
  · intro j u hu
    have hj : j < 6 := by
      have := (List.getElem?_eq_some_iff.1 hu).1
      rw [length_cellsE] at this
      simpa using this
    rw [Addr.add_mid, Nat.zero_add]
    simp only [Nat.zero_mul, Nat.zero_add] at c0 c1 c2 c3 c4 c5
    match j, hj, hu with
    | 0, _, hu => simp [cellsE] at hu; rw [← hu]; exact c0
    | 1, _, hu => simp [cellsE] at hu; rw [← hu]; exact c1
    | 2, _, hu => simp [cellsE] at hu; rw [← hu]; exact c2
    | 3, _, hu => simp [cellsE] at hu; rw [← hu]; exact c3
    | 4, _, hu => simp [cellsE] at hu; rw [← hu]; exact c4
    | 5, _, hu => simp [cellsE] at hu; rw [← hu]; exact c5
  · intro u hu
    simp [cellsE] at hu
    rcases hu with rfl | rfl | rfl | rfl | rfl | rfl <;> rfl
  · unfold maxLen; omega
  · omega
  · intro g' cp' w' hO' hgr hat hlt
    refine h g' cp' w' ?_ hgr ?_
    · unfold OwnE
      rw [List.length_append, cellsE_append]
      exact hO'
    · rcases hat with q | q
      · exact .inl (by simpa [Value.ownBlock] using q)
      · exact .inr q
def putsTo (L : List Ent) (m : Nat) : List Ent := (L.take m).map putE
theorem putsTo_succ {L : List Ent} {m : Nat} {x : Ent} (h : L[m]? = some x) : putsTo L (m + 1) = putsTo L m ++ [putE x] := by
  unfold putsTo; rw [List.take_add_one, h]; simp
theorem putsTo_len {L : List Ent} {m : Nat} (h : m ≤ L.length) : (putsTo L m).length = m := by simp [putsTo]; omega
theorem putsTo_all {L : List Ent} {m : Nat} (h : L.length ≤ m) : putsTo L m = L.map putE := by unfold putsTo; rw [List.take_of_length_le h]

/-- How the putting stands. -/
structure PInv (w : World) (ov : Nat) (L : List Ent) (m g5 cp5 : Nat) (wr : World) : Prop where
  hdr : wr.cell? ⟨ov, 0, none⟩ = some (.slice (some ⟨g5, 0, none⟩) m cp5)
  free : wr.frozen? ⟨ov, 0, none⟩ = false
  lt : ov < wr.heap.size
  own : w.heap.size < ov
  row : OwnE wr w.heap.size g5 cp5 (putsTo L m)
  ne : ¬ g5 = ov
  new : w.heap.size < g5
  res : wr.cell? ⟨w.heap.size, 0, none⟩ = some (.slice none 0 0)
  rfree : wr.frozen? ⟨w.heap.size, 0, none⟩ = false
  below : Below w.heap.size w wr
theorem PInv.step {w : World} {ov : Nat} {L : List Ent} {m g5 cp5 : Nat} {wr w' : World} (h : PInv w ov L m g5 cp5 wr) (hb : Below wr.heap.size wr w') : PInv w ov L m g5 cp5 w' where
  hdr := by rw [hb.cell (p := ⟨ov, 0, none⟩) h.lt]; exact h.hdr
  free := by rw [hb.frozen (p := ⟨ov, 0, none⟩) h.lt]; exact h.free
  lt := by have := hb.size; have := h.lt; omega
  own := h.own
  row := h.row.below hb h.row.lt.2
  ne := h.ne
  new := h.new
  res := by rw [hb.cell (p := ⟨w.heap.size, 0, none⟩) (by have := h.own; have := h.lt; show w.heap.size < wr.heap.size; omega)]; exact h.res
  rfree := by rw [hb.frozen (p := ⟨w.heap.size, 0, none⟩) (by have := h.own; have := h.lt; show w.heap.size < wr.heap.size; omega)]; exact h.rfree
  below := h.below.trans (hb.mono h.below.size)
theorem PInv.push {w : World} {ov : Nat} {L : List Ent} {m g5 cp5 : Nat} {wA w7 : World} (h : PInv w ov L m g5 cp5 wA) {x : Ent} (hx : L[m]? = some x) {g7 cp7 : Nat} (hO : OwnE w7 w.heap.size g7 cp7 (putsTo L m ++ [putE x])) (hgr : wA.grownBy w7 (some g5)) (hgg : g5 = g7 ∨ g7 = wA.heap.size) :
    PInv w ov L (m + 1) g7 cp7 (w7.setCell ⟨ov, 0, none⟩ (.slice (some ⟨g7, 0, none⟩) (m + 1) cp7)) ∧ w7.cell? ⟨ov, 0, none⟩ = some (.slice (some ⟨g5, 0, none⟩) m cp5) ∧ w7.frozen? ⟨ov, 0, none⟩ = false := by
  have hc7 : Chg (fun k => k = g5) wA w7 := Chg.of_grown hgr (fun k hk => by cases hk; rfl)
  have hc8 : Chg (fun k => k = ov) w7 (w7.setCell ⟨ov, 0, none⟩ (.slice (some ⟨g7, 0, none⟩) (m + 1) cp7)) := Chg.of_set _ _ _ _ rfl
  have s7 := hc7.size
  have s8 := hc8.size
  have hl := h.lt
  have ho := h.own
  have hn := h.new
  have c7 : w7.cell? ⟨ov, 0, none⟩ = some (.slice (some ⟨g5, 0, none⟩) m cp5) := by rw [hc7.cell (p := ⟨ov, 0, none⟩) hl (fun q => h.ne q.symm)]; exact h.hdr
  have f7 : w7.frozen? ⟨ov, 0, none⟩ = false := by rw [hc7.frozen (p := ⟨ov, 0, none⟩) hl (fun q => h.ne q.symm)]; exact h.free
  have hne7 : ¬ g7 = ov := by
    rcases hgg with q | q
    · rw [← q]; exact h.ne
    · omega
  refine ⟨?_, c7, f7⟩
  exact {
    hdr := World.cell?_setCell_same _ _ _ c7
    free := by rw [World.frozen?_setCell]; exact f7
    lt := by omega
    own := ho
    row := by
      rw [putsTo_succ hx]
      exact World.ownsRow.kept hO (grown_set w7 ov 0 _) (.inr (fun q => hne7 (Option.some.inj q)))
    ne := hne7
    new := by
      rcases hgg with q | q
      · rw [← q]; exact hn
      · omega
    res := by
      rw [hc8.cell (p := ⟨w.heap.size, 0, none⟩) (by show w.heap.size < w7.heap.size; omega) (by show ¬ w.heap.size = ov; omega), hc7.cell (p := ⟨w.heap.size, 0, none⟩) (by show w.heap.size < wA.heap.size; omega) (by show ¬ w.heap.size = g5; omega)]
      exact h.res
    rfree := by
      rw [hc8.frozen (p := ⟨w.heap.size, 0, none⟩) (by show w.heap.size < w7.heap.size; omega) (by show ¬ w.heap.size = ov; omega), hc7.frozen (p := ⟨w.heap.size, 0, none⟩) (by show w.heap.size < wA.heap.size; omega) (by show ¬ w.heap.size = g5; omega)]
      exact h.rfree
    below := Chg.below (Chg.below h.below hc7 h.below.size (fun k q => by omega)) hc8 (by omega) (fun k q => by omega) }

set_option maxHeartbeats 4000000 in
theorem puts_core (g cap : Nat) (L : List Ent) (base : Nat) (w : World) (hC : OwnC w base g cap L) (hn : L.length ≤ 1048576) :
    Calls Tryz.prog 52 #[.slice (some ⟨g, 0, none⟩) L.length cap] w fun r w' =>
      ∃ g' cp, r = .returned (.agg #[.slice (some ⟨g', 0, none⟩) L.length cp]) ∧ OwnE w' w.heap.size g' cp (L.map putE) ∧ Below w.heap.size w w' := by
  have HC : Hid (OwnC w base g cap L) := hC
  have hgl := hC.lt.2
  clear hC
  obtain ⟨Wa, hWa⟩ : ∃ Wa : World, Wa = w.alloc (Obj.cells #[.slice none 0 0] 90) := ⟨_, rfl⟩
  have hba : Below w.heap.size w Wa := by rw [hWa]; exact (Below.refl _ _).alloc (Nat.le_refl _) _
  have hza : Wa.heap.size = w.heap.size + 1 := by rw [hWa]; simp
  obtain ⟨Wb, hWb⟩ : ∃ Wb : World, Wb = Wa.alloc (Obj.cells #[] 102) := ⟨_, rfl⟩
  have hbb : Below Wa.heap.size Wa Wb := by rw [hWb]; exact (Below.refl _ _).alloc (Nat.le_refl _) _
  have hzb : Wb.heap.size = w.heap.size + 1 + 1 := by rw [hWb]; simp [hza]
  obtain ⟨Wc, hWc⟩ : ∃ Wc : World, Wc = Wb.alloc (Obj.cells #[.slice (some ⟨w.heap.size + 1, 0, none⟩) 0 0] 90) := ⟨_, rfl⟩
  have hbc : Below Wb.heap.size Wb Wc := by rw [hWc]; exact (Below.refl _ _).alloc (Nat.le_refl _) _
  have hzc : Wc.heap.size = w.heap.size + 1 + 1 + 1 := by rw [hWc]; simp [hzb]
  have HP : Hid (PInv w (w.heap.size + 1 + 1) L 0 (w.heap.size + 1) 0 Wc) := by
    have k1 : Below Wa.heap.size Wa Wc := hbb.trans (hbc.mono (by omega))
    exact {
      hdr := by rw [hWc, ← hzb]; simp
      free := by
        rw [hWc, ← hzb]
        exact World.ownsRow.frozenAt (World.ownsRow_lit (base := 0) (e := 90) (size := 1) Wb #[.slice (some ⟨w.heap.size + 1, 0, none⟩) 0 0] 1 (Nat.zero_le _) (by decide) rfl) 0
      lt := by omega
      own := by omega
      row := by
        have h0 : OwnE Wb w.heap.size (w.heap.size + 1) 0 [] := by
          rw [hWb, ← hza]
          exact World.ownsRow_made Wa #[] 0 (by omega) (Nat.zero_le _) (by simp)
        exact h0.below hbc (by omega)
      ne := by omega
      new := by omega
      res := by
        rw [k1.cell (p := ⟨w.heap.size, 0, none⟩) (by show w.heap.size < Wa.heap.size; omega), hWa]; simp
      rfree := by
        rw [k1.frozen (p := ⟨w.heap.size, 0, none⟩) (by show w.heap.size < Wa.heap.size; omega), hWa]
        exact World.ownsRow.frozenAt (World.ownsRow_lit (base := 0) (e := 90) (size := 1) w #[.slice none 0 0] 1 (Nat.zero_le _) (by decide) rfl) 0
      below := hba.trans (k1.mono (by omega)) }
  go_enter Tryz.func52, Tryz.ntmps52
  go_wp2_with fail
  rw [← hWa, ← hWb, ← hWc]
  clear hWa hWb hWc hba hbb hbc
  generalize w.heap.size + 1 + 1 = ov at *
  generalize w.heap.size + 1 = g0 at *
  go_loopw [4] (fun i wr => ∃ (m g5 cp5 : Nat), m ≤ L.length ∧ i = .int .i64 m ∧ PInv w ov L m g5 cp5 wr) (fun i _ => L.length - (intOf i).toNat)
  case atStart => exact ⟨0, _, _, Nat.zero_le _, rfl, HP.out⟩
  case round =>
    obtain ⟨m, g5, cp5, hm, rfl, hI⟩ := hrel
    have HI : Hid (PInv w ov L m g5 cp5 wr) := hI
    have hbw := hI.below
    have hsw := hbw.size
    have h0 := hI.hdr
    have hf0 := hI.free
    have hgl5 := hI.row.lt.2
    have hlo := hI.lt
    clear hI HP
    by_cases hlt : m < L.length
    · obtain ⟨x, hx⟩ : ∃ x, L[m]? = some x := ⟨_, List.getElem?_eq_getElem hlt⟩
      obtain ⟨c0, c1, c2, c3, c4⟩ := (HC.out.below hbw hgl).at m x hx
      simp only [Nat.zero_add, Nat.zero_mul] at c0 c1 c2 c3 c4
      have HX : Hid (L[m]? = some x ∧ CelsAt wr g 0 L) := ⟨hx, (HC.out.below hbw hgl).at⟩
      have HTM : Hid (m = (putsTo L m).length) := (putsTo_len hm).symm
      have hpl : (putsTo L m).length ≤ 2 ^ 30 := by rw [← HTM.out]; omega
      clear hx
      have zm : (m : Int) < (L.length : Int) := by omega
      have ngo : g ≠ ov := by have := HI.out.own; omega
      have hgr0 : g < wr.heap.size := by omega
      go_upto_region 5 with fail
      go_region_law ((first
                | (go_simp; go_at_call 96; refine (specPut_any x _).mono ?_; rintro e' w6 ⟨rfl, hb6⟩; have hq6 : Below wr.heap.size wr w6 := ((Below.refl wr.heap.size wr).drew).trans hb6; have m6 := (HI.out.step hq6).hdr; have m6a : ∀ o, (w6.alloc o).cell? ⟨ov, 0, none⟩ = some (.slice (some ⟨g5, 0, none⟩) m cp5) := fun o => by { rw [((Below.refl w6.heap.size w6).alloc (Nat.le_refl _) o).cell (p := ⟨ov, 0, none⟩) (Nat.lt_of_lt_of_le hlo hq6.size)]; exact m6 })
                | (refine step_append_ent _ (by rfl) _ _ (by rfl) w.heap.size g5 cp5 m w6.heap.size (putsTo L m) (putE x) HTM.out (by rfl) (by rfl) ?hO ?hc hpl ?hb ?_
                   case hO => exact (HI.out.step hq6).row.below ((Below.refl _ _).alloc (Nat.le_refl _) _) (Nat.lt_of_lt_of_le hgl5 hq6.size)
                   case hc => exact ent_boxP w6 (putE x)
                   case hb => exact Nat.le_trans hsw (Nat.le_trans hq6.size (by simp))
                   intro g7 cp7 w7 hO7 hgr7 hgg7
                   have hpp := ((HI.out.step hq6).step ((Below.refl w6.heap.size w6).alloc (Nat.le_refl _) (Obj.cells #[.string (putE x).row, .string (putE x).fam, .string (putE x).qual, .int .u64 (putE x).ts, .int .i64 (putE x).kind, .string (putE x).val] 102))).push HX.out.1 hO7 hgr7 (by simpa using hgg7)
                   have fin7 : Hid (PInv w ov L (m + 1) g7 cp7 (w7.setCell ⟨ov, 0, none⟩ (.slice (some ⟨g7, 0, none⟩) (m + 1) cp7))) := hpp.1
                   have m7 := hpp.2.1
                   have f7 := hpp.2.2
                   clear hpp hO7 hgr7 hgg7)))
      all_goals go_wp2_with fail
      all_goals go_roundw
      all_goals first
        | exact ⟨m + 1, g7, cp7, by omega, by go_num, fin7.out⟩
        | (go_light; simp [intOf]; omega)
    · have hml : m = L.length := by omega
      have HF : Hid (OwnE wr w.heap.size g5 cp5 (L.map putE)) := by have := HI.out.row; rw [putsTo_all (by omega)] at this; exact this
      have r0 := HI.out.res
      have rf := HI.out.rfree
      have HM : Hid (m = L.length) := hml
      have zm : ¬ (m : Int) < (L.length : Int) := by omega
      have hnew := HI.out.new
      clear hml
      go_wp2_with fail
      refine bodyPost_ret (v := .agg #[.slice (some ⟨g5, 0, none⟩) m cp5]) (by simp [results, Tryz.results52, go_sem, World.cell?_setCell_same _ _ _ r0]) rfl ⟨g5, cp5, by rw [HM.out], ?_, ?_⟩
      · exact World.ownsRow.kept HF.out (grown_set wr w.heap.size 0 _) (.inr (fun q => by have h2 : g5 = w.heap.size := Option.some.inj q; omega))
      · exact hbw.setCell (Nat.le_refl _) _

end Go.Proofs.YtkidabedcgngcaaGreatDoor

/-
  spec.l5Union.
-/
namespace Go.Proofs.YtkidabedcgngcaaGreatDoor
open Go.ChangeShapes Go.WideShapes Go.ChangeAt Go.RowKit Go.Deep
set_option linter.unusedVariables false
set_option linter.unusedSimpArgs false
set_option maxRecDepth 100000

theorem fold_len : ∀ (a L : List Ent), (a.foldl into L).length ≤ L.length + a.length
  | [], L => Nat.le_refl _
  | e :: a, L => by
    have h1 := fold_len a (into L e)
    have h2 := length_into L e
    show (a.foldl into (into L e)).length ≤ _
    simp only [List.length_cons]
    omega
set_option maxHeartbeats 8000000 in
theorem l5Union_core {w : World} {ba oa ca bb ob cb : Nat} {la lb : List Ent} (ha : CSl w ba oa ca la) (hb : CSl w bb ob cb lb) (hka : ∀ x ∈ la, x.kind = 0) (hkb : ∀ x ∈ lb, x.kind = 0) (hla : la.length ≤ 100000) (hlb : lb.length ≤ 100000) : Calls Tryz.prog 97 #[.slice (some ⟨ba, oa, none⟩) la.length ca, .slice (some ⟨bb, ob, none⟩) lb.length cb] w fun e w' => ∃ g cp, e = .returned (.slice (some ⟨g, 0, none⟩) (uniM la lb).length cp) ∧ OwnC w' w.heap.size g cp (uniM la lb) ∧ Below w.heap.size w w' := by
  obtain ⟨NA, hNA⟩ : ∃ N, N = la.length := ⟨_, rfl⟩
  obtain ⟨NB, hNB⟩ : ∃ N, N = lb.length := ⟨_, rfl⟩
  have HN : Hid (NA = la.length ∧ NB = lb.length) := ⟨hNA, hNB⟩
  have HNA : Hid (NA = la.length) := hNA
  have HNB : Hid (NB = lb.length) := hNB
  have HR : Hid ((∀ wx, Below w.heap.size w wx → CSl wx ba oa ca la) ∧ (∀ wx, Below w.heap.size w wx → CSl wx bb ob cb lb)) := ⟨fun wx hx => ha.below hx, fun wx hx => hb.below hx⟩
  have HK : Hid ((∀ x ∈ la, x.kind = 0) ∧ (∀ x ∈ lb, x.kind = 0)) := ⟨hka, hkb⟩
  have HO0 : Hid (OwnE (w.alloc (Obj.cells #[] 102)) w.heap.size w.heap.size 0 [] ∧ Below w.heap.size w (w.alloc (Obj.cells #[] 102))) := ⟨World.ownsRow_made w #[] 0 (Nat.le_refl _) (Nat.zero_le _) (by simp), (Below.refl _ _).alloc (Nat.le_refl _) _⟩
  have HPre : Hid ((lb.foldl into []).length ≤ 100000) := by
    show _ ≤ _
    have := fold_len lb []
    simp only [List.length_nil] at this
    omega
  obtain ⟨U, hU⟩ : ∃ U, U = uniM la lb := ⟨_, rfl⟩
  have HU : Hid (U = uniM la lb) := hU
  rw [← hU]
  clear hU
  rw [← hNA, ← hNB]
  rw [← hNA] at hla
  rw [← hNB] at hlb
  clear ha hb hka hkb hNA hNB
  go_enter Tryz.func97, Tryz.ntmps97
  go_wp2_with fail
  go_loopw [5, 6] (fun o iv wr => ∃ (i g cp m : Nat), i ≤ NB ∧ iv = .int .i64 (i : Int) ∧ o = .slice (some ⟨g, 0, none⟩) m cp ∧ Hid (m = ((lb.take i).foldl into []).length ∧ OwnE wr w.heap.size g cp ((lb.take i).foldl into []) ∧ Below w.heap.size w wr)) (fun _ iv _ => NB - (intOf iv).toNat)
  case atStart => exact ⟨0, w.heap.size, 0, 0, Nat.zero_le _, rfl, rfl, rfl, HO0.out.1, HO0.out.2⟩
  case round =>
    obtain ⟨i, g, cp, m, hiN, rfl, rfl, HJ⟩ := hrel
    by_cases hlt : i < NB
    · have zi : (i : Int) < (NB : Int) := by omega
      obtain ⟨c, hc⟩ : ∃ c, lb[i]? = some c := ⟨_, List.getElem?_eq_getElem (by have := HNB.out; omega)⟩
      have hck : c.kind = 0 := HK.out.2 c (List.mem_of_getElem? hc)
      have HP : Hid (putE c = c) := by show putE c = c; cases c; simp only [putE] at *; subst hck; rfl
      have HStep : Hid ((lb.take (i + 1)).foldl into [] = into ((lb.take i).foldl into []) c) := by
        show _ = _
        rw [List.take_add_one, hc, Option.toList_some, List.foldl_append]
        rfl
      have hml : m ≤ 1048576 := by
        rw [HJ.out.1]
        have := fold_len (lb.take i) []
        rw [List.length_take] at this
        simp only [List.length_nil] at this
        omega
      obtain ⟨c0, c1, c2, c3, c4⟩ := (HR.out.2 _ HJ.out.2.2).at_ i c hc
      have HPt : Hid (∀ wx : World, Calls Tryz.prog 96 #[.agg #[.string c.row, .string c.fam, .string c.qual, .int .u64 c.ts, .string c.val]] wx fun r w' => r = .returned (.agg #[.string c.row, .string c.fam, .string c.qual, .int .u64 c.ts, .int .i64 c.kind, .string c.val]) ∧ Below wx.heap.size wx w') := fun wx => by
        have := specPut_any c wx
        rw [HP.out] at this
        exact this
      go_wp2_with fail
      refine (HPt.out _).mono ?_
      rintro e w2 ⟨rfl, hb2⟩
      have HI : Hid (Calls Tryz.prog 113 #[.slice (some ⟨g, 0, none⟩) m cp, .agg #[.string c.row, .string c.fam, .string c.qual, .int .u64 c.ts, .int .i64 c.kind, .string c.val]] w2 fun r w' => ∃ g cp, r = .returned (.slice (some ⟨g, 0, none⟩) ((lb.take (i + 1)).foldl into []).length cp) ∧ OwnE w' w.heap.size g cp ((lb.take (i + 1)).foldl into []) ∧ Below w.heap.size w w') := by
        have hO := HJ.out.2.1.below hb2 HJ.out.2.1.lt.2
        have h1 := into_core g 0 cp ((lb.take i).foldl into []) c w2 hO.at hO.lt.2 (by rw [← HJ.out.1]; omega)
        rw [HStep.out, HJ.out.1]
        refine h1.mono ?_
        rintro r w' ⟨g', cp', rfl, hO', hb'⟩
        have hz := HJ.out.2.2.size
        have hz2 := hb2.size
        exact ⟨g', cp', rfl, by
          rcases hO'.2 with ⟨q, _⟩ | ⟨g9, cap9, cur, hv, q1, q2⟩
          · cases q
          · exact ⟨hO'.1, .inr ⟨g9, cap9, cur, hv, by omega, q2⟩⟩, HJ.out.2.2.trans ((hb2.trans (hb'.mono hz2)).mono hz)⟩
      clear c0 c1 c2 c3 c4 hb2 hc hck
      go_wp2_with fail
      refine HI.out.mono ?_
      rintro e w3 ⟨g', cp', rfl, hO', hb3⟩
      have HJ2 : Hid (OwnE w3 w.heap.size g' cp' ((lb.take (i + 1)).foldl into []) ∧ Below w.heap.size w w3) := ⟨hO', hb3⟩
      clear hO' hb3 HI HPt
      go_wp2_with fail
      go_roundw
      case rel => exact ⟨i + 1, g', cp', _, by omega, by go_num, rfl, rfl, HJ2.out.1, HJ2.out.2⟩
      case measure => go_light; simp [intOf]; omega
    · obtain rfl : i = NB := by omega
      have zi : ¬ (i : Int) < (i : Int) := by omega
      have HJ1 : Hid (m = (lb.foldl into []).length ∧ OwnE wr w.heap.size g cp (lb.foldl into []) ∧ Below w.heap.size w wr) := by
        have := HJ.out
        rw [show lb.take i = lb by rw [HNB.out, List.take_length]] at this
        exact this
      clear HJ
      go_wp2_with fail
      go_loopw [5, 7] (fun o iv wr => ∃ (i g cp m : Nat), i ≤ NA ∧ iv = .int .i64 (i : Int) ∧ o = .slice (some ⟨g, 0, none⟩) m cp ∧ Hid (m = ((la.take i).foldl into (lb.foldl into [])).length ∧ OwnE wr w.heap.size g cp ((la.take i).foldl into (lb.foldl into [])) ∧ Below w.heap.size w wr)) (fun _ iv _ => NA - (intOf iv).toNat)
      case atStart => exact ⟨0, g, cp, m, Nat.zero_le _, rfl, rfl, HJ1.out.1, HJ1.out.2.1, HJ1.out.2.2⟩
      case round =>
        obtain ⟨i, g, cp, m, hiN, rfl, rfl, HJ⟩ := hrel
        by_cases hlt : i < NA
        · have zi : (i : Int) < (NA : Int) := by omega
          obtain ⟨c, hc⟩ : ∃ c, la[i]? = some c := ⟨_, List.getElem?_eq_getElem (by have := HNA.out; omega)⟩
          have hck : c.kind = 0 := HK.out.1 c (List.mem_of_getElem? hc)
          have HP : Hid (putE c = c) := by show putE c = c; cases c; simp only [putE] at *; subst hck; rfl
          have HStep : Hid ((la.take (i + 1)).foldl into (lb.foldl into []) = into ((la.take i).foldl into (lb.foldl into [])) c) := by
            show _ = _
            rw [List.take_add_one, hc, Option.toList_some, List.foldl_append]
            rfl
          have hml : m ≤ 1048576 := by
            rw [HJ.out.1]
            have := fold_len (la.take i) (lb.foldl into [])
            rw [List.length_take] at this
            have h0 := HPre.out
            omega
          obtain ⟨c0, c1, c2, c3, c4⟩ := (HR.out.1 _ HJ.out.2.2).at_ i c hc
          have HPt : Hid (∀ wx : World, Calls Tryz.prog 96 #[.agg #[.string c.row, .string c.fam, .string c.qual, .int .u64 c.ts, .string c.val]] wx fun r w' => r = .returned (.agg #[.string c.row, .string c.fam, .string c.qual, .int .u64 c.ts, .int .i64 c.kind, .string c.val]) ∧ Below wx.heap.size wx w') := fun wx => by
            have := specPut_any c wx
            rw [HP.out] at this
            exact this
          go_wp2_with fail
          refine (HPt.out _).mono ?_
          rintro e w2 ⟨rfl, hb2⟩
          have HI : Hid (Calls Tryz.prog 113 #[.slice (some ⟨g, 0, none⟩) m cp, .agg #[.string c.row, .string c.fam, .string c.qual, .int .u64 c.ts, .int .i64 c.kind, .string c.val]] w2 fun r w' => ∃ g cp, r = .returned (.slice (some ⟨g, 0, none⟩) ((la.take (i + 1)).foldl into (lb.foldl into [])).length cp) ∧ OwnE w' w.heap.size g cp ((la.take (i + 1)).foldl into (lb.foldl into [])) ∧ Below w.heap.size w w') := by
            have hO := HJ.out.2.1.below hb2 HJ.out.2.1.lt.2
            have h1 := into_core g 0 cp ((la.take i).foldl into (lb.foldl into [])) c w2 hO.at hO.lt.2 (by rw [← HJ.out.1]; omega)
            rw [HStep.out, HJ.out.1]
            refine h1.mono ?_
            rintro r w' ⟨g', cp', rfl, hO', hb'⟩
            have hz := HJ.out.2.2.size
            have hz2 := hb2.size
            exact ⟨g', cp', rfl, by
              rcases hO'.2 with ⟨q, _⟩ | ⟨g9, cap9, cur, hv, q1, q2⟩
              · cases q
              · exact ⟨hO'.1, .inr ⟨g9, cap9, cur, hv, by omega, q2⟩⟩, HJ.out.2.2.trans ((hb2.trans (hb'.mono hz2)).mono hz)⟩
          clear c0 c1 c2 c3 c4 hb2 hc hck
          go_wp2_with fail
          refine HI.out.mono ?_
          rintro e w3 ⟨g', cp', rfl, hO', hb3⟩
          have HJ2 : Hid (OwnE w3 w.heap.size g' cp' ((la.take (i + 1)).foldl into (lb.foldl into [])) ∧ Below w.heap.size w w3) := ⟨hO', hb3⟩
          clear hO' hb3 HI HPt
          go_wp2_with fail
          go_roundw
          case rel => exact ⟨i + 1, g', cp', _, by omega, by go_num, rfl, rfl, HJ2.out.1, HJ2.out.2⟩
          case measure => go_light; simp [intOf]; omega
        · obtain rfl : i = NA := by omega
          have zi : ¬ (i : Int) < (i : Int) := by omega
          have hUl : m ≤ 200000 := by
            rw [HJ.out.1]
            have := fold_len (la.take i) (lb.foldl into [])
            rw [List.length_take] at this
            have h0 := HPre.out
            omega
          obtain ⟨ob5, hob5⟩ : ∃ x, x = wr.heap.size := ⟨_, rfl⟩
          have HJ2 : Hid (m = U.length ∧ OwnE wr w.heap.size g cp U ∧ Below w.heap.size w wr) := by
            have := HJ.out
            rw [show la.take i = la by rw [HNA.out, List.take_length]] at this
            rw [HU.out]
            exact this
          clear HJ HJ1
          have HC0 : Hid (OwnC (wr.alloc (Obj.cells #[] 55)) w.heap.size wr.heap.size 0 [] ∧ Below wr.heap.size wr (wr.alloc (Obj.cells #[] 55))) := ⟨(ownC_new wr).mono HJ2.out.2.2.size, (Below.refl _ _).alloc (Nat.le_refl _) _⟩
          go_wp2_with fail
          go_loopw [8, 9] (fun o iv wx => ∃ (i g5 cp5 : Nat), i ≤ m ∧ iv = .int .i64 (i : Int) ∧ o = .slice (some ⟨g5, 0, none⟩) i cp5 ∧ Hid (i = (U.take i).length ∧ OwnC wx w.heap.size g5 cp5 (U.take i) ∧ OwnE wx w.heap.size g cp U ∧ Below w.heap.size w wx)) (fun _ iv _ => m - (intOf iv).toNat)
          case atStart => exact ⟨0, wr.heap.size, 0, Nat.zero_le _, rfl, rfl, rfl, HC0.out.1, HJ2.out.2.1.below HC0.out.2 HJ2.out.2.1.lt.2, HJ2.out.2.2.trans (HC0.out.2.mono HJ2.out.2.2.size)⟩
          case round =>
            obtain ⟨i, g5, cp5, him, rfl, rfl, HQ⟩ := hrel
            by_cases hlt2 : i < m
            · have zi2 : (i : Int) < (m : Int) := by omega
              obtain ⟨x, hx⟩ : ∃ x, U[i]? = some x := ⟨_, List.getElem?_eq_getElem (by have := HJ2.out.1; omega)⟩
              have HX : Hid (U.take (i + 1) = U.take i ++ [x]) := by show _ = _; rw [List.take_add_one, hx]; rfl
              obtain ⟨c0, c1, c2, c3, c4, c5⟩ := HQ.out.2.2.1.at i x hx
              simp only [Nat.zero_add] at c0 c1 c2 c3 c4 c5
              have hgl := HQ.out.2.2.1.lt
              have hg5 := HQ.out.2.1.lt
              have hbs := HQ.out.2.2.2.size
              have hne : ¬ g = g5 := fun q => own_apart HQ.out.2.1 HQ.out.2.2.1 (by decide) g5 rfl (by rw [← q]; rfl)
              have HSc : Hid (∀ wx, Calls Tryz.prog 114 #[.agg #[.string x.row, .string x.fam, .string x.qual, .int .u64 x.ts, .int .i64 x.kind, .string x.val]] wx fun r w' => r = .returned x.c ∧ Below wx.heap.size wx w') := fun wx => specCell_any x wx
              clear hx
              go_wp2_with fail
              refine (HSc.out _).mono ?_
              rintro e w3 ⟨rfl, hb3⟩
              have hs3 := hb3.size
              have HM3 : Hid (OwnC w3 w.heap.size g5 cp5 (U.take i) ∧ OwnE w3 w.heap.size g cp U ∧ Below w.heap.size w w3) := ⟨HQ.out.2.1.below hb3 hg5.2, HQ.out.2.2.1.below hb3 hgl.2, HQ.out.2.2.2.trans (hb3.mono hbs)⟩
              have HTM : Hid (i = (U.take i).length) := HQ.out.1
              clear c0 c1 c2 c3 c4 c5 hb3
              go_wp2_with (at_builtin; refine wpList_append_cel _ rfl _ _ rfl w.heap.size g5 cp5 _ _ (U.take i) x rfl rfl HTM.out ?hO ?hc ?hl ?hb ?_)
              case hO => exact HM3.out.1.below ((Below.refl _ _).alloc (Nat.le_refl _) _) (by omega)
              case hc => exact cel_new w3 x
              case hl => rw [← HTM.out]; omega
              case hb => simp; omega
              intro g' cp' w' hO' hgr
              have HN2 : Hid (i + 1 = (U.take (i + 1)).length ∧ OwnC w' w.heap.size g' cp' (U.take (i + 1)) ∧ OwnE w' w.heap.size g cp U ∧ Below w.heap.size w w') := by
                have hc' : Chg (fun k => k = g5) (w3.alloc (Obj.cells #[.string x.row, .string x.fam, .string x.qual, .int .u64 x.ts, .string x.val] 55)) w' := Chg.of_grown hgr (fun k q => by cases q; rfl)
                rw [HX.out]
                refine ⟨by rw [List.length_append, ← HTM.out]; rfl, hO', ?_, (HM3.out.2.2.alloc HM3.out.2.2.size _).grown hgr (by simp; omega) (fun j hj => by cases hj; omega)⟩
                exact own_chg (HM3.out.2.1.below ((Below.refl _ _).alloc (Nat.le_refl _) _) (by omega)) hc' (fun k q => by simp [Value.ownBlock] at q; subst q; exact hne)
              clear hO' hgr
              go_wp2_with fail
              go_roundw
              case rel => exact ⟨i + 1, g', cp', by omega, by go_num, rfl, HN2.out⟩
              case measure => go_light; simp [intOf]; omega
            · obtain rfl : i = m := by omega
              have zi2 : ¬ (i : Int) < (i : Int) := by omega
              have HT : Hid (U.take i = U) := by show U.take i = U; rw [HJ2.out.1, List.take_length]
              go_wp2_with fail
              go_ret
              refine ⟨g5, cp5, ?_, ?_, HQ.out.2.2.2⟩
              · rw [← HJ2.out.1]; rfl
              · have := HQ.out.2.1
                rw [HT.out] at this
                exact this
end Go.Proofs.YtkidabedcgngcaaGreatDoor

