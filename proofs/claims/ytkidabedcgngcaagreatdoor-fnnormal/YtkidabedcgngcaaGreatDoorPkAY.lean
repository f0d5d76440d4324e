import Derived.Test.YtkidabedcgngcaaGreatDoorPkAW
import Derived.Test.YtkidabedcgngcaaGreatDoorPkAV
import Derived.Test.YtkidabedcgngcaaGreatDoorPkAX
/-
  impl.firstVersions.
-/
namespace Go.Proofs.YtkidabedcgngcaaGreatDoor
open Go.ChangeShapes Go.WideShapes Go.ChangeAt Go.RowKit Go.Deep
set_option linter.unusedVariables false
set_option linter.unusedSimpArgs false
set_option maxRecDepth 100000

def SameRow (es : List Ent) : Prop := ∀ x ∈ es, ∀ y ∈ es, x.row = y.row
theorem Sub.sameRow {row l : List Ent} (h : Sub row l) (hr : SameRow row) : SameRow l := fun x hx y hy => by
  obtain ⟨u, hu, k1⟩ := h.key x hx
  obtain ⟨v, hv, k2⟩ := h.key y hy
  rw [(keyCmp_zero.1 k1).1, (keyCmp_zero.1 k2).1]
  exact hr u hu v hv
theorem colB_iff {a b : Ent} : colB a b = true ↔ a.fam = b.fam ∧ a.qual = b.qual := by
  unfold colB
  simp only [Bool.and_eq_true, beq_iff_eq]
  exact ⟨fun h => ⟨toList_inj h.1, toList_inj h.2⟩, fun h => ⟨by rw [h.1], by rw [h.2]⟩⟩
theorem firstOf_le {a b : Int} (h : firstOf a b = -1) (ha : a = -1 ∨ a = 0 ∨ a = 1) : a = -1 ∨ (a = 0 ∧ b = -1) := by
  unfold firstOf at h
  split at h
  · rename_i q; exact .inr ⟨q, h⟩
  · exact .inl h
/-- Between two cells of one column of a row stand only cells of it. -/
theorem col_between {x p c : Ent} (hr : x.row = p.row) (hr2 : p.row = c.row) (h1 : keyCmp x p = -1) (h2 : keyCmp p c = -1) (hc : colB x c = true) : colB p c = true := by
  obtain ⟨hf, hq⟩ := colB_iff.1 hc
  unfold keyCmp at h1 h2
  have z1 : cB x.row p.row = 0 := cB_zero.2 hr
  have z2 : cB p.row c.row = 0 := cB_zero.2 hr2
  rw [z1] at h1
  rw [z2] at h2
  have e1 : firstOf (cB x.fam p.fam) (firstOf (cB x.qual p.qual) (firstOf (kindCmp x.kind p.kind) (tsCmp x.ts p.ts))) = -1 := h1
  have e2 : firstOf (cB p.fam c.fam) (firstOf (cB p.qual c.qual) (firstOf (kindCmp p.kind c.kind) (tsCmp p.ts c.ts))) = -1 := h2
  rw [← hf, ← hq] at e2
  have nf := cB_neg x.fam p.fam
  have nq := cB_neg x.qual p.qual
  rcases firstOf_le e1 (cB_vals _ _) with a1 | ⟨a1, a2⟩
  · rcases firstOf_le e2 (cB_vals _ _) with b1 | ⟨b1, b2⟩ <;> omega
  · rcases firstOf_le e2 (cB_vals _ _) with b1 | ⟨b1, b2⟩
    · omega
    · rcases firstOf_le a2 (cB_vals _ _) with c1 | ⟨c1, c2⟩
      · rcases firstOf_le b2 (cB_vals _ _) with d1 | ⟨d1, d2⟩ <;> omega
      · rcases firstOf_le b2 (cB_vals _ _) with d1 | ⟨d1, d2⟩
        · omega
        · exact colB_iff.2 ⟨by rw [← hf]; exact (cB_zero.1 a1).symm, by rw [← hq]; exact (cB_zero.1 c1).symm⟩
theorem befN_congr {pre : List Ent} {p c : Ent} (h : colB p c = true) : befN pre c = befN pre p := by
  obtain ⟨h1, h2⟩ := colB_iff.1 h
  unfold befN colB
  rw [h1, h2]
theorem befN_none {es : List Ent} (ho : Ord es) (hr : SameRow es) {i : Nat} {p c : Ent} (hp : es[i]? = some p) (hc : es[i + 1]? = some c) (hn : colB p c = false) : befN (es.take (i + 1)) c = 0 := by
  unfold befN
  rw [List.countP_eq_zero]
  intro x hx hcx
  obtain ⟨k, hk⟩ := List.getElem?_of_mem hx
  rw [List.getElem?_take] at hk
  split at hk
  · rename_i hki
    by_cases he : k = i
    · subst he
      rw [hp] at hk
      cases hk
      rw [hn] at hcx
      cases hcx
    · have pw := fun (a b : Nat) (u v : Ent) (hab : a < b) (hu : es[a]? = some u) (hv : es[b]? = some v) => (show keyCmp u v = -1 from by
        obtain ⟨h1, e1⟩ := List.getElem?_eq_some_iff.1 hu
        obtain ⟨h2, e2⟩ := List.getElem?_eq_some_iff.1 hv
        have := List.pairwise_iff_getElem.1 ho a b h1 h2 hab
        rw [e1, e2] at this
        exact this)
      have := col_between (hr x (List.mem_of_getElem? hk) p (List.mem_of_getElem? hp)) (hr p (List.mem_of_getElem? hp) c (List.mem_of_getElem? hc)) (pw k i x p (by omega) hk hp) (pw i (i + 1) p c (by omega) hp hc) hcx
      rw [hn] at this
      cases this
  · cases hk
theorem befN_self {es : List Ent} {i : Nat} {c : Ent} (hc : es[i]? = some c) : befN (es.take (i + 1)) c = befN (es.take i) c + 1 := by
  rw [befN_succ hc, if_pos]
  exact colB_iff.2 ⟨rfl, rfl⟩
structure VsJ (w : World) (b off cap : Nat) (es : List Ent) (g cp : Nat) (L : List Ent) (wr : World) : Prop where
  own : OwnC wr w.heap.size g cp L
  row : CSl wr b off cap es
  low : b < w.heap.size
  below : Below w.heap.size w wr
theorem VsJ.move {w : World} {b off cap : Nat} {es : List Ent} {g cp : Nat} {L : List Ent} {wr w' : World} (h : VsJ w b off cap es g cp L wr) (hb : Below wr.heap.size wr w') : VsJ w b off cap es g cp L w' :=
  ⟨h.own.below hb h.own.lt.2, h.row.below hb, h.low, h.below.trans (hb.mono h.below.size)⟩
theorem VsJ.push {w : World} {b off cap : Nat} {es : List Ent} {g cp g' cp' : Nat} {L L' : List Ent} {X w' : World} (h : VsJ w b off cap es g cp L X) (hO : OwnC w' w.heap.size g' cp' L') (hg : X.grownBy w' (some g)) : VsJ w b off cap es g' cp' L' w' := by
  have hc : Chg (fun k => k = g) X w' := Chg.of_grown hg (fun k q => by cases q; rfl)
  have hgl := h.own.lt
  have hlo := h.low
  exact ⟨hO, h.row.chg hc (by omega), hlo, h.below.grown hg h.below.size (fun j hj => by cases hj; omega)⟩
/-- The count behind i cells. -/
def CntOf (es : List Ent) (i ct : Nat) : Prop := (i = 0 ∧ ct = 0) ∨ ∃ p, 0 < i ∧ es[i - 1]? = some p ∧ ct = befN (es.take i) p
set_option maxHeartbeats 8000000 in
theorem versions_core (n : Nd) (hk : n.kind = 11) (hn : 1 ≤ n.n ∧ n.n ≤ 1000) {w : World} {b off cap : Nat} {es : List Ent} (h : CSl w b off cap es) (ho : Ord es) (hr : SameRow es) (hl : es.length ≤ 10000) : Calls Tryz.prog 68 #[.slice (some ⟨b, off, none⟩) es.length cap, .int .i64 n.n] w fun e w' => ∃ g cp, e = .returned (.slice (some ⟨g, 0, none⟩) (leafM n es).length cp) ∧ OwnC w' w.heap.size g cp (leafM n es) ∧ Below w.heap.size w w' := by
  obtain ⟨N, hN⟩ : ∃ N, N = es.length := ⟨_, rfl⟩
  have HL : Hid (N = es.length ∧ Ord es ∧ SameRow es) := ⟨hN, ho, hr⟩
  have HLM : Hid (leafM n es = leafG n [] (es.take N)) := by show _ = _; rw [hN, List.take_length]; rfl
  have HKB : Hid (∀ (pre : List Ent) (c : Ent), keepB n pre c = decide ((befN pre c : Int) < n.n) ∧ stripE n c = c) := fun pre c => by
    unfold keepB stripE
    rw [if_pos hk, if_neg (by omega)]
    exact ⟨rfl, rfl⟩
  obtain ⟨M, hM⟩ : ∃ M, M = n.n := ⟨_, rfl⟩
  rw [← hM] at HKB hn ⊢
  have hn1 := hn.1
  have hn2 := hn.2
  obtain ⟨W0, hW0⟩ : ∃ W0 : World, W0 = w.alloc (.cells #[] 55) := ⟨_, rfl⟩
  have HJ0 : Hid (VsJ w b off cap es w.heap.size 0 [] W0) := by
    have k1 : Below w.heap.size w W0 := by rw [hW0]; exact (Below.refl _ _).alloc (Nat.le_refl _) _
    exact ⟨by rw [hW0]; exact ownC_new w, h.below k1, h.lt, k1⟩
  rw [← hN]
  rw [← hN] at hl
  clear h hN hk hM hn ho hr
  go_enter Tryz.func68, Tryz.ntmps68
  go_wp2_with fail
  rw [← hW0]
  clear hW0
  go_loopw [5, 6, 12] (fun o cv iv wr => ∃ (i g cp m ct : Nat), i ≤ N ∧ iv = .int .i64 (i : Int) ∧ o = .slice (some ⟨g, 0, none⟩) m cp ∧ cv = .int .i64 (ct : Int) ∧ ct ≤ i ∧ Hid (CntOf es i ct ∧ m = (leafG n [] (es.take i)).length ∧ VsJ w b off cap es g cp (leafG n [] (es.take i)) wr)) (fun _ _ iv _ => N - (intOf iv).toNat)
  case atStart => exact ⟨0, w.heap.size, 0, 0, 0, Nat.zero_le _, rfl, rfl, rfl, Nat.le_refl _, .inl ⟨rfl, rfl⟩, rfl, HJ0.out⟩
  case round =>
    obtain ⟨i, g, cp, m, ct, hiN, rfl, rfl, rfl, hcti, HJ⟩ := hrel
    by_cases hlt : i < N
    · have zi : (i : Int) < (N : Int) := by omega
      obtain ⟨c, hc⟩ : ∃ c, es[i]? = some c := ⟨_, List.getElem?_eq_getElem (by have := HL.out.1; omega)⟩
      obtain ⟨bf, hbf⟩ : ∃ bf, bf = befN (es.take i) c := ⟨_, rfl⟩
      have hbl : bf ≤ i := by
        rw [hbf]
        refine Nat.le_trans List.countP_le_length ?_
        rw [List.length_take]
        omega
      have HStep : Hid ((((bf : Int) < M) → leafG n [] (es.take (i + 1)) = leafG n [] (es.take i) ++ [c]) ∧ ((¬ (bf : Int) < M) → leafG n [] (es.take (i + 1)) = leafG n [] (es.take i))) := by
        have h1 := leaf_step n hc
        rw [(HKB.out (es.take i) c).1, (HKB.out (es.take i) c).2, ← hbf] at h1
        refine ⟨fun q => ?_, fun q => ?_⟩
        · rw [h1, if_pos (decide_eq_true q)]
        · rw [h1, if_neg (by rw [decide_eq_true_iff]; exact q), List.append_nil]
      have HCt : Hid (CntOf es (i + 1) (bf + 1)) := .inr ⟨c, by omega, by simpa using hc, by rw [hbf]; exact (befN_self hc).symm⟩
      have HM : Hid (m = (leafG n [] (es.take i)).length) := HJ.out.2.1
      have hml : m ≤ 10000 := by
        rw [HJ.out.2.1]
        refine Nat.le_trans (leafG_len _ _ _) ?_
        rw [List.length_take]
        omega
      have HBf : Hid (bf = befN (es.take i) c ∧ es[i]? = some c) := ⟨hbf, hc⟩
      obtain ⟨c0, c1, c2, c3, c4⟩ := HJ.out.2.2.row.at_ i c hc
      obtain ⟨W1, hW1⟩ : ∃ W1 : World, W1 = wr.alloc (.cells #[.string c.row, .string c.fam, .string c.qual, .int .u64 c.ts, .string c.val] 55) := ⟨_, rfl⟩
      have hb1 : Below wr.heap.size wr W1 := by rw [hW1]; exact (Below.refl _ _).alloc (Nat.le_refl _) _
      obtain ⟨cb, hcb⟩ : ∃ cb, cb = wr.heap.size := ⟨_, rfl⟩
      have HB1 : Hid (VsJ w b off cap es g cp (leafG n [] (es.take i)) W1 ∧ BoxAt W1 w.heap.size 55 5 cb c.five) := by
        refine ⟨HJ.out.2.2.move hb1, ?_⟩
        rw [hW1, hcb]; exact boxAt_new wr #[.string c.row, .string c.fam, .string c.qual, .int .u64 c.ts, .string c.val] HJ.out.2.2.below.size rfl
      have HC0 : Hid (CntOf es i ct) := HJ.out.1
      go_upto_region 6 with fail
      rw [← hW1, ← hcb]
      clear hW1 hcb hb1 c0 c1 c2 c3 c4 hc hbf HJ
      have hd1 : Below W1.heap.size W1 W1.drew := (Below.refl _ _).drew
      have HB2 : Hid (VsJ w b off cap es g cp (leafG n [] (es.take i)) W1.drew ∧ BoxAt W1.drew w.heap.size 55 5 cb c.five) := ⟨HB1.out.1.move hd1, HB1.out.2.below hd1⟩
      by_cases hi0 : i = 0
      · have HI0 : Hid (i = 0) := hi0
        have hb0 : bf = 0 := by have h9 := HBf.out.1; rw [hi0, List.take_zero] at h9; exact h9
        subst hb0
        clear hi0
        have hS0 : (fun _ : World => True) W1.drew := trivial
        refine wp_region_T 99 (fun _ : World => True) (by kernel_rfl) ?_
        refine anyT_takeN (i := 0) (v := ?vva0) rfl (by kernel_rfl) (by kernel_rfl) (by kernel_rfl) (by rfl) (fun _ _ _ h => h) (Or.inl ⟨by rfl, ?yva0⟩) hS0 ?_
        case yva0 => (intro wz hSw; obtain _hz := hSw; go_simp; (try with_reducible rfl))
        try simp only [Act.put, List.getElem_toArray, List.getElem_cons_zero, List.getElem_cons_succ, List.setIfInBounds_toArray, List.set_cons_zero, List.set_cons_succ]
        refine anyT_takeN (i := 1) (v := .bool true) rfl (by kernel_rfl) (by kernel_rfl) (by kernel_rfl) (by rfl) (fun _ _ _ h => h) (Or.inl ⟨by rfl, ?yva1⟩) hS0 ?_
        case yva1 => (intro wz hSw; obtain _hz := hSw; go_simp; (try simp [HI0.out]); (try with_reducible rfl))
        try simp only [Act.put, List.getElem_toArray, List.getElem_cons_zero, List.getElem_cons_succ, List.setIfInBounds_toArray, List.set_cons_zero, List.set_cons_succ]
        refine anyT_takeN (i := 2) (v := ?vva2) rfl (by kernel_rfl) (by kernel_rfl) (by kernel_rfl) (by rfl) (fun _ _ _ h => h) (Or.inl ⟨by rfl, ?yva2⟩) hS0 ?_
        case yva2 => (intro wz hSw; obtain _hz := hSw; go_simp; (try with_reducible rfl))
        try simp only [Act.put, List.getElem_toArray, List.getElem_cons_zero, List.getElem_cons_succ, List.setIfInBounds_toArray, List.set_cons_zero, List.set_cons_succ]
        refine anyT_takeN (i := 3) (v := undef) rfl (by kernel_rfl) (by kernel_rfl) (by kernel_rfl) (by rfl) (fun _ _ _ h => h) (Or.inr ⟨by rfl, rfl⟩) hS0 ?_
        try simp only [Act.put, List.getElem_toArray, List.getElem_cons_zero, List.getElem_cons_succ, List.setIfInBounds_toArray, List.set_cons_zero, List.set_cons_succ]
        refine anyT_takeN (i := 4) (v := undef) rfl (by kernel_rfl) (by kernel_rfl) (by kernel_rfl) (by rfl) (fun _ _ _ h => h) (Or.inr ⟨by rfl, rfl⟩) hS0 ?_
        try simp only [Act.put, List.getElem_toArray, List.getElem_cons_zero, List.getElem_cons_succ, List.setIfInBounds_toArray, List.set_cons_zero, List.set_cons_succ]
        refine anyT_takeN (i := 5) (v := undef) rfl (by kernel_rfl) (by kernel_rfl) (by kernel_rfl) (by rfl) (fun _ _ _ h => h) (Or.inr ⟨by rfl, rfl⟩) hS0 ?_
        try simp only [Act.put, List.getElem_toArray, List.getElem_cons_zero, List.getElem_cons_succ, List.setIfInBounds_toArray, List.set_cons_zero, List.set_cons_succ]
        refine anyT_takeN (i := 6) (v := undef) rfl (by kernel_rfl) (by kernel_rfl) (by kernel_rfl) (by rfl) (fun _ _ _ h => h) (Or.inr ⟨by rfl, rfl⟩) hS0 ?_
        try simp only [Act.put, List.getElem_toArray, List.getElem_cons_zero, List.getElem_cons_succ, List.setIfInBounds_toArray, List.set_cons_zero, List.set_cons_succ]
        refine anyT_takeN (i := 7) (v := undef) rfl (by kernel_rfl) (by kernel_rfl) (by kernel_rfl) (by rfl) (fun _ _ _ h => h) (Or.inr ⟨by rfl, rfl⟩) hS0 ?_
        try simp only [Act.put, List.getElem_toArray, List.getElem_cons_zero, List.getElem_cons_succ, List.setIfInBounds_toArray, List.set_cons_zero, List.set_cons_succ]
        refine anyT_takeN (i := 8) (v := undef) rfl (by kernel_rfl) (by kernel_rfl) (by kernel_rfl) (by rfl) (fun _ _ _ h => h) (Or.inr ⟨by rfl, rfl⟩) hS0 ?_
        try simp only [Act.put, List.getElem_toArray, List.getElem_cons_zero, List.getElem_cons_succ, List.setIfInBounds_toArray, List.set_cons_zero, List.set_cons_succ]
        refine anyT_takeN (i := 9) (v := undef) rfl (by kernel_rfl) (by kernel_rfl) (by kernel_rfl) (by rfl) (fun _ _ _ h => h) (Or.inr ⟨by rfl, rfl⟩) hS0 ?_
        try simp only [Act.put, List.getElem_toArray, List.getElem_cons_zero, List.getElem_cons_succ, List.setIfInBounds_toArray, List.set_cons_zero, List.set_cons_succ]
        refine anyT_takeN (i := 10) (v := undef) rfl (by kernel_rfl) (by kernel_rfl) (by kernel_rfl) (by rfl) (fun _ _ _ h => h) (Or.inr ⟨by rfl, rfl⟩) hS0 ?_
        try simp only [Act.put, List.getElem_toArray, List.getElem_cons_zero, List.getElem_cons_succ, List.setIfInBounds_toArray, List.set_cons_zero, List.set_cons_succ]
        refine anyT_takeN (i := 11) (v := undef) rfl (by kernel_rfl) (by kernel_rfl) (by kernel_rfl) (by rfl) (fun _ _ _ h => h) (Or.inr ⟨by rfl, rfl⟩) hS0 ?_
        try simp only [Act.put, List.getElem_toArray, List.getElem_cons_zero, List.getElem_cons_succ, List.setIfInBounds_toArray, List.set_cons_zero, List.set_cons_succ]
        refine anyT_takeN (i := 12) (v := ?vva12) rfl (by kernel_rfl) (by kernel_rfl) (by kernel_rfl) (by rfl) (fun _ _ _ h => h) (Or.inl ⟨by rfl, ?yva12⟩) hS0 ?_
        case yva12 => (intro wz hSw; obtain _hz := hSw; go_simp; (try with_reducible rfl))
        try simp only [Act.put, List.getElem_toArray, List.getElem_cons_zero, List.getElem_cons_succ, List.setIfInBounds_toArray, List.set_cons_zero, List.set_cons_succ]
        refine anyT_takeN (i := 13) (v := ?vva13) rfl (by kernel_rfl) (by kernel_rfl) (by kernel_rfl) (by rfl) (fun _ _ _ h => h) (Or.inl ⟨by rfl, ?yva13⟩) hS0 ?_
        case yva13 => (intro wz hSw; obtain _hz := hSw; go_simp; (try with_reducible rfl))
        try simp only [Act.put, List.getElem_toArray, List.getElem_cons_zero, List.getElem_cons_succ, List.setIfInBounds_toArray, List.set_cons_zero, List.set_cons_succ]
        refine anyT_takeN (i := 14) (v := undef) rfl (by kernel_rfl) (by kernel_rfl) (by kernel_rfl) (by rfl) (fun _ _ _ h => h) (Or.inr ⟨by rfl, rfl⟩) hS0 ?_
        try simp only [Act.put, List.getElem_toArray, List.getElem_cons_zero, List.getElem_cons_succ, List.setIfInBounds_toArray, List.set_cons_zero, List.set_cons_succ]
        refine anyT_takeN (i := 15) (v := undef) rfl (by kernel_rfl) (by kernel_rfl) (by kernel_rfl) (by rfl) (fun _ _ _ h => h) (Or.inr ⟨by rfl, rfl⟩) hS0 ?_
        try simp only [Act.put, List.getElem_toArray, List.getElem_cons_zero, List.getElem_cons_succ, List.setIfInBounds_toArray, List.set_cons_zero, List.set_cons_succ]
        refine anyT_takeN (i := 16) (v := undef) rfl (by kernel_rfl) (by kernel_rfl) (by kernel_rfl) (by rfl) (fun _ _ _ h => h) (Or.inr ⟨by rfl, rfl⟩) hS0 ?_
        try simp only [Act.put, List.getElem_toArray, List.getElem_cons_zero, List.getElem_cons_succ, List.setIfInBounds_toArray, List.set_cons_zero, List.set_cons_succ]
        refine anyT_takeN (i := 17) (v := undef) rfl (by kernel_rfl) (by kernel_rfl) (by kernel_rfl) (by rfl) (fun _ _ _ h => h) (Or.inr ⟨by rfl, rfl⟩) hS0 ?_
        try simp only [Act.put, List.getElem_toArray, List.getElem_cons_zero, List.getElem_cons_succ, List.setIfInBounds_toArray, List.set_cons_zero, List.set_cons_succ]
        refine anyT_takeN (i := 18) (v := undef) rfl (by kernel_rfl) (by kernel_rfl) (by kernel_rfl) (by rfl) (fun _ _ _ h => h) (Or.inr ⟨by rfl, rfl⟩) hS0 ?_
        try simp only [Act.put, List.getElem_toArray, List.getElem_cons_zero, List.getElem_cons_succ, List.setIfInBounds_toArray, List.set_cons_zero, List.set_cons_succ]
        refine anyT_takeN (i := 19) (v := undef) rfl (by kernel_rfl) (by kernel_rfl) (by kernel_rfl) (by rfl) (fun _ _ _ h => h) (Or.inr ⟨by rfl, rfl⟩) hS0 ?_
        try simp only [Act.put, List.getElem_toArray, List.getElem_cons_zero, List.getElem_cons_succ, List.setIfInBounds_toArray, List.set_cons_zero, List.set_cons_succ]
        refine anyT_takeN (i := 20) (v := undef) rfl (by kernel_rfl) (by kernel_rfl) (by kernel_rfl) (by rfl) (fun _ _ _ h => h) (Or.inr ⟨by rfl, rfl⟩) hS0 ?_
        try simp only [Act.put, List.getElem_toArray, List.getElem_cons_zero, List.getElem_cons_succ, List.setIfInBounds_toArray, List.set_cons_zero, List.set_cons_succ]
        refine anyT_takeN (i := 21) (v := undef) rfl (by kernel_rfl) (by kernel_rfl) (by kernel_rfl) (by rfl) (fun _ _ _ h => h) (Or.inr ⟨by rfl, rfl⟩) hS0 ?_
        try simp only [Act.put, List.getElem_toArray, List.getElem_cons_zero, List.getElem_cons_succ, List.setIfInBounds_toArray, List.set_cons_zero, List.set_cons_succ]
        refine anyT_takeN (i := 22) (v := undef) rfl (by kernel_rfl) (by kernel_rfl) (by kernel_rfl) (by rfl) (fun _ _ _ h => h) (Or.inr ⟨by rfl, rfl⟩) hS0 ?_
        try simp only [Act.put, List.getElem_toArray, List.getElem_cons_zero, List.getElem_cons_succ, List.setIfInBounds_toArray, List.set_cons_zero, List.set_cons_succ]
        refine anyT_takeN (i := 23) (v := ?vva23) rfl (by kernel_rfl) (by kernel_rfl) (by kernel_rfl) (by rfl) (fun _ _ _ h => h) (Or.inl ⟨by rfl, ?yva23⟩) hS0 ?_
        case yva23 => (intro wz hSw; obtain _hz := hSw; go_simp; (try with_reducible rfl))
        try simp only [Act.put, List.getElem_toArray, List.getElem_cons_zero, List.getElem_cons_succ, List.setIfInBounds_toArray, List.set_cons_zero, List.set_cons_succ]
        refine anyT_done (by kernel_rfl) ?_
        by_cases gq : (0 : Int) < M
        · have HSt : Hid (leafG n [] (es.take (i + 1)) = leafG n [] (es.take i) ++ [c]) := HStep.out.1 gq
          have d0 := HB2.out.2.cell (j := 0) rfl
          have d1 := HB2.out.2.cell (j := 1) rfl
          have d2 := HB2.out.2.cell (j := 2) rfl
          have d3 := HB2.out.2.cell (j := 3) rfl
          have d4 := HB2.out.2.cell (j := 4) rfl
          have HKm : Hid (m = (leafG n [] (es.take i)).length) := HM.out
          have hgl := HB2.out.1.own.lt
          have hz2 := HB2.out.1.below.size
          obtain ⟨X, hX⟩ : ∃ X, X = W1.drew := ⟨_, rfl⟩
          rw [← hX] at HB2 d0 d1 d2 d3 d4 hgl hz2 ⊢
          clear hX HStep
          go_wp2_with (at_builtin; refine wpList_append_cel _ rfl _ _ rfl w.heap.size g cp _ _ (leafG n [] (es.take i)) c rfl rfl HKm.out ?hO ?hc ?hl ?hb ?_)
          case hO => exact HB2.out.1.own.below ((Below.refl _ _).alloc (Nat.le_refl _) _) hgl.2
          case hc => exact cel_new X c
          case hl => rw [← HKm.out]; omega
          case hb => (first | omega | (simp; omega))
          intro g' cp' w' hO' hgr
          have HN : Hid (CntOf es (i + 1) (0 + 1) ∧ m + 1 = (leafG n [] (es.take (i + 1))).length ∧ VsJ w b off cap es g' cp' (leafG n [] (es.take (i + 1))) w') := by
            rw [HSt.out]
            exact ⟨HCt.out, by rw [List.length_append, ← HKm.out]; rfl, (HB2.out.1.move ((Below.refl _ _).alloc (Nat.le_refl _) _)).push hO' hgr⟩
          clear hO' hgr d0 d1 d2 d3 d4
          go_wp2_with fail
          go_roundw
          case rel => exact ⟨i + 1, g', cp', m + 1, 0 + 1, by omega, by go_num, rfl, by go_num, by omega, HN.out⟩
          case measure => go_light; simp [intOf]; omega
        · have HN : Hid (CntOf es (i + 1) (0 + 1) ∧ m = (leafG n [] (es.take (i + 1))).length ∧ VsJ w b off cap es g cp (leafG n [] (es.take (i + 1))) W1.drew) := by
            rw [HStep.out.2 gq]
            exact ⟨HCt.out, HM.out, HB2.out.1⟩
          clear HStep
          go_wp2_with fail
          go_roundw
          case rel => exact ⟨i + 1, g, cp, m, 0 + 1, by omega, by go_num, rfl, by go_num, by omega, HN.out⟩
          case measure => go_light; simp [intOf]; omega
      obtain ⟨q, rfl⟩ : ∃ q, i = q + 1 := ⟨i - 1, by omega⟩
      have zi0 : (((q + 1 : Nat) : Int) == 0) = false := by rw [beq_eq_false_iff_ne]; omega
      have zim : (q : Int) < (N : Int) := by omega
      have hwr : IntKind.i64.wrap (q : Int) = (q : Int) := by rw [IntKind.wrap_i64]; omega
      obtain ⟨p, hp, hct⟩ : ∃ p, es[q]? = some p ∧ ct = befN (es.take (q + 1)) p := by
        rcases HC0.out with ⟨q, _⟩ | ⟨p, _, h1, h2⟩
        · omega
        · exact ⟨p, h1, h2⟩
      obtain ⟨-, p1, p2, -, -⟩ := HB2.out.1.row.at_ q p hp
      have hS0 : (fun w' : World => w'.cell? ⟨b, off + q * 5 + 1, none⟩ = some (.string p.fam) ∧ w'.cell? ⟨b, off + q * 5 + 2, none⟩ = some (.string p.qual) ∧ w'.cell? ⟨cb, 1, none⟩ = some (.string c.fam) ∧ w'.cell? ⟨cb, 2, none⟩ = some (.string c.qual)) W1.drew := ⟨p1, p2, HB2.out.2.cell (j := 1) rfl, HB2.out.2.cell (j := 2) rfl⟩
      have HSame : Hid (colB p c = true → ct = bf) := fun q => by rw [hct, HBf.out.1, befN_congr q]
      have HDiff : Hid (colB p c = false → bf = 0) := fun z => by
        rw [HBf.out.1]; exact befN_none HL.out.2.1 HL.out.2.2 hp HBf.out.2 z
      clear p1 p2 hp hct hi0
      cases hf : (p.fam.toList == c.fam.toList)
      · have hb0 : bf = 0 := HDiff.out (by unfold colB; rw [hf]; rfl)
        subst hb0
        clear HSame HDiff HC0 HBf
        refine wp_region_T 99 (fun w' : World => w'.cell? ⟨b, off + q * 5 + 1, none⟩ = some (.string p.fam) ∧ w'.cell? ⟨b, off + q * 5 + 2, none⟩ = some (.string p.qual) ∧ w'.cell? ⟨cb, 1, none⟩ = some (.string c.fam) ∧ w'.cell? ⟨cb, 2, none⟩ = some (.string c.qual)) (by kernel_rfl) ?_
        refine anyT_takeN (i := 0) (v := ?vvb0) rfl (by kernel_rfl) (by kernel_rfl) (by kernel_rfl) (by rfl) (fun _ _ _ h => h) (Or.inl ⟨by rfl, ?yvb0⟩) hS0 ?_
        case yvb0 => (intro wz hSw; obtain ⟨hz0, hz1, hz2, hz3⟩ := hSw; go_simp; (try with_reducible rfl))
        try simp only [Act.put, List.getElem_toArray, List.getElem_cons_zero, List.getElem_cons_succ, List.setIfInBounds_toArray, List.set_cons_zero, List.set_cons_succ]
        refine anyT_takeN (i := 1) (v := ?vvb1) rfl (by kernel_rfl) (by kernel_rfl) (by kernel_rfl) (by rfl) (fun _ _ _ h => h) (Or.inl ⟨by rfl, ?yvb1⟩) hS0 ?_
        case yvb1 => (intro wz hSw; obtain ⟨hz0, hz1, hz2, hz3⟩ := hSw; go_simp; (try with_reducible rfl))
        try simp only [Act.put, List.getElem_toArray, List.getElem_cons_zero, List.getElem_cons_succ, List.setIfInBounds_toArray, List.set_cons_zero, List.set_cons_succ]
        refine anyT_takeN (i := 2) (v := ?vvb2) rfl (by kernel_rfl) (by kernel_rfl) (by kernel_rfl) (by rfl) (fun _ _ _ h => h) (Or.inl ⟨by rfl, ?yvb2⟩) hS0 ?_
        case yvb2 => (intro wz hSw; obtain ⟨hz0, hz1, hz2, hz3⟩ := hSw; go_simp; (try with_reducible rfl))
        try simp only [Act.put, List.getElem_toArray, List.getElem_cons_zero, List.getElem_cons_succ, List.setIfInBounds_toArray, List.set_cons_zero, List.set_cons_succ]
        refine anyT_takeN (i := 3) (v := ?vvb3) rfl (by kernel_rfl) (by kernel_rfl) (by kernel_rfl) (by rfl) (fun _ _ _ h => h) (Or.inl ⟨by rfl, ?yvb3⟩) hS0 ?_
        case yvb3 => (intro wz hSw; obtain ⟨hz0, hz1, hz2, hz3⟩ := hSw; go_simp; (try with_reducible rfl))
        try simp only [Act.put, List.getElem_toArray, List.getElem_cons_zero, List.getElem_cons_succ, List.setIfInBounds_toArray, List.set_cons_zero, List.set_cons_succ]
        refine anyT_takeN (i := 4) (v := ?vvb4) rfl (by kernel_rfl) (by kernel_rfl) (by kernel_rfl) (by rfl) (fun _ _ _ h => h) (Or.inl ⟨by rfl, ?yvb4⟩) hS0 ?_
        case yvb4 => (intro wz hSw; obtain ⟨hz0, hz1, hz2, hz3⟩ := hSw; go_simp; (try with_reducible rfl))
        try simp only [Act.put, List.getElem_toArray, List.getElem_cons_zero, List.getElem_cons_succ, List.setIfInBounds_toArray, List.set_cons_zero, List.set_cons_succ]
        refine anyT_takeN (i := 5) (v := ?vvb5) rfl (by kernel_rfl) (by kernel_rfl) (by kernel_rfl) (by rfl) (fun _ _ _ h => h) (Or.inl ⟨by rfl, ?yvb5⟩) hS0 ?_
        case yvb5 => (intro wz hSw; obtain ⟨hz0, hz1, hz2, hz3⟩ := hSw; go_simp; (try with_reducible rfl))
        try simp only [Act.put, List.getElem_toArray, List.getElem_cons_zero, List.getElem_cons_succ, List.setIfInBounds_toArray, List.set_cons_zero, List.set_cons_succ]
        refine anyT_takeN (i := 6) (v := ?vvb6) rfl (by kernel_rfl) (by kernel_rfl) (by kernel_rfl) (by rfl) (fun _ _ _ h => h) (Or.inl ⟨by rfl, ?yvb6⟩) hS0 ?_
        case yvb6 => (intro wz hSw; obtain ⟨hz0, hz1, hz2, hz3⟩ := hSw; go_simp; (try with_reducible rfl))
        try simp only [Act.put, List.getElem_toArray, List.getElem_cons_zero, List.getElem_cons_succ, List.setIfInBounds_toArray, List.set_cons_zero, List.set_cons_succ]
        refine anyT_takeN (i := 7) (v := ?vvb7) rfl (by kernel_rfl) (by kernel_rfl) (by kernel_rfl) (by rfl) (fun _ _ _ h => h) (Or.inl ⟨by rfl, ?yvb7⟩) hS0 ?_
        case yvb7 => (intro wz hSw; obtain ⟨hz0, hz1, hz2, hz3⟩ := hSw; go_simp; (try with_reducible rfl))
        try simp only [Act.put, List.getElem_toArray, List.getElem_cons_zero, List.getElem_cons_succ, List.setIfInBounds_toArray, List.set_cons_zero, List.set_cons_succ]
        refine anyT_takeN (i := 8) (v := ?vvb8) rfl (by kernel_rfl) (by kernel_rfl) (by kernel_rfl) (by rfl) (fun _ _ _ h => h) (Or.inl ⟨by rfl, ?yvb8⟩) hS0 ?_
        case yvb8 => (intro wz hSw; obtain ⟨hz0, hz1, hz2, hz3⟩ := hSw; go_simp; (try with_reducible rfl))
        try simp only [Act.put, List.getElem_toArray, List.getElem_cons_zero, List.getElem_cons_succ, List.setIfInBounds_toArray, List.set_cons_zero, List.set_cons_succ]
        refine anyT_takeN (i := 9) (v := ?vvb9) rfl (by kernel_rfl) (by kernel_rfl) (by kernel_rfl) (by rfl) (fun _ _ _ h => h) (Or.inl ⟨by rfl, ?yvb9⟩) hS0 ?_
        case yvb9 => (intro wz hSw; obtain ⟨hz0, hz1, hz2, hz3⟩ := hSw; go_simp; (try with_reducible rfl))
        try simp only [Act.put, List.getElem_toArray, List.getElem_cons_zero, List.getElem_cons_succ, List.setIfInBounds_toArray, List.set_cons_zero, List.set_cons_succ]
        refine anyT_takeN (i := 10) (v := ?vvb10) rfl (by kernel_rfl) (by kernel_rfl) (by kernel_rfl) (by rfl) (fun _ _ _ h => h) (Or.inl ⟨by rfl, ?yvb10⟩) hS0 ?_
        case yvb10 => (intro wz hSw; obtain ⟨hz0, hz1, hz2, hz3⟩ := hSw; go_simp; (try with_reducible rfl))
        try simp only [Act.put, List.getElem_toArray, List.getElem_cons_zero, List.getElem_cons_succ, List.setIfInBounds_toArray, List.set_cons_zero, List.set_cons_succ]
        refine anyT_takeN (i := 11) (v := ?vvb11) rfl (by kernel_rfl) (by kernel_rfl) (by kernel_rfl) (by rfl) (fun _ _ _ h => h) (Or.inl ⟨by rfl, ?yvb11⟩) hS0 ?_
        case yvb11 => (intro wz hSw; obtain ⟨hz0, hz1, hz2, hz3⟩ := hSw; go_simp; (try simp [hf]); (try with_reducible rfl))
        try simp only [Act.put, List.getElem_toArray, List.getElem_cons_zero, List.getElem_cons_succ, List.setIfInBounds_toArray, List.set_cons_zero, List.set_cons_succ]
        refine anyT_takeN (i := 12) (v := ?vvb12) rfl (by kernel_rfl) (by kernel_rfl) (by kernel_rfl) (by rfl) (fun _ _ _ h => h) (Or.inl ⟨by rfl, ?yvb12⟩) hS0 ?_
        case yvb12 => (intro wz hSw; obtain ⟨hz0, hz1, hz2, hz3⟩ := hSw; go_simp; (try with_reducible rfl))
        try simp only [Act.put, List.getElem_toArray, List.getElem_cons_zero, List.getElem_cons_succ, List.setIfInBounds_toArray, List.set_cons_zero, List.set_cons_succ]
        refine anyT_takeN (i := 13) (v := ?vvb13) rfl (by kernel_rfl) (by kernel_rfl) (by kernel_rfl) (by rfl) (fun _ _ _ h => h) (Or.inl ⟨by rfl, ?yvb13⟩) hS0 ?_
        case yvb13 => (intro wz hSw; obtain ⟨hz0, hz1, hz2, hz3⟩ := hSw; go_simp; (try with_reducible rfl))
        try simp only [Act.put, List.getElem_toArray, List.getElem_cons_zero, List.getElem_cons_succ, List.setIfInBounds_toArray, List.set_cons_zero, List.set_cons_succ]
        refine anyT_takeN (i := 14) (v := undef) rfl (by kernel_rfl) (by kernel_rfl) (by kernel_rfl) (by rfl) (fun _ _ _ h => h) (Or.inr ⟨by rfl, rfl⟩) hS0 ?_
        try simp only [Act.put, List.getElem_toArray, List.getElem_cons_zero, List.getElem_cons_succ, List.setIfInBounds_toArray, List.set_cons_zero, List.set_cons_succ]
        refine anyT_takeN (i := 15) (v := undef) rfl (by kernel_rfl) (by kernel_rfl) (by kernel_rfl) (by rfl) (fun _ _ _ h => h) (Or.inr ⟨by rfl, rfl⟩) hS0 ?_
        try simp only [Act.put, List.getElem_toArray, List.getElem_cons_zero, List.getElem_cons_succ, List.setIfInBounds_toArray, List.set_cons_zero, List.set_cons_succ]
        refine anyT_takeN (i := 16) (v := undef) rfl (by kernel_rfl) (by kernel_rfl) (by kernel_rfl) (by rfl) (fun _ _ _ h => h) (Or.inr ⟨by rfl, rfl⟩) hS0 ?_
        try simp only [Act.put, List.getElem_toArray, List.getElem_cons_zero, List.getElem_cons_succ, List.setIfInBounds_toArray, List.set_cons_zero, List.set_cons_succ]
        refine anyT_takeN (i := 17) (v := undef) rfl (by kernel_rfl) (by kernel_rfl) (by kernel_rfl) (by rfl) (fun _ _ _ h => h) (Or.inr ⟨by rfl, rfl⟩) hS0 ?_
        try simp only [Act.put, List.getElem_toArray, List.getElem_cons_zero, List.getElem_cons_succ, List.setIfInBounds_toArray, List.set_cons_zero, List.set_cons_succ]
        refine anyT_takeN (i := 18) (v := undef) rfl (by kernel_rfl) (by kernel_rfl) (by kernel_rfl) (by rfl) (fun _ _ _ h => h) (Or.inr ⟨by rfl, rfl⟩) hS0 ?_
        try simp only [Act.put, List.getElem_toArray, List.getElem_cons_zero, List.getElem_cons_succ, List.setIfInBounds_toArray, List.set_cons_zero, List.set_cons_succ]
        refine anyT_takeN (i := 19) (v := undef) rfl (by kernel_rfl) (by kernel_rfl) (by kernel_rfl) (by rfl) (fun _ _ _ h => h) (Or.inr ⟨by rfl, rfl⟩) hS0 ?_
        try simp only [Act.put, List.getElem_toArray, List.getElem_cons_zero, List.getElem_cons_succ, List.setIfInBounds_toArray, List.set_cons_zero, List.set_cons_succ]
        refine anyT_takeN (i := 20) (v := undef) rfl (by kernel_rfl) (by kernel_rfl) (by kernel_rfl) (by rfl) (fun _ _ _ h => h) (Or.inr ⟨by rfl, rfl⟩) hS0 ?_
        try simp only [Act.put, List.getElem_toArray, List.getElem_cons_zero, List.getElem_cons_succ, List.setIfInBounds_toArray, List.set_cons_zero, List.set_cons_succ]
        refine anyT_takeN (i := 21) (v := undef) rfl (by kernel_rfl) (by kernel_rfl) (by kernel_rfl) (by rfl) (fun _ _ _ h => h) (Or.inr ⟨by rfl, rfl⟩) hS0 ?_
        try simp only [Act.put, List.getElem_toArray, List.getElem_cons_zero, List.getElem_cons_succ, List.setIfInBounds_toArray, List.set_cons_zero, List.set_cons_succ]
        refine anyT_takeN (i := 22) (v := undef) rfl (by kernel_rfl) (by kernel_rfl) (by kernel_rfl) (by rfl) (fun _ _ _ h => h) (Or.inr ⟨by rfl, rfl⟩) hS0 ?_
        try simp only [Act.put, List.getElem_toArray, List.getElem_cons_zero, List.getElem_cons_succ, List.setIfInBounds_toArray, List.set_cons_zero, List.set_cons_succ]
        refine anyT_takeN (i := 23) (v := ?vvb23) rfl (by kernel_rfl) (by kernel_rfl) (by kernel_rfl) (by rfl) (fun _ _ _ h => h) (Or.inl ⟨by rfl, ?yvb23⟩) hS0 ?_
        case yvb23 => (intro wz hSw; obtain ⟨hz0, hz1, hz2, hz3⟩ := hSw; go_simp; (try with_reducible rfl))
        try simp only [Act.put, List.getElem_toArray, List.getElem_cons_zero, List.getElem_cons_succ, List.setIfInBounds_toArray, List.set_cons_zero, List.set_cons_succ]
        refine anyT_done (by kernel_rfl) ?_
        by_cases gq : (0 : Int) < M
        · have HSt : Hid (leafG n [] (es.take (q + 1 + 1)) = leafG n [] (es.take (q + 1)) ++ [c]) := HStep.out.1 gq
          have d0 := HB2.out.2.cell (j := 0) rfl
          have d1 := HB2.out.2.cell (j := 1) rfl
          have d2 := HB2.out.2.cell (j := 2) rfl
          have d3 := HB2.out.2.cell (j := 3) rfl
          have d4 := HB2.out.2.cell (j := 4) rfl
          have HKm : Hid (m = (leafG n [] (es.take (q + 1))).length) := HM.out
          have hgl := HB2.out.1.own.lt
          have hz2 := HB2.out.1.below.size
          obtain ⟨X, hX⟩ : ∃ X, X = W1.drew := ⟨_, rfl⟩
          rw [← hX] at HB2 d0 d1 d2 d3 d4 hgl hz2 ⊢
          clear hX HStep
          go_wp2_with (at_builtin; refine wpList_append_cel _ rfl _ _ rfl w.heap.size g cp _ _ (leafG n [] (es.take (q + 1))) c rfl rfl HKm.out ?hO ?hc ?hl ?hb ?_)
          case hO => exact HB2.out.1.own.below ((Below.refl _ _).alloc (Nat.le_refl _) _) hgl.2
          case hc => exact cel_new X c
          case hl => rw [← HKm.out]; omega
          case hb => (first | omega | (simp; omega))
          intro g' cp' w' hO' hgr
          have HN : Hid (CntOf es (q + 1 + 1) (0 + 1) ∧ m + 1 = (leafG n [] (es.take (q + 1 + 1))).length ∧ VsJ w b off cap es g' cp' (leafG n [] (es.take (q + 1 + 1))) w') := by
            rw [HSt.out]
            exact ⟨HCt.out, by rw [List.length_append, ← HKm.out]; rfl, (HB2.out.1.move ((Below.refl _ _).alloc (Nat.le_refl _) _)).push hO' hgr⟩
          clear hO' hgr d0 d1 d2 d3 d4
          go_wp2_with fail
          go_roundw
          case rel => exact ⟨q + 1 + 1, g', cp', m + 1, 0 + 1, by omega, by go_num, rfl, by go_num, by omega, HN.out⟩
          case measure => go_light; simp [intOf]; omega
        · have HN : Hid (CntOf es (q + 1 + 1) (0 + 1) ∧ m = (leafG n [] (es.take (q + 1 + 1))).length ∧ VsJ w b off cap es g cp (leafG n [] (es.take (q + 1 + 1))) W1.drew) := by
            rw [HStep.out.2 gq]
            exact ⟨HCt.out, HM.out, HB2.out.1⟩
          clear HStep
          go_wp2_with fail
          go_roundw
          case rel => exact ⟨q + 1 + 1, g, cp, m, 0 + 1, by omega, by go_num, rfl, by go_num, by omega, HN.out⟩
          case measure => go_light; simp [intOf]; omega
      · cases hq : (p.qual.toList == c.qual.toList)
        · have hb0 : bf = 0 := HDiff.out (by unfold colB; rw [hf, hq]; rfl)
          subst hb0
          clear HSame HDiff HC0 HBf
          refine wp_region_T 99 (fun w' : World => w'.cell? ⟨b, off + q * 5 + 1, none⟩ = some (.string p.fam) ∧ w'.cell? ⟨b, off + q * 5 + 2, none⟩ = some (.string p.qual) ∧ w'.cell? ⟨cb, 1, none⟩ = some (.string c.fam) ∧ w'.cell? ⟨cb, 2, none⟩ = some (.string c.qual)) (by kernel_rfl) ?_
          refine anyT_takeN (i := 0) (v := ?vvc0) rfl (by kernel_rfl) (by kernel_rfl) (by kernel_rfl) (by rfl) (fun _ _ _ h => h) (Or.inl ⟨by rfl, ?yvc0⟩) hS0 ?_
          case yvc0 => (intro wz hSw; obtain ⟨hz0, hz1, hz2, hz3⟩ := hSw; go_simp; (try with_reducible rfl))
          try simp only [Act.put, List.getElem_toArray, List.getElem_cons_zero, List.getElem_cons_succ, List.setIfInBounds_toArray, List.set_cons_zero, List.set_cons_succ]
          refine anyT_takeN (i := 1) (v := ?vvc1) rfl (by kernel_rfl) (by kernel_rfl) (by kernel_rfl) (by rfl) (fun _ _ _ h => h) (Or.inl ⟨by rfl, ?yvc1⟩) hS0 ?_
          case yvc1 => (intro wz hSw; obtain ⟨hz0, hz1, hz2, hz3⟩ := hSw; go_simp; (try with_reducible rfl))
          try simp only [Act.put, List.getElem_toArray, List.getElem_cons_zero, List.getElem_cons_succ, List.setIfInBounds_toArray, List.set_cons_zero, List.set_cons_succ]
          refine anyT_takeN (i := 2) (v := ?vvc2) rfl (by kernel_rfl) (by kernel_rfl) (by kernel_rfl) (by rfl) (fun _ _ _ h => h) (Or.inl ⟨by rfl, ?yvc2⟩) hS0 ?_
          case yvc2 => (intro wz hSw; obtain ⟨hz0, hz1, hz2, hz3⟩ := hSw; go_simp; (try with_reducible rfl))
          try simp only [Act.put, List.getElem_toArray, List.getElem_cons_zero, List.getElem_cons_succ, List.setIfInBounds_toArray, List.set_cons_zero, List.set_cons_succ]
          refine anyT_takeN (i := 3) (v := ?vvc3) rfl (by kernel_rfl) (by kernel_rfl) (by kernel_rfl) (by rfl) (fun _ _ _ h => h) (Or.inl ⟨by rfl, ?yvc3⟩) hS0 ?_
          case yvc3 => (intro wz hSw; obtain ⟨hz0, hz1, hz2, hz3⟩ := hSw; go_simp; (try with_reducible rfl))
          try simp only [Act.put, List.getElem_toArray, List.getElem_cons_zero, List.getElem_cons_succ, List.setIfInBounds_toArray, List.set_cons_zero, List.set_cons_succ]
          refine anyT_takeN (i := 4) (v := ?vvc4) rfl (by kernel_rfl) (by kernel_rfl) (by kernel_rfl) (by rfl) (fun _ _ _ h => h) (Or.inl ⟨by rfl, ?yvc4⟩) hS0 ?_
          case yvc4 => (intro wz hSw; obtain ⟨hz0, hz1, hz2, hz3⟩ := hSw; go_simp; (try with_reducible rfl))
          try simp only [Act.put, List.getElem_toArray, List.getElem_cons_zero, List.getElem_cons_succ, List.setIfInBounds_toArray, List.set_cons_zero, List.set_cons_succ]
          refine anyT_takeN (i := 5) (v := ?vvc5) rfl (by kernel_rfl) (by kernel_rfl) (by kernel_rfl) (by rfl) (fun _ _ _ h => h) (Or.inl ⟨by rfl, ?yvc5⟩) hS0 ?_
          case yvc5 => (intro wz hSw; obtain ⟨hz0, hz1, hz2, hz3⟩ := hSw; go_simp; (try with_reducible rfl))
          try simp only [Act.put, List.getElem_toArray, List.getElem_cons_zero, List.getElem_cons_succ, List.setIfInBounds_toArray, List.set_cons_zero, List.set_cons_succ]
          refine anyT_takeN (i := 6) (v := ?vvc6) rfl (by kernel_rfl) (by kernel_rfl) (by kernel_rfl) (by rfl) (fun _ _ _ h => h) (Or.inl ⟨by rfl, ?yvc6⟩) hS0 ?_
          case yvc6 => (intro wz hSw; obtain ⟨hz0, hz1, hz2, hz3⟩ := hSw; go_simp; (try with_reducible rfl))
          try simp only [Act.put, List.getElem_toArray, List.getElem_cons_zero, List.getElem_cons_succ, List.setIfInBounds_toArray, List.set_cons_zero, List.set_cons_succ]
          refine anyT_takeN (i := 7) (v := ?vvc7) rfl (by kernel_rfl) (by kernel_rfl) (by kernel_rfl) (by rfl) (fun _ _ _ h => h) (Or.inl ⟨by rfl, ?yvc7⟩) hS0 ?_
          case yvc7 => (intro wz hSw; obtain ⟨hz0, hz1, hz2, hz3⟩ := hSw; go_simp; (try with_reducible rfl))
          try simp only [Act.put, List.getElem_toArray, List.getElem_cons_zero, List.getElem_cons_succ, List.setIfInBounds_toArray, List.set_cons_zero, List.set_cons_succ]
          refine anyT_takeN (i := 8) (v := ?vvc8) rfl (by kernel_rfl) (by kernel_rfl) (by kernel_rfl) (by rfl) (fun _ _ _ h => h) (Or.inl ⟨by rfl, ?yvc8⟩) hS0 ?_
          case yvc8 => (intro wz hSw; obtain ⟨hz0, hz1, hz2, hz3⟩ := hSw; go_simp; (try with_reducible rfl))
          try simp only [Act.put, List.getElem_toArray, List.getElem_cons_zero, List.getElem_cons_succ, List.setIfInBounds_toArray, List.set_cons_zero, List.set_cons_succ]
          refine anyT_takeN (i := 9) (v := ?vvc9) rfl (by kernel_rfl) (by kernel_rfl) (by kernel_rfl) (by rfl) (fun _ _ _ h => h) (Or.inl ⟨by rfl, ?yvc9⟩) hS0 ?_
          case yvc9 => (intro wz hSw; obtain ⟨hz0, hz1, hz2, hz3⟩ := hSw; go_simp; (try with_reducible rfl))
          try simp only [Act.put, List.getElem_toArray, List.getElem_cons_zero, List.getElem_cons_succ, List.setIfInBounds_toArray, List.set_cons_zero, List.set_cons_succ]
          refine anyT_takeN (i := 10) (v := ?vvc10) rfl (by kernel_rfl) (by kernel_rfl) (by kernel_rfl) (by rfl) (fun _ _ _ h => h) (Or.inl ⟨by rfl, ?yvc10⟩) hS0 ?_
          case yvc10 => (intro wz hSw; obtain ⟨hz0, hz1, hz2, hz3⟩ := hSw; go_simp; (try with_reducible rfl))
          try simp only [Act.put, List.getElem_toArray, List.getElem_cons_zero, List.getElem_cons_succ, List.setIfInBounds_toArray, List.set_cons_zero, List.set_cons_succ]
          refine anyT_takeN (i := 11) (v := ?vvc11) rfl (by kernel_rfl) (by kernel_rfl) (by kernel_rfl) (by rfl) (fun _ _ _ h => h) (Or.inl ⟨by rfl, ?yvc11⟩) hS0 ?_
          case yvc11 => (intro wz hSw; obtain ⟨hz0, hz1, hz2, hz3⟩ := hSw; go_simp; (try simp [hf, hq]); (try with_reducible rfl))
          try simp only [Act.put, List.getElem_toArray, List.getElem_cons_zero, List.getElem_cons_succ, List.setIfInBounds_toArray, List.set_cons_zero, List.set_cons_succ]
          refine anyT_takeN (i := 12) (v := ?vvc12) rfl (by kernel_rfl) (by kernel_rfl) (by kernel_rfl) (by rfl) (fun _ _ _ h => h) (Or.inl ⟨by rfl, ?yvc12⟩) hS0 ?_
          case yvc12 => (intro wz hSw; obtain ⟨hz0, hz1, hz2, hz3⟩ := hSw; go_simp; (try with_reducible rfl))
          try simp only [Act.put, List.getElem_toArray, List.getElem_cons_zero, List.getElem_cons_succ, List.setIfInBounds_toArray, List.set_cons_zero, List.set_cons_succ]
          refine anyT_takeN (i := 13) (v := ?vvc13) rfl (by kernel_rfl) (by kernel_rfl) (by kernel_rfl) (by rfl) (fun _ _ _ h => h) (Or.inl ⟨by rfl, ?yvc13⟩) hS0 ?_
          case yvc13 => (intro wz hSw; obtain ⟨hz0, hz1, hz2, hz3⟩ := hSw; go_simp; (try with_reducible rfl))
          try simp only [Act.put, List.getElem_toArray, List.getElem_cons_zero, List.getElem_cons_succ, List.setIfInBounds_toArray, List.set_cons_zero, List.set_cons_succ]
          refine anyT_takeN (i := 14) (v := ?vvc14) rfl (by kernel_rfl) (by kernel_rfl) (by kernel_rfl) (by rfl) (fun _ _ _ h => h) (Or.inl ⟨by rfl, ?yvc14⟩) hS0 ?_
          case yvc14 => (intro wz hSw; obtain ⟨hz0, hz1, hz2, hz3⟩ := hSw; go_simp; (try with_reducible rfl))
          try simp only [Act.put, List.getElem_toArray, List.getElem_cons_zero, List.getElem_cons_succ, List.setIfInBounds_toArray, List.set_cons_zero, List.set_cons_succ]
          refine anyT_takeN (i := 15) (v := ?vvc15) rfl (by kernel_rfl) (by kernel_rfl) (by kernel_rfl) (by rfl) (fun _ _ _ h => h) (Or.inl ⟨by rfl, ?yvc15⟩) hS0 ?_
          case yvc15 => (intro wz hSw; obtain ⟨hz0, hz1, hz2, hz3⟩ := hSw; go_simp; (try with_reducible rfl))
          try simp only [Act.put, List.getElem_toArray, List.getElem_cons_zero, List.getElem_cons_succ, List.setIfInBounds_toArray, List.set_cons_zero, List.set_cons_succ]
          refine anyT_takeN (i := 16) (v := ?vvc16) rfl (by kernel_rfl) (by kernel_rfl) (by kernel_rfl) (by rfl) (fun _ _ _ h => h) (Or.inl ⟨by rfl, ?yvc16⟩) hS0 ?_
          case yvc16 => (intro wz hSw; obtain ⟨hz0, hz1, hz2, hz3⟩ := hSw; go_simp; (try with_reducible rfl))
          try simp only [Act.put, List.getElem_toArray, List.getElem_cons_zero, List.getElem_cons_succ, List.setIfInBounds_toArray, List.set_cons_zero, List.set_cons_succ]
          refine anyT_takeN (i := 17) (v := ?vvc17) rfl (by kernel_rfl) (by kernel_rfl) (by kernel_rfl) (by rfl) (fun _ _ _ h => h) (Or.inl ⟨by rfl, ?yvc17⟩) hS0 ?_
          case yvc17 => (intro wz hSw; obtain ⟨hz0, hz1, hz2, hz3⟩ := hSw; go_simp; (try with_reducible rfl))
          try simp only [Act.put, List.getElem_toArray, List.getElem_cons_zero, List.getElem_cons_succ, List.setIfInBounds_toArray, List.set_cons_zero, List.set_cons_succ]
          refine anyT_takeN (i := 18) (v := ?vvc18) rfl (by kernel_rfl) (by kernel_rfl) (by kernel_rfl) (by rfl) (fun _ _ _ h => h) (Or.inl ⟨by rfl, ?yvc18⟩) hS0 ?_
          case yvc18 => (intro wz hSw; obtain ⟨hz0, hz1, hz2, hz3⟩ := hSw; go_simp; (try with_reducible rfl))
          try simp only [Act.put, List.getElem_toArray, List.getElem_cons_zero, List.getElem_cons_succ, List.setIfInBounds_toArray, List.set_cons_zero, List.set_cons_succ]
          refine anyT_takeN (i := 19) (v := ?vvc19) rfl (by kernel_rfl) (by kernel_rfl) (by kernel_rfl) (by rfl) (fun _ _ _ h => h) (Or.inl ⟨by rfl, ?yvc19⟩) hS0 ?_
          case yvc19 => (intro wz hSw; obtain ⟨hz0, hz1, hz2, hz3⟩ := hSw; go_simp; (try with_reducible rfl))
          try simp only [Act.put, List.getElem_toArray, List.getElem_cons_zero, List.getElem_cons_succ, List.setIfInBounds_toArray, List.set_cons_zero, List.set_cons_succ]
          refine anyT_takeN (i := 20) (v := ?vvc20) rfl (by kernel_rfl) (by kernel_rfl) (by kernel_rfl) (by rfl) (fun _ _ _ h => h) (Or.inl ⟨by rfl, ?yvc20⟩) hS0 ?_
          case yvc20 => (intro wz hSw; obtain ⟨hz0, hz1, hz2, hz3⟩ := hSw; go_simp; (try with_reducible rfl))
          try simp only [Act.put, List.getElem_toArray, List.getElem_cons_zero, List.getElem_cons_succ, List.setIfInBounds_toArray, List.set_cons_zero, List.set_cons_succ]
          refine anyT_takeN (i := 21) (v := ?vvc21) rfl (by kernel_rfl) (by kernel_rfl) (by kernel_rfl) (by rfl) (fun _ _ _ h => h) (Or.inl ⟨by rfl, ?yvc21⟩) hS0 ?_
          case yvc21 => (intro wz hSw; obtain ⟨hz0, hz1, hz2, hz3⟩ := hSw; go_simp; (try with_reducible rfl))
          try simp only [Act.put, List.getElem_toArray, List.getElem_cons_zero, List.getElem_cons_succ, List.setIfInBounds_toArray, List.set_cons_zero, List.set_cons_succ]
          refine anyT_takeN (i := 22) (v := ?vvc22) rfl (by kernel_rfl) (by kernel_rfl) (by kernel_rfl) (by rfl) (fun _ _ _ h => h) (Or.inl ⟨by rfl, ?yvc22⟩) hS0 ?_
          case yvc22 => (intro wz hSw; obtain ⟨hz0, hz1, hz2, hz3⟩ := hSw; go_simp; (try simp [hf, hq]); (try with_reducible rfl))
          try simp only [Act.put, List.getElem_toArray, List.getElem_cons_zero, List.getElem_cons_succ, List.setIfInBounds_toArray, List.set_cons_zero, List.set_cons_succ]
          refine anyT_takeN (i := 23) (v := ?vvc23) rfl (by kernel_rfl) (by kernel_rfl) (by kernel_rfl) (by rfl) (fun _ _ _ h => h) (Or.inl ⟨by rfl, ?yvc23⟩) hS0 ?_
          case yvc23 => (intro wz hSw; obtain ⟨hz0, hz1, hz2, hz3⟩ := hSw; go_simp; (try with_reducible rfl))
          try simp only [Act.put, List.getElem_toArray, List.getElem_cons_zero, List.getElem_cons_succ, List.setIfInBounds_toArray, List.set_cons_zero, List.set_cons_succ]
          refine anyT_done (by kernel_rfl) ?_
          by_cases gq : (0 : Int) < M
          · have HSt : Hid (leafG n [] (es.take (q + 1 + 1)) = leafG n [] (es.take (q + 1)) ++ [c]) := HStep.out.1 gq
            have d0 := HB2.out.2.cell (j := 0) rfl
            have d1 := HB2.out.2.cell (j := 1) rfl
            have d2 := HB2.out.2.cell (j := 2) rfl
            have d3 := HB2.out.2.cell (j := 3) rfl
            have d4 := HB2.out.2.cell (j := 4) rfl
            have HKm : Hid (m = (leafG n [] (es.take (q + 1))).length) := HM.out
            have hgl := HB2.out.1.own.lt
            have hz2 := HB2.out.1.below.size
            obtain ⟨X, hX⟩ : ∃ X, X = W1.drew := ⟨_, rfl⟩
            rw [← hX] at HB2 d0 d1 d2 d3 d4 hgl hz2 ⊢
            clear hX HStep
            go_wp2_with (at_builtin; refine wpList_append_cel _ rfl _ _ rfl w.heap.size g cp _ _ (leafG n [] (es.take (q + 1))) c rfl rfl HKm.out ?hO ?hc ?hl ?hb ?_)
            case hO => exact HB2.out.1.own.below ((Below.refl _ _).alloc (Nat.le_refl _) _) hgl.2
            case hc => exact cel_new X c
            case hl => rw [← HKm.out]; omega
            case hb => (first | omega | (simp; omega))
            intro g' cp' w' hO' hgr
            have HN : Hid (CntOf es (q + 1 + 1) (0 + 1) ∧ m + 1 = (leafG n [] (es.take (q + 1 + 1))).length ∧ VsJ w b off cap es g' cp' (leafG n [] (es.take (q + 1 + 1))) w') := by
              rw [HSt.out]
              exact ⟨HCt.out, by rw [List.length_append, ← HKm.out]; rfl, (HB2.out.1.move ((Below.refl _ _).alloc (Nat.le_refl _) _)).push hO' hgr⟩
            clear hO' hgr d0 d1 d2 d3 d4
            go_wp2_with fail
            go_roundw
            case rel => exact ⟨q + 1 + 1, g', cp', m + 1, 0 + 1, by omega, by go_num, rfl, by go_num, by omega, HN.out⟩
            case measure => go_light; simp [intOf]; omega
          · have HN : Hid (CntOf es (q + 1 + 1) (0 + 1) ∧ m = (leafG n [] (es.take (q + 1 + 1))).length ∧ VsJ w b off cap es g cp (leafG n [] (es.take (q + 1 + 1))) W1.drew) := by
              rw [HStep.out.2 gq]
              exact ⟨HCt.out, HM.out, HB2.out.1⟩
            clear HStep
            go_wp2_with fail
            go_roundw
            case rel => exact ⟨q + 1 + 1, g, cp, m, 0 + 1, by omega, by go_num, rfl, by go_num, by omega, HN.out⟩
            case measure => go_light; simp [intOf]; omega
        · have hb0 : ct = bf := HSame.out (by unfold colB; rw [hf, hq]; rfl)
          subst hb0
          clear HSame HDiff HC0 HBf
          refine wp_region_T 99 (fun w' : World => w'.cell? ⟨b, off + q * 5 + 1, none⟩ = some (.string p.fam) ∧ w'.cell? ⟨b, off + q * 5 + 2, none⟩ = some (.string p.qual) ∧ w'.cell? ⟨cb, 1, none⟩ = some (.string c.fam) ∧ w'.cell? ⟨cb, 2, none⟩ = some (.string c.qual)) (by kernel_rfl) ?_
          refine anyT_takeN (i := 0) (v := ?vvd0) rfl (by kernel_rfl) (by kernel_rfl) (by kernel_rfl) (by rfl) (fun _ _ _ h => h) (Or.inl ⟨by rfl, ?yvd0⟩) hS0 ?_
          case yvd0 => (intro wz hSw; obtain ⟨hz0, hz1, hz2, hz3⟩ := hSw; go_simp; (try with_reducible rfl))
          try simp only [Act.put, List.getElem_toArray, List.getElem_cons_zero, List.getElem_cons_succ, List.setIfInBounds_toArray, List.set_cons_zero, List.set_cons_succ]
          refine anyT_takeN (i := 1) (v := ?vvd1) rfl (by kernel_rfl) (by kernel_rfl) (by kernel_rfl) (by rfl) (fun _ _ _ h => h) (Or.inl ⟨by rfl, ?yvd1⟩) hS0 ?_
          case yvd1 => (intro wz hSw; obtain ⟨hz0, hz1, hz2, hz3⟩ := hSw; go_simp; (try with_reducible rfl))
          try simp only [Act.put, List.getElem_toArray, List.getElem_cons_zero, List.getElem_cons_succ, List.setIfInBounds_toArray, List.set_cons_zero, List.set_cons_succ]
          refine anyT_takeN (i := 2) (v := ?vvd2) rfl (by kernel_rfl) (by kernel_rfl) (by kernel_rfl) (by rfl) (fun _ _ _ h => h) (Or.inl ⟨by rfl, ?yvd2⟩) hS0 ?_
          case yvd2 => (intro wz hSw; obtain ⟨hz0, hz1, hz2, hz3⟩ := hSw; go_simp; (try with_reducible rfl))
          try simp only [Act.put, List.getElem_toArray, List.getElem_cons_zero, List.getElem_cons_succ, List.setIfInBounds_toArray, List.set_cons_zero, List.set_cons_succ]
          refine anyT_takeN (i := 3) (v := ?vvd3) rfl (by kernel_rfl) (by kernel_rfl) (by kernel_rfl) (by rfl) (fun _ _ _ h => h) (Or.inl ⟨by rfl, ?yvd3⟩) hS0 ?_
          case yvd3 => (intro wz hSw; obtain ⟨hz0, hz1, hz2, hz3⟩ := hSw; go_simp; (try with_reducible rfl))
          try simp only [Act.put, List.getElem_toArray, List.getElem_cons_zero, List.getElem_cons_succ, List.setIfInBounds_toArray, List.set_cons_zero, List.set_cons_succ]
          refine anyT_takeN (i := 4) (v := ?vvd4) rfl (by kernel_rfl) (by kernel_rfl) (by kernel_rfl) (by rfl) (fun _ _ _ h => h) (Or.inl ⟨by rfl, ?yvd4⟩) hS0 ?_
          case yvd4 => (intro wz hSw; obtain ⟨hz0, hz1, hz2, hz3⟩ := hSw; go_simp; (try with_reducible rfl))
          try simp only [Act.put, List.getElem_toArray, List.getElem_cons_zero, List.getElem_cons_succ, List.setIfInBounds_toArray, List.set_cons_zero, List.set_cons_succ]
          refine anyT_takeN (i := 5) (v := ?vvd5) rfl (by kernel_rfl) (by kernel_rfl) (by kernel_rfl) (by rfl) (fun _ _ _ h => h) (Or.inl ⟨by rfl, ?yvd5⟩) hS0 ?_
          case yvd5 => (intro wz hSw; obtain ⟨hz0, hz1, hz2, hz3⟩ := hSw; go_simp; (try with_reducible rfl))
          try simp only [Act.put, List.getElem_toArray, List.getElem_cons_zero, List.getElem_cons_succ, List.setIfInBounds_toArray, List.set_cons_zero, List.set_cons_succ]
          refine anyT_takeN (i := 6) (v := ?vvd6) rfl (by kernel_rfl) (by kernel_rfl) (by kernel_rfl) (by rfl) (fun _ _ _ h => h) (Or.inl ⟨by rfl, ?yvd6⟩) hS0 ?_
          case yvd6 => (intro wz hSw; obtain ⟨hz0, hz1, hz2, hz3⟩ := hSw; go_simp; (try with_reducible rfl))
          try simp only [Act.put, List.getElem_toArray, List.getElem_cons_zero, List.getElem_cons_succ, List.setIfInBounds_toArray, List.set_cons_zero, List.set_cons_succ]
          refine anyT_takeN (i := 7) (v := ?vvd7) rfl (by kernel_rfl) (by kernel_rfl) (by kernel_rfl) (by rfl) (fun _ _ _ h => h) (Or.inl ⟨by rfl, ?yvd7⟩) hS0 ?_
          case yvd7 => (intro wz hSw; obtain ⟨hz0, hz1, hz2, hz3⟩ := hSw; go_simp; (try with_reducible rfl))
          try simp only [Act.put, List.getElem_toArray, List.getElem_cons_zero, List.getElem_cons_succ, List.setIfInBounds_toArray, List.set_cons_zero, List.set_cons_succ]
          refine anyT_takeN (i := 8) (v := ?vvd8) rfl (by kernel_rfl) (by kernel_rfl) (by kernel_rfl) (by rfl) (fun _ _ _ h => h) (Or.inl ⟨by rfl, ?yvd8⟩) hS0 ?_
          case yvd8 => (intro wz hSw; obtain ⟨hz0, hz1, hz2, hz3⟩ := hSw; go_simp; (try with_reducible rfl))
          try simp only [Act.put, List.getElem_toArray, List.getElem_cons_zero, List.getElem_cons_succ, List.setIfInBounds_toArray, List.set_cons_zero, List.set_cons_succ]
          refine anyT_takeN (i := 9) (v := ?vvd9) rfl (by kernel_rfl) (by kernel_rfl) (by kernel_rfl) (by rfl) (fun _ _ _ h => h) (Or.inl ⟨by rfl, ?yvd9⟩) hS0 ?_
          case yvd9 => (intro wz hSw; obtain ⟨hz0, hz1, hz2, hz3⟩ := hSw; go_simp; (try with_reducible rfl))
          try simp only [Act.put, List.getElem_toArray, List.getElem_cons_zero, List.getElem_cons_succ, List.setIfInBounds_toArray, List.set_cons_zero, List.set_cons_succ]
          refine anyT_takeN (i := 10) (v := ?vvd10) rfl (by kernel_rfl) (by kernel_rfl) (by kernel_rfl) (by rfl) (fun _ _ _ h => h) (Or.inl ⟨by rfl, ?yvd10⟩) hS0 ?_
          case yvd10 => (intro wz hSw; obtain ⟨hz0, hz1, hz2, hz3⟩ := hSw; go_simp; (try with_reducible rfl))
          try simp only [Act.put, List.getElem_toArray, List.getElem_cons_zero, List.getElem_cons_succ, List.setIfInBounds_toArray, List.set_cons_zero, List.set_cons_succ]
          refine anyT_takeN (i := 11) (v := ?vvd11) rfl (by kernel_rfl) (by kernel_rfl) (by kernel_rfl) (by rfl) (fun _ _ _ h => h) (Or.inl ⟨by rfl, ?yvd11⟩) hS0 ?_
          case yvd11 => (intro wz hSw; obtain ⟨hz0, hz1, hz2, hz3⟩ := hSw; go_simp; (try simp [hf, hq]); (try with_reducible rfl))
          try simp only [Act.put, List.getElem_toArray, List.getElem_cons_zero, List.getElem_cons_succ, List.setIfInBounds_toArray, List.set_cons_zero, List.set_cons_succ]
          refine anyT_takeN (i := 12) (v := ?vvd12) rfl (by kernel_rfl) (by kernel_rfl) (by kernel_rfl) (by rfl) (fun _ _ _ h => h) (Or.inl ⟨by rfl, ?yvd12⟩) hS0 ?_
          case yvd12 => (intro wz hSw; obtain ⟨hz0, hz1, hz2, hz3⟩ := hSw; go_simp; (try with_reducible rfl))
          try simp only [Act.put, List.getElem_toArray, List.getElem_cons_zero, List.getElem_cons_succ, List.setIfInBounds_toArray, List.set_cons_zero, List.set_cons_succ]
          refine anyT_takeN (i := 13) (v := ?vvd13) rfl (by kernel_rfl) (by kernel_rfl) (by kernel_rfl) (by rfl) (fun _ _ _ h => h) (Or.inl ⟨by rfl, ?yvd13⟩) hS0 ?_
          case yvd13 => (intro wz hSw; obtain ⟨hz0, hz1, hz2, hz3⟩ := hSw; go_simp; (try with_reducible rfl))
          try simp only [Act.put, List.getElem_toArray, List.getElem_cons_zero, List.getElem_cons_succ, List.setIfInBounds_toArray, List.set_cons_zero, List.set_cons_succ]
          refine anyT_takeN (i := 14) (v := ?vvd14) rfl (by kernel_rfl) (by kernel_rfl) (by kernel_rfl) (by rfl) (fun _ _ _ h => h) (Or.inl ⟨by rfl, ?yvd14⟩) hS0 ?_
          case yvd14 => (intro wz hSw; obtain ⟨hz0, hz1, hz2, hz3⟩ := hSw; go_simp; (try with_reducible rfl))
          try simp only [Act.put, List.getElem_toArray, List.getElem_cons_zero, List.getElem_cons_succ, List.setIfInBounds_toArray, List.set_cons_zero, List.set_cons_succ]
          refine anyT_takeN (i := 15) (v := ?vvd15) rfl (by kernel_rfl) (by kernel_rfl) (by kernel_rfl) (by rfl) (fun _ _ _ h => h) (Or.inl ⟨by rfl, ?yvd15⟩) hS0 ?_
          case yvd15 => (intro wz hSw; obtain ⟨hz0, hz1, hz2, hz3⟩ := hSw; go_simp; (try with_reducible rfl))
          try simp only [Act.put, List.getElem_toArray, List.getElem_cons_zero, List.getElem_cons_succ, List.setIfInBounds_toArray, List.set_cons_zero, List.set_cons_succ]
          refine anyT_takeN (i := 16) (v := ?vvd16) rfl (by kernel_rfl) (by kernel_rfl) (by kernel_rfl) (by rfl) (fun _ _ _ h => h) (Or.inl ⟨by rfl, ?yvd16⟩) hS0 ?_
          case yvd16 => (intro wz hSw; obtain ⟨hz0, hz1, hz2, hz3⟩ := hSw; go_simp; (try with_reducible rfl))
          try simp only [Act.put, List.getElem_toArray, List.getElem_cons_zero, List.getElem_cons_succ, List.setIfInBounds_toArray, List.set_cons_zero, List.set_cons_succ]
          refine anyT_takeN (i := 17) (v := ?vvd17) rfl (by kernel_rfl) (by kernel_rfl) (by kernel_rfl) (by rfl) (fun _ _ _ h => h) (Or.inl ⟨by rfl, ?yvd17⟩) hS0 ?_
          case yvd17 => (intro wz hSw; obtain ⟨hz0, hz1, hz2, hz3⟩ := hSw; go_simp; (try with_reducible rfl))
          try simp only [Act.put, List.getElem_toArray, List.getElem_cons_zero, List.getElem_cons_succ, List.setIfInBounds_toArray, List.set_cons_zero, List.set_cons_succ]
          refine anyT_takeN (i := 18) (v := ?vvd18) rfl (by kernel_rfl) (by kernel_rfl) (by kernel_rfl) (by rfl) (fun _ _ _ h => h) (Or.inl ⟨by rfl, ?yvd18⟩) hS0 ?_
          case yvd18 => (intro wz hSw; obtain ⟨hz0, hz1, hz2, hz3⟩ := hSw; go_simp; (try with_reducible rfl))
          try simp only [Act.put, List.getElem_toArray, List.getElem_cons_zero, List.getElem_cons_succ, List.setIfInBounds_toArray, List.set_cons_zero, List.set_cons_succ]
          refine anyT_takeN (i := 19) (v := ?vvd19) rfl (by kernel_rfl) (by kernel_rfl) (by kernel_rfl) (by rfl) (fun _ _ _ h => h) (Or.inl ⟨by rfl, ?yvd19⟩) hS0 ?_
          case yvd19 => (intro wz hSw; obtain ⟨hz0, hz1, hz2, hz3⟩ := hSw; go_simp; (try with_reducible rfl))
          try simp only [Act.put, List.getElem_toArray, List.getElem_cons_zero, List.getElem_cons_succ, List.setIfInBounds_toArray, List.set_cons_zero, List.set_cons_succ]
          refine anyT_takeN (i := 20) (v := ?vvd20) rfl (by kernel_rfl) (by kernel_rfl) (by kernel_rfl) (by rfl) (fun _ _ _ h => h) (Or.inl ⟨by rfl, ?yvd20⟩) hS0 ?_
          case yvd20 => (intro wz hSw; obtain ⟨hz0, hz1, hz2, hz3⟩ := hSw; go_simp; (try with_reducible rfl))
          try simp only [Act.put, List.getElem_toArray, List.getElem_cons_zero, List.getElem_cons_succ, List.setIfInBounds_toArray, List.set_cons_zero, List.set_cons_succ]
          refine anyT_takeN (i := 21) (v := ?vvd21) rfl (by kernel_rfl) (by kernel_rfl) (by kernel_rfl) (by rfl) (fun _ _ _ h => h) (Or.inl ⟨by rfl, ?yvd21⟩) hS0 ?_
          case yvd21 => (intro wz hSw; obtain ⟨hz0, hz1, hz2, hz3⟩ := hSw; go_simp; (try with_reducible rfl))
          try simp only [Act.put, List.getElem_toArray, List.getElem_cons_zero, List.getElem_cons_succ, List.setIfInBounds_toArray, List.set_cons_zero, List.set_cons_succ]
          refine anyT_takeN (i := 22) (v := ?vvd22) rfl (by kernel_rfl) (by kernel_rfl) (by kernel_rfl) (by rfl) (fun _ _ _ h => h) (Or.inl ⟨by rfl, ?yvd22⟩) hS0 ?_
          case yvd22 => (intro wz hSw; obtain ⟨hz0, hz1, hz2, hz3⟩ := hSw; go_simp; (try simp [hf, hq]); (try with_reducible rfl))
          try simp only [Act.put, List.getElem_toArray, List.getElem_cons_zero, List.getElem_cons_succ, List.setIfInBounds_toArray, List.set_cons_zero, List.set_cons_succ]
          refine anyT_takeN (i := 23) (v := ?vvd23) rfl (by kernel_rfl) (by kernel_rfl) (by kernel_rfl) (by rfl) (fun _ _ _ h => h) (Or.inl ⟨by rfl, ?yvd23⟩) hS0 ?_
          case yvd23 => (intro wz hSw; obtain ⟨hz0, hz1, hz2, hz3⟩ := hSw; go_simp; (try with_reducible rfl))
          try simp only [Act.put, List.getElem_toArray, List.getElem_cons_zero, List.getElem_cons_succ, List.setIfInBounds_toArray, List.set_cons_zero, List.set_cons_succ]
          refine anyT_done (by kernel_rfl) ?_
          by_cases gq : (ct : Int) < M
          · have HSt : Hid (leafG n [] (es.take (q + 1 + 1)) = leafG n [] (es.take (q + 1)) ++ [c]) := HStep.out.1 gq
            have d0 := HB2.out.2.cell (j := 0) rfl
            have d1 := HB2.out.2.cell (j := 1) rfl
            have d2 := HB2.out.2.cell (j := 2) rfl
            have d3 := HB2.out.2.cell (j := 3) rfl
            have d4 := HB2.out.2.cell (j := 4) rfl
            have HKm : Hid (m = (leafG n [] (es.take (q + 1))).length) := HM.out
            have hgl := HB2.out.1.own.lt
            have hz2 := HB2.out.1.below.size
            obtain ⟨X, hX⟩ : ∃ X, X = W1.drew := ⟨_, rfl⟩
            rw [← hX] at HB2 d0 d1 d2 d3 d4 hgl hz2 ⊢
            clear hX HStep
            go_wp2_with (at_builtin; refine wpList_append_cel _ rfl _ _ rfl w.heap.size g cp _ _ (leafG n [] (es.take (q + 1))) c rfl rfl HKm.out ?hO ?hc ?hl ?hb ?_)
            case hO => exact HB2.out.1.own.below ((Below.refl _ _).alloc (Nat.le_refl _) _) hgl.2
            case hc => exact cel_new X c
            case hl => rw [← HKm.out]; omega
            case hb => (first | omega | (simp; omega))
            intro g' cp' w' hO' hgr
            have HN : Hid (CntOf es (q + 1 + 1) (ct + 1) ∧ m + 1 = (leafG n [] (es.take (q + 1 + 1))).length ∧ VsJ w b off cap es g' cp' (leafG n [] (es.take (q + 1 + 1))) w') := by
              rw [HSt.out]
              exact ⟨HCt.out, by rw [List.length_append, ← HKm.out]; rfl, (HB2.out.1.move ((Below.refl _ _).alloc (Nat.le_refl _) _)).push hO' hgr⟩
            clear hO' hgr d0 d1 d2 d3 d4
            go_wp2_with fail
            go_roundw
            case rel => exact ⟨q + 1 + 1, g', cp', m + 1, ct + 1, by omega, by go_num, rfl, by go_num, by omega, HN.out⟩
            case measure => go_light; simp [intOf]; omega
          · have HN : Hid (CntOf es (q + 1 + 1) (ct + 1) ∧ m = (leafG n [] (es.take (q + 1 + 1))).length ∧ VsJ w b off cap es g cp (leafG n [] (es.take (q + 1 + 1))) W1.drew) := by
              rw [HStep.out.2 gq]
              exact ⟨HCt.out, HM.out, HB2.out.1⟩
            clear HStep
            go_wp2_with fail
            go_roundw
            case rel => exact ⟨q + 1 + 1, g, cp, m, ct + 1, by omega, by go_num, rfl, by go_num, by omega, HN.out⟩
            case measure => go_light; simp [intOf]; omega
    · obtain rfl : i = N := by omega
      have zi : ¬ (i : Int) < (i : Int) := by omega
      go_wp2_with fail
      go_ret
      refine ⟨g, cp, ?_, ?_, HJ.out.2.2.below⟩
      · rw [HLM.out, ← HJ.out.2.1]; rfl
      · rw [HLM.out]; exact HJ.out.2.2.own
end Go.Proofs.YtkidabedcgngcaaGreatDoor

/-
  impl.makeCellTest.
-/
namespace Go.Proofs.YtkidabedcgngcaaGreatDoor
open Go.ChangeShapes Go.WideShapes Go.ChangeAt Go.RowKit Go.Deep
set_option linter.unusedVariables false
set_option linter.unusedSimpArgs false
set_option maxRecDepth 100000

theorem tst_build (k : Int) (s : ByteArray) (h : Bool) (t : ByteArray) (l u n : Int) (w : World) : (Instr.build 111 #[(0, .agg #[.int .i64 k, .string s, .bool h, .string t, .int .u64 l, .int .u64 u, .int .i64 n])]).run Tryz.prog w = .ok (.agg #[.int .i64 k, .string s, .bool h, .string t, .int .u64 l, .int .u64 u, .int .i64 n, .pointer none]) w := by kernel_rfl
def eightV (n : Nd) (mp : Option Addr) : List Value := [.int .i64 n.kind, .string n.s, .bool n.hi, .string n.t, .int .u64 n.lo, .int .u64 n.up, .int .i64 n.n, .pointer mp]
theorem ct_res {w : World} {base g : Nat} {tmps : Array Value} {n : Nd} {mp : Option Addr} (ht : tmps[2]?.getD undef = .pointer (some ⟨g, 0, none⟩)) (h : BoxAt w base 111 8 g (eightV n mp)) : (results Tryz.f71 tmps).run Tryz.prog w = .ok (.agg #[.int .i64 n.kind, .string n.s, .bool n.hi, .string n.t, .int .u64 n.lo, .int .u64 n.up, .int .i64 n.n, .pointer mp]) w := by
  have p0 := h.cell (j := 0) rfl
  have p1 := h.cell (j := 1) rfl
  have p2 := h.cell (j := 2) rfl
  have p3 := h.cell (j := 3) rfl
  have p4 := h.cell (j := 4) rfl
  have p5 := h.cell (j := 5) rfl
  have p6 := h.cell (j := 6) rfl
  have p7 := h.cell (j := 7) rfl
  simp [results, Tryz.results71, ht, go_sem, p0, p1, p2, p3, p4, p5, p6, p7]
def set8 (w : World) (g : Nat) (n : Nd) (mp : Option Addr) : World := (((((((w.setCell ⟨g, 0, none⟩ (.int .i64 n.kind)).setCell ⟨g, 1, none⟩ (.string n.s)).setCell ⟨g, 2, none⟩ (.bool n.hi)).setCell ⟨g, 3, none⟩ (.string n.t)).setCell ⟨g, 4, none⟩ (.int .u64 n.lo)).setCell ⟨g, 5, none⟩ (.int .u64 n.up)).setCell ⟨g, 6, none⟩ (.int .i64 n.n)).setCell ⟨g, 7, none⟩ (.pointer mp)
theorem BoxAt.set8 {w : World} {base t g : Nat} {vs : List Value} (h : BoxAt w base t 8 g vs) (n : Nd) (mp : Option Addr) : BoxAt (Go.Proofs.YtkidabedcgngcaaGreatDoor.set8 w g n mp) base t 8 g (eightV n mp) := by
  have hl := h.len
  match vs, hl with
  | [a0, a1, a2, a3, a4, a5, a6, a7], _ => exact (((((((h.set 0 _).set 1 _).set 2 _).set 3 _).set 4 _).set 5 _).set 6 _).set 7 _
theorem below_set8 {B : Nat} {a w : World} (h : Below B a w) {k : Nat} (hk : B ≤ k) (n : Nd) (mp : Option Addr) : Below B a (set8 w k n mp) := below_set (below_set (below_set (below_set (below_set (below_set (below_set (below_set h hk 0 _) hk 1 _) hk 2 _) hk 3 _) hk 4 _) hk 5 _) hk 6 _) hk 7 _
theorem chg_set8 (w : World) (g : Nat) (n : Nd) (mp : Option Addr) : Chg (fun k => k = g) w (set8 w g n mp) := by
  unfold set8
  refine Chg.trans ?_ (Chg.of_set _ g 7 _ rfl)
  refine Chg.trans ?_ (Chg.of_set _ g 6 _ rfl)
  refine Chg.trans ?_ (Chg.of_set _ g 5 _ rfl)
  refine Chg.trans ?_ (Chg.of_set _ g 4 _ rfl)
  refine Chg.trans ?_ (Chg.of_set _ g 3 _ rfl)
  refine Chg.trans ?_ (Chg.of_set _ g 2 _ rfl)
  refine Chg.trans ?_ (Chg.of_set _ g 1 _ rfl)
  refine Chg.trans ?_ (Chg.of_set _ g 0 _ rfl)
  exact Chg.refl _ _
def CteP (n : Nd) (w : World) (e : Ending) (w' : World) : Prop := ∃ mp : Option Addr, e = .returned (.agg #[.int .i64 n.kind, .string n.s, .bool n.hi, .string n.t, .int .u64 n.lo, .int .u64 n.up, .int .i64 n.n, .pointer mp]) ∧ Hid (TstAt w' w.heap.size w'.heap.size n (.pointer mp) ∧ Below w.heap.size w w')
theorem ct_start (n : Nd) (w W2 : World) (hW2 : W2 = ((w.alloc (.cells n.seven.toArray 75)).alloc (.cells #[.int .i64 0, .string ⟨#[]⟩, .bool false, .string ⟨#[]⟩, .int .u64 0, .int .u64 0, .int .i64 0, .pointer none] 111)).alloc (.cells #[.int .i64 n.kind, .string n.s, .bool n.hi, .string n.t, .int .u64 n.lo, .int .u64 n.up, .int .i64 n.n, .pointer none] 111)) : BoxAt W2 w.heap.size 75 7 w.heap.size n.seven ∧ BoxAt W2 w.heap.size 111 8 (w.heap.size + 1) (#[.int .i64 0, .string ⟨#[]⟩, .bool false, .string ⟨#[]⟩, .int .u64 0, .int .u64 0, .int .i64 0, .pointer none]).toList ∧ BoxAt W2 w.heap.size 111 8 (w.heap.size + 1 + 1) (eightV n none) ∧ Below w.heap.size w W2 := by
  have b1 := boxAt_new w (base := w.heap.size) (t := 75) (sz := 7) n.seven.toArray (Nat.le_refl _) rfl
  obtain ⟨X1, hX1⟩ : ∃ X, X = w.alloc (.cells n.seven.toArray 75) := ⟨_, rfl⟩
  have z1 : X1.heap.size = w.heap.size + 1 := by rw [hX1]; simp
  rw [← hX1] at b1 hW2
  have k1 : Below w.heap.size w X1 := by rw [hX1]; exact (Below.refl _ _).alloc (Nat.le_refl _) _
  have b2 := boxAt_new X1 (base := w.heap.size) (t := 111) (sz := 8) #[.int .i64 0, .string ⟨#[]⟩, .bool false, .string ⟨#[]⟩, .int .u64 0, .int .u64 0, .int .i64 0, .pointer none] (by omega) rfl
  obtain ⟨X2, hX2⟩ : ∃ X, X = X1.alloc (.cells #[.int .i64 0, .string ⟨#[]⟩, .bool false, .string ⟨#[]⟩, .int .u64 0, .int .u64 0, .int .i64 0, .pointer none] 111) := ⟨_, rfl⟩
  have z2 : X2.heap.size = w.heap.size + 1 + 1 := by rw [hX2]; simp [z1]
  rw [← hX2] at b2 hW2
  have k2 : Below X1.heap.size X1 X2 := by rw [hX2]; exact (Below.refl _ _).alloc (Nat.le_refl _) _
  have b3 := boxAt_new X2 (base := w.heap.size) (t := 111) (sz := 8) #[.int .i64 n.kind, .string n.s, .bool n.hi, .string n.t, .int .u64 n.lo, .int .u64 n.up, .int .i64 n.n, .pointer none] (by omega) rfl
  have k3 : Below X2.heap.size X2 W2 := by rw [hW2]; exact (Below.refl _ _).alloc (Nat.le_refl _) _
  rw [← hW2, z2] at b3
  rw [z1] at b2
  exact ⟨(b1.below k2).below k3, b2.below k3, b3, (k1.trans (k2.mono (by omega))).trans (k3.mono (by omega))⟩
theorem ct_fin (n : Nd) (w : World) (hT : TabD w) : ∀ (X : World) (mp : Option Addr), BoxAt X w.heap.size 111 8 (w.heap.size + 1) (#[.int .i64 0, .string ⟨#[]⟩, .bool false, .string ⟨#[]⟩, .int .u64 0, .int .u64 0, .int .i64 0, .pointer none]).toList → Below w.heap.size w X → w.heap.size + 1 < X.heap.size → TstAt X (w.heap.size + 1 + 1 + 1) X.heap.size n (.pointer mp) → CteP n w (.returned (.agg #[.int .i64 n.kind, .string n.s, .bool n.hi, .string n.t, .int .u64 n.lo, .int .u64 n.up, .int .i64 n.n, .pointer mp])) (set8 X (w.heap.size + 1) n mp) ∧ BoxAt (set8 X (w.heap.size + 1) n mp) w.heap.size 111 8 (w.heap.size + 1) (eightV n mp) := fun X mp hB hX hz hTs => by
  have hc := chg_set8 X (w.heap.size + 1) n mp
  have hsz : (set8 X (w.heap.size + 1) n mp).heap.size = X.heap.size := by unfold set8; simp
  refine ⟨⟨mp, rfl, ?_, below_set8 hX (by omega) n mp⟩, hB.set8 n mp⟩
  rw [hsz]
  have hV := hT.lt
  have h9 := hTs.chg hc (fun k q z => by have := z.1; omega) (fun _ q => by omega)
  rcases h9 with q | ⟨q, M, q1, hM⟩
  · exact .inl q
  · exact .inr ⟨q, M, q1, hM.wide (by omega) (Nat.le_refl _) hV⟩
set_option maxHeartbeats 8000000 in
theorem mct_plain (n : Nd) (w : World) (hT : TabD w) (hs : n.s.size ≤ maxLen) (hP : ¬ PatK n.kind) : Calls Tryz.prog 71 #[n.v] w (CteP n w) := by
  obtain ⟨W2, hW2⟩ : ∃ W2 : World, W2 = ((w.alloc (.cells n.seven.toArray 75)).alloc (.cells #[.int .i64 0, .string ⟨#[]⟩, .bool false, .string ⟨#[]⟩, .int .u64 0, .int .u64 0, .int .i64 0, .pointer none] 111)).alloc (.cells #[.int .i64 n.kind, .string n.s, .bool n.hi, .string n.t, .int .u64 n.lo, .int .u64 n.up, .int .i64 n.n, .pointer none] 111) := ⟨_, rfl⟩
  have HW2 : Hid (BoxAt W2 w.heap.size 75 7 w.heap.size n.seven ∧ BoxAt W2 w.heap.size 111 8 (w.heap.size + 1) (#[.int .i64 0, .string ⟨#[]⟩, .bool false, .string ⟨#[]⟩, .int .u64 0, .int .u64 0, .int .i64 0, .pointer none]).toList ∧ BoxAt W2 w.heap.size 111 8 (w.heap.size + 1 + 1) (eightV n none) ∧ Below w.heap.size w W2) := ct_start n w W2 hW2
  have HT : Hid (TabD w ∧ n.s.size ≤ maxLen) := ⟨hT, hs⟩
  have hbd := tst_build n.kind n.s n.hi n.t n.lo n.up n.n
  have HF : Hid (∀ (X : World) (mp : Option Addr), BoxAt X w.heap.size 111 8 (w.heap.size + 1) (#[.int .i64 0, .string ⟨#[]⟩, .bool false, .string ⟨#[]⟩, .int .u64 0, .int .u64 0, .int .i64 0, .pointer none]).toList → Below w.heap.size w X → w.heap.size + 1 < X.heap.size → TstAt X (w.heap.size + 1 + 1 + 1) X.heap.size n (.pointer mp) → CteP n w (.returned (.agg #[.int .i64 n.kind, .string n.s, .bool n.hi, .string n.t, .int .u64 n.lo, .int .u64 n.up, .int .i64 n.n, .pointer mp])) (set8 X (w.heap.size + 1) n mp) ∧ BoxAt (set8 X (w.heap.size + 1) n mp) w.heap.size 111 8 (w.heap.size + 1) (eightV n mp)) := ct_fin n w hT
  clear hT hs
  go_enter Tryz.func71, Tryz.ntmps71
  go_upto_region 2 with fail
  have hW2' := hW2
  simp only [Nd.seven] at hW2'
  rw [← hW2']
  clear hW2 hW2' hbd
  have n0 := HW2.out.1.cell (j := 0) rfl
  have n1 := HW2.out.1.cell (j := 1) rfl
  have hz2 : w.heap.size + 1 + 1 < W2.heap.size := HW2.out.2.2.1.lt.2
  have hk : ¬ n.kind = 4 ∧ ¬ n.kind = 5 ∧ ¬ n.kind = 6 ∧ ¬ n.kind = 7 := by unfold PatK at hP; omega
  have b4 : (n.kind == 4) = false := by rw [beq_eq_false_iff_ne]; exact hk.1
  have b5 : (n.kind == 5) = false := by rw [beq_eq_false_iff_ne]; exact hk.2.1
  have b6 : (n.kind == 6) = false := by rw [beq_eq_false_iff_ne]; exact hk.2.2.1
  have b7 : (n.kind == 7) = false := by rw [beq_eq_false_iff_ne]; exact hk.2.2.2
  clear hk
  have HBx : Hid (BoxAt W2 w.heap.size 111 8 (w.heap.size + 1) (#[.int .i64 0, .string ⟨#[]⟩, .bool false, .string ⟨#[]⟩, .int .u64 0, .int .u64 0, .int .i64 0, .pointer none]).toList ∧ Below w.heap.size w W2 ∧ w.heap.size + 1 < W2.heap.size ∧ TstAt W2 (w.heap.size + 1 + 1 + 1) W2.heap.size n (.pointer none)) := ⟨HW2.out.2.1, HW2.out.2.2.2, by omega, .inl ⟨hP, rfl⟩⟩
  have HE := HF.out W2 none HBx.out.1 HBx.out.2.1 HBx.out.2.2.1 HBx.out.2.2.2
  have HE2 : Hid (CteP n w (.returned (.agg #[.int .i64 n.kind, .string n.s, .bool n.hi, .string n.t, .int .u64 n.lo, .int .u64 n.up, .int .i64 n.n, .pointer none])) (set8 W2 (w.heap.size + 1) n none) ∧ BoxAt (set8 W2 (w.heap.size + 1) n none) w.heap.size 111 8 (w.heap.size + 1) (eightV n none)) := HE
  clear HE
  obtain ⟨W9, hW9⟩ : ∃ W9, W9 = set8 W2 (w.heap.size + 1) n none := ⟨_, rfl⟩
  rw [← hW9] at HE2
  simp only [set8] at hW9
  have m0 := HW2.out.2.2.1.cell (j := 0) rfl
  have m1 := HW2.out.2.2.1.cell (j := 1) rfl
  have m2 := HW2.out.2.2.1.cell (j := 2) rfl
  have m3 := HW2.out.2.2.1.cell (j := 3) rfl
  have m4 := HW2.out.2.2.1.cell (j := 4) rfl
  have m5 := HW2.out.2.2.1.cell (j := 5) rfl
  have m6 := HW2.out.2.2.1.cell (j := 6) rfl
  have m7 := HW2.out.2.2.1.cell (j := 7) rfl
  have r0 := HW2.out.2.1.cell (j := 0) rfl
  have r1 := HW2.out.2.1.cell (j := 1) rfl
  have r2 := HW2.out.2.1.cell (j := 2) rfl
  have r3 := HW2.out.2.1.cell (j := 3) rfl
  have r4 := HW2.out.2.1.cell (j := 4) rfl
  have r5 := HW2.out.2.1.cell (j := 5) rfl
  have r6 := HW2.out.2.1.cell (j := 6) rfl
  have r7 := HW2.out.2.1.cell (j := 7) rfl
  have f0 := HW2.out.2.1.frozen 0
  have f1 := HW2.out.2.1.frozen 1
  have f2 := HW2.out.2.1.frozen 2
  have f3 := HW2.out.2.1.frozen 3
  have f4 := HW2.out.2.1.frozen 4
  have f5 := HW2.out.2.1.frozen 5
  have f6 := HW2.out.2.1.frozen 6
  have f7 := HW2.out.2.1.frozen 7
  go_wp2_with fail
  rw [← hW9]
  exact bodyPost_ret (ct_res (base := w.heap.size) (g := w.heap.size + 1) rfl HE2.out.2) rfl HE2.out.1
end Go.Proofs.YtkidabedcgngcaaGreatDoor

/-
  Steps in memory: func values of rowStep.
-/
namespace Go.Proofs.YtkidabedcgngcaaGreatDoor
open Go.ChangeShapes Go.WideShapes Go.ChangeAt Go.RowKit Go.Deep
set_option linter.unusedVariables false
set_option linter.unusedSimpArgs false
set_option maxRecDepth 100000

abbrev ptrC (p : Nat) : Value := .pointer (some ⟨p, 0, none⟩)
/-- A leaf's step, in blocks of R. -/
inductive LeafAt (w : World) (n : Nd) (R : Nat → Prop) : Value → Prop
  | strip (h : n.kind = 3) : LeafAt w n R (.func (Fn.func 66) #[] #[])
  | vers (h : n.kind = 11) (h1 : 1 ≤ n.n ∧ n.n ≤ 1000) (p : Nat) (hp : R p) (hb : BoxAt w 0 75 7 p n.seven) : LeafAt w n R (.func (Fn.func 67) #[] #[ptrC p])
  | cells (h : n.kind = 12) (h1 : 1 ≤ n.n ∧ n.n ≤ 1000) (p : Nat) (hp : R p) (hb : BoxAt w 0 75 7 p n.seven) : LeafAt w n R (.func (Fn.func 69) #[] #[ptrC p])
  | skip (h : n.kind = 13) (h1 : 1 ≤ n.n ∧ n.n ≤ 1000) (p : Nat) (hp : R p) (hb : BoxAt w 0 75 7 p n.seven) : LeafAt w n R (.func (Fn.func 70) #[] #[ptrC p])
  | test (h : Plain n) (p l m : Nat) (mp : Option Addr) (hp : R p ∧ ¬ InB l m p) (hl : l ≤ m ∧ m ≤ p) (hi : ∀ k, InB l m k → R k) (hb : BoxAt w 0 111 8 p (eightV n mp)) (ht : TstAt w l m n (.pointer mp)) : LeafAt w n R (.func (Fn.func 72) #[] #[ptrC p])
/-- Two parts of R beside each other. -/
structure Twp (R A B : Nat → Prop) : Prop where
  a : ∀ k, A k → R k
  b : ∀ k, B k → R k
  d : ∀ k, A k → ¬ B k
structure Osd (R A : Nat → Prop) (p : Nat) : Prop where
  inn : R p
  out : ¬ A p
/-- A tree's step, in blocks of R. -/
def StepAt (w : World) : CT → (Nat → Prop) → Value → Prop
  | .leaf n, R, fv => LeafAt w n R fv
  | .chain _ a b, R, fv => ∃ (A B : Nat → Prop) (pa pb : Nat) (ka : Nat) (ca : Array Value) (kb : Nat) (cb : Array Value), Twp R A B ∧ Osd R A pa ∧ Osd R B pa ∧ Osd R A pb ∧ Osd R B pb ∧ fv = .func (Fn.func 62) #[] #[ptrC pb, ptrC pa] ∧ BoxAt w 0 58 1 pa [.func (Fn.func ka) #[] ca] ∧ BoxAt w 0 58 1 pb [.func (Fn.func kb) #[] cb] ∧ StepAt w a A (.func (Fn.func ka) #[] ca) ∧ StepAt w b B (.func (Fn.func kb) #[] cb)
  | .inter _ a b, R, fv => ∃ (A B : Nat → Prop) (pa pb : Nat) (ka : Nat) (ca : Array Value) (kb : Nat) (cb : Array Value), Twp R A B ∧ Osd R A pa ∧ Osd R B pa ∧ Osd R A pb ∧ Osd R B pb ∧ fv = .func (Fn.func 63) #[] #[ptrC pa, ptrC pb] ∧ BoxAt w 0 58 1 pa [.func (Fn.func ka) #[] ca] ∧ BoxAt w 0 58 1 pb [.func (Fn.func kb) #[] cb] ∧ StepAt w a A (.func (Fn.func ka) #[] ca) ∧ StepAt w b B (.func (Fn.func kb) #[] cb)
  | .cond _ p a b, R, fv => ∃ (P A B : Nat → Prop) (pp pa pb : Nat) (kp : Nat) (cp : Array Value) (ka : Nat) (ca : Array Value) (kb : Nat) (cb : Array Value), (Twp R P A ∧ Twp R P B ∧ Twp R A B) ∧ (Osd R P pp ∧ Osd R A pp ∧ Osd R B pp) ∧ (Osd R P pa ∧ Osd R A pa ∧ Osd R B pa) ∧ (Osd R P pb ∧ Osd R A pb ∧ Osd R B pb) ∧ fv = .func (Fn.func 102) #[] #[ptrC pp, ptrC pa, ptrC pb] ∧ BoxAt w 0 58 1 pp [.func (Fn.func kp) #[] cp] ∧ BoxAt w 0 58 1 pa [.func (Fn.func ka) #[] ca] ∧ BoxAt w 0 58 1 pb [.func (Fn.func kb) #[] cb] ∧ StepAt w p P (.func (Fn.func kp) #[] cp) ∧ StepAt w a A (.func (Fn.func ka) #[] ca) ∧ StepAt w b B (.func (Fn.func kb) #[] cb)
theorem LeafAt.chg {S R : Nat → Prop} {w w' : World} {n : Nd} {fv : Value} (h : LeafAt w n R fv) (hc : Chg S w w') (hS : ∀ k, S k → ¬ R k) (ht : ¬ S 1) : LeafAt w' n R fv := by
  cases h with
  | strip h => exact .strip h
  | vers h h1 p hp hb => exact .vers h h1 p hp (hb.chg hc (fun q => hS _ q hp))
  | cells h h1 p hp hb => exact .cells h h1 p hp (hb.chg hc (fun q => hS _ q hp))
  | skip h h1 p hp hb => exact .skip h h1 p hp (hb.chg hc (fun q => hS _ q hp))
  | test h p l m mp hp hl hi hb hT => exact .test h p l m mp hp hl hi (hb.chg hc (fun q => hS _ q hp.1)) (hT.chg hc (fun k q z => hS k q (hi k z)) (fun _ => ht))
theorem StepAt.chg {S : Nat → Prop} {w w' : World} (hc : Chg S w w') (ht : ¬ S 1) : ∀ {t : CT} {R : Nat → Prop} {fv : Value}, StepAt w t R fv → (∀ k, S k → ¬ R k) → StepAt w' t R fv
  | .leaf _, _, _, h, hS => LeafAt.chg h hc hS ht
  | .chain _ _ _, _, _, ⟨A, B, pa, pb, ka, ca, kb, cb, h1, h2, h2', h3, h3', h5, h6, h7, h8, h9⟩, hS => ⟨A, B, pa, pb, ka, ca, kb, cb, h1, h2, h2', h3, h3', h5, h6.chg hc (fun q => hS _ q h2.inn), h7.chg hc (fun q => hS _ q h3.inn), h8.chg hc ht (fun k q z => hS k q (h1.a k z)), h9.chg hc ht (fun k q z => hS k q (h1.b k z))⟩
  | .inter _ _ _, _, _, ⟨A, B, pa, pb, ka, ca, kb, cb, h1, h2, h2', h3, h3', h5, h6, h7, h8, h9⟩, hS => ⟨A, B, pa, pb, ka, ca, kb, cb, h1, h2, h2', h3, h3', h5, h6.chg hc (fun q => hS _ q h2.inn), h7.chg hc (fun q => hS _ q h3.inn), h8.chg hc ht (fun k q z => hS k q (h1.a k z)), h9.chg hc ht (fun k q z => hS k q (h1.b k z))⟩
  | .cond _ _ _ _, _, _, ⟨P, A, B, pp, pa, pb, kp, cp, ka, ca, kb, cb, h1, h4, h5, h6, h7, h8, h9, g1, g2, g3, g4⟩, hS => ⟨P, A, B, pp, pa, pb, kp, cp, ka, ca, kb, cb, h1, h4, h5, h6, h7, h8.chg hc (fun q => hS _ q h4.1.inn), h9.chg hc (fun q => hS _ q h5.1.inn), g1.chg hc (fun q => hS _ q h6.1.inn), g2.chg hc ht (fun k q z => hS k q (h1.1.a k z)), g3.chg hc ht (fun k q z => hS k q (h1.1.b k z)), g4.chg hc ht (fun k q z => hS k q (h1.2.1.b k z))⟩
theorem StepAt.below {w w' : World} {t : CT} {R : Nat → Prop} {fv : Value} (h : StepAt w t R fv) (hb : Below w.heap.size w w') : StepAt w' t R fv := h.chg (S := fun _ => False) (Chg.of_below hb) (fun q => q) (fun k q => q.elim)
/-- What a step does. -/
def StpP (t : CT) (R : Nat → Prop) (fv : Value) (rb : Nat) (es : List Ent) (w : World) (e : Ending) (w' : World) : Prop := ∃ b o c, e = .returned (.slice (some ⟨b, o, none⟩) (mean t es).length c) ∧ Hid (CSl w' b o c (mean t es) ∧ (b = rb ∨ w.heap.size ≤ b) ∧ StepAt w' t R fv ∧ Chg R w w')
structure RowIn (w : World) (R : Nat → Prop) (rb ro rc : Nat) (es : List Ent) : Prop where
  sl : CSl w rb ro rc es
  off : ¬ R rb
  sub : Sub es es
  same : SameRow es
  len : es.length ≤ 10000
def StC (t : CT) : Prop := ∀ (w : World) (R : Nat → Prop) (k : Nat) (caps : Array Value) (rb ro rc : Nat) (es : List Ent), StepAt w t R (.func (Fn.func k) #[] caps) → (∀ k, R k → k < w.heap.size) → ¬ R 1 → RowIn w R rb ro rc es →
  Calls Tryz.prog k (#[.slice (some ⟨rb, ro, none⟩) es.length rc] ++ caps) w (StpP t R (.func (Fn.func k) #[] caps) rb es w)
theorem stp_own {t : CT} {R : Nat → Prop} {fv : Value} {rb : Nat} {es : List Ent} {w w' : World} {g cp : Nat} (hO : OwnC w' w.heap.size g cp (mean t es)) (hS : StepAt w' t R fv) (hc : Chg R w w') : StpP t R fv rb es w (.returned (.slice (some ⟨g, 0, none⟩) (mean t es).length cp)) w' := ⟨g, 0, cp, rfl, hO.sl, .inr hO.lt.1, hS, hc⟩
theorem leafG_take (n : Nd) (h : n.kind = 12) : ∀ (es pre : List Ent), leafG n pre es = es.take (n.n.toNat - pre.length)
  | [], _ => by simp [leafG]
  | c :: es, pre => by
    have hs : stripE n c = c := by unfold stripE; rw [if_neg (by omega)]
    have hk : keepB n pre c = decide ((pre.length : Int) < n.n) := by unfold keepB; rw [if_neg (by omega), if_pos h]
    have ih := leafG_take n h es (pre ++ [c])
    rw [List.length_append, List.length_singleton] at ih
    unfold leafG
    rw [hs, ih]
    by_cases q : (pre.length : Int) < n.n
    · rw [hk, if_pos (decide_eq_true q), show n.n.toNat - pre.length = (n.n.toNat - (pre.length + 1)) + 1 by omega, List.take_succ_cons]
    · rw [hk, if_neg (by rw [decide_eq_true_iff]; exact q), show n.n.toNat - pre.length = 0 by omega, show n.n.toNat - (pre.length + 1) = 0 by omega]
      simp
theorem leafG_drop (n : Nd) (h : n.kind = 13) : ∀ (es pre : List Ent), leafG n pre es = es.drop (n.n.toNat - pre.length)
  | [], _ => by simp [leafG]
  | c :: es, pre => by
    have hs : stripE n c = c := by unfold stripE; rw [if_neg (by omega)]
    have hk : keepB n pre c = decide (n.n ≤ (pre.length : Int)) := by unfold keepB; rw [if_neg (by omega), if_neg (by omega), if_pos h]
    have ih := leafG_drop n h es (pre ++ [c])
    rw [List.length_append, List.length_singleton] at ih
    unfold leafG
    rw [hs, ih]
    by_cases q : n.n ≤ (pre.length : Int)
    · rw [hk, if_pos (decide_eq_true q), show n.n.toNat - pre.length = 0 by omega, show n.n.toNat - (pre.length + 1) = 0 by omega]
      simp
    · rw [hk, if_neg (by rw [decide_eq_true_iff]; exact q), show n.n.toNat - pre.length = (n.n.toNat - (pre.length + 1)) + 1 by omega, List.drop_succ_cons]
set_option maxHeartbeats 4000000 in
theorem step_leaf (n : Nd) : StC (.leaf n) := by
  intro w R k caps rb ro rc es hS hh hV hR
  have hL : LeafAt w n R (.func (Fn.func k) #[] caps) := hS
  have hSt : Hid (StepAt w (.leaf n) R (.func (Fn.func k) #[] caps)) := hS
  clear hS
  have HR : Hid (RowIn w R rb ro rc es ∧ (∀ k, R k → k < w.heap.size)) := ⟨hR, hh⟩
  have hel := hR.len
  have hrc := hR.sl.len
  have hcm : rc ≤ 9223372036854775807 := by have := hR.sl.cap; unfold maxLen at this; omega
  obtain ⟨fv, hfv⟩ : ∃ fv, fv = (.func (Fn.func k) #[] caps : Value) := ⟨_, rfl⟩
  rw [← hfv] at hL
  cases hL with
  | strip h =>
    cases hfv
    refine (strip_core n h hR.sl hel).mono ?_
    rintro e w' ⟨g, cp, rfl, hO, hb⟩
    exact stp_own (t := .leaf n) hO (hSt.out.below hb) (Chg.of_below hb)
  | vers h h1 p hp hb =>
    cases hfv
    have HC : Hid (Calls Tryz.prog 68 #[.slice (some ⟨rb, ro, none⟩) es.length rc, .int .i64 n.n] w fun e w' => ∃ g cp, e = .returned (.slice (some ⟨g, 0, none⟩) (leafM n es).length cp) ∧ OwnC w' w.heap.size g cp (leafM n es) ∧ Below w.heap.size w w') := versions_core n h h1 hR.sl hR.sub.ord hR.same hel
    have c6 := hb.cell (j := 6) rfl
    obtain ⟨N, hN⟩ : ∃ N, N = es.length := ⟨_, rfl⟩
    rw [← hN] at HC ⊢
    clear hR hb h hN
    show Calls Tryz.prog 67 #[.slice (some ⟨rb, ro, none⟩) N rc, ptrC p] w _
    go_enter Tryz.func67, Tryz.ntmps67
    go_wp2_with fail
    refine HC.out.mono ?_
    rintro e w' ⟨g, cp, rfl, hO, hb⟩
    have HE : Hid (StpP (.leaf n) R (.func (Fn.func 67) #[] #[ptrC p]) rb es w (.returned (.slice (some ⟨g, 0, none⟩) (leafM n es).length cp)) w') := stp_own (t := .leaf n) hO (hSt.out.below hb) (Chg.of_below hb)
    clear hO hb
    go_wp2_with fail
    go_ret
    exact HE.out
  | cells h h1 p hp hb =>
    cases hfv
    have c6 := hb.cell (j := 6) rfl
    obtain ⟨q, hq⟩ : ∃ q : Nat, n.n = (q : Int) := ⟨n.n.toNat, by omega⟩
    have HM : Hid (mean (.leaf n) es = es.take (min es.length q)) := by
      show leafG n [] es = _
      rw [leafG_take n h, hq, List.length_nil, Nat.sub_zero, Int.toNat_natCast, List.take_eq_take_min, Nat.min_comm]
    have HE : Hid (StpP (.leaf n) R (.func (Fn.func 69) #[] #[ptrC p]) rb es w (.returned (.slice (some ⟨rb, ro, none⟩) (min es.length q) rc)) w) := by
      refine ⟨rb, ro, rc, by rw [HM.out, List.length_take]; congr 2; omega, ?_, .inl rfl, hSt.out, Chg.refl _ _⟩
      rw [HM.out]; exact hR.sl.take (by omega)
    have hq2 : q ≤ 1000 := by omega
    obtain ⟨N, hN⟩ : ∃ N, N = es.length := ⟨_, rfl⟩
    rw [← hN] at hel hrc HE ⊢
    rw [hq] at c6
    clear hR hb h hN hq h1
    show Calls Tryz.prog 69 #[.slice (some ⟨rb, ro, none⟩) N rc, ptrC p] w _
    obtain ⟨mq, hmq⟩ : ∃ mq, mq = min N q := ⟨_, rfl⟩
    have hmin : min (N : Int) (q : Int) = (mq : Int) := by omega
    have hmN : mq ≤ N := by omega
    rw [← hmq] at HE
    clear hmq
    go_enter Tryz.func69, Tryz.ntmps69
    go_wp2_with fail
    go_ret
    exact HE.out
  | skip h h1 p hp hb =>
    cases hfv
    have c6 := hb.cell (j := 6) rfl
    obtain ⟨q, hq⟩ : ∃ q : Nat, n.n = (q : Int) := ⟨n.n.toNat, by omega⟩
    have HM : Hid (mean (.leaf n) es = es.drop (min es.length q)) := by
      show leafG n [] es = _
      rw [leafG_drop n h, hq, List.length_nil, Nat.sub_zero, Int.toNat_natCast]
      by_cases hle : es.length ≤ q
      · rw [Nat.min_eq_left hle, List.drop_of_length_le hle, List.drop_of_length_le (Nat.le_refl _)]
      · rw [Nat.min_eq_right (by omega)]
    have hq2 : q ≤ 1000 := by omega
    have HE : Hid (∀ o', (min es.length q < es.length → o' = ro + min es.length q * 5) → StpP (.leaf n) R (.func (Fn.func 70) #[] #[ptrC p]) rb es w (.returned (.slice (some ⟨rb, o', none⟩) (es.length - min es.length q) (rc - min es.length q))) w) := fun o' ho => by
      have hs := hR.sl.drop (k := min es.length q) (by omega)
      refine ⟨rb, o', rc - min es.length q, by rw [HM.out, List.length_drop], ?_, .inl rfl, hSt.out, Chg.refl _ _⟩
      rw [HM.out]
      exact ⟨cels_drop hs.at_ ho, hs.lt, hs.len, hs.cap⟩
    obtain ⟨N, hN⟩ : ∃ N, N = es.length := ⟨_, rfl⟩
    rw [← hN] at hel hrc HE ⊢
    rw [hq] at c6
    clear hR hb h hN hq h1
    show Calls Tryz.prog 70 #[.slice (some ⟨rb, ro, none⟩) N rc, ptrC p] w _
    obtain ⟨mq, hmq⟩ : ∃ mq, mq = min N q := ⟨_, rfl⟩
    have hmin : min (N : Int) (q : Int) = (mq : Int) := by omega
    have hmN : mq ≤ N := by omega
    rw [← hmq] at HE
    clear hmq
    by_cases hrm : mq = rc
    · have HE1 : Hid (StpP (.leaf n) R (.func (Fn.func 70) #[] #[ptrC p]) rb es w (.returned (.slice (some ⟨rb, ro, none⟩) (N - mq) (rc - mq))) w) := HE.out ro (fun z => by omega)
      have hrm2 : rc - mq = 0 := by omega
      have hrm3 : N - mq = 0 := by omega
      rw [hrm2, hrm3] at HE1
      subst hrm
      go_enter Tryz.func70, Tryz.ntmps70
      go_wp2_with fail
      go_ret
      exact HE1.out
    · have HE1 : Hid (StpP (.leaf n) R (.func (Fn.func 70) #[] #[ptrC p]) rb es w (.returned (.slice (some ⟨rb, ro + mq * 5, none⟩) (N - mq) (rc - mq))) w) := HE.out _ (fun _ => rfl)
      have hrm2 : ¬ rc = mq := fun z => hrm z.symm
      go_enter Tryz.func70, Tryz.ntmps70
      go_wp2_with fail
      go_ret
      exact HE1.out
  | test h p l m mp hp hl hi hb hT =>
    cases hfv
    have HK : Hid (Calls Tryz.prog 73 #[.slice (some ⟨rb, ro, none⟩) es.length rc, .func (Fn.func 74) #[.agg #[.int .i64 n.kind, .string n.s, .bool n.hi, .string n.t, .int .u64 n.lo, .int .u64 n.up, .int .i64 n.n, .pointer mp]] #[]] w (KeP w l m n (.pointer mp) es)) := keep_core n h mp hR.sl hel l m hT (by have h9 := hh p hp.1; omega) hl.1 (fun z => hR.off (hi _ z))
    have HT : Hid (Plain n ∧ R p ∧ ¬ InB l m p ∧ (l ≤ m ∧ m ≤ p) ∧ (∀ k, InB l m k → R k) ∧ BoxAt w 0 111 8 p (eightV n mp)) := ⟨h, hp.1, hp.2, hl, hi, hb⟩
    have c0 := hb.cell (j := 0) rfl
    have c1 := hb.cell (j := 1) rfl
    have c2 := hb.cell (j := 2) rfl
    have c3 := hb.cell (j := 3) rfl
    have c4 := hb.cell (j := 4) rfl
    have c5 := hb.cell (j := 5) rfl
    have c6 := hb.cell (j := 6) rfl
    have c7 := hb.cell (j := 7) rfl
    obtain ⟨N, hN⟩ : ∃ N, N = es.length := ⟨_, rfl⟩
    rw [← hN] at HK ⊢
    clear hR hb h hN hT hel hrc hh hV hi hp
    show Calls Tryz.prog 72 #[.slice (some ⟨rb, ro, none⟩) N rc, ptrC p] w _
    go_enter Tryz.func72, Tryz.ntmps72
    go_wp2_with fail
    refine HK.out.mono ?_
    rintro e w' ⟨g, cp, rfl, H⟩
    have HE : Hid (StpP (.leaf n) R (.func (Fn.func 72) #[] #[ptrC p]) rb es w (.returned (.slice (some ⟨g, 0, none⟩) (leafM n es).length cp)) w') := by
      have hc := H.out.chg
      have ht := HT.out
      exact stp_own (t := .leaf n) H.out.own (.test ht.1 p l m mp ⟨ht.2.1, ht.2.2.1⟩ ht.2.2.2.1 ht.2.2.2.2.1 (ht.2.2.2.2.2.chg hc ht.2.2.1) H.out.tst) (hc.mono ht.2.2.2.2.1)
    go_wp2_with fail
    go_ret
    exact HE.out
end Go.Proofs.YtkidabedcgngcaaGreatDoor

