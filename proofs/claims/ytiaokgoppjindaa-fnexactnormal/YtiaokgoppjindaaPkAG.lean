import Derived.Test.YtiaokgoppjindaaPkAF
import Derived.Test.YtiaokgoppjindaaPkAD
import Derived.Test.YtiaokgoppjindaaPkAE
/-
  impl's normalNode.
-/
namespace Go.Proofs.Ytiaokgoppjindaa
open Go.ChangeShapes Go.WideShapes Go.ChangeAt Go.RowKit Go.Deep
set_option linter.unusedVariables false
set_option linter.unusedSimpArgs false
set_option maxRecDepth 100000

theorem Opd.below {S : Nat → Prop} {w w' : World} {u : Value} {x : List Nd} (h : Opd S w u x) (hb : Below w.heap.size w w') : Opd S w' u x := ⟨h.own.below hb, h.ne, h.blk, h.good, h.len⟩
theorem NmI.back {S : Nat → Prop} {y : List Nd} {w w1 : World} {r : Ending} {w' : World} (hb : Below w.heap.size w w1) (h : NmI S y w1 r w') : NmI S y w r w' := by
  obtain ⟨v, hv, h1, h2, h3⟩ := h
  refine ⟨v, hv, h1, fun a n c hq => ?_, hb.trans (h3.mono hb.size)⟩
  rcases h2 a n c hq with q | q
  · exact .inl q
  · exact .inr (by have := hb.size; omega)
set_option maxHeartbeats 8000000 in
theorem normalNode_core (S : Nat → Prop) (e : Nd) (g f c : Nat) (us : List Value) (xs : List (List Nd)) (w : World) (hg : GoodN e) (hgl : g < w.heap.size) (hl : xs.length = arity e.kind) (hul : us.length = xs.length) (hc : ∀ (j : Nat) (u : Value), us[j]? = some u → w.cell? ⟨g, f + j, none⟩ = some u) (hO : ∀ (j : Nat) (u : Value) (x : List Nd), us[j]? = some u → xs[j]? = some x → Opd S w u x) :
    Calls Try.prog 17 #[e.v, .slice (some ⟨g, f, none⟩) xs.length c] w (NmI S (normOf e xs) w) := by
  obtain ⟨y, hy⟩ : ∃ y, y = normOf e xs := ⟨_, rfl⟩
  rw [← hy]
  have HH : Hid (y = normOf e xs ∧ GoodN e ∧ xs.length = arity e.kind ∧ us.length = xs.length ∧ (∀ (j : Nat) (u : Value), us[j]? = some u → w.cell? ⟨g, f + j, none⟩ = some u) ∧ (∀ (j : Nat) (u : Value) (x : List Nd), us[j]? = some u → xs[j]? = some x → Opd S w u x)) := ⟨hy, hg, hl, hul, hc, hO⟩
  obtain ⟨W0, hW0⟩ : ∃ W0 : World, W0 = w.alloc (Obj.cells #[.int .i64 e.kind, .string e.s, .bool e.hi, .string e.t, .int .u64 e.lo, .int .u64 e.up, .int .i64 e.n] 48) := ⟨_, rfl⟩
  have hb0 : Below w.heap.size w W0 := by rw [hW0]; exact (Below.refl _ _).alloc (Nat.le_refl _) _
  obtain ⟨d0, d1, d2, d3, d4, d5, d6⟩ : W0.cell? ⟨w.heap.size, 0, none⟩ = some (.int .i64 e.kind) ∧ W0.cell? ⟨w.heap.size, 1, none⟩ = some (.string e.s) ∧ W0.cell? ⟨w.heap.size, 2, none⟩ = some (.bool e.hi) ∧ W0.cell? ⟨w.heap.size, 3, none⟩ = some (.string e.t) ∧ W0.cell? ⟨w.heap.size, 4, none⟩ = some (.int .u64 e.lo) ∧ W0.cell? ⟨w.heap.size, 5, none⟩ = some (.int .u64 e.up) ∧ W0.cell? ⟨w.heap.size, 6, none⟩ = some (.int .i64 e.n) := by
    rw [hW0]
    refine ⟨?_, ?_, ?_, ?_, ?_, ?_, ?_⟩ <;> simp
  clear hy hg hc hO
  go_enter Try.func17, Try.ntmps17
  go_upto_region 1 with fail
  rw [← hW0]
  clear hW0
  by_cases hk14 : e.kind = 14
  case pos =>
    have hxl : xs.length = 2 := by rw [HH.out.2.2.1, hk14]; rfl
    obtain ⟨x0, x1, hxs⟩ : ∃ x0 x1, xs = [x0, x1] := by
      match xs, hxl with
      | [x0, x1], _ => exact ⟨x0, x1, rfl⟩
    have hul2 : us.length = 2 := by rw [HH.out.2.2.2.1]; exact hxl
    obtain ⟨u0, u1, hus⟩ : ∃ u0 u1, us = [u0, u1] := by
      match us, hul2 with
      | [u0, u1], _ => exact ⟨u0, u1, rfl⟩
    have hp0 : Opd S w u0 x0 := HH.out.2.2.2.2.2 0 u0 x0 (by rw [hus]; rfl) (by rw [hxs]; rfl)
    obtain ⟨b0, o0, c0, hu0, _, _⟩ := hp0.form
    have m0 : W0.cell? ⟨g, f, none⟩ = some u0 := by rw [hb0.cell (p := ⟨g, f, none⟩) hgl]; exact HH.out.2.2.2.2.1 0 u0 (by rw [hus]; rfl)
    have hp1 : Opd S w u1 x1 := HH.out.2.2.2.2.2 1 u1 x1 (by rw [hus]; rfl) (by rw [hxs]; rfl)
    obtain ⟨b1, o1, c1, hu1, _, _⟩ := hp1.form
    have m1 : W0.cell? ⟨g, f + 1, none⟩ = some u1 := by rw [hb0.cell (p := ⟨g, f + 1, none⟩) hgl]; exact HH.out.2.2.2.2.1 1 u1 (by rw [hus]; rfl)
    have HC : Hid (∀ wx, Below W0.heap.size W0 wx → Calls Try.prog 34 #[.slice (some ⟨b0, o0, none⟩) x0.length c0, .slice (some ⟨b1, o1, none⟩) x1.length c1] wx (NmI S y w)) := by
      intro wx hx
      have hbx := hb0.trans (hx.mono hb0.size)
      have h9 := normalChain_core S u0 u1 x0 x1 wx (hp0.below hbx) (hp1.below hbx)
      refine Calls.mono (by rw [hu0, hu1] at h9; exact h9) ?_
      intro r w' hr
      rw [show y = normOf (bareNd 14) [x0, x1] by rw [HH.out.1, hxs, good_bare HH.out.2.1 (by omega), hk14]]
      exact hr.back hbx
    rw [hu0] at m0
    rw [hu1] at m1
    rw [hxs]
    try simp only [List.length_cons, List.length_nil, Nat.zero_add, Nat.reduceAdd]
    clear hxl hul2 hus hxs hul hl d1 d2 d3 d4 d5 d6 hp0 hu0 hp1 hu1
    have hS : (fun w' : World => w'.cell? ⟨g, f, none⟩ = some (.slice (some ⟨b0, o0, none⟩) x0.length c0) ∧ w'.cell? ⟨g, f + 1, none⟩ = some (.slice (some ⟨b1, o1, none⟩) x1.length c1)) W0.drew := ⟨m0, m1⟩
    go_upto_region 3 with fail
    refine wp_region_T 7 (fun w' : World => w'.cell? ⟨g, f, none⟩ = some (.slice (some ⟨b0, o0, none⟩) x0.length c0) ∧ w'.cell? ⟨g, f + 1, none⟩ = some (.slice (some ⟨b1, o1, none⟩) x1.length c1)) (by kernel_rfl) ?_
    refine anyT_take (i := 0) (v := ?vq14x0) rfl (by kernel_rfl) (by kernel_rfl) (by kernel_rfl) (by kernel_rfl) (by decide) (fun _ _ _ h => h) (Or.inl ⟨by rfl, ?yq14x0⟩) hS ?_
    case yq14x0 => (intro wz hSw; (try dsimp only at hSw); go_simp; (try with_reducible rfl))
    try simp only [Act.put, List.setIfInBounds_toArray, List.set_cons_zero, List.set_cons_succ]
    refine anyT_take (i := 1) (v := ?vq14x1) rfl (by kernel_rfl) (by kernel_rfl) (by kernel_rfl) (by kernel_rfl) (by decide) (fun _ _ _ h => h) (Or.inl ⟨by rfl, ?yq14x1⟩) hS ?_
    case yq14x1 => (intro wz hSw; (try dsimp only at hSw); go_simp; (try with_reducible rfl))
    try simp only [Act.put, List.setIfInBounds_toArray, List.set_cons_zero, List.set_cons_succ]
    refine anyT_take (i := 2) (v := ?vq14x2) rfl (by kernel_rfl) (by kernel_rfl) (by kernel_rfl) (by kernel_rfl) (by decide) (fun _ _ _ h => h) (Or.inl ⟨by rfl, ?yq14x2⟩) hS ?_
    case yq14x2 => (intro wz hSw; (try dsimp only at hSw); go_simp; (try with_reducible rfl))
    try simp only [Act.put, List.setIfInBounds_toArray, List.set_cons_zero, List.set_cons_succ]
    refine anyT_take (i := 3) (v := ?vq14x3) rfl (by kernel_rfl) (by kernel_rfl) (by kernel_rfl) (by kernel_rfl) (by decide) (fun _ _ _ h => h) (Or.inl ⟨by rfl, ?yq14x3⟩) hS ?_
    case yq14x3 => (intro wz hSw; (try dsimp only at hSw); go_simp; (try with_reducible rfl))
    try simp only [Act.put, List.setIfInBounds_toArray, List.set_cons_zero, List.set_cons_succ]
    refine anyT_take (i := 4) (v := ?vq14x4) rfl (by kernel_rfl) (by kernel_rfl) (by kernel_rfl) (by kernel_rfl) (by decide) (fun _ _ _ h => h) (Or.inl ⟨by rfl, ?yq14x4⟩) hS ?_
    case yq14x4 => (intro wz hSw; (try dsimp only at hSw); go_simp; (try with_reducible rfl))
    try simp only [Act.put, List.setIfInBounds_toArray, List.set_cons_zero, List.set_cons_succ]
    refine anyT_take (i := 5) (v := ?vq14x5) rfl (by kernel_rfl) (by kernel_rfl) (by kernel_rfl) (by kernel_rfl) (by decide) (fun _ _ _ h => h) (Or.inl ⟨by rfl, ?yq14x5⟩) hS ?_
    case yq14x5 => (intro wz hSw; (try dsimp only at hSw); go_simp; (try with_reducible rfl))
    try simp only [Act.put, List.setIfInBounds_toArray, List.set_cons_zero, List.set_cons_succ]
    refine anyT_one (i := 6) (by kernel_rfl) rfl (fun K hK => ?_)
    go_simp
    go_at_call 34
    refine (HC.out W0.drew (Below.refl _ _).drew).mono ?_
    rintro r w3 hr3
    have HR3 : Hid (NmI S y w r w3) := hr3
    obtain ⟨v3, rfl, _, _, hb3⟩ := hr3
    obtain ⟨t0, t1⟩ : (fun w' : World => w'.cell? ⟨g, f, none⟩ = some (.slice (some ⟨b0, o0, none⟩) x0.length c0) ∧ w'.cell? ⟨g, f + 1, none⟩ = some (.slice (some ⟨b1, o1, none⟩) x1.length c1)) w3 := by
      refine ⟨?_, ?_⟩
      · rw [hb3.cell (p := ⟨g, f, none⟩) hgl, ← hb0.cell (p := ⟨g, f, none⟩) hgl]; exact m0
      · rw [hb3.cell (p := ⟨g, f + 1, none⟩) hgl, ← hb0.cell (p := ⟨g, f + 1, none⟩) hgl]; exact m1
    refine hK.out _ _ (.inr ⟨t0, t1⟩) ?_
    clear hK
    try simp only [Act.put, List.setIfInBounds_toArray, List.set_cons_zero, List.set_cons_succ]
    refine anyT_one (i := 7) (by kernel_rfl) rfl (fun K hK => ?_)
    go_simp
    refine hK.out _ _ (.inl rfl) ?_
    clear hK
    try simp only [Act.put, List.setIfInBounds_toArray, List.set_cons_zero, List.set_cons_succ]
    refine anyT_done (by kernel_rfl) ?_
    go_wp2_with fail
    go_ret
    exact HR3.out
  by_cases hk15 : e.kind = 15
  case pos =>
    have hxl : xs.length = 2 := by rw [HH.out.2.2.1, hk15]; rfl
    obtain ⟨x0, x1, hxs⟩ : ∃ x0 x1, xs = [x0, x1] := by
      match xs, hxl with
      | [x0, x1], _ => exact ⟨x0, x1, rfl⟩
    have hul2 : us.length = 2 := by rw [HH.out.2.2.2.1]; exact hxl
    obtain ⟨u0, u1, hus⟩ : ∃ u0 u1, us = [u0, u1] := by
      match us, hul2 with
      | [u0, u1], _ => exact ⟨u0, u1, rfl⟩
    have hp0 : Opd S w u0 x0 := HH.out.2.2.2.2.2 0 u0 x0 (by rw [hus]; rfl) (by rw [hxs]; rfl)
    obtain ⟨b0, o0, c0, hu0, _, _⟩ := hp0.form
    have m0 : W0.cell? ⟨g, f, none⟩ = some u0 := by rw [hb0.cell (p := ⟨g, f, none⟩) hgl]; exact HH.out.2.2.2.2.1 0 u0 (by rw [hus]; rfl)
    have hp1 : Opd S w u1 x1 := HH.out.2.2.2.2.2 1 u1 x1 (by rw [hus]; rfl) (by rw [hxs]; rfl)
    obtain ⟨b1, o1, c1, hu1, _, _⟩ := hp1.form
    have m1 : W0.cell? ⟨g, f + 1, none⟩ = some u1 := by rw [hb0.cell (p := ⟨g, f + 1, none⟩) hgl]; exact HH.out.2.2.2.2.1 1 u1 (by rw [hus]; rfl)
    have HC : Hid (∀ wx, Below W0.heap.size W0 wx → Calls Try.prog 35 #[.slice (some ⟨b0, o0, none⟩) x0.length c0, .slice (some ⟨b1, o1, none⟩) x1.length c1] wx (NmI S y w)) := by
      intro wx hx
      have hbx := hb0.trans (hx.mono hb0.size)
      have h9 := normalInter_core S u0 u1 x0 x1 wx (hp0.below hbx) (hp1.below hbx)
      refine Calls.mono (by rw [hu0, hu1] at h9; exact h9) ?_
      intro r w' hr
      rw [show y = normOf (bareNd 15) [x0, x1] by rw [HH.out.1, hxs, good_bare HH.out.2.1 (by omega), hk15]]
      exact hr.back hbx
    rw [hu0] at m0
    rw [hu1] at m1
    rw [hxs]
    try simp only [List.length_cons, List.length_nil, Nat.zero_add, Nat.reduceAdd]
    clear hxl hul2 hus hxs hul hl d1 d2 d3 d4 d5 d6 hp0 hu0 hp1 hu1
    have hS : (fun w' : World => w'.cell? ⟨g, f, none⟩ = some (.slice (some ⟨b0, o0, none⟩) x0.length c0) ∧ w'.cell? ⟨g, f + 1, none⟩ = some (.slice (some ⟨b1, o1, none⟩) x1.length c1)) W0.drew := ⟨m0, m1⟩
    go_upto_region 5 with fail
    refine wp_region_T 7 (fun w' : World => w'.cell? ⟨g, f, none⟩ = some (.slice (some ⟨b0, o0, none⟩) x0.length c0) ∧ w'.cell? ⟨g, f + 1, none⟩ = some (.slice (some ⟨b1, o1, none⟩) x1.length c1)) (by kernel_rfl) ?_
    refine anyT_take (i := 0) (v := ?vq15x0) rfl (by kernel_rfl) (by kernel_rfl) (by kernel_rfl) (by kernel_rfl) (by decide) (fun _ _ _ h => h) (Or.inl ⟨by rfl, ?yq15x0⟩) hS ?_
    case yq15x0 => (intro wz hSw; (try dsimp only at hSw); go_simp; (try with_reducible rfl))
    try simp only [Act.put, List.setIfInBounds_toArray, List.set_cons_zero, List.set_cons_succ]
    refine anyT_take (i := 1) (v := ?vq15x1) rfl (by kernel_rfl) (by kernel_rfl) (by kernel_rfl) (by kernel_rfl) (by decide) (fun _ _ _ h => h) (Or.inl ⟨by rfl, ?yq15x1⟩) hS ?_
    case yq15x1 => (intro wz hSw; (try dsimp only at hSw); go_simp; (try with_reducible rfl))
    try simp only [Act.put, List.setIfInBounds_toArray, List.set_cons_zero, List.set_cons_succ]
    refine anyT_take (i := 2) (v := ?vq15x2) rfl (by kernel_rfl) (by kernel_rfl) (by kernel_rfl) (by kernel_rfl) (by decide) (fun _ _ _ h => h) (Or.inl ⟨by rfl, ?yq15x2⟩) hS ?_
    case yq15x2 => (intro wz hSw; (try dsimp only at hSw); go_simp; (try with_reducible rfl))
    try simp only [Act.put, List.setIfInBounds_toArray, List.set_cons_zero, List.set_cons_succ]
    refine anyT_take (i := 3) (v := ?vq15x3) rfl (by kernel_rfl) (by kernel_rfl) (by kernel_rfl) (by kernel_rfl) (by decide) (fun _ _ _ h => h) (Or.inl ⟨by rfl, ?yq15x3⟩) hS ?_
    case yq15x3 => (intro wz hSw; (try dsimp only at hSw); go_simp; (try with_reducible rfl))
    try simp only [Act.put, List.setIfInBounds_toArray, List.set_cons_zero, List.set_cons_succ]
    refine anyT_take (i := 4) (v := ?vq15x4) rfl (by kernel_rfl) (by kernel_rfl) (by kernel_rfl) (by kernel_rfl) (by decide) (fun _ _ _ h => h) (Or.inl ⟨by rfl, ?yq15x4⟩) hS ?_
    case yq15x4 => (intro wz hSw; (try dsimp only at hSw); go_simp; (try with_reducible rfl))
    try simp only [Act.put, List.setIfInBounds_toArray, List.set_cons_zero, List.set_cons_succ]
    refine anyT_take (i := 5) (v := ?vq15x5) rfl (by kernel_rfl) (by kernel_rfl) (by kernel_rfl) (by kernel_rfl) (by decide) (fun _ _ _ h => h) (Or.inl ⟨by rfl, ?yq15x5⟩) hS ?_
    case yq15x5 => (intro wz hSw; (try dsimp only at hSw); go_simp; (try with_reducible rfl))
    try simp only [Act.put, List.setIfInBounds_toArray, List.set_cons_zero, List.set_cons_succ]
    refine anyT_one (i := 6) (by kernel_rfl) rfl (fun K hK => ?_)
    go_simp
    go_at_call 35
    refine (HC.out W0.drew (Below.refl _ _).drew).mono ?_
    rintro r w3 hr3
    have HR3 : Hid (NmI S y w r w3) := hr3
    obtain ⟨v3, rfl, _, _, hb3⟩ := hr3
    obtain ⟨t0, t1⟩ : (fun w' : World => w'.cell? ⟨g, f, none⟩ = some (.slice (some ⟨b0, o0, none⟩) x0.length c0) ∧ w'.cell? ⟨g, f + 1, none⟩ = some (.slice (some ⟨b1, o1, none⟩) x1.length c1)) w3 := by
      refine ⟨?_, ?_⟩
      · rw [hb3.cell (p := ⟨g, f, none⟩) hgl, ← hb0.cell (p := ⟨g, f, none⟩) hgl]; exact m0
      · rw [hb3.cell (p := ⟨g, f + 1, none⟩) hgl, ← hb0.cell (p := ⟨g, f + 1, none⟩) hgl]; exact m1
    refine hK.out _ _ (.inr ⟨t0, t1⟩) ?_
    clear hK
    try simp only [Act.put, List.setIfInBounds_toArray, List.set_cons_zero, List.set_cons_succ]
    refine anyT_one (i := 7) (by kernel_rfl) rfl (fun K hK => ?_)
    go_simp
    refine hK.out _ _ (.inl rfl) ?_
    clear hK
    try simp only [Act.put, List.setIfInBounds_toArray, List.set_cons_zero, List.set_cons_succ]
    refine anyT_done (by kernel_rfl) ?_
    go_wp2_with fail
    go_ret
    exact HR3.out
  by_cases hk16 : e.kind = 16
  case pos =>
    have hxl : xs.length = 3 := by rw [HH.out.2.2.1, hk16]; rfl
    obtain ⟨x0, x1, x2, hxs⟩ : ∃ x0 x1 x2, xs = [x0, x1, x2] := by
      match xs, hxl with
      | [x0, x1, x2], _ => exact ⟨x0, x1, x2, rfl⟩
    have hul2 : us.length = 3 := by rw [HH.out.2.2.2.1]; exact hxl
    obtain ⟨u0, u1, u2, hus⟩ : ∃ u0 u1 u2, us = [u0, u1, u2] := by
      match us, hul2 with
      | [u0, u1, u2], _ => exact ⟨u0, u1, u2, rfl⟩
    have hp0 : Opd S w u0 x0 := HH.out.2.2.2.2.2 0 u0 x0 (by rw [hus]; rfl) (by rw [hxs]; rfl)
    obtain ⟨b0, o0, c0, hu0, _, _⟩ := hp0.form
    have m0 : W0.cell? ⟨g, f, none⟩ = some u0 := by rw [hb0.cell (p := ⟨g, f, none⟩) hgl]; exact HH.out.2.2.2.2.1 0 u0 (by rw [hus]; rfl)
    have hp1 : Opd S w u1 x1 := HH.out.2.2.2.2.2 1 u1 x1 (by rw [hus]; rfl) (by rw [hxs]; rfl)
    obtain ⟨b1, o1, c1, hu1, _, _⟩ := hp1.form
    have m1 : W0.cell? ⟨g, f + 1, none⟩ = some u1 := by rw [hb0.cell (p := ⟨g, f + 1, none⟩) hgl]; exact HH.out.2.2.2.2.1 1 u1 (by rw [hus]; rfl)
    have hp2 : Opd S w u2 x2 := HH.out.2.2.2.2.2 2 u2 x2 (by rw [hus]; rfl) (by rw [hxs]; rfl)
    obtain ⟨b2, o2, c2, hu2, _, _⟩ := hp2.form
    have m2 : W0.cell? ⟨g, f + 2, none⟩ = some u2 := by rw [hb0.cell (p := ⟨g, f + 2, none⟩) hgl]; exact HH.out.2.2.2.2.1 2 u2 (by rw [hus]; rfl)
    have HC : Hid (∀ wx, Below W0.heap.size W0 wx → Calls Try.prog 36 #[.slice (some ⟨b0, o0, none⟩) x0.length c0, .slice (some ⟨b1, o1, none⟩) x1.length c1, .slice (some ⟨b2, o2, none⟩) x2.length c2] wx (NmI S y w)) := by
      intro wx hx
      have hbx := hb0.trans (hx.mono hb0.size)
      have h9 := normalIf_core S u0 u1 u2 x0 x1 x2 wx (hp0.below hbx) (hp1.below hbx) (hp2.below hbx)
      refine Calls.mono (by rw [hu0, hu1, hu2] at h9; exact h9) ?_
      intro r w' hr
      rw [show y = normOf (bareNd 16) [x0, x1, x2] by rw [HH.out.1, hxs, good_bare HH.out.2.1 (by omega), hk16]]
      exact hr.back hbx
    rw [hu0] at m0
    rw [hu1] at m1
    rw [hu2] at m2
    rw [hxs]
    try simp only [List.length_cons, List.length_nil, Nat.zero_add, Nat.reduceAdd]
    clear hxl hul2 hus hxs hul hl d1 d2 d3 d4 d5 d6 hp0 hu0 hp1 hu1 hp2 hu2
    have hS : (fun w' : World => w'.cell? ⟨g, f, none⟩ = some (.slice (some ⟨b0, o0, none⟩) x0.length c0) ∧ w'.cell? ⟨g, f + 1, none⟩ = some (.slice (some ⟨b1, o1, none⟩) x1.length c1) ∧ w'.cell? ⟨g, f + 2, none⟩ = some (.slice (some ⟨b2, o2, none⟩) x2.length c2)) W0.drew := ⟨m0, m1, m2⟩
    go_upto_region 7 with fail
    refine wp_region_T 10 (fun w' : World => w'.cell? ⟨g, f, none⟩ = some (.slice (some ⟨b0, o0, none⟩) x0.length c0) ∧ w'.cell? ⟨g, f + 1, none⟩ = some (.slice (some ⟨b1, o1, none⟩) x1.length c1) ∧ w'.cell? ⟨g, f + 2, none⟩ = some (.slice (some ⟨b2, o2, none⟩) x2.length c2)) (by kernel_rfl) ?_
    refine anyT_take (i := 0) (v := ?vq16x0) rfl (by kernel_rfl) (by kernel_rfl) (by kernel_rfl) (by kernel_rfl) (by decide) (fun _ _ _ h => h) (Or.inl ⟨by rfl, ?yq16x0⟩) hS ?_
    case yq16x0 => (intro wz hSw; (try dsimp only at hSw); go_simp; (try with_reducible rfl))
    try simp only [Act.put, List.setIfInBounds_toArray, List.set_cons_zero, List.set_cons_succ]
    refine anyT_take (i := 1) (v := ?vq16x1) rfl (by kernel_rfl) (by kernel_rfl) (by kernel_rfl) (by kernel_rfl) (by decide) (fun _ _ _ h => h) (Or.inl ⟨by rfl, ?yq16x1⟩) hS ?_
    case yq16x1 => (intro wz hSw; (try dsimp only at hSw); go_simp; (try with_reducible rfl))
    try simp only [Act.put, List.setIfInBounds_toArray, List.set_cons_zero, List.set_cons_succ]
    refine anyT_take (i := 2) (v := ?vq16x2) rfl (by kernel_rfl) (by kernel_rfl) (by kernel_rfl) (by kernel_rfl) (by decide) (fun _ _ _ h => h) (Or.inl ⟨by rfl, ?yq16x2⟩) hS ?_
    case yq16x2 => (intro wz hSw; (try dsimp only at hSw); go_simp; (try with_reducible rfl))
    try simp only [Act.put, List.setIfInBounds_toArray, List.set_cons_zero, List.set_cons_succ]
    refine anyT_take (i := 3) (v := ?vq16x3) rfl (by kernel_rfl) (by kernel_rfl) (by kernel_rfl) (by kernel_rfl) (by decide) (fun _ _ _ h => h) (Or.inl ⟨by rfl, ?yq16x3⟩) hS ?_
    case yq16x3 => (intro wz hSw; (try dsimp only at hSw); go_simp; (try with_reducible rfl))
    try simp only [Act.put, List.setIfInBounds_toArray, List.set_cons_zero, List.set_cons_succ]
    refine anyT_take (i := 4) (v := ?vq16x4) rfl (by kernel_rfl) (by kernel_rfl) (by kernel_rfl) (by kernel_rfl) (by decide) (fun _ _ _ h => h) (Or.inl ⟨by rfl, ?yq16x4⟩) hS ?_
    case yq16x4 => (intro wz hSw; (try dsimp only at hSw); go_simp; (try with_reducible rfl))
    try simp only [Act.put, List.setIfInBounds_toArray, List.set_cons_zero, List.set_cons_succ]
    refine anyT_take (i := 5) (v := ?vq16x5) rfl (by kernel_rfl) (by kernel_rfl) (by kernel_rfl) (by kernel_rfl) (by decide) (fun _ _ _ h => h) (Or.inl ⟨by rfl, ?yq16x5⟩) hS ?_
    case yq16x5 => (intro wz hSw; (try dsimp only at hSw); go_simp; (try with_reducible rfl))
    try simp only [Act.put, List.setIfInBounds_toArray, List.set_cons_zero, List.set_cons_succ]
    refine anyT_take (i := 6) (v := ?vq16x6) rfl (by kernel_rfl) (by kernel_rfl) (by kernel_rfl) (by kernel_rfl) (by decide) (fun _ _ _ h => h) (Or.inl ⟨by rfl, ?yq16x6⟩) hS ?_
    case yq16x6 => (intro wz hSw; (try dsimp only at hSw); go_simp; (try with_reducible rfl))
    try simp only [Act.put, List.setIfInBounds_toArray, List.set_cons_zero, List.set_cons_succ]
    refine anyT_take (i := 7) (v := ?vq16x7) rfl (by kernel_rfl) (by kernel_rfl) (by kernel_rfl) (by kernel_rfl) (by decide) (fun _ _ _ h => h) (Or.inl ⟨by rfl, ?yq16x7⟩) hS ?_
    case yq16x7 => (intro wz hSw; (try dsimp only at hSw); go_simp; (try with_reducible rfl))
    try simp only [Act.put, List.setIfInBounds_toArray, List.set_cons_zero, List.set_cons_succ]
    refine anyT_take (i := 8) (v := ?vq16x8) rfl (by kernel_rfl) (by kernel_rfl) (by kernel_rfl) (by kernel_rfl) (by decide) (fun _ _ _ h => h) (Or.inl ⟨by rfl, ?yq16x8⟩) hS ?_
    case yq16x8 => (intro wz hSw; (try dsimp only at hSw); go_simp; (try with_reducible rfl))
    try simp only [Act.put, List.setIfInBounds_toArray, List.set_cons_zero, List.set_cons_succ]
    refine anyT_one (i := 9) (by kernel_rfl) rfl (fun K hK => ?_)
    go_simp
    go_at_call 36
    refine (HC.out W0.drew (Below.refl _ _).drew).mono ?_
    rintro r w3 hr3
    have HR3 : Hid (NmI S y w r w3) := hr3
    obtain ⟨v3, rfl, _, _, hb3⟩ := hr3
    obtain ⟨t0, t1, t2⟩ : (fun w' : World => w'.cell? ⟨g, f, none⟩ = some (.slice (some ⟨b0, o0, none⟩) x0.length c0) ∧ w'.cell? ⟨g, f + 1, none⟩ = some (.slice (some ⟨b1, o1, none⟩) x1.length c1) ∧ w'.cell? ⟨g, f + 2, none⟩ = some (.slice (some ⟨b2, o2, none⟩) x2.length c2)) w3 := by
      refine ⟨?_, ?_, ?_⟩
      · rw [hb3.cell (p := ⟨g, f, none⟩) hgl, ← hb0.cell (p := ⟨g, f, none⟩) hgl]; exact m0
      · rw [hb3.cell (p := ⟨g, f + 1, none⟩) hgl, ← hb0.cell (p := ⟨g, f + 1, none⟩) hgl]; exact m1
      · rw [hb3.cell (p := ⟨g, f + 2, none⟩) hgl, ← hb0.cell (p := ⟨g, f + 2, none⟩) hgl]; exact m2
    refine hK.out _ _ (.inr ⟨t0, t1, t2⟩) ?_
    clear hK
    try simp only [Act.put, List.setIfInBounds_toArray, List.set_cons_zero, List.set_cons_succ]
    refine anyT_one (i := 10) (by kernel_rfl) rfl (fun K hK => ?_)
    go_simp
    refine hK.out _ _ (.inl rfl) ?_
    clear hK
    try simp only [Act.put, List.setIfInBounds_toArray, List.set_cons_zero, List.set_cons_succ]
    refine anyT_done (by kernel_rfl) ?_
    go_wp2_with fail
    go_ret
    exact HR3.out
  have hxl : xs = [] := List.length_eq_zero_iff.1 (by rw [HH.out.2.2.1]; unfold arity; rw [if_neg (by omega), if_neg hk16])
  have z14 : (e.kind == 14) = false := by rw [beq_eq_false_iff_ne]; exact hk14
  have z15 : (e.kind == 15) = false := by rw [beq_eq_false_iff_ne]; exact hk15
  have z16 : (e.kind == 16) = false := by rw [beq_eq_false_iff_ne]; exact hk16
  have HR : Hid (NmI S y w (.returned (.slice (some ⟨W0.heap.size, 0, none⟩) 1 1)) (W0.alloc (Obj.cells #[.int .i64 e.kind, .string e.s, .bool e.hi, .string e.t, .int .u64 e.lo, .int .u64 e.up, .int .i64 e.n] 48))) := by
    have hO9 := ownNd_two W0 e
    refine ⟨_, rfl, ?_, fun a n c hq => ?_, hb0.trans (((Below.refl _ _).alloc (Nat.le_refl _) _).mono hb0.size)⟩
    · rw [HH.out.1, hxl]; exact ⟨_, _, rfl, OwnNd.mono hO9 (Nat.zero_le _)⟩
    · cases hq; exact .inr (by have := hb0.size; show w.heap.size ≤ W0.heap.size; omega)
  clear hxl
  go_wp2_with fail
  go_ret
  exact HR.out
end Go.Proofs.Ytiaokgoppjindaa

/-
  What a fold of nodes by a visit comes to.
-/
namespace Go.Proofs.Ytiaokgoppjindaa
open Go.ChangeShapes Go.WideShapes Go.ChangeAt Go.RowKit Go.Deep
set_option linter.unusedVariables false
set_option linter.unusedSimpArgs false

theorem fold_trv {T : Type} (V : Nd → List T → T) : ∀ (k : Nat) (xs : List Nd) (ss : List T), xs.length = k → foldV V [] xs = some ss → TrV V ss xs
  | 0, xs, ss, hk, h => by
    obtain rfl := List.length_eq_zero_iff.1 hk
    simp only [foldV, Option.some.injEq] at h
    subst h
    exact .nil
  | k + 1, xs, ss, hk, h => by
    rcases List.eq_nil_or_concat xs with rfl | ⟨ys, n, rfl⟩
    · simp at hk
    · rw [List.concat_eq_append] at hk h ⊢
      rw [foldV_append] at h
      cases hy : foldV V [] ys with
      | none => rw [hy] at h; cases h
      | some st =>
        have ih := fold_trv V k ys st (by simp at hk; exact hk) hy
        rw [hy] at h
        simp only [Option.bind_some, foldV, stepV] at h
        split at h
        · cases h
        · rename_i hn
          simp only [Option.bind_some, foldV, Option.some.injEq] at h
          subst h
          refine .snoc n (by rw [List.length_drop]; omega) ?_
          rw [List.take_append_drop]; exact ih
theorem fold_opd {xs : List Nd} {ns : List (List Nd)} (h : foldV normOf [] xs = some ns) : ∀ y ∈ ns, y ≠ [] ∧ (∀ e ∈ y, e ∈ xs) ∧ y.length ≤ xs.length := by
  intro y hy
  obtain ⟨ks, hxs, hK⟩ := TrV.kids normOf (fold_trv normOf _ xs ns rfl h)
  obtain ⟨j, hj⟩ := List.getElem?_of_mem hy
  have hjl := (List.getElem?_eq_some_iff.1 hj).1
  obtain ⟨k, hk⟩ : ∃ k, ks[j]? = some k := ⟨_, List.getElem?_eq_getElem (by have := KidV.length _ hK; omega)⟩
  obtain ⟨o', ho', ht⟩ := KidV.nth _ hK hk
  rw [hj] at ho'
  cases ho'
  have hm := List.mem_of_getElem? hk
  obtain ⟨h1, h2⟩ := trv_mem _ (Nat.le_refl _) ht
  refine ⟨trv_ne ht, fun e he => ?_, ?_⟩
  · rw [hxs]; exact List.mem_flatten.2 ⟨k, hm, h1 e he⟩
  · rw [hxs]; have := len_flat hm; omega
theorem foldv_next {xs : List Nd} {j : Nat} {ns : List (List Nd)} {e : Nd} (h : foldV normOf [] (xs.take j) = some ns) (he : xs[j]? = some e) (hl : arity e.kind ≤ ns.length) : foldV normOf [] (xs.take (j + 1)) = some (ns.take (ns.length - arity e.kind) ++ [normOf e (ns.drop (ns.length - arity e.kind))]) := by
  rw [List.take_add_one, he, foldV_append, h]
  simp only [Option.toList, Option.bind_some, foldV, stepV]
  rw [if_neg (by omega)]
  rfl
theorem foldv_stop {xs : List Nd} {j : Nat} {ns : List (List Nd)} {e : Nd} (h : foldV normOf [] (xs.take j) = some ns) (he : xs[j]? = some e) (hl : ns.length < arity e.kind) : foldV normOf [] xs = none := by
  have hj := (List.getElem?_eq_some_iff.1 he).1
  have : xs = xs.take j ++ e :: xs.drop (j + 1) := by
    conv => lhs; rw [← List.take_append_drop j xs, List.drop_eq_getElem_cons hj]
    rw [show xs[j] = e from Option.some.inj ((List.getElem?_eq_getElem hj).symm.trans he)]
  rw [this, foldV_append, h]
  simp only [Option.bind_some, foldV, stepV]
  rw [if_pos hl]
  rfl
theorem OwnS.chg {S : Nat → Prop} {w w' : World} {v : Value} {y : List Nd} (h : OwnS w v y) (hc : Chg S w w') (hv : ∀ a n c, v = .slice (some a) n c → ¬ S a.block) : OwnS w' v y := by
  obtain ⟨g, cp, rfl, h⟩ := h
  exact ⟨g, cp, rfl, own_chg h hc (fun k q => by simp [Value.ownBlock] at q; subst q; exact hv _ _ _ rfl)⟩
theorem Opd.move {S S' : Nat → Prop} {w w' : World} {u : Value} {x : List Nd} (h : Opd S w u x) (hb : Chg S' w w') (hd : ∀ k, S k → ¬ S' k) : Opd S w' u x := ⟨h.own.chg hb (fun a n c q => hd _ (h.blk a n c q)), h.ne, h.blk, h.good, h.len⟩
theorem Opd.weak {S S' : Nat → Prop} {w : World} {u : Value} {x : List Nd} (h : Opd S w u x) (hd : ∀ k, k < w.heap.size → S k → S' k) : Opd S' w u x := ⟨h.own, h.ne, fun a n c q => by
  refine hd _ ?_ (h.blk a n c q)
  obtain ⟨g, cp, rfl, ho⟩ := h.own
  cases q
  exact ho.lt.2, h.good, h.len⟩
theorem OwnV.take {w : World} {base g cp : Nat} {us : List Value} (h : OwnV w base g cp us) {k : Nat} (hk : k ≤ us.length) : OwnV w base g cp (us.take k) := by
  rcases h.2 with ⟨h0, _⟩ | ⟨g', cap', cur, hv, h1, h2, h3, h4, h5, h6⟩
  · cases h0
  · simp only [Value.slice.injEq, Option.some.injEq, Addr.mk.injEq, and_true, true_and] at hv
    obtain ⟨rfl, rfl⟩ := hv
    have hl : (us.take k).length = k := by rw [List.length_take]; omega
    refine ⟨by rw [Nat.mul_one], .inr ⟨g, cp, cur, rfl, h1, h2, by omega, h4, h5, ?_⟩⟩
    rw [hl, ← h6, List.take_take]
    congr 1
    omega
end Go.Proofs.Ytiaokgoppjindaa

/-
  impl.validNode.
-/
namespace Go.Proofs.Ytiaokgoppjindaa
open Go.ChangeShapes Go.WideShapes Go.ChangeAt Go.RowKit Go.Deep
set_option linter.unusedVariables false
set_option linter.unusedSimpArgs false
set_option maxRecDepth 100000

theorem emptyL : (⟨#[]⟩ : ByteArray).toList = [] := by first | (simp; done) | (kernel_rfl; done) | (go_simp; done)
theorem lessL : Op.bytesLess [] [] = false := by first | (kernel_rfl; done) | (decide; done) | (simp [Op.bytesLess]; done)
theorem ndEq_is (k : Int) (s : ByteArray) (h : Bool) (t : ByteArray) (l u n k' : Int) (s' : ByteArray) (h' : Bool) (t' : ByteArray) (l' u' n' : Int) (B : Bool) (hB : B = decide (k = k' ∧ s.toList = s'.toList ∧ h = h' ∧ t.toList = t'.toList ∧ l = l' ∧ u = u' ∧ n = n')) (wx : World) :
    (binOp .eql 48 (.agg #[.int .i64 k, .string s, .bool h, .string t, .int .u64 l, .int .u64 u, .int .i64 n]) (.agg #[.int .i64 k', .string s', .bool h', .string t', .int .u64 l', .int .u64 u', .int .i64 n'])).run Try.prog wx = .ok (.bool B) wx := by
  rw [hB]; exact ndEq_run k s h t l u n k' s' h' t' l' u' n' wx
set_option maxHeartbeats 8000000 in
theorem validNode_core (e : Nd) (w : World) (hs : e.s.size ≤ maxLen) (ht : e.t.size ≤ maxLen) : Calls Try.prog 44 #[e.v] w (NdPost e w) := by
  obtain ⟨kind, s, hi, t, lo, up, n⟩ := e
  have HS : Hid (s.size ≤ maxLen) := hs
  unfold maxLen at hs ht
  simp only [] at hs ht
  obtain ⟨W0, hW0⟩ : ∃ W0 : World, W0 = w.alloc (Obj.cells #[.int .i64 kind, .string s, .bool hi, .string t, .int .u64 lo, .int .u64 up, .int .i64 n] 48) := ⟨_, rfl⟩
  have HW0 : Hid (BoxAt W0 w.heap.size 48 7 w.heap.size [.int .i64 kind, .string s, .bool hi, .string t, .int .u64 lo, .int .u64 up, .int .i64 n] ∧ Below w.heap.size w W0) := by
    rw [hW0]; exact ⟨boxAt_new w _ (Nat.le_refl _) rfl, (Below.refl _ _).alloc (Nat.le_refl _) _⟩
  have hbw := HW0.out.2.size
  have c0 := HW0.out.1.cell (j := 0) rfl
  have c1 := HW0.out.1.cell (j := 1) rfl
  have c2 := HW0.out.1.cell (j := 2) rfl
  have c3 := HW0.out.1.cell (j := 3) rfl
  have c4 := HW0.out.1.cell (j := 4) rfl
  have c5 := HW0.out.1.cell (j := 5) rfl
  have c6 := HW0.out.1.cell (j := 6) rfl
  go_enter Try.func44, Try.ntmps44
  go_upto_region 1 with fail
  rw [← hW0]
  clear hW0
  by_cases hgood : s.size ≤ 200 ∧ t.size ≤ 200
  case neg =>
    have HG : Hid (¬ GoodN ⟨kind, s, hi, t, lo, up, n⟩) := fun q => hgood ⟨q.1, q.2.1⟩
    by_cases h1 : s.size ≤ 200
    · have z1 : ¬ (200 : Int) < (s.size : Int) := by omega
      have h2 : ¬ t.size ≤ 200 := fun q => hgood ⟨h1, q⟩
      have z2 : (200 : Int) < (t.size : Int) := by omega
      clear hgood
      go_wp2_with fail
      go_ret
      exact ⟨_, rfl, by simp [HG.out], HW0.out.2⟩
    · have z1 : (200 : Int) < (s.size : Int) := by omega
      clear hgood
      go_wp2_with fail
      go_ret
      exact ⟨_, rfl, by simp [HG.out], HW0.out.2⟩
  have HG : Hid (s.size ≤ 200 ∧ t.size ≤ 200) := hgood
  have z1 : ¬ (200 : Int) < (s.size : Int) := by omega
  have z2 : ¬ (200 : Int) < (t.size : Int) := by omega
  clear hgood hs ht
  obtain ⟨c, hc⟩ : ∃ c, c = (checkM (sb s)).1 := ⟨_, rfl⟩
  obtain ⟨k, hk⟩ : ∃ k : Int, k = ((checkM (sb s)).2 : Int) := ⟨_, rfl⟩
  have HV : Hid (c = (checkM (sb s)).1) := hc
  have HC : Hid (∀ w, Calls Try.prog 52 #[.string s] w fun e w' => e = .returned (.agg #[.int .i64 c, .int .i64 k]) ∧ Below w.heap.size w w') := fun w => by
    rw [hc, hk]; exact implCheck_core s w HS.out
  clear hc hk
  by_cases k1 : kind = 1
  · subst k1
    obtain ⟨B, hB⟩ : ∃ B, B = decide ((1 : Int) = 1 ∧ s.toList = (⟨#[]⟩ : ByteArray).toList ∧ hi = false ∧ t.toList = (⟨#[]⟩ : ByteArray).toList ∧ lo = 0 ∧ up = 0 ∧ n = 0) := ⟨_, rfl⟩
    have hq := ndEq_is 1 s hi t lo up n 1 ⟨#[]⟩ false ⟨#[]⟩ 0 0 0 B hB
    have HB : Hid (B = true ↔ (1 : Int) = 1 ∧ s.toList = (⟨#[]⟩ : ByteArray).toList ∧ hi = false ∧ t.toList = (⟨#[]⟩ : ByteArray).toList ∧ lo = 0 ∧ up = 0 ∧ n = 0) := by rw [hB]; show decide _ = true ↔ _; simp only [decide_eq_true_eq]
    clear hB
    have HF : Hid (B = true ↔ GoodN ⟨1, s, hi, t, lo, up, n⟩) := by
      show B = true ↔ GoodN _
      have hB := HB.out
      have hG := HG.out
      have hE := emptyL
      try simp only [hE] at hB
      rw [hB]
      simp [GoodN]
      constructor
      · rintro ⟨q1, q2, q3, q4, q5, q6⟩
        simp_all
      · rintro ⟨q1, q2, q3, q4⟩
        simp_all
    go_wp2_with fail
    go_ret
    exact ⟨_, rfl, HF.out, HW0.out.2⟩
  by_cases k2 : kind = 2
  · subst k2
    obtain ⟨B, hB⟩ : ∃ B, B = decide ((2 : Int) = 2 ∧ s.toList = (⟨#[]⟩ : ByteArray).toList ∧ hi = false ∧ t.toList = (⟨#[]⟩ : ByteArray).toList ∧ lo = 0 ∧ up = 0 ∧ n = 0) := ⟨_, rfl⟩
    have hq := ndEq_is 2 s hi t lo up n 2 ⟨#[]⟩ false ⟨#[]⟩ 0 0 0 B hB
    have HB : Hid (B = true ↔ (2 : Int) = 2 ∧ s.toList = (⟨#[]⟩ : ByteArray).toList ∧ hi = false ∧ t.toList = (⟨#[]⟩ : ByteArray).toList ∧ lo = 0 ∧ up = 0 ∧ n = 0) := by rw [hB]; show decide _ = true ↔ _; simp only [decide_eq_true_eq]
    clear hB
    have HF : Hid (B = true ↔ GoodN ⟨2, s, hi, t, lo, up, n⟩) := by
      show B = true ↔ GoodN _
      have hB := HB.out
      have hG := HG.out
      have hE := emptyL
      try simp only [hE] at hB
      rw [hB]
      simp [GoodN]
      constructor
      · rintro ⟨q1, q2, q3, q4, q5, q6⟩
        simp_all
      · rintro ⟨q1, q2, q3, q4⟩
        simp_all
    go_wp2_with fail
    go_ret
    exact ⟨_, rfl, HF.out, HW0.out.2⟩
  by_cases k3 : kind = 3
  · subst k3
    obtain ⟨B, hB⟩ : ∃ B, B = decide ((3 : Int) = 3 ∧ s.toList = (⟨#[]⟩ : ByteArray).toList ∧ hi = false ∧ t.toList = (⟨#[]⟩ : ByteArray).toList ∧ lo = 0 ∧ up = 0 ∧ n = 0) := ⟨_, rfl⟩
    have hq := ndEq_is 3 s hi t lo up n 3 ⟨#[]⟩ false ⟨#[]⟩ 0 0 0 B hB
    have HB : Hid (B = true ↔ (3 : Int) = 3 ∧ s.toList = (⟨#[]⟩ : ByteArray).toList ∧ hi = false ∧ t.toList = (⟨#[]⟩ : ByteArray).toList ∧ lo = 0 ∧ up = 0 ∧ n = 0) := by rw [hB]; show decide _ = true ↔ _; simp only [decide_eq_true_eq]
    clear hB
    have HF : Hid (B = true ↔ GoodN ⟨3, s, hi, t, lo, up, n⟩) := by
      show B = true ↔ GoodN _
      have hB := HB.out
      have hG := HG.out
      have hE := emptyL
      try simp only [hE] at hB
      rw [hB]
      simp [GoodN]
      constructor
      · rintro ⟨q1, q2, q3, q4, q5, q6⟩
        simp_all
      · rintro ⟨q1, q2, q3, q4⟩
        simp_all
    go_wp2_with fail
    go_ret
    exact ⟨_, rfl, HF.out, HW0.out.2⟩
  by_cases k14 : kind = 14
  · subst k14
    obtain ⟨B, hB⟩ : ∃ B, B = decide ((14 : Int) = 14 ∧ s.toList = (⟨#[]⟩ : ByteArray).toList ∧ hi = false ∧ t.toList = (⟨#[]⟩ : ByteArray).toList ∧ lo = 0 ∧ up = 0 ∧ n = 0) := ⟨_, rfl⟩
    have hq := ndEq_is 14 s hi t lo up n 14 ⟨#[]⟩ false ⟨#[]⟩ 0 0 0 B hB
    have HB : Hid (B = true ↔ (14 : Int) = 14 ∧ s.toList = (⟨#[]⟩ : ByteArray).toList ∧ hi = false ∧ t.toList = (⟨#[]⟩ : ByteArray).toList ∧ lo = 0 ∧ up = 0 ∧ n = 0) := by rw [hB]; show decide _ = true ↔ _; simp only [decide_eq_true_eq]
    clear hB
    have HF : Hid (B = true ↔ GoodN ⟨14, s, hi, t, lo, up, n⟩) := by
      show B = true ↔ GoodN _
      have hB := HB.out
      have hG := HG.out
      have hE := emptyL
      try simp only [hE] at hB
      rw [hB]
      simp [GoodN]
      constructor
      · rintro ⟨q1, q2, q3, q4, q5, q6⟩
        simp_all
      · rintro ⟨q1, q2, q3, q4⟩
        simp_all
    go_wp2_with fail
    go_ret
    exact ⟨_, rfl, HF.out, HW0.out.2⟩
  by_cases k15 : kind = 15
  · subst k15
    obtain ⟨B, hB⟩ : ∃ B, B = decide ((15 : Int) = 15 ∧ s.toList = (⟨#[]⟩ : ByteArray).toList ∧ hi = false ∧ t.toList = (⟨#[]⟩ : ByteArray).toList ∧ lo = 0 ∧ up = 0 ∧ n = 0) := ⟨_, rfl⟩
    have hq := ndEq_is 15 s hi t lo up n 15 ⟨#[]⟩ false ⟨#[]⟩ 0 0 0 B hB
    have HB : Hid (B = true ↔ (15 : Int) = 15 ∧ s.toList = (⟨#[]⟩ : ByteArray).toList ∧ hi = false ∧ t.toList = (⟨#[]⟩ : ByteArray).toList ∧ lo = 0 ∧ up = 0 ∧ n = 0) := by rw [hB]; show decide _ = true ↔ _; simp only [decide_eq_true_eq]
    clear hB
    have HF : Hid (B = true ↔ GoodN ⟨15, s, hi, t, lo, up, n⟩) := by
      show B = true ↔ GoodN _
      have hB := HB.out
      have hG := HG.out
      have hE := emptyL
      try simp only [hE] at hB
      rw [hB]
      simp [GoodN]
      constructor
      · rintro ⟨q1, q2, q3, q4, q5, q6⟩
        simp_all
      · rintro ⟨q1, q2, q3, q4⟩
        simp_all
    go_wp2_with fail
    go_ret
    exact ⟨_, rfl, HF.out, HW0.out.2⟩
  by_cases k16 : kind = 16
  · subst k16
    obtain ⟨B, hB⟩ : ∃ B, B = decide ((16 : Int) = 16 ∧ s.toList = (⟨#[]⟩ : ByteArray).toList ∧ hi = false ∧ t.toList = (⟨#[]⟩ : ByteArray).toList ∧ lo = 0 ∧ up = 0 ∧ n = 0) := ⟨_, rfl⟩
    have hq := ndEq_is 16 s hi t lo up n 16 ⟨#[]⟩ false ⟨#[]⟩ 0 0 0 B hB
    have HB : Hid (B = true ↔ (16 : Int) = 16 ∧ s.toList = (⟨#[]⟩ : ByteArray).toList ∧ hi = false ∧ t.toList = (⟨#[]⟩ : ByteArray).toList ∧ lo = 0 ∧ up = 0 ∧ n = 0) := by rw [hB]; show decide _ = true ↔ _; simp only [decide_eq_true_eq]
    clear hB
    have HF : Hid (B = true ↔ GoodN ⟨16, s, hi, t, lo, up, n⟩) := by
      show B = true ↔ GoodN _
      have hB := HB.out
      have hG := HG.out
      have hE := emptyL
      try simp only [hE] at hB
      rw [hB]
      simp [GoodN]
      constructor
      · rintro ⟨q1, q2, q3, q4, q5, q6⟩
        simp_all
      · rintro ⟨q1, q2, q3, q4⟩
        simp_all
    go_wp2_with fail
    go_ret
    exact ⟨_, rfl, HF.out, HW0.out.2⟩
  by_cases k4 : kind = 4
  · subst k4
    obtain ⟨B, hB⟩ : ∃ B, B = decide ((4 : Int) = 4 ∧ s.toList = s.toList ∧ hi = false ∧ t.toList = (⟨#[]⟩ : ByteArray).toList ∧ lo = 0 ∧ up = 0 ∧ n = 0) := ⟨_, rfl⟩
    have hq := ndEq_is 4 s hi t lo up n 4 s false ⟨#[]⟩ 0 0 0 B hB
    have HB : Hid (B = true ↔ (4 : Int) = 4 ∧ s.toList = s.toList ∧ hi = false ∧ t.toList = (⟨#[]⟩ : ByteArray).toList ∧ lo = 0 ∧ up = 0 ∧ n = 0) := by rw [hB]; show decide _ = true ↔ _; simp only [decide_eq_true_eq]
    clear hB
    cases B
    · have HF : Hid (¬ GoodN ⟨4, s, hi, t, lo, up, n⟩) := by
        show ¬ GoodN _
        have hB := HB.out
        have hE := emptyL
        try simp only [hE] at hB
        intro q
        simp [GoodN] at q hB
        simp_all
      go_wp2_with fail
      go_ret
      exact ⟨_, rfl, by simp [HF.out], HW0.out.2⟩
    · have HF : Hid (GoodN ⟨4, s, hi, t, lo, up, n⟩ ↔ c = 0) := by
        show GoodN _ ↔ _
        have hB := HB.out
        have hG := HG.out
        have hE := emptyL
        try simp only [hE] at hB
        rw [HV.out]
        simp at hB
        simp [GoodN]
        simp_all
      have hfd := regField c k
      go_wp2_with fail
      refine (HC.out _).mono ?_
      rintro r w2 ⟨rfl, hb2⟩
      clear c0 c1 c2 c3 c4 c5 c6
      go_wp2_with fail
      go_ret
      exact ⟨_, rfl, by rw [HF.out]; simp, HW0.out.2.trans (hb2.mono hbw)⟩
  by_cases k5 : kind = 5
  · subst k5
    obtain ⟨B, hB⟩ : ∃ B, B = decide ((5 : Int) = 5 ∧ s.toList = s.toList ∧ hi = false ∧ t.toList = (⟨#[]⟩ : ByteArray).toList ∧ lo = 0 ∧ up = 0 ∧ n = 0) := ⟨_, rfl⟩
    have hq := ndEq_is 5 s hi t lo up n 5 s false ⟨#[]⟩ 0 0 0 B hB
    have HB : Hid (B = true ↔ (5 : Int) = 5 ∧ s.toList = s.toList ∧ hi = false ∧ t.toList = (⟨#[]⟩ : ByteArray).toList ∧ lo = 0 ∧ up = 0 ∧ n = 0) := by rw [hB]; show decide _ = true ↔ _; simp only [decide_eq_true_eq]
    clear hB
    cases B
    · have HF : Hid (¬ GoodN ⟨5, s, hi, t, lo, up, n⟩) := by
        show ¬ GoodN _
        have hB := HB.out
        have hE := emptyL
        try simp only [hE] at hB
        intro q
        simp [GoodN] at q hB
        simp_all
      go_wp2_with fail
      go_ret
      exact ⟨_, rfl, by simp [HF.out], HW0.out.2⟩
    · have HF : Hid (GoodN ⟨5, s, hi, t, lo, up, n⟩ ↔ c = 0) := by
        show GoodN _ ↔ _
        have hB := HB.out
        have hG := HG.out
        have hE := emptyL
        try simp only [hE] at hB
        rw [HV.out]
        simp at hB
        simp [GoodN]
        simp_all
      have hfd := regField c k
      go_wp2_with fail
      refine (HC.out _).mono ?_
      rintro r w2 ⟨rfl, hb2⟩
      clear c0 c1 c2 c3 c4 c5 c6
      go_wp2_with fail
      go_ret
      exact ⟨_, rfl, by rw [HF.out]; simp, HW0.out.2.trans (hb2.mono hbw)⟩
  by_cases k6 : kind = 6
  · subst k6
    obtain ⟨B, hB⟩ : ∃ B, B = decide ((6 : Int) = 6 ∧ s.toList = s.toList ∧ hi = false ∧ t.toList = (⟨#[]⟩ : ByteArray).toList ∧ lo = 0 ∧ up = 0 ∧ n = 0) := ⟨_, rfl⟩
    have hq := ndEq_is 6 s hi t lo up n 6 s false ⟨#[]⟩ 0 0 0 B hB
    have HB : Hid (B = true ↔ (6 : Int) = 6 ∧ s.toList = s.toList ∧ hi = false ∧ t.toList = (⟨#[]⟩ : ByteArray).toList ∧ lo = 0 ∧ up = 0 ∧ n = 0) := by rw [hB]; show decide _ = true ↔ _; simp only [decide_eq_true_eq]
    clear hB
    cases B
    · have HF : Hid (¬ GoodN ⟨6, s, hi, t, lo, up, n⟩) := by
        show ¬ GoodN _
        have hB := HB.out
        have hE := emptyL
        try simp only [hE] at hB
        intro q
        simp [GoodN] at q hB
        simp_all
      go_wp2_with fail
      go_ret
      exact ⟨_, rfl, by simp [HF.out], HW0.out.2⟩
    · have HF : Hid (GoodN ⟨6, s, hi, t, lo, up, n⟩ ↔ c = 0) := by
        show GoodN _ ↔ _
        have hB := HB.out
        have hG := HG.out
        have hE := emptyL
        try simp only [hE] at hB
        rw [HV.out]
        simp at hB
        simp [GoodN]
        simp_all
      have hfd := regField c k
      go_wp2_with fail
      refine (HC.out _).mono ?_
      rintro r w2 ⟨rfl, hb2⟩
      clear c0 c1 c2 c3 c4 c5 c6
      go_wp2_with fail
      go_ret
      exact ⟨_, rfl, by rw [HF.out]; simp, HW0.out.2.trans (hb2.mono hbw)⟩
  by_cases k7 : kind = 7
  · subst k7
    obtain ⟨B, hB⟩ : ∃ B, B = decide ((7 : Int) = 7 ∧ s.toList = s.toList ∧ hi = false ∧ t.toList = (⟨#[]⟩ : ByteArray).toList ∧ lo = 0 ∧ up = 0 ∧ n = 0) := ⟨_, rfl⟩
    have hq := ndEq_is 7 s hi t lo up n 7 s false ⟨#[]⟩ 0 0 0 B hB
    have HB : Hid (B = true ↔ (7 : Int) = 7 ∧ s.toList = s.toList ∧ hi = false ∧ t.toList = (⟨#[]⟩ : ByteArray).toList ∧ lo = 0 ∧ up = 0 ∧ n = 0) := by rw [hB]; show decide _ = true ↔ _; simp only [decide_eq_true_eq]
    clear hB
    cases B
    · have HF : Hid (¬ GoodN ⟨7, s, hi, t, lo, up, n⟩) := by
        show ¬ GoodN _
        have hB := HB.out
        have hE := emptyL
        try simp only [hE] at hB
        intro q
        simp [GoodN] at q hB
        simp_all
      go_wp2_with fail
      go_ret
      exact ⟨_, rfl, by simp [HF.out], HW0.out.2⟩
    · have HF : Hid (GoodN ⟨7, s, hi, t, lo, up, n⟩ ↔ c = 0) := by
        show GoodN _ ↔ _
        have hB := HB.out
        have hG := HG.out
        have hE := emptyL
        try simp only [hE] at hB
        rw [HV.out]
        simp at hB
        simp [GoodN]
        simp_all
      have hfd := regField c k
      go_wp2_with fail
      refine (HC.out _).mono ?_
      rintro r w2 ⟨rfl, hb2⟩
      clear c0 c1 c2 c3 c4 c5 c6
      go_wp2_with fail
      go_ret
      exact ⟨_, rfl, by rw [HF.out]; simp, HW0.out.2.trans (hb2.mono hbw)⟩
  by_cases k8 : kind = 8
  · subst k8
    obtain ⟨B, hB⟩ : ∃ B, B = decide ((8 : Int) = 8 ∧ s.toList = s.toList ∧ hi = hi ∧ t.toList = t.toList ∧ lo = 0 ∧ up = 0 ∧ n = 0) := ⟨_, rfl⟩
    have hq := ndEq_is 8 s hi t lo up n 8 s hi t 0 0 0 B hB
    have HB : Hid (B = true ↔ (8 : Int) = 8 ∧ s.toList = s.toList ∧ hi = hi ∧ t.toList = t.toList ∧ lo = 0 ∧ up = 0 ∧ n = 0) := by rw [hB]; show decide _ = true ↔ _; simp only [decide_eq_true_eq]
    clear hB
    cases B
    · have HF : Hid (¬ GoodN ⟨8, s, hi, t, lo, up, n⟩) := by
        show ¬ GoodN _
        have hB := HB.out
        have hE := emptyL
        try simp only [hE] at hB
        intro q
        simp [GoodN] at q hB
        simp_all
      go_wp2_with fail
      go_ret
      exact ⟨_, rfl, by simp [HF.out], HW0.out.2⟩
    · go_wp2_with fail
      refine (ends_core ⟨8, s, hi, t, lo, up, n⟩ _).mono ?_
      rintro r w2 ⟨b, rfl, hb, hb2⟩
      have HF : Hid (b = true ↔ GoodN ⟨8, s, hi, t, lo, up, n⟩) := by
        show b = true ↔ GoodN _
        have hB := HB.out
        have hG := HG.out
        have hE := emptyL
        have hL := lessL
        try simp only [hE] at hB
        simp at hB
        rw [hb]
        simp [GoodN]
        cases hi <;> simp_all [less]
      clear hb c0 c1 c2 c3 c4 c5 c6
      go_wp2_with fail
      go_ret
      exact ⟨_, rfl, HF.out, HW0.out.2.trans (hb2.mono hbw)⟩
  by_cases k9 : kind = 9
  · subst k9
    obtain ⟨B, hB⟩ : ∃ B, B = decide ((9 : Int) = 9 ∧ s.toList = s.toList ∧ hi = hi ∧ t.toList = t.toList ∧ lo = 0 ∧ up = 0 ∧ n = 0) := ⟨_, rfl⟩
    have hq := ndEq_is 9 s hi t lo up n 9 s hi t 0 0 0 B hB
    have HB : Hid (B = true ↔ (9 : Int) = 9 ∧ s.toList = s.toList ∧ hi = hi ∧ t.toList = t.toList ∧ lo = 0 ∧ up = 0 ∧ n = 0) := by rw [hB]; show decide _ = true ↔ _; simp only [decide_eq_true_eq]
    clear hB
    cases B
    · have HF : Hid (¬ GoodN ⟨9, s, hi, t, lo, up, n⟩) := by
        show ¬ GoodN _
        have hB := HB.out
        have hE := emptyL
        try simp only [hE] at hB
        intro q
        simp [GoodN] at q hB
        simp_all
      go_wp2_with fail
      go_ret
      exact ⟨_, rfl, by simp [HF.out], HW0.out.2⟩
    · go_wp2_with fail
      refine (ends_core ⟨9, s, hi, t, lo, up, n⟩ _).mono ?_
      rintro r w2 ⟨b, rfl, hb, hb2⟩
      have HF : Hid (b = true ↔ GoodN ⟨9, s, hi, t, lo, up, n⟩) := by
        show b = true ↔ GoodN _
        have hB := HB.out
        have hG := HG.out
        have hE := emptyL
        have hL := lessL
        try simp only [hE] at hB
        simp at hB
        rw [hb]
        simp [GoodN]
        cases hi <;> simp_all [less]
      clear hb c0 c1 c2 c3 c4 c5 c6
      go_wp2_with fail
      go_ret
      exact ⟨_, rfl, HF.out, HW0.out.2.trans (hb2.mono hbw)⟩
  by_cases k10 : kind = 10
  · subst k10
    obtain ⟨B, hB⟩ : ∃ B, B = decide ((10 : Int) = 10 ∧ s.toList = (⟨#[]⟩ : ByteArray).toList ∧ hi = hi ∧ t.toList = (⟨#[]⟩ : ByteArray).toList ∧ lo = lo ∧ up = up ∧ n = 0) := ⟨_, rfl⟩
    have hq := ndEq_is 10 s hi t lo up n 10 ⟨#[]⟩ hi ⟨#[]⟩ lo up 0 B hB
    have HB : Hid (B = true ↔ (10 : Int) = 10 ∧ s.toList = (⟨#[]⟩ : ByteArray).toList ∧ hi = hi ∧ t.toList = (⟨#[]⟩ : ByteArray).toList ∧ lo = lo ∧ up = up ∧ n = 0) := by rw [hB]; show decide _ = true ↔ _; simp only [decide_eq_true_eq]
    clear hB
    cases B
    · have HF : Hid (¬ GoodN ⟨10, s, hi, t, lo, up, n⟩) := by
        show ¬ GoodN _
        have hB := HB.out
        have hE := emptyL
        try simp only [hE] at hB
        intro q
        simp [GoodN] at q hB
        simp_all
      go_wp2_with fail
      go_ret
      exact ⟨_, rfl, by simp [HF.out], HW0.out.2⟩
    · go_wp2_with fail
      refine (ends_core ⟨10, s, hi, t, lo, up, n⟩ _).mono ?_
      rintro r w2 ⟨b, rfl, hb, hb2⟩
      have HF : Hid (b = true ↔ GoodN ⟨10, s, hi, t, lo, up, n⟩) := by
        show b = true ↔ GoodN _
        have hB := HB.out
        have hG := HG.out
        have hE := emptyL
        have hL := lessL
        try simp only [hE] at hB
        simp at hB
        rw [hb]
        simp [GoodN]
        cases hi <;> simp_all [less]
      clear hb c0 c1 c2 c3 c4 c5 c6
      go_wp2_with fail
      go_ret
      exact ⟨_, rfl, HF.out, HW0.out.2.trans (hb2.mono hbw)⟩
  by_cases k11 : kind = 11
  · subst k11
    obtain ⟨B, hB⟩ : ∃ B, B = decide ((11 : Int) = 11 ∧ s.toList = (⟨#[]⟩ : ByteArray).toList ∧ hi = false ∧ t.toList = (⟨#[]⟩ : ByteArray).toList ∧ lo = 0 ∧ up = 0 ∧ n = n) := ⟨_, rfl⟩
    have hq := ndEq_is 11 s hi t lo up n 11 ⟨#[]⟩ false ⟨#[]⟩ 0 0 n B hB
    have HB : Hid (B = true ↔ (11 : Int) = 11 ∧ s.toList = (⟨#[]⟩ : ByteArray).toList ∧ hi = false ∧ t.toList = (⟨#[]⟩ : ByteArray).toList ∧ lo = 0 ∧ up = 0 ∧ n = n) := by rw [hB]; show decide _ = true ↔ _; simp only [decide_eq_true_eq]
    clear hB
    cases B
    · have HF : Hid (¬ GoodN ⟨11, s, hi, t, lo, up, n⟩) := by
        show ¬ GoodN _
        have hB := HB.out
        have hE := emptyL
        try simp only [hE] at hB
        intro q
        simp [GoodN] at q hB
        simp_all
      go_wp2_with fail
      go_ret
      exact ⟨_, rfl, by simp [HF.out], HW0.out.2⟩
    · have HF : Hid (GoodN ⟨11, s, hi, t, lo, up, n⟩ ↔ (1 ≤ n ∧ n ≤ 1000)) := by
        show GoodN _ ↔ _
        have hB := HB.out
        have hG := HG.out
        have hE := emptyL
        try simp only [hE] at hB
        simp at hB
        simp [GoodN]
        simp_all
      by_cases h1 : 1 ≤ n
      · go_wp2_with fail
        go_ret
        exact ⟨_, rfl, by rw [HF.out]; simp; omega, HW0.out.2⟩
      · go_wp2_with fail
        go_ret
        exact ⟨_, rfl, by rw [HF.out]; simp; omega, HW0.out.2⟩
  by_cases k12 : kind = 12
  · subst k12
    obtain ⟨B, hB⟩ : ∃ B, B = decide ((12 : Int) = 12 ∧ s.toList = (⟨#[]⟩ : ByteArray).toList ∧ hi = false ∧ t.toList = (⟨#[]⟩ : ByteArray).toList ∧ lo = 0 ∧ up = 0 ∧ n = n) := ⟨_, rfl⟩
    have hq := ndEq_is 12 s hi t lo up n 12 ⟨#[]⟩ false ⟨#[]⟩ 0 0 n B hB
    have HB : Hid (B = true ↔ (12 : Int) = 12 ∧ s.toList = (⟨#[]⟩ : ByteArray).toList ∧ hi = false ∧ t.toList = (⟨#[]⟩ : ByteArray).toList ∧ lo = 0 ∧ up = 0 ∧ n = n) := by rw [hB]; show decide _ = true ↔ _; simp only [decide_eq_true_eq]
    clear hB
    cases B
    · have HF : Hid (¬ GoodN ⟨12, s, hi, t, lo, up, n⟩) := by
        show ¬ GoodN _
        have hB := HB.out
        have hE := emptyL
        try simp only [hE] at hB
        intro q
        simp [GoodN] at q hB
        simp_all
      go_wp2_with fail
      go_ret
      exact ⟨_, rfl, by simp [HF.out], HW0.out.2⟩
    · have HF : Hid (GoodN ⟨12, s, hi, t, lo, up, n⟩ ↔ (1 ≤ n ∧ n ≤ 1000)) := by
        show GoodN _ ↔ _
        have hB := HB.out
        have hG := HG.out
        have hE := emptyL
        try simp only [hE] at hB
        simp at hB
        simp [GoodN]
        simp_all
      by_cases h1 : 1 ≤ n
      · go_wp2_with fail
        go_ret
        exact ⟨_, rfl, by rw [HF.out]; simp; omega, HW0.out.2⟩
      · go_wp2_with fail
        go_ret
        exact ⟨_, rfl, by rw [HF.out]; simp; omega, HW0.out.2⟩
  by_cases k13 : kind = 13
  · subst k13
    obtain ⟨B, hB⟩ : ∃ B, B = decide ((13 : Int) = 13 ∧ s.toList = (⟨#[]⟩ : ByteArray).toList ∧ hi = false ∧ t.toList = (⟨#[]⟩ : ByteArray).toList ∧ lo = 0 ∧ up = 0 ∧ n = n) := ⟨_, rfl⟩
    have hq := ndEq_is 13 s hi t lo up n 13 ⟨#[]⟩ false ⟨#[]⟩ 0 0 n B hB
    have HB : Hid (B = true ↔ (13 : Int) = 13 ∧ s.toList = (⟨#[]⟩ : ByteArray).toList ∧ hi = false ∧ t.toList = (⟨#[]⟩ : ByteArray).toList ∧ lo = 0 ∧ up = 0 ∧ n = n) := by rw [hB]; show decide _ = true ↔ _; simp only [decide_eq_true_eq]
    clear hB
    cases B
    · have HF : Hid (¬ GoodN ⟨13, s, hi, t, lo, up, n⟩) := by
        show ¬ GoodN _
        have hB := HB.out
        have hE := emptyL
        try simp only [hE] at hB
        intro q
        simp [GoodN] at q hB
        simp_all
      go_wp2_with fail
      go_ret
      exact ⟨_, rfl, by simp [HF.out], HW0.out.2⟩
    · have HF : Hid (GoodN ⟨13, s, hi, t, lo, up, n⟩ ↔ (1 ≤ n ∧ n ≤ 1000)) := by
        show GoodN _ ↔ _
        have hB := HB.out
        have hG := HG.out
        have hE := emptyL
        try simp only [hE] at hB
        simp at hB
        simp [GoodN]
        simp_all
      by_cases h1 : 1 ≤ n
      · go_wp2_with fail
        go_ret
        exact ⟨_, rfl, by rw [HF.out]; simp; omega, HW0.out.2⟩
      · go_wp2_with fail
        go_ret
        exact ⟨_, rfl, by rw [HF.out]; simp; omega, HW0.out.2⟩
  have HF : Hid (¬ GoodN ⟨kind, s, hi, t, lo, up, n⟩) := by
    show ¬ GoodN _
    simp only [GoodN]
    rintro ⟨_, _, _, q⟩
    omega
  go_wp2_with fail
  go_ret
  exact ⟨_, rfl, by simp [HF.out], HW0.out.2⟩
end Go.Proofs.Ytiaokgoppjindaa

/-
  impl.operandCount, strength, inParens, shapeOf.
-/
namespace Go.Proofs.Ytiaokgoppjindaa
open Go.ChangeShapes Go.WideShapes Go.ChangeAt Go.RowKit Go.Deep
set_option linter.unusedVariables false
set_option linter.unusedSimpArgs false
set_option maxRecDepth 100000

set_option maxHeartbeats 1000000 in
theorem operandCount_core (k : Int) (w : World) : Calls Try.prog 33 #[.int .i64 k] w fun e w' => e = .returned (.int .i64 (arity k : Int)) ∧ w' = w := by
  by_cases h14 : k = 14
  · subst h14
    go_enter Try.func33, Try.ntmps33
    go_wp2_with fail
    go_ret
    exact ⟨rfl, rfl⟩
  by_cases h15 : k = 15
  · subst h15
    go_enter Try.func33, Try.ntmps33
    go_wp2_with fail
    go_ret
    exact ⟨rfl, rfl⟩
  by_cases h16 : k = 16
  · subst h16
    go_enter Try.func33, Try.ntmps33
    go_wp2_with fail
    go_ret
    exact ⟨rfl, rfl⟩
  have z14 : (k == 14) = false := by simpa using h14
  have z15 : (k == 15) = false := by simpa using h15
  have z16 : (k == 16) = false := by simpa using h16
  have H : Hid (arity k = 0) := by show arity k = 0; unfold arity; rw [if_neg (by omega), if_neg h16]
  go_enter Try.func33, Try.ntmps33
  go_wp2_with fail
  go_ret
  exact ⟨by rw [H.out]; rfl, rfl⟩
set_option maxHeartbeats 1000000 in
theorem strength_core (k : Int) (w : World) : Calls Try.prog 54 #[.int .i64 k] w fun e w' => e = .returned (.int .i64 (strong k : Int)) ∧ w' = w := by
  by_cases h15 : k = 15
  · subst h15
    go_enter Try.func54, Try.ntmps54
    go_wp2_with fail
    go_ret
    exact ⟨rfl, rfl⟩
  by_cases h14 : k = 14
  · subst h14
    go_enter Try.func54, Try.ntmps54
    go_wp2_with fail
    go_ret
    exact ⟨rfl, rfl⟩
  have z14 : (k == 14) = false := by simpa using h14
  have z15 : (k == 15) = false := by simpa using h15
  have H : Hid (strong k = 3) := by show strong k = 3; unfold strong; rw [if_neg h15, if_neg h14]
  go_enter Try.func54, Try.ntmps54
  go_wp2_with fail
  go_ret
  exact ⟨by rw [H.out]; rfl, rfl⟩
set_option maxHeartbeats 1000000 in
theorem inParens_core (op : Int) (i : Nat) (kid : Int) (w : World) (hop : ¬ op = 16) : Calls Try.prog 45 #[.int .i64 op, .int .i64 (i : Int), .int .i64 kid] w fun e w' => e = .returned (.bool (level op i kid)) ∧ w' = w := by
  by_cases hi : i = 0
  · subst hi
    have HL : Hid (level op 0 kid = decide (strong kid < strong op)) := by
      show level op 0 kid = _
      unfold level; simp [hop]
    clear hop
    go_enter Try.func45, Try.ntmps45
    go_wp2_with (go_at_call 54; refine (strength_core _ _).mono ?_; rintro e' w' ⟨rfl, rfl⟩)
    go_ret
    exact ⟨by rw [HL.out]; rfl, rfl⟩
  · have zi : ((i : Int) == 0) = false := by simpa using hi
    have HL : Hid (level op i kid = decide (strong kid ≤ strong op)) := by
      show level op i kid = _
      unfold level; simp [hop, hi]
    clear hop
    go_enter Try.func45, Try.ntmps45
    go_wp2_with (go_at_call 54; refine (strength_core _ _).mono ?_; rintro e' w' ⟨rfl, rfl⟩)
    go_ret
    exact ⟨by rw [HL.out]; rfl, rfl⟩
abbrev Shape.three (s : Shape) : List Value := [.bool s.valid, .int .i64 s.kind, .int .i64 (s.nest : Int)]
def cellsS (ss : List Shape) : List Value := ss.flatMap Shape.three
theorem length_cellsS (ss : List Shape) : (cellsS ss).length = ss.length * 3 := by
  induction ss with
  | nil => rfl
  | cons e es ih => simp only [cellsS, List.flatMap_cons, List.length_append] at ih ⊢; rw [ih]; simp; omega
theorem cellsS_append (es fs : List Shape) : cellsS (es ++ fs) = cellsS es ++ cellsS fs := by simp [cellsS]
theorem cellsS_get (es : List Shape) : ∀ (k : Nat) (e : Shape), es[k]? = some e → ∀ j, j < 3 → (cellsS es)[k * 3 + j]? = e.three[j]? := by
  induction es with
  | nil => intro k e h; simp at h
  | cons f es ih =>
    intro k e h j hj
    have hc : cellsS (f :: es) = f.three ++ cellsS es := by simp [cellsS]
    rw [hc]
    cases k with
    | zero =>
      simp at h; subst h
      rw [List.getElem?_append_left (by show 0 * 3 + j < 3; omega)]
      simp
    | succ k =>
      simp at h
      rw [List.getElem?_append_right (by show 3 ≤ (k + 1) * 3 + j; omega)]
      have : (k + 1) * 3 + j - f.three.length = k * 3 + j := by show (k + 1) * 3 + j - 3 = _; omega
      rw [this]; exact ih k e h j hj
theorem cellsS_take (es : List Shape) (k : Nat) : cellsS (es.take k) = (cellsS es).take (k * 3) := by
  induction es generalizing k with
  | nil => simp [cellsS]
  | cons f es ih =>
    cases k with
    | zero => simp [cellsS]
    | succ k =>
      have hc : cellsS (f :: es) = f.three ++ cellsS es := by simp [cellsS]
      have hd : cellsS (f :: es.take k) = f.three ++ cellsS (es.take k) := by simp [cellsS]
      have e1 : (k + 1) * 3 = f.three.length + k * 3 := by show (k + 1) * 3 = 3 + k * 3; omega
      rw [List.take_succ_cons, hd, hc, ih, e1, List.take_length_add_append]
/-- Shapes at ⟨b, o⟩. -/
def ShsAt (w : World) (b o : Nat) (ss : List Shape) : Prop := ∀ i s, ss[i]? = some s → w.cell? ⟨b, o + i * 3, none⟩ = some (.bool s.valid) ∧ w.cell? ⟨b, o + i * 3 + 1, none⟩ = some (.int .i64 s.kind) ∧ w.cell? ⟨b, o + i * 3 + 2, none⟩ = some (.int .i64 (s.nest : Int))
theorem ShsAt.below {B : Nat} {w w' : World} {b o : Nat} {ss : List Shape} (h : ShsAt w b o ss) (hb : Below B w w') (hlt : b < B) : ShsAt w' b o ss := by
  intro i e he
  have := h i e he
  refine ⟨?_, ?_, ?_⟩
  all_goals rw [hb.cell (by exact hlt)]
  · exact this.1
  · exact this.2.1
  · exact this.2.2
theorem ShsAt.drop {w : World} {b o : Nat} {ss : List Shape} (h : ShsAt w b o ss) (k : Nat) : ShsAt w b (o + k * 3) (ss.drop k) := by
  intro i s hs
  have := h (k + i) s (by rw [← List.getElem?_drop]; exact hs)
  rw [Nat.add_mul, ← Nat.add_assoc] at this
  exact this
def OwnSh (w : World) (base g cp : Nat) (ss : List Shape) : Prop := w.ownsRow base 57 3 (.slice (some ⟨g, 0, none⟩) ss.length cp) ss.length (cellsS ss)
theorem OwnSh.lt {w : World} {base g cp : Nat} {ss : List Shape} (h : OwnSh w base g cp ss) : base ≤ g ∧ g < w.heap.size := World.ownsRow.lt h g rfl
theorem OwnSh.below {w w' : World} {base g cp : Nat} {ss : List Shape} (h : OwnSh w base g cp ss) (hb : Below w.heap.size w w') : OwnSh w' base g cp ss := own_chg h (Chg.of_below hb) (S := fun _ => False) (fun k q z => z)
theorem OwnSh.at {w : World} {base g cp : Nat} {ss : List Shape} (h : OwnSh w base g cp ss) : ShsAt w g 0 ss := by
  intro i e he
  have hi : i < ss.length := (List.getElem?_eq_some_iff.1 he).1
  have c := fun j (hj : j < 3) => (World.ownsRow.cellAt h (i * 3 + j) (by omega)).trans (cellsS_get ss i e he j hj)
  refine ⟨?_, ?_, ?_⟩
  · simpa using c 0 (by omega)
  · simpa using c 1 (by omega)
  · simpa using c 2 (by omega)
theorem OwnSh.caps {w : World} {base g cp : Nat} {ss : List Shape} (h : OwnSh w base g cp ss) : ss.length ≤ cp ∧ cp ≤ maxLen := by
  rcases h.2 with ⟨h0, _⟩ | ⟨g', cap', cur, hv, _, _, hn, hcap, _, _⟩
  · cases h0
  · simp only [Value.slice.injEq, Option.some.injEq, Addr.mk.injEq, and_true, true_and] at hv
    obtain ⟨rfl, rfl⟩ := hv
    exact ⟨hn, hcap⟩
theorem OwnSh.take {w : World} {base g cp : Nat} {ss : List Shape} (h : OwnSh w base g cp ss) {k : Nat} (hk : k ≤ ss.length) : OwnSh w base g cp (ss.take k) := by
  rcases h.2 with ⟨h0, _⟩ | ⟨g', cap', cur, hv, h1, h2, h3, h4, h5, h6⟩
  · cases h0
  · simp only [Value.slice.injEq, Option.some.injEq, Addr.mk.injEq, and_true, true_and] at hv
    obtain ⟨rfl, rfl⟩ := hv
    have hl : (ss.take k).length = k := by rw [List.length_take]; omega
    refine ⟨by rw [length_cellsS], .inr ⟨g, cp, cur, rfl, h1, h2, by omega, h4, h5, ?_⟩⟩
    rw [hl, cellsS_take, ← h6, List.take_take]
    congr 1
    omega
theorem ownSh_new (w : World) {base : Nat} (hb : base ≤ w.heap.size) : OwnSh (w.alloc (Obj.cells #[] 57)) base w.heap.size 0 [] :=
  World.ownsRow_made w #[] 0 hb (Nat.zero_le _) (by simp)
/-- The state of shapeOf. -/
structure SoJ (w : World) (e : Nd) (WB : Nat) (v : Bool) (a : Nat) (wr : World) : Prop where
  node : BoxAt wr w.heap.size 48 7 w.heap.size e.seven
  res : BoxAt wr w.heap.size 57 3 (w.heap.size + 1) [.bool false, .int .i64 0, .int .i64 0]
  whole : BoxAt wr w.heap.size 57 3 WB [.bool v, .int .i64 e.kind, .int .i64 (a : Int)]
  ne : w.heap.size + 2 ≤ WB
  below : Below w.heap.size w wr
theorem SoJ.move {w : World} {e : Nd} {WB : Nat} {v : Bool} {a : Nat} {wr w' : World} (h : SoJ w e WB v a wr) (hb : Below wr.heap.size wr w') : SoJ w e WB v a w' :=
  ⟨h.node.below hb, h.res.below hb, h.whole.below hb, h.ne, h.below.trans (hb.mono h.below.size)⟩
theorem valid_is (e : Nd) (w : World) (hs : e.s.size ≤ maxLen) (ht : e.t.size ≤ maxLen) : Calls Try.prog 44 #[.agg #[.int .i64 e.kind, .string e.s, .bool e.hi, .string e.t, .int .u64 e.lo, .int .u64 e.up, .int .i64 e.n]] w fun r w' => r = .returned (.bool (goodB e)) ∧ Below w.heap.size w w' := by
  refine (validNode_core e w hs ht).mono ?_
  rintro r w' ⟨b, rfl, hb, hb2⟩
  refine ⟨?_, hb2⟩
  congr 2
  rw [Bool.eq_iff_iff, hb, goodB_iff]
end Go.Proofs.Ytiaokgoppjindaa

/-
  impl.foldTree over normalNode, walked.
-/
namespace Go.Proofs.Ytiaokgoppjindaa
open Go.ChangeShapes Go.WideShapes Go.ChangeAt Go.RowKit Go.Deep
set_option linter.unusedVariables false
set_option linter.unusedSimpArgs false
set_option maxRecDepth 100000

/-- The blocks that the operands lie in: new ones, not the row's. -/
def NmB (B g : Nat) (k : Nat) : Prop := B ≤ k ∧ ¬ k = g
structure FnJ (w : World) (xs : List Nd) (j g cp : Nat) (us : List Value) (ns : List (List Nd)) (wr : World) : Prop where
  fold : foldV normOf [] (xs.take j) = some ns
  own : OwnV wr w.heap.size g cp us
  len : us.length = ns.length
  opd : ∀ (i : Nat) (u : Value) (x : List Nd), us[i]? = some u → ns[i]? = some x → Opd (NmB w.heap.size g) wr u x
  below : Below w.heap.size w wr
theorem FnJ.move {w : World} {xs : List Nd} {j g cp : Nat} {us : List Value} {ns : List (List Nd)} {wr w' : World} (h : FnJ w xs j g cp us ns wr) (hb : Below wr.heap.size wr w') : FnJ w xs j g cp us ns w' :=
  ⟨h.fold, h.own.below hb, h.len, fun i u x hu hx => (h.opd i u x hu hx).below hb, h.below.trans (hb.mono h.below.size)⟩
/-- What foldTree hands back. -/
def FnPost (xs : List Nd) (w : World) (r : Ending) (w' : World) : Prop := Below w.heap.size w w' ∧ ((∃ u y, foldV normOf [] xs = some [y] ∧ r = .returned (.tuple #[u, .bool true]) ∧ Opd (fun k => w.heap.size ≤ k) w' u y) ∨ ((∀ y, ¬ foldV normOf [] xs = some [y]) ∧ r = .returned (.tuple #[.slice none 0 0, .bool false])))
theorem fn_push {w X w' : World} {xs : List Nd} {j g cp g' cp' fr : Nat} {us : List Value} {ns : List (List Nd)} {u : Value} {y : List Nd} (hG : ∀ e ∈ xs, GoodN e) (hxl : xs.length ≤ 200) (h : FnJ w xs j g cp us ns X) (hU : OwnS X u y) (hB : ∀ a n c, u = .slice (some a) n c → NmB w.heap.size g a.block) (hY : foldV normOf [] (xs.take (j + 1)) = some (ns.take fr ++ [y])) (hfr : fr ≤ us.length) (hO : OwnV w' w.heap.size g' cp' (us.take fr ++ [u])) (hgr : (X.alloc (Obj.cells #[u] 26)).grownBy w' (some g)) (hat : g' = g ∨ g' = (X.alloc (Obj.cells #[u] 26)).heap.size) : FnJ w xs (j + 1) g' cp' (us.take fr ++ [u]) (ns.take fr ++ [y]) w' := by
  have hgl := h.own.lt
  have hbX : Below X.heap.size X (X.alloc (Obj.cells #[u] 26)) := (Below.refl _ _).alloc (Nat.le_refl _) _
  have hsX : (X.alloc (Obj.cells #[u] 26)).heap.size = X.heap.size + 1 := by simp
  have hC : Chg (fun k => k = g) (X.alloc (Obj.cells #[u] 26)) w' := Chg.of_grown hgr (fun k hk => by cases hk; rfl)
  have hY2 := fold_opd hY y (by simp)
  have hyo : Opd (NmB w.heap.size g) X u y := ⟨hU, hY2.1, hB, fun e he => hG e (List.mem_of_mem_take (hY2.2.1 e he)), by have h9 := hY2.2.2; rw [List.length_take] at h9; omega⟩
  have all : ∀ (i : Nat) (u' : Value) (x : List Nd), (us.take fr ++ [u])[i]? = some u' → (ns.take fr ++ [y])[i]? = some x → Opd (NmB w.heap.size g) X u' x := by
    intro i u' x hu hx
    have hlu : (us.take fr).length = fr := by rw [List.length_take]; omega
    have hln : (ns.take fr).length = fr := by rw [List.length_take, ← h.len]; omega
    by_cases hi : i < fr
    · rw [List.getElem?_append_left (by omega)] at hu hx
      rw [List.getElem?_take_of_lt hi] at hu hx
      exact h.opd i u' x hu hx
    · have hi2 : i = fr := by
        have := (List.getElem?_eq_some_iff.1 hu).1
        simp only [List.length_append, List.length_singleton, hlu] at this
        omega
      subst hi2
      rw [List.getElem?_append_right (by omega), hlu] at hu
      rw [List.getElem?_append_right (by omega), hln] at hx
      simp at hu hx
      subst hu hx
      exact hyo
  refine ⟨hY, hO, by simp [List.length_take, h.len], fun i u' x hu hx => ?_, ?_⟩
  · have o1 : Opd (fun k => NmB w.heap.size g k ∧ ¬ k = g') X u' x := (all i u' x hu hx).weak (fun k hk q => ⟨q, by
      rcases hat with rfl | hat
      · exact q.2
      · omega⟩)
    exact ((o1.below hbX).move hC (fun k hk q => hk.1.2 q)).weak (fun k hk q => ⟨q.1.1, q.2⟩)
  · exact Chg.below (h.below.trans (hbX.mono h.below.size)) hC (by have := h.below.size; omega) (fun k q => by omega)
set_option maxHeartbeats 16000000 in
theorem foldNorm_core {w : World} {gN cpN : Nat} {xs : List Nd} (h : NdsAt w gN 0 xs) (hg : gN < w.heap.size) (hG : ∀ e ∈ xs, GoodN e) (hl : xs.length ≤ 200) :
    Calls Try.prog 16 #[.slice (some ⟨gN, 0, none⟩) xs.length cpN, .func (Fn.func 17) #[] #[]] w (FnPost xs w) := by
  have HF : Hid (NdsAt w gN 0 xs ∧ (∀ e ∈ xs, GoodN e) ∧ xs.length ≤ 200) := ⟨h, hG, hl⟩
  obtain ⟨n, hn⟩ : ∃ n, n = xs.length := ⟨_, rfl⟩
  have HL : Hid (n = xs.length) := hn
  rw [← hn] at hl ⊢
  clear h hG hn
  obtain ⟨W0, hW0⟩ : ∃ W0 : World, W0 = w.alloc (Obj.cells #[] 26) := ⟨_, rfl⟩
  have HW0 : Hid (FnJ w xs 0 w.heap.size 0 [] [] W0) := by
    refine ⟨rfl, ?_, rfl, fun i u x hu => by simp at hu, ?_⟩
    · rw [hW0]; exact ownV_new w (Nat.le_refl _)
    · rw [hW0]; exact (Below.refl _ _).alloc (Nat.le_refl _) _
  go_enter Try.func16, Try.ntmps16
  go_upto_region 2 with fail
  rw [← hW0]
  clear hW0
  go_wp2_with fail
  go_loopw [4, 6, 14] (fun wv sv iv wr => ∃ (j m g cp : Nat) (us : List Value) (ns : List (List Nd)), wv = .slice none 0 0 ∧ iv = .int .i64 (j : Int) ∧ j ≤ n ∧ m = us.length ∧ m ≤ j ∧ m ≤ cp ∧ sv = .slice (some ⟨g, 0, none⟩) m cp ∧ FnJ w xs j g cp us ns wr) (fun _ _ iv _ => n - (intOf iv).toNat)
  case atStart => exact ⟨0, 0, _, 0, [], [], rfl, rfl, Nat.zero_le _, rfl, Nat.le_refl _, Nat.zero_le _, rfl, HW0.out⟩
  case round =>
    obtain ⟨j, m, g, cp, us, ns, rfl, rfl, hj, hm, hmj, hmc, rfl, hJ⟩ := hrel
    have HJ : Hid (m = us.length ∧ FnJ w xs j g cp us ns wr) := ⟨hm, hJ⟩
    have hgl := hJ.own.lt
    have hcp : cp ≤ 9223372036854775807 := by have := hJ.own.caps.2; unfold maxLen at this; omega
    have hsz := hJ.below.size
    clear hm hJ HW0
    by_cases hlt : j < n
    · have zj : (j : Int) < (n : Int) := by omega
      obtain ⟨e, he⟩ : ∃ e, xs[j]? = some e := ⟨_, List.getElem?_eq_getElem (by have := HL.out; omega)⟩
      obtain ⟨d0, d1, d2, d3, d4, d5, d6⟩ := (HF.out.1.below HJ.out.2.below hg) j e he
      simp only [Nat.zero_add] at d0 d1 d2 d3 d4 d5 d6
      have HE : Hid (xs[j]? = some e ∧ GoodN e) := ⟨he, HF.out.2.1 e (List.mem_of_getElem? he)⟩
      clear he
      obtain ⟨W1, hW1⟩ : ∃ W1 : World, W1 = wr.alloc (Obj.cells #[.int .i64 e.kind, .string e.s, .bool e.hi, .string e.t, .int .u64 e.lo, .int .u64 e.up, .int .i64 e.n] 48) := ⟨_, rfl⟩
      have hb1 : Below wr.heap.size wr W1 := by rw [hW1]; exact (Below.refl _ _).alloc (Nat.le_refl _) _
      have hz1 : wr.heap.size < W1.heap.size := by rw [hW1]; simp
      have HJ1 : Hid (m = us.length ∧ FnJ w xs j g cp us ns W1 ∧ BoxAt W1 w.heap.size 48 7 wr.heap.size e.seven) := by
        refine ⟨HJ.out.1, HJ.out.2.move hb1, ?_⟩
        rw [hW1]; exact boxAt_new wr _ hsz rfl
      go_upto_region 5 with fail
      rw [← hW1]
      clear hW1 d0 d1 d2 d3 d4 d5 d6 HJ hb1
      have c0 := HJ1.out.2.2.cell (j := 0) rfl
      have c1 := HJ1.out.2.2.cell (j := 1) rfl
      have c2 := HJ1.out.2.2.cell (j := 2) rfl
      have c3 := HJ1.out.2.2.cell (j := 3) rfl
      have c4 := HJ1.out.2.2.cell (j := 4) rfl
      have c5 := HJ1.out.2.2.cell (j := 5) rfl
      have c6 := HJ1.out.2.2.cell (j := 6) rfl
      obtain ⟨a, ha⟩ : ∃ a, a = arity e.kind := ⟨_, rfl⟩
      have ha3 : a ≤ 3 := by rw [ha]; exact arity_le _
      have HAr : Hid (Calls Try.prog 33 #[.int .i64 e.kind] W1 fun r w' => r = .returned (.int .i64 (a : Int)) ∧ w' = W1) := by rw [ha]; exact operandCount_core e.kind W1
      have HAk : Hid (a = arity e.kind) := ha
      clear ha
      go_wp2_with fail
      refine HAr.out.mono ?_
      rintro r w9 ⟨rfl, hw9⟩
      rw [hw9]
      clear hw9 HAr
      by_cases hfr : m < a
      · have zf : (m : Int) - (a : Int) < 0 := by omega
        have HS : Hid (foldV normOf [] xs = none) := foldv_stop HJ1.out.2.1.fold HE.out.1 (by rw [← HJ1.out.2.1.len, ← HJ1.out.1, ← HAk.out]; exact hfr)
        have HB9 : Hid (Below w.heap.size w W1) := HJ1.out.2.1.below
        go_wp2_with fail
        exact bodyPost_ret (v := .tuple #[.slice none 0 0, .bool false]) (by simp [results, Try.results16, go_sem]) rfl ⟨HB9.out, .inr ⟨fun s q => (by rw [HS.out] at q; cases q), rfl⟩⟩
      · obtain ⟨fr, hfrm⟩ : ∃ fr : Nat, (m : Int) - (a : Int) = (fr : Int) := ⟨m - a, by omega⟩
        have hfrle : fr ≤ m := by omega
        have HFr : Hid (fr = ns.length - arity e.kind ∧ arity e.kind ≤ ns.length) := by
          have h1 := HJ1.out.1
          have h2 := HAk.out
          have h3 := HJ1.out.2.1.len
          exact ⟨by omega, by omega⟩
        have zf : ¬ (fr : Int) < 0 := by omega
        have z2 : (fr : Int) ≤ (m : Int) := by omega
        have z3 : (m : Int) ≤ (cp : Int) := by omega
        obtain ⟨y, hy⟩ : ∃ y, y = normOf e (ns.drop fr) := ⟨_, rfl⟩
        have HY : Hid (foldV normOf [] (xs.take (j + 1)) = some (ns.take fr ++ [y])) := by
          show _ = _
          rw [hy, HFr.out.1]
          exact foldv_next HJ1.out.2.1.fold HE.out.1 HFr.out.2
        obtain ⟨ad, had⟩ : ∃ ad : Option Addr, (if cp = fr then some (⟨g, 0, none⟩ : Addr) else some ⟨g, fr, none⟩) = ad := ⟨_, rfl⟩
        have HSh : Hid (∀ X, Below W1.heap.size W1 X → Calls Try.prog 17 #[.agg #[.int .i64 e.kind, .string e.s, .bool e.hi, .string e.t, .int .u64 e.lo, .int .u64 e.up, .int .i64 e.n], .slice ad (m - fr) (cp - fr)] X (NmI (NmB w.heap.size g) y X)) := fun X hX => by
          have hJX := HJ1.out.2.1.move hX
          have hlen : (ns.drop fr).length = m - fr := by rw [List.length_drop, ← HJ1.out.2.1.len, ← HJ1.out.1]
          have hulen : (us.drop fr).length = (ns.drop fr).length := by rw [List.length_drop, List.length_drop, HJ1.out.2.1.len]
          have hxa : (ns.drop fr).length = arity e.kind := by rw [List.length_drop]; have := HFr.out.1; have := HFr.out.2; omega
          have hO9 : ∀ (i : Nat) (u : Value) (x : List Nd), (us.drop fr)[i]? = some u → (ns.drop fr)[i]? = some x → Opd (NmB w.heap.size g) X u x := fun i u x hu hx => by
            rw [List.getElem?_drop] at hu hx
            exact hJX.opd _ u x hu hx
          rw [hy, ← had]
          by_cases hcf : cp = fr
          · rw [if_pos hcf]
            have hnil : us.drop fr = [] := List.length_eq_zero_iff.1 (by rw [hulen, hlen]; omega)
            have h9 := normalNode_core (NmB w.heap.size g) e g 0 (cp - fr) (us.drop fr) (ns.drop fr) X HE.out.2 hJX.own.lt.2 hxa hulen (by rw [hnil]; intro i u hu; simp at hu) hO9
            rw [hlen] at h9
            exact h9
          · rw [if_neg hcf]
            have h9 := normalNode_core (NmB w.heap.size g) e g fr (cp - fr) (us.drop fr) (ns.drop fr) X HE.out.2 hJX.own.lt.2 hxa hulen (by intro i u hu; rw [List.getElem?_drop] at hu; exact hJX.own.cell hu) hO9
            rw [hlen] at h9
            exact h9
        clear hy hfr
        go_upto_region 8 with fail
        go_cut [10] (fun sv wx => Below W1.heap.size W1 wx ∧ OwnS wx sv y ∧ (∀ a n c, sv = .slice (some a) n c → NmB w.heap.size g a.block))
        case first =>
          go_region_law ((go_simp; go_at_call 17; refine (HSh.out _ ?hX).mono ?_; (case hX => (repeat (first | exact Below.refl _ _ | refine Below.drew ?_))); rintro r w' ⟨v7, rfl, hv7, hs7, hbb⟩))
          all_goals go_wp2_with fail
          all_goals go_meet
          all_goals (refine ⟨?_, hv7, fun a n c hq => ?_⟩)
          all_goals first
            | exact ((Below.refl _ _).drew).trans hbb
            | (rcases hs7 a n c hq with q | q
               · exact q
               · exact ⟨by have h8 := HJ1.out.2.1.below.size; have h7 : W1.drew.heap.size = W1.heap.size := (by simp); omega, by have h8 := HJ1.out.2.1.own.lt.2; have h7 : W1.drew.heap.size = W1.heap.size := (by simp); omega⟩)
        case rest =>
        obtain ⟨hb10, hv10, hs10⟩ := hcut
        have HK : Hid (Below W1.heap.size W1 wc ∧ OwnS wc u10 y ∧ (∀ a n c, u10 = .slice (some a) n c → NmB w.heap.size g a.block)) := ⟨hb10, hv10, hs10⟩
        obtain ⟨vg, vc, rfl, _⟩ := hv10
        have HK2 : Hid (FnJ w xs j g cp us ns wc) := HJ1.out.2.1.move hb10
        have hgl2 := HK2.out.own.lt
        have hsz2 := HK2.out.below.size
        obtain ⟨W2, hW2⟩ : ∃ W2 : World, W2 = wc.alloc (Obj.cells #[.slice (some ⟨vg, 0, none⟩) y.length vc] 26) := ⟨_, rfl⟩
        have hb2 : Below wc.heap.size wc W2 := by rw [hW2]; exact (Below.refl _ _).alloc (Nat.le_refl _) _
        have cW2 : W2.cell? ⟨wc.heap.size, 0, none⟩ = some (.slice (some ⟨vg, 0, none⟩) y.length vc) := by rw [hW2]; simp
        have hfl : fr ≤ us.length := by rw [← HJ1.out.1]; exact hfrle
        have HM : Hid (fr = (us.take fr).length) := by
          show fr = _
          rw [List.length_take]; omega
        have HO2 : Hid (OwnV W2 w.heap.size g cp (us.take fr)) := (HK2.out.own.take hfl).below hb2
        have HW2 : Hid (W2 = wc.alloc (Obj.cells #[.slice (some ⟨vg, 0, none⟩) y.length vc] 26)) := hW2
        have z4 : (fr : Int) ≤ (cp : Int) := by omega
        have hz2 : wc.heap.size < W2.heap.size := by rw [hW2]; simp
        clear hb10 hs10 c0 c1 c2 c3 c4 c5 c6 HSh hb2
        go_wp2_with (at_builtin; (try rw [← hW2]); refine wpList_append_nds _ rfl _ _ rfl w.heap.size g cp fr wc.heap.size 1 1 (us.take fr) [.slice (some ⟨vg, 0, none⟩) y.length vc] rfl rfl HM.out rfl HO2.out ?hc ?hy ?hl ?hb ?_)
        case hc =>
          intro i v hv
          have hi : i = 0 := by have := (List.getElem?_eq_some_iff.1 hv).1; simpa using this
          subst hi
          simp at hv
          subst hv
          exact cW2
        case hy =>
          intro v hv
          simp at hv
          subst hv
          rfl
        case hl => rw [← HM.out]; show fr + 1 ≤ 1000; omega
        case hb => omega
        intro g' cp' w' hO' hgr' hat'
        have fin : Hid (FnJ w xs (j + 1) g' cp' (us.take fr ++ [.slice (some ⟨vg, 0, none⟩) y.length vc]) (ns.take fr ++ [y]) w') :=
          fn_push HF.out.2.1 HF.out.2.2 HK2.out HK.out.2.1 HK.out.2.2 HY.out hfl hO' (by simpa using hgr') (by simpa using hat')
        have hcp' : fr + 1 ≤ cp' := by have h8 := hO'.caps.1; rw [List.length_append, ← HM.out] at h8; exact h8
        clear hO' hgr' hat' hW2 cW2
        go_wp2_with fail
        go_roundw
        case rel => exact ⟨j + 1, fr + 1, g', cp', us.take fr ++ [.slice (some ⟨vg, 0, none⟩) y.length vc], ns.take fr ++ [y], rfl, by go_num, by omega, by rw [List.length_append, List.length_singleton, ← HM.out], by omega, hcp', rfl, fin.out⟩
        case measure => simp [intOf]; omega
    · have zj : ¬ (j : Int) < (n : Int) := by omega
      have HFo : Hid (foldV normOf [] xs = some ns) := by
        have h1 := HJ.out.2.fold
        rw [List.take_of_length_le (by have := HL.out; omega)] at h1
        exact h1
      have HB9 : Hid (Below w.heap.size w wr) := HJ.out.2.below
      by_cases hm1 : m = 1
      · subst hm1
        obtain ⟨u, rfl⟩ : ∃ u, us = [u] := by
          have h1 := HJ.out.1
          match us, h1 with
          | [u], _ => exact ⟨u, rfl⟩
        obtain ⟨y, rfl⟩ : ∃ y, ns = [y] := by
          have h1 := HJ.out.2.len
          match ns, h1 with
          | [y], _ => exact ⟨y, rfl⟩
        have e0 := HJ.out.2.own.cell (j := 0) rfl
        have HO9 : Hid (Opd (fun k => w.heap.size ≤ k) wr u y) := (HJ.out.2.opd 0 u y rfl rfl).weak (fun k _ q => q.1)
        obtain ⟨b9, o9, c9, hu9, _, _⟩ := HO9.out.form
        rw [hu9] at e0
        have HR : Hid (FnPost xs w (.returned (.tuple #[.slice (some ⟨b9, o9, none⟩) y.length c9, .bool true])) wr) := ⟨HB9.out, .inl ⟨u, y, HFo.out, by rw [hu9], HO9.out⟩⟩
        clear hu9
        go_wp2_with fail
        exact bodyPost_ret (v := .tuple #[.slice (some ⟨b9, o9, none⟩) y.length c9, .bool true]) (by simp [results, Try.results16, go_sem]) rfl HR.out
      · have zm : ((m : Int) != 1) = true := by have : ¬ (m : Int) = 1 := (by omega); simpa using this
        have HR : Hid (FnPost xs w (.returned (.tuple #[.slice none 0 0, .bool false])) wr) := ⟨HB9.out, .inr ⟨fun s q => by
          rw [HFo.out] at q
          have h1 := HJ.out.1
          rw [HJ.out.2.len, Option.some.inj q] at h1
          exact hm1 h1, rfl⟩⟩
        go_wp2_with fail
        exact bodyPost_ret (v := .tuple #[.slice none 0 0, .bool false]) (by simp [results, Try.results16, go_sem]) rfl HR.out
end Go.Proofs.Ytiaokgoppjindaa

/-
  spec.Normal.
-/
namespace Go.Proofs.Ytiaokgoppjindaa
open Go.ChangeShapes Go.WideShapes Go.ChangeAt Go.RowKit Go.Deep
set_option linter.unusedVariables false
set_option linter.unusedSimpArgs false
set_option maxRecDepth 100000

theorem norm_all : ∀ n, NormC n
  | 0 => fun w b o cap xs y hn _ _ hS => by
    obtain ⟨ys, e, os, rfl, _⟩ := TrV.inv _ hS
    simp at hn
  | n + 1 => norm_of (norm_all n)
/-- What Normal hands back. -/
def NmlP (xs : List Nd) (w : World) (r : Ending) (w' : World) : Prop := ((¬ GoodF xs ∧ r = .returned (.agg #[.slice none 0 0])) ∨ (GoodF xs ∧ ∃ y g cp, NormF xs y ∧ r = .returned (.agg #[.slice (some ⟨g, 0, none⟩) y.length cp]) ∧ OwnNd w' w.heap.size g cp y)) ∧ Below w.heap.size w w'
theorem goodF_norm {xs : List Nd} (h : GoodF xs) : ∃ y, NormF xs y ∧ y ≠ [] ∧ y.length ≤ 200 ∧ ∀ x ∈ y, x ∈ xs := by
  obtain ⟨hl, s, hs, _⟩ := h
  obtain ⟨y, hy⟩ := normF_ex (ShT.tree goodB hs)
  obtain ⟨h1, h2⟩ := trv_mem _ (Nat.le_refl _) hy
  exact ⟨y, hy, trv_ne hy, by omega, h1⟩
set_option maxHeartbeats 4000000 in
theorem specNormal_core {w : World} {base g cp : Nat} {xs : List Nd} (h : OwnNd w base g cp xs) (hok : ∀ e ∈ xs, e.ok) (hc : cp ≤ 281474976710656) : Calls Try.prog 5 #[.agg #[.slice (some ⟨g, 0, none⟩) xs.length cp]] w (NmlP xs w) := by
  have HO : Hid (OwnNd w base g cp xs ∧ ∀ e ∈ xs, e.ok) := ⟨h, hok⟩
  have hgl := h.lt.2
  have hcp := h.caps
  obtain ⟨W0, hW0⟩ : ∃ W0 : World, W0 = (w.alloc (Obj.cells #[.slice (some ⟨g, 0, none⟩) xs.length cp] 28)).alloc (Obj.cells #[.slice none 0 0] 28) := ⟨_, rfl⟩
  have hb0 : Below w.heap.size w W0 := by rw [hW0]; exact ((Below.refl _ _).alloc (Nat.le_refl _) _).alloc (by simp) _
  have hz0 : W0.heap.size = w.heap.size + 1 + 1 := by rw [hW0]; simp
  have HK : Hid (∀ wx, Below W0.heap.size W0 wx → wx.cell? ⟨w.heap.size, 0, none⟩ = some (.slice (some ⟨g, 0, none⟩) xs.length cp) ∧ wx.cell? ⟨w.heap.size + 1, 0, none⟩ = some (.slice none 0 0) ∧ wx.frozen? ⟨w.heap.size + 1, 0, none⟩ = false ∧ OwnNd wx base g cp xs) := by
    intro wx hx
    refine ⟨?_, ?_, ?_, (HO.out.1.below hb0 hgl).below hx (by omega)⟩
    · rw [hx.cell (p := ⟨w.heap.size, 0, none⟩) (by show w.heap.size < _; omega), hW0]; simp [go_sem]
    · rw [hx.cell (p := ⟨w.heap.size + 1, 0, none⟩) (by show w.heap.size + 1 < _; omega), hW0]; simp [go_sem]
    · rw [hx.frozen (p := ⟨w.heap.size + 1, 0, none⟩) (by show w.heap.size + 1 < _; omega), hW0]; simp [go_sem]
  clear h hok
  obtain ⟨c0, _, _, hO0⟩ := HK.out W0 (Below.refl _ _)
  have HO0 : Hid (OwnNd W0 base g cp xs) := hO0
  clear hO0
  go_enter Try.func5, Try.ntmps5
  go_upto_region 1 with fail
  rw [← hW0]
  clear hW0
  go_wp2_with fail
  refine (specFilter_core HO0.out HO.out.2 hc).mono ?_
  rintro e w1 ⟨r, rfl, hr, hb1⟩
  have HR : Hid (r = true ↔ GoodF xs) := hr
  have s1 := hb1.size
  have k1 : Below w.heap.size w w1 := hb0.trans (hb1.mono (by omega))
  clear hr c0
  obtain ⟨c0, c1, c2, hO1⟩ := HK.out w1 hb1
  have HO1 : Hid (OwnNd w1 base g cp xs) := hO1
  clear hO1
  cases r
  case false =>
    have HG : Hid (NmlP xs w (.returned (.agg #[.slice none 0 0])) (w1.setCell ⟨w.heap.size + 1, 0, none⟩ (.slice none 0 0))) := ⟨.inl ⟨fun q => Bool.noConfusion (HR.out.2 q), rfl⟩, k1.setCell (by show _ ≤ w.heap.size + 1; omega) _⟩
    go_wp2_with fail
    exact bodyPost_ret (v := .agg #[.slice none 0 0]) (by simp [results, Try.results5, go_sem, c1]) rfl HG.out
  case true =>
  have hG : GoodF xs := HR.out.1 rfl
  obtain ⟨y, hy, hne, hyl, _⟩ := goodF_norm hG
  have HY : Hid (NormF xs y ∧ y ≠ [] ∧ GoodF xs) := ⟨hy, hne, hG⟩
  have hxl : xs.length ≤ 200 := hG.1
  obtain ⟨W2, hW2⟩ : ∃ W2 : World, W2 = w1.alloc (Obj.cells #[] 48) := ⟨_, rfl⟩
  have hb2 : Below w1.heap.size w1 W2 := by rw [hW2]; exact (Below.refl _ _).alloc (Nat.le_refl _) _
  have hz2 : W2.heap.size = w1.heap.size + 1 := by rw [hW2]; simp
  have HO2 : Hid (OwnNd W2 w1.heap.size w1.heap.size 0 [] ∧ OwnNd W2 base g cp xs) := by
    refine ⟨?_, HO1.out.below hb2 (by have := HO1.out.lt.2; omega)⟩
    rw [hW2]
    exact World.ownsRow_made w1 #[] 0 (Nat.le_refl _) (Nat.zero_le _) (by simp)
  have kw2 : Below W0.heap.size W0 W2 := hb1.trans (hb2.mono s1)
  have HC : Hid (Calls Try.prog 13 #[.slice (some ⟨g, 0, none⟩) xs.length cp] W2 (NormP g y W2)) := norm_all _ W2 g 0 cp xs y (Nat.le_refl _) (by omega) ⟨HO2.out.2.at, HO2.out.2.lt.2, HO2.out.2.caps.1, hc⟩ hy
  clear hy hne hG c1 c2
  have hlw : w.heap.size < w1.heap.size := by omega
  have hnw : ¬ w.heap.size = w1.heap.size := by omega
  go_wp2_with fail
  rw [← hW2]
  clear hW2
  refine HC.out.mono ?_
  rintro e w3 ⟨v, rfl, hv, _, hb3⟩
  obtain ⟨va, vc, rfl, hf⟩ := hv.form
  obtain ⟨vb, vo, rfl, hE, _⟩ := hf HY.out.2.1
  have HO3 : Hid (OwnNd w3 w1.heap.size w1.heap.size 0 [] ∧ NdsAt w3 vb vo y) := ⟨HO2.out.1.below hb3 (by omega), hE⟩
  have s3 := hb3.size
  have kw3 : Below W0.heap.size W0 w3 := kw2.trans (hb3.mono kw2.size)
  clear hv hf hE c0
  go_wp2_with (at_builtin; refine wpList_append_nd _ rfl _ _ rfl w1.heap.size w1.heap.size 0 0 vb vo y.length vc [] y rfl rfl rfl rfl HO3.out.1 HO3.out.2 ?hl ?hb ?_)
  case hl => (simp; omega)
  case hb => omega
  intro g' cp' w' hO' hgr hat
  have hb' : Below W0.heap.size W0 w' := kw3.grown hgr kw3.size (fun j hj => by cases hj; omega)
  have HG : Hid (NmlP xs w (.returned (.agg #[.slice (some ⟨g', 0, none⟩) y.length cp'])) (w'.setCell ⟨w.heap.size + 1, 0, none⟩ (.slice (some ⟨g', 0, none⟩) y.length cp'))) := by
    refine ⟨.inr ⟨HY.out.2.2, y, g', cp', HY.out.1, rfl, ?_⟩, (hb0.trans (hb'.mono (by omega))).setCell (by show _ ≤ w.heap.size + 1; omega) _⟩
    skip
    exact OwnNd.mono (ownsRow_setCell_below hO' (by show w.heap.size + 1 < _; omega) _) (by omega)
  clear hO' hgr hat
  obtain ⟨c0, c1, c2, _⟩ := HK.out w' hb'
  go_wp2_with fail
  exact bodyPost_ret (v := .agg #[.slice (some ⟨g', 0, none⟩) y.length cp']) (by simp [results, Try.results5, go_sem, c1]) rfl (by simpa using HG.out)
end Go.Proofs.Ytiaokgoppjindaa

