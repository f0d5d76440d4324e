/-
  The law FnCompact.
-/
import Derived.Test.YtjphalbjimggcaePkG
import Derived.Test.YtjphalbjimggcaeQCmpR
import Derived.Test.YtjphalbjimggcaeQCptM
import Derived.Test.YtjphalbjimggcaeQLwC
namespace Go.Proofs.Ytjphalbjimggcae.fnCompact
open Go.ChangeShapes Go.WideShapes Go.ChangeAt Go.RowKit Go.Deep
set_option linter.unusedVariables false
set_option linter.unusedSimpArgs false
set_option maxRecDepth 100000

theorem own : ownKnob Try.prog.godebug = none := by kernel_rfl
theorem laidOut : laidOutB Try.prog = true := by kernel_rfl

set_option maxHeartbeats 8000000 in
theorem walk (v : Value) (n : Nat) (w : World) (h : BytesIn w v n) :
    Calls Try.prog 3 #[v] w fun e w' => e = .returned (.bool true) ∧ Below w.heap.size w w' := by
  obtain ⟨a, cap, rfl⟩ := h.slice
  have hm := h.1
  have HB : Hid (BytesIn w (.slice a n cap) n) := h
  clear h
  by_cases hbig : 1048576 < n
  · have z : (1048576 : Int) < (n : Int) := by omega
    go_enter Try.func3, Try.ntmps3
    go_wp2_with fail
    go_ret
    exact ⟨rfl, Below.refl _ _⟩
  have z : ¬ (1048576 : Int) < (n : Int) := by omega
  have hn : n ≤ 1048576 := by omega
  go_enter Try.func3, Try.ntmps3
  go_wp2_with fail
  refine (drawMerge_core _ n w (HB.out.code hn)).mono ?_
  rintro e w1 ⟨g, cp, l, lo, hi, hh, rfl, hD⟩
  have s1 := hD.below.size
  have hg := hD.row.lt
  have hl := hD.len
  obtain ⟨W2, hW2⟩ : ∃ W2 : World, W2 = w1.alloc (Obj.cells #[.string lo, .bool hh, .string hi] 25) := ⟨_, rfl⟩
  have hb2 : Below w1.heap.size w1 W2 := by rw [hW2]; exact (Below.refl _ _).alloc (Nat.le_refl _) _
  have s2 : W2.heap.size = w1.heap.size + 1 := by rw [hW2]; simp
  have HM2 : Hid (RmsAt W2 g 0 l ∧ okM l ∧ (∀ es ∈ esM l, es.length ≤ 101)) := ⟨hD.at.below hb2 hg.2, hD.ok, hD.short⟩
  have HC2 : Hid (W2.cell? ⟨w1.heap.size, 0, none⟩ = some (.string lo) ∧ W2.cell? ⟨w1.heap.size, 1, none⟩ = some (.bool hh) ∧ W2.cell? ⟨w1.heap.size, 2, none⟩ = some (.string hi)) := by
    rw [hW2]; refine ⟨?_, ?_, ?_⟩ <;> simp
  have k2 : Below w.heap.size w W2 := hD.below.trans (hb2.mono s1)
  clear hD
  go_upto_region 4 with fail
  rw [← hW2]
  clear hW2
  go_wp2_with fail
  refine (implCompact_core g 0 cp l W2 HM2.out.1 HM2.out.2.1 (by omega) (by omega)).mono ?_
  rintro e w3 ⟨a5, n5, c5, R, rfl, hU, hR, hb3, hnone⟩
  have s3 := hb3.size
  obtain ⟨g5, cp5, hv5, hO5⟩ : ∃ g5 cp5, (Value.slice a5 n5 c5) = .slice (some ⟨g5, 0, none⟩) R.length cp5 ∧ OwnE w3 W2.heap.size g5 cp5 R := by
    rcases hU with ⟨h0, _⟩ | ⟨g5, cp5, h1, h2⟩
    · simp only [Value.slice.injEq] at h0
      obtain ⟨L, hL, hl⟩ := hnone h0.1
      have := mrg_short hL HM2.out.2.2
      omega
    · exact ⟨g5, cp5, h1, h2⟩
  rw [hv5]
  clear hv5 hU hnone
  have hcp5 : R.length ≤ cp5 ∧ cp5 ≤ maxLen := by
    rcases hO5.2 with ⟨h0, _⟩ | ⟨g', cap', cur, hv, _, _, hn, hcap, _, _⟩
    · cases h0
    · simp only [Value.slice.injEq, Option.some.injEq, Addr.mk.injEq, and_true, true_and] at hv
      obtain ⟨rfl, rfl⟩ := hv
      exact ⟨hn, hcap⟩
  have hokR : ∀ e ∈ R, e.ok := by
    intro e he
    obtain ⟨es, h1, h2⟩ := compact_mem hR e he
    obtain ⟨r, hr, rfl⟩ := List.mem_map.1 h1
    exact HM2.out.2.1 r hr e h2
  have hg5 := hO5.lt
  obtain ⟨W4, hW4⟩ : ∃ W4 : World, W4 = w3.alloc (Obj.cells #[.slice (some ⟨g5, 0, none⟩) R.length cp5] 30) := ⟨_, rfl⟩
  have hb4 : Below w3.heap.size w3 W4 := by rw [hW4]; exact (Below.refl _ _).alloc (Nat.le_refl _) _
  have s4 : W4.heap.size = w3.heap.size + 1 := by rw [hW4]; simp
  have k24 : Below W2.heap.size W2 W4 := hb3.trans (hb4.mono s3)
  have HR4 : Hid ((⟨g5, 0, cp5, R⟩ : Rm).at W4 ∧ (∀ e ∈ R, e.ok) ∧ CmpOf (esM l) R) := ⟨⟨hO5.at.below hb4 hg5.2, by show g5 < W4.heap.size; omega, hcp5.1, hcp5.2⟩, hokR, hR⟩
  have HC4 : Hid (W4.cell? ⟨w1.heap.size, 0, none⟩ = some (.string lo) ∧ W4.cell? ⟨w1.heap.size, 1, none⟩ = some (.bool hh) ∧ W4.cell? ⟨w1.heap.size, 2, none⟩ = some (.string hi) ∧ W4.cell? ⟨w3.heap.size, 0, none⟩ = some (.slice (some ⟨g5, 0, none⟩) R.length cp5)) := by
    refine ⟨?_, ?_, ?_, by rw [hW4]; simp⟩
    · rw [k24.cell (p := ⟨w1.heap.size, 0, none⟩) (by show w1.heap.size < W2.heap.size; omega)]; exact HC2.out.1
    · rw [k24.cell (p := ⟨w1.heap.size, 1, none⟩) (by show w1.heap.size < W2.heap.size; omega)]; exact HC2.out.2.1
    · rw [k24.cell (p := ⟨w1.heap.size, 2, none⟩) (by show w1.heap.size < W2.heap.size; omega)]; exact HC2.out.2.2
  have HM4 : Hid (RmsAt W4 g 0 l) := HM2.out.1.below k24 (by omega)
  have k4 : Below w.heap.size w W4 := k2.trans (k24.mono (by omega))
  clear hO5 hR hb3 hcp5 hokR
  go_upto_region 5 with fail
  rw [← hW4]
  clear hW4
  obtain ⟨q0, q1, q2, _⟩ := HC4.out
  go_wp2_with fail
  refine (specMerge_core g 0 cp l lo hi hh W4 HM4.out HM2.out.2.1 (by omega) (by omega)).mono ?_
  rintro e w5 ⟨gc, cc, W, rfl, hC5, hb5, _, hM5⟩
  have s5 := hb5.size
  have hgc := hC5.lt
  have HW5 : Hid (OwnC w5 W4.heap.size gc cc W ∧ MrgOf (esM l) (inR lo hh hi) W) := ⟨hC5, hM5⟩
  have HR5 : Hid ((⟨g5, 0, cp5, R⟩ : Rm).at w5) := HR4.out.1.below hb5
  have HC5 : Hid (w5.cell? ⟨w1.heap.size, 0, none⟩ = some (.string lo) ∧ w5.cell? ⟨w1.heap.size, 1, none⟩ = some (.bool hh) ∧ w5.cell? ⟨w1.heap.size, 2, none⟩ = some (.string hi) ∧ w5.cell? ⟨w3.heap.size, 0, none⟩ = some (.slice (some ⟨g5, 0, none⟩) R.length cp5)) := by
    refine ⟨?_, ?_, ?_, ?_⟩
    · rw [hb5.cell (p := ⟨w1.heap.size, 0, none⟩) (by show w1.heap.size < W4.heap.size; omega)]; exact HC4.out.1
    · rw [hb5.cell (p := ⟨w1.heap.size, 1, none⟩) (by show w1.heap.size < W4.heap.size; omega)]; exact HC4.out.2.1
    · rw [hb5.cell (p := ⟨w1.heap.size, 2, none⟩) (by show w1.heap.size < W4.heap.size; omega)]; exact HC4.out.2.2.1
    · rw [hb5.cell (p := ⟨w3.heap.size, 0, none⟩) (by show w3.heap.size < W4.heap.size; omega)]; exact HC4.out.2.2.2
  have k5 : Below w.heap.size w w5 := k4.trans (hb5.mono (by have := k4.size; omega))
  clear hC5 hM5 q0 q1 q2
  obtain ⟨_, _, _, q3⟩ := HC5.out
  go_wp2_with fail
  refine (specValidRun_core g5 0 cp5 R w5 HR5.out.ents HR4.out.2.1 HR5.out.lt HR5.out.len HR5.out.cap).mono ?_
  rintro e w6 ⟨r6, rfl, hr6, hb6⟩
  have s6 := hb6.size
  obtain rfl : r6 = true := hr6.2 (compact_shows (M := []) HR4.out.2.2 HM2.out.2.2 HW5.out.2).1
  clear hr6 q3
  obtain ⟨q0, q1, q2, q3⟩ : w6.cell? ⟨w1.heap.size, 0, none⟩ = some (.string lo) ∧ w6.cell? ⟨w1.heap.size, 1, none⟩ = some (.bool hh) ∧ w6.cell? ⟨w1.heap.size, 2, none⟩ = some (.string hi) ∧ w6.cell? ⟨w3.heap.size, 0, none⟩ = some (.slice (some ⟨g5, 0, none⟩) R.length cp5) := by
    refine ⟨?_, ?_, ?_, ?_⟩
    · rw [hb6.cell (p := ⟨w1.heap.size, 0, none⟩) (by show w1.heap.size < w5.heap.size; omega)]; exact HC5.out.1
    · rw [hb6.cell (p := ⟨w1.heap.size, 1, none⟩) (by show w1.heap.size < w5.heap.size; omega)]; exact HC5.out.2.1
    · rw [hb6.cell (p := ⟨w1.heap.size, 2, none⟩) (by show w1.heap.size < w5.heap.size; omega)]; exact HC5.out.2.2.1
    · rw [hb6.cell (p := ⟨w3.heap.size, 0, none⟩) (by show w3.heap.size < w5.heap.size; omega)]; exact HC5.out.2.2.2
  obtain ⟨W7, hW7⟩ : ∃ W7 : World, W7 = w6.alloc (Obj.cells #[.slice (some ⟨g5, 0, none⟩) R.length cp5] 30) := ⟨_, rfl⟩
  have hb7 : Below w6.heap.size w6 W7 := by rw [hW7]; exact (Below.refl _ _).alloc (Nat.le_refl _) _
  have s7 : W7.heap.size = w6.heap.size + 1 := by rw [hW7]; simp
  have HR7 : Hid (RmsAt W7 w6.heap.size 0 [⟨g5, 0, cp5, R⟩] ∧ okM [⟨g5, 0, cp5, R⟩]) := by
    refine ⟨?_, ?_⟩
    · intro i r hr
      cases i with
      | zero =>
        simp at hr
        subst hr
        exact ⟨by rw [hW7]; simp, (HR5.out.below hb6).below hb7⟩
      | succ i => simp at hr
    · intro r hr e he
      simp at hr
      subst hr
      exact HR4.out.2.1 e he
  have HW7 : Hid (OwnC W7 W4.heap.size gc cc W) := (HW5.out.1.below hb6 hgc.2).below hb7 (by omega)
  have k7 : Below w.heap.size w W7 := (k5.trans (hb6.mono (by have := k5.size; omega))).trans (hb7.mono (by have := k5.size; omega))
  have hlt : w1.heap.size < w6.heap.size := by omega
  have p0 : (w6.alloc (Obj.cells #[.slice (some ⟨g5, 0, none⟩) R.length cp5] 30)).cell? ⟨w1.heap.size, 0, none⟩ = some (.string lo) := by rw [← hW7, hb7.cell (p := ⟨w1.heap.size, 0, none⟩) hlt]; exact q0
  have p1 : (w6.alloc (Obj.cells #[.slice (some ⟨g5, 0, none⟩) R.length cp5] 30)).cell? ⟨w1.heap.size, 1, none⟩ = some (.bool hh) := by rw [← hW7, hb7.cell (p := ⟨w1.heap.size, 1, none⟩) hlt]; exact q1
  have p2 : (w6.alloc (Obj.cells #[.slice (some ⟨g5, 0, none⟩) R.length cp5] 30)).cell? ⟨w1.heap.size, 2, none⟩ = some (.string hi) := by rw [← hW7, hb7.cell (p := ⟨w1.heap.size, 2, none⟩) hlt]; exact q2
  go_wp2_with fail
  rw [← hW7]
  clear hW7 q0 q1 q2 q3 p0 p1 p2
  refine (implMerge_core w6.heap.size 0 1 [⟨g5, 0, cp5, R⟩] lo hi hh W7 HR7.out.1 HR7.out.2 (by omega) (by simp)).mono ?_
  rintro e w8 ⟨gm, cm, M, rfl, hC8, hb8, hM8⟩
  have s8 := hb8.size
  obtain rfl : M = W := (compact_shows HR4.out.2.2 HM2.out.2.2 HW5.out.2).2 hM8
  have HC8 : Hid (OwnC w8 W7.heap.size gm cm M ∧ OwnC w8 W4.heap.size gc cc M) := ⟨hC8, HW7.out.below hb8 (by omega)⟩
  have k8 : Below w.heap.size w w8 := k7.trans (hb8.mono (by have := k7.size; omega))
  clear hC8 hM8
  go_wp2_with fail
  refine (lwCells_own HC8.out.1 HC8.out.2).mono ?_
  rintro e w9 ⟨rfl, hb9⟩
  have k9 : Below w.heap.size w w9 := k8.trans (hb9.mono (by have := k8.size; omega))
  go_wp2_with fail
  go_ret
  exact ⟨rfl, k9⟩

theorem lifted (os : Os) (started : os.Started) (H : Type) (enc : TypeId × Value → H) :
    ReturnsInHanded {} Try.checked os 3 .any (Rows.fnCompactSpec.pre6 enc Try.prog Try.f3 Rows.fnCompactRow.domain false) (Rows.fnCompactSpec.post enc Try.prog Try.f3 false true false false) := by
  refine returnsInHanded_of_change (C := Try.checked) own started (by kernel_rfl) Try.func3
    (ChangeSpec.witness6 (enc := enc) (C := Try.checked) false ⟨#[], #[.slice none 0 0], []⟩ 8 (by kernel_rfl) (by kernel_rfl) (by kernel_rfl) (by kernel_rfl)) ?_
  intro W base args ds gs before hval0 hW hcnd _
  have hval : ∀ (j : Nat) t v, Try.f3.params[j]? = some t → args[j]? = some v → Value.okWide Try.prog W .any base t v := hval0
  have hW' := hW
  obtain ⟨p, q, hA0, hV, rfl, hfz, hnd⟩ := hW
  have hA : DataW.TrodAll enc Try.prog W 0 (fun _ => true) true Try.f3.params.toList args.toList ds p := hA0
  rw [Try.params3] at hA hval
  obtain ⟨v0, vs0, d0, ds0, p0, q0, hargs, rfl, rfl, h0, r0⟩ := trodAll_cons hA
  obtain ⟨rfl, rfl, rfl⟩ := trodAll_nil r0
  obtain rfl : args = #[v0] := by cases args; simp_all
  obtain ⟨rfl, rfl⟩ := trodVars_none hV
  have k0 := h0
  have lt0 : ∀ x ∈ p0, x.block < W.heap.size := by obtain ⟨m, hm⟩ := k0; exact DataW.trod_lt m _ _ _ hm
  obtain ⟨n, hin⟩ : ∃ n, BytesIn W v0 n := by
    obtain ⟨a0, len0, cap0, rfl⟩ := okWide_slice Try.underlying22 (hval 0 22 v0 rfl rfl)
    obtain ⟨fuel, hf⟩ := h0
    exact bytes_of_trod (by simpa [Value.cells] using hf) lt0
  clear hA0 hval0
  refine (walk v0 n W hin).mono fun e W' ⟨he, bel⟩ => ?_
  subst he
  exact ⟨_, rfl, _, _, _, [], _, [], hW', trodAll_mk1 (shut_bool Try.underlying4 _), (trodAll_cons_mk (Below.trod laidOut (by kernel_rfl) (of_decide_eq_true (by kernel_rfl)) k0 bel lt0) trodAll_mk0), rfl, bel.frame _, fun h => by cases h⟩

theorem over : Rows.fnCompactRow.holds Try.pinned (OpenSpec.ofChange Rows.fnCompactSpec) :=
  OpenClaim.holds_of_wide 3 Try.f3 rfl rfl rfl rfl rfl rfl rfl ⟨rfl, rfl, rfl, rfl, rfl⟩ rfl rfl rfl rfl rfl (by kernel_rfl) Try.func3 (by kernel_rfl)
    (of_decide_eq_true (by kernel_rfl)) (by unfold Func.isWrapper; first | (rw [if_pos (by decide +kernel)]; kernel_rfl) | (rw [if_neg (by decide +kernel)]; exact ⟨rfl, rfl⟩))
    (fun os started H enc _ => lifted os started H enc)

end Go.Proofs.Ytjphalbjimggcae.fnCompact
namespace Go.Proofs.Ytjphalbjimggcae
theorem fnCompact_holds : Rows.FnCompactSaid := fnCompact.over
#print axioms fnCompact_holds
end Go.Proofs.Ytjphalbjimggcae
