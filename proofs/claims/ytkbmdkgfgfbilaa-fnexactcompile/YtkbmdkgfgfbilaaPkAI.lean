import Derived.Test.YtkbmdkgfgfbilaaPkAF
import Derived.Test.YtkbmdkgfgfbilaaPkAH
import Derived.Test.YtkbmdkgfgfbilaaPkAG
/-
  spec.l6Gen: its four cases.
-/
namespace Go.Proofs.Ytkbmdkgfgfbilaa
open Go.ChangeShapes Go.WideShapes Go.ChangeAt Go.RowKit Go.Deep
set_option linter.unusedVariables false
set_option linter.unusedSimpArgs false
set_option maxRecDepth 100000

set_option maxHeartbeats 8000000 in
theorem gen_cond {n : Nat} (H : GeC n) (w : World) (b o cap : Nat) (ks : List (List Nd)) (e : Nd) (t : CT) (s : Bool) (f : Nat) (hn : (ks.flatten ++ [e]).length ≤ n + 1) (hn2 : (ks.flatten ++ [e]).length ≤ 200) (hf : f + (ks.flatten ++ [e]).length ≤ 1000) (hW : Win w b o cap (ks.flatten ++ [e])) (hT : TreeF (ks.flatten ++ [e]) t) (hal : ks.length = arity e.kind) (hIs : ∀ k ∈ ks, IsT 1 k) {x y z : CT} {ka kb kc : List Nd} (h16 : e.kind = 16) (hx : TreeF ka x) (hy : TreeF kb y) (hz : TreeF kc z) (ht : t = .cond e x y z) (hks : ks = [ka, kb, kc]) : Calls Try.prog 17 #[.slice (some ⟨b, o, none⟩) (ks.flatten ++ [e]).length cap, .bool s, .int .i64 (f : Int)] w (GeP (t.gen s f) w) := by
  simp only [List.length_append, List.length_singleton] at hn hn2 hf
  obtain ⟨m, hm⟩ : ∃ m, m = ks.flatten.length := ⟨_, rfl⟩
  have HT : Hid (∀ wx, Below w.heap.size w wx → Calls Try.prog 38 #[.slice (some ⟨b, o, none⟩) (m + 1) cap] wx fun r w' => r = .returned (.int .i64 e.kind) ∧ w' = wx) := fun wx hx => by
    rw [hm]; exact l5Top_core (hW.below hx)
  obtain ⟨a3, ha3⟩ : ∃ a3, a3 = ks.length := ⟨_, rfl⟩
  have HKs : Hid (Calls Try.prog 37 #[.slice (some ⟨b, o, none⟩) (m + 1) cap] w fun r w' => ∃ g cp, r = .returned (.slice (some ⟨g, 0, none⟩) a3 cp) ∧ OwnV w' w.heap.size g cp (kidVs b o cap ks) ∧ Below w.heap.size w w') := by
    rw [ha3, hm]; exact l5Kids_core hW hal hIs
  have HN : Hid (∀ {j : Nat} {k : List Nd} {u : CT}, ks[j]? = some k → TreeF k u → ∃ o' cap', (kidVs b o cap ks)[j]? = some (.slice (some ⟨b, o', none⟩) k.length cap') ∧ GkC w b o' k.length cap' u) := by
    intro j k u hk hu
    obtain ⟨o', cap', hv, hWk⟩ := kidVs_nth hW hk
    have hkl := len_flat (List.mem_of_getElem? hk)
    exact ⟨o', cap', hv, gkC_of H (by omega) (by omega) hWk hu⟩
  have HW : Hid (Win w b o cap (ks.flatten ++ [e])) := hW
  rw [List.length_append, List.length_singleton, ← hm]
  rw [← hm] at hf
  have hcap := hW.cap
  have hcl : m + 1 ≤ cap := by have := hW.len; rw [List.length_append, List.length_singleton] at this; omega
  have HM : Hid (a3 = ks.length ∧ m = ks.flatten.length) := ⟨ha3, hm⟩
  have HSz : Hid (t.size ≤ 200) := by show _ ≤ _; rw [hT.size, List.length_append, List.length_singleton]; omega
  have HK0 : Hid (t = .cond e x y z ∧ ks = [ka, kb, kc] ∧ e.kind = 16) := ⟨ht, hks, h16⟩
  clear hW hT hIs H hal hn hn2 hm ha3 ht hks h16
  go_enter Try.func17, Try.ntmps17
  go_wp2_with fail
  refine HKs.out.mono ?_
  rintro r w1 ⟨kg, kc1, rfl, hO, hb1⟩
  have s1 := hb1.size
  have HO : Hid (OwnV w1 w.heap.size kg kc1 (kidVs b o cap ks)) := hO
  have hkc := hO.caps
  rw [kidVs_len, ← HM.out.1] at hkc
  have hkl := hO.lt
  clear hO HKs
  go_wp2_with fail
  refine (HT.out w1 hb1).mono ?_
  rintro r w1' ⟨rfl, hw1⟩
  rw [hw1]
  clear hw1
  obtain ⟨ht, hks, h16⟩ := HK0.out
  clear HK0
  subst ht hks
  have z14 : (e.kind == 14) = false := by rw [beq_eq_false_iff_ne]; omega
  have z15 : (e.kind == 15) = false := by rw [beq_eq_false_iff_ne]; omega
  have z16 : (e.kind == 16) = true := by rw [beq_iff_eq]; exact h16
  obtain rfl : a3 = 3 := HM.out.1
  obtain ⟨o0, c0, hv0, hc0⟩ := HN.out (j := 0) rfl hx
  obtain ⟨o1, c1, hv1, hc1⟩ := HN.out (j := 1) rfl hy
  obtain ⟨o2, c2, hv2, hc2⟩ := HN.out (j := 2) rfl hz
  have q0 := HO.out.cell hv0
  have q1 := HO.out.cell hv1
  have q2 := HO.out.cell hv2
  have hm2 : m = ka.length + kb.length + kc.length := by rw [HM.out.2]; simp; omega
  obtain ⟨l0, hl0⟩ : ∃ l0, l0 = ka.length := ⟨_, rfl⟩
  obtain ⟨l1, hl1⟩ : ∃ l1, l1 = kb.length := ⟨_, rfl⟩
  obtain ⟨l2, hl2⟩ : ∃ l2, l2 = kc.length := ⟨_, rfl⟩
  rw [← hl0] at q0 hc0 hm2
  rw [← hl1] at q1 hc1 hm2
  rw [← hl2] at q2 hc2 hm2
  have HC0 : Hid (GkC w b o0 l0 c0 x) := hc0
  have HC1 : Hid (GkC w b o1 l1 c1 y) := hc1
  have HC2 : Hid (GkC w b o2 l2 c2 z) := hc2
  have hi0 := hc0.le
  have hi1 := hc1.le
  obtain ⟨Kn, hK⟩ : ∃ Kn, Kn = f + x.ifs := ⟨_, rfl⟩
  have HF : Hid (Kn = f + x.ifs ∧ Kn + 1 + l1 ≤ 1000 ∧ Kn + 1 + y.ifs + l2 ≤ 1000) := ⟨hK, by omega, by omega⟩
  have hKb : Kn ≤ 1000 := by omega
  have hyb : y.ifs ≤ 1000 := by omega
  have hWk : IntKind.i64.wrap ((f : Int) + (x.ifs : Int)) = (Kn : Int) := by rw [IntKind.wrap_i64]; omega
  have HWk : Hid (IntKind.i64.wrap ((f : Int) + (x.ifs : Int)) = (Kn : Int)) := hWk
  clear hc0 hc1 hc2 hv0 hv1 hv2 hl0 hl1 hl2 hm2 hx hy hz hK
  go_wp2_with fail
  refine (HC0.out.ifs w1 hb1).mono ?_
  rintro r w1'' ⟨rfl, hw1⟩
  rw [hw1]
  clear hw1
  go_wp2_with fail
  refine (GkC.gen_in HC1 hb1 s (Kn + 1) _ (by omega) HF.out.2.1 w1 (Below.refl _ _)).mono ?_
  rintro r w2 ⟨g2, p2, n2, rfl, HO2, hb2⟩
  have s2 := hb2.size
  have k2 : Below w.heap.size w w2 := hb1.trans (hb2.mono s1)
  have r1 : w2.cell? ⟨kg, 1, none⟩ = some (.slice (some ⟨b, o1, none⟩) l1 c1) := by rw [hb2.cell (p := ⟨kg, 1, none⟩) hkl.2]; exact q1
  have r2 : w2.cell? ⟨kg, 2, none⟩ = some (.slice (some ⟨b, o2, none⟩) l2 c2) := by rw [hb2.cell (p := ⟨kg, 2, none⟩) hkl.2]; exact q2
  have L2 : Hid (Lst w2 g2 (y.gen s (Kn + 1)) ∧ n2 = (y.gen s (Kn + 1)).length) := ⟨HO2.out.2.lst, HO2.out.1⟩
  have hnb : n2 ≤ 1000 := by have h1 := gen_len y s (Kn + 1); have h2 := L2.out.2; have h3 := HSz.out; simp only [CT.size] at h3; omega
  clear HO2 q0 q1 q2 hWk
  go_upto_region 14 with fail
  go_cut [14] (fun v wx => ∃ g3 p3 n3, v = .slice (some ⟨g3, 0, none⟩) n3 p3 ∧ Hid (n3 = (z.gen s (Kn + 1 + y.ifs)).length ∧ OwnX wx w2.heap.size g3 p3 (z.gen s (Kn + 1 + y.ifs))) ∧ Below w2.heap.size w2 wx)
  case first =>
    have hkw : kg < w2.heap.size := by omega
    have HWr : Hid (IntKind.i64.wrap (IntKind.i64.wrap ((Kn : Int) + 1) + (y.ifs : Int)) = ((Kn + 1 + y.ifs : Nat) : Int)) := by
      show _ = _
      rw [show IntKind.i64.wrap ((Kn : Int) + 1) = (Kn : Int) + 1 by rw [IntKind.wrap_i64]; omega, IntKind.wrap_i64]; omega
    have hSd : (fun w' : World => w'.cell? ⟨kg, 1, none⟩ = some (.slice (some ⟨b, o1, none⟩) l1 c1) ∧ w'.cell? ⟨kg, 2, none⟩ = some (.slice (some ⟨b, o2, none⟩) l2 c2) ∧ Below w2.heap.size w2 w') w2.drew := ⟨r1, r2, (Below.refl _ _).drew⟩
    refine wp_region_T 99 (fun w' : World => w'.cell? ⟨kg, 1, none⟩ = some (.slice (some ⟨b, o1, none⟩) l1 c1) ∧ w'.cell? ⟨kg, 2, none⟩ = some (.slice (some ⟨b, o2, none⟩) l2 c2) ∧ Below w2.heap.size w2 w') (by kernel_rfl) ?_
    refine anyT_takeN (i := 0) (v := ?vc0) rfl (by kernel_rfl) (by kernel_rfl) (by kernel_rfl) (by rfl) (fun _ _ _ h => h) (Or.inl ⟨by rfl, ?yc0⟩) hSd ?_
    case yc0 => (intro wz hSw; obtain ⟨hz0, hz1, _⟩ := hSw; go_simp; (try with_reducible rfl))
    try simp only [Act.put, List.getElem_toArray, List.getElem_cons_zero, List.getElem_cons_succ, List.setIfInBounds_toArray, List.set_cons_zero, List.set_cons_succ]
    refine anyT_takeN (i := 1) (v := ?vc1) rfl (by kernel_rfl) (by kernel_rfl) (by kernel_rfl) (by rfl) (fun _ _ _ h => h) (Or.inl ⟨by rfl, ?yc1⟩) hSd ?_
    case yc1 => (intro wz hSw; obtain ⟨hz0, hz1, _⟩ := hSw; go_simp; (try with_reducible rfl))
    try simp only [Act.put, List.getElem_toArray, List.getElem_cons_zero, List.getElem_cons_succ, List.setIfInBounds_toArray, List.set_cons_zero, List.set_cons_succ]
    refine anyT_takeN (i := 2) (v := ?vc2) rfl (by kernel_rfl) (by kernel_rfl) (by kernel_rfl) (by rfl) (fun _ _ _ h => h) (Or.inl ⟨by rfl, ?yc2⟩) hSd ?_
    case yc2 => (intro wz hSw; obtain ⟨hz0, hz1, _⟩ := hSw; go_simp; (try with_reducible rfl))
    try simp only [Act.put, List.getElem_toArray, List.getElem_cons_zero, List.getElem_cons_succ, List.setIfInBounds_toArray, List.set_cons_zero, List.set_cons_succ]
    refine anyT_takeN (i := 3) (v := ?vc3) rfl (by kernel_rfl) (by kernel_rfl) (by kernel_rfl) (by rfl) (fun _ _ _ h => h) (Or.inl ⟨by rfl, ?yc3⟩) hSd ?_
    case yc3 => (intro wz hSw; obtain ⟨hz0, hz1, _⟩ := hSw; go_simp; (try with_reducible rfl))
    try simp only [Act.put, List.getElem_toArray, List.getElem_cons_zero, List.getElem_cons_succ, List.setIfInBounds_toArray, List.set_cons_zero, List.set_cons_succ]
    refine anyT_takeN (i := 4) (v := ?vc4) rfl (by kernel_rfl) (by kernel_rfl) (by kernel_rfl) (by rfl) (fun _ _ _ h => h) (Or.inl ⟨by rfl, ?yc4⟩) hSd ?_
    case yc4 => (intro wz hSw; obtain ⟨hz0, hz1, _⟩ := hSw; go_simp; (try with_reducible rfl))
    try simp only [Act.put, List.getElem_toArray, List.getElem_cons_zero, List.getElem_cons_succ, List.setIfInBounds_toArray, List.set_cons_zero, List.set_cons_succ]
    refine anyT_takeN (i := 5) (v := ?vc5) rfl (by kernel_rfl) (by kernel_rfl) (by kernel_rfl) (by rfl) (fun _ _ _ h => h) (Or.inl ⟨by rfl, ?yc5⟩) hSd ?_
    case yc5 => (intro wz hSw; obtain ⟨hz0, hz1, _⟩ := hSw; go_simp; (try with_reducible rfl))
    try simp only [Act.put, List.getElem_toArray, List.getElem_cons_zero, List.getElem_cons_succ, List.setIfInBounds_toArray, List.set_cons_zero, List.set_cons_succ]
    refine anyT_takeN (i := 6) (v := ?vc6) rfl (by kernel_rfl) (by kernel_rfl) (by kernel_rfl) (by rfl) (fun _ _ _ h => h) (Or.inl ⟨by rfl, ?yc6⟩) hSd ?_
    case yc6 => (intro wz hSw; obtain ⟨hz0, hz1, _⟩ := hSw; go_simp; (try with_reducible rfl))
    try simp only [Act.put, List.getElem_toArray, List.getElem_cons_zero, List.getElem_cons_succ, List.setIfInBounds_toArray, List.set_cons_zero, List.set_cons_succ]
    refine anyT_takeN (i := 7) (v := ?vc7) rfl (by kernel_rfl) (by kernel_rfl) (by kernel_rfl) (by rfl) (fun _ _ _ h => h) (Or.inl ⟨by rfl, ?yc7⟩) hSd ?_
    case yc7 => (intro wz hSw; obtain ⟨hz0, hz1, _⟩ := hSw; go_simp; (try with_reducible rfl))
    try simp only [Act.put, List.getElem_toArray, List.getElem_cons_zero, List.getElem_cons_succ, List.setIfInBounds_toArray, List.set_cons_zero, List.set_cons_succ]
    refine anyT_takeN (i := 8) (v := ?vc8) rfl (by kernel_rfl) (by kernel_rfl) (by kernel_rfl) (by rfl) (fun _ _ _ h => h) (Or.inl ⟨by rfl, ?yc8⟩) hSd ?_
    case yc8 => (intro wz hSw; obtain ⟨hz0, hz1, _⟩ := hSw; go_simp; (try with_reducible rfl))
    try simp only [Act.put, List.getElem_toArray, List.getElem_cons_zero, List.getElem_cons_succ, List.setIfInBounds_toArray, List.set_cons_zero, List.set_cons_succ]
    refine anyT_one (i := 9) (by kernel_rfl) rfl (fun K hK => ?_)
    go_simp
    go_at_call 41
    refine (GkC.ifs_in HC1 k2 _ hSd.2.2).mono ?_
    rintro r v4 ⟨rfl, hv4⟩
    rw [hv4]
    clear hv4
    refine hK.out _ _ (.inr hSd) ?_
    clear hK
    try simp only [Act.put, List.getElem_toArray, List.getElem_cons_zero, List.getElem_cons_succ, List.setIfInBounds_toArray, List.set_cons_zero, List.set_cons_succ]
    refine anyT_takeN (i := 10) (v := ?vc10) rfl (by kernel_rfl) (by kernel_rfl) (by kernel_rfl) (by rfl) (fun _ _ _ h => h) (Or.inl ⟨by rfl, ?yc10⟩) hSd ?_
    case yc10 => (intro wz hSw; obtain ⟨hz0, hz1, _⟩ := hSw; go_simp; (try with_reducible rfl))
    try simp only [Act.put, List.getElem_toArray, List.getElem_cons_zero, List.getElem_cons_succ, List.setIfInBounds_toArray, List.set_cons_zero, List.set_cons_succ]
    refine anyT_one (i := 11) (by kernel_rfl) rfl (fun K hK => ?_)
    go_simp
    go_at_call 17
    refine (GkC.gen_in HC2 k2 s (Kn + 1 + y.ifs) _ HWr.out HF.out.2.2 _ hSd.2.2).mono ?_
    rintro r v5 ⟨g3, p3, n3, rfl, HO3, hbb3⟩
    have hS5 : (fun w' : World => w'.cell? ⟨kg, 1, none⟩ = some (.slice (some ⟨b, o1, none⟩) l1 c1) ∧ w'.cell? ⟨kg, 2, none⟩ = some (.slice (some ⟨b, o2, none⟩) l2 c2) ∧ Below w2.heap.size w2 w') v5 := ⟨by rw [hbb3.cell (p := ⟨kg, 1, none⟩) hkw]; exact r1, by rw [hbb3.cell (p := ⟨kg, 2, none⟩) hkw]; exact r2, hbb3⟩
    refine hK.out _ _ (.inr hS5) ?_
    clear hK
    try simp only [Act.put, List.getElem_toArray, List.getElem_cons_zero, List.getElem_cons_succ, List.setIfInBounds_toArray, List.set_cons_zero, List.set_cons_succ]
    refine anyT_one (i := 12) (by kernel_rfl) rfl (fun K hK => ?_)
    go_simp
    refine hK.out _ _ (.inr hS5) ?_
    clear hK
    try simp only [Act.put, List.getElem_toArray, List.getElem_cons_zero, List.getElem_cons_succ, List.setIfInBounds_toArray, List.set_cons_zero, List.set_cons_succ]
    refine anyT_done (by kernel_rfl) ?_
    go_wp2_with fail
    go_meet
    exact ⟨g3, p3, n3, rfl, HO3, hbb3⟩
  case rest =>
  obtain ⟨g3, p3, n3, rfl, HO3', hb3⟩ := hcut
  obtain ⟨w3, hw3⟩ : ∃ w3 : World, w3 = wc := ⟨_, rfl⟩
  subst hw3
  have s3 := hb3.size
  have k3 : Below w.heap.size w w3 := k2.trans (hb3.mono k2.size)
  have L3 : Hid (Lst w3 g2 (y.gen s (Kn + 1)) ∧ n2 = (y.gen s (Kn + 1)).length ∧ Lst w3 g3 (z.gen s (Kn + 1 + y.ifs)) ∧ n3 = (z.gen s (Kn + 1 + y.ifs)).length) := ⟨L2.out.1.below hb3, L2.out.2, HO3'.out.2.lst, HO3'.out.1⟩
  have hnc : n3 ≤ 1000 := by have h1 := gen_len z s (Kn + 1 + y.ifs); have h2 := L3.out.2.2.2; have h3 := HSz.out; simp only [CT.size] at h3; omega
  clear r1 r2 HO3' L2
  obtain ⟨w4, hw4⟩ : ∃ w4 : World, w4 = w3.alloc (Obj.cells #[.int .i64 5, .int .i64 (Kn : Int), .int .i64 ((n2 : Int) + 2), .bool false, .int .i64 0, .string ⟨#[]⟩, .bool false, .string ⟨#[]⟩, .int .u64 0, .int .u64 0, .int .i64 0] 77) := ⟨_, rfl⟩
  have hb4 : Below w3.heap.size w3 w4 := by rw [hw4]; exact (Below.refl _ _).alloc (Nat.le_refl _) _
  have k4 : Below w.heap.size w w4 := k3.trans (hb4.mono k3.size)
  have L4 : Hid (Lst w4 w3.heap.size [⟨5, (Kn : Int), (n2 : Int) + 2, false, zeroN⟩]) := by rw [hw4]; exact (ownX_one w3 ⟨5, (Kn : Int), (n2 : Int) + 2, false, zeroN⟩).lst
  obtain ⟨a4, ha4⟩ : ∃ a4, a4 = w3.heap.size := ⟨_, rfl⟩
  obtain ⟨w5, hw5⟩ : ∃ w5 : World, w5 = w4.alloc (Obj.cells #[.int .i64 6, .int .i64 0, .int .i64 ((n3 : Int) + 1), .bool false, .int .i64 0, .string ⟨#[]⟩, .bool false, .string ⟨#[]⟩, .int .u64 0, .int .u64 0, .int .i64 0] 77) := ⟨_, rfl⟩
  have hb5 : Below w4.heap.size w4 w5 := by rw [hw5]; exact (Below.refl _ _).alloc (Nat.le_refl _) _
  have k5 : Below w.heap.size w w5 := k4.trans (hb5.mono k4.size)
  have L5 : Hid (Lst w5 w4.heap.size [⟨6, 0, (n3 : Int) + 1, false, zeroN⟩]) := by rw [hw5]; exact (ownX_one w4 ⟨6, 0, (n3 : Int) + 1, false, zeroN⟩).lst
  rw [← ha4] at L4
  obtain ⟨a5, ha5⟩ : ∃ a5, a5 = w4.heap.size := ⟨_, rfl⟩
  rw [← ha5] at L5
  obtain ⟨W6, hW6⟩ : ∃ W6 : World, W6 = w5.alloc (Obj.cells #[.slice (some ⟨a4, 0, none⟩) 1 1, .slice (some ⟨g2, 0, none⟩) n2 p2, .slice (some ⟨a5, 0, none⟩) 1 1, .slice (some ⟨g3, 0, none⟩) n3 p3] 27) := ⟨_, rfl⟩
  have k6 : Below w.heap.size w W6 := by rw [hW6]; exact k5.trans (((Below.refl _ _).alloc (Nat.le_refl _) _).mono k5.size)
  have HC : Hid (Calls Try.prog 39 #[.slice (some ⟨w5.heap.size, 0, none⟩) 4 4] W6 (GeP (CT.gen (.cond e x y z) s f) W6)) := by
    rw [hW6]
    have hF := HF.out.1
    refine cat_lit (ns := [[⟨5, (Kn : Int), (n2 : Int) + 2, false, zeroN⟩], y.gen s (Kn + 1), [⟨6, 0, (n3 : Int) + 1, false, zeroN⟩], z.gen s (Kn + 1 + y.ifs)]) (.cons rfl (L4.out.below hb5) (.cons L3.out.2.1 ((L3.out.1.below hb4).below hb5) (.cons rfl L5.out (.cons L3.out.2.2.2 ((L3.out.2.2.1.below hb4).below hb5) .nil)))) rfl ?_ rfl ?_ (by simp)
    · rw [L3.out.2.1, L3.out.2.2.2, hF]; simp [CT.gen]
    · have := gen_len (.cond e x y z) s f
      have h9 := HSz.out
      omega
  go_upto_region 16 with fail
  rw [← hw4, ← ha4]
  clear hw4 ha4
  go_upto_region 17 with fail
  rw [← hw5, ← ha5]
  clear hw5 ha5
  go_wp2_with fail
  rw [← hW6]
  clear hW6
  refine HC.out.mono ?_
  rintro r w8 ⟨g8, p8, rfl, hO8, hb8⟩
  have HR : Hid (GeP (CT.gen (.cond e x y z) s f) w (.returned (.slice (some ⟨g8, 0, none⟩) (CT.gen (.cond e x y z) s f).length p8)) w8) := ⟨g8, p8, rfl, hO8.low k6.size, k6.trans (hb8.mono k6.size)⟩
  clear hO8
  go_wp2_with fail
  go_ret
  exact HR.out
end Go.Proofs.Ytkbmdkgfgfbilaa

/-
  spec.l6Gen.
-/
namespace Go.Proofs.Ytkbmdkgfgfbilaa
open Go.ChangeShapes Go.WideShapes Go.ChangeAt Go.RowKit Go.Deep
set_option linter.unusedVariables false
set_option linter.unusedSimpArgs false
set_option maxRecDepth 100000

theorem gen_of {n : Nat} (H : GeC n) : GeC (n + 1) := by
  intro w b o cap xs t s f hn hn2 hf hW hT
  obtain ⟨ks, e, rfl, hK, hal, hIs⟩ := hT.knd
  cases hK with
  | leaf _ hk => exact gen_leaf H w b o cap _ e _ s f hn hn2 hf hW hT hal hIs hk rfl rfl
  | chain _ h ha hb => exact gen_chain H w b o cap _ e _ s f hn hn2 hf hW hT hal hIs h ha hb rfl rfl
  | inter _ h ha hb => exact gen_inter H w b o cap _ e _ s f hn hn2 hf hW hT hal hIs h ha hb rfl rfl
  | cond _ h ha hb hc => exact gen_cond H w b o cap _ e _ s f hn hn2 hf hW hT hal hIs h ha hb hc rfl rfl
theorem gen_all : ∀ n, GeC n
  | 0 => fun w b o cap xs t s f hn _ _ _ hT => by have := hT.part; cases this <;> simp at hn
  | n + 1 => gen_of (gen_all n)
end Go.Proofs.Ytkbmdkgfgfbilaa

/-
  spec.l6Conds: blocks handed out and joined.
-/
namespace Go.Proofs.Ytkbmdkgfgfbilaa
open Go.ChangeShapes Go.WideShapes Go.ChangeAt Go.RowKit Go.Deep
set_option linter.unusedVariables false
set_option linter.unusedSimpArgs false
set_option maxRecDepth 100000

def viewB (l : List Ix) : Int × List Ix := ((cntL l : Nat), absG 0 0 l)
def Eac (w : World) (base : Nat) (bs : List Bk) : Prop := ∀ x ∈ bs, RowX w base x.v x.l
theorem Eac.below {w w' : World} {base : Nat} {bs : List Bk} (h : Eac w base bs) (hb : Below w.heap.size w w') : Eac w' base bs := fun x hx => (h x hx).below hb
theorem Eac.low {w : World} {base base' : Nat} {bs : List Bk} (h : Eac w base bs) (hb : base' ≤ base) : Eac w base' bs := fun x hx => (h x hx).low hb
theorem row_apart {w : World} {base base' : Nat} {v u : Value} {X : List Ix} {bs : List Bk} (h : RowX w base v X) (h' : RowB w base' u bs) : ∀ k, v.ownBlock = some k → u.ownBlock ≠ some k := own_apart h h' (by decide)
theorem Eac.grown {w w' : World} {base base' : Nat} {v : Value} {bs cs : List Bk} (h : Eac w base bs) (hB : RowB w base' v cs) (hg : w.grownBy w' v.ownBlock) : Eac w' base bs := fun x hx =>
  (h x hx).chg (S := fun k => v.ownBlock = some k) (Chg.of_grown hg (fun k hk => hk)) (fun k hk q => row_apart (h x hx) hB k hk q)
/-- Blocks in a row of the call's own. -/
structure Cds (w0 w : World) (v : Value) (X : List (List Ix)) (bs : List Bk) : Prop where
  row : RowB w w0.heap.size v bs
  each : Eac w w0.heap.size bs
  view : bs.map Bk.vw = X.map viewB
  below : Below w0.heap.size w0 w
theorem Cds.len {w0 w : World} {v : Value} {X : List (List Ix)} {bs : List Bk} (h : Cds w0 w v X bs) : bs.length = X.length := by
  have := congrArg List.length h.view
  simpa using this
theorem Cds.move {w0 w w' : World} {v : Value} {X : List (List Ix)} {bs : List Bk} (h : Cds w0 w v X bs) (hb : Below w.heap.size w w') : Cds w0 w' v X bs :=
  ⟨h.row.below hb, h.each.below hb, h.view, h.below.trans (hb.mono h.below.size)⟩
theorem Cds.weak {w0 w1 w : World} {v : Value} {X : List (List Ix)} {bs : List Bk} (h : Cds w1 w v X bs) (hb : Below w0.heap.size w0 w1) : Cds w0 w v X bs :=
  ⟨h.row.low hb.size, h.each.low hb.size, h.view, hb.trans (h.below.mono hb.size)⟩
theorem Cds.one {w0 w : World} {v : Value} {X : List (List Ix)} {bs : List Bk} (h : Cds w0 w v X bs) : ∀ x ∈ bs, x.v.oneCell' = true := fun x hx => by
  obtain ⟨a, c, hv⟩ := (h.each x hx).slice
  rw [hv]; rfl
theorem Cds.cells {w0 w : World} {g n cp : Nat} {X : List (List Ix)} {bs : List Bk} (h : Cds w0 w (.slice (some ⟨g, 0, none⟩) n cp) X bs) : n = bs.length ∧ BCells w g 0 bs := by
  have hn : n = bs.length := by
    obtain ⟨a, c, hv⟩ := h.row.slice
    cases hv; rfl
  refine ⟨hn, ?_⟩
  subst hn
  intro i x hx
  have := h.row.cell hx
  rw [Nat.zero_add]; exact this
theorem Cds.app {w0 w w' : World} {v v' : Value} {X Y : List (List Ix)} {bs cs : List Bk} (h : Cds w0 w v X bs) (hs : w0.heap.size ≤ w.heap.size) (hE : Eac w w0.heap.size cs) (hY : cs.map Bk.vw = Y.map viewB) (hA : AppB w w' w0.heap.size v v' bs cs) : Cds w0 w' v' (X ++ Y) (bs ++ cs) := by
  refine ⟨hA.own, fun x hx => ?_, by rw [List.map_append, List.map_append, h.view, hY], ?_⟩
  · rcases List.mem_append.1 hx with hx | hx
    · exact h.each.grown h.row hA.grown x hx
    · exact hE.grown h.row hA.grown x hx
  · exact h.below.grown hA.grown hs (fun k hk => (h.row.blk hk).1)
/-- What l6Conds hands out. -/
def CoP (X : List (List Ix)) (w : World) (r : Ending) (w' : World) : Prop := ∃ g n cp bs, r = .returned (.slice (some ⟨g, 0, none⟩) n cp) ∧ Hid (Cds w w' (.slice (some ⟨g, 0, none⟩) n cp) X bs) ∧ Below w.heap.size w w'
theorem AppB.some {w w' : World} {base g n cp : Nat} {v' : Value} {X Y : List Bk} (h : AppB w w' base (.slice (some ⟨g, 0, none⟩) n cp) v' X Y) : ∃ g' cp', v' = .slice (some ⟨g', 0, none⟩) (X.length + Y.length) cp' := by
  rcases h.own.cases with ⟨h0, _⟩ | ⟨g', cp', hv, _⟩
  · have := (h.nil.1 h0).1
    cases this
  · exact ⟨g', cp', by rw [hv, List.length_append]⟩
/-- Blocks of another row joined to this one. -/
theorem wpList_append_cds {ops : Array Oper} {rest : List Oper} {o : Oper} {a : Act} {Q : Exit → Act → World → Prop} {w w0 w1 : World} (hgd : o.guard = none) (s x : Operand)
    (ho : o.op = .call { callee := .builtin .append, args := #[s, x], argTypes := #[26, 26] })
    (g n cp b m cx : Nat) (X Y : List (List Ix)) (bs cs : List Bk) (hs : a.eval s = .slice (some ⟨g, 0, none⟩) n cp) (hx : a.eval x = .slice (some ⟨b, 0, none⟩) m cx)
    (hC : Cds w0 w (.slice (some ⟨g, 0, none⟩) n cp) X bs) (hD : Cds w1 w (.slice (some ⟨b, 0, none⟩) m cx) Y cs) (h01 : w0.heap.size ≤ w1.heap.size) (hl : X.length + Y.length ≤ 1000)
    (h : ∀ g' n' cp' bs' w', Hid (Cds w0 w' (.slice (some ⟨g', 0, none⟩) n' cp') (X ++ Y) bs') → Below w0.heap.size w0 w' → wpList Try.prog ops Q rest (a.put o.dst (.slice (some ⟨g', 0, none⟩) n' cp')) w') : wpList Try.prog ops Q (o :: rest) a w := by
  have hsz : w0.heap.size ≤ w.heap.size := hC.below.size
  obtain ⟨hm, hcel⟩ := hD.cells
  have hlb := hC.len
  have hlc := hD.len
  refine wpList_append_bkV w hgd s x ho w0.heap.size _ b 0 m cx bs cs hs hx hm hC.row hcel hD.one (by omega) hsz ?_
  intro v' w' hA
  obtain ⟨g', cp', rfl⟩ := hA.some
  have hC' := hC.app hsz (hD.each.low h01) hD.view hA
  exact h g' _ cp' _ w' hC' hC'.below
theorem step_append_cds {ops : Array Oper} {oo : Oper} {a : Act} {K : Act → World → Prop} {Q : Exit → Act → World → Prop} {E : Prop} {w w0 w1 : World} (hgd : oo.guard = none) (s x : Operand)
    (ho : oo.op = .call { callee := .builtin .append, args := #[s, x], argTypes := #[26, 26] })
    (g n cp b m cx : Nat) (X Y : List (List Ix)) (bs cs : List Bk) (hs : a.eval s = .slice (some ⟨g, 0, none⟩) n cp) (hx : a.eval x = .slice (some ⟨b, 0, none⟩) m cx)
    (hC : Cds w0 w (.slice (some ⟨g, 0, none⟩) n cp) X bs) (hD : Cds w1 w (.slice (some ⟨b, 0, none⟩) m cx) Y cs) (h01 : w0.heap.size ≤ w1.heap.size) (hl : X.length + Y.length ≤ 1000)
    (h : ∀ g' n' cp' bs' w', Hid (Cds w0 w' (.slice (some ⟨g', 0, none⟩) n' cp') (X ++ Y) bs') → Below w0.heap.size w0 w' → K (a.put oo.dst (.slice (some ⟨g', 0, none⟩) n' cp')) w') : if Region.wanted oo (yielded ops a.tmps) = true then Oper.wp Try.prog oo a w K Q else E := by
  have hsz : w0.heap.size ≤ w.heap.size := hC.below.size
  obtain ⟨hm, hcel⟩ := hD.cells
  have hlb := hC.len
  have hlc := hD.len
  refine step_append_bkV w hgd s x ho w0.heap.size _ b 0 m cx bs cs hs hx hm hC.row hcel hD.one (by omega) hsz ?_
  intro v' w' hA
  obtain ⟨g', cp', rfl⟩ := hA.some
  have hC' := hC.app hsz (hD.each.low h01) hD.view hA
  exact h g' _ cp' _ w' hC' hC'.below
theorem gen_bd (t : CT) : ∀ (s : Bool) (f : Nat), ∀ x ∈ t.gen s f, 0 ≤ x.b ∧ x.b ≤ 3 * (t.size : Int) := by
  induction t with
  | leaf n => intro s f x hx; simp [CT.gen] at hx; subst hx; simp [CT.size]
  | chain n a b ha hb =>
    intro s f x hx
    simp only [CT.gen, List.mem_append] at hx
    simp only [CT.size]
    rcases hx with hx | hx
    · have := ha _ _ x hx; omega
    · have := hb _ _ x hx; omega
  | inter n a b ha hb =>
    intro s f x hx
    simp only [CT.gen, List.mem_append, List.mem_singleton] at hx
    simp only [CT.size]
    have h0 : ∀ o, (opI o).b = 0 := fun _ => rfl
    rcases hx with (((hx | hx) | hx) | hx) | hx
    · rw [hx, h0]; omega
    · have := ha _ _ x hx; omega
    · rw [hx, h0]; omega
    · have := hb _ _ x hx; omega
    · rw [hx, h0]; omega
  | cond n a b c ha hb hc =>
    intro s f x hx
    simp only [CT.gen, List.mem_append, List.mem_singleton] at hx
    have h1 := gen_len b s (f + a.ifs + 1)
    have h2 := gen_len c s (f + a.ifs + 1 + b.ifs)
    simp only [CT.size]
    rcases hx with ((hx | hx) | hx) | hx
    · rw [hx]; show 0 ≤ ((b.gen s (f + a.ifs + 1)).length : Int) + 2 ∧ _; simp only []; omega
    · have := hb _ _ x hx; omega
    · rw [hx]; show 0 ≤ ((c.gen s (f + a.ifs + 1 + b.ifs)).length : Int) + 1 ∧ _; simp only []; omega
    · have := hc _ _ x hx; omega
/-- What stands before a tree. -/
structure Bfr (L : List Ix) (sz : Nat) : Prop where
  len : L.length + 3 * sz ≤ 5000
  bd : ∀ x ∈ L, 0 ≤ x.b ∧ x.b ≤ 100000
theorem Bfr.less {L : List Ix} {sz sz' : Nat} (h : Bfr L sz) (hs : sz' ≤ sz) : Bfr L sz' := ⟨by have := h.len; omega, h.bd⟩
theorem Bfr.more {L : List Ix} {sz sz' : Nat} {a : CT} (h : Bfr L sz) (hs : a.size + sz' ≤ sz) (hz : sz ≤ 1000) (s : Bool) (f : Nat) : Bfr (L ++ a.gen s f) sz' := by
  have h1 := gen_len a s f
  have h2 := h.len
  refine ⟨by rw [List.length_append]; omega, fun x hx => ?_⟩
  rcases List.mem_append.1 hx with hx | hx
  · exact h.bd x hx
  · have := gen_bd a s f x hx; omega
def CoC (n : Nat) : Prop := ∀ (w : World) (b o cap gb nb cb : Nat) (xs : List Nd) (t : CT) (L : List Ix) (s : Bool) (f : Nat), xs.length ≤ n → xs.length ≤ 200 → f + xs.length ≤ 1000 → Win w b o cap xs → TreeF xs t → Lst w gb L → nb = L.length → Bfr L t.size →
  Calls Try.prog 15 #[.slice (some ⟨b, o, none⟩) xs.length cap, .slice (some ⟨gb, 0, none⟩) nb cb, .bool s, .int .i64 (f : Int)] w (CoP (t.conds L s f) w)
structure CkC (w : World) (b o l cap : Nat) (u : CT) : Prop where
  g : GkC w b o l cap u
  conds : ∀ (L : List Ix) (s : Bool) (f gb nb cb : Nat), f + l ≤ 1000 → nb = L.length → Bfr L u.size → ∀ wx, Below w.heap.size w wx → Lst wx gb L → Calls Try.prog 15 #[.slice (some ⟨b, o, none⟩) l cap, .slice (some ⟨gb, 0, none⟩) nb cb, .bool s, .int .i64 (f : Int)] wx (CoP (u.conds L s f) wx)
  ifs : u.ifs ≤ 200
theorem ckC_of {n : Nat} (H : CoC n) {w : World} {b o cap : Nat} {xs : List Nd} {t : CT} (hn : xs.length ≤ n) (h2 : xs.length ≤ 200) (hW : Win w b o cap xs) (hT : TreeF xs t) : CkC w b o xs.length cap t := by
  have g := gkC_of (gen_all _) hn h2 hW hT
  exact ⟨g, fun L s f gb nb cb hf hl hB wx hx hL => H wx b o cap gb nb cb xs t L s f hn h2 hf (hW.below hx) hT hL hl hB, by have := g.le; omega⟩
theorem CkC.conds_in {w : World} {b o l cap : Nat} {u : CT} (h : Hid (CkC w b o l cap u)) (L : List Ix) (s : Bool) (f gb nb cb : Nat) (z : Int) (hz : z = (f : Int)) (hf : f + l ≤ 1000) (hn : nb = L.length) (hB : Bfr L u.size) (wx : World) (hx : Below w.heap.size w wx) (hL : Lst wx gb L) :
    Calls Try.prog 15 #[.slice (some ⟨b, o, none⟩) l cap, .slice (some ⟨gb, 0, none⟩) nb cb, .bool s, .int .i64 z] wx (CoP (u.conds L s f) wx) := by
  subst hz
  exact h.out.conds L s f gb nb cb hf hn hB wx hx hL
theorem cds_new (w : World) : Cds w (w.alloc (Obj.cells #[] 29)) (.slice (some ⟨w.heap.size, 0, none⟩) 0 0) [] [] :=
  ⟨World.ownsRow_lit w #[] 0 (Nat.le_refl _) (by decide) (by decide), (fun x hx => by cases hx), rfl, (Below.refl _ _).alloc (Nat.le_refl _) _⟩
end Go.Proofs.Ytkbmdkgfgfbilaa

/-
  impl's addConds: what it leans on.
-/
namespace Go.Proofs.Ytkbmdkgfgfbilaa
open Go.ChangeShapes Go.WideShapes Go.ChangeAt Go.RowKit Go.Deep
set_option linter.unusedVariables false
set_option linter.unusedSimpArgs false
set_option maxRecDepth 100000

theorem emit_all (t : CT) : EmC t := by
  induction t with
  | leaf n => exact emit_leaf n
  | chain n a b ha hb => exact emit_chain n a b ha hb
  | inter n a b ha hb => exact emit_inter n a b ha hb
  | cond n a b c ha hb hc => exact emit_cond n a b c hb hc
/-- What is emitted ahead of a tree, on an emitter that is empty. -/
def BeP (w : World) (eb : Nat) (v : Value) (L : List Ix) (s : Bool) (r : Ending) (w' : World) : Prop := ∃ v', r = .returned (.bool s) ∧ EmTo w w' eb v v' (absG 0 0 L) (cntL L)
def BefOk (w : World) (R : Nat → Prop) (k : Nat) (args : Nat → Array Value) (L : List Ix) (s : Bool) : Prop := ∀ (wx : World) (eb : Nat) (v : Value), Chg (fun b => ¬ R b) w wx → w.heap.size ≤ eb → EmAt wx eb v [] 0 → Calls Try.prog k (args eb) wx (BeP wx eb v L s)
/-- A function that emits what stands ahead of a tree; all that it reads lies in blocks of R. -/
def Bef (w : World) (R : Nat → Prop) (fv : Value) (L : List Ix) (s : Bool) : Prop :=
  (fv = .func (Fn.func 23) #[] #[] ∧ BefOk w R 23 (fun eb => #[ptrV eb]) L s) ∨
  ∃ p1 p2, fv = .func (Fn.func 49) #[] #[ptrV p1, ptrV p2] ∧ BefOk w R 49 (fun eb => #[ptrV eb, ptrV p1, ptrV p2]) L s
theorem BefOk.move {w w' : World} {R R' : Nat → Prop} {k : Nat} {args : Nat → Array Value} {L : List Ix} {s : Bool} (h : BefOk w R k args L s) (hc : Chg (fun b => ¬ R b) w w') (hR : ∀ b, R b → R' b) : BefOk w' R' k args L s := fun wx eb v hx he hE =>
  h wx eb v (hc.trans (hx.mono (fun b hb q => hb (hR b q)))) (Nat.le_trans hc.size he) hE
theorem Bef.move {w w' : World} {R R' : Nat → Prop} {fv : Value} {L : List Ix} {s : Bool} (h : Bef w R fv L s) (hc : Chg (fun b => ¬ R b) w w') (hR : ∀ b, R b → R' b) : Bef w' R' fv L s := by
  rcases h with ⟨h1, h2⟩ | ⟨p1, p2, h1, h2⟩
  · exact .inl ⟨h1, h2.move hc hR⟩
  · exact .inr ⟨p1, p2, h1, h2.move hc hR⟩
theorem Bef.below {w w' : World} {R : Nat → Prop} {fv : Value} {L : List Ix} {s : Bool} (h : Bef w R fv L s) (hb : Below w.heap.size w w') : Bef w' R fv L s := h.move (Chg.of_below hb) (fun _ q => q)
/-- The code that is being made. -/
structure CoAt (w : World) (cb : Nat) (cv : Value) (X : List (List Ix)) (bs : List Bk) : Prop where
  box : BoxAt w cb 31 3 cb [cv, .slice none 0 0, .int .i64 0]
  row : RowB w (cb + 1) cv bs
  each : Eac w (cb + 1) bs
  view : bs.map Bk.vw = X.map viewB
  apart : bs.Pairwise (fun x y => x.v.ownBlock ≠ y.v.ownBlock)
  some : ∀ x ∈ bs, x.l ≠ []
theorem CoAt.len {w : World} {cb : Nat} {v : Value} {X : List (List Ix)} {bs : List Bk} (h : CoAt w cb v X bs) : bs.length = X.length := by
  have := congrArg List.length h.view
  simpa using this
theorem CoAt.lt {w : World} {cb : Nat} {v : Value} {X : List (List Ix)} {bs : List Bk} (h : CoAt w cb v X bs) : cb < w.heap.size := h.box.lt.2
theorem CoAt.chg {S : Nat → Prop} {w w' : World} {cb : Nat} {v : Value} {X : List (List Ix)} {bs : List Bk} (h : CoAt w cb v X bs) (hc : Chg S w w') (h1 : ¬ S cb) (h2 : ∀ k, v.ownBlock = .some k → ¬ S k) (h3 : ∀ x ∈ bs, ∀ k, x.v.ownBlock = .some k → ¬ S k) : CoAt w' cb v X bs :=
  ⟨h.box.chg hc h1, h.row.chg hc h2, fun x hx => (h.each x hx).chg hc (h3 x hx), h.view, h.apart, h.some⟩
theorem CoAt.below {w w' : World} {cb : Nat} {v : Value} {X : List (List Ix)} {bs : List Bk} (h : CoAt w cb v X bs) (hb : Below w.heap.size w w') : CoAt w' cb v X bs :=
  h.chg (S := fun _ => False) (Chg.of_below hb) (fun q => q) (fun _ _ q => q) (fun _ _ _ _ q => q)
def AdS (lo hi cb : Nat) (cv : Value) (b : Nat) : Prop := (lo ≤ b ∧ b < hi) ∨ b = cb ∨ cv.ownBlock = some b
/-- From 'w' to 'w'' only the tree's blocks, the code's variable and the row of its conditions have turned. -/
structure AdF (w w' : World) (lo hi cb : Nat) (cv cv' : Value) : Prop where
  chg : Chg (AdS lo hi cb cv) w w'
  new : ∀ k, cv'.ownBlock = some k → cv.ownBlock = some k ∨ w.heap.size ≤ k
theorem AdF.trans {w w1 w2 : World} {lo hi cb : Nat} {cv cv1 cv2 : Value} (h : AdF w w1 lo hi cb cv cv1) (k : AdF w1 w2 lo hi cb cv1 cv2) : AdF w w2 lo hi cb cv cv2 := by
  refine ⟨⟨k.chg.os.trans h.chg.os, k.chg.tape.trans h.chg.tape, k.chg.output.trans h.chg.output, Nat.le_trans h.chg.size k.chg.size, fun i hi hn => ?_⟩, fun i hi => ?_⟩
  · refine (k.chg.block i (Nat.lt_of_lt_of_le hi h.chg.size) ?_).trans (h.chg.block i hi hn)
    rintro (q | q | q)
    · exact hn (.inl q)
    · exact hn (.inr (.inl q))
    · rcases h.new i q with q | q
      · exact hn (.inr (.inr q))
      · omega
  · rcases k.new i hi with q | q
    · exact h.new i q
    · exact .inr (Nat.le_trans h.chg.size q)
theorem AdF.mono {w w1 : World} {lo hi lo' hi' cb : Nat} {cv cv1 : Value} (h : AdF w w1 lo' hi' cb cv cv1) (h1 : lo ≤ lo') (h2 : hi' ≤ hi) : AdF w w1 lo hi cb cv cv1 :=
  ⟨h.chg.mono (fun k hk => by rcases hk with ⟨q1, q2⟩ | q | q; exact .inl ⟨by omega, by omega⟩; exact .inr (.inl q); exact .inr (.inr q)), h.new⟩
theorem AdF.of_below {w w' : World} {lo hi cb : Nat} {cv : Value} (hb : Below w.heap.size w w') : AdF w w' lo hi cb cv cv := ⟨Chg.of_below hb, fun k hk => .inl hk⟩
/-- A block that has not turned. -/
theorem adS_off {w : World} {lo hi cb b : Nat} {cv : Value} {X : List (List Ix)} {bs : List Bk} (hC : CoAt w cb cv X bs) (hb : b < cb) (hn : ¬ (lo ≤ b ∧ b < hi)) : ¬ AdS lo hi cb cv b := by
  rintro (q | q | q)
  · exact hn q
  · omega
  · have := (hC.row.blk q).1; omega
theorem adS_new {w : World} {lo hi cb b : Nat} {cv : Value} {X : List (List Ix)} {bs : List Bk} (hC : CoAt w cb cv X bs) (hh : hi ≤ cb) (hb : w.heap.size ≤ b) : ¬ AdS lo hi cb cv b := by
  have := hC.lt
  rintro (q | q | q)
  · omega
  · omega
  · have := (hC.row.blk q).2; omega
theorem TrAt.adf {w w' : World} {t : CT} {lo hi p lo' hi' cb : Nat} {f : Option Nat} {cv cv' : Value} {X : List (List Ix)} {bs : List Bk} (h : TrAt w t lo hi p f) (hC : CoAt w cb cv X bs) (hF : AdF w w' lo' hi' cb cv cv') (hh : hi ≤ cb) (hd : hi ≤ lo' ∨ hi' ≤ lo) : TrAt w' t lo hi p f :=
  h.chg hF.chg (fun b h1 h2 => adS_off hC (by omega) (by omega))
/-- What addConds says. -/
structure AdTo (w w' : World) (t : CT) (lo hi p cb : Nat) (cv cv' : Value) (X Y : List (List Ix)) (bs' : List Bk) : Prop where
  tree : TrAt w' t lo hi p (some X.length)
  code : CoAt w' cb cv' (X ++ Y) bs'
  fr : AdF w w' lo hi cb cv cv'
def AdP (w : World) (t : CT) (lo hi p cb : Nat) (cv : Value) (X : List (List Ix)) (L : List Ix) (s : Bool) (r : Ending) (w' : World) : Prop := r = .returned (.tuple #[]) ∧ ∃ cv' bs', AdTo w w' t lo hi p cb cv cv' X (t.conds L s X.length) bs'
structure RApart (w : World) (R : Nat → Prop) (lo hi cb : Nat) (cv : Value) : Prop where
  lt : ∀ b, R b → b < w.heap.size
  off : ∀ b, R b → ¬ AdS lo hi cb cv b
theorem RApart.move {w w' : World} {R : Nat → Prop} {lo hi lo' hi' cb : Nat} {cv cv' : Value} (h : RApart w R lo hi cb cv) (hs : w.heap.size ≤ w'.heap.size) (hn : ∀ k, cv'.ownBlock = some k → cv.ownBlock = some k ∨ w.heap.size ≤ k) (h1 : lo ≤ lo') (h2 : hi' ≤ hi) : RApart w' R lo' hi' cb cv' := by
  refine ⟨fun b hb => by have := h.lt b hb; omega, fun b hb q => ?_⟩
  have hoff := h.off b hb
  rcases q with ⟨q1, q2⟩ | q | q
  · exact hoff (.inl ⟨by omega, by omega⟩)
  · exact hoff (.inr (.inl q))
  · rcases hn b q with q | q
    · exact hoff (.inr (.inr q))
    · have := h.lt b hb; omega
theorem Bef.adf {w w' : World} {R : Nat → Prop} {lo hi cb : Nat} {cv cv' fv : Value} {L : List Ix} {s : Bool} (h : Bef w R fv L s) (hR : RApart w R lo hi cb cv) (hF : AdF w w' lo hi cb cv cv') : Bef w' R fv L s := h.move (hF.chg.mono (fun b hb q => hR.off b q hb)) (fun _ q => q)
theorem Bef.shape {w : World} {R : Nat → Prop} {fv : Value} {L : List Ix} {s : Bool} (h : Bef w R fv L s) : ∃ k caps, fv = .func (Fn.func k) #[] caps := by
  rcases h with ⟨h1, _⟩ | ⟨p1, p2, h1, _⟩
  · exact ⟨_, _, h1⟩
  · exact ⟨_, _, h1⟩
def AdC (t : CT) : Prop := ∀ (w : World) (lo hi p cb : Nat) (cv : Value) (X : List (List Ix)) (bs : List Bk) (fv : Value) (R : Nat → Prop) (L : List Ix) (s : Bool), TrAt w t lo hi p none → CoAt w cb cv X bs → hi ≤ cb → Bef w R fv L s → RApart w R lo hi cb cv → L.length + 3 * t.size ≤ 10000 → cntL L + t.size ≤ 10000 → X.length + t.ifs ≤ 1000 →
  Calls Try.prog 22 #[ptrV cb, ptrV p, fv] w (AdP w t lo hi p cb cv X L s)
end Go.Proofs.Ytkbmdkgfgfbilaa

/-
  (*impl.Code).addConds: what is emitted ahead of a tree.
-/
namespace Go.Proofs.Ytkbmdkgfgfbilaa
open Go.ChangeShapes Go.WideShapes Go.ChangeAt Go.RowKit Go.Deep
set_option linter.unusedVariables false
set_option linter.unusedSimpArgs false
set_option maxRecDepth 100000

set_option maxHeartbeats 1000000 in
theorem bef_start (w : World) (R : Nat → Prop) : BefOk w R 23 (fun eb => #[ptrV eb]) [] false := by
  intro wx eb v hx he hE
  have HR : Hid (BeP wx eb v [] false (.returned (.bool false)) wx) := ⟨v, rfl, EmTo.of_below hE (Below.refl _ _)⟩
  clear hE
  go_enter Try.func23, Try.ntmps23
  go_wp2_with fail
  go_ret
  exact HR.out
def RC (R : Nat → Prop) (lo m p1 p2 : Nat) (b : Nat) : Prop := R b ∨ (lo ≤ b ∧ b < m) ∨ b = p1 ∨ b = p2
set_option maxHeartbeats 4000000 in
theorem clos_core {w : World} {R : Nat → Prop} {lo m pa f p1 p2 : Nat} {fv : Value} {L : List Ix} {s : Bool} {a : CT} (hB1 : BoxAt w p1 48 1 p1 [ptrV pa]) (hB2 : BoxAt w p2 54 1 p2 [fv]) (hT : TrAt w a lo m pa (some f)) (hBf : Bef w R fv L s) (hm : m ≤ w.heap.size) (hl : L.length + 3 * a.size ≤ 20000) (hc : cntL L + a.size ≤ 20000) (hf : f + a.ifs ≤ 20000) :
    BefOk w (RC R lo m p1 p2) 49 (fun eb => #[ptrV eb, ptrV p1, ptrV p2]) (L ++ a.gen s f) (s || a.passes) := by
  intro wx eb v hx he hE
  have hp1 := hB1.chg hx (fun q => q (.inr (.inr (.inl rfl))))
  have hp2 := hB2.chg hx (fun q => q (.inr (.inr (.inr rfl))))
  have hta := hT.chg hx (fun b h1 h2 q => q (.inr (.inl ⟨h1, h2⟩)))
  have hcx : Chg (fun b => ¬ R b) w wx := hx.mono (fun b hb q => hb (.inl q))
  have hq1 := hB1.lt.2
  have hq2 := hB2.lt.2
  have hebl := hE.lt
  have hlx : p1 < eb := by omega
  have hly : p2 < eb := by omega
  have HEm : Hid (∀ (wy : World) (v1 : Value), Below eb wx wy → EmAt wy eb v1 (absG 0 0 L) (cntL L) → Calls Try.prog 24 #[ptrV pa, ptrV eb, .bool s] wy (EmP wy eb (cntL L) v1 (absG 0 0 L) a s f)) := fun wy v1 hy hEy =>
    emit_all a wy lo m pa f eb (cntL L) v1 (absG 0 0 L) s (hta.below hy (by omega) (by omega)) hEy (by omega) (by rw [absG_length]; omega) (by omega) (by omega)
  clear hx hB1 hB2 hT hta
  rcases hBf with ⟨rfl, hbf⟩ | ⟨r1, r2, rfl, hbf⟩
  case inl =>
    have HBf : Hid (Calls Try.prog 23 #[ptrV eb] wx.drew (BeP wx.drew eb v L s)) := hbf wx.drew eb v (hcx.trans (Chg.of_below ((Below.refl _ _).drew))) he (hE.below ((Below.refl _ _).drew))
    have c1 : wx.cell? ⟨p1, 0, none⟩ = some (ptrV pa) := hp1.cell (j := 0) rfl
    have c2 : wx.cell? ⟨p2, 0, none⟩ = some (.func (Fn.func 23) #[] #[]) := hp2.cell (j := 0) rfl
    have HCL : Hid (∀ wy, Below eb wx wy → wy.cell? ⟨p1, 0, none⟩ = some (ptrV pa) ∧ wy.cell? ⟨p2, 0, none⟩ = some (.func (Fn.func 23) #[] #[])) := fun wy hy => ⟨by rw [hy.cell (p := ⟨p1, 0, none⟩) (by show p1 < eb; omega)]; exact c1, by rw [hy.cell (p := ⟨p2, 0, none⟩) (by show p2 < eb; omega)]; exact c2⟩
    have HE : Hid (EmAt wx eb v [] 0) := hE
    have hSd : (fun w' : World => w'.cell? ⟨p1, 0, none⟩ = some (ptrV pa) ∧ w'.cell? ⟨p2, 0, none⟩ = some (.func (Fn.func 23) #[] #[])) wx.drew := ⟨c1, c2⟩
    clear hp1 hp2 hE hbf
    go_enter Try.func49, Try.ntmps49
    go_upto_region 1 with fail
    refine wp_region_T 99 (fun w' : World => w'.cell? ⟨p1, 0, none⟩ = some (ptrV pa) ∧ w'.cell? ⟨p2, 0, none⟩ = some (.func (Fn.func 23) #[] #[])) (by kernel_rfl) ?_
    refine anyT_takeN (i := 0) (v := ?vcll0) rfl (by kernel_rfl) (by kernel_rfl) (by kernel_rfl) (by rfl) (fun _ _ _ h => h) (Or.inl ⟨by rfl, ?ycll0⟩) hSd ?_
    case ycll0 => (intro wz hSw; obtain ⟨hz0, hz1⟩ := hSw; go_simp; (try with_reducible rfl))
    try simp only [Act.put, List.getElem_toArray, List.getElem_cons_zero, List.getElem_cons_succ, List.setIfInBounds_toArray, List.set_cons_zero, List.set_cons_succ]
    refine anyT_takeN (i := 1) (v := ?vcll1) rfl (by kernel_rfl) (by kernel_rfl) (by kernel_rfl) (by rfl) (fun _ _ _ h => h) (Or.inl ⟨by rfl, ?ycll1⟩) hSd ?_
    case ycll1 => (intro wz hSw; obtain ⟨hz0, hz1⟩ := hSw; go_simp; (try with_reducible rfl))
    try simp only [Act.put, List.getElem_toArray, List.getElem_cons_zero, List.getElem_cons_succ, List.setIfInBounds_toArray, List.set_cons_zero, List.set_cons_succ]
    refine anyT_takeN (i := 2) (v := ?vcll2) rfl (by kernel_rfl) (by kernel_rfl) (by kernel_rfl) (by rfl) (fun _ _ _ h => h) (Or.inl ⟨by rfl, ?ycll2⟩) hSd ?_
    case ycll2 => (intro wz hSw; obtain ⟨hz0, hz1⟩ := hSw; go_simp; (try with_reducible rfl))
    try simp only [Act.put, List.getElem_toArray, List.getElem_cons_zero, List.getElem_cons_succ, List.setIfInBounds_toArray, List.set_cons_zero, List.set_cons_succ]
    refine anyT_takeN (i := 3) (v := ?vcll3) rfl (by kernel_rfl) (by kernel_rfl) (by kernel_rfl) (by rfl) (fun _ _ _ h => h) (Or.inl ⟨by rfl, ?ycll3⟩) hSd ?_
    case ycll3 => (intro wz hSw; obtain ⟨hz0, hz1⟩ := hSw; go_simp; (try with_reducible rfl))
    try simp only [Act.put, List.getElem_toArray, List.getElem_cons_zero, List.getElem_cons_succ, List.setIfInBounds_toArray, List.set_cons_zero, List.set_cons_succ]
    refine anyT_one (i := 4) (by kernel_rfl) rfl (fun K hK => ?_)
    go_simp
    go_at_call 23
    refine HBf.out.mono ?_
    rintro r w1 ⟨v1, rfl, hT1⟩
    have HT1 : Hid (EmTo wx w1 eb v v1 (absG 0 0 L) (cntL L)) := (EmTo.of_below HE.out ((Below.refl _ _).drew)).trans hT1
    have hx1 : Below eb wx w1 := HT1.out.below HE.out
    have hS1 : (fun w' : World => w'.cell? ⟨p1, 0, none⟩ = some (ptrV pa) ∧ w'.cell? ⟨p2, 0, none⟩ = some (.func (Fn.func 23) #[] #[])) w1 := HCL.out w1 hx1
    have HB1 : Hid (Calls Try.prog 24 #[ptrV pa, ptrV eb, .bool s] w1 (EmP w1 eb (cntL L) v1 (absG 0 0 L) a s f)) := HEm.out w1 v1 hx1 HT1.out.at_
    clear hT1 HBf
    refine hK.out _ _ (.inr hS1) ?_
    clear hK
    try simp only [Act.put, List.getElem_toArray, List.getElem_cons_zero, List.getElem_cons_succ, List.setIfInBounds_toArray, List.set_cons_zero, List.set_cons_succ]
    refine anyT_one (i := 5) (by kernel_rfl) rfl (fun K hK => ?_)
    go_simp
    go_at_call 24
    refine HB1.out.mono ?_
    rintro r w2 ⟨v2, rfl, hT2⟩
    have HR : Hid (BeP wx eb v (L ++ a.gen s f) (s || a.passes) (.returned (.bool (s || a.passes))) w2) := by
      refine ⟨v2, rfl, ?_⟩
      have h9 := HT1.out.trans hT2
      rw [absG_append, cntL_append, Nat.zero_add, Nat.zero_add]
      rw [absG_length] at h9
      exact h9
    have hx2 : Below eb wx w2 := by obtain ⟨v3, _, h3⟩ := HR.out; exact h3.below HE.out
    have hS2 : (fun w' : World => w'.cell? ⟨p1, 0, none⟩ = some (ptrV pa) ∧ w'.cell? ⟨p2, 0, none⟩ = some (.func (Fn.func 23) #[] #[])) w2 := HCL.out w2 hx2
    obtain ⟨sb, hsb⟩ : ∃ sb, sb = (s || a.passes) := ⟨_, rfl⟩
    rw [← hsb]
    have HR2 : Hid (BeP wx eb v (L ++ a.gen s f) (s || a.passes) (.returned (.bool sb)) w2) := by rw [hsb]; exact HR.out
    clear hT2 hsb HB1 HR
    refine hK.out _ _ (.inr hS2) ?_
    clear hK
    try simp only [Act.put, List.getElem_toArray, List.getElem_cons_zero, List.getElem_cons_succ, List.setIfInBounds_toArray, List.set_cons_zero, List.set_cons_succ]
    refine anyT_one (i := 6) (by kernel_rfl) rfl (fun K hK => ?_)
    go_simp
    refine hK.out _ _ (.inr hS2) ?_
    clear hK
    try simp only [Act.put, List.getElem_toArray, List.getElem_cons_zero, List.getElem_cons_succ, List.setIfInBounds_toArray, List.set_cons_zero, List.set_cons_succ]
    refine anyT_done (by kernel_rfl) ?_
    go_wp2_with fail
    go_ret
    exact HR2.out
  case inr =>
    have HBf : Hid (Calls Try.prog 49 #[ptrV eb, ptrV r1, ptrV r2] wx.drew (BeP wx.drew eb v L s)) := hbf wx.drew eb v (hcx.trans (Chg.of_below ((Below.refl _ _).drew))) he (hE.below ((Below.refl _ _).drew))
    have c1 : wx.cell? ⟨p1, 0, none⟩ = some (ptrV pa) := hp1.cell (j := 0) rfl
    have c2 : wx.cell? ⟨p2, 0, none⟩ = some (.func (Fn.func 49) #[] #[ptrV r1, ptrV r2]) := hp2.cell (j := 0) rfl
    have HCL : Hid (∀ wy, Below eb wx wy → wy.cell? ⟨p1, 0, none⟩ = some (ptrV pa) ∧ wy.cell? ⟨p2, 0, none⟩ = some (.func (Fn.func 49) #[] #[ptrV r1, ptrV r2])) := fun wy hy => ⟨by rw [hy.cell (p := ⟨p1, 0, none⟩) (by show p1 < eb; omega)]; exact c1, by rw [hy.cell (p := ⟨p2, 0, none⟩) (by show p2 < eb; omega)]; exact c2⟩
    have HE : Hid (EmAt wx eb v [] 0) := hE
    have hSd : (fun w' : World => w'.cell? ⟨p1, 0, none⟩ = some (ptrV pa) ∧ w'.cell? ⟨p2, 0, none⟩ = some (.func (Fn.func 49) #[] #[ptrV r1, ptrV r2])) wx.drew := ⟨c1, c2⟩
    clear hp1 hp2 hE hbf
    go_enter Try.func49, Try.ntmps49
    go_upto_region 1 with fail
    refine wp_region_T 99 (fun w' : World => w'.cell? ⟨p1, 0, none⟩ = some (ptrV pa) ∧ w'.cell? ⟨p2, 0, none⟩ = some (.func (Fn.func 49) #[] #[ptrV r1, ptrV r2])) (by kernel_rfl) ?_
    refine anyT_takeN (i := 0) (v := ?vclr0) rfl (by kernel_rfl) (by kernel_rfl) (by kernel_rfl) (by rfl) (fun _ _ _ h => h) (Or.inl ⟨by rfl, ?yclr0⟩) hSd ?_
    case yclr0 => (intro wz hSw; obtain ⟨hz0, hz1⟩ := hSw; go_simp; (try with_reducible rfl))
    try simp only [Act.put, List.getElem_toArray, List.getElem_cons_zero, List.getElem_cons_succ, List.setIfInBounds_toArray, List.set_cons_zero, List.set_cons_succ]
    refine anyT_takeN (i := 1) (v := ?vclr1) rfl (by kernel_rfl) (by kernel_rfl) (by kernel_rfl) (by rfl) (fun _ _ _ h => h) (Or.inl ⟨by rfl, ?yclr1⟩) hSd ?_
    case yclr1 => (intro wz hSw; obtain ⟨hz0, hz1⟩ := hSw; go_simp; (try with_reducible rfl))
    try simp only [Act.put, List.getElem_toArray, List.getElem_cons_zero, List.getElem_cons_succ, List.setIfInBounds_toArray, List.set_cons_zero, List.set_cons_succ]
    refine anyT_takeN (i := 2) (v := ?vclr2) rfl (by kernel_rfl) (by kernel_rfl) (by kernel_rfl) (by rfl) (fun _ _ _ h => h) (Or.inl ⟨by rfl, ?yclr2⟩) hSd ?_
    case yclr2 => (intro wz hSw; obtain ⟨hz0, hz1⟩ := hSw; go_simp; (try with_reducible rfl))
    try simp only [Act.put, List.getElem_toArray, List.getElem_cons_zero, List.getElem_cons_succ, List.setIfInBounds_toArray, List.set_cons_zero, List.set_cons_succ]
    refine anyT_takeN (i := 3) (v := ?vclr3) rfl (by kernel_rfl) (by kernel_rfl) (by kernel_rfl) (by rfl) (fun _ _ _ h => h) (Or.inl ⟨by rfl, ?yclr3⟩) hSd ?_
    case yclr3 => (intro wz hSw; obtain ⟨hz0, hz1⟩ := hSw; go_simp; (try with_reducible rfl))
    try simp only [Act.put, List.getElem_toArray, List.getElem_cons_zero, List.getElem_cons_succ, List.setIfInBounds_toArray, List.set_cons_zero, List.set_cons_succ]
    refine anyT_one (i := 4) (by kernel_rfl) rfl (fun K hK => ?_)
    go_simp
    go_at_call 49
    refine HBf.out.mono ?_
    rintro r w1 ⟨v1, rfl, hT1⟩
    have HT1 : Hid (EmTo wx w1 eb v v1 (absG 0 0 L) (cntL L)) := (EmTo.of_below HE.out ((Below.refl _ _).drew)).trans hT1
    have hx1 : Below eb wx w1 := HT1.out.below HE.out
    have hS1 : (fun w' : World => w'.cell? ⟨p1, 0, none⟩ = some (ptrV pa) ∧ w'.cell? ⟨p2, 0, none⟩ = some (.func (Fn.func 49) #[] #[ptrV r1, ptrV r2])) w1 := HCL.out w1 hx1
    have HB1 : Hid (Calls Try.prog 24 #[ptrV pa, ptrV eb, .bool s] w1 (EmP w1 eb (cntL L) v1 (absG 0 0 L) a s f)) := HEm.out w1 v1 hx1 HT1.out.at_
    clear hT1 HBf
    refine hK.out _ _ (.inr hS1) ?_
    clear hK
    try simp only [Act.put, List.getElem_toArray, List.getElem_cons_zero, List.getElem_cons_succ, List.setIfInBounds_toArray, List.set_cons_zero, List.set_cons_succ]
    refine anyT_one (i := 5) (by kernel_rfl) rfl (fun K hK => ?_)
    go_simp
    go_at_call 24
    refine HB1.out.mono ?_
    rintro r w2 ⟨v2, rfl, hT2⟩
    have HR : Hid (BeP wx eb v (L ++ a.gen s f) (s || a.passes) (.returned (.bool (s || a.passes))) w2) := by
      refine ⟨v2, rfl, ?_⟩
      have h9 := HT1.out.trans hT2
      rw [absG_append, cntL_append, Nat.zero_add, Nat.zero_add]
      rw [absG_length] at h9
      exact h9
    have hx2 : Below eb wx w2 := by obtain ⟨v3, _, h3⟩ := HR.out; exact h3.below HE.out
    have hS2 : (fun w' : World => w'.cell? ⟨p1, 0, none⟩ = some (ptrV pa) ∧ w'.cell? ⟨p2, 0, none⟩ = some (.func (Fn.func 49) #[] #[ptrV r1, ptrV r2])) w2 := HCL.out w2 hx2
    obtain ⟨sb, hsb⟩ : ∃ sb, sb = (s || a.passes) := ⟨_, rfl⟩
    rw [← hsb]
    have HR2 : Hid (BeP wx eb v (L ++ a.gen s f) (s || a.passes) (.returned (.bool sb)) w2) := by rw [hsb]; exact HR.out
    clear hT2 hsb HB1 HR
    refine hK.out _ _ (.inr hS2) ?_
    clear hK
    try simp only [Act.put, List.getElem_toArray, List.getElem_cons_zero, List.getElem_cons_succ, List.setIfInBounds_toArray, List.set_cons_zero, List.set_cons_succ]
    refine anyT_one (i := 6) (by kernel_rfl) rfl (fun K hK => ?_)
    go_simp
    refine hK.out _ _ (.inr hS2) ?_
    clear hK
    try simp only [Act.put, List.getElem_toArray, List.getElem_cons_zero, List.getElem_cons_succ, List.setIfInBounds_toArray, List.set_cons_zero, List.set_cons_succ]
    refine anyT_done (by kernel_rfl) ?_
    go_wp2_with fail
    go_ret
    exact HR2.out
end Go.Proofs.Ytkbmdkgfgfbilaa

/-
  (*impl.Code).addConds: a leaf.
-/
namespace Go.Proofs.Ytkbmdkgfgfbilaa
open Go.ChangeShapes Go.WideShapes Go.ChangeAt Go.RowKit Go.Deep
set_option linter.unusedVariables false
set_option linter.unusedSimpArgs false
set_option maxRecDepth 100000

set_option maxHeartbeats 4000000 in
theorem ad_leaf (n : Nd) : AdC (.leaf n) := by
  intro w lo hi p cb cv X bs fv R L s hT hC hh hBf hRA hl hc hx
  obtain ⟨fk, fcs, rfl⟩ := hBf.shape
  obtain ⟨FV, hFV⟩ : ∃ FV : Value, FV = .func (Fn.func fk) #[] fcs := ⟨_, rfl⟩
  obtain ⟨W0, hW0⟩ : ∃ W0 : World, W0 = w.alloc (Obj.cells #[.func (Fn.func fk) #[] fcs] 54) := ⟨_, rfl⟩
  obtain ⟨p2, hp2⟩ : ∃ p2, p2 = w.heap.size := ⟨_, rfl⟩
  have hb0 : Below w.heap.size w W0 := by rw [hW0]; exact (Below.refl _ _).alloc (Nat.le_refl _) _
  have HP2 : Hid (BoxAt W0 p2 54 1 p2 [.func (Fn.func fk) #[] fcs] ∧ p2 = w.heap.size ∧ Below w.heap.size w W0) := by
    refine ⟨?_, hp2, hb0⟩
    rw [hW0, hp2]; exact boxAt_new w _ (Nat.le_refl _) rfl
  have hcl := hC.lt
  have HC0 : Hid (CoAt W0 cb cv X bs) := hC.below hb0
  have HB0 : Hid (Bef W0 R (.func (Fn.func fk) #[] fcs) L s) := hBf.below hb0
  have HRA : Hid (RApart w R lo hi cb cv) := hRA
  have HF0 : Hid (AdF w W0 lo hi cb cv cv) := AdF.of_below hb0
  have hT0 : TrAt W0 (.leaf n) lo hi p none := hT.below hb0 (by omega) (Nat.le_refl _)
  obtain ⟨h0, vv, k, hb, hp⟩ := hT0
  have z14 : (n.kind == 14) = false := by rw [beq_eq_false_iff_ne]; exact fun q => by rw [q] at h0; simp [arity] at h0
  have z15 : (n.kind == 15) = false := by rw [beq_eq_false_iff_ne]; exact fun q => by rw [q] at h0; simp [arity] at h0
  have z16 : (n.kind == 16) = false := by rw [beq_eq_false_iff_ne]; exact fun q => by rw [q] at h0; simp [arity] at h0
  have d0 : W0.cell? ⟨p, 0, none⟩ = some (.int .i64 n.kind) := BoxAt.cell hb (j := 0) rfl
  have HR : Hid (AdP w (.leaf n) lo hi p cb cv X L s (.returned (.tuple #[])) W0) := ⟨rfl, cv, bs, ⟨⟨h0, vv, k, hb, hp⟩, by simp only [CT.conds, List.append_nil]; exact HC0.out, HF0.out⟩⟩
  clear hT hC hBf hRA hb h0 hFV
  go_enter Try.func22, Try.ntmps22
  go_upto_region 1 with fail
  rw [← hW0, ← hp2]
  clear hW0 hp2
  go_wp2_with fail
  refine bodyPost_end (results_none rfl _ _ _) rfl ?_
  exact HR.out
end Go.Proofs.Ytkbmdkgfgfbilaa

/-
  (*impl.Code).addConds: a chain.
-/
namespace Go.Proofs.Ytkbmdkgfgfbilaa
open Go.ChangeShapes Go.WideShapes Go.ChangeAt Go.RowKit Go.Deep
set_option linter.unusedVariables false
set_option linter.unusedSimpArgs false
set_option maxRecDepth 100000

set_option maxHeartbeats 8000000 in
theorem ad_chain (n : Nd) (a b : CT) (Ha : AdC a) (Hb : AdC b) : AdC (.chain n a b) := by
  intro w lo hi p cb cv X bs fv R L s hT hC hh hBf hRA hl hc hx
  obtain ⟨fk, fcs, rfl⟩ := hBf.shape
  obtain ⟨FV, hFV⟩ : ∃ FV : Value, FV = .func (Fn.func fk) #[] fcs := ⟨_, rfl⟩
  obtain ⟨W0, hW0⟩ : ∃ W0 : World, W0 = w.alloc (Obj.cells #[.func (Fn.func fk) #[] fcs] 54) := ⟨_, rfl⟩
  obtain ⟨p2, hp2⟩ : ∃ p2, p2 = w.heap.size := ⟨_, rfl⟩
  have hb0 : Below w.heap.size w W0 := by rw [hW0]; exact (Below.refl _ _).alloc (Nat.le_refl _) _
  have HP2 : Hid (BoxAt W0 p2 54 1 p2 [.func (Fn.func fk) #[] fcs] ∧ p2 = w.heap.size ∧ Below w.heap.size w W0) := by
    refine ⟨?_, hp2, hb0⟩
    rw [hW0, hp2]; exact boxAt_new w _ (Nat.le_refl _) rfl
  have hcl := hC.lt
  have HC0 : Hid (CoAt W0 cb cv X bs) := hC.below hb0
  have HB0 : Hid (Bef W0 R (.func (Fn.func fk) #[] fcs) L s) := hBf.below hb0
  have HRA : Hid (RApart w R lo hi cb cv) := hRA
  have HF0 : Hid (AdF w W0 lo hi cb cv cv) := AdF.of_below hb0
  have hT0 : TrAt W0 (.chain n a b) lo hi p none := hT.below hb0 (by omega) (Nat.le_refl _)
  obtain ⟨h0, m, m2, pa, pb, q, cq, k, hA, hB, l1, l2, hb, hr, hp, hq⟩ := hT0
  have hcq : 2 ≤ cq := hr.caps.1
  have hcm := hr.caps.2
  have hbl := BoxAt.lt hb
  have hrl := hr.lt
  simp only [CT.size] at hl hc
  simp only [CT.ifs] at hx
  have HT : Hid (TrAt W0 a lo m pa none ∧ TrAt W0 b m m2 pb none ∧ BoxT W0 m2 p n (.slice (some ⟨q, 0, none⟩) 2 cq) k ∧ PRow W0 m2 q cq [pa, pb]) := ⟨hA, hB, hb, hr⟩
  have d0 : W0.cell? ⟨p, 0, none⟩ = some (.int .i64 n.kind) := BoxAt.cell hb (j := 0) rfl
  have c0 : W0.cell? ⟨p, 7, none⟩ = some (.slice (some ⟨q, 0, none⟩) 2 cq) := BoxAt.cell hb (j := 7) rfl
  have c1 : W0.cell? ⟨q, 0, none⟩ = some (ptrV pa) := hr.cell (j := 0) rfl
  have c2 : W0.cell? ⟨q, 1, none⟩ = some (ptrV pb) := hr.cell (j := 1) rfl
  have z14 : (n.kind == 14) = true := by rw [beq_iff_eq]; exact h0
  have HRw : Hid (∀ b, cv.ownBlock = some b → ¬ w.heap.size ≤ b) := fun b hb hle => by have := (hC.row.blk hb).2; omega
  have hSd : (fun w' : World => w'.cell? ⟨p, 7, none⟩ = some (.slice (some ⟨q, 0, none⟩) 2 cq) ∧ w'.cell? ⟨q, 0, none⟩ = some (ptrV pa) ∧ w'.cell? ⟨q, 1, none⟩ = some (ptrV pb)) W0.drew := ⟨c0, c1, c2⟩
  clear hT hC hBf hRA hb hr hA hB hFV
  go_enter Try.func22, Try.ntmps22
  go_upto_region 1 with fail
  rw [← hW0, ← hp2]
  clear hW0 hp2
  go_upto_region 3 with fail
  refine wp_region_T 99 (fun w' : World => w'.cell? ⟨p, 7, none⟩ = some (.slice (some ⟨q, 0, none⟩) 2 cq) ∧ w'.cell? ⟨q, 0, none⟩ = some (ptrV pa) ∧ w'.cell? ⟨q, 1, none⟩ = some (ptrV pb)) (by kernel_rfl) ?_
  refine anyT_takeN (i := 0) (v := ?vac0) rfl (by kernel_rfl) (by kernel_rfl) (by kernel_rfl) (by rfl) (fun _ _ _ h => h) (Or.inl ⟨by rfl, ?yac0⟩) hSd ?_
  case yac0 => (intro wz hSw; obtain ⟨hz0, hz1, hz2⟩ := hSw; go_simp; (try with_reducible rfl))
  try simp only [Act.put, List.getElem_toArray, List.getElem_cons_zero, List.getElem_cons_succ, List.setIfInBounds_toArray, List.set_cons_zero, List.set_cons_succ]
  refine anyT_takeN (i := 1) (v := ?vac1) rfl (by kernel_rfl) (by kernel_rfl) (by kernel_rfl) (by rfl) (fun _ _ _ h => h) (Or.inl ⟨by rfl, ?yac1⟩) hSd ?_
  case yac1 => (intro wz hSw; obtain ⟨hz0, hz1, hz2⟩ := hSw; go_simp; (try with_reducible rfl))
  try simp only [Act.put, List.getElem_toArray, List.getElem_cons_zero, List.getElem_cons_succ, List.setIfInBounds_toArray, List.set_cons_zero, List.set_cons_succ]
  refine anyT_takeN (i := 2) (v := ?vac2) rfl (by kernel_rfl) (by kernel_rfl) (by kernel_rfl) (by rfl) (fun _ _ _ h => h) (Or.inl ⟨by rfl, ?yac2⟩) hSd ?_
  case yac2 => (intro wz hSw; obtain ⟨hz0, hz1, hz2⟩ := hSw; go_simp; (try with_reducible rfl))
  try simp only [Act.put, List.getElem_toArray, List.getElem_cons_zero, List.getElem_cons_succ, List.setIfInBounds_toArray, List.set_cons_zero, List.set_cons_succ]
  refine anyT_takeN (i := 3) (v := ?vac3) rfl (by kernel_rfl) (by kernel_rfl) (by kernel_rfl) (by rfl) (fun _ _ _ h => h) (Or.inl ⟨by rfl, ?yac3⟩) hSd ?_
  case yac3 => (intro wz hSw; obtain ⟨hz0, hz1, hz2⟩ := hSw; go_simp; (try with_reducible rfl))
  try simp only [Act.put, List.getElem_toArray, List.getElem_cons_zero, List.getElem_cons_succ, List.setIfInBounds_toArray, List.set_cons_zero, List.set_cons_succ]
  refine anyT_takeN (i := 4) (v := ?vac4) rfl (by kernel_rfl) (by kernel_rfl) (by kernel_rfl) (by rfl) (fun _ _ _ h => h) (Or.inl ⟨by rfl, ?yac4⟩) hSd ?_
  case yac4 => (intro wz hSw; obtain ⟨hz0, hz1, hz2⟩ := hSw; go_simp; (try with_reducible rfl))
  try simp only [Act.put, List.getElem_toArray, List.getElem_cons_zero, List.getElem_cons_succ, List.setIfInBounds_toArray, List.set_cons_zero, List.set_cons_succ]
  refine anyT_takeN (i := 5) (v := ?vac5) rfl (by kernel_rfl) (by kernel_rfl) (by kernel_rfl) (by rfl) (fun _ _ _ h => h) (Or.inl ⟨by rfl, ?yac5⟩) hSd ?_
  case yac5 => (intro wz hSw; obtain ⟨hz0, hz1, hz2⟩ := hSw; go_simp; (try with_reducible rfl))
  try simp only [Act.put, List.getElem_toArray, List.getElem_cons_zero, List.getElem_cons_succ, List.setIfInBounds_toArray, List.set_cons_zero, List.set_cons_succ]
  refine anyT_takeN (i := 6) (v := ?vac6) rfl (by kernel_rfl) (by kernel_rfl) (by kernel_rfl) (by rfl) (fun _ _ _ h => h) (Or.inl ⟨by rfl, ?yac6⟩) hSd ?_
  case yac6 => (intro wz hSw; obtain ⟨hz0, hz1, hz2⟩ := hSw; go_simp; (try with_reducible rfl))
  try simp only [Act.put, List.getElem_toArray, List.getElem_cons_zero, List.getElem_cons_succ, List.setIfInBounds_toArray, List.set_cons_zero, List.set_cons_succ]
  refine anyT_takeN (i := 7) (v := ?vac7) rfl (by kernel_rfl) (by kernel_rfl) (by kernel_rfl) (by rfl) (fun _ _ _ h => h) (Or.inl ⟨by rfl, ?yac7⟩) hSd ?_
  case yac7 => (intro wz hSw; obtain ⟨hz0, hz1, hz2⟩ := hSw; go_simp; (try with_reducible rfl))
  try simp only [Act.put, List.getElem_toArray, List.getElem_cons_zero, List.getElem_cons_succ, List.setIfInBounds_toArray, List.set_cons_zero, List.set_cons_succ]
  refine anyT_takeN (i := 8) (v := ?vac8) rfl (by kernel_rfl) (by kernel_rfl) (by kernel_rfl) (by rfl) (fun _ _ _ h => h) (Or.inl ⟨by rfl, ?yac8⟩) hSd ?_
  case yac8 => (intro wz hSw; obtain ⟨hz0, hz1, hz2⟩ := hSw; go_simp; (try with_reducible rfl))
  try simp only [Act.put, List.getElem_toArray, List.getElem_cons_zero, List.getElem_cons_succ, List.setIfInBounds_toArray, List.set_cons_zero, List.set_cons_succ]
  refine anyT_takeN (i := 9) (v := ?vac9) rfl (by kernel_rfl) (by kernel_rfl) (by kernel_rfl) (by rfl) (fun _ _ _ h => h) (Or.inl ⟨by rfl, ?yac9⟩) hSd ?_
  case yac9 => (intro wz hSw; obtain ⟨hz0, hz1, hz2⟩ := hSw; go_simp; (try with_reducible rfl))
  try simp only [Act.put, List.getElem_toArray, List.getElem_cons_zero, List.getElem_cons_succ, List.setIfInBounds_toArray, List.set_cons_zero, List.set_cons_succ]
  refine anyT_takeN (i := 10) (v := ?vac10) rfl (by kernel_rfl) (by kernel_rfl) (by kernel_rfl) (by rfl) (fun _ _ _ h => h) (Or.inl ⟨by rfl, ?yac10⟩) hSd ?_
  case yac10 => (intro wz hSw; obtain ⟨hz0, hz1, hz2⟩ := hSw; go_simp; (try with_reducible rfl))
  try simp only [Act.put, List.getElem_toArray, List.getElem_cons_zero, List.getElem_cons_succ, List.setIfInBounds_toArray, List.set_cons_zero, List.set_cons_succ]
  refine anyT_takeN (i := 11) (v := ?vac11) rfl (by kernel_rfl) (by kernel_rfl) (by kernel_rfl) (by rfl) (fun _ _ _ h => h) (Or.inl ⟨by rfl, ?yac11⟩) hSd ?_
  case yac11 => (intro wz hSw; obtain ⟨hz0, hz1, hz2⟩ := hSw; go_simp; (try with_reducible rfl))
  try simp only [Act.put, List.getElem_toArray, List.getElem_cons_zero, List.getElem_cons_succ, List.setIfInBounds_toArray, List.set_cons_zero, List.set_cons_succ]
  obtain ⟨V1, hV1⟩ : ∃ V1 : World, V1 = (W0.alloc (Obj.cells #[.pointer none] 48)).drew := ⟨_, rfl⟩
  obtain ⟨p1, hp1⟩ : ∃ p1, p1 = W0.heap.size := ⟨_, rfl⟩
  have hbV : Below W0.heap.size W0 V1 := by rw [hV1]; exact ((Below.refl _ _).alloc (Nat.le_refl _) _).drew
  have HBV : Hid (BoxAt V1 p1 48 1 p1 [.pointer none] ∧ p1 = W0.heap.size) := by
    refine ⟨?_, hp1⟩
    rw [hV1, hp1]; exact (boxAt_new W0 _ (Nat.le_refl _) rfl).below ((Below.refl _ _).drew)
  obtain ⟨V2, hV2⟩ : ∃ V2 : World, V2 = V1.setCell ⟨p1, 0, none⟩ (ptrV pa) := ⟨_, rfl⟩
  have hb2 : Below W0.heap.size W0 V2 := by rw [hV2]; exact below_set hbV (by rw [hp1]; exact Nat.le_refl _) _ _
  have HB2 : Hid (BoxAt V2 p1 48 1 p1 [ptrV pa]) := by rw [hV2]; exact HBV.out.1.set 0 _
  have hS1 : (fun w' : World => w'.cell? ⟨p, 7, none⟩ = some (.slice (some ⟨q, 0, none⟩) 2 cq) ∧ w'.cell? ⟨q, 0, none⟩ = some (ptrV pa) ∧ w'.cell? ⟨q, 1, none⟩ = some (ptrV pb)) V1 := ⟨by rw [hbV.cell (p := ⟨p, 7, none⟩) hbl.2]; exact c0, by rw [hbV.cell (p := ⟨q, 0, none⟩) hrl.2]; exact c1, by rw [hbV.cell (p := ⟨q, 1, none⟩) hrl.2]; exact c2⟩
  have hS2 : (fun w' : World => w'.cell? ⟨p, 7, none⟩ = some (.slice (some ⟨q, 0, none⟩) 2 cq) ∧ w'.cell? ⟨q, 0, none⟩ = some (ptrV pa) ∧ w'.cell? ⟨q, 1, none⟩ = some (ptrV pb)) V2 := ⟨by rw [hb2.cell (p := ⟨p, 7, none⟩) hbl.2]; exact c0, by rw [hb2.cell (p := ⟨q, 0, none⟩) hrl.2]; exact c1, by rw [hb2.cell (p := ⟨q, 1, none⟩) hrl.2]; exact c2⟩
  refine anyT_one (i := 12) (by kernel_rfl) rfl (fun K hK => ?_)
  go_simp
  rw [← hV1, ← hp1]
  refine hK.out _ _ (.inr hS1) ?_
  clear hK hV1 hp1
  try simp only [Act.put, List.getElem_toArray, List.getElem_cons_zero, List.getElem_cons_succ, List.setIfInBounds_toArray, List.set_cons_zero, List.set_cons_succ]
  have x0 := HBV.out.1.cell (j := 0) rfl
  have y0 := HBV.out.1.frozen 0
  refine anyT_one (i := 13) (by kernel_rfl) rfl (fun K hK => ?_)
  go_simp
  rw [← hV2]
  refine hK.out _ _ (.inr hS2) ?_
  clear hK hV2 x0 y0
  try simp only [Act.put, List.getElem_toArray, List.getElem_cons_zero, List.getElem_cons_succ, List.setIfInBounds_toArray, List.set_cons_zero, List.set_cons_succ]
  refine anyT_one (i := 14) (by kernel_rfl) rfl (fun K hK => ?_)
  go_simp
  refine hK.out _ _ (.inr hS2) ?_
  clear hK
  try simp only [Act.put, List.getElem_toArray, List.getElem_cons_zero, List.getElem_cons_succ, List.setIfInBounds_toArray, List.set_cons_zero, List.set_cons_succ]
  refine anyT_done (by kernel_rfl) ?_
  have HC2 : Hid (CoAt V2 cb cv X bs) := HC0.out.below hb2
  have k02 : Below w.heap.size w V2 := HP2.out.2.2.trans (hb2.mono HP2.out.2.2.size)
  have HF2 : Hid (AdF w V2 lo hi cb cv cv) := AdF.of_below k02
  have HX2 : Hid (BoxAt V2 p2 54 1 p2 [.func (Fn.func fk) #[] fcs] ∧ Bef V2 R (.func (Fn.func fk) #[] fcs) L s ∧ RApart V2 R lo m cb cv) := ⟨HP2.out.1.below hb2, HB0.out.below hb2, HRA.out.move k02.size (fun k hk => .inl hk) (Nat.le_refl _) (by omega)⟩
  have HT2 : Hid (TrAt V2 a lo m pa none ∧ TrAt V2 b m m2 pb none ∧ BoxT V2 m2 p n (.slice (some ⟨q, 0, none⟩) 2 cq) k ∧ PRow V2 m2 q cq [pa, pb]) := ⟨HT.out.1.below hb2 (by omega) (Nat.le_refl _), HT.out.2.1.below hb2 (by omega) (Nat.le_refl _), BoxAt.below HT.out.2.2.1 hb2, HT.out.2.2.2.chg (S := fun _ => False) (Chg.of_below hb2) (fun q => q)⟩
  have HCa : Hid (Calls Try.prog 22 #[ptrV cb, ptrV pa, .func (Fn.func fk) #[] fcs] V2 (AdP V2 a lo m pa cb cv X L s)) := Ha V2 lo m pa cb cv X bs _ R L s HT2.out.1 HC2.out (by omega) HX2.out.2.1 HX2.out.2.2 (by omega) (by omega) (by omega)
  have e1 : V2.cell? ⟨p1, 0, none⟩ = some (ptrV pa) := HB2.out.cell (j := 0) rfl
  have e2 : V2.cell? ⟨p2, 0, none⟩ = some (.func (Fn.func fk) #[] fcs) := HX2.out.1.cell (j := 0) rfl
  have z1 := conds_len a L s X.length
  have z3 := gen_len a s X.length
  have z4 := cntL_gen a s X.length
  have HXl : Hid ((X ++ a.conds L s X.length).length = X.length + a.ifs ∧ X.length + a.ifs + b.ifs ≤ 1000 ∧ (L ++ a.gen s X.length).length + 3 * b.size ≤ 10000 ∧ cntL (L ++ a.gen s X.length) + b.size ≤ 10000 ∧ L.length + 3 * a.size ≤ 20000 ∧ cntL L + a.size ≤ 20000 ∧ X.length + a.ifs ≤ 20000) := ⟨by rw [List.length_append, z1], by omega, by rw [List.length_append]; omega, by rw [cntL_append]; omega, by omega, by omega, by omega⟩
  have HPb : Hid (w.heap.size ≤ p1 ∧ w.heap.size ≤ p2 ∧ p1 < V2.heap.size ∧ p2 < V2.heap.size) := ⟨by rw [HBV.out.2]; exact HP2.out.2.2.size, by rw [HP2.out.2.1]; exact Nat.le_refl _, HB2.out.lt.2, HX2.out.1.lt.2⟩
  have HVs : Hid (w.heap.size ≤ V2.heap.size) := k02.size
  clear z1 z3 z4 hS1 hS2 hSd c0 c1 c2 d0 hbV hb2 hl hc hx
  go_wp2_with fail
  refine HCa.out.mono ?_
  rintro r w3 ⟨rfl, cv3, bs3, hA3⟩
  have HA3 : Hid (AdTo V2 w3 a lo m pa cb cv cv3 X (a.conds L s X.length) bs3) := hA3
  have HB3 : Hid (BoxAt w3 p1 48 1 p1 [ptrV pa] ∧ BoxAt w3 p2 54 1 p2 [.func (Fn.func fk) #[] fcs]) := by
    have g1 := HPb.out
    have g2 := hcl
    have g3 : ∀ b, w.heap.size ≤ b → ¬ AdS lo m cb cv b := fun b hbb => by
      rintro (q | q | q)
      · omega
      · omega
      · have h8 := (HC0.out.row.blk q).2
        have h9 : cv.ownBlock = some b := q
        exact HRw.out b h9 hbb
    exact ⟨HB2.out.chg hA3.fr.chg (g3 p1 g1.1), HX2.out.1.chg hA3.fr.chg (g3 p2 g1.2.1)⟩
  have HBf3 : Hid (Bef w3 R (.func (Fn.func fk) #[] fcs) L s) := HX2.out.2.1.adf HX2.out.2.2 hA3.fr
  have HCl : Hid (Bef w3 (RC R lo m p1 p2) (.func (Fn.func 49) #[] #[ptrV p1, ptrV p2]) (L ++ a.gen s X.length) (s || a.passes)) := .inr ⟨p1, p2, rfl, clos_core HB3.out.1 HB3.out.2 hA3.tree HBf3.out (by have := hA3.code.lt; omega) HXl.out.2.2.2.2.1 HXl.out.2.2.2.2.2.1 HXl.out.2.2.2.2.2.2⟩
  have hs3 := hA3.fr.chg.size
  have HRB : Hid (RApart w3 (RC R lo m p1 p2) m m2 cb cv3) := by
    have g1 := HPb.out
    have g0 := HVs.out
    have gR := HRA.out.move (w' := w3) (cv' := cv3) (lo' := m) (hi' := m2) (by omega) (fun k hk => by rcases hA3.fr.new k hk with q | q; exact .inl q; exact .inr (by omega)) (by omega) (by omega)
    refine ⟨fun b hb => ?_, fun b hb => ?_⟩
    · rcases hb with q | q | q | q
      · exact gR.lt b q
      · have := hA3.code.lt; omega
      · omega
      · omega
    · rcases hb with q | q | q | q
      · exact gR.off b q
      · exact adS_off hA3.code (by omega) (by omega)
      · rintro (h | h | h)
        · omega
        · omega
        · subst q; exact own_apart HB3.out.1 hA3.code.row (by decide) b rfl h
      · rintro (h | h | h)
        · omega
        · omega
        · subst q; exact own_apart HB3.out.2 hA3.code.row (by decide) b rfl h
  have HT3 : Hid (TrAt w3 b m m2 pb none ∧ BoxT w3 m2 p n (.slice (some ⟨q, 0, none⟩) 2 cq) k ∧ PRow w3 m2 q cq [pa, pb]) := ⟨HT2.out.2.1.adf HC2.out hA3.fr (by omega) (.inr (Nat.le_refl _)), BoxAt.chg HT2.out.2.2.1 hA3.fr.chg (adS_off HC2.out (by omega) (by omega)), HT2.out.2.2.2.chg hA3.fr.chg (adS_off HC2.out (by omega) (by omega))⟩
  have HCb : Hid (Calls Try.prog 22 #[ptrV cb, ptrV pb, .func (Fn.func 49) #[] #[ptrV p1, ptrV p2]] w3 (AdP w3 b m m2 pb cb cv3 (X ++ a.conds L s X.length) (L ++ a.gen s X.length) (s || a.passes))) := Hb w3 m m2 pb cb cv3 _ bs3 _ _ _ _ HT3.out.1 hA3.code (by omega) HCl.out HRB.out HXl.out.2.2.1 HXl.out.2.2.2.1 (by rw [HXl.out.1]; exact HXl.out.2.1)
  clear hA3 HCa e1 e2 HBf3 HCl HRB
  go_wp2_with fail
  refine HCb.out.mono ?_
  rintro r w4 ⟨rfl, cv4, bs4, hA4⟩
  have HR : Hid (AdP w (.chain n a b) lo hi p cb cv X L s (.returned (.tuple #[])) w4) := by
    have g1 := hA4.fr
    have hC3 := HA3.out.code
    refine ⟨rfl, cv4, bs4, ⟨⟨h0, m, m2, pa, pb, q, cq, k, HA3.out.tree.adf hC3 g1 (by omega) (.inl (Nat.le_refl _)), ?_, l1, l2, BoxAt.chg HT3.out.2.1 g1.chg (adS_off hC3 (by omega) (by omega)), HT3.out.2.2.chg g1.chg (adS_off hC3 (by omega) (by omega)), hp, hq⟩, ?_, ?_⟩⟩
    · have h9 := hA4.tree
      rw [HXl.out.1] at h9
      exact h9
    · have h9 := hA4.code
      rw [HXl.out.1, List.append_assoc] at h9
      exact h9
    · exact (HF2.out.trans (HA3.out.fr.mono (Nat.le_refl _) (by omega))).trans (hA4.fr.mono l1 (by omega))
  clear hA4
  go_wp2_with fail
  refine bodyPost_end (results_none rfl _ _ _) rfl ?_
  exact HR.out
end Go.Proofs.Ytkbmdkgfgfbilaa

/-
  (*impl.Code).addConds: an interleave.
-/
namespace Go.Proofs.Ytkbmdkgfgfbilaa
open Go.ChangeShapes Go.WideShapes Go.ChangeAt Go.RowKit Go.Deep
set_option linter.unusedVariables false
set_option linter.unusedSimpArgs false
set_option maxRecDepth 100000

set_option maxHeartbeats 8000000 in
theorem ad_inter (n : Nd) (a b : CT) (Ha : AdC a) (Hb : AdC b) : AdC (.inter n a b) := by
  intro w lo hi p cb cv X bs fv R L s hT hC hh hBf hRA hl hc hx
  obtain ⟨fk, fcs, rfl⟩ := hBf.shape
  obtain ⟨FV, hFV⟩ : ∃ FV : Value, FV = .func (Fn.func fk) #[] fcs := ⟨_, rfl⟩
  obtain ⟨W0, hW0⟩ : ∃ W0 : World, W0 = w.alloc (Obj.cells #[.func (Fn.func fk) #[] fcs] 54) := ⟨_, rfl⟩
  obtain ⟨p2, hp2⟩ : ∃ p2, p2 = w.heap.size := ⟨_, rfl⟩
  have hb0 : Below w.heap.size w W0 := by rw [hW0]; exact (Below.refl _ _).alloc (Nat.le_refl _) _
  have HP2 : Hid (BoxAt W0 p2 54 1 p2 [.func (Fn.func fk) #[] fcs] ∧ p2 = w.heap.size ∧ Below w.heap.size w W0) := by
    refine ⟨?_, hp2, hb0⟩
    rw [hW0, hp2]; exact boxAt_new w _ (Nat.le_refl _) rfl
  have hcl := hC.lt
  have HC0 : Hid (CoAt W0 cb cv X bs) := hC.below hb0
  have HB0 : Hid (Bef W0 R (.func (Fn.func fk) #[] fcs) L s) := hBf.below hb0
  have HRA : Hid (RApart w R lo hi cb cv) := hRA
  have HF0 : Hid (AdF w W0 lo hi cb cv cv) := AdF.of_below hb0
  have hT0 : TrAt W0 (.inter n a b) lo hi p none := hT.below hb0 (by omega) (Nat.le_refl _)
  obtain ⟨h0, m, m2, pa, pb, q, cq, k, hA, hB, l1, l2, hb, hr, hp, hq⟩ := hT0
  have hcq : 2 ≤ cq := hr.caps.1
  have hcm := hr.caps.2
  have hbl := BoxAt.lt hb
  have hrl := hr.lt
  simp only [CT.size] at hl hc
  simp only [CT.ifs] at hx
  have HT : Hid (TrAt W0 a lo m pa none ∧ TrAt W0 b m m2 pb none ∧ BoxT W0 m2 p n (.slice (some ⟨q, 0, none⟩) 2 cq) k ∧ PRow W0 m2 q cq [pa, pb]) := ⟨hA, hB, hb, hr⟩
  have d0 : W0.cell? ⟨p, 0, none⟩ = some (.int .i64 n.kind) := BoxAt.cell hb (j := 0) rfl
  have c0 : W0.cell? ⟨p, 7, none⟩ = some (.slice (some ⟨q, 0, none⟩) 2 cq) := BoxAt.cell hb (j := 7) rfl
  have c1 : W0.cell? ⟨q, 0, none⟩ = some (ptrV pa) := hr.cell (j := 0) rfl
  have c2 : W0.cell? ⟨q, 1, none⟩ = some (ptrV pb) := hr.cell (j := 1) rfl
  have z14 : (n.kind == 14) = false := by rw [beq_eq_false_iff_ne]; omega
  have z15 : (n.kind == 15) = true := by rw [beq_iff_eq]; exact h0
  have HRw : Hid (∀ b, cv.ownBlock = some b → ¬ w.heap.size ≤ b) := fun b hb hle => by have := (hC.row.blk hb).2; omega
  have c3 : W0.cell? ⟨p2, 0, none⟩ = some (.func (Fn.func fk) #[] fcs) := HP2.out.1.cell (j := 0) rfl
  have hSd : (fun w' : World => w'.cell? ⟨p, 7, none⟩ = some (.slice (some ⟨q, 0, none⟩) 2 cq) ∧ w'.cell? ⟨q, 0, none⟩ = some (ptrV pa) ∧ w'.cell? ⟨q, 1, none⟩ = some (ptrV pb) ∧ w'.cell? ⟨p2, 0, none⟩ = some (.func (Fn.func fk) #[] fcs)) W0.drew := ⟨c0, c1, c2, c3⟩
  have hbd : Below W0.heap.size W0 W0.drew := (Below.refl _ _).drew
  have HX0 : Hid (RApart W0 R lo m cb cv ∧ RApart W0 R lo hi cb cv) := ⟨HRA.out.move hb0.size (fun k hk => .inl hk) (Nat.le_refl _) (by omega), HRA.out.move hb0.size (fun k hk => .inl hk) (Nat.le_refl _) (Nat.le_refl _)⟩
  have HRd : Hid (RApart W0.drew R lo m cb cv) := HX0.out.1.move (w' := W0.drew) hbd.size (fun k hk => .inl hk) (Nat.le_refl _) (Nat.le_refl _)
  have HCa : Hid (Calls Try.prog 22 #[ptrV cb, ptrV pa, .func (Fn.func fk) #[] fcs] W0.drew (AdP W0.drew a lo m pa cb cv X L s)) := Ha W0.drew lo m pa cb cv X bs _ R L s (hA.below hbd (by omega) (Nat.le_refl _)) (HC0.out.below hbd) (by omega) (HB0.out.below hbd) HRd.out (by omega) (by omega) (by omega)
  have z1 := conds_len a L s X.length
  have HXl : Hid ((X ++ a.conds L s X.length).length = X.length + a.ifs ∧ X.length + a.ifs + b.ifs ≤ 1000 ∧ L.length + 3 * b.size ≤ 10000 ∧ cntL L + b.size ≤ 10000) := ⟨by rw [List.length_append, z1], by omega, by omega, by omega⟩
  have HV0 : Hid (w.heap.size ≤ W0.heap.size ∧ p2 < W0.heap.size) := ⟨hb0.size, HP2.out.1.lt.2⟩
  clear hT hC hBf hRA hb hr hA hB hFV z1
  go_enter Try.func22, Try.ntmps22
  go_upto_region 1 with fail
  rw [← hW0, ← hp2]
  clear hW0 hp2
  go_upto_region 7 with fail
  refine wp_region_T 99 (fun w' : World => w'.cell? ⟨p, 7, none⟩ = some (.slice (some ⟨q, 0, none⟩) 2 cq) ∧ w'.cell? ⟨q, 0, none⟩ = some (ptrV pa) ∧ w'.cell? ⟨q, 1, none⟩ = some (ptrV pb) ∧ w'.cell? ⟨p2, 0, none⟩ = some (.func (Fn.func fk) #[] fcs)) (by kernel_rfl) ?_
  refine anyT_takeN (i := 0) (v := ?via0) rfl (by kernel_rfl) (by kernel_rfl) (by kernel_rfl) (by rfl) (fun _ _ _ h => h) (Or.inl ⟨by rfl, ?yia0⟩) hSd ?_
  case yia0 => (intro wz hSw; obtain ⟨hz0, hz1, hz2, hz3⟩ := hSw; go_simp; (try with_reducible rfl))
  try simp only [Act.put, List.getElem_toArray, List.getElem_cons_zero, List.getElem_cons_succ, List.setIfInBounds_toArray, List.set_cons_zero, List.set_cons_succ]
  refine anyT_takeN (i := 1) (v := ?via1) rfl (by kernel_rfl) (by kernel_rfl) (by kernel_rfl) (by rfl) (fun _ _ _ h => h) (Or.inl ⟨by rfl, ?yia1⟩) hSd ?_
  case yia1 => (intro wz hSw; obtain ⟨hz0, hz1, hz2, hz3⟩ := hSw; go_simp; (try with_reducible rfl))
  try simp only [Act.put, List.getElem_toArray, List.getElem_cons_zero, List.getElem_cons_succ, List.setIfInBounds_toArray, List.set_cons_zero, List.set_cons_succ]
  refine anyT_takeN (i := 2) (v := ?via2) rfl (by kernel_rfl) (by kernel_rfl) (by kernel_rfl) (by rfl) (fun _ _ _ h => h) (Or.inl ⟨by rfl, ?yia2⟩) hSd ?_
  case yia2 => (intro wz hSw; obtain ⟨hz0, hz1, hz2, hz3⟩ := hSw; go_simp; (try with_reducible rfl))
  try simp only [Act.put, List.getElem_toArray, List.getElem_cons_zero, List.getElem_cons_succ, List.setIfInBounds_toArray, List.set_cons_zero, List.set_cons_succ]
  refine anyT_takeN (i := 3) (v := ?via3) rfl (by kernel_rfl) (by kernel_rfl) (by kernel_rfl) (by rfl) (fun _ _ _ h => h) (Or.inl ⟨by rfl, ?yia3⟩) hSd ?_
  case yia3 => (intro wz hSw; obtain ⟨hz0, hz1, hz2, hz3⟩ := hSw; go_simp; (try with_reducible rfl))
  try simp only [Act.put, List.getElem_toArray, List.getElem_cons_zero, List.getElem_cons_succ, List.setIfInBounds_toArray, List.set_cons_zero, List.set_cons_succ]
  refine anyT_takeN (i := 4) (v := ?via4) rfl (by kernel_rfl) (by kernel_rfl) (by kernel_rfl) (by rfl) (fun _ _ _ h => h) (Or.inl ⟨by rfl, ?yia4⟩) hSd ?_
  case yia4 => (intro wz hSw; obtain ⟨hz0, hz1, hz2, hz3⟩ := hSw; go_simp; (try with_reducible rfl))
  try simp only [Act.put, List.getElem_toArray, List.getElem_cons_zero, List.getElem_cons_succ, List.setIfInBounds_toArray, List.set_cons_zero, List.set_cons_succ]
  refine anyT_takeN (i := 5) (v := ?via5) rfl (by kernel_rfl) (by kernel_rfl) (by kernel_rfl) (by rfl) (fun _ _ _ h => h) (Or.inl ⟨by rfl, ?yia5⟩) hSd ?_
  case yia5 => (intro wz hSw; obtain ⟨hz0, hz1, hz2, hz3⟩ := hSw; go_simp; (try with_reducible rfl))
  try simp only [Act.put, List.getElem_toArray, List.getElem_cons_zero, List.getElem_cons_succ, List.setIfInBounds_toArray, List.set_cons_zero, List.set_cons_succ]
  refine anyT_takeN (i := 6) (v := ?via6) rfl (by kernel_rfl) (by kernel_rfl) (by kernel_rfl) (by rfl) (fun _ _ _ h => h) (Or.inl ⟨by rfl, ?yia6⟩) hSd ?_
  case yia6 => (intro wz hSw; obtain ⟨hz0, hz1, hz2, hz3⟩ := hSw; go_simp; (try with_reducible rfl))
  try simp only [Act.put, List.getElem_toArray, List.getElem_cons_zero, List.getElem_cons_succ, List.setIfInBounds_toArray, List.set_cons_zero, List.set_cons_succ]
  refine anyT_takeN (i := 7) (v := ?via7) rfl (by kernel_rfl) (by kernel_rfl) (by kernel_rfl) (by rfl) (fun _ _ _ h => h) (Or.inl ⟨by rfl, ?yia7⟩) hSd ?_
  case yia7 => (intro wz hSw; obtain ⟨hz0, hz1, hz2, hz3⟩ := hSw; go_simp; (try with_reducible rfl))
  try simp only [Act.put, List.getElem_toArray, List.getElem_cons_zero, List.getElem_cons_succ, List.setIfInBounds_toArray, List.set_cons_zero, List.set_cons_succ]
  refine anyT_one (i := 8) (by kernel_rfl) rfl (fun K hK => ?_)
  go_simp
  go_at_call 22
  refine HCa.out.mono ?_
  rintro r w3 ⟨rfl, cv3, bs3, hA3⟩
  have HCd : Hid (CoAt W0.drew cb cv X bs) := HC0.out.below hbd
  have HA3 : Hid (AdTo W0.drew w3 a lo m pa cb cv cv3 X (a.conds L s X.length) bs3) := hA3
  have HF3 : Hid (AdF W0 w3 lo hi cb cv cv3) := (AdF.of_below hbd).trans (hA3.fr.mono (Nat.le_refl _) (by omega))
  have HT3 : Hid (TrAt w3 b m m2 pb none ∧ BoxT w3 m2 p n (.slice (some ⟨q, 0, none⟩) 2 cq) k ∧ PRow w3 m2 q cq [pa, pb] ∧ BoxAt w3 p2 54 1 p2 [.func (Fn.func fk) #[] fcs]) := by
    refine ⟨(HT.out.2.1.below hbd (by omega) (Nat.le_refl _)).adf HCd.out hA3.fr (by omega) (.inr (Nat.le_refl _)), BoxAt.chg (BoxAt.below HT.out.2.2.1 hbd) hA3.fr.chg (adS_off HCd.out (by omega) (by omega)), (HT.out.2.2.2.chg (S := fun _ => False) (Chg.of_below hbd) (fun q => q)).chg hA3.fr.chg (adS_off HCd.out (by omega) (by omega)), (HP2.out.1.below hbd).chg hA3.fr.chg ?_⟩
    rintro (q | q | q)
    · have := HP2.out.2.1; omega
    · have := HP2.out.2.1; omega
    · exact HRw.out p2 q (by rw [HP2.out.2.1]; exact Nat.le_refl _)
  have HB3 : Hid (Bef w3 R (.func (Fn.func fk) #[] fcs) L s ∧ RApart w3 R m m2 cb cv3) := by
    refine ⟨(HB0.out.below hbd).adf HRd.out hA3.fr, HX0.out.2.move ?_ HF3.out.new (by omega) (by omega)⟩
    exact HF3.out.chg.size
  have hS3 : (fun w' : World => w'.cell? ⟨p, 7, none⟩ = some (.slice (some ⟨q, 0, none⟩) 2 cq) ∧ w'.cell? ⟨q, 0, none⟩ = some (ptrV pa) ∧ w'.cell? ⟨q, 1, none⟩ = some (ptrV pb) ∧ w'.cell? ⟨p2, 0, none⟩ = some (.func (Fn.func fk) #[] fcs)) w3 := ⟨BoxAt.cell HT3.out.2.1 (j := 7) rfl, HT3.out.2.2.1.cell (j := 0) rfl, HT3.out.2.2.1.cell (j := 1) rfl, HT3.out.2.2.2.cell (j := 0) rfl⟩
  clear hA3 HCa
  refine hK.out _ _ (.inr hS3) ?_
  clear hK
  try simp only [Act.put, List.getElem_toArray, List.getElem_cons_zero, List.getElem_cons_succ, List.setIfInBounds_toArray, List.set_cons_zero, List.set_cons_succ]
  refine anyT_done (by kernel_rfl) ?_
  have hS3d : (fun w' : World => w'.cell? ⟨p, 7, none⟩ = some (.slice (some ⟨q, 0, none⟩) 2 cq) ∧ w'.cell? ⟨q, 0, none⟩ = some (ptrV pa) ∧ w'.cell? ⟨q, 1, none⟩ = some (ptrV pb) ∧ w'.cell? ⟨p2, 0, none⟩ = some (.func (Fn.func fk) #[] fcs)) w3.drew := hS3
  have hbd3 : Below w3.heap.size w3 w3.drew := (Below.refl _ _).drew
  have hc3l := HA3.out.code.lt
  have HCb : Hid (Calls Try.prog 22 #[ptrV cb, ptrV pb, .func (Fn.func fk) #[] fcs] w3.drew (AdP w3.drew b m m2 pb cb cv3 (X ++ a.conds L s X.length) L s)) := Hb w3.drew m m2 pb cb cv3 _ bs3 _ R L s (HT3.out.1.below hbd3 (by omega) (Nat.le_refl _)) (HA3.out.code.below hbd3) (by omega) (HB3.out.1.below hbd3) (HB3.out.2.move (w' := w3.drew) hbd3.size (fun k hk => .inl hk) (Nat.le_refl _) (Nat.le_refl _)) HXl.out.2.2.1 HXl.out.2.2.2 (by rw [HXl.out.1]; exact HXl.out.2.1)
  clear hSd hS3 c0 c1 c2 c3 d0
  go_upto_region 8 with fail
  refine wp_region_T 99 (fun w' : World => w'.cell? ⟨p, 7, none⟩ = some (.slice (some ⟨q, 0, none⟩) 2 cq) ∧ w'.cell? ⟨q, 0, none⟩ = some (ptrV pa) ∧ w'.cell? ⟨q, 1, none⟩ = some (ptrV pb) ∧ w'.cell? ⟨p2, 0, none⟩ = some (.func (Fn.func fk) #[] fcs)) (by kernel_rfl) ?_
  refine anyT_takeN (i := 0) (v := ?vib0) rfl (by kernel_rfl) (by kernel_rfl) (by kernel_rfl) (by rfl) (fun _ _ _ h => h) (Or.inl ⟨by rfl, ?yib0⟩) hS3d ?_
  case yib0 => (intro wz hSw; obtain ⟨hz0, hz1, hz2, hz3⟩ := hSw; go_simp; (try with_reducible rfl))
  try simp only [Act.put, List.getElem_toArray, List.getElem_cons_zero, List.getElem_cons_succ, List.setIfInBounds_toArray, List.set_cons_zero, List.set_cons_succ]
  refine anyT_takeN (i := 1) (v := ?vib1) rfl (by kernel_rfl) (by kernel_rfl) (by kernel_rfl) (by rfl) (fun _ _ _ h => h) (Or.inl ⟨by rfl, ?yib1⟩) hS3d ?_
  case yib1 => (intro wz hSw; obtain ⟨hz0, hz1, hz2, hz3⟩ := hSw; go_simp; (try with_reducible rfl))
  try simp only [Act.put, List.getElem_toArray, List.getElem_cons_zero, List.getElem_cons_succ, List.setIfInBounds_toArray, List.set_cons_zero, List.set_cons_succ]
  refine anyT_takeN (i := 2) (v := ?vib2) rfl (by kernel_rfl) (by kernel_rfl) (by kernel_rfl) (by rfl) (fun _ _ _ h => h) (Or.inl ⟨by rfl, ?yib2⟩) hS3d ?_
  case yib2 => (intro wz hSw; obtain ⟨hz0, hz1, hz2, hz3⟩ := hSw; go_simp; (try with_reducible rfl))
  try simp only [Act.put, List.getElem_toArray, List.getElem_cons_zero, List.getElem_cons_succ, List.setIfInBounds_toArray, List.set_cons_zero, List.set_cons_succ]
  refine anyT_takeN (i := 3) (v := ?vib3) rfl (by kernel_rfl) (by kernel_rfl) (by kernel_rfl) (by rfl) (fun _ _ _ h => h) (Or.inl ⟨by rfl, ?yib3⟩) hS3d ?_
  case yib3 => (intro wz hSw; obtain ⟨hz0, hz1, hz2, hz3⟩ := hSw; go_simp; (try with_reducible rfl))
  try simp only [Act.put, List.getElem_toArray, List.getElem_cons_zero, List.getElem_cons_succ, List.setIfInBounds_toArray, List.set_cons_zero, List.set_cons_succ]
  refine anyT_takeN (i := 4) (v := ?vib4) rfl (by kernel_rfl) (by kernel_rfl) (by kernel_rfl) (by rfl) (fun _ _ _ h => h) (Or.inl ⟨by rfl, ?yib4⟩) hS3d ?_
  case yib4 => (intro wz hSw; obtain ⟨hz0, hz1, hz2, hz3⟩ := hSw; go_simp; (try with_reducible rfl))
  try simp only [Act.put, List.getElem_toArray, List.getElem_cons_zero, List.getElem_cons_succ, List.setIfInBounds_toArray, List.set_cons_zero, List.set_cons_succ]
  refine anyT_takeN (i := 5) (v := ?vib5) rfl (by kernel_rfl) (by kernel_rfl) (by kernel_rfl) (by rfl) (fun _ _ _ h => h) (Or.inl ⟨by rfl, ?yib5⟩) hS3d ?_
  case yib5 => (intro wz hSw; obtain ⟨hz0, hz1, hz2, hz3⟩ := hSw; go_simp; (try with_reducible rfl))
  try simp only [Act.put, List.getElem_toArray, List.getElem_cons_zero, List.getElem_cons_succ, List.setIfInBounds_toArray, List.set_cons_zero, List.set_cons_succ]
  refine anyT_takeN (i := 6) (v := ?vib6) rfl (by kernel_rfl) (by kernel_rfl) (by kernel_rfl) (by rfl) (fun _ _ _ h => h) (Or.inl ⟨by rfl, ?yib6⟩) hS3d ?_
  case yib6 => (intro wz hSw; obtain ⟨hz0, hz1, hz2, hz3⟩ := hSw; go_simp; (try with_reducible rfl))
  try simp only [Act.put, List.getElem_toArray, List.getElem_cons_zero, List.getElem_cons_succ, List.setIfInBounds_toArray, List.set_cons_zero, List.set_cons_succ]
  refine anyT_takeN (i := 7) (v := ?vib7) rfl (by kernel_rfl) (by kernel_rfl) (by kernel_rfl) (by rfl) (fun _ _ _ h => h) (Or.inl ⟨by rfl, ?yib7⟩) hS3d ?_
  case yib7 => (intro wz hSw; obtain ⟨hz0, hz1, hz2, hz3⟩ := hSw; go_simp; (try with_reducible rfl))
  try simp only [Act.put, List.getElem_toArray, List.getElem_cons_zero, List.getElem_cons_succ, List.setIfInBounds_toArray, List.set_cons_zero, List.set_cons_succ]
  refine anyT_one (i := 8) (by kernel_rfl) rfl (fun K hK => ?_)
  go_simp
  go_at_call 22
  refine HCb.out.mono ?_
  rintro r w4 ⟨rfl, cv4, bs4, hA4⟩
  have HCd3 : Hid (CoAt w3.drew cb cv3 (X ++ a.conds L s X.length) bs3) := HA3.out.code.below hbd3
  have HT4 : Hid (BoxT w4 m2 p n (.slice (some ⟨q, 0, none⟩) 2 cq) k ∧ PRow w4 m2 q cq [pa, pb] ∧ BoxAt w4 p2 54 1 p2 [.func (Fn.func fk) #[] fcs]) := by
    refine ⟨BoxAt.chg (BoxAt.below HT3.out.2.1 hbd3) hA4.fr.chg (adS_off HCd3.out (by omega) (by omega)), (HT3.out.2.2.1.chg (S := fun _ => False) (Chg.of_below hbd3) (fun q => q)).chg hA4.fr.chg (adS_off HCd3.out (by omega) (by omega)), (HT3.out.2.2.2.below hbd3).chg hA4.fr.chg ?_⟩
    rintro (q | q | q)
    · have := HP2.out.2.1; omega
    · have := HP2.out.2.1; omega
    · exact own_apart HT3.out.2.2.2 HA3.out.code.row (by decide) p2 rfl q
  have hS4 : (fun w' : World => w'.cell? ⟨p, 7, none⟩ = some (.slice (some ⟨q, 0, none⟩) 2 cq) ∧ w'.cell? ⟨q, 0, none⟩ = some (ptrV pa) ∧ w'.cell? ⟨q, 1, none⟩ = some (ptrV pb) ∧ w'.cell? ⟨p2, 0, none⟩ = some (.func (Fn.func fk) #[] fcs)) w4 := ⟨BoxAt.cell HT4.out.1 (j := 7) rfl, HT4.out.2.1.cell (j := 0) rfl, HT4.out.2.1.cell (j := 1) rfl, HT4.out.2.2.cell (j := 0) rfl⟩
  have HR : Hid (AdP w (.inter n a b) lo hi p cb cv X L s (.returned (.tuple #[])) w4) := by
    have g1 := hA4.fr
    have g2 : AdF w3 w4 lo hi cb cv3 cv4 := (AdF.of_below hbd3).trans (hA4.fr.mono l1 (by omega))
    refine ⟨rfl, cv4, bs4, ⟨⟨h0, m, m2, pa, pb, q, cq, k, (HA3.out.tree.below hbd3 (by omega) (Nat.le_refl _)).adf HCd3.out g1 (by omega) (.inl (Nat.le_refl _)), ?_, l1, l2, HT4.out.1, HT4.out.2.1, hp, hq⟩, ?_, ?_⟩⟩
    · have h9 := hA4.tree
      rw [HXl.out.1] at h9
      exact h9
    · have h9 := hA4.code
      rw [HXl.out.1, List.append_assoc] at h9
      exact h9
    · exact (HF0.out.trans HF3.out).trans g2
  clear hA4 HCb
  refine hK.out _ _ (.inr hS4) ?_
  clear hK
  try simp only [Act.put, List.getElem_toArray, List.getElem_cons_zero, List.getElem_cons_succ, List.setIfInBounds_toArray, List.set_cons_zero, List.set_cons_succ]
  refine anyT_done (by kernel_rfl) ?_
  go_wp2_with fail
  refine bodyPost_end (results_none rfl _ _ _) rfl ?_
  exact HR.out
end Go.Proofs.Ytkbmdkgfgfbilaa

