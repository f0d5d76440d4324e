import Derived.Test.YtkbmdkgfgfbilaaPkAI
import Derived.Test.YtkbmdkgfgfbilaaPkAK
import Derived.Test.YtkbmdkgfgfbilaaPkAE
/-
  spec.l6Conds: a chain.
-/
namespace Go.Proofs.Ytkbmdkgfgfbilaa
open Go.ChangeShapes Go.WideShapes Go.ChangeAt Go.RowKit Go.Deep
set_option linter.unusedVariables false
set_option linter.unusedSimpArgs false
set_option maxRecDepth 100000

set_option maxHeartbeats 8000000 in
theorem conds_chain {n : Nat} (H : CoC n) (w : World) (b o cap gb nb cb : Nat) (ks : List (List Nd)) (e : Nd) (t : CT) (L : List Ix) (s : Bool) (f : Nat) (hn : (ks.flatten ++ [e]).length ≤ n + 1) (hn2 : (ks.flatten ++ [e]).length ≤ 200) (hf : f + (ks.flatten ++ [e]).length ≤ 1000) (hW : Win w b o cap (ks.flatten ++ [e])) (hT : TreeF (ks.flatten ++ [e]) t) (hal : ks.length = arity e.kind) (hIs : ∀ k ∈ ks, IsT 1 k) (hLs : Lst w gb L) (hnb : nb = L.length) (hBf : Bfr L t.size) {x y : CT} {ka kb : List Nd} (h14 : e.kind = 14) (hx : TreeF ka x) (hy : TreeF kb y) (ht : t = .chain e x y) (hks : ks = [ka, kb]) : Calls Try.prog 15 #[.slice (some ⟨b, o, none⟩) (ks.flatten ++ [e]).length cap, .slice (some ⟨gb, 0, none⟩) nb cb, .bool s, .int .i64 (f : Int)] w (CoP (t.conds L s f) w) := by
  simp only [List.length_append, List.length_singleton] at hn hn2 hf
  obtain ⟨m, hm⟩ : ∃ m, m = ks.flatten.length := ⟨_, rfl⟩
  have HT : Hid (∀ wx, Below w.heap.size w wx → Calls Try.prog 38 #[.slice (some ⟨b, o, none⟩) (m + 1) cap] wx fun r w' => r = .returned (.int .i64 e.kind) ∧ w' = wx) := fun wx hx => by
    rw [hm]; exact l5Top_core (hW.below hx)
  obtain ⟨a3, ha3⟩ : ∃ a3, a3 = ks.length := ⟨_, rfl⟩
  have HKs : Hid (Calls Try.prog 37 #[.slice (some ⟨b, o, none⟩) (m + 1) cap] w fun r w' => ∃ g cp, r = .returned (.slice (some ⟨g, 0, none⟩) a3 cp) ∧ OwnV w' w.heap.size g cp (kidVs b o cap ks) ∧ Below w.heap.size w w') := by
    rw [ha3, hm]; exact l5Kids_core hW hal hIs
  have HN : Hid (∀ {j : Nat} {k : List Nd} {u : CT}, ks[j]? = some k → TreeF k u → ∃ o' cap', (kidVs b o cap ks)[j]? = some (.slice (some ⟨b, o', none⟩) k.length cap') ∧ CkC w b o' k.length cap' u ∧ u.size = k.length) := by
    intro j k u hk hu
    obtain ⟨o', cap', hv, hWk⟩ := kidVs_nth hW hk
    have hkl := len_flat (List.mem_of_getElem? hk)
    exact ⟨o', cap', hv, ckC_of H (by omega) (by omega) hWk hu, hu.size⟩
  rw [List.length_append, List.length_singleton, ← hm]
  rw [← hm] at hf hn2
  have HM : Hid (a3 = ks.length ∧ m = ks.flatten.length) := ⟨ha3, hm⟩
  have HSz : Hid (t.size ≤ 200 ∧ t.size = m + 1) := by
    have h1 := hT.size
    rw [List.length_append, List.length_singleton, ← hm] at h1
    exact ⟨by omega, h1⟩
  have HL : Hid (Lst w gb L ∧ nb = L.length ∧ Bfr L t.size) := ⟨hLs, hnb, hBf⟩
  have HK0 : Hid (t = .chain e x y ∧ ks = [ka, kb] ∧ e.kind = 14) := ⟨ht, hks, h14⟩
  clear hW hT hIs H hal hn hm ha3 ht hks h14 hLs hnb hBf
  go_enter Try.func15, Try.ntmps15
  go_wp2_with fail
  refine HKs.out.mono ?_
  rintro r w1 ⟨kg, kc1, rfl, hO, hb1⟩
  have s1 := hb1.size
  have HO : Hid (OwnV w1 w.heap.size kg kc1 (kidVs b o cap ks)) := hO
  have hkc := hO.caps
  rw [kidVs_len, ← HM.out.1] at hkc
  have hkl := hO.lt
  clear hO HKs
  obtain ⟨W1, hW1⟩ : ∃ W1 : World, W1 = w1.alloc (Obj.cells #[] 29) := ⟨_, rfl⟩
  obtain ⟨G0, hG0⟩ : ∃ G0, G0 = w1.heap.size := ⟨_, rfl⟩
  have C0 : Hid (Cds w1 W1 (.slice (some ⟨G0, 0, none⟩) 0 0) [] []) := by rw [hW1, hG0]; exact cds_new w1
  have x1 : Below w1.heap.size w1 W1 := C0.out.below
  have j1 : Below w.heap.size w W1 := hb1.trans (x1.mono s1)
  go_upto_region 3 with fail
  rw [← hW1, ← hG0]
  clear hW1 hG0
  go_wp2_with fail
  refine (HT.out W1 j1).mono ?_
  rintro r w1' ⟨rfl, hw1⟩
  rw [hw1]
  clear hw1
  obtain ⟨ht, hks, h14⟩ := HK0.out
  clear HK0
  subst ht hks
  have z14 : (e.kind == 14) = true := by rw [beq_iff_eq]; exact h14
  obtain rfl : a3 = 2 := HM.out.1
  obtain ⟨o1, c1, hv1, hc1, hz1⟩ := HN.out (j := 0) rfl hx
  obtain ⟨o2, c2, hv2, hc2, hz2⟩ := HN.out (j := 1) rfl hy
  have q0 := (HO.out.below x1).cell hv1
  have q1 := (HO.out.below x1).cell hv2
  have hm2 : m = ka.length + kb.length := by rw [HM.out.2]; simp
  obtain ⟨l1, hl1⟩ : ∃ l1, l1 = ka.length := ⟨_, rfl⟩
  obtain ⟨l2, hl2⟩ : ∃ l2, l2 = kb.length := ⟨_, rfl⟩
  rw [← hl1] at q0 hc1 hm2 hz1
  rw [← hl2] at q1 hc2 hm2 hz2
  have HC1 : Hid (CkC w b o1 l1 c1 x) := hc1
  have HC2 : Hid (CkC w b o2 l2 c2 y) := hc2
  have HG1 : Hid (GkC w b o1 l1 c1 x) := hc1.g
  have HG2 : Hid (GkC w b o2 l2 c2 y) := hc2.g
  have hi1 := hc1.g.le
  have HI : Hid (x.ifs ≤ 200 ∧ y.ifs ≤ 200 ∧ x.size = l1 ∧ y.size = l2) := ⟨hc1.ifs, hc2.ifs, hz1, hz2⟩
  have hf1 : f + l1 ≤ 1000 := by omega
  have hf2 : f + x.ifs + l2 ≤ 1000 := by omega
  have hkw1 : kg < w1.heap.size := hkl.2
  clear hc1 hc2 hv1 hv2 hl1 hl2 hm2 hx hy hz1 hz2
  have HBx : Hid (Bfr L x.size) := HL.out.2.2.less (by show _ ≤ CT.size _; simp only [CT.size]; omega)
  go_wp2_with fail
  refine (CkC.conds_in HC1 L s f gb nb cb _ rfl hf1 HL.out.2.1 HBx.out W1 j1 (HL.out.1.below j1)).mono ?_
  rintro r w2 ⟨g2, n2, p2, bs2, rfl, D2, hb2⟩
  have C2 : Hid (Cds w1 w2 (.slice (some ⟨G0, 0, none⟩) 0 0) [] []) := C0.out.move hb2
  have x2 : Below w1.heap.size w1 w2 := C2.out.below
  have hl2 : Hid (([] : List (List Ix)).length + (x.conds L s f).length ≤ 1000) := by show _ ≤ _; rw [conds_len]; have := HI.out.1; simp; omega
  have hs2 : Hid (w1.heap.size ≤ W1.heap.size) := x1.size
  go_wp2_with (at_builtin; refine wpList_append_cds rfl _ _ rfl G0 0 0 g2 n2 p2 [] (x.conds L s f) [] bs2 rfl rfl C2.out D2.out hs2.out hl2.out ?_)
  intro g3 n3 p3 bs3 w3 C3 x3
  clear C2 D2 hb2 C0
  have j3 : Below w.heap.size w w3 := hb1.trans (x3.mono s1)
  have t0 : w3.cell? ⟨kg, 0, none⟩ = some (.slice (some ⟨b, o1, none⟩) l1 c1) := by rw [x3.cell (p := ⟨kg, 0, none⟩) hkw1, ← x1.cell (p := ⟨kg, 0, none⟩) hkw1]; exact q0
  have t1 : w3.cell? ⟨kg, 1, none⟩ = some (.slice (some ⟨b, o2, none⟩) l2 c2) := by rw [x3.cell (p := ⟨kg, 1, none⟩) hkw1, ← x1.cell (p := ⟨kg, 1, none⟩) hkw1]; exact q1
  have HLs : Hid (Lst w3 gb L) := HL.out.1.below j3
  go_wp2_with fail
  refine (HG1.out.gen s f hf1 w3 j3).mono ?_
  rintro r w4 ⟨g4, p4, rfl, hO4, hb4⟩
  obtain ⟨n4, hn4⟩ : ∃ n4, n4 = (x.gen s f).length := ⟨_, rfl⟩
  rw [← hn4]
  have HO4 : Hid (Lst w4 g4 (x.gen s f) ∧ n4 = (x.gen s f).length) := ⟨hO4.lst, hn4⟩
  clear hO4 hn4
  obtain ⟨W5, hW5⟩ : ∃ W5 : World, W5 = w4.alloc (Obj.cells #[.slice (some ⟨gb, 0, none⟩) nb cb, .slice (some ⟨g4, 0, none⟩) n4 p4] 27) := ⟨_, rfl⟩
  have hb5 : Below w4.heap.size w4 W5 := by rw [hW5]; exact (Below.refl _ _).alloc (Nat.le_refl _) _
  have HCt : Hid (Calls Try.prog 39 #[.slice (some ⟨w4.heap.size, 0, none⟩) 2 2] W5 (GeP (L ++ x.gen s f) W5)) := by
    rw [hW5]
    refine cat_lit (ns := [L, x.gen s f]) (.cons HL.out.2.1 (HLs.out.below hb4) (.cons HO4.out.2 HO4.out.1 .nil)) rfl (by simp) rfl ?_ (by simp)
    have h1 := (HL.out.2.2.more (a := x) (sz' := 0) (by show _ ≤ CT.size _; simp only [CT.size]; omega) (by have := HSz.out.1; omega) s f).len
    omega
  go_wp2_with fail
  rw [← hW5]
  clear hW5
  refine HCt.out.mono ?_
  rintro r w6 ⟨g6, p6, rfl, hO6, hb6⟩
  obtain ⟨n6, hn6⟩ : ∃ n6, n6 = (L ++ x.gen s f).length := ⟨_, rfl⟩
  rw [← hn6]
  have HO6 : Hid (Lst w6 g6 (L ++ x.gen s f) ∧ n6 = (L ++ x.gen s f).length) := ⟨hO6.lst, hn6⟩
  have hb36 : Below w3.heap.size w3 w6 := (hb4.trans (hb5.mono hb4.size)).trans (hb6.mono (Nat.le_trans hb4.size hb5.size))
  clear hO6 hn6 HCt hb4 hb5 hb6 HO4
  have C6 : Hid (Cds w1 w6 (.slice (some ⟨g3, 0, none⟩) n3 p3) (x.conds L s f) bs3) := C3.out.move hb36
  have x6 : Below w1.heap.size w1 w6 := C6.out.below
  have j6 : Below w.heap.size w w6 := hb1.trans (x6.mono s1)
  have hkw3 : kg < w3.heap.size := by have := x3.size; omega
  have u0 : w6.cell? ⟨kg, 0, none⟩ = some (.slice (some ⟨b, o1, none⟩) l1 c1) := by rw [hb36.cell (p := ⟨kg, 0, none⟩) hkw3]; exact t0
  have u1 : w6.cell? ⟨kg, 1, none⟩ = some (.slice (some ⟨b, o2, none⟩) l2 c2) := by rw [hb36.cell (p := ⟨kg, 1, none⟩) hkw3]; exact t1
  clear t0 t1 C3 q0 q1
  have hkw : kg < w6.heap.size := by have := x6.size; omega
  have HWr : Hid (IntKind.i64.wrap ((f : Int) + (x.ifs : Int)) = ((f + x.ifs : Nat) : Int)) := by show _ = _; rw [IntKind.wrap_i64]; omega
  have HLn : Hid ((x.conds L s f).length + (y.conds (L ++ x.gen s f) (s || x.passes) (f + x.ifs)).length ≤ 1000) := by show _ ≤ _; rw [conds_len, conds_len]; have := HI.out; omega
  have HBy : Hid (Bfr (L ++ x.gen s f) y.size) := HL.out.2.2.more (by show _ ≤ CT.size _; simp only [CT.size]; omega) (by have := HSz.out.1; omega) s f
  go_upto_region 7 with fail
  cases s
  case false =>
    have hSd : (fun w' : World => w'.cell? ⟨kg, 0, none⟩ = some (.slice (some ⟨b, o1, none⟩) l1 c1) ∧ w'.cell? ⟨kg, 1, none⟩ = some (.slice (some ⟨b, o2, none⟩) l2 c2)) w6.drew := ⟨u0, u1⟩
    have hbd : Below w6.heap.size w6 w6.drew := (Below.refl _ _).drew
    refine wp_region_T 99 (fun w' : World => w'.cell? ⟨kg, 0, none⟩ = some (.slice (some ⟨b, o1, none⟩) l1 c1) ∧ w'.cell? ⟨kg, 1, none⟩ = some (.slice (some ⟨b, o2, none⟩) l2 c2)) (by kernel_rfl) ?_
    refine anyT_takeN (i := 0) (v := ?vf0) rfl (by kernel_rfl) (by kernel_rfl) (by kernel_rfl) (by rfl) (fun _ _ _ h => h) (Or.inl ⟨by rfl, ?yf0⟩) hSd ?_
    case yf0 => (intro wz hSw; obtain ⟨hz0, hz1⟩ := hSw; go_simp; (try with_reducible rfl))
    try simp only [Act.put, List.getElem_toArray, List.getElem_cons_zero, List.getElem_cons_succ, List.setIfInBounds_toArray, List.set_cons_zero, List.set_cons_succ]
    refine anyT_takeN (i := 1) (v := ?vf1) rfl (by kernel_rfl) (by kernel_rfl) (by kernel_rfl) (by rfl) (fun _ _ _ h => h) (Or.inl ⟨by rfl, ?yf1⟩) hSd ?_
    case yf1 => (intro wz hSw; obtain ⟨hz0, hz1⟩ := hSw; go_simp; (try with_reducible rfl))
    try simp only [Act.put, List.getElem_toArray, List.getElem_cons_zero, List.getElem_cons_succ, List.setIfInBounds_toArray, List.set_cons_zero, List.set_cons_succ]
    refine anyT_takeN (i := 2) (v := ?vf2) rfl (by kernel_rfl) (by kernel_rfl) (by kernel_rfl) (by rfl) (fun _ _ _ h => h) (Or.inl ⟨by rfl, ?yf2⟩) hSd ?_
    case yf2 => (intro wz hSw; obtain ⟨hz0, hz1⟩ := hSw; go_simp; (try with_reducible rfl))
    try simp only [Act.put, List.getElem_toArray, List.getElem_cons_zero, List.getElem_cons_succ, List.setIfInBounds_toArray, List.set_cons_zero, List.set_cons_succ]
    refine anyT_takeN (i := 3) (v := ?vf3) rfl (by kernel_rfl) (by kernel_rfl) (by kernel_rfl) (by rfl) (fun _ _ _ h => h) (Or.inl ⟨by rfl, ?yf3⟩) hSd ?_
    case yf3 => (intro wz hSw; obtain ⟨hz0, hz1⟩ := hSw; go_simp; (try with_reducible rfl))
    try simp only [Act.put, List.getElem_toArray, List.getElem_cons_zero, List.getElem_cons_succ, List.setIfInBounds_toArray, List.set_cons_zero, List.set_cons_succ]
    refine anyT_takeN (i := 4) (v := ?vf4) rfl (by kernel_rfl) (by kernel_rfl) (by kernel_rfl) (by rfl) (fun _ _ _ h => h) (Or.inl ⟨by rfl, ?yf4⟩) hSd ?_
    case yf4 => (intro wz hSw; obtain ⟨hz0, hz1⟩ := hSw; go_simp; (try with_reducible rfl))
    try simp only [Act.put, List.getElem_toArray, List.getElem_cons_zero, List.getElem_cons_succ, List.setIfInBounds_toArray, List.set_cons_zero, List.set_cons_succ]
    refine anyT_takeN (i := 5) (v := ?vf5) rfl (by kernel_rfl) (by kernel_rfl) (by kernel_rfl) (by rfl) (fun _ _ _ h => h) (Or.inl ⟨by rfl, ?yf5⟩) hSd ?_
    case yf5 => (intro wz hSw; obtain ⟨hz0, hz1⟩ := hSw; go_simp; (try with_reducible rfl))
    try simp only [Act.put, List.getElem_toArray, List.getElem_cons_zero, List.getElem_cons_succ, List.setIfInBounds_toArray, List.set_cons_zero, List.set_cons_succ]
    refine anyT_takeN (i := 6) (v := ?vf6) rfl (by kernel_rfl) (by kernel_rfl) (by kernel_rfl) (by rfl) (fun _ _ _ h => h) (Or.inl ⟨by rfl, ?yf6⟩) hSd ?_
    case yf6 => (intro wz hSw; obtain ⟨hz0, hz1⟩ := hSw; go_simp; (try with_reducible rfl))
    try simp only [Act.put, List.getElem_toArray, List.getElem_cons_zero, List.getElem_cons_succ, List.setIfInBounds_toArray, List.set_cons_zero, List.set_cons_succ]
    refine anyT_takeN (i := 7) (v := ?vf7) rfl (by kernel_rfl) (by kernel_rfl) (by kernel_rfl) (by rfl) (fun _ _ _ h => h) (Or.inl ⟨by rfl, ?yf7⟩) hSd ?_
    case yf7 => (intro wz hSw; obtain ⟨hz0, hz1⟩ := hSw; go_simp; (try with_reducible rfl))
    try simp only [Act.put, List.getElem_toArray, List.getElem_cons_zero, List.getElem_cons_succ, List.setIfInBounds_toArray, List.set_cons_zero, List.set_cons_succ]
    refine anyT_takeN (i := 8) (v := ?vf8) rfl (by kernel_rfl) (by kernel_rfl) (by kernel_rfl) (by rfl) (fun _ _ _ h => h) (Or.inl ⟨by rfl, ?yf8⟩) hSd ?_
    case yf8 => (intro wz hSw; obtain ⟨hz0, hz1⟩ := hSw; go_simp; (try with_reducible rfl))
    try simp only [Act.put, List.getElem_toArray, List.getElem_cons_zero, List.getElem_cons_succ, List.setIfInBounds_toArray, List.set_cons_zero, List.set_cons_succ]
    refine anyT_takeN (i := 9) (v := ?vf9) rfl (by kernel_rfl) (by kernel_rfl) (by kernel_rfl) (by rfl) (fun _ _ _ h => h) (Or.inl ⟨by rfl, ?yf9⟩) hSd ?_
    case yf9 => (intro wz hSw; obtain ⟨hz0, hz1⟩ := hSw; go_simp; (try with_reducible rfl))
    try simp only [Act.put, List.getElem_toArray, List.getElem_cons_zero, List.getElem_cons_succ, List.setIfInBounds_toArray, List.set_cons_zero, List.set_cons_succ]
    refine anyT_takeN (i := 12) (v := ?vf12) rfl (by kernel_rfl) (by kernel_rfl) (by kernel_rfl) (by rfl) (fun _ _ _ h => h) (Or.inl ⟨by rfl, ?yf12⟩) hSd ?_
    case yf12 => (intro wz hSw; obtain ⟨hz0, hz1⟩ := hSw; go_simp; (try with_reducible rfl))
    try simp only [Act.put, List.getElem_toArray, List.getElem_cons_zero, List.getElem_cons_succ, List.setIfInBounds_toArray, List.set_cons_zero, List.set_cons_succ]
    refine anyT_takeN (i := 13) (v := ?vf13) rfl (by kernel_rfl) (by kernel_rfl) (by kernel_rfl) (by rfl) (fun _ _ _ h => h) (Or.inl ⟨by rfl, ?yf13⟩) hSd ?_
    case yf13 => (intro wz hSw; obtain ⟨hz0, hz1⟩ := hSw; go_simp; (try with_reducible rfl))
    try simp only [Act.put, List.getElem_toArray, List.getElem_cons_zero, List.getElem_cons_succ, List.setIfInBounds_toArray, List.set_cons_zero, List.set_cons_succ]
    refine anyT_takeN (i := 14) (v := ?vf14) rfl (by kernel_rfl) (by kernel_rfl) (by kernel_rfl) (by rfl) (fun _ _ _ h => h) (Or.inl ⟨by rfl, ?yf14⟩) hSd ?_
    case yf14 => (intro wz hSw; obtain ⟨hz0, hz1⟩ := hSw; go_simp; (try with_reducible rfl))
    try simp only [Act.put, List.getElem_toArray, List.getElem_cons_zero, List.getElem_cons_succ, List.setIfInBounds_toArray, List.set_cons_zero, List.set_cons_succ]
    refine anyT_takeN (i := 15) (v := ?vf15) rfl (by kernel_rfl) (by kernel_rfl) (by kernel_rfl) (by rfl) (fun _ _ _ h => h) (Or.inl ⟨by rfl, ?yf15⟩) hSd ?_
    case yf15 => (intro wz hSw; obtain ⟨hz0, hz1⟩ := hSw; go_simp; (try with_reducible rfl))
    try simp only [Act.put, List.getElem_toArray, List.getElem_cons_zero, List.getElem_cons_succ, List.setIfInBounds_toArray, List.set_cons_zero, List.set_cons_succ]
    refine anyT_one (i := 10) (by kernel_rfl) rfl (fun K hK => ?_)
    go_simp
    go_at_call 40
    refine (GkC.pass_in HG1 j6 _ hbd).mono ?_
    rintro r v3 ⟨rfl, hv3, hc3⟩
    have hS3 : (fun w' : World => w'.cell? ⟨kg, 0, none⟩ = some (.slice (some ⟨b, o1, none⟩) l1 c1) ∧ w'.cell? ⟨kg, 1, none⟩ = some (.slice (some ⟨b, o2, none⟩) l2 c2)) v3 := ⟨by rw [hc3 kg 0 hkw]; exact u0, by rw [hc3 kg 1 hkw]; exact u1⟩
    clear hc3
    refine hK.out _ _ (.inr hS3) ?_
    clear hK
    try simp only [Act.put, List.getElem_toArray, List.getElem_cons_zero, List.getElem_cons_succ, List.setIfInBounds_toArray, List.set_cons_zero, List.set_cons_succ]
    refine anyT_takeN (i := 11) (v := ?vf11) rfl (by kernel_rfl) (by kernel_rfl) (by kernel_rfl) (by rfl) (fun _ _ _ h => h) (Or.inl ⟨by rfl, ?yf11⟩) hS3 ?_
    case yf11 => (intro wz hSw; obtain ⟨hz0, hz1⟩ := hSw; go_simp; (try with_reducible rfl))
    try simp only [Act.put, List.getElem_toArray, List.getElem_cons_zero, List.getElem_cons_succ, List.setIfInBounds_toArray, List.set_cons_zero, List.set_cons_succ]
    refine anyT_one (i := 16) (by kernel_rfl) rfl (fun K hK => ?_)
    go_simp
    go_at_call 41
    refine (GkC.ifs_in HG1 j6 _ hv3).mono ?_
    rintro r v4 ⟨rfl, hv4⟩
    rw [hv4]
    clear hv4
    refine hK.out _ _ (.inr hS3) ?_
    clear hK
    try simp only [Act.put, List.getElem_toArray, List.getElem_cons_zero, List.getElem_cons_succ, List.setIfInBounds_toArray, List.set_cons_zero, List.set_cons_succ]
    refine anyT_takeN (i := 17) (v := ?vf17) rfl (by kernel_rfl) (by kernel_rfl) (by kernel_rfl) (by rfl) (fun _ _ _ h => h) (Or.inl ⟨by rfl, ?yf17⟩) hS3 ?_
    case yf17 => (intro wz hSw; obtain ⟨hz0, hz1⟩ := hSw; go_simp; (try with_reducible rfl))
    try simp only [Act.put, List.getElem_toArray, List.getElem_cons_zero, List.getElem_cons_succ, List.setIfInBounds_toArray, List.set_cons_zero, List.set_cons_succ]
    refine anyT_one (i := 18) (by kernel_rfl) rfl (fun K hK => ?_)
    go_simp
    go_at_call 15
    refine (CkC.conds_in HC2 (L ++ x.gen false f) x.passes (f + x.ifs) g6 n6 p6 _ HWr.out hf2 HO6.out.2 HBy.out _ (j6.trans (hv3.mono j6.size)) (HO6.out.1.below hv3)).mono ?_
    rintro r v5 ⟨g5, n5, p5, bs5, rfl, D5, hb5⟩
    have hB5 : Below w6.heap.size w6 v5 := hv3.trans (hb5.mono hv3.size)
    have hS5 : (fun w' : World => w'.cell? ⟨kg, 0, none⟩ = some (.slice (some ⟨b, o1, none⟩) l1 c1) ∧ w'.cell? ⟨kg, 1, none⟩ = some (.slice (some ⟨b, o2, none⟩) l2 c2)) v5 := ⟨by rw [hB5.cell (p := ⟨kg, 0, none⟩) hkw]; exact u0, by rw [hB5.cell (p := ⟨kg, 1, none⟩) hkw]; exact u1⟩
    have C5 := C6.out.move hB5
    have hkv : kg < v5.heap.size := by have := hB5.size; omega
    refine hK.out _ _ (.inr hS5) ?_
    clear hK
    try simp only [Act.put, List.getElem_toArray, List.getElem_cons_zero, List.getElem_cons_succ, List.setIfInBounds_toArray, List.set_cons_zero, List.set_cons_succ]
    refine anyT_one (i := 19) (by kernel_rfl) rfl (fun K hK => ?_)
    refine step_append_cds rfl _ _ rfl g3 n3 p3 g5 n5 p5 (x.conds L false f) (y.conds (L ++ x.gen false f) x.passes (f + x.ifs)) bs3 bs5 rfl rfl C5 D5.out (by have h1 := x6.size; have h2 := hv3.size; omega) HLn.out ?_
    intro g7 n7 p7 bs7 v6 C7 x7
    have hS6 : (fun w' : World => w'.cell? ⟨kg, 0, none⟩ = some (.slice (some ⟨b, o1, none⟩) l1 c1) ∧ w'.cell? ⟨kg, 1, none⟩ = some (.slice (some ⟨b, o2, none⟩) l2 c2)) v6 := ⟨by rw [x7.cell (p := ⟨kg, 0, none⟩) hkw1, ← x6.cell (p := ⟨kg, 0, none⟩) hkw1]; exact u0, by rw [x7.cell (p := ⟨kg, 1, none⟩) hkw1, ← x6.cell (p := ⟨kg, 1, none⟩) hkw1]; exact u1⟩
    refine hK.out _ _ (.inr hS6) ?_
    clear hK
    try simp only [Act.put, List.getElem_toArray, List.getElem_cons_zero, List.getElem_cons_succ, List.setIfInBounds_toArray, List.set_cons_zero, List.set_cons_succ]
    refine anyT_one (i := 20) (by kernel_rfl) rfl (fun K hK => ?_)
    go_simp
    refine hK.out _ _ (.inr hS6) ?_
    clear hK
    try simp only [Act.put, List.getElem_toArray, List.getElem_cons_zero, List.getElem_cons_succ, List.setIfInBounds_toArray, List.set_cons_zero, List.set_cons_succ]
    refine anyT_done (by kernel_rfl) ?_
    have HR : Hid (CoP (CT.conds (.chain e x y) L false f) w (.returned (.slice (some ⟨g7, 0, none⟩) n7 p7)) v6) := ⟨g7, n7, p7, bs7, rfl, C7.out.weak hb1, hb1.trans (x7.mono s1)⟩
    clear C7
    go_wp2_with fail
    go_ret
    exact HR.out
  case true =>
    have hSd : (fun w' : World => w'.cell? ⟨kg, 0, none⟩ = some (.slice (some ⟨b, o1, none⟩) l1 c1) ∧ w'.cell? ⟨kg, 1, none⟩ = some (.slice (some ⟨b, o2, none⟩) l2 c2)) w6.drew := ⟨u0, u1⟩
    have hbd : Below w6.heap.size w6 w6.drew := (Below.refl _ _).drew
    refine wp_region_T 99 (fun w' : World => w'.cell? ⟨kg, 0, none⟩ = some (.slice (some ⟨b, o1, none⟩) l1 c1) ∧ w'.cell? ⟨kg, 1, none⟩ = some (.slice (some ⟨b, o2, none⟩) l2 c2)) (by kernel_rfl) ?_
    refine anyT_takeN (i := 0) (v := ?vt0) rfl (by kernel_rfl) (by kernel_rfl) (by kernel_rfl) (by rfl) (fun _ _ _ h => h) (Or.inl ⟨by rfl, ?yt0⟩) hSd ?_
    case yt0 => (intro wz hSw; obtain ⟨hz0, hz1⟩ := hSw; go_simp; (try with_reducible rfl))
    try simp only [Act.put, List.getElem_toArray, List.getElem_cons_zero, List.getElem_cons_succ, List.setIfInBounds_toArray, List.set_cons_zero, List.set_cons_succ]
    refine anyT_takeN (i := 1) (v := ?vt1) rfl (by kernel_rfl) (by kernel_rfl) (by kernel_rfl) (by rfl) (fun _ _ _ h => h) (Or.inl ⟨by rfl, ?yt1⟩) hSd ?_
    case yt1 => (intro wz hSw; obtain ⟨hz0, hz1⟩ := hSw; go_simp; (try with_reducible rfl))
    try simp only [Act.put, List.getElem_toArray, List.getElem_cons_zero, List.getElem_cons_succ, List.setIfInBounds_toArray, List.set_cons_zero, List.set_cons_succ]
    refine anyT_takeN (i := 2) (v := ?vt2) rfl (by kernel_rfl) (by kernel_rfl) (by kernel_rfl) (by rfl) (fun _ _ _ h => h) (Or.inl ⟨by rfl, ?yt2⟩) hSd ?_
    case yt2 => (intro wz hSw; obtain ⟨hz0, hz1⟩ := hSw; go_simp; (try with_reducible rfl))
    try simp only [Act.put, List.getElem_toArray, List.getElem_cons_zero, List.getElem_cons_succ, List.setIfInBounds_toArray, List.set_cons_zero, List.set_cons_succ]
    refine anyT_takeN (i := 3) (v := ?vt3) rfl (by kernel_rfl) (by kernel_rfl) (by kernel_rfl) (by rfl) (fun _ _ _ h => h) (Or.inl ⟨by rfl, ?yt3⟩) hSd ?_
    case yt3 => (intro wz hSw; obtain ⟨hz0, hz1⟩ := hSw; go_simp; (try with_reducible rfl))
    try simp only [Act.put, List.getElem_toArray, List.getElem_cons_zero, List.getElem_cons_succ, List.setIfInBounds_toArray, List.set_cons_zero, List.set_cons_succ]
    refine anyT_takeN (i := 4) (v := ?vt4) rfl (by kernel_rfl) (by kernel_rfl) (by kernel_rfl) (by rfl) (fun _ _ _ h => h) (Or.inl ⟨by rfl, ?yt4⟩) hSd ?_
    case yt4 => (intro wz hSw; obtain ⟨hz0, hz1⟩ := hSw; go_simp; (try with_reducible rfl))
    try simp only [Act.put, List.getElem_toArray, List.getElem_cons_zero, List.getElem_cons_succ, List.setIfInBounds_toArray, List.set_cons_zero, List.set_cons_succ]
    refine anyT_takeN (i := 5) (v := ?vt5) rfl (by kernel_rfl) (by kernel_rfl) (by kernel_rfl) (by rfl) (fun _ _ _ h => h) (Or.inl ⟨by rfl, ?yt5⟩) hSd ?_
    case yt5 => (intro wz hSw; obtain ⟨hz0, hz1⟩ := hSw; go_simp; (try with_reducible rfl))
    try simp only [Act.put, List.getElem_toArray, List.getElem_cons_zero, List.getElem_cons_succ, List.setIfInBounds_toArray, List.set_cons_zero, List.set_cons_succ]
    refine anyT_takeN (i := 6) (v := ?vt6) rfl (by kernel_rfl) (by kernel_rfl) (by kernel_rfl) (by rfl) (fun _ _ _ h => h) (Or.inl ⟨by rfl, ?yt6⟩) hSd ?_
    case yt6 => (intro wz hSw; obtain ⟨hz0, hz1⟩ := hSw; go_simp; (try with_reducible rfl))
    try simp only [Act.put, List.getElem_toArray, List.getElem_cons_zero, List.getElem_cons_succ, List.setIfInBounds_toArray, List.set_cons_zero, List.set_cons_succ]
    refine anyT_takeN (i := 7) (v := undef) rfl (by kernel_rfl) (by kernel_rfl) (by kernel_rfl) (by rfl) (fun _ _ _ h => h) (Or.inr ⟨by rfl, rfl⟩) hSd ?_
    try simp only [Act.put, List.getElem_toArray, List.getElem_cons_zero, List.getElem_cons_succ, List.setIfInBounds_toArray, List.set_cons_zero, List.set_cons_succ]
    refine anyT_takeN (i := 8) (v := undef) rfl (by kernel_rfl) (by kernel_rfl) (by kernel_rfl) (by rfl) (fun _ _ _ h => h) (Or.inr ⟨by rfl, rfl⟩) hSd ?_
    try simp only [Act.put, List.getElem_toArray, List.getElem_cons_zero, List.getElem_cons_succ, List.setIfInBounds_toArray, List.set_cons_zero, List.set_cons_succ]
    refine anyT_takeN (i := 9) (v := undef) rfl (by kernel_rfl) (by kernel_rfl) (by kernel_rfl) (by rfl) (fun _ _ _ h => h) (Or.inr ⟨by rfl, rfl⟩) hSd ?_
    try simp only [Act.put, List.getElem_toArray, List.getElem_cons_zero, List.getElem_cons_succ, List.setIfInBounds_toArray, List.set_cons_zero, List.set_cons_succ]
    refine anyT_takeN (i := 12) (v := ?vt12) rfl (by kernel_rfl) (by kernel_rfl) (by kernel_rfl) (by rfl) (fun _ _ _ h => h) (Or.inl ⟨by rfl, ?yt12⟩) hSd ?_
    case yt12 => (intro wz hSw; obtain ⟨hz0, hz1⟩ := hSw; go_simp; (try with_reducible rfl))
    try simp only [Act.put, List.getElem_toArray, List.getElem_cons_zero, List.getElem_cons_succ, List.setIfInBounds_toArray, List.set_cons_zero, List.set_cons_succ]
    refine anyT_takeN (i := 13) (v := ?vt13) rfl (by kernel_rfl) (by kernel_rfl) (by kernel_rfl) (by rfl) (fun _ _ _ h => h) (Or.inl ⟨by rfl, ?yt13⟩) hSd ?_
    case yt13 => (intro wz hSw; obtain ⟨hz0, hz1⟩ := hSw; go_simp; (try with_reducible rfl))
    try simp only [Act.put, List.getElem_toArray, List.getElem_cons_zero, List.getElem_cons_succ, List.setIfInBounds_toArray, List.set_cons_zero, List.set_cons_succ]
    refine anyT_takeN (i := 14) (v := ?vt14) rfl (by kernel_rfl) (by kernel_rfl) (by kernel_rfl) (by rfl) (fun _ _ _ h => h) (Or.inl ⟨by rfl, ?yt14⟩) hSd ?_
    case yt14 => (intro wz hSw; obtain ⟨hz0, hz1⟩ := hSw; go_simp; (try with_reducible rfl))
    try simp only [Act.put, List.getElem_toArray, List.getElem_cons_zero, List.getElem_cons_succ, List.setIfInBounds_toArray, List.set_cons_zero, List.set_cons_succ]
    refine anyT_takeN (i := 15) (v := ?vt15) rfl (by kernel_rfl) (by kernel_rfl) (by kernel_rfl) (by rfl) (fun _ _ _ h => h) (Or.inl ⟨by rfl, ?yt15⟩) hSd ?_
    case yt15 => (intro wz hSw; obtain ⟨hz0, hz1⟩ := hSw; go_simp; (try with_reducible rfl))
    try simp only [Act.put, List.getElem_toArray, List.getElem_cons_zero, List.getElem_cons_succ, List.setIfInBounds_toArray, List.set_cons_zero, List.set_cons_succ]
    refine anyT_one (i := 10) (by kernel_rfl) rfl (fun K hK => ?_)
    go_simp
    refine hK.out _ _ (.inr hSd) ?_
    clear hK
    try simp only [Act.put, List.getElem_toArray, List.getElem_cons_zero, List.getElem_cons_succ, List.setIfInBounds_toArray, List.set_cons_zero, List.set_cons_succ]
    refine anyT_takeN (i := 11) (v := ?vt11) rfl (by kernel_rfl) (by kernel_rfl) (by kernel_rfl) (by rfl) (fun _ _ _ h => h) (Or.inl ⟨by rfl, ?yt11⟩) hSd ?_
    case yt11 => (intro wz hSw; obtain ⟨hz0, hz1⟩ := hSw; go_simp; (try with_reducible rfl))
    try simp only [Act.put, List.getElem_toArray, List.getElem_cons_zero, List.getElem_cons_succ, List.setIfInBounds_toArray, List.set_cons_zero, List.set_cons_succ]
    refine anyT_one (i := 16) (by kernel_rfl) rfl (fun K hK => ?_)
    go_simp
    go_at_call 41
    refine (GkC.ifs_in HG1 j6 _ hbd).mono ?_
    rintro r v4 ⟨rfl, hv4⟩
    rw [hv4]
    clear hv4
    refine hK.out _ _ (.inr hSd) ?_
    clear hK
    try simp only [Act.put, List.getElem_toArray, List.getElem_cons_zero, List.getElem_cons_succ, List.setIfInBounds_toArray, List.set_cons_zero, List.set_cons_succ]
    refine anyT_takeN (i := 17) (v := ?vt17) rfl (by kernel_rfl) (by kernel_rfl) (by kernel_rfl) (by rfl) (fun _ _ _ h => h) (Or.inl ⟨by rfl, ?yt17⟩) hSd ?_
    case yt17 => (intro wz hSw; obtain ⟨hz0, hz1⟩ := hSw; go_simp; (try with_reducible rfl))
    try simp only [Act.put, List.getElem_toArray, List.getElem_cons_zero, List.getElem_cons_succ, List.setIfInBounds_toArray, List.set_cons_zero, List.set_cons_succ]
    refine anyT_one (i := 18) (by kernel_rfl) rfl (fun K hK => ?_)
    go_simp
    go_at_call 15
    refine (CkC.conds_in HC2 (L ++ x.gen true f) true (f + x.ifs) g6 n6 p6 _ HWr.out hf2 HO6.out.2 HBy.out _ (j6.trans (hbd.mono j6.size)) (HO6.out.1.below hbd)).mono ?_
    rintro r v5 ⟨g5, n5, p5, bs5, rfl, D5, hb5⟩
    have hB5 : Below w6.heap.size w6 v5 := hbd.trans (hb5.mono hbd.size)
    have hS5 : (fun w' : World => w'.cell? ⟨kg, 0, none⟩ = some (.slice (some ⟨b, o1, none⟩) l1 c1) ∧ w'.cell? ⟨kg, 1, none⟩ = some (.slice (some ⟨b, o2, none⟩) l2 c2)) v5 := ⟨by rw [hB5.cell (p := ⟨kg, 0, none⟩) hkw]; exact u0, by rw [hB5.cell (p := ⟨kg, 1, none⟩) hkw]; exact u1⟩
    have C5 := C6.out.move hB5
    have hkv : kg < v5.heap.size := by have := hB5.size; omega
    refine hK.out _ _ (.inr hS5) ?_
    clear hK
    try simp only [Act.put, List.getElem_toArray, List.getElem_cons_zero, List.getElem_cons_succ, List.setIfInBounds_toArray, List.set_cons_zero, List.set_cons_succ]
    refine anyT_one (i := 19) (by kernel_rfl) rfl (fun K hK => ?_)
    refine step_append_cds rfl _ _ rfl g3 n3 p3 g5 n5 p5 (x.conds L true f) (y.conds (L ++ x.gen true f) true (f + x.ifs)) bs3 bs5 rfl rfl C5 D5.out (by have h1 := x6.size; have h2 := hbd.size; omega) HLn.out ?_
    intro g7 n7 p7 bs7 v6 C7 x7
    have hS6 : (fun w' : World => w'.cell? ⟨kg, 0, none⟩ = some (.slice (some ⟨b, o1, none⟩) l1 c1) ∧ w'.cell? ⟨kg, 1, none⟩ = some (.slice (some ⟨b, o2, none⟩) l2 c2)) v6 := ⟨by rw [x7.cell (p := ⟨kg, 0, none⟩) hkw1, ← x6.cell (p := ⟨kg, 0, none⟩) hkw1]; exact u0, by rw [x7.cell (p := ⟨kg, 1, none⟩) hkw1, ← x6.cell (p := ⟨kg, 1, none⟩) hkw1]; exact u1⟩
    refine hK.out _ _ (.inr hS6) ?_
    clear hK
    try simp only [Act.put, List.getElem_toArray, List.getElem_cons_zero, List.getElem_cons_succ, List.setIfInBounds_toArray, List.set_cons_zero, List.set_cons_succ]
    refine anyT_one (i := 20) (by kernel_rfl) rfl (fun K hK => ?_)
    go_simp
    refine hK.out _ _ (.inr hS6) ?_
    clear hK
    try simp only [Act.put, List.getElem_toArray, List.getElem_cons_zero, List.getElem_cons_succ, List.setIfInBounds_toArray, List.set_cons_zero, List.set_cons_succ]
    refine anyT_done (by kernel_rfl) ?_
    have HR : Hid (CoP (CT.conds (.chain e x y) L true f) w (.returned (.slice (some ⟨g7, 0, none⟩) n7 p7)) v6) := ⟨g7, n7, p7, bs7, rfl, C7.out.weak hb1, hb1.trans (x7.mono s1)⟩
    clear C7
    go_wp2_with fail
    go_ret
    exact HR.out
end Go.Proofs.Ytkbmdkgfgfbilaa

/-
  spec.l6Conds: an if.
-/
namespace Go.Proofs.Ytkbmdkgfgfbilaa
open Go.ChangeShapes Go.WideShapes Go.ChangeAt Go.RowKit Go.Deep
set_option linter.unusedVariables false
set_option linter.unusedSimpArgs false
set_option maxRecDepth 100000

/-- One block as a literal. -/
theorem cds_lit {w0 w : World} {v : Value} {l : List Ix} {base : Nat} (hb : Below w0.heap.size w0 w) (hR : RowX w base v (absG 0 0 l)) (hB : w0.heap.size ≤ base) :
    Cds w0 (w.alloc (Obj.cells #[v, .int .i64 ((cntL l : Nat) : Int)] 29)) (.slice (some ⟨w.heap.size, 0, none⟩) 1 1) [l] [⟨v, (cntL l : Nat), absG 0 0 l⟩] := by
  have ha : Below w.heap.size w (w.alloc (Obj.cells #[v, .int .i64 ((cntL l : Nat) : Int)] 29)) := (Below.refl _ _).alloc (Nat.le_refl _) _
  refine ⟨?_, fun x hx => ?_, rfl, hb.trans (ha.mono hb.size)⟩
  · exact World.ownsRow_lit w #[v, .int .i64 ((cntL l : Nat) : Int)] 1 hb.size (by decide) rfl
  · simp only [List.mem_singleton] at hx
    subst hx
    exact (hR.below ha).low hB
set_option maxHeartbeats 8000000 in
theorem conds_cond {n : Nat} (H : CoC n) (w : World) (b o cap gb nb cb : Nat) (ks : List (List Nd)) (e : Nd) (t : CT) (L : List Ix) (s : Bool) (f : Nat) (hn : (ks.flatten ++ [e]).length ≤ n + 1) (hn2 : (ks.flatten ++ [e]).length ≤ 200) (hf : f + (ks.flatten ++ [e]).length ≤ 1000) (hW : Win w b o cap (ks.flatten ++ [e])) (hT : TreeF (ks.flatten ++ [e]) t) (hal : ks.length = arity e.kind) (hIs : ∀ k ∈ ks, IsT 1 k) (hLs : Lst w gb L) (hnb : nb = L.length) (hBf : Bfr L t.size) {x y z : CT} {ka kb kc : List Nd} (h16 : e.kind = 16) (hx : TreeF ka x) (hy : TreeF kb y) (hz : TreeF kc z) (ht : t = .cond e x y z) (hks : ks = [ka, kb, kc]) : Calls Try.prog 15 #[.slice (some ⟨b, o, none⟩) (ks.flatten ++ [e]).length cap, .slice (some ⟨gb, 0, none⟩) nb cb, .bool s, .int .i64 (f : Int)] w (CoP (t.conds L s f) w) := by
  simp only [List.length_append, List.length_singleton] at hn hn2 hf
  obtain ⟨m, hm⟩ : ∃ m, m = ks.flatten.length := ⟨_, rfl⟩
  have HT : Hid (∀ wx, Below w.heap.size w wx → Calls Try.prog 38 #[.slice (some ⟨b, o, none⟩) (m + 1) cap] wx fun r w' => r = .returned (.int .i64 e.kind) ∧ w' = wx) := fun wx hx => by
    rw [hm]; exact l5Top_core (hW.below hx)
  obtain ⟨a3, ha3⟩ : ∃ a3, a3 = ks.length := ⟨_, rfl⟩
  have HKs : Hid (Calls Try.prog 37 #[.slice (some ⟨b, o, none⟩) (m + 1) cap] w fun r w' => ∃ g cp, r = .returned (.slice (some ⟨g, 0, none⟩) a3 cp) ∧ OwnV w' w.heap.size g cp (kidVs b o cap ks) ∧ Below w.heap.size w w') := by
    rw [ha3, hm]; exact l5Kids_core hW hal hIs
  have HN : Hid (∀ {j : Nat} {k : List Nd} {u : CT}, ks[j]? = some k → TreeF k u → ∃ o' cap', (kidVs b o cap ks)[j]? = some (.slice (some ⟨b, o', none⟩) k.length cap') ∧ CkC w b o' k.length cap' u ∧ u.size = k.length) := by
    intro j k u hk hu
    obtain ⟨o', cap', hv, hWk⟩ := kidVs_nth hW hk
    have hkl := len_flat (List.mem_of_getElem? hk)
    exact ⟨o', cap', hv, ckC_of H (by omega) (by omega) hWk hu, hu.size⟩
  rw [List.length_append, List.length_singleton, ← hm]
  rw [← hm] at hf hn2
  have HM : Hid (a3 = ks.length ∧ m = ks.flatten.length) := ⟨ha3, hm⟩
  have HSz : Hid (t.size ≤ 200 ∧ t.size = m + 1) := by
    have h1 := hT.size
    rw [List.length_append, List.length_singleton, ← hm] at h1
    exact ⟨by omega, h1⟩
  have HL : Hid (Lst w gb L ∧ nb = L.length ∧ Bfr L t.size) := ⟨hLs, hnb, hBf⟩
  have HK0 : Hid (t = .cond e x y z ∧ ks = [ka, kb, kc] ∧ e.kind = 16) := ⟨ht, hks, h16⟩
  clear hW hT hIs H hal hn hm ha3 ht hks h16 hLs hnb hBf
  go_enter Try.func15, Try.ntmps15
  go_wp2_with fail
  refine HKs.out.mono ?_
  rintro r w1 ⟨kg, kc1, rfl, hO, hb1⟩
  have s1 := hb1.size
  have HO : Hid (OwnV w1 w.heap.size kg kc1 (kidVs b o cap ks)) := hO
  have hkc := hO.caps
  rw [kidVs_len, ← HM.out.1] at hkc
  have hkl := hO.lt
  clear hO HKs
  obtain ⟨W1, hW1⟩ : ∃ W1 : World, W1 = w1.alloc (Obj.cells #[] 29) := ⟨_, rfl⟩
  obtain ⟨G0, hG0⟩ : ∃ G0, G0 = w1.heap.size := ⟨_, rfl⟩
  have C0 : Hid (Cds w1 W1 (.slice (some ⟨G0, 0, none⟩) 0 0) [] []) := by rw [hW1, hG0]; exact cds_new w1
  have x1 : Below w1.heap.size w1 W1 := C0.out.below
  have j1 : Below w.heap.size w W1 := hb1.trans (x1.mono s1)
  go_upto_region 3 with fail
  rw [← hW1, ← hG0]
  clear hW1 hG0
  go_wp2_with fail
  refine (HT.out W1 j1).mono ?_
  rintro r w1' ⟨rfl, hw1⟩
  rw [hw1]
  clear hw1
  obtain ⟨ht, hks, h16⟩ := HK0.out
  clear HK0
  subst ht hks
  have z14 : (e.kind == 14) = false := by rw [beq_eq_false_iff_ne]; omega
  have z15 : (e.kind == 15) = false := by rw [beq_eq_false_iff_ne]; omega
  have z16 : (e.kind == 16) = true := by rw [beq_iff_eq]; exact h16
  obtain rfl : a3 = 3 := HM.out.1
  obtain ⟨o1, c1, hv1, hc1, hz1⟩ := HN.out (j := 0) rfl hx
  obtain ⟨o2, c2, hv2, hc2, hz2⟩ := HN.out (j := 1) rfl hy
  obtain ⟨o3, c3, hv3, hc3, hz3⟩ := HN.out (j := 2) rfl hz
  have q0 := (HO.out.below x1).cell hv1
  have q1 := (HO.out.below x1).cell hv2
  have q2 := (HO.out.below x1).cell hv3
  have hm2 : m = ka.length + kb.length + kc.length := by rw [HM.out.2]; simp; omega
  obtain ⟨l1, hl1⟩ : ∃ l1, l1 = ka.length := ⟨_, rfl⟩
  obtain ⟨l2, hl2⟩ : ∃ l2, l2 = kb.length := ⟨_, rfl⟩
  obtain ⟨l3, hl3⟩ : ∃ l3, l3 = kc.length := ⟨_, rfl⟩
  rw [← hl1] at q0 hc1 hm2 hz1
  rw [← hl2] at q1 hc2 hm2 hz2
  rw [← hl3] at q2 hc3 hm2 hz3
  have HC1 : Hid (CkC w b o1 l1 c1 x) := hc1
  have HC2 : Hid (CkC w b o2 l2 c2 y) := hc2
  have HC3 : Hid (CkC w b o3 l3 c3 z) := hc3
  have HG1 : Hid (GkC w b o1 l1 c1 x) := hc1.g
  have HG2 : Hid (GkC w b o2 l2 c2 y) := hc2.g
  have hi1 := hc1.g.le
  have hi2 := hc2.g.le
  have HI : Hid (x.ifs ≤ 200 ∧ y.ifs ≤ 200 ∧ z.ifs ≤ 200 ∧ x.size = l1 ∧ y.size = l2 ∧ z.size = l3) := ⟨hc1.ifs, hc2.ifs, hc3.ifs, hz1, hz2, hz3⟩
  have hf1 : f + l1 ≤ 1000 := by omega
  obtain ⟨Kn, hKn⟩ : ∃ Kn, Kn = f + x.ifs := ⟨_, rfl⟩
  have HF : Hid (Kn = f + x.ifs ∧ Kn + 1 + l2 ≤ 1000 ∧ Kn + 1 + y.ifs + l3 ≤ 1000) := ⟨hKn, by omega, by omega⟩
  have hKb : Kn ≤ 1000 := by omega
  have hyb : y.ifs ≤ 1000 := by omega
  have hkw1 : kg < w1.heap.size := hkl.2
  have HWk : Hid (IntKind.i64.wrap ((f : Int) + (x.ifs : Int)) = (Kn : Int)) := by show _ = _; rw [IntKind.wrap_i64]; omega
  clear hc1 hc2 hc3 hv1 hv2 hv3 hl1 hl2 hl3 hm2 hx hy hz hz1 hz2 hz3 hKn
  have HBx : Hid (Bfr L x.size) := HL.out.2.2.less (by show _ ≤ CT.size _; simp only [CT.size]; omega)
  go_wp2_with fail
  refine (CkC.conds_in HC1 L s f gb nb cb _ rfl hf1 HL.out.2.1 HBx.out W1 j1 (HL.out.1.below j1)).mono ?_
  rintro r w2 ⟨g2, n2, p2, bs2, rfl, D2, hb2⟩
  have C2 : Hid (Cds w1 w2 (.slice (some ⟨G0, 0, none⟩) 0 0) [] []) := C0.out.move hb2
  have x2 : Below w1.heap.size w1 w2 := C2.out.below
  have hl2 : Hid (([] : List (List Ix)).length + (x.conds L s f).length ≤ 1000) := by show _ ≤ _; rw [conds_len]; have := HI.out.1; simp; omega
  have hs2 : Hid (w1.heap.size ≤ W1.heap.size) := x1.size
  go_wp2_with (at_builtin; refine wpList_append_cds rfl _ _ rfl G0 0 0 g2 n2 p2 [] (x.conds L s f) [] bs2 rfl rfl C2.out D2.out hs2.out hl2.out ?_)
  intro g3 n3 p3 bs3 w3 C3 x3
  clear C2 D2 hb2 C0
  have j3 : Below w.heap.size w w3 := hb1.trans (x3.mono s1)
  have t0 : w3.cell? ⟨kg, 0, none⟩ = some (.slice (some ⟨b, o1, none⟩) l1 c1) := by rw [x3.cell (p := ⟨kg, 0, none⟩) hkw1, ← x1.cell (p := ⟨kg, 0, none⟩) hkw1]; exact q0
  have t1 : w3.cell? ⟨kg, 1, none⟩ = some (.slice (some ⟨b, o2, none⟩) l2 c2) := by rw [x3.cell (p := ⟨kg, 1, none⟩) hkw1, ← x1.cell (p := ⟨kg, 1, none⟩) hkw1]; exact q1
  have t2 : w3.cell? ⟨kg, 2, none⟩ = some (.slice (some ⟨b, o3, none⟩) l3 c3) := by rw [x3.cell (p := ⟨kg, 2, none⟩) hkw1, ← x1.cell (p := ⟨kg, 2, none⟩) hkw1]; exact q2
  clear q0 q1 q2
  have HLs : Hid (Lst w3 gb L) := HL.out.1.below j3
  go_wp2_with fail
  refine (HG1.out.gen s f hf1 w3 j3).mono ?_
  rintro r w4 ⟨g4, p4, rfl, hO4, hb4⟩
  obtain ⟨n4, hn4⟩ : ∃ n4, n4 = (x.gen s f).length := ⟨_, rfl⟩
  rw [← hn4]
  have HO4 : Hid (Lst w4 g4 (x.gen s f) ∧ n4 = (x.gen s f).length) := ⟨hO4.lst, hn4⟩
  clear hO4 hn4
  obtain ⟨W5, hW5⟩ : ∃ W5 : World, W5 = w4.alloc (Obj.cells #[.slice (some ⟨gb, 0, none⟩) nb cb, .slice (some ⟨g4, 0, none⟩) n4 p4] 27) := ⟨_, rfl⟩
  have hb5 : Below w4.heap.size w4 W5 := by rw [hW5]; exact (Below.refl _ _).alloc (Nat.le_refl _) _
  have HCt : Hid (Calls Try.prog 39 #[.slice (some ⟨w4.heap.size, 0, none⟩) 2 2] W5 (GeP (L ++ x.gen s f) W5)) := by
    rw [hW5]
    refine cat_lit (ns := [L, x.gen s f]) (.cons HL.out.2.1 (HLs.out.below hb4) (.cons HO4.out.2 HO4.out.1 .nil)) rfl (by simp) rfl ?_ (by simp)
    have h1 := (HL.out.2.2.more (a := x) (sz' := 0) (by show _ ≤ CT.size _; simp only [CT.size]; omega) (by have := HSz.out.1; omega) s f).len
    omega
  go_wp2_with fail
  rw [← hW5]
  clear hW5
  refine HCt.out.mono ?_
  rintro r w6 ⟨g6, p6, rfl, hO6, hb6⟩
  obtain ⟨n6, hn6⟩ : ∃ n6, n6 = (L ++ x.gen s f).length := ⟨_, rfl⟩
  rw [← hn6]
  have HO6 : Hid (Lst w6 g6 (L ++ x.gen s f) ∧ n6 = (L ++ x.gen s f).length) := ⟨hO6.lst, hn6⟩
  have hb36 : Below w3.heap.size w3 w6 := (hb4.trans (hb5.mono hb4.size)).trans (hb6.mono (Nat.le_trans hb4.size hb5.size))
  clear hO6 hn6 HCt hb4 hb5 hb6 HO4
  have C6 : Hid (Cds w1 w6 (.slice (some ⟨g3, 0, none⟩) n3 p3) (x.conds L s f) bs3) := C3.out.move hb36
  have x6 : Below w1.heap.size w1 w6 := C6.out.below
  have j6 : Below w.heap.size w w6 := hb1.trans (x6.mono s1)
  have hkw3 : kg < w3.heap.size := by have := x3.size; omega
  clear HLs
  have HB6 : Hid (Bfr (L ++ x.gen s f) 0) := HL.out.2.2.more (by show _ ≤ CT.size _; simp only [CT.size]; omega) (by have := HSz.out.1; omega) s f
  have HBk : Hid (Calls Try.prog 16 #[.slice (some ⟨g6, 0, none⟩) n6 p6] w6 (BlP (L ++ x.gen s f) w6)) := l6Block_core HO6.out.1 (by have := HB6.out.len; omega) HB6.out.bd HO6.out.2
  go_wp2_with fail
  refine HBk.out.mono ?_
  rintro r w7 ⟨v7, rfl, hR7, hb7⟩
  obtain ⟨va, vc, hv7⟩ := hR7.slice
  obtain ⟨vn, hvn⟩ : ∃ vn, vn = (absG 0 0 (L ++ x.gen s f)).length := ⟨_, rfl⟩
  rw [← hvn] at hv7
  clear hvn
  subst hv7
  have hb37 : Below w3.heap.size w3 w7 := hb36.trans (hb7.mono hb36.size)
  have x7 : Below w1.heap.size w1 w7 := x3.trans (hb37.mono x3.size)
  have HR7 : Hid (RowX w7 (w6.heap.size + 2) (.slice va vn vc) (absG 0 0 (L ++ x.gen s f))) := hR7
  obtain ⟨ct, hct⟩ : ∃ ct : Int, ct = ((cntL (L ++ x.gen s f) : Nat) : Int) := ⟨_, rfl⟩
  have HA : Hid (Cds w1 (w7.alloc (Obj.cells #[.slice va vn vc, .int .i64 ct] 29)) (.slice (some ⟨g3, 0, none⟩) n3 p3) (x.conds L s f) bs3 ∧ Cds w1 (w7.alloc (Obj.cells #[.slice va vn vc, .int .i64 ct] 29)) (.slice (some ⟨w7.heap.size, 0, none⟩) 1 1) [L ++ x.gen s f] [⟨.slice va vn vc, (cntL (L ++ x.gen s f) : Nat), absG 0 0 (L ++ x.gen s f)⟩]) := by
    rw [hct]
    exact ⟨(C3.out.move hb37).move ((Below.refl _ _).alloc (Nat.le_refl _) _), cds_lit x7 HR7.out (by have := x6.size; omega)⟩
  rw [← hct]
  clear hct hR7
  have hl7 : Hid ((x.conds L s f).length + [L ++ x.gen s f].length ≤ 1000) := by show _ ≤ _; rw [conds_len]; have := HI.out.1; simp; omega
  go_wp2_with (at_builtin; refine wpList_append_cds rfl _ _ rfl g3 n3 p3 w7.heap.size 1 1 (x.conds L s f) [L ++ x.gen s f] bs3 _ rfl rfl HA.out.1 HA.out.2 (Nat.le_refl _) hl7.out ?_)
  intro g8 n8 p8 bs8 w8 C8 x8
  have j8 : Below w.heap.size w w8 := hb1.trans (x8.mono s1)
  have v0 : w8.cell? ⟨kg, 0, none⟩ = some (.slice (some ⟨b, o1, none⟩) l1 c1) := by rw [x8.cell (p := ⟨kg, 0, none⟩) hkw1, ← x3.cell (p := ⟨kg, 0, none⟩) hkw1]; exact t0
  have v1 : w8.cell? ⟨kg, 1, none⟩ = some (.slice (some ⟨b, o2, none⟩) l2 c2) := by rw [x8.cell (p := ⟨kg, 1, none⟩) hkw1, ← x3.cell (p := ⟨kg, 1, none⟩) hkw1]; exact t1
  have v2 : w8.cell? ⟨kg, 2, none⟩ = some (.slice (some ⟨b, o3, none⟩) l3 c3) := by rw [x8.cell (p := ⟨kg, 2, none⟩) hkw1, ← x3.cell (p := ⟨kg, 2, none⟩) hkw1]; exact t2
  clear HA HBk C6 C3 t0 t1 t2 hb36 hb37 hb7 HR7 HO6
  have hWk := HWk.out
  go_wp2_with fail
  refine (HG1.out.ifs w8 j8).mono ?_
  rintro r w8' ⟨rfl, hw8⟩
  rw [hw8]
  clear hw8
  have HBy : Hid (Bfr L y.size) := HL.out.2.2.less (by show _ ≤ CT.size _; simp only [CT.size]; omega)
  go_wp2_with fail
  clear hWk
  refine (CkC.conds_in HC2 L s (Kn + 1) gb nb cb _ (by omega) HF.out.2.1 HL.out.2.1 HBy.out w8 j8 (HL.out.1.below j8)).mono ?_
  rintro r w9 ⟨g9, n9, p9, bs9, rfl, D9, hb9⟩
  have C9 : Hid (Cds w1 w9 (.slice (some ⟨g8, 0, none⟩) n8 p8) (x.conds L s f ++ [L ++ x.gen s f]) bs8) := C8.out.move hb9
  have x9 : Below w1.heap.size w1 w9 := C9.out.below
  have hl9 : Hid ((x.conds L s f ++ [L ++ x.gen s f]).length + (y.conds L s (Kn + 1)).length ≤ 1000) := by show _ ≤ _; rw [List.length_append, conds_len, conds_len]; have := HI.out; simp; omega
  have hs9 : Hid (w1.heap.size ≤ w8.heap.size) := x8.size
  go_wp2_with (at_builtin; refine wpList_append_cds rfl _ _ rfl g8 n8 p8 g9 n9 p9 (x.conds L s f ++ [L ++ x.gen s f]) (y.conds L s (Kn + 1)) bs8 bs9 rfl rfl C9.out D9.out hs9.out hl9.out ?_)
  intro g10 n10 p10 bs10 w10 C10 x10
  obtain ⟨XX, hXX⟩ : ∃ XX, XX = x.conds L s f ++ (L ++ x.gen s f) :: y.conds L s (Kn + 1) := ⟨_, rfl⟩
  rw [← hXX] at C10
  have HXX : Hid (XX = x.conds L s f ++ (L ++ x.gen s f) :: y.conds L s (Kn + 1)) := hXX
  clear hXX
  have j10 : Below w.heap.size w w10 := hb1.trans (x10.mono s1)
  have y1 : w10.cell? ⟨kg, 1, none⟩ = some (.slice (some ⟨b, o2, none⟩) l2 c2) := by rw [x10.cell (p := ⟨kg, 1, none⟩) hkw1, ← x8.cell (p := ⟨kg, 1, none⟩) hkw1]; exact v1
  have y2 : w10.cell? ⟨kg, 2, none⟩ = some (.slice (some ⟨b, o3, none⟩) l3 c3) := by rw [x10.cell (p := ⟨kg, 2, none⟩) hkw1, ← x8.cell (p := ⟨kg, 2, none⟩) hkw1]; exact v2
  clear C9 D9 hb9 v0 v1 v2 C8
  have hkw : kg < w10.heap.size := by have := x10.size; omega
  have HWr : Hid (IntKind.i64.wrap (IntKind.i64.wrap ((Kn : Int) + 1) + (y.ifs : Int)) = ((Kn + 1 + y.ifs : Nat) : Int)) := by
    show _ = _
    rw [show IntKind.i64.wrap ((Kn : Int) + 1) = (Kn : Int) + 1 by rw [IntKind.wrap_i64]; omega, IntKind.wrap_i64]; omega
  have HLn : Hid (XX.length + (z.conds L s (Kn + 1 + y.ifs)).length ≤ 1000) := by show _ ≤ _; rw [HXX.out, List.length_append, List.length_cons, conds_len, conds_len, conds_len]; have := HI.out; omega
  have HBz : Hid (Bfr L z.size) := HL.out.2.2.less (by show _ ≤ CT.size _; simp only [CT.size]; omega)
  have HLs : Hid (Lst w10 gb L) := HL.out.1.below j10
  go_upto_region 16 with fail
  have hSd : (fun w' : World => w'.cell? ⟨kg, 1, none⟩ = some (.slice (some ⟨b, o2, none⟩) l2 c2) ∧ w'.cell? ⟨kg, 2, none⟩ = some (.slice (some ⟨b, o3, none⟩) l3 c3)) w10.drew := ⟨y1, y2⟩
  have hbd : Below w10.heap.size w10 w10.drew := (Below.refl _ _).drew
  refine wp_region_T 99 (fun w' : World => w'.cell? ⟨kg, 1, none⟩ = some (.slice (some ⟨b, o2, none⟩) l2 c2) ∧ w'.cell? ⟨kg, 2, none⟩ = some (.slice (some ⟨b, o3, none⟩) l3 c3)) (by kernel_rfl) ?_
  refine anyT_takeN (i := 0) (v := ?vc0) rfl (by kernel_rfl) (by kernel_rfl) (by kernel_rfl) (by rfl) (fun _ _ _ h => h) (Or.inl ⟨by rfl, ?yc0⟩) hSd ?_
  case yc0 => (intro wz hSw; obtain ⟨hz0, hz1⟩ := hSw; go_simp; (try with_reducible rfl))
  try simp only [Act.put, List.getElem_toArray, List.getElem_cons_zero, List.getElem_cons_succ, List.setIfInBounds_toArray, List.set_cons_zero, List.set_cons_succ]
  refine anyT_takeN (i := 1) (v := ?vc1) rfl (by kernel_rfl) (by kernel_rfl) (by kernel_rfl) (by rfl) (fun _ _ _ h => h) (Or.inl ⟨by rfl, ?yc1⟩) hSd ?_
  case yc1 => (intro wz hSw; obtain ⟨hz0, hz1⟩ := hSw; go_simp; (try with_reducible rfl))
  try simp only [Act.put, List.getElem_toArray, List.getElem_cons_zero, List.getElem_cons_succ, List.setIfInBounds_toArray, List.set_cons_zero, List.set_cons_succ]
  refine anyT_takeN (i := 2) (v := ?vc2) rfl (by kernel_rfl) (by kernel_rfl) (by kernel_rfl) (by rfl) (fun _ _ _ h => h) (Or.inl ⟨by rfl, ?yc2⟩) hSd ?_
  case yc2 => (intro wz hSw; obtain ⟨hz0, hz1⟩ := hSw; go_simp; (try with_reducible rfl))
  try simp only [Act.put, List.getElem_toArray, List.getElem_cons_zero, List.getElem_cons_succ, List.setIfInBounds_toArray, List.set_cons_zero, List.set_cons_succ]
  refine anyT_takeN (i := 3) (v := ?vc3) rfl (by kernel_rfl) (by kernel_rfl) (by kernel_rfl) (by rfl) (fun _ _ _ h => h) (Or.inl ⟨by rfl, ?yc3⟩) hSd ?_
  case yc3 => (intro wz hSw; obtain ⟨hz0, hz1⟩ := hSw; go_simp; (try with_reducible rfl))
  try simp only [Act.put, List.getElem_toArray, List.getElem_cons_zero, List.getElem_cons_succ, List.setIfInBounds_toArray, List.set_cons_zero, List.set_cons_succ]
  refine anyT_takeN (i := 4) (v := ?vc4) rfl (by kernel_rfl) (by kernel_rfl) (by kernel_rfl) (by rfl) (fun _ _ _ h => h) (Or.inl ⟨by rfl, ?yc4⟩) hSd ?_
  case yc4 => (intro wz hSw; obtain ⟨hz0, hz1⟩ := hSw; go_simp; (try with_reducible rfl))
  try simp only [Act.put, List.getElem_toArray, List.getElem_cons_zero, List.getElem_cons_succ, List.setIfInBounds_toArray, List.set_cons_zero, List.set_cons_succ]
  refine anyT_takeN (i := 5) (v := ?vc5) rfl (by kernel_rfl) (by kernel_rfl) (by kernel_rfl) (by rfl) (fun _ _ _ h => h) (Or.inl ⟨by rfl, ?yc5⟩) hSd ?_
  case yc5 => (intro wz hSw; obtain ⟨hz0, hz1⟩ := hSw; go_simp; (try with_reducible rfl))
  try simp only [Act.put, List.getElem_toArray, List.getElem_cons_zero, List.getElem_cons_succ, List.setIfInBounds_toArray, List.set_cons_zero, List.set_cons_succ]
  refine anyT_takeN (i := 6) (v := ?vc6) rfl (by kernel_rfl) (by kernel_rfl) (by kernel_rfl) (by rfl) (fun _ _ _ h => h) (Or.inl ⟨by rfl, ?yc6⟩) hSd ?_
  case yc6 => (intro wz hSw; obtain ⟨hz0, hz1⟩ := hSw; go_simp; (try with_reducible rfl))
  try simp only [Act.put, List.getElem_toArray, List.getElem_cons_zero, List.getElem_cons_succ, List.setIfInBounds_toArray, List.set_cons_zero, List.set_cons_succ]
  refine anyT_takeN (i := 7) (v := ?vc7) rfl (by kernel_rfl) (by kernel_rfl) (by kernel_rfl) (by rfl) (fun _ _ _ h => h) (Or.inl ⟨by rfl, ?yc7⟩) hSd ?_
  case yc7 => (intro wz hSw; obtain ⟨hz0, hz1⟩ := hSw; go_simp; (try with_reducible rfl))
  try simp only [Act.put, List.getElem_toArray, List.getElem_cons_zero, List.getElem_cons_succ, List.setIfInBounds_toArray, List.set_cons_zero, List.set_cons_succ]
  refine anyT_takeN (i := 8) (v := ?vc8) rfl (by kernel_rfl) (by kernel_rfl) (by kernel_rfl) (by rfl) (fun _ _ _ h => h) (Or.inl ⟨by rfl, ?yc8⟩) hSd ?_
  case yc8 => (intro wz hSw; obtain ⟨hz0, hz1⟩ := hSw; go_simp; (try with_reducible rfl))
  try simp only [Act.put, List.getElem_toArray, List.getElem_cons_zero, List.getElem_cons_succ, List.setIfInBounds_toArray, List.set_cons_zero, List.set_cons_succ]
  refine anyT_takeN (i := 9) (v := ?vc9) rfl (by kernel_rfl) (by kernel_rfl) (by kernel_rfl) (by rfl) (fun _ _ _ h => h) (Or.inl ⟨by rfl, ?yc9⟩) hSd ?_
  case yc9 => (intro wz hSw; obtain ⟨hz0, hz1⟩ := hSw; go_simp; (try with_reducible rfl))
  try simp only [Act.put, List.getElem_toArray, List.getElem_cons_zero, List.getElem_cons_succ, List.setIfInBounds_toArray, List.set_cons_zero, List.set_cons_succ]
  refine anyT_takeN (i := 10) (v := ?vc10) rfl (by kernel_rfl) (by kernel_rfl) (by kernel_rfl) (by rfl) (fun _ _ _ h => h) (Or.inl ⟨by rfl, ?yc10⟩) hSd ?_
  case yc10 => (intro wz hSw; obtain ⟨hz0, hz1⟩ := hSw; go_simp; (try with_reducible rfl))
  try simp only [Act.put, List.getElem_toArray, List.getElem_cons_zero, List.getElem_cons_succ, List.setIfInBounds_toArray, List.set_cons_zero, List.set_cons_succ]
  refine anyT_one (i := 11) (by kernel_rfl) rfl (fun K hK => ?_)
  go_simp
  go_at_call 41
  refine (GkC.ifs_in HG2 j10 _ hbd).mono ?_
  rintro r v4 ⟨rfl, hv4⟩
  rw [hv4]
  clear hv4
  refine hK.out _ _ (.inr hSd) ?_
  clear hK
  try simp only [Act.put, List.getElem_toArray, List.getElem_cons_zero, List.getElem_cons_succ, List.setIfInBounds_toArray, List.set_cons_zero, List.set_cons_succ]
  refine anyT_takeN (i := 12) (v := ?vc12) rfl (by kernel_rfl) (by kernel_rfl) (by kernel_rfl) (by rfl) (fun _ _ _ h => h) (Or.inl ⟨by rfl, ?yc12⟩) hSd ?_
  case yc12 => (intro wz hSw; obtain ⟨hz0, hz1⟩ := hSw; go_simp; (try with_reducible rfl))
  try simp only [Act.put, List.getElem_toArray, List.getElem_cons_zero, List.getElem_cons_succ, List.setIfInBounds_toArray, List.set_cons_zero, List.set_cons_succ]
  refine anyT_one (i := 13) (by kernel_rfl) rfl (fun K hK => ?_)
  go_simp
  go_at_call 15
  refine (CkC.conds_in HC3 L s (Kn + 1 + y.ifs) gb nb cb _ HWr.out HF.out.2.2 HL.out.2.1 HBz.out _ (j10.trans (hbd.mono j10.size)) (HLs.out.below hbd)).mono ?_
  rintro r v5 ⟨g5, n5, p5, bs5, rfl, D5, hb5⟩
  have hB5 : Below w10.heap.size w10 v5 := hbd.trans (hb5.mono hbd.size)
  have hS5 : (fun w' : World => w'.cell? ⟨kg, 1, none⟩ = some (.slice (some ⟨b, o2, none⟩) l2 c2) ∧ w'.cell? ⟨kg, 2, none⟩ = some (.slice (some ⟨b, o3, none⟩) l3 c3)) v5 := ⟨by rw [hB5.cell (p := ⟨kg, 1, none⟩) hkw]; exact y1, by rw [hB5.cell (p := ⟨kg, 2, none⟩) hkw]; exact y2⟩
  have C5 := C10.out.move hB5
  have hkv : kg < v5.heap.size := by have := hB5.size; omega
  refine hK.out _ _ (.inr hS5) ?_
  clear hK
  try simp only [Act.put, List.getElem_toArray, List.getElem_cons_zero, List.getElem_cons_succ, List.setIfInBounds_toArray, List.set_cons_zero, List.set_cons_succ]
  refine anyT_one (i := 14) (by kernel_rfl) rfl (fun K hK => ?_)
  refine step_append_cds rfl _ _ rfl g10 n10 p10 g5 n5 p5 XX (z.conds L s (Kn + 1 + y.ifs)) bs10 bs5 rfl rfl C5 D5.out (by have h1 := x10.size; have h2 := hbd.size; omega) HLn.out ?_
  intro gz nz pz bsz vz Cz xz
  have hS6 : (fun w' : World => w'.cell? ⟨kg, 1, none⟩ = some (.slice (some ⟨b, o2, none⟩) l2 c2) ∧ w'.cell? ⟨kg, 2, none⟩ = some (.slice (some ⟨b, o3, none⟩) l3 c3)) vz := ⟨by rw [xz.cell (p := ⟨kg, 1, none⟩) hkw1, ← x10.cell (p := ⟨kg, 1, none⟩) hkw1]; exact y1, by rw [xz.cell (p := ⟨kg, 2, none⟩) hkw1, ← x10.cell (p := ⟨kg, 2, none⟩) hkw1]; exact y2⟩
  refine hK.out _ _ (.inr hS6) ?_
  clear hK
  try simp only [Act.put, List.getElem_toArray, List.getElem_cons_zero, List.getElem_cons_succ, List.setIfInBounds_toArray, List.set_cons_zero, List.set_cons_succ]
  refine anyT_one (i := 15) (by kernel_rfl) rfl (fun K hK => ?_)
  go_simp
  refine hK.out _ _ (.inr hS6) ?_
  clear hK
  try simp only [Act.put, List.getElem_toArray, List.getElem_cons_zero, List.getElem_cons_succ, List.setIfInBounds_toArray, List.set_cons_zero, List.set_cons_succ]
  refine anyT_done (by kernel_rfl) ?_
  have HE : Hid (XX ++ z.conds L s (Kn + 1 + y.ifs) = CT.conds (.cond e x y z) L s f) := by show _ = _; rw [HXX.out, HF.out.1]; simp [CT.conds]
  have HR : Hid (CoP (CT.conds (.cond e x y z) L s f) w (.returned (.slice (some ⟨gz, 0, none⟩) nz pz)) vz) := ⟨gz, nz, pz, bsz, rfl, by have := Cz.out.weak hb1; rw [HE.out] at this; exact this, hb1.trans (xz.mono s1)⟩
  clear Cz HE
  go_wp2_with fail
  go_ret
  exact HR.out
end Go.Proofs.Ytkbmdkgfgfbilaa

/-
  spec.l6Conds put together; spec.Compile.
-/
namespace Go.Proofs.Ytkbmdkgfgfbilaa
open Go.ChangeShapes Go.WideShapes Go.ChangeAt Go.RowKit Go.Deep
set_option linter.unusedVariables false
set_option linter.unusedSimpArgs false
set_option maxRecDepth 100000

theorem conds_of {n : Nat} (H : CoC n) : CoC (n + 1) := by
  intro w b o cap gb nb cb xs t L s f hn hn2 hf hW hT hL hnb hB
  obtain ⟨ks, e, rfl, hK, hal, hIs⟩ := hT.knd
  cases hK with
  | leaf _ hk => exact conds_leaf H w b o cap gb nb cb _ e _ L s f hn hn2 hf hW hT hal hIs hL hnb hB hk rfl rfl
  | chain _ h ha hb => exact conds_chain H w b o cap gb nb cb _ e _ L s f hn hn2 hf hW hT hal hIs hL hnb hB h ha hb rfl rfl
  | inter _ h ha hb => exact conds_inter H w b o cap gb nb cb _ e _ L s f hn hn2 hf hW hT hal hIs hL hnb hB h ha hb rfl rfl
  | cond _ h ha hb hc => exact conds_cond H w b o cap gb nb cb _ e _ L s f hn hn2 hf hW hT hal hIs hL hnb hB h ha hb hc rfl rfl
theorem conds_all : ∀ n, CoC n
  | 0 => fun w b o cap gb nb cb xs t L s f hn _ _ _ hT => by have := hT.part; cases this <;> simp at hn
  | n + 1 => conds_of (conds_all n)
/-- The code of a filter: the conditions' blocks and the main block, with distances. -/
def CmpOf (xs : List Nd) (X : List (List Ix)) (M : List Ix) : Prop := (¬ GoodF xs ∧ X = [] ∧ M = []) ∨ (GoodF xs ∧ ∃ t, TreeF xs t ∧ X = t.conds [] false 0 ∧ M = t.gen false 0)
theorem cmpOf_one {xs : List Nd} {X Y : List (List Ix)} {M N : List Ix} (h : CmpOf xs X M) (k : CmpOf xs Y N) : X = Y ∧ M = N := by
  rcases h with ⟨h1, rfl, rfl⟩ | ⟨h1, t, ht, rfl, rfl⟩
  · rcases k with ⟨_, rfl, rfl⟩ | ⟨k1, _⟩
    · exact ⟨rfl, rfl⟩
    · exact absurd k1 h1
  · rcases k with ⟨k1, _⟩ | ⟨_, u, hu, rfl, rfl⟩
    · exact absurd h1 k1
    · rw [treeF_one ht hu]; exact ⟨rfl, rfl⟩
theorem goodF_tree {xs : List Nd} (h : GoodF xs) : ∃ t, TreeF xs t := by
  obtain ⟨hl, s, hs, _⟩ := h
  exact treeF_ex (ShT.tree goodB hs)
/-- Code in memory. -/
structure CdU (w0 w : World) (cv mv : Value) (cnt : Int) (X : List (List Ix)) (M : List Ix) (bs : List Bk) : Prop where
  conds : Cds w0 w cv X bs
  main : RowX w w0.heap.size mv (absG 0 0 M)
  cnt : cnt = (cntL M : Nat)
def CmpU (xs : List Nd) (w : World) (r : Ending) (w' : World) : Prop := ∃ (a : Option Addr) (n c : Nat) (a' : Option Addr) (n' c' : Nat) (cnt : Int) (X : List (List Ix)) (M : List Ix) (bs : List Bk), r = .returned (.agg #[.slice a n c, .slice a' n' c', .int .i64 cnt]) ∧ CdU w w' (.slice a n c) (.slice a' n' c') cnt X M bs ∧ CmpOf xs X M
theorem cdU_nil (w0 w : World) (hb : Below w0.heap.size w0 w) : CdU w0 w (.slice none 0 0) (.slice none 0 0) 0 [] [] [] :=
  ⟨⟨rowB_nil _ _, (fun x hx => by cases hx), rfl, hb⟩, rowX_nil _ _, rfl⟩
/-- Three cells of the result stored. -/
theorem CdU.set {w0 w : World} {cv mv : Value} {cnt : Int} {X : List (List Ix)} {M : List Ix} {bs : List Bk} (h : CdU w0 w cv mv cnt X M bs) {base : Nat} (hc : ∀ k, cv.ownBlock = some k → base < k) (hm : ∀ k, mv.ownBlock = some k → base < k) (he : ∀ x ∈ bs, ∀ k, x.v.ownBlock = some k → base < k) (hb : w0.heap.size ≤ base) (j : Nat) (u : Value) :
    CdU w0 (w.setCell ⟨base, j, none⟩ u) cv mv cnt X M bs := by
  have hch : Chg (fun b => b = base) w (w.setCell ⟨base, j, none⟩ u) := Chg.of_set _ _ _ _ rfl
  exact ⟨⟨h.conds.row.chg hch (fun k hk q => by have := hc k hk; omega), fun x hx => (h.conds.each x hx).chg hch (fun k hk q => by have := he x hx k hk; omega), h.conds.view, below_set h.conds.below hb _ _⟩, h.main.chg hch (fun k hk q => by have := hm k hk; omega), h.cnt⟩
end Go.Proofs.Ytkbmdkgfgfbilaa

/-
  spec.Compile.
-/
namespace Go.Proofs.Ytkbmdkgfgfbilaa
open Go.ChangeShapes Go.WideShapes Go.ChangeAt Go.RowKit Go.Deep
set_option linter.unusedVariables false
set_option linter.unusedSimpArgs false
set_option maxRecDepth 100000

theorem CdU.weak {w0 w1 w : World} {cv mv : Value} {cnt : Int} {X : List (List Ix)} {M : List Ix} {bs : List Bk} (h : CdU w1 w cv mv cnt X M bs) (hb : Below w0.heap.size w0 w1) : CdU w0 w cv mv cnt X M bs := ⟨h.conds.weak hb, h.main.low hb.size, h.cnt⟩
/-- Stored into a result that lies below all of it. -/
theorem CdU.set3 {w0 w1 w : World} {cv mv : Value} {cnt : Int} {X : List (List Ix)} {M : List Ix} {bs : List Bk} (h : CdU w1 w cv mv cnt X M bs) (hb : Below w0.heap.size w0 w1) {p : Nat} (hp : w0.heap.size ≤ p) (hp1 : p < w1.heap.size) (a b c : Value) :
    CdU w0 (((w.setCell ⟨p, 0, none⟩ a).setCell ⟨p, 1, none⟩ b).setCell ⟨p, 2, none⟩ c) cv mv cnt X M bs := by
  have hc : ∀ k, cv.ownBlock = some k → p < k := fun k hk => by have := (h.conds.row.blk hk).1; omega
  have hm : ∀ k, mv.ownBlock = some k → p < k := fun k hk => by have := (h.main.blk hk).1; omega
  have he : ∀ x ∈ bs, ∀ k, x.v.ownBlock = some k → p < k := fun x hx k hk => by have := ((h.conds.each x hx).blk hk).1; omega
  exact (((h.weak hb).set hc hm he hp 0 a).set hc hm he hp 1 b).set hc hm he hp 2 c
set_option maxHeartbeats 8000000 in
theorem specCompile_core {w : World} {base g cp : Nat} {xs : List Nd} (h : OwnNd w base g cp xs) (hok : ∀ e ∈ xs, e.ok) (hc : cp ≤ 281474976710656) : Calls Try.prog 5 #[.agg #[.slice (some ⟨g, 0, none⟩) xs.length cp]] w (CmpU xs w) := by
  have HO : Hid (OwnNd w base g cp xs ∧ ∀ e ∈ xs, e.ok) := ⟨h, hok⟩
  have hgl := h.lt.2
  have hcp := h.caps
  obtain ⟨n, hn⟩ : ∃ n, n = xs.length := ⟨_, rfl⟩
  have HN : Hid (n = xs.length) := hn
  obtain ⟨W0, hW0⟩ : ∃ W0 : World, W0 = (w.alloc (Obj.cells #[.slice (some ⟨g, 0, none⟩) n cp] 35)).alloc (Obj.cells #[.slice none 0 0, .slice none 0 0, .int .i64 0] 31) := ⟨_, rfl⟩
  have hb0 : Below w.heap.size w W0 := by rw [hW0]; exact ((Below.refl _ _).alloc (Nat.le_refl _) _).alloc (by simp) _
  have hz0 : W0.heap.size = w.heap.size + 1 + 1 := by rw [hW0]; simp
  have HK : Hid (∀ wx, Below W0.heap.size W0 wx → wx.cell? ⟨w.heap.size, 0, none⟩ = some (.slice (some ⟨g, 0, none⟩) n cp) ∧ BoxAt wx (w.heap.size + 1) 31 3 (w.heap.size + 1) [.slice none 0 0, .slice none 0 0, .int .i64 0] ∧ OwnNd wx base g cp xs ∧ Below w.heap.size w wx ∧ w.heap.size + 2 ≤ wx.heap.size) := by
    intro wx hx
    refine ⟨?_, ?_, (HO.out.1.below hb0 hgl).below hx (by omega), hb0.trans (hx.mono (by omega)), by have := hx.size; omega⟩
    · rw [hx.cell (p := ⟨w.heap.size, 0, none⟩) (by show w.heap.size < _; omega), hW0]; simp [go_sem]
    · refine BoxAt.below ?_ hx
      rw [hW0]
      have z1 : (w.alloc (Obj.cells #[.slice (some ⟨g, 0, none⟩) n cp] 35)).heap.size = w.heap.size + 1 := by simp
      have hb2 := boxAt_new (w.alloc (Obj.cells #[.slice (some ⟨g, 0, none⟩) n cp] 35)) (base := w.heap.size + 1) (t := 31) (sz := 3) #[.slice none 0 0, .slice none 0 0, .int .i64 0] (by rw [z1]; exact Nat.le_refl _) rfl
      rw [z1] at hb2
      exact hb2
  have HF : Hid (Calls Try.prog 14 #[.agg #[.slice (some ⟨g, 0, none⟩) n cp]] W0 (FltPost xs W0)) := by
    rw [hn]; exact specFilter_core (HK.out W0 (Below.refl _ _)).2.2.1 hok hc
  rw [← hn]
  clear h hok hn
  have c0 := (HK.out W0 (Below.refl _ _)).1
  go_enter Try.func5, Try.ntmps5
  go_upto_region 1 with fail
  rw [← hW0]
  clear hW0
  go_wp2_with fail
  refine HF.out.mono ?_
  rintro e w1 ⟨r, rfl, hr, hb1⟩
  have HR : Hid (r = true ↔ GoodF xs) := hr
  have HK1 : Hid (BoxAt w1 (w.heap.size + 1) 31 3 (w.heap.size + 1) [.slice none 0 0, .slice none 0 0, .int .i64 0] ∧ Below w.heap.size w w1 ∧ w.heap.size + 2 ≤ w1.heap.size) := ⟨(HK.out w1 hb1).2.1, (HK.out w1 hb1).2.2.2.1, (HK.out w1 hb1).2.2.2.2⟩
  clear hr c0 HF
  have c0 := (HK.out w1 hb1).1
  cases r
  case false =>
    have f0 := HK1.out.1.cell (j := 0) rfl
    have f1 := HK1.out.1.cell (j := 1) rfl
    have f2 := HK1.out.1.cell (j := 2) rfl
    have z0 := HK1.out.1.frozen 0
    have z1 := HK1.out.1.frozen 1
    have z2 := HK1.out.1.frozen 2
    have HG : Hid (CmpU xs w (.returned (.agg #[.slice none 0 0, .slice none 0 0, .int .i64 0])) (((w1.setCell ⟨w.heap.size + 1, 0, none⟩ (.slice none 0 0)).setCell ⟨w.heap.size + 1, 1, none⟩ (.slice none 0 0)).setCell ⟨w.heap.size + 1, 2, none⟩ (.int .i64 0))) :=
      ⟨_, _, _, _, _, _, _, [], [], [], rfl, cdU_nil w _ (below_set (below_set (below_set HK1.out.2.1 (by omega) _ _) (by omega) _ _) (by omega) _ _), .inl ⟨fun q => Bool.noConfusion (HR.out.2 q), rfl, rfl⟩⟩
    have HB : Hid (BoxAt (((w1.setCell ⟨w.heap.size + 1, 0, none⟩ (.slice none 0 0)).setCell ⟨w.heap.size + 1, 1, none⟩ (.slice none 0 0)).setCell ⟨w.heap.size + 1, 2, none⟩ (.int .i64 0)) (w.heap.size + 1) 31 3 (w.heap.size + 1) [.slice none 0 0, .slice none 0 0, .int .i64 0]) := ((HK1.out.1.set 0 _).set 1 _).set 2 _
    go_wp2_with fail
    have e0 := HB.out.cell (j := 0) rfl
    have e1 := HB.out.cell (j := 1) rfl
    have e2 := HB.out.cell (j := 2) rfl
    exact bodyPost_ret (v := .agg #[.slice none 0 0, .slice none 0 0, .int .i64 0]) (by simp [results, Try.results5, go_sem, e0, e1, e2]) rfl HG.out
  case true =>
  have hG : GoodF xs := HR.out.1 rfl
  obtain ⟨t, ht⟩ := goodF_tree hG
  have HT : Hid (GoodF xs ∧ TreeF xs t ∧ Win w1 g 0 cp xs) := ⟨hG, ht, ⟨by have := (HK.out w1 hb1).2.2.1.at; exact this, (HK.out w1 hb1).2.2.1.lt.2, (HK.out w1 hb1).2.2.1.caps.1, hc⟩⟩
  clear hG ht
  obtain ⟨V1, hV1⟩ : ∃ V1 : World, V1 = (w1.alloc (Obj.cells #[] 77)).drew := ⟨_, rfl⟩
  have hbV : Below w1.heap.size w1 V1 := by rw [hV1]; exact ((Below.refl _ _).alloc (Nat.le_refl _) _).drew
  obtain ⟨G1, hG1⟩ : ∃ G1, G1 = w1.heap.size := ⟨_, rfl⟩
  have HL : Hid (Lst V1 G1 []) := ⟨fun i e he => by simp at he, by rw [hV1, hG1]; simp⟩
  have HCC : Hid (Calls Try.prog 15 #[.slice (some ⟨g, 0, none⟩) n cp, .slice (some ⟨G1, 0, none⟩) 0 0, .bool false, .int .i64 0] V1 (CoP (t.conds [] false 0) V1)) := by
    rw [HN.out]
    refine conds_all _ V1 g 0 cp G1 0 0 xs t [] false 0 (Nat.le_refl _) HT.out.1.1 (by have := HT.out.1.1; omega) (HT.out.2.2.below hbV) HT.out.2.1 HL.out rfl ⟨?_, fun x hx => by cases hx⟩
    rw [HT.out.2.1.size]; have := HT.out.1.1; simp; omega
  have hSd : (fun w' : World => w'.cell? ⟨w.heap.size, 0, none⟩ = some (.slice (some ⟨g, 0, none⟩) n cp)) w1.drew := c0
  go_upto_region 3 with fail
  refine wp_region_T 99 (fun w' : World => w'.cell? ⟨w.heap.size, 0, none⟩ = some (.slice (some ⟨g, 0, none⟩) n cp)) (by kernel_rfl) ?_
  refine anyT_takeN (i := 0) (v := ?vs0) rfl (by kernel_rfl) (by kernel_rfl) (by kernel_rfl) (by rfl) (fun _ _ _ h => h) (Or.inl ⟨by rfl, ?ys0⟩) hSd ?_
  case ys0 => (intro wz hSw; (try dsimp only at hSw); go_simp; (try with_reducible rfl))
  try simp only [Act.put, List.getElem_toArray, List.getElem_cons_zero, List.getElem_cons_succ, List.setIfInBounds_toArray, List.set_cons_zero, List.set_cons_succ]
  refine anyT_takeN (i := 1) (v := ?vs1) rfl (by kernel_rfl) (by kernel_rfl) (by kernel_rfl) (by rfl) (fun _ _ _ h => h) (Or.inl ⟨by rfl, ?ys1⟩) hSd ?_
  case ys1 => (intro wz hSw; (try dsimp only at hSw); go_simp; (try with_reducible rfl))
  try simp only [Act.put, List.getElem_toArray, List.getElem_cons_zero, List.getElem_cons_succ, List.setIfInBounds_toArray, List.set_cons_zero, List.set_cons_succ]
  refine anyT_takeN (i := 4) (v := ?vs4) rfl (by kernel_rfl) (by kernel_rfl) (by kernel_rfl) (by rfl) (fun _ _ _ h => h) (Or.inl ⟨by rfl, ?ys4⟩) hSd ?_
  case ys4 => (intro wz hSw; (try dsimp only at hSw); go_simp; (try with_reducible rfl))
  try simp only [Act.put, List.getElem_toArray, List.getElem_cons_zero, List.getElem_cons_succ, List.setIfInBounds_toArray, List.set_cons_zero, List.set_cons_succ]
  refine anyT_takeN (i := 5) (v := ?vs5) rfl (by kernel_rfl) (by kernel_rfl) (by kernel_rfl) (by rfl) (fun _ _ _ h => h) (Or.inl ⟨by rfl, ?ys5⟩) hSd ?_
  case ys5 => (intro wz hSw; (try dsimp only at hSw); go_simp; (try with_reducible rfl))
  try simp only [Act.put, List.getElem_toArray, List.getElem_cons_zero, List.getElem_cons_succ, List.setIfInBounds_toArray, List.set_cons_zero, List.set_cons_succ]
  refine anyT_one (i := 2) (by kernel_rfl) rfl (fun K hK => ?_)
  go_simp
  rw [← hV1, ← hG1]
  have hk1 : Below W0.heap.size W0 V1 := hb1.trans (hbV.mono hb1.size)
  have d0 : V1.cell? ⟨w.heap.size, 0, none⟩ = some (.slice (some ⟨g, 0, none⟩) n cp) := (HK.out V1 hk1).1
  clear hV1 hG1
  refine hK.out _ _ (.inr d0) ?_
  clear hK
  try simp only [Act.put, List.getElem_toArray, List.getElem_cons_zero, List.getElem_cons_succ, List.setIfInBounds_toArray, List.set_cons_zero, List.set_cons_succ]
  refine anyT_one (i := 3) (by kernel_rfl) rfl (fun K hK => ?_)
  go_simp
  go_at_call 15
  refine HCC.out.mono ?_
  rintro r v2 ⟨g2, n2, p2, bs2, rfl, D2, hb2⟩
  have hk2 : Below W0.heap.size W0 v2 := hk1.trans (hb2.mono hk1.size)
  have d2 : v2.cell? ⟨w.heap.size, 0, none⟩ = some (.slice (some ⟨g, 0, none⟩) n cp) := (HK.out v2 hk2).1
  have HGe : Hid (Calls Try.prog 17 #[.slice (some ⟨g, 0, none⟩) n cp, .bool false, .int .i64 0] v2 (GeP (t.gen false 0) v2)) := by
    rw [HN.out]
    exact gen_all _ v2 g 0 cp xs t false 0 (Nat.le_refl _) HT.out.1.1 (by have := HT.out.1.1; omega) ((HT.out.2.2.below hbV).below hb2) HT.out.2.1
  refine hK.out _ _ (.inr d2) ?_
  clear hK
  try simp only [Act.put, List.getElem_toArray, List.getElem_cons_zero, List.getElem_cons_succ, List.setIfInBounds_toArray, List.set_cons_zero, List.set_cons_succ]
  refine anyT_one (i := 6) (by kernel_rfl) rfl (fun K hK => ?_)
  go_simp
  go_at_call 17
  refine HGe.out.mono ?_
  rintro r v3 ⟨g3, p3, rfl, hO3, hb3⟩
  obtain ⟨n3, hn3⟩ : ∃ n3, n3 = (t.gen false 0).length := ⟨_, rfl⟩
  rw [← hn3]
  have HBk : Hid (Calls Try.prog 16 #[.slice (some ⟨g3, 0, none⟩) n3 p3] v3 (BlP (t.gen false 0) v3)) := by
    have h1 := gen_len t false 0
    have h2 := HT.out.2.1.size
    have h3 := HT.out.1.1
    exact l6Block_core hO3.lst (by omega) (fun x hx => by have := gen_bd t false 0 x hx; omega) hn3
  have hk3 : Below W0.heap.size W0 v3 := hk2.trans (hb3.mono hk2.size)
  have d3 : v3.cell? ⟨w.heap.size, 0, none⟩ = some (.slice (some ⟨g, 0, none⟩) n cp) := (HK.out v3 hk3).1
  clear hO3 hn3 HGe
  refine hK.out _ _ (.inr d3) ?_
  clear hK
  try simp only [Act.put, List.getElem_toArray, List.getElem_cons_zero, List.getElem_cons_succ, List.setIfInBounds_toArray, List.set_cons_zero, List.set_cons_succ]
  refine anyT_one (i := 7) (by kernel_rfl) rfl (fun K hK => ?_)
  go_simp
  go_at_call 16
  refine HBk.out.mono ?_
  rintro r v4 ⟨mv, rfl, hR4, hb4⟩
  have hk4 : Below W0.heap.size W0 v4 := hk3.trans (hb4.mono hk3.size)
  have d4 : v4.cell? ⟨w.heap.size, 0, none⟩ = some (.slice (some ⟨g, 0, none⟩) n cp) := (HK.out v4 hk4).1
  obtain ⟨ma, mc, hmv⟩ := hR4.slice
  obtain ⟨mn, hmn⟩ : ∃ mn, mn = (absG 0 0 (t.gen false 0)).length := ⟨_, rfl⟩
  rw [← hmn] at hmv
  subst hmv
  obtain ⟨ct, hct⟩ : ∃ ct : Int, ct = ((cntL (t.gen false 0) : Nat) : Int) := ⟨_, rfl⟩
  rw [← hct]
  have HU : Hid (CdU V1 v4 (.slice (some ⟨g2, 0, none⟩) n2 p2) (.slice ma mn mc) ct (t.conds [] false 0) (t.gen false 0) bs2) :=
    ⟨(D2.out.move hb3).move hb4, hR4.low (by have := hb2.size; have := hb3.size; omega), hct⟩
  have HB4 : Hid (BoxAt v4 (w.heap.size + 1) 31 3 (w.heap.size + 1) [.slice none 0 0, .slice none 0 0, .int .i64 0]) := (HK.out v4 hk4).2.1
  have kV : Hid (Below w.heap.size w V1 ∧ w.heap.size + 1 < V1.heap.size) := ⟨(HK.out V1 hk1).2.2.2.1, by have := (HK.out V1 hk1).2.2.2.2; omega⟩
  clear hct hmn hR4 HBk HCC d0 d2 d3
  refine hK.out _ _ (.inr d4) ?_
  clear hK
  try simp only [Act.put, List.getElem_toArray, List.getElem_cons_zero, List.getElem_cons_succ, List.setIfInBounds_toArray, List.set_cons_zero, List.set_cons_succ]
  refine anyT_takeN (i := 8) (v := ?vs8) rfl (by kernel_rfl) (by kernel_rfl) (by kernel_rfl) (by rfl) (fun _ _ _ h => h) (Or.inl ⟨by rfl, ?ys8⟩) d4 ?_
  case ys8 => (intro wz hSw; (try dsimp only at hSw); go_simp; (try with_reducible rfl))
  try simp only [Act.put, List.getElem_toArray, List.getElem_cons_zero, List.getElem_cons_succ, List.setIfInBounds_toArray, List.set_cons_zero, List.set_cons_succ]
  have f0 := HB4.out.cell (j := 0) rfl
  have f1 := HB4.out.cell (j := 1) rfl
  have f2 := HB4.out.cell (j := 2) rfl
  have z0 := HB4.out.frozen 0
  have z1 := HB4.out.frozen 1
  have z2 := HB4.out.frozen 2
  have HG : Hid (CmpU xs w (.returned (.agg #[.slice (some ⟨g2, 0, none⟩) n2 p2, .slice ma mn mc, .int .i64 ct])) (((v4.setCell ⟨w.heap.size + 1, 0, none⟩ (.slice (some ⟨g2, 0, none⟩) n2 p2)).setCell ⟨w.heap.size + 1, 1, none⟩ (.slice ma mn mc)).setCell ⟨w.heap.size + 1, 2, none⟩ (.int .i64 ct))) :=
    ⟨_, _, _, _, _, _, _, _, _, _, rfl, HU.out.set3 kV.out.1 (by omega) kV.out.2 _ _ _, .inr ⟨HT.out.1, t, HT.out.2.1, rfl, rfl⟩⟩
  have HB : Hid (BoxAt (((v4.setCell ⟨w.heap.size + 1, 0, none⟩ (.slice (some ⟨g2, 0, none⟩) n2 p2)).setCell ⟨w.heap.size + 1, 1, none⟩ (.slice ma mn mc)).setCell ⟨w.heap.size + 1, 2, none⟩ (.int .i64 ct)) (w.heap.size + 1) 31 3 (w.heap.size + 1) [.slice (some ⟨g2, 0, none⟩) n2 p2, .slice ma mn mc, .int .i64 ct]) := ((HB4.out.set 0 _).set 1 _).set 2 _
  have d5 : (((v4.setCell ⟨w.heap.size + 1, 0, none⟩ (.slice (some ⟨g2, 0, none⟩) n2 p2)).setCell ⟨w.heap.size + 1, 1, none⟩ (.slice ma mn mc)).setCell ⟨w.heap.size + 1, 2, none⟩ (.int .i64 ct)).cell? ⟨w.heap.size, 0, none⟩ = some (.slice (some ⟨g, 0, none⟩) n cp) := by
    rw [World.cell?_of_block (w := v4)]
    · exact d4
    · have h9 := (((Chg.of_set (S := fun b => b = w.heap.size + 1) v4 (w.heap.size + 1) 0 (.slice (some ⟨g2, 0, none⟩) n2 p2) rfl).trans (Chg.of_set (S := fun b => b = w.heap.size + 1) _ (w.heap.size + 1) 1 (.slice ma mn mc) rfl)).trans (Chg.of_set (S := fun b => b = w.heap.size + 1) _ (w.heap.size + 1) 2 (.int .i64 ct) rfl)).block w.heap.size (by have := hk4.size; omega) (by omega)
      exact h9
  have D5 : Hid ((((v4.setCell ⟨w.heap.size + 1, 0, none⟩ (.slice (some ⟨g2, 0, none⟩) n2 p2)).setCell ⟨w.heap.size + 1, 1, none⟩ (.slice ma mn mc)).setCell ⟨w.heap.size + 1, 2, none⟩ (.int .i64 ct)).cell? ⟨w.heap.size, 0, none⟩ = some (.slice (some ⟨g, 0, none⟩) n cp)) := d5
  clear d5
  refine anyT_one (i := 9) (by kernel_rfl) rfl (fun K hK => ?_)
  go_simp
  refine hK.out _ _ (.inr D5.out) ?_
  clear hK
  try simp only [Act.put, List.getElem_toArray, List.getElem_cons_zero, List.getElem_cons_succ, List.setIfInBounds_toArray, List.set_cons_zero, List.set_cons_succ]
  refine anyT_done (by kernel_rfl) ?_
  go_wp2_with fail
  have e0 := HB.out.cell (j := 0) rfl
  have e1 := HB.out.cell (j := 1) rfl
  have e2 := HB.out.cell (j := 2) rfl
  exact bodyPost_ret (v := .agg #[.slice (some ⟨g2, 0, none⟩) n2 p2, .slice ma mn mc, .int .i64 ct]) (by simp [results, Try.results5, go_sem, e0, e1, e2]) rfl HG.out
end Go.Proofs.Ytkbmdkgfgfbilaa

