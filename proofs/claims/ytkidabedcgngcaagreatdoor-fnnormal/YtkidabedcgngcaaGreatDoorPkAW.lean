import Derived.Test.YtkidabedcgngcaaGreatDoorPkAV
import Derived.Test.YtkidabedcgngcaaGreatDoorPkAE
import Derived.Test.YtkidabedcgngcaaGreatDoorPkAH
import Derived.Test.YtkidabedcgngcaaGreatDoorPkAB
import Derived.Test.YtkidabedcgngcaaGreatDoorPkAU
import Derived.Test.YtkidabedcgngcaaGreatDoorPkAF
import Derived.Test.YtkidabedcgngcaaGreatDoorPkAG
/-
  spec.l5Mean.
-/
namespace Go.Proofs.YtkidabedcgngcaaGreatDoor
open Go.ChangeShapes Go.WideShapes Go.ChangeAt Go.RowKit Go.Deep
set_option linter.unusedVariables false
set_option linter.unusedSimpArgs false
set_option maxRecDepth 100000

def MeP (t : CT) (es : List Ent) (w : World) (e : Ending) (w' : World) : Prop := ∃ g cp, e = .returned (.slice (some ⟨g, 0, none⟩) (mean t es).length cp) ∧ Hid (OwnC w' w.heap.size g cp (mean t es) ∧ Below w.heap.size w w')
def MeC (m : Nat) : Prop := ∀ (w : World) (b o cap : Nat) (xs : List Nd) (t : CT) (rb ro rc : Nat) (es : List Ent), xs.length ≤ m → Win w b o cap xs → TreeF xs t → (∀ x ∈ xs, x.s.size ≤ maxLen) → CSl w rb ro rc es → Sub es es → es.length ≤ 10000 →
  Calls Tryz.prog 54 #[.slice (some ⟨b, o, none⟩) xs.length cap, .slice (some ⟨rb, ro, none⟩) es.length rc] w (MeP t es w)
theorem treeF_isT {xs : List Nd} {t : CT} (h : TreeF xs t) : IsT 1 xs := by
  have := TrV.tree _ h
  exact this
/-- One operand. -/
structure KidC (m : Nat) (w : World) (v : Value) (t : CT) : Prop where
  call : ∀ (wx : World) (rb ro rc : Nat) (es : List Ent), Below w.heap.size w wx → CSl wx rb ro rc es → Sub es es → es.length ≤ 10000 → Calls Tryz.prog 54 #[v, .slice (some ⟨rb, ro, none⟩) es.length rc] wx (MeP t es wx)
theorem kidC_of {m : Nat} (H : MeC m) {w : World} {b o cap : Nat} {xs : List Nd} {t : CT} (hm : xs.length ≤ m) (hW : Win w b o cap xs) (hT : TreeF xs t) (hs : ∀ x ∈ xs, x.s.size ≤ maxLen) : KidC m w (.slice (some ⟨b, o, none⟩) xs.length cap) t :=
  ⟨fun wx rb ro rc es hb hC hS hl => H wx b o cap xs t rb ro rc es hm (hW.below hb) hT hs hC hS hl⟩
set_option maxHeartbeats 4000000 in
theorem mean_chain {m : Nat} (H : MeC m) (n : Nd) (w : World) (b o cap rb ro rc : Nat) (es : List Ent) {ta tb : CT} {ka kb : List Nd} (hk : n.kind = 14) (ha : TreeF ka ta) (hb : TreeF kb tb) (hm : (ka ++ kb ++ [n]).length ≤ m + 1) (hW : Win w b o cap (ka ++ kb ++ [n])) (hsz : ∀ x ∈ ka ++ kb ++ [n], x.s.size ≤ maxLen) (hC : CSl w rb ro rc es) (hS : Sub es es) (hel : es.length ≤ 10000) :
    Calls Tryz.prog 54 #[.slice (some ⟨b, o, none⟩) (ka ++ kb ++ [n]).length cap, .slice (some ⟨rb, ro, none⟩) es.length rc] w (MeP (.chain n ta tb) es w) := by
  have e0 : ka ++ kb ++ [n] = ([ka, kb] : List (List Nd)).flatten ++ [n] := by simp
  rw [e0] at hW hm hsz ⊢
  have HKs : Hid (Calls Tryz.prog 91 #[.slice (some ⟨b, o, none⟩) (([ka, kb] : List (List Nd)).flatten.length + 1) cap] w fun r w' => ∃ g cp, r = .returned (.slice (some ⟨g, 0, none⟩) 2 cp) ∧ OwnV w' w.heap.size g cp (kidVs b o cap [ka, kb]) ∧ Below w.heap.size w w') :=
    l5Kids_core hW (by show 2 = arity n.kind; rw [hk]; rfl) (by
      intro k hkm
      simp only [List.mem_cons, List.not_mem_nil, or_false] at hkm
      rcases hkm with rfl | rfl
      · exact treeF_isT ha
      · exact treeF_isT hb)
  have HTp : Hid (∀ wx, Below w.heap.size w wx → Calls Tryz.prog 90 #[.slice (some ⟨b, o, none⟩) (([ka, kb] : List (List Nd)).flatten.length + 1) cap] wx fun r w' => r = .returned (.int .i64 n.kind) ∧ w' = wx) := fun wx hx => l5Top_core (hW.below hx)
  obtain ⟨o0, cap0, hv0, hW0⟩ := kidVs_nth hW (j := 0) (k := ka) rfl
  have g0 : ka.length ≤ ([ka, kb] : List (List Nd)).flatten.length := by simp only [List.flatten_cons, List.flatten_nil, List.length_append, List.length_nil]; omega
  have gm0 : ka.length ≤ m := by have h9 := hm; rw [List.length_append, List.length_singleton] at h9; omega
  have HK0 : Hid (KidC m w (.slice (some ⟨b, o0, none⟩) ka.length cap0) ta) := kidC_of H gm0 hW0 ha (fun x hx => hsz x (by simp [hx]))
  have hkl0 : ka.length ≤ cap := by have h9 := hW.len; rw [List.length_append, List.length_singleton] at h9; omega
  obtain ⟨l0, hl0⟩ : ∃ l, l = ka.length := ⟨_, rfl⟩
  rw [← hl0] at HK0 hv0 hkl0
  clear g0 gm0
  obtain ⟨o1, cap1, hv1, hW1⟩ := kidVs_nth hW (j := 1) (k := kb) rfl
  have g1 : kb.length ≤ ([ka, kb] : List (List Nd)).flatten.length := by simp only [List.flatten_cons, List.flatten_nil, List.length_append, List.length_nil]; omega
  have gm1 : kb.length ≤ m := by have h9 := hm; rw [List.length_append, List.length_singleton] at h9; omega
  have HK1 : Hid (KidC m w (.slice (some ⟨b, o1, none⟩) kb.length cap1) tb) := kidC_of H gm1 hW1 hb (fun x hx => hsz x (by simp [hx]))
  have hkl1 : kb.length ≤ cap := by have h9 := hW.len; rw [List.length_append, List.length_singleton] at h9; omega
  obtain ⟨l1, hl1⟩ : ∃ l, l = kb.length := ⟨_, rfl⟩
  rw [← hl1] at HK1 hv1 hkl1
  clear g1 gm1
  rw [List.length_append, List.length_singleton]
  obtain ⟨L, hL⟩ : ∃ L, L = ([ka, kb] : List (List Nd)).flatten.length := ⟨_, rfl⟩
  rw [← hL] at HKs HTp ⊢
  have hcp := hW.cap
  have hLc : L + 1 ≤ cap := by have h9 := hW.len; rw [List.length_append, List.length_singleton] at h9; omega
  obtain ⟨kd, hkd⟩ : ∃ kd, kd = n.kind := ⟨_, rfl⟩
  rw [← hkd] at hk HTp
  subst hk
  have HR : Hid (CSl w rb ro rc es ∧ Sub es es ∧ es.length ≤ 10000) := ⟨hC, hS, hel⟩
  obtain ⟨N, hN⟩ : ∃ N, N = es.length := ⟨_, rfl⟩
  have HNl : Hid (N = es.length) := hN
  rw [← hN]
  clear hW hm hsz e0 hL hW0 hl0 hW1 hl1 hC hS hel hN
  go_enter Tryz.func54, Tryz.ntmps54
  go_wp2_with fail
  refine HKs.out.mono ?_
  rintro r w1 ⟨g, cp, rfl, hO, hb1⟩
  have HO1 : Hid (OwnV w1 w.heap.size g cp (kidVs b o cap [ka, kb]) ∧ Below w.heap.size w w1) := ⟨hO, hb1⟩
  have HT1 := HTp.out w1 hb1
  have HTp1 : Hid (Calls Tryz.prog 90 #[.slice (some ⟨b, o, none⟩) (L + 1) cap] w1 fun r w' => r = .returned (.int .i64 14) ∧ w' = w1) := HT1
  clear HKs HT1 HTp hb1
  go_wp2_with fail
  refine HTp1.out.mono ?_
  rintro r w2 ⟨rfl, hw2⟩
  rw [hw2]
  clear hw2 HTp1
  have x0 : w1.cell? ⟨g, 0, none⟩ = some (.slice (some ⟨b, o0, none⟩) l0 cap0) := hO.cell hv0
  have x1 : w1.cell? ⟨g, 1, none⟩ = some (.slice (some ⟨b, o1, none⟩) l1 cap1) := hO.cell hv1
  have hgl := hO.lt.2
  clear hO hv0 hv1
  have hS0 : (fun w' : World => w'.cell? ⟨g, 0, none⟩ = some (.slice (some ⟨b, o0, none⟩) l0 cap0) ∧ w'.cell? ⟨g, 1, none⟩ = some (.slice (some ⟨b, o1, none⟩) l1 cap1)) w1.drew := ⟨x0, x1⟩
  have hd1 : Below w1.heap.size w1 w1.drew := (Below.refl _ _).drew
  have HBd : Hid (Below w.heap.size w w1.drew) := HO1.out.2.trans (hd1.mono HO1.out.2.size)
  have HC0 : Hid (Calls Tryz.prog 54 #[.slice (some ⟨b, o0, none⟩) l0 cap0, .slice (some ⟨rb, ro, none⟩) N rc] w1.drew (MeP ta es w1.drew)) := by
    rw [HNl.out]; exact HK0.out.call w1.drew rb ro rc es HBd.out (HR.out.1.below HBd.out) HR.out.2.1 HR.out.2.2
  go_upto_region 4 with fail
  refine wp_region_T 99 (fun w' : World => w'.cell? ⟨g, 0, none⟩ = some (.slice (some ⟨b, o0, none⟩) l0 cap0) ∧ w'.cell? ⟨g, 1, none⟩ = some (.slice (some ⟨b, o1, none⟩) l1 cap1)) (by kernel_rfl) ?_
  refine anyT_takeN (i := 0) (v := ?vmc0) rfl (by kernel_rfl) (by kernel_rfl) (by kernel_rfl) (by rfl) (fun _ _ _ h => h) (Or.inl ⟨by rfl, ?ymc0⟩) hS0 ?_
  case ymc0 => (intro wz hSw; obtain ⟨hz0, hz1⟩ := hSw; go_simp; (try with_reducible rfl))
  try simp only [Act.put, List.getElem_toArray, List.getElem_cons_zero, List.getElem_cons_succ, List.setIfInBounds_toArray, List.set_cons_zero, List.set_cons_succ]
  refine anyT_takeN (i := 1) (v := ?vmc1) rfl (by kernel_rfl) (by kernel_rfl) (by kernel_rfl) (by rfl) (fun _ _ _ h => h) (Or.inl ⟨by rfl, ?ymc1⟩) hS0 ?_
  case ymc1 => (intro wz hSw; obtain ⟨hz0, hz1⟩ := hSw; go_simp; (try with_reducible rfl))
  try simp only [Act.put, List.getElem_toArray, List.getElem_cons_zero, List.getElem_cons_succ, List.setIfInBounds_toArray, List.set_cons_zero, List.set_cons_succ]
  refine anyT_takeN (i := 2) (v := ?vmc2) rfl (by kernel_rfl) (by kernel_rfl) (by kernel_rfl) (by rfl) (fun _ _ _ h => h) (Or.inl ⟨by rfl, ?ymc2⟩) hS0 ?_
  case ymc2 => (intro wz hSw; obtain ⟨hz0, hz1⟩ := hSw; go_simp; (try with_reducible rfl))
  try simp only [Act.put, List.getElem_toArray, List.getElem_cons_zero, List.getElem_cons_succ, List.setIfInBounds_toArray, List.set_cons_zero, List.set_cons_succ]
  refine anyT_takeN (i := 3) (v := ?vmc3) rfl (by kernel_rfl) (by kernel_rfl) (by kernel_rfl) (by rfl) (fun _ _ _ h => h) (Or.inl ⟨by rfl, ?ymc3⟩) hS0 ?_
  case ymc3 => (intro wz hSw; obtain ⟨hz0, hz1⟩ := hSw; go_simp; (try with_reducible rfl))
  try simp only [Act.put, List.getElem_toArray, List.getElem_cons_zero, List.getElem_cons_succ, List.setIfInBounds_toArray, List.set_cons_zero, List.set_cons_succ]
  refine anyT_takeN (i := 4) (v := ?vmc4) rfl (by kernel_rfl) (by kernel_rfl) (by kernel_rfl) (by rfl) (fun _ _ _ h => h) (Or.inl ⟨by rfl, ?ymc4⟩) hS0 ?_
  case ymc4 => (intro wz hSw; obtain ⟨hz0, hz1⟩ := hSw; go_simp; (try with_reducible rfl))
  try simp only [Act.put, List.getElem_toArray, List.getElem_cons_zero, List.getElem_cons_succ, List.setIfInBounds_toArray, List.set_cons_zero, List.set_cons_succ]
  refine anyT_takeN (i := 5) (v := ?vmc5) rfl (by kernel_rfl) (by kernel_rfl) (by kernel_rfl) (by rfl) (fun _ _ _ h => h) (Or.inl ⟨by rfl, ?ymc5⟩) hS0 ?_
  case ymc5 => (intro wz hSw; obtain ⟨hz0, hz1⟩ := hSw; go_simp; (try with_reducible rfl))
  try simp only [Act.put, List.getElem_toArray, List.getElem_cons_zero, List.getElem_cons_succ, List.setIfInBounds_toArray, List.set_cons_zero, List.set_cons_succ]
  refine anyT_takeN (i := 6) (v := ?vmc6) rfl (by kernel_rfl) (by kernel_rfl) (by kernel_rfl) (by rfl) (fun _ _ _ h => h) (Or.inl ⟨by rfl, ?ymc6⟩) hS0 ?_
  case ymc6 => (intro wz hSw; obtain ⟨hz0, hz1⟩ := hSw; go_simp; (try with_reducible rfl))
  try simp only [Act.put, List.getElem_toArray, List.getElem_cons_zero, List.getElem_cons_succ, List.setIfInBounds_toArray, List.set_cons_zero, List.set_cons_succ]
  refine anyT_one (i := 7) (by kernel_rfl) rfl (fun K hK => ?_)
  go_simp
  go_at_call 54
  refine HC0.out.mono ?_
  rintro e w3 ⟨g3, cp3, rfl, H3⟩
  have hb3 : Below w1.heap.size w1 w3 := hd1.trans H3.out.2
  have hS3 : (fun w' : World => w'.cell? ⟨g, 0, none⟩ = some (.slice (some ⟨b, o0, none⟩) l0 cap0) ∧ w'.cell? ⟨g, 1, none⟩ = some (.slice (some ⟨b, o1, none⟩) l1 cap1)) w3 := ⟨by rw [(Chg.of_below hb3 (S := fun _ => False)).cell (p := ⟨g, 0, none⟩) hgl (fun q => q)]; exact x0, by rw [(Chg.of_below hb3 (S := fun _ => False)).cell (p := ⟨g, 1, none⟩) hgl (fun q => q)]; exact x1⟩
  have HB3 : Hid (Below w.heap.size w w3) := HO1.out.2.trans (hb3.mono HO1.out.2.size)
  have hsb := mean_sub ta HR.out.2.1
  have HC1 : Hid (Calls Tryz.prog 54 #[.slice (some ⟨b, o1, none⟩) l1 cap1, .slice (some ⟨g3, 0, none⟩) (mean ta es).length cp3] w3 (MeP tb (mean ta es) w3)) := HK1.out.call w3 g3 0 cp3 (mean ta es) HB3.out H3.out.1.sl hsb.self (by have h8 := hsb.len HR.out.2.1.ord; have h9 := HR.out.2.2; omega)
  clear hb3 hsb
  refine hK.out _ _ (.inr hS3) ?_
  clear hK
  try simp only [Act.put, List.getElem_toArray, List.getElem_cons_zero, List.getElem_cons_succ, List.setIfInBounds_toArray, List.set_cons_zero, List.set_cons_succ]
  refine anyT_one (i := 8) (by kernel_rfl) rfl (fun K hK => ?_)
  go_simp
  go_at_call 54
  refine HC1.out.mono ?_
  rintro e w4 ⟨g4, cp4, rfl, H4⟩
  have hS4 : (fun w' : World => w'.cell? ⟨g, 0, none⟩ = some (.slice (some ⟨b, o0, none⟩) l0 cap0) ∧ w'.cell? ⟨g, 1, none⟩ = some (.slice (some ⟨b, o1, none⟩) l1 cap1)) w4 := ⟨by rw [(Chg.of_below H4.out.2 (S := fun _ => False)).cell (p := ⟨g, 0, none⟩) (Nat.lt_of_lt_of_le hgl (Nat.le_trans hd1.size H3.out.2.size)) (fun q => q)]; exact hS3.1, by rw [(Chg.of_below H4.out.2 (S := fun _ => False)).cell (p := ⟨g, 1, none⟩) (Nat.lt_of_lt_of_le hgl (Nat.le_trans hd1.size H3.out.2.size)) (fun q => q)]; exact hS3.2⟩
  have HE : Hid (OwnC w4 w.heap.size g4 cp4 (mean (.chain n ta tb) es) ∧ Below w.heap.size w w4) := ⟨H4.out.1.mono HB3.out.size, HB3.out.trans (H4.out.2.mono HB3.out.size)⟩
  refine hK.out _ _ (.inr hS4) ?_
  clear hK
  try simp only [Act.put, List.getElem_toArray, List.getElem_cons_zero, List.getElem_cons_succ, List.setIfInBounds_toArray, List.set_cons_zero, List.set_cons_succ]
  refine anyT_takeN (i := 9) (v := ?vmc9) rfl (by kernel_rfl) (by kernel_rfl) (by kernel_rfl) (by rfl) (fun _ _ _ h => h) (Or.inl ⟨by rfl, ?ymc9⟩) hS4 ?_
  case ymc9 => (intro wz hSw; obtain ⟨hz0, hz1⟩ := hSw; go_simp; (try with_reducible rfl))
  try simp only [Act.put, List.getElem_toArray, List.getElem_cons_zero, List.getElem_cons_succ, List.setIfInBounds_toArray, List.set_cons_zero, List.set_cons_succ]
  refine anyT_done (by kernel_rfl) ?_
  go_wp2_with fail
  go_ret
  exact ⟨g4, cp4, rfl, HE.out⟩
set_option maxHeartbeats 4000000 in
theorem mean_inter {m : Nat} (H : MeC m) (n : Nd) (w : World) (b o cap rb ro rc : Nat) (es : List Ent) {ta tb : CT} {ka kb : List Nd} (hk : n.kind = 15) (ha : TreeF ka ta) (hb : TreeF kb tb) (hm : (ka ++ kb ++ [n]).length ≤ m + 1) (hW : Win w b o cap (ka ++ kb ++ [n])) (hsz : ∀ x ∈ ka ++ kb ++ [n], x.s.size ≤ maxLen) (hC : CSl w rb ro rc es) (hS : Sub es es) (hel : es.length ≤ 10000) :
    Calls Tryz.prog 54 #[.slice (some ⟨b, o, none⟩) (ka ++ kb ++ [n]).length cap, .slice (some ⟨rb, ro, none⟩) es.length rc] w (MeP (.inter n ta tb) es w) := by
  have e0 : ka ++ kb ++ [n] = ([ka, kb] : List (List Nd)).flatten ++ [n] := by simp
  rw [e0] at hW hm hsz ⊢
  have HKs : Hid (Calls Tryz.prog 91 #[.slice (some ⟨b, o, none⟩) (([ka, kb] : List (List Nd)).flatten.length + 1) cap] w fun r w' => ∃ g cp, r = .returned (.slice (some ⟨g, 0, none⟩) 2 cp) ∧ OwnV w' w.heap.size g cp (kidVs b o cap [ka, kb]) ∧ Below w.heap.size w w') :=
    l5Kids_core hW (by show 2 = arity n.kind; rw [hk]; rfl) (by
      intro k hkm
      simp only [List.mem_cons, List.not_mem_nil, or_false] at hkm
      rcases hkm with rfl | rfl
      · exact treeF_isT ha
      · exact treeF_isT hb)
  have HTp : Hid (∀ wx, Below w.heap.size w wx → Calls Tryz.prog 90 #[.slice (some ⟨b, o, none⟩) (([ka, kb] : List (List Nd)).flatten.length + 1) cap] wx fun r w' => r = .returned (.int .i64 n.kind) ∧ w' = wx) := fun wx hx => l5Top_core (hW.below hx)
  obtain ⟨o0, cap0, hv0, hW0⟩ := kidVs_nth hW (j := 0) (k := ka) rfl
  have g0 : ka.length ≤ ([ka, kb] : List (List Nd)).flatten.length := by simp only [List.flatten_cons, List.flatten_nil, List.length_append, List.length_nil]; omega
  have gm0 : ka.length ≤ m := by have h9 := hm; rw [List.length_append, List.length_singleton] at h9; omega
  have HK0 : Hid (KidC m w (.slice (some ⟨b, o0, none⟩) ka.length cap0) ta) := kidC_of H gm0 hW0 ha (fun x hx => hsz x (by simp [hx]))
  have hkl0 : ka.length ≤ cap := by have h9 := hW.len; rw [List.length_append, List.length_singleton] at h9; omega
  obtain ⟨l0, hl0⟩ : ∃ l, l = ka.length := ⟨_, rfl⟩
  rw [← hl0] at HK0 hv0 hkl0
  clear g0 gm0
  obtain ⟨o1, cap1, hv1, hW1⟩ := kidVs_nth hW (j := 1) (k := kb) rfl
  have g1 : kb.length ≤ ([ka, kb] : List (List Nd)).flatten.length := by simp only [List.flatten_cons, List.flatten_nil, List.length_append, List.length_nil]; omega
  have gm1 : kb.length ≤ m := by have h9 := hm; rw [List.length_append, List.length_singleton] at h9; omega
  have HK1 : Hid (KidC m w (.slice (some ⟨b, o1, none⟩) kb.length cap1) tb) := kidC_of H gm1 hW1 hb (fun x hx => hsz x (by simp [hx]))
  have hkl1 : kb.length ≤ cap := by have h9 := hW.len; rw [List.length_append, List.length_singleton] at h9; omega
  obtain ⟨l1, hl1⟩ : ∃ l, l = kb.length := ⟨_, rfl⟩
  rw [← hl1] at HK1 hv1 hkl1
  clear g1 gm1
  rw [List.length_append, List.length_singleton]
  obtain ⟨L, hL⟩ : ∃ L, L = ([ka, kb] : List (List Nd)).flatten.length := ⟨_, rfl⟩
  rw [← hL] at HKs HTp ⊢
  have hcp := hW.cap
  have hLc : L + 1 ≤ cap := by have h9 := hW.len; rw [List.length_append, List.length_singleton] at h9; omega
  obtain ⟨kd, hkd⟩ : ∃ kd, kd = n.kind := ⟨_, rfl⟩
  rw [← hkd] at hk HTp
  subst hk
  have HR : Hid (CSl w rb ro rc es ∧ Sub es es ∧ es.length ≤ 10000) := ⟨hC, hS, hel⟩
  obtain ⟨N, hN⟩ : ∃ N, N = es.length := ⟨_, rfl⟩
  have HNl : Hid (N = es.length) := hN
  rw [← hN]
  clear hW hm hsz e0 hL hW0 hl0 hW1 hl1 hC hS hel hN
  go_enter Tryz.func54, Tryz.ntmps54
  go_wp2_with fail
  refine HKs.out.mono ?_
  rintro r w1 ⟨g, cp, rfl, hO, hb1⟩
  have HO1 : Hid (OwnV w1 w.heap.size g cp (kidVs b o cap [ka, kb]) ∧ Below w.heap.size w w1) := ⟨hO, hb1⟩
  have HT1 := HTp.out w1 hb1
  have HTp1 : Hid (Calls Tryz.prog 90 #[.slice (some ⟨b, o, none⟩) (L + 1) cap] w1 fun r w' => r = .returned (.int .i64 15) ∧ w' = w1) := HT1
  clear HKs HT1 HTp hb1
  go_wp2_with fail
  refine HTp1.out.mono ?_
  rintro r w2 ⟨rfl, hw2⟩
  rw [hw2]
  clear hw2 HTp1
  have x0 : w1.cell? ⟨g, 0, none⟩ = some (.slice (some ⟨b, o0, none⟩) l0 cap0) := hO.cell hv0
  have x1 : w1.cell? ⟨g, 1, none⟩ = some (.slice (some ⟨b, o1, none⟩) l1 cap1) := hO.cell hv1
  have hgl := hO.lt.2
  clear hO hv0 hv1
  have hS0 : (fun w' : World => w'.cell? ⟨g, 0, none⟩ = some (.slice (some ⟨b, o0, none⟩) l0 cap0) ∧ w'.cell? ⟨g, 1, none⟩ = some (.slice (some ⟨b, o1, none⟩) l1 cap1)) w1.drew := ⟨x0, x1⟩
  have hd1 : Below w1.heap.size w1 w1.drew := (Below.refl _ _).drew
  have HBd : Hid (Below w.heap.size w w1.drew) := HO1.out.2.trans (hd1.mono HO1.out.2.size)
  have HC0 : Hid (Calls Tryz.prog 54 #[.slice (some ⟨b, o0, none⟩) l0 cap0, .slice (some ⟨rb, ro, none⟩) N rc] w1.drew (MeP ta es w1.drew)) := by
    rw [HNl.out]; exact HK0.out.call w1.drew rb ro rc es HBd.out (HR.out.1.below HBd.out) HR.out.2.1 HR.out.2.2
  go_upto_region 6 with fail
  refine wp_region_T 99 (fun w' : World => w'.cell? ⟨g, 0, none⟩ = some (.slice (some ⟨b, o0, none⟩) l0 cap0) ∧ w'.cell? ⟨g, 1, none⟩ = some (.slice (some ⟨b, o1, none⟩) l1 cap1)) (by kernel_rfl) ?_
  refine anyT_takeN (i := 0) (v := ?vmi0) rfl (by kernel_rfl) (by kernel_rfl) (by kernel_rfl) (by rfl) (fun _ _ _ h => h) (Or.inl ⟨by rfl, ?ymi0⟩) hS0 ?_
  case ymi0 => (intro wz hSw; obtain ⟨hz0, hz1⟩ := hSw; go_simp; (try with_reducible rfl))
  try simp only [Act.put, List.getElem_toArray, List.getElem_cons_zero, List.getElem_cons_succ, List.setIfInBounds_toArray, List.set_cons_zero, List.set_cons_succ]
  refine anyT_takeN (i := 1) (v := ?vmi1) rfl (by kernel_rfl) (by kernel_rfl) (by kernel_rfl) (by rfl) (fun _ _ _ h => h) (Or.inl ⟨by rfl, ?ymi1⟩) hS0 ?_
  case ymi1 => (intro wz hSw; obtain ⟨hz0, hz1⟩ := hSw; go_simp; (try with_reducible rfl))
  try simp only [Act.put, List.getElem_toArray, List.getElem_cons_zero, List.getElem_cons_succ, List.setIfInBounds_toArray, List.set_cons_zero, List.set_cons_succ]
  refine anyT_takeN (i := 2) (v := ?vmi2) rfl (by kernel_rfl) (by kernel_rfl) (by kernel_rfl) (by rfl) (fun _ _ _ h => h) (Or.inl ⟨by rfl, ?ymi2⟩) hS0 ?_
  case ymi2 => (intro wz hSw; obtain ⟨hz0, hz1⟩ := hSw; go_simp; (try with_reducible rfl))
  try simp only [Act.put, List.getElem_toArray, List.getElem_cons_zero, List.getElem_cons_succ, List.setIfInBounds_toArray, List.set_cons_zero, List.set_cons_succ]
  refine anyT_takeN (i := 3) (v := ?vmi3) rfl (by kernel_rfl) (by kernel_rfl) (by kernel_rfl) (by rfl) (fun _ _ _ h => h) (Or.inl ⟨by rfl, ?ymi3⟩) hS0 ?_
  case ymi3 => (intro wz hSw; obtain ⟨hz0, hz1⟩ := hSw; go_simp; (try with_reducible rfl))
  try simp only [Act.put, List.getElem_toArray, List.getElem_cons_zero, List.getElem_cons_succ, List.setIfInBounds_toArray, List.set_cons_zero, List.set_cons_succ]
  refine anyT_takeN (i := 5) (v := ?vmi5) rfl (by kernel_rfl) (by kernel_rfl) (by kernel_rfl) (by rfl) (fun _ _ _ h => h) (Or.inl ⟨by rfl, ?ymi5⟩) hS0 ?_
  case ymi5 => (intro wz hSw; obtain ⟨hz0, hz1⟩ := hSw; go_simp; (try with_reducible rfl))
  try simp only [Act.put, List.getElem_toArray, List.getElem_cons_zero, List.getElem_cons_succ, List.setIfInBounds_toArray, List.set_cons_zero, List.set_cons_succ]
  refine anyT_takeN (i := 6) (v := ?vmi6) rfl (by kernel_rfl) (by kernel_rfl) (by kernel_rfl) (by rfl) (fun _ _ _ h => h) (Or.inl ⟨by rfl, ?ymi6⟩) hS0 ?_
  case ymi6 => (intro wz hSw; obtain ⟨hz0, hz1⟩ := hSw; go_simp; (try with_reducible rfl))
  try simp only [Act.put, List.getElem_toArray, List.getElem_cons_zero, List.getElem_cons_succ, List.setIfInBounds_toArray, List.set_cons_zero, List.set_cons_succ]
  refine anyT_takeN (i := 7) (v := ?vmi7) rfl (by kernel_rfl) (by kernel_rfl) (by kernel_rfl) (by rfl) (fun _ _ _ h => h) (Or.inl ⟨by rfl, ?ymi7⟩) hS0 ?_
  case ymi7 => (intro wz hSw; obtain ⟨hz0, hz1⟩ := hSw; go_simp; (try with_reducible rfl))
  try simp only [Act.put, List.getElem_toArray, List.getElem_cons_zero, List.getElem_cons_succ, List.setIfInBounds_toArray, List.set_cons_zero, List.set_cons_succ]
  refine anyT_takeN (i := 8) (v := ?vmi8) rfl (by kernel_rfl) (by kernel_rfl) (by kernel_rfl) (by rfl) (fun _ _ _ h => h) (Or.inl ⟨by rfl, ?ymi8⟩) hS0 ?_
  case ymi8 => (intro wz hSw; obtain ⟨hz0, hz1⟩ := hSw; go_simp; (try with_reducible rfl))
  try simp only [Act.put, List.getElem_toArray, List.getElem_cons_zero, List.getElem_cons_succ, List.setIfInBounds_toArray, List.set_cons_zero, List.set_cons_succ]
  refine anyT_one (i := 4) (by kernel_rfl) rfl (fun K hK => ?_)
  go_simp
  go_at_call 54
  refine HC0.out.mono ?_
  rintro e w3 ⟨g3, cp3, rfl, H3⟩
  have hb3 : Below w1.heap.size w1 w3 := hd1.trans H3.out.2
  have hS3 : (fun w' : World => w'.cell? ⟨g, 0, none⟩ = some (.slice (some ⟨b, o0, none⟩) l0 cap0) ∧ w'.cell? ⟨g, 1, none⟩ = some (.slice (some ⟨b, o1, none⟩) l1 cap1)) w3 := ⟨by rw [(Chg.of_below hb3 (S := fun _ => False)).cell (p := ⟨g, 0, none⟩) hgl (fun q => q)]; exact x0, by rw [(Chg.of_below hb3 (S := fun _ => False)).cell (p := ⟨g, 1, none⟩) hgl (fun q => q)]; exact x1⟩
  have HB3 : Hid (Below w.heap.size w w3) := HO1.out.2.trans (hb3.mono HO1.out.2.size)
  have HC1 : Hid (Calls Tryz.prog 54 #[.slice (some ⟨b, o1, none⟩) l1 cap1, .slice (some ⟨rb, ro, none⟩) N rc] w3 (MeP tb es w3)) := by
    rw [HNl.out]; exact HK1.out.call w3 rb ro rc es HB3.out (HR.out.1.below HB3.out) HR.out.2.1 HR.out.2.2
  clear hb3
  refine hK.out _ _ (.inr hS3) ?_
  clear hK
  try simp only [Act.put, List.getElem_toArray, List.getElem_cons_zero, List.getElem_cons_succ, List.setIfInBounds_toArray, List.set_cons_zero, List.set_cons_succ]
  refine anyT_one (i := 9) (by kernel_rfl) rfl (fun K hK => ?_)
  go_simp
  go_at_call 54
  refine HC1.out.mono ?_
  rintro e w4 ⟨g4, cp4, rfl, H4⟩
  have hS4 : (fun w' : World => w'.cell? ⟨g, 0, none⟩ = some (.slice (some ⟨b, o0, none⟩) l0 cap0) ∧ w'.cell? ⟨g, 1, none⟩ = some (.slice (some ⟨b, o1, none⟩) l1 cap1)) w4 := ⟨by rw [(Chg.of_below H4.out.2 (S := fun _ => False)).cell (p := ⟨g, 0, none⟩) (Nat.lt_of_lt_of_le hgl (Nat.le_trans hd1.size H3.out.2.size)) (fun q => q)]; exact hS3.1, by rw [(Chg.of_below H4.out.2 (S := fun _ => False)).cell (p := ⟨g, 1, none⟩) (Nat.lt_of_lt_of_le hgl (Nat.le_trans hd1.size H3.out.2.size)) (fun q => q)]; exact hS3.2⟩
  have HB4 : Hid (Below w.heap.size w w4) := HB3.out.trans (H4.out.2.mono HB3.out.size)
  have HU : Hid (Calls Tryz.prog 97 #[.slice (some ⟨g3, 0, none⟩) (mean ta es).length cp3, .slice (some ⟨g4, 0, none⟩) (mean tb es).length cp4] w4 fun e w' => ∃ g cp, e = .returned (.slice (some ⟨g, 0, none⟩) (uniM (mean ta es) (mean tb es)).length cp) ∧ OwnC w' w4.heap.size g cp (uniM (mean ta es) (mean tb es)) ∧ Below w4.heap.size w4 w') := by
    have sa := mean_sub ta HR.out.2.1
    have sb' := mean_sub tb HR.out.2.1
    have la := sa.len HR.out.2.1.ord
    have lb := sb'.len HR.out.2.1.ord
    have le := HR.out.2.2
    exact l5Union_core (H3.out.1.sl.below H4.out.2) H4.out.1.sl sa.kind sb'.kind (by omega) (by omega)
  refine hK.out _ _ (.inr hS4) ?_
  clear hK
  try simp only [Act.put, List.getElem_toArray, List.getElem_cons_zero, List.getElem_cons_succ, List.setIfInBounds_toArray, List.set_cons_zero, List.set_cons_succ]
  refine anyT_one (i := 10) (by kernel_rfl) rfl (fun K hK => ?_)
  go_simp
  go_at_call 97
  refine HU.out.mono ?_
  rintro e w5 ⟨g5, cp5, rfl, hO5, hb5⟩
  have hz4 : g < w4.heap.size := Nat.lt_of_lt_of_le hgl (Nat.le_trans hd1.size (Nat.le_trans H3.out.2.size H4.out.2.size))
  have hS5 : (fun w' : World => w'.cell? ⟨g, 0, none⟩ = some (.slice (some ⟨b, o0, none⟩) l0 cap0) ∧ w'.cell? ⟨g, 1, none⟩ = some (.slice (some ⟨b, o1, none⟩) l1 cap1)) w5 := ⟨by rw [(Chg.of_below hb5 (S := fun _ => False)).cell (p := ⟨g, 0, none⟩) hz4 (fun q => q)]; exact hS4.1, by rw [(Chg.of_below hb5 (S := fun _ => False)).cell (p := ⟨g, 1, none⟩) hz4 (fun q => q)]; exact hS4.2⟩
  have HE : Hid (OwnC w5 w.heap.size g5 cp5 (mean (.inter n ta tb) es) ∧ Below w.heap.size w w5) := ⟨hO5.mono HB4.out.size, HB4.out.trans (hb5.mono HB4.out.size)⟩
  clear hO5 hb5 hz4
  refine hK.out _ _ (.inr hS5) ?_
  clear hK
  try simp only [Act.put, List.getElem_toArray, List.getElem_cons_zero, List.getElem_cons_succ, List.setIfInBounds_toArray, List.set_cons_zero, List.set_cons_succ]
  refine anyT_takeN (i := 11) (v := ?vmi11) rfl (by kernel_rfl) (by kernel_rfl) (by kernel_rfl) (by rfl) (fun _ _ _ h => h) (Or.inl ⟨by rfl, ?ymi11⟩) hS5 ?_
  case ymi11 => (intro wz hSw; obtain ⟨hz0, hz1⟩ := hSw; go_simp; (try with_reducible rfl))
  try simp only [Act.put, List.getElem_toArray, List.getElem_cons_zero, List.getElem_cons_succ, List.setIfInBounds_toArray, List.set_cons_zero, List.set_cons_succ]
  refine anyT_done (by kernel_rfl) ?_
  go_wp2_with fail
  go_ret
  exact ⟨g5, cp5, rfl, HE.out⟩
set_option maxHeartbeats 4000000 in
theorem mean_cond {m : Nat} (H : MeC m) (n : Nd) (w : World) (b o cap rb ro rc : Nat) (es : List Ent) {ta tb tc : CT} {ka kb kc : List Nd} (hk : n.kind = 16) (ha : TreeF ka ta) (hb : TreeF kb tb) (hc : TreeF kc tc) (hm : (ka ++ kb ++ kc ++ [n]).length ≤ m + 1) (hW : Win w b o cap (ka ++ kb ++ kc ++ [n])) (hsz : ∀ x ∈ ka ++ kb ++ kc ++ [n], x.s.size ≤ maxLen) (hC : CSl w rb ro rc es) (hS : Sub es es) (hel : es.length ≤ 10000) :
    Calls Tryz.prog 54 #[.slice (some ⟨b, o, none⟩) (ka ++ kb ++ kc ++ [n]).length cap, .slice (some ⟨rb, ro, none⟩) es.length rc] w (MeP (.cond n ta tb tc) es w) := by
  have e0 : ka ++ kb ++ kc ++ [n] = ([ka, kb, kc] : List (List Nd)).flatten ++ [n] := by simp
  rw [e0] at hW hm hsz ⊢
  have HKs : Hid (Calls Tryz.prog 91 #[.slice (some ⟨b, o, none⟩) (([ka, kb, kc] : List (List Nd)).flatten.length + 1) cap] w fun r w' => ∃ g cp, r = .returned (.slice (some ⟨g, 0, none⟩) 3 cp) ∧ OwnV w' w.heap.size g cp (kidVs b o cap [ka, kb, kc]) ∧ Below w.heap.size w w') :=
    l5Kids_core hW (by show 3 = arity n.kind; rw [hk]; rfl) (by
      intro k hkm
      simp only [List.mem_cons, List.not_mem_nil, or_false] at hkm
      rcases hkm with rfl | rfl | rfl
      · exact treeF_isT ha
      · exact treeF_isT hb
      · exact treeF_isT hc)
  have HTp : Hid (∀ wx, Below w.heap.size w wx → Calls Tryz.prog 90 #[.slice (some ⟨b, o, none⟩) (([ka, kb, kc] : List (List Nd)).flatten.length + 1) cap] wx fun r w' => r = .returned (.int .i64 n.kind) ∧ w' = wx) := fun wx hx => l5Top_core (hW.below hx)
  obtain ⟨o0, cap0, hv0, hW0⟩ := kidVs_nth hW (j := 0) (k := ka) rfl
  have g0 : ka.length ≤ ([ka, kb, kc] : List (List Nd)).flatten.length := by simp only [List.flatten_cons, List.flatten_nil, List.length_append, List.length_nil]; omega
  have gm0 : ka.length ≤ m := by have h9 := hm; rw [List.length_append, List.length_singleton] at h9; omega
  have HK0 : Hid (KidC m w (.slice (some ⟨b, o0, none⟩) ka.length cap0) ta) := kidC_of H gm0 hW0 ha (fun x hx => hsz x (by simp [hx]))
  have hkl0 : ka.length ≤ cap := by have h9 := hW.len; rw [List.length_append, List.length_singleton] at h9; omega
  obtain ⟨l0, hl0⟩ : ∃ l, l = ka.length := ⟨_, rfl⟩
  rw [← hl0] at HK0 hv0 hkl0
  clear g0 gm0
  obtain ⟨o1, cap1, hv1, hW1⟩ := kidVs_nth hW (j := 1) (k := kb) rfl
  have g1 : kb.length ≤ ([ka, kb, kc] : List (List Nd)).flatten.length := by simp only [List.flatten_cons, List.flatten_nil, List.length_append, List.length_nil]; omega
  have gm1 : kb.length ≤ m := by have h9 := hm; rw [List.length_append, List.length_singleton] at h9; omega
  have HK1 : Hid (KidC m w (.slice (some ⟨b, o1, none⟩) kb.length cap1) tb) := kidC_of H gm1 hW1 hb (fun x hx => hsz x (by simp [hx]))
  have hkl1 : kb.length ≤ cap := by have h9 := hW.len; rw [List.length_append, List.length_singleton] at h9; omega
  obtain ⟨l1, hl1⟩ : ∃ l, l = kb.length := ⟨_, rfl⟩
  rw [← hl1] at HK1 hv1 hkl1
  clear g1 gm1
  obtain ⟨o2, cap2, hv2, hW2⟩ := kidVs_nth hW (j := 2) (k := kc) rfl
  have g2 : kc.length ≤ ([ka, kb, kc] : List (List Nd)).flatten.length := by simp only [List.flatten_cons, List.flatten_nil, List.length_append, List.length_nil]; omega
  have gm2 : kc.length ≤ m := by have h9 := hm; rw [List.length_append, List.length_singleton] at h9; omega
  have HK2 : Hid (KidC m w (.slice (some ⟨b, o2, none⟩) kc.length cap2) tc) := kidC_of H gm2 hW2 hc (fun x hx => hsz x (by simp [hx]))
  have hkl2 : kc.length ≤ cap := by have h9 := hW.len; rw [List.length_append, List.length_singleton] at h9; omega
  obtain ⟨l2, hl2⟩ : ∃ l, l = kc.length := ⟨_, rfl⟩
  rw [← hl2] at HK2 hv2 hkl2
  clear g2 gm2
  rw [List.length_append, List.length_singleton]
  obtain ⟨L, hL⟩ : ∃ L, L = ([ka, kb, kc] : List (List Nd)).flatten.length := ⟨_, rfl⟩
  rw [← hL] at HKs HTp ⊢
  have hcp := hW.cap
  have hLc : L + 1 ≤ cap := by have h9 := hW.len; rw [List.length_append, List.length_singleton] at h9; omega
  obtain ⟨kd, hkd⟩ : ∃ kd, kd = n.kind := ⟨_, rfl⟩
  rw [← hkd] at hk HTp
  subst hk
  have HR : Hid (CSl w rb ro rc es ∧ Sub es es ∧ es.length ≤ 10000) := ⟨hC, hS, hel⟩
  obtain ⟨N, hN⟩ : ∃ N, N = es.length := ⟨_, rfl⟩
  have HNl : Hid (N = es.length) := hN
  rw [← hN]
  clear hW hm hsz e0 hL hW0 hl0 hW1 hl1 hW2 hl2 hC hS hel hN
  go_enter Tryz.func54, Tryz.ntmps54
  go_wp2_with fail
  refine HKs.out.mono ?_
  rintro r w1 ⟨g, cp, rfl, hO, hb1⟩
  have HO1 : Hid (OwnV w1 w.heap.size g cp (kidVs b o cap [ka, kb, kc]) ∧ Below w.heap.size w w1) := ⟨hO, hb1⟩
  have HT1 := HTp.out w1 hb1
  have HTp1 : Hid (Calls Tryz.prog 90 #[.slice (some ⟨b, o, none⟩) (L + 1) cap] w1 fun r w' => r = .returned (.int .i64 16) ∧ w' = w1) := HT1
  clear HKs HT1 HTp hb1
  go_wp2_with fail
  refine HTp1.out.mono ?_
  rintro r w2 ⟨rfl, hw2⟩
  rw [hw2]
  clear hw2 HTp1
  have x0 : w1.cell? ⟨g, 0, none⟩ = some (.slice (some ⟨b, o0, none⟩) l0 cap0) := hO.cell hv0
  have x1 : w1.cell? ⟨g, 1, none⟩ = some (.slice (some ⟨b, o1, none⟩) l1 cap1) := hO.cell hv1
  have x2 : w1.cell? ⟨g, 2, none⟩ = some (.slice (some ⟨b, o2, none⟩) l2 cap2) := hO.cell hv2
  have hgl := hO.lt.2
  clear hO hv0 hv1 hv2
  have HC0 : Hid (Calls Tryz.prog 54 #[.slice (some ⟨b, o0, none⟩) l0 cap0, .slice (some ⟨rb, ro, none⟩) N rc] w1 (MeP ta es w1)) := by
    rw [HNl.out]; exact HK0.out.call w1 rb ro rc es HO1.out.2 (HR.out.1.below HO1.out.2) HR.out.2.1 HR.out.2.2
  go_wp2_with fail
  refine HC0.out.mono ?_
  rintro e w3 ⟨g3, cp3, rfl, H3⟩
  have HB3 : Hid (Below w.heap.size w w3) := HO1.out.2.trans (H3.out.2.mono HO1.out.2.size)
  have y1 : w3.cell? ⟨g, 1, none⟩ = some (.slice (some ⟨b, o1, none⟩) l1 cap1) := by rw [(Chg.of_below H3.out.2 (S := fun _ => False)).cell (p := ⟨g, 1, none⟩) hgl (fun q => q)]; exact x1
  have y2 : w3.cell? ⟨g, 2, none⟩ = some (.slice (some ⟨b, o2, none⟩) l2 cap2) := by rw [(Chg.of_below H3.out.2 (S := fun _ => False)).cell (p := ⟨g, 2, none⟩) hgl (fun q => q)]; exact x2
  have hlp : (mean ta es).length ≤ 10000 := by have h8 := (mean_sub ta HR.out.2.1).len HR.out.2.1.ord; have h9 := HR.out.2.2; omega
  obtain ⟨P, hP⟩ : ∃ P, P = (mean ta es).length := ⟨_, rfl⟩
  have HP : Hid (P = (mean ta es).length) := hP
  rw [← hP] at hlp ⊢
  clear hP x0 x1 x2
  by_cases hz : P = 0
  · subst hz
    have HMe : Hid (mean (.cond n ta tb tc) es = mean tc es) := by
      show mean (.cond n ta tb tc) es = _
      have h0 : mean ta es = [] := List.length_eq_zero_iff.1 HP.out.symm
      conv => lhs; unfold mean
      rw [if_pos h0]
    have HC1 : Hid (Calls Tryz.prog 54 #[.slice (some ⟨b, o2, none⟩) l2 cap2, .slice (some ⟨rb, ro, none⟩) N rc] w3 (MeP tc es w3)) := by
      rw [HNl.out]; exact HK2.out.call w3 rb ro rc es HB3.out (HR.out.1.below HB3.out) HR.out.2.1 HR.out.2.2
    go_wp2_with fail
    refine HC1.out.mono ?_
    rintro e w4 ⟨g4, cp4, rfl, H4⟩
    have HE : Hid (OwnC w4 w.heap.size g4 cp4 (mean (.cond n ta tb tc) es) ∧ Below w.heap.size w w4) := by
      rw [HMe.out]; exact ⟨H4.out.1.mono HB3.out.size, HB3.out.trans (H4.out.2.mono HB3.out.size)⟩
    go_wp2_with fail
    go_ret
    exact ⟨g4, cp4, by rw [HMe.out]; rfl, HE.out⟩
  · have zp : (0 : Int) < (P : Int) := by omega
    have HMe : Hid (mean (.cond n ta tb tc) es = mean tb es) := by
      show mean (.cond n ta tb tc) es = _
      have h0 : ¬ mean ta es = [] := fun q => hz (by rw [HP.out, q]; rfl)
      conv => lhs; unfold mean
      rw [if_neg h0]
    have HC1 : Hid (Calls Tryz.prog 54 #[.slice (some ⟨b, o1, none⟩) l1 cap1, .slice (some ⟨rb, ro, none⟩) N rc] w3 (MeP tb es w3)) := by
      rw [HNl.out]; exact HK1.out.call w3 rb ro rc es HB3.out (HR.out.1.below HB3.out) HR.out.2.1 HR.out.2.2
    go_wp2_with fail
    refine HC1.out.mono ?_
    rintro e w4 ⟨g4, cp4, rfl, H4⟩
    have HE : Hid (OwnC w4 w.heap.size g4 cp4 (mean (.cond n ta tb tc) es) ∧ Below w.heap.size w w4) := by
      rw [HMe.out]; exact ⟨H4.out.1.mono HB3.out.size, HB3.out.trans (H4.out.2.mono HB3.out.size)⟩
    go_wp2_with fail
    go_ret
    exact ⟨g4, cp4, by rw [HMe.out]; rfl, HE.out⟩
set_option maxHeartbeats 4000000 in
theorem mean_leaf (n : Nd) (w : World) (b o cap rb ro rc : Nat) (es : List Ent) (hk : arity n.kind = 0) (hW : Win w b o cap [n]) (hsz : n.s.size ≤ maxLen) (hC : CSl w rb ro rc es) (hel : es.length ≤ 10000) :
    Calls Tryz.prog 54 #[.slice (some ⟨b, o, none⟩) 1 cap, .slice (some ⟨rb, ro, none⟩) es.length rc] w (MeP (.leaf n) es w) := by
  have HKs : Hid (Calls Tryz.prog 91 #[.slice (some ⟨b, o, none⟩) 1 cap] w fun r w' => ∃ g cp, r = .returned (.slice (some ⟨g, 0, none⟩) 0 cp) ∧ OwnV w' w.heap.size g cp (kidVs b o cap []) ∧ Below w.heap.size w w') := l5Kids_core (ks := []) hW (by rw [hk]; rfl) (fun k q => by simp at q)
  have HTp : Hid (∀ wx, Below w.heap.size w wx → Calls Tryz.prog 90 #[.slice (some ⟨b, o, none⟩) 1 cap] wx fun r w' => r = .returned (.int .i64 n.kind) ∧ w' = wx) := fun wx hx => l5Top_core (xs := []) (hW.below hx)
  have HW : Hid (Win w b o cap [n] ∧ CSl w rb ro rc es) := ⟨hW, hC⟩
  have HLf : Hid (∀ wx, Below w.heap.size w wx → Calls Tryz.prog 98 #[n.v, .slice (some ⟨rb, ro, none⟩) es.length rc] wx fun e w' => ∃ g cp, e = .returned (.slice (some ⟨g, 0, none⟩) (leafM n es).length cp) ∧ OwnC w' wx.heap.size g cp (leafM n es) ∧ Below wx.heap.size wx w') := fun wx hx => l5Leaf_core n hsz (hC.below hx) (by omega)
  have hcp := hW.cap
  have hkk : ¬ n.kind = 14 ∧ ¬ n.kind = 15 ∧ ¬ n.kind = 16 := by
    unfold arity at hk
    refine ⟨fun q => ?_, fun q => ?_, fun q => ?_⟩
    · rw [if_pos (.inl q)] at hk; cases hk
    · rw [if_pos (.inr q)] at hk; cases hk
    · rw [if_neg (by omega), if_pos q] at hk; cases hk
  have b14 : (n.kind == 14) = false := by rw [beq_eq_false_iff_ne]; exact hkk.1
  have b15 : (n.kind == 15) = false := by rw [beq_eq_false_iff_ne]; exact hkk.2.1
  have b16 : (n.kind == 16) = false := by rw [beq_eq_false_iff_ne]; exact hkk.2.2
  obtain ⟨N, hN⟩ : ∃ N, N = es.length := ⟨_, rfl⟩
  rw [← hN] at HLf ⊢
  have hN' : N ≤ 10000 := by omega
  clear hW hC hkk hk hN hel
  go_enter Tryz.func54, Tryz.ntmps54
  go_wp2_with fail
  refine HKs.out.mono ?_
  rintro r w1 ⟨g, cp, rfl, hO, hb1⟩
  have HB1 : Hid (Below w.heap.size w w1) := hb1
  have HTp1 : Hid (Calls Tryz.prog 90 #[.slice (some ⟨b, o, none⟩) 1 cap] w1 fun r w' => r = .returned (.int .i64 n.kind) ∧ w' = w1) := HTp.out w1 hb1
  have HL1 : Hid (Calls Tryz.prog 98 #[n.v, .slice (some ⟨rb, ro, none⟩) N rc] w1 fun e w' => ∃ g cp, e = .returned (.slice (some ⟨g, 0, none⟩) (leafM n es).length cp) ∧ OwnC w' w1.heap.size g cp (leafM n es) ∧ Below w1.heap.size w1 w') := HLf.out w1 hb1
  obtain ⟨k0, k1, k2, k3, k4, k5, k6⟩ := (HW.out.1.below hb1).at_ 0 n rfl
  simp only [Nat.zero_mul, Nat.add_zero] at k0 k1 k2 k3 k4 k5 k6
  clear HKs HTp hb1 hO HLf
  go_wp2_with fail
  refine HTp1.out.mono ?_
  rintro r w2 ⟨rfl, hw2⟩
  rw [hw2]
  clear hw2 HTp1
  go_wp2_with fail
  refine HL1.out.mono ?_
  rintro e w3 ⟨g3, cp3, rfl, hO3, hb3⟩
  have HE : Hid (OwnC w3 w.heap.size g3 cp3 (mean (.leaf n) es) ∧ Below w.heap.size w w3) := ⟨hO3.mono HB1.out.size, HB1.out.trans (hb3.mono HB1.out.size)⟩
  clear hO3 hb3
  go_wp2_with fail
  go_ret
  exact ⟨g3, cp3, rfl, HE.out⟩
theorem mean_of {m : Nat} (H : MeC m) : MeC (m + 1) := by
  intro w b o cap xs t rb ro rc es hm hW hT hsz hC hS hel
  have hP := TreeF.part hT
  cases hP with
  | leaf n h => exact mean_leaf n w b o cap rb ro rc es h hW (hsz n (by simp)) hC hel
  | chain n h ha hb => exact mean_chain H n w b o cap rb ro rc es h ha hb hm hW hsz hC hS hel
  | inter n h ha hb => exact mean_inter H n w b o cap rb ro rc es h ha hb hm hW hsz hC hS hel
  | cond n h ha hb hc => exact mean_cond H n w b o cap rb ro rc es h ha hb hc hm hW hsz hC hS hel
theorem mean_zero : MeC 0 := by
  intro w b o cap xs t rb ro rc es hm hW hT
  have := (treeF_isT hT).len
  omega
theorem mean_all : ∀ m, MeC m
  | 0 => mean_zero
  | m + 1 => mean_of (mean_all m)
end Go.Proofs.YtkidabedcgngcaaGreatDoor

/-
  impl.ValidCells, spec.ValidCells.
-/
namespace Go.Proofs.YtkidabedcgngcaaGreatDoor
open Go.ChangeShapes Go.WideShapes Go.ChangeAt Go.RowKit Go.Deep
set_option linter.unusedVariables false
set_option linter.unusedSimpArgs false
set_option maxRecDepth 100000

theorem putE_ok {e : Ent} (h : e.ok) : (putE e).ok := ⟨h.row, h.fam, h.qual, h.val, h.ts, (show (Lit.int .i64 0).wf = true by decide)⟩
theorem okPair_put (a b : Ent) : okPair (putE a) (putE b) = (keyCmp (putE a) (putE b) == -1) := by
  unfold okPair putE; simp
set_option maxHeartbeats 2000000 in
theorem cellCompare_any (a b : Ent) (w : World) :
    Calls Tryz.prog 60 #[a.c, b.c] w fun e w' => e = .returned (.int .i64 (keyCmp (putE a) (putE b))) ∧ Below w.heap.size w w' := by
  unfold Ent.c
  obtain ⟨W0, hW0⟩ : ∃ W0 : World, W0 = (w.alloc (Obj.cells #[.string a.row, .string a.fam, .string a.qual, .int .u64 a.ts, .string a.val] 55)).alloc (Obj.cells #[.string b.row, .string b.fam, .string b.qual, .int .u64 b.ts, .string b.val] 55) := ⟨_, rfl⟩
  have hb0 : Below w.heap.size w W0 := by rw [hW0]; exact ((Below.refl _ _).alloc (Nat.le_refl _) _).alloc (by simp) _
  have hz0 : W0.heap.size = w.heap.size + 2 := by rw [hW0]; simp
  have HA : Hid (CelsAt W0 w.heap.size 0 [a] ∧ CelsAt W0 (w.heap.size + 1) 0 [b]) := by
    rw [hW0]
    refine ⟨(cel_new w a).below ((Below.refl _ _).alloc (Nat.le_refl _) _) (by simp), ?_⟩
    have := cel_new (w.alloc (Obj.cells #[.string a.row, .string a.fam, .string a.qual, .int .u64 a.ts, .string a.val] 55)) b
    simpa using this
  have q : ∀ n : Out W0, CelsAt n.u w.heap.size 0 [a] ∧ CelsAt n.u (w.heap.size + 1) 0 [b] := fun n => ⟨HA.out.1.below n.out (by omega), HA.out.2.below n.out (by omega)⟩
  have a0 : ∀ n : Out W0, n.u.cell? ⟨w.heap.size, 0, none⟩ = some (.string a.row) := fun n => by simpa using ((q n).1 0 a rfl).1
  have a1 : ∀ n : Out W0, n.u.cell? ⟨w.heap.size, 1, none⟩ = some (.string a.fam) := fun n => by simpa using ((q n).1 0 a rfl).2.1
  have a2 : ∀ n : Out W0, n.u.cell? ⟨w.heap.size, 2, none⟩ = some (.string a.qual) := fun n => by simpa using ((q n).1 0 a rfl).2.2.1
  have a3 : ∀ n : Out W0, n.u.cell? ⟨w.heap.size, 3, none⟩ = some (.int .u64 a.ts) := fun n => by simpa using ((q n).1 0 a rfl).2.2.2.1
  have a4 : ∀ n : Out W0, n.u.cell? ⟨w.heap.size, 4, none⟩ = some (.string a.val) := fun n => by simpa using ((q n).1 0 a rfl).2.2.2.2
  have b0 : ∀ n : Out W0, n.u.cell? ⟨w.heap.size + 1, 0, none⟩ = some (.string b.row) := fun n => by simpa using ((q n).2 0 b rfl).1
  have b1 : ∀ n : Out W0, n.u.cell? ⟨w.heap.size + 1, 1, none⟩ = some (.string b.fam) := fun n => by simpa using ((q n).2 0 b rfl).2.1
  have b2 : ∀ n : Out W0, n.u.cell? ⟨w.heap.size + 1, 2, none⟩ = some (.string b.qual) := fun n => by simpa using ((q n).2 0 b rfl).2.2.1
  have b3 : ∀ n : Out W0, n.u.cell? ⟨w.heap.size + 1, 3, none⟩ = some (.int .u64 b.ts) := fun n => by simpa using ((q n).2 0 b rfl).2.2.2.1
  have b4 : ∀ n : Out W0, n.u.cell? ⟨w.heap.size + 1, 4, none⟩ = some (.string b.val) := fun n => by simpa using ((q n).2 0 b rfl).2.2.2.2
  clear q HA
  go_enter Tryz.func60, Tryz.ntmps60
  go_upto_region 1 with fail
  rw [← hW0]
  clear hW0 hz0
  have inh : Nonempty (Out W0) := ⟨⟨W0, Below.refl _ _⟩⟩
  refine wp_region_out (by kernel_rfl) (by kernel_rfl) ?_
  repeat (go_big_quiet_step ((first | (go_at_call 59; exact Calls.out_of (implPut_any _ _)) | (go_at_call 101; exact Calls.out_of (compare_any (putE a) (putE b) _)))))
  refine wpQuiet_nil ?_
  rintro w1 ⟨⟨wx, hb1⟩, rfl⟩
  go_wp2_with fail
  go_ret
  exact ⟨rfl, hb0.trans (hb1.mono hb0.size)⟩

/-- Whether it holds is told. -/
def ValPost (P : Prop) (w : World) (e : Ending) (w' : World) : Prop := ∃ r : Bool, e = .returned (.bool r) ∧ (r = true ↔ P) ∧ Below w.heap.size w w'
theorem pairsTo_one (es : List Ent) : PairsTo es 1 := fun i p e hi => by omega
theorem goodPut_pair {L : List Ent} {i : Nat} {p c : Ent} (h : GoodR (L.map putE)) (hp : L[i]? = some p) (hc : L[i + 1]? = some c) : keyCmp (putE p) (putE c) = -1 := by
  have h1 := h.2 i (putE p) (putE c) (by rw [List.getElem?_map, hp]; rfl) (by rw [List.getElem?_map, hc]; rfl)
  rw [okPair_put] at h1
  simpa using h1
set_option maxHeartbeats 8000000 in
theorem implCells_core (g cap : Nat) (L : List Ent) (base : Nat) (w : World) (hC : OwnC w base g cap L) (hok : ∀ e ∈ L, e.ok) (hn : L.length ≤ 1048576) :
    Calls Tryz.prog 29 #[.slice (some ⟨g, 0, none⟩) L.length cap] w (ValPost (GoodR (L.map putE)) w) := by
  have HC : Hid (OwnC w base g cap L ∧ ∀ e ∈ L, e.ok) := ⟨hC, hok⟩
  have hgl := hC.lt.2
  clear hC hok
  by_cases hbig : 10000 < L.length
  · have H : Hid (¬ GoodR (L.map putE)) := fun h => by have := h.1.1; rw [List.length_map] at this; omega
    have z : (10000 : Int) < (L.length : Int) := by omega
    go_enter Tryz.func29, Tryz.ntmps29
    go_wp2_with fail
    go_ret
    exact ⟨_, rfl, iffF H.out, Below.refl _ _⟩
  have z : ¬ (10000 : Int) < (L.length : Int) := by omega
  go_enter Tryz.func29, Tryz.ntmps29
  go_wp2_with fail
  go_loopw [10] (fun iv wr => ∃ (k : Nat), k ≤ L.length ∧ iv = .int .i64 (k : Int) ∧ (∀ x ∈ L.take k, (putE x).vld = true) ∧ PairsTo (L.map putE) k ∧ Below w.heap.size w wr) (fun iv _ => L.length - (intOf iv).toNat)
  case atStart => exact ⟨0, Nat.zero_le _, rfl, by simp, fun i p e hi => by omega, Below.refl _ _⟩
  case round =>
    obtain ⟨k, hk, rfl, hv, hP, hb⟩ := hrel
    have HV : Hid ((∀ x ∈ L.take k, (putE x).vld = true) ∧ PairsTo (L.map putE) k) := ⟨hv, hP⟩
    have hs := hb.size
    clear hv hP
    by_cases hlt : k < L.length
    · obtain ⟨c, hc⟩ : ∃ c, L[k]? = some c := ⟨_, List.getElem?_eq_getElem hlt⟩
      have HCc : Hid (L[k]? = some c ∧ c.ok) := ⟨hc, HC.out.2 c (List.mem_of_getElem? hc)⟩
      have HR : Hid (CelsAt wr g 0 L) := HC.out.1.at.below hb hgl
      obtain ⟨c0, c1, c2, c3, c4⟩ := HR.out k c hc
      simp only [Nat.zero_add] at c0 c1 c2 c3 c4
      have zk : (k : Int) < (L.length : Int) := by omega
      obtain ⟨W1, hW1⟩ : ∃ W1 : World, W1 = wr.alloc (Obj.cells #[.string c.row, .string c.fam, .string c.qual, .int .u64 c.ts, .string c.val] 55) := ⟨_, rfl⟩
      have HW1 : Hid (CelsAt W1 wr.heap.size 0 [c] ∧ CelsAt W1 g 0 L ∧ Below w.heap.size w W1 ∧ W1.heap.size = wr.heap.size + 1) := by
        have hba : Below wr.heap.size wr W1 := by rw [hW1]; exact (Below.refl _ _).alloc (Nat.le_refl _) _
        refine ⟨by rw [hW1]; exact cel_new wr c, HR.out.below hba (by omega), hb.trans (hba.mono hs), by rw [hW1]; simp⟩
      clear hc
      go_upto_region 6 with fail
      rw [← hW1]
      clear hW1 c0 c1 c2 c3 c4 HR
      have hz1 := HW1.out.2.2.2
      have q : ∀ n : Out W1, CelsAt n.u wr.heap.size 0 [c] := fun n => HW1.out.1.below n.out (by omega)
      have a0 : ∀ n : Out W1, n.u.cell? ⟨wr.heap.size, 0, none⟩ = some (.string c.row) := fun n => by simpa using ((q n) 0 c rfl).1
      have a1 : ∀ n : Out W1, n.u.cell? ⟨wr.heap.size, 1, none⟩ = some (.string c.fam) := fun n => by simpa using ((q n) 0 c rfl).2.1
      have a2 : ∀ n : Out W1, n.u.cell? ⟨wr.heap.size, 2, none⟩ = some (.string c.qual) := fun n => by simpa using ((q n) 0 c rfl).2.2.1
      have a3 : ∀ n : Out W1, n.u.cell? ⟨wr.heap.size, 3, none⟩ = some (.int .u64 c.ts) := fun n => by simpa using ((q n) 0 c rfl).2.2.2.1
      have a4 : ∀ n : Out W1, n.u.cell? ⟨wr.heap.size, 4, none⟩ = some (.string c.val) := fun n => by simpa using ((q n) 0 c rfl).2.2.2.2
      clear q hz1
      have inh : Nonempty (Out W1) := ⟨⟨W1, Below.refl _ _⟩⟩
      obtain ⟨bv, hbv⟩ : ∃ bv, bv = (putE c).vld := ⟨_, rfl⟩
      have HVal : Hid (∀ n : Out W1, Calls Tryz.prog 58 #[(putE c).v] n.u fun e w' => e = .returned (.bool bv) ∧ Below n.u.heap.size n.u w') := fun n => by
        rw [hbv]
        exact implValid_core _ _ _ _ _ _ n.u HCc.out.2.row HCc.out.2.fam HCc.out.2.qual HCc.out.2.val
      have HBv : Hid ((putE c).vld = bv) := hbv.symm
      clear hbv
      cases bv
      · have HF : Hid (¬ GoodR (L.map putE)) := fun h => by
          have := h.1.2 (putE c) (List.mem_map.2 ⟨c, List.mem_of_getElem? HCc.out.1, rfl⟩)
          rw [HBv.out] at this; cases this
        refine wp_region_out (by kernel_rfl) (by kernel_rfl) ?_
        repeat (go_big_quiet_step ((first | (go_at_call 59; exact Calls.out_of (implPut_any _ _)) | (go_at_call 58; exact Calls.out_of (HVal.out _)))))
        refine wpQuiet_nil ?_
        rintro w2 ⟨⟨wx, hb2⟩, rfl⟩
        go_wp2_with fail
        go_ret
        exact ⟨_, rfl, iffF HF.out, HW1.out.2.2.1.trans (hb2.mono HW1.out.2.2.1.size)⟩
      have HVN : Hid (∀ x ∈ L.take (k + 1), (putE x).vld = true) := by
        intro x hx
        rw [List.take_add_one, HCc.out.1] at hx
        rcases List.mem_append.1 hx with hx | hx
        · exact HV.out.1 x hx
        · simp at hx; subst hx; exact HBv.out
      by_cases hk0 : k = 0
      · subst hk0
        refine wp_region_out (by kernel_rfl) (by kernel_rfl) ?_
        repeat (go_big_quiet_step ((first | (go_at_call 59; exact Calls.out_of (implPut_any _ _)) | (go_at_call 58; exact Calls.out_of (HVal.out _)))))
        refine wpQuiet_nil ?_
        rintro w2 ⟨⟨wx, hb2⟩, rfl⟩
        go_wp2_with fail
        go_roundw
        case rel => exact ⟨1, by omega, by go_num, HVN.out, pairsTo_one _, HW1.out.2.2.1.trans (hb2.mono HW1.out.2.2.1.size)⟩
        case measure => simp [intOf]; omega
      obtain ⟨m, rfl⟩ : ∃ m, k = m + 1 := ⟨k - 1, by omega⟩
      obtain ⟨p, hp⟩ : ∃ p, L[m]? = some p := ⟨_, List.getElem?_eq_getElem (by omega)⟩
      have HPp : Hid (L[m]? = some p) := hp
      have q : ∀ n : Out W1, CelsAt n.u g 0 L := fun n => HW1.out.2.1.below n.out (by have := HW1.out.2.2.2; omega)
      have p0 : ∀ n : Out W1, n.u.cell? ⟨g, m * 5, none⟩ = some (.string p.row) := fun n => by simpa using ((q n) m p hp).1
      have p1 : ∀ n : Out W1, n.u.cell? ⟨g, m * 5 + 1, none⟩ = some (.string p.fam) := fun n => by simpa using ((q n) m p hp).2.1
      have p2 : ∀ n : Out W1, n.u.cell? ⟨g, m * 5 + 2, none⟩ = some (.string p.qual) := fun n => by simpa using ((q n) m p hp).2.2.1
      have p3 : ∀ n : Out W1, n.u.cell? ⟨g, m * 5 + 3, none⟩ = some (.int .u64 p.ts) := fun n => by simpa using ((q n) m p hp).2.2.2.1
      have p4 : ∀ n : Out W1, n.u.cell? ⟨g, m * 5 + 4, none⟩ = some (.string p.val) := fun n => by simpa using ((q n) m p hp).2.2.2.2
      clear q hp
      obtain ⟨kc, hkc⟩ : ∃ kc, kc = keyCmp (putE p) (putE c) := ⟨_, rfl⟩
      have HCm : Hid (∀ n : Out W1, Calls Tryz.prog 60 #[p.c, c.c] n.u fun e w' => e = .returned (.int .i64 kc) ∧ Below n.u.heap.size n.u w') := fun n => by
        rw [hkc]; exact cellCompare_any p c n.u
      have HKc : Hid (kc = keyCmp (putE p) (putE c)) := hkc
      have zm : (m : Int) < (L.length : Int) := by omega
      have zm0 : (0 : Int) < (m : Int) + 1 := by omega
      clear hkc
      by_cases hneg : 0 ≤ kc
      · have HF : Hid (¬ GoodR (L.map putE)) := fun h => by
          have := goodPut_pair h HPp.out HCc.out.1
          rw [← HKc.out] at this; omega
        refine wp_region_out (by kernel_rfl) (by kernel_rfl) ?_
        repeat (go_big_quiet_step ((first | (go_at_call 59; exact Calls.out_of (implPut_any _ _)) | (go_at_call 58; exact Calls.out_of (HVal.out _)) | (go_at_call 60; exact Calls.out_of (HCm.out _)))))
        refine wpQuiet_nil ?_
        rintro w2 ⟨⟨wx, hb2⟩, rfl⟩
        go_wp2_with fail
        go_ret
        exact ⟨_, rfl, iffF HF.out, HW1.out.2.2.1.trans (hb2.mono HW1.out.2.2.1.size)⟩
      · have HPN : Hid (PairsTo (L.map putE) (m + 1 + 1)) := by
          refine pairsTo_succ HV.out.2 (p := putE p) (e := putE c) (by rw [List.getElem?_map, HPp.out]; rfl) (by rw [List.getElem?_map, HCc.out.1]; rfl) ?_
          rw [okPair_put]
          rcases keyCmp_vals (putE p) (putE c) with h | h | h
          · rw [h]; rfl
          · rw [HKc.out, h] at hneg; omega
          · rw [HKc.out, h] at hneg; omega
        refine wp_region_out (by kernel_rfl) (by kernel_rfl) ?_
        repeat (go_big_quiet_step ((first | (go_at_call 59; exact Calls.out_of (implPut_any _ _)) | (go_at_call 58; exact Calls.out_of (HVal.out _)) | (go_at_call 60; exact Calls.out_of (HCm.out _)))))
        refine wpQuiet_nil ?_
        rintro w2 ⟨⟨wx, hb2⟩, rfl⟩
        go_wp2_with fail
        go_roundw
        case rel => exact ⟨m + 1 + 1, by omega, by go_num, HVN.out, HPN.out, HW1.out.2.2.1.trans (hb2.mono HW1.out.2.2.1.size)⟩
        case measure => simp [intOf]; omega
    · have hkl : k = L.length := by omega
      have HF : Hid (GoodR (L.map putE)) := by
        refine ⟨⟨by rw [List.length_map]; omega, fun e he => ?_⟩, pairs_of_to HV.out.2 (by rw [List.length_map]; omega)⟩
        obtain ⟨x, hx, rfl⟩ := List.mem_map.1 he
        exact HV.out.1 x (by rw [List.take_of_length_le (by omega)]; exact hx)
      have zk : ¬ (k : Int) < (L.length : Int) := by omega
      clear hkl
      go_wp2_with fail
      go_ret
      exact ⟨_, rfl, iffT HF.out, hb⟩

set_option maxHeartbeats 1000000 in
theorem specCells_core (g cap : Nat) (L : List Ent) (base : Nat) (w : World) (hC : OwnC w base g cap L) (hok : ∀ e ∈ L, e.ok) (hn : L.length ≤ 1048576) :
    Calls Tryz.prog 24 #[.slice (some ⟨g, 0, none⟩) L.length cap] w (ValPost (GoodR (L.map putE)) w) := by
  have HC : Hid (OwnC w base g cap L ∧ ∀ e ∈ L, e.ok) := ⟨hC, hok⟩
  clear hC hok
  go_enter Tryz.func24, Tryz.ntmps24
  go_wp2_with fail
  refine (puts_core g cap L base w HC.out.1 hn).mono ?_
  rintro e w1 ⟨g1, cp1, rfl, hO1, hb1⟩
  have HO : Hid (OwnE w1 w.heap.size g1 cp1 (L.map putE) ∧ cp1 ≤ maxLen ∧ L.length ≤ cp1) := by
    refine ⟨hO1, ?_⟩
    rcases hO1.2 with ⟨h0, _⟩ | ⟨g', cap', cur, hv, _, _, hn, hcap, _, _⟩
    · cases h0
    · simp only [Value.slice.injEq, Option.some.injEq, Addr.mk.injEq, and_true, true_and] at hv
      obtain ⟨rfl, rfl⟩ := hv
      rw [List.length_map] at hn
      exact ⟨hcap, hn⟩
  have hl : L.length = (L.map putE).length := (List.length_map ..).symm
  have HV : Hid (Calls Tryz.prog 51 #[.agg #[.slice (some ⟨g1, 0, none⟩) L.length cp1]] w1 fun e w' => ∃ r : Bool, e = .returned (.bool r) ∧ (r = true ↔ GoodR (L.map putE)) ∧ Below w1.heap.size w1 w') := by
    show Calls _ _ _ _ _
    have := specValidRun_core g1 0 cp1 (L.map putE) w1 HO.out.1.at (fun e he => by obtain ⟨x, hx, rfl⟩ := List.mem_map.1 he; exact putE_ok (HC.out.2 x hx)) HO.out.1.lt.2 (by rw [List.length_map]; exact HO.out.2.2) HO.out.2.1
    rw [List.length_map] at this
    exact this
  clear hO1 hl
  go_wp2_with fail
  refine HV.out.mono ?_
  rintro e w2 ⟨r, rfl, hr, hb2⟩
  have HR : Hid (r = true ↔ GoodR (L.map putE)) := hr
  clear hr
  go_wp2_with fail
  go_ret
  exact ⟨r, rfl, HR.out, hb1.trans (hb2.mono hb1.size)⟩
end Go.Proofs.YtkidabedcgngcaaGreatDoor

/-
  spec.l5MeanAll, spec.Meaning.
-/
namespace Go.Proofs.YtkidabedcgngcaaGreatDoor
open Go.ChangeShapes Go.WideShapes Go.ChangeAt Go.RowKit Go.Deep
set_option linter.unusedVariables false
set_option linter.unusedSimpArgs false
set_option maxRecDepth 100000

theorem CelsAt.flat {w : World} {b off : Nat} {es : List Ent} (h : CelsAt w b off es) : ∀ (j : Nat) (u : Value), (cellsC es)[j]? = some u → w.cell? ⟨b, off + j, none⟩ = some u := by
  intro j u hu
  have hl := (List.getElem?_eq_some_iff.1 hu).1
  rw [length_cellsC] at hl
  have hk : j / 5 < es.length := by omega
  obtain ⟨e, he⟩ : ∃ e, es[j / 5]? = some e := ⟨_, List.getElem?_eq_getElem hk⟩
  have h5 := cellsC_get es (j / 5) e he (j % 5) (by omega)
  rw [show j / 5 * 5 + j % 5 = j by omega, hu] at h5
  obtain ⟨h0, h1, h2, h3, h4⟩ := h (j / 5) e he
  have hm : j % 5 < 5 := by omega
  have hj : off + j = off + j / 5 * 5 + j % 5 := by omega
  rw [hj]
  generalize j % 5 = r at h5 hm
  match r, hm, h5 with
  | 0, _, h5 => cases h5; exact h0
  | 1, _, h5 => cases h5; exact h1
  | 2, _, h5 => cases h5; exact h2
  | 3, _, h5 => cases h5; exact h3
  | 4, _, h5 => cases h5; exact h4
theorem five_one (es : List Ent) : ∀ u ∈ cellsC es, u.oneCell' = true := by
  intro u hu
  unfold cellsC at hu
  rw [List.mem_flatMap] at hu
  obtain ⟨e, _, h⟩ := hu
  simp at h
  rcases h with rfl | rfl | rfl | rfl | rfl <;> rfl
/-- Cells appended to a row of the call's own. -/
theorem wpList_append_cels {ops : Array Oper} {rest : List Oper} {o : Oper} {a : Act} {Q : Exit → Act → World → Prop} (w : World) (hgd : o.guard = none) (s x : Operand)
    (ho : o.op = .call { callee := .builtin .append, args := #[s, x], argTypes := #[28, 28] })
    (base g cp n b off m cx : Nat) (fs es : List Ent) (hs : a.eval s = .slice (some ⟨g, 0, none⟩) n cp) (hx : a.eval x = .slice (some ⟨b, off, none⟩) m cx) (hn : n = fs.length) (hm : m = es.length) (hO : OwnC w base g cp fs)
    (hc : CelsAt w b off es) (hlen : fs.length + es.length ≤ 2 ^ 30) (hbase : base ≤ w.heap.size)
    (h : ∀ g' cp' w', OwnC w' base g' cp' (fs ++ es) → w.grownBy w' (some g) → wpList Tryz.prog ops Q rest (a.put o.dst (.slice (some ⟨g', 0, none⟩) (n + m) cp')) w') : wpList Tryz.prog ops Q (o :: rest) a w := by
  obtain ⟨i, hi, hz0, hz1, hz2⟩ := info_parts Tryz.infoCel
  subst hn
  subst hm
  refine wpList_append_own w hgd s x 28 ho base 55 i _ 5 72 Tryz.underlying28 hi hz0 hz1 hz2 rfl (by decide) (.slice (some ⟨g, 0, none⟩) fs.length cp) fs.length (cellsC fs) hs hO ⟨b, off, none⟩ es.length cx (cellsC es) hx (length_cellsC es) ?_ (five_one es) ?_ ?_ hbase ?_
  · intro j u hu
    rw [Addr.add_mid]
    exact hc.flat j u hu
  · unfold maxLen; omega
  · omega
  · intro v' w' hown hgr hnil
    rw [← cellsC_append] at hown
    have hlen' : (fs ++ es).length = fs.length + es.length := by simp
    rcases hown.2 with ⟨hv, _⟩ | ⟨g', cap', cur, hv, h1, h2, h3⟩
    · have := (hnil.1 hv).1
      simp at this
    · subst hv
      exact h g' cap' w' (by unfold OwnC; rw [hlen']; exact hown) hgr
theorem cutsF_len (es : List Ent) : ∀ (f i : Nat), (cutsF es f i).length ≤ f
  | 0, i => Nat.le_refl _
  | f + 1, i => by
    unfold cutsF
    split
    · have := cutsF_len es f (rEnd es i)
      simp
      omega
    · simp
theorem rEndF_le (es : List Ent) (i : Nat) : ∀ (f k : Nat), k ≤ es.length → rEndF es i f k ≤ es.length
  | 0, k, h => h
  | f + 1, k, h => by
    unfold rEndF
    split
    · split
      · exact rEndF_le es i f (k + 1) (by omega)
      · exact h
    · exact h
theorem cutsF_mem (es : List Ent) : ∀ (f i : Nat) (p : Nat × Nat), p ∈ cutsF es f i → p.1 ≤ p.2 ∧ p.2 ≤ es.length
  | 0, i, p, h => by simp [cutsF] at h
  | f + 1, i, p, h => by
    unfold cutsF at h
    split at h
    · rename_i hi
      rcases List.mem_cons.1 h with rfl | h
      · exact ⟨Nat.le_of_lt (rEnd_gt hi), rEndF_le es i _ i (Nat.le_of_lt hi)⟩
      · exact cutsF_mem es f _ p h
    · simp at h
theorem flat_len {es : List Ent} {t : CT} (hS : Sub es es) (hl : es.length ≤ 10000) : ∀ (P : List (Nat × Nat)), (P.flatMap fun p => mean t (segE es p)).length ≤ P.length * 10000
  | [] => Nat.zero_le _
  | p :: P => by
    have ih := flat_len hS hl P (t := t)
    have h1 := (mean_sub t (segE_sub hS p)).len (segE_sub hS p).ord
    have h2 : (segE es p).length ≤ es.length := by unfold segE; rw [List.length_drop, List.length_take]; omega
    simp only [List.flatMap_cons, List.length_append, List.length_cons]
    omega
structure MaJ (w : World) (b off cap : Nat) (es : List Ent) (t : CT) (A : List (Nat × Nat)) (gr cr g cp i : Nat) (wr : World) : Prop where
  rows : OwnCs wr w.heap.size gr cr (A.map (segV b off cap))
  own : OwnC wr w.heap.size g cp ((A.take i).flatMap fun p => mean t (segE es p))
  below : Below w.heap.size w wr
set_option maxHeartbeats 4000000 in
theorem l5MeanAll_core {w : World} {nb no nc : Nat} {xs : List Nd} {t : CT} {b off cap : Nat} {es : List Ent} (hW : Win w nb no nc xs) (hT : TreeF xs t) (hsz : ∀ x ∈ xs, x.s.size ≤ maxLen) (h : CSl w b off cap es) (hS : Sub es es) (hl : es.length ≤ 10000) :
    Calls Tryz.prog 25 #[.slice (some ⟨nb, no, none⟩) xs.length nc, .slice (some ⟨b, off, none⟩) es.length cap] w fun e w' => ∃ g cp, e = .returned (.slice (some ⟨g, 0, none⟩) (meanAll t es).length cp) ∧ OwnC w' w.heap.size g cp (meanAll t es) ∧ Below w.heap.size w w' := by
  obtain ⟨A, hA⟩ : ∃ A, A = allC es 0 := ⟨_, rfl⟩
  have hAl : A.length ≤ 10000 := by rw [hA]; exact Nat.le_trans (cutsF_len es _ 0) (by omega)
  have HA : Hid (A = allC es 0 ∧ A.length ≤ 10000) := ⟨hA, hAl⟩
  have HMm : Hid (∀ p ∈ A, p.1 ≤ p.2 ∧ p.2 ≤ es.length) := fun p hp => cutsF_mem es _ 0 p (by rw [hA] at hp; exact hp)
  have HMA : Hid (meanAll t es = (A.take A.length).flatMap fun p => mean t (segE es p)) := by show _ = _; rw [List.take_length, hA]; rfl
  have HMe : Hid (∀ (wx : World) (rb ro rc : Nat) (fs : List Ent), Below w.heap.size w wx → CSl wx rb ro rc fs → Sub fs fs → fs.length ≤ 10000 → Calls Tryz.prog 54 #[.slice (some ⟨nb, no, none⟩) xs.length nc, .slice (some ⟨rb, ro, none⟩) fs.length rc] wx (MeP t fs wx)) := fun wx rb ro rc fs hx hC hs hl => mean_all xs.length wx nb no nc xs t rb ro rc fs (Nat.le_refl _) (hW.below hx) hT hsz hC hs hl
  have HR : Hid (CSl w b off cap es ∧ Sub es es ∧ es.length ≤ 10000) := ⟨h, hS, hl⟩
  obtain ⟨W0, hW0⟩ : ∃ W0 : World, W0 = w.alloc (Obj.cells #[] 55) := ⟨_, rfl⟩
  have HO0 : Hid (OwnC W0 w.heap.size w.heap.size 0 [] ∧ Below w.heap.size w W0) := by rw [hW0]; exact ⟨ownC_new w, (Below.refl _ _).alloc (Nat.le_refl _) _⟩
  have HRw : Hid (Calls Tryz.prog 53 #[.slice (some ⟨b, off, none⟩) es.length cap] W0 fun e w' => ∃ g cp, e = .returned (.slice (some ⟨g, 0, none⟩) A.length cp) ∧ OwnCs w' W0.heap.size g cp (A.map (segV b off cap)) ∧ Below W0.heap.size W0 w') := by
    rw [hA]; exact l5Rows_core (h.below HO0.out.2) (by omega)
  obtain ⟨N, hN⟩ : ∃ N, N = es.length := ⟨_, rfl⟩
  obtain ⟨L, hL⟩ : ∃ L, L = xs.length := ⟨_, rfl⟩
  obtain ⟨K, hK⟩ : ∃ K, K = A.length := ⟨_, rfl⟩
  have HKl : Hid (K = A.length) := hK
  rw [← hN] at HRw ⊢
  rw [← hL] at HMe ⊢
  rw [← hK] at HRw hAl HMA
  clear hW hT hsz h hS hl hA hN hL hK
  go_enter Tryz.func25, Tryz.ntmps25
  go_wp2_with fail
  rw [← hW0]
  clear hW0
  refine HRw.out.mono ?_
  rintro e w1 ⟨gr, cr, rfl, hO1, hb1⟩
  have HJ0 : Hid (MaJ w b off cap es t A gr cr w.heap.size 0 0 w1) := by
    refine ⟨?_, HO0.out.1.below hb1 HO0.out.1.lt.2, HO0.out.2.trans (hb1.mono HO0.out.2.size)⟩
    have hz := HO0.out.2.size
    rcases hO1.2 with ⟨q, _⟩ | ⟨g9, cap9, cur, hv, q1, q2⟩
    · cases q
    · exact ⟨hO1.1, .inr ⟨g9, cap9, cur, hv, by omega, q2⟩⟩
  clear hO1 hb1 HRw HO0
  go_wp2_with fail
  go_loopw [5, 7] (fun o iv wr => ∃ (i g cp m : Nat), i ≤ K ∧ iv = .int .i64 (i : Int) ∧ o = .slice (some ⟨g, 0, none⟩) m cp ∧ Hid (m = ((A.take i).flatMap fun p => mean t (segE es p)).length ∧ MaJ w b off cap es t A gr cr g cp i wr)) (fun _ iv _ => K - (intOf iv).toNat)
  case atStart => exact ⟨0, w.heap.size, 0, 0, Nat.zero_le _, rfl, rfl, rfl, HJ0.out⟩
  case round =>
    obtain ⟨i, g, cp, m, hiK, rfl, rfl, HJ⟩ := hrel
    by_cases hlt : i < K
    · have zi : (i : Int) < (K : Int) := by omega
      obtain ⟨⟨p1, p2⟩, hp⟩ : ∃ p, A[i]? = some p := ⟨_, List.getElem?_eq_getElem (by have := HKl.out; omega)⟩
      have hpm := HMm.out (p1, p2) (List.mem_of_getElem? hp)
      have HStep : Hid (((A.take (i + 1)).flatMap fun p => mean t (segE es p)) = ((A.take i).flatMap fun p => mean t (segE es p)) ++ mean t (segE es (p1, p2))) := by
        show _ = _
        rw [List.take_add_one, hp, Option.toList_some, List.flatMap_append]
        simp
      have hml : m ≤ 100000000 := by
        rw [HJ.out.1]
        refine Nat.le_trans (flat_len HR.out.2.1 HR.out.2.2 _) ?_
        rw [List.length_take]
        have := HA.out.2
        omega
      have hgl := HJ.out.2.own.lt
      have hbz := HJ.out.2.below.size
      have c0 : wr.cell? ⟨gr, i, none⟩ = some (.slice (some ⟨b, off + p1 * 5, none⟩) (p2 - p1) (cap - p1)) := HJ.out.2.rows.cell (by rw [List.getElem?_map, hp]; rfl)
      have hseg := segE_sub HR.out.2.1 (p1, p2)
      have hsl : (segE es (p1, p2)).length = p2 - p1 := segE_len hpm.2
      have hml2 : (mean t (segE es (p1, p2))).length ≤ 10000 := by
        have h8 := (mean_sub t hseg).len hseg.ord
        have h9 := HR.out.2.2
        rw [hsl] at h8
        omega
      have HCall : Hid (Calls Tryz.prog 54 #[.slice (some ⟨nb, no, none⟩) L nc, .slice (some ⟨b, off + p1 * 5, none⟩) (p2 - p1) (cap - p1)] wr (MeP t (segE es (p1, p2)) wr)) := by
        have h9 := HMe.out wr b (off + p1 * 5) (cap - p1) (segE es (p1, p2)) HJ.out.2.below ((HR.out.1.below HJ.out.2.below).seg hpm.1 hpm.2) hseg (by rw [hsl]; have := HR.out.2.2; omega)
        rw [hsl] at h9
        exact h9
      obtain ⟨ml, hmle⟩ : ∃ ml, ml = (mean t (segE es (p1, p2))).length := ⟨_, rfl⟩
      have HMl : Hid (ml = (mean t (segE es (p1, p2))).length) := hmle
      rw [← hmle] at hml2
      clear hp hpm hseg hsl hmle
      go_wp2_with fail
      refine HCall.out.mono ?_
      rintro e w3 ⟨g3, cp3, rfl, H3⟩
      have HM3 : Hid (MaJ w b off cap es t A gr cr g cp i w3) := by
        have hb3 := H3.out.2
        exact ⟨HJ.out.2.rows.below hb3, HJ.out.2.own.below hb3 hgl.2, HJ.out.2.below.trans (hb3.mono hbz)⟩
      have HKm : Hid (m = ((A.take i).flatMap fun p => mean t (segE es p)).length) := HJ.out.1
      have hz3 := H3.out.2.size
      rw [← HMl.out]
      clear c0 HJ
      go_wp2_with (at_builtin; refine wpList_append_cels _ rfl _ _ rfl w.heap.size g cp _ _ _ _ _ ((A.take i).flatMap fun p => mean t (segE es p)) (mean t (segE es (p1, p2))) rfl rfl HKm.out HMl.out ?hO ?hc ?hl ?hb ?_)
      case hO => exact HM3.out.own
      case hc => exact H3.out.1.at
      case hl => rw [← HKm.out, ← HMl.out]; omega
      case hb => omega
      intro g' cp' w' hO' hgr
      have HN : Hid (m + ml = ((A.take (i + 1)).flatMap fun p => mean t (segE es p)).length ∧ MaJ w b off cap es t A gr cr g' cp' (i + 1) w') := by
        have hc' : Chg (fun k => k = g) w3 w' := Chg.of_grown hgr (fun k q => by cases q; rfl)
        have hne : ¬ gr = g := fun q => own_apart HM3.out.own HM3.out.rows (by decide) g rfl (by rw [← q]; rfl)
        refine ⟨by rw [HStep.out, List.length_append, ← HKm.out, ← HMl.out], ?_, ?_, ?_⟩
        · exact own_chg HM3.out.rows hc' (fun k q => by simp [Value.ownBlock] at q; subst q; exact hne)
        · rw [HStep.out]; exact hO'
        · exact HM3.out.below.grown hgr HM3.out.below.size (fun j hj => by cases hj; omega)
      clear hO' hgr
      go_wp2_with fail
      go_roundw
      case rel => exact ⟨i + 1, g', cp', m + ml, by omega, by go_num, rfl, HN.out⟩
      case measure => go_light; simp [intOf]; omega
    · obtain rfl : i = K := by omega
      have zi : ¬ (i : Int) < (i : Int) := by omega
      go_wp2_with fail
      go_ret
      refine ⟨g, cp, ?_, ?_, HJ.out.2.below⟩
      · rw [HMA.out, ← HJ.out.1]; rfl
      · rw [HMA.out]; exact HJ.out.2.own
end Go.Proofs.YtkidabedcgngcaaGreatDoor

/-
  spec.Meaning.
-/
namespace Go.Proofs.YtkidabedcgngcaaGreatDoor
open Go.ChangeShapes Go.WideShapes Go.ChangeAt Go.RowKit Go.Deep
set_option linter.unusedVariables false
set_option linter.unusedSimpArgs false
set_option maxRecDepth 100000

/-- What Meaning comes to. -/
def MeaOf (xs : List Nd) (es R : List Ent) : Prop := (¬ (GoodF xs ∧ GoodR es) ∧ R = []) ∨ ((GoodF xs ∧ GoodR es) ∧ ∃ t, TreeF xs t ∧ R = meanAll t es)
theorem meaOf_one {xs : List Nd} {es R T : List Ent} (h : MeaOf xs es R) (k : MeaOf xs es T) : R = T := by
  rcases h with ⟨h1, rfl⟩ | ⟨h1, t, ht, rfl⟩
  · rcases k with ⟨_, rfl⟩ | ⟨k1, _⟩
    · rfl
    · exact absurd k1 h1
  · rcases k with ⟨k1, _⟩ | ⟨_, u, hu, rfl⟩
    · exact absurd h1 k1
    · rw [treeF_one ht hu]
theorem goodF_tree {xs : List Nd} (h : GoodF xs) : ∃ t, TreeF xs t := by
  obtain ⟨_, s, hs, _⟩ := h
  exact treeF_ex (ShT.tree goodB hs)
theorem sub_good {es : List Ent} (h : GoodR es) (hk : ∀ e ∈ es, e.kind = 0) (hok : ∀ e ∈ es, e.ok) : Sub es es := ⟨ord_of_good h, fun x hx => ⟨x, hx, keyCmp_self x⟩, hk, hok⟩
theorem put_self {es : List Ent} (hk : ∀ e ∈ es, e.kind = 0) : es.map putE = es := by
  conv => rhs; rw [← List.map_id es]
  refine List.map_congr_left fun e he => ?_
  have := hk e he
  cases e
  simp only [putE, id] at *
  subst this
  rfl
def MeaP (xs : List Nd) (es : List Ent) (w : World) (e : Ending) (w' : World) : Prop := ∃ g cp R, e = .returned (.slice (some ⟨g, 0, none⟩) R.length cp) ∧ Hid (MeaOf xs es R ∧ OwnC w' w.heap.size g cp R ∧ Below w.heap.size w w')
set_option maxHeartbeats 4000000 in
theorem specMeaning_win {w : World} {g o cp : Nat} {xs : List Nd} (h : WdN w g o cp xs) (hok : ∀ e ∈ xs, e.ok) {bc gc cc : Nat} {es : List Ent} (hC : OwnC w bc gc cc es) (hoe : ∀ e ∈ es, e.ok) (hk : ∀ e ∈ es, e.kind = 0) (hl : es.length ≤ 1048576) :
    Calls Tryz.prog 7 #[.agg #[.slice (some ⟨g, o, none⟩) xs.length cp], .slice (some ⟨gc, 0, none⟩) es.length cc] w (MeaP xs es w) := by
  have HO : Hid (WdN w g o cp xs ∧ (∀ e ∈ xs, e.ok) ∧ OwnC w bc gc cc es ∧ (∀ e ∈ es, e.ok) ∧ (∀ e ∈ es, e.kind = 0)) := ⟨h, hok, hC, hoe, hk⟩
  obtain ⟨n, hn⟩ : ∃ n, n = xs.length := ⟨_, rfl⟩
  obtain ⟨N, hN⟩ : ∃ N, N = es.length := ⟨_, rfl⟩
  have HN : Hid (n = xs.length ∧ N = es.length) := ⟨hn, hN⟩
  obtain ⟨W0, hW0⟩ : ∃ W0 : World, W0 = w.alloc (Obj.cells #[.slice (some ⟨g, o, none⟩) n cp] 32) := ⟨_, rfl⟩
  have hb0 : Below w.heap.size w W0 := by rw [hW0]; exact (Below.refl _ _).alloc (Nat.le_refl _) _
  have HB0 : Hid (BoxAt W0 w.heap.size 32 1 w.heap.size [.slice (some ⟨g, o, none⟩) n cp] ∧ Below w.heap.size w W0) := ⟨by rw [hW0]; exact boxAt_new w _ (Nat.le_refl _) rfl, hb0⟩
  have HF : Hid (Calls Tryz.prog 19 #[.agg #[.slice (some ⟨g, o, none⟩) n cp]] W0 (FltPost xs W0)) := by
    rw [hn]; exact specFilter_win (h.below hb0 h.lt) hok
  have HV : Hid (∀ wx, Below w.heap.size w wx → Calls Tryz.prog 24 #[.slice (some ⟨gc, 0, none⟩) N cc] wx (ValPost (GoodR es) wx)) := fun wx hx => by
    have h9 := specCells_core gc cc es bc wx (hC.below hx hC.lt.2) hoe hl
    rw [put_self hk] at h9
    rw [hN]; exact h9
  rw [← hn, ← hN]
  rw [← hN] at hl
  clear h hok hC hoe hk hn hN hb0
  have c0 := HB0.out.1.cell (j := 0) rfl
  go_enter Tryz.func7, Tryz.ntmps7
  go_upto_region 1 with fail
  rw [← hW0]
  clear hW0
  go_wp2_with fail
  refine HF.out.mono ?_
  rintro e w1 ⟨r, rfl, hr, hb1⟩
  have HR1 : Hid ((r = true ↔ GoodF xs) ∧ BoxAt w1 w.heap.size 32 1 w.heap.size [.slice (some ⟨g, o, none⟩) n cp] ∧ Below w.heap.size w w1) := ⟨hr, HB0.out.1.below hb1, HB0.out.2.trans (hb1.mono HB0.out.2.size)⟩
  clear hr hb1 HF c0
  cases r
  case false =>
    have HE : Hid (MeaOf xs es [] ∧ OwnC (w1.alloc (Obj.cells #[] 55)) w.heap.size w1.heap.size 0 [] ∧ Below w.heap.size w (w1.alloc (Obj.cells #[] 55))) :=
      ⟨.inl ⟨fun q => Bool.noConfusion (HR1.out.1.2 q.1), rfl⟩, (ownC_new w1).mono HR1.out.2.2.size, HR1.out.2.2.alloc HR1.out.2.2.size _⟩
    go_wp2_with fail
    go_ret
    exact ⟨w1.heap.size, 0, [], rfl, HE.out⟩
  case true =>
  have HV1 : Hid (Calls Tryz.prog 24 #[.slice (some ⟨gc, 0, none⟩) N cc] w1 (ValPost (GoodR es) w1)) := HV.out w1 HR1.out.2.2
  go_wp2_with fail
  refine HV1.out.mono ?_
  rintro e w2 ⟨r2, rfl, hr2, hb2⟩
  have HR2 : Hid ((r2 = true ↔ GoodR es) ∧ BoxAt w2 w.heap.size 32 1 w.heap.size [.slice (some ⟨g, o, none⟩) n cp] ∧ Below w.heap.size w w2) := ⟨hr2, HR1.out.2.1.below hb2, HR1.out.2.2.trans (hb2.mono HR1.out.2.2.size)⟩
  clear hr2 hb2 HV1
  cases r2
  case false =>
    have HE : Hid (MeaOf xs es [] ∧ OwnC (w2.alloc (Obj.cells #[] 55)) w.heap.size w2.heap.size 0 [] ∧ Below w.heap.size w (w2.alloc (Obj.cells #[] 55))) :=
      ⟨.inl ⟨fun q => Bool.noConfusion (HR2.out.1.2 q.2), rfl⟩, (ownC_new w2).mono HR2.out.2.2.size, HR2.out.2.2.alloc HR2.out.2.2.size _⟩
    go_wp2_with fail
    go_ret
    exact ⟨w2.heap.size, 0, [], rfl, HE.out⟩
  case true =>
  have hgf : GoodF xs := by have h9 := HR1.out.1; simpa using h9
  have hgr : GoodR es := by have h9 := HR2.out.1; simpa using h9
  obtain ⟨t, ht⟩ := goodF_tree hgf
  have HT : Hid (MeaOf xs es (meanAll t es)) := .inr ⟨⟨hgf, hgr⟩, t, ht, rfl⟩
  have HA : Hid (Calls Tryz.prog 25 #[.slice (some ⟨g, o, none⟩) n cp, .slice (some ⟨gc, 0, none⟩) N cc] w2 fun e w' => ∃ g cp, e = .returned (.slice (some ⟨g, 0, none⟩) (meanAll t es).length cp) ∧ OwnC w' w2.heap.size g cp (meanAll t es) ∧ Below w2.heap.size w2 w') := by
    rw [HN.out.1, HN.out.2]
    have hNd := HO.out.1.below HR2.out.2.2 HO.out.1.lt
    have hCe := HO.out.2.2.1.below HR2.out.2.2 HO.out.2.2.1.lt.2
    exact l5MeanAll_core ⟨hNd.at, hNd.lt, hNd.caps.1, by have h8 := hNd.caps.2; unfold maxLen at h8; omega, by have h8 := hgf.1; omega⟩ ht (fun x hx => (HO.out.2.1 x hx).s) hCe.sl (sub_good hgr HO.out.2.2.2.2 HO.out.2.2.2.1) hgr.1.1
  have c0 := HR2.out.2.1.cell (j := 0) rfl
  clear hgf hgr ht
  go_wp2_with fail
  refine HA.out.mono ?_
  rintro e w3 ⟨g3, cp3, rfl, hO3, hb3⟩
  have HE : Hid (MeaOf xs es (meanAll t es) ∧ OwnC w3 w.heap.size g3 cp3 (meanAll t es) ∧ Below w.heap.size w w3) := ⟨HT.out, hO3.mono HR2.out.2.2.size, HR2.out.2.2.trans (hb3.mono HR2.out.2.2.size)⟩
  clear hO3 hb3
  go_wp2_with fail
  go_ret
  exact ⟨g3, cp3, meanAll t es, rfl, HE.out⟩
theorem specMeaning_core {w : World} {base g cp : Nat} {xs : List Nd} (h : OwnNd w base g cp xs) (hok : ∀ e ∈ xs, e.ok) (hc : cp ≤ 281474976710656) {bc gc cc : Nat} {es : List Ent} (hC : OwnC w bc gc cc es) (hoe : ∀ e ∈ es, e.ok) (hk : ∀ e ∈ es, e.kind = 0) (hl : es.length ≤ 1048576) :
    Calls Tryz.prog 7 #[.agg #[.slice (some ⟨g, 0, none⟩) xs.length cp], .slice (some ⟨gc, 0, none⟩) es.length cc] w (MeaP xs es w) := specMeaning_win h.wd hok hC hoe hk hl
end Go.Proofs.YtkidabedcgngcaaGreatDoor

