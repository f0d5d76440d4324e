import Derived.Test.YtkidabedcgngcaaGreatDoorPkAY
/-
  The steps of operators.
-/
namespace Go.Proofs.YtkidabedcgngcaaGreatDoor
open Go.ChangeShapes Go.WideShapes Go.ChangeAt Go.RowKit Go.Deep
set_option linter.unusedVariables false
set_option linter.unusedSimpArgs false
set_option maxRecDepth 100000

def CallOk (k : Nat) : Prop := ∀ (args : Array Value) (w : World), (callFunc k args).run Tryz.prog w = .ok (.enter k args) w
theorem callOk0 : CallOk 66 := fun args w => by kernel_rfl
theorem callOk1 : CallOk 62 := fun args w => by kernel_rfl
theorem callOk2 : CallOk 63 := fun args w => by kernel_rfl
theorem callOk3 : CallOk 67 := fun args w => by kernel_rfl
theorem callOk4 : CallOk 69 := fun args w => by kernel_rfl
theorem callOk5 : CallOk 70 := fun args w => by kernel_rfl
theorem callOk6 : CallOk 72 := fun args w => by kernel_rfl
theorem callOk7 : CallOk 102 := fun args w => by kernel_rfl
theorem StepAt.callOk {w : World} {t : CT} {R : Nat → Prop} {k : Nat} {caps : Array Value} (h : StepAt w t R (.func (Fn.func k) #[] caps)) : CallOk k := by
  cases t with
  | leaf n =>
    have h' : LeafAt w n R (.func (Fn.func k) #[] caps) := h
    clear h
    cases h' with
    | strip h => exact callOk0
    | vers h h1 p hp hb => exact callOk3
    | cells h h1 p hp hb => exact callOk4
    | skip h h1 p hp hb => exact callOk5
    | test h p l m mp hp hl hi hb hT => exact callOk6
  | chain n a b =>
    obtain ⟨A, B, pa, pb, ka, ca, kb, cb, h1, h2, h2', h3, h3', h5, _⟩ := h
    cases h5
    exact callOk1
  | inter n a b =>
    obtain ⟨A, B, pa, pb, ka, ca, kb, cb, h1, h2, h2', h3, h3', h5, _⟩ := h
    cases h5
    exact callOk2
  | cond n p a b =>
    obtain ⟨P, A, B, pp, pa, pb, kp, cp, ka, ca, kb, cb, h1, h4, h5, h6, h7, _⟩ := h
    cases h7
    exact callOk7

theorem rowIn_chg {w w' : World} {R A : Nat → Prop} {rb ro rc : Nat} {es : List Ent} (h : RowIn w R rb ro rc es) (hc : Chg A w w') (hA : ∀ k, A k → R k) : RowIn w' R rb ro rc es := ⟨h.sl.chg hc (fun z => h.off (hA _ z)), h.off, h.sub, h.same, h.len⟩
theorem rowIn_sub {w : World} {R A : Nat → Prop} {rb ro rc : Nat} {es : List Ent} (h : RowIn w R rb ro rc es) (hA : ∀ k, A k → R k) : RowIn w A rb ro rc es := ⟨h.sl, fun z => h.off (hA _ z), h.sub, h.same, h.len⟩
theorem rowIn_mean {w w' : World} {R : Nat → Prop} {rb ro rc : Nat} {es : List Ent} (t : CT) (h : RowIn w R rb ro rc es) {b o c : Nat} (hs : CSl w' b o c (mean t es)) (hb : b = rb ∨ w.heap.size ≤ b) (hh : ∀ k, R k → k < w.heap.size) : RowIn w' R b o c (mean t es) := by
  have hm := mean_sub t h.sub
  refine ⟨hs, fun z => ?_, hm.self, hm.sameRow h.same, Nat.le_trans (hm.len h.sub.ord) h.len⟩
  rcases hb with rfl | hb
  · exact h.off z
  · have := hh _ z; omega
set_option maxHeartbeats 4000000 in
theorem step_chain (n : Nd) {a b : CT} (Ha : StC a) (Hb : StC b) : StC (.chain n a b) := by
  intro w R k caps rb ro rc es hS hh hV hR
  obtain ⟨A, B, pa, pb, ka, ca, kb, cb, h1, h2, h2', h3, h3', h5, h6, h7, h8, h9⟩ := hS
  cases h5
  have HS : Hid (Twp R A B ∧ (Osd R A pa ∧ Osd R B pa) ∧ (Osd R A pb ∧ Osd R B pb) ∧ BoxAt w 0 58 1 pa [.func (Fn.func ka) #[] ca] ∧ BoxAt w 0 58 1 pb [.func (Fn.func kb) #[] cb] ∧ StepAt w b B (.func (Fn.func kb) #[] cb)) := ⟨h1, ⟨h2, h2'⟩, ⟨h3, h3'⟩, h6, h7, h9⟩
  have HR : Hid (RowIn w R rb ro rc es ∧ (∀ k, R k → k < w.heap.size) ∧ ¬ R 1) := ⟨hR, hh, hV⟩
  have hd : Below w.heap.size w w.drew := (Below.refl _ _).drew
  have HA : Hid (Calls Tryz.prog ka (#[.slice (some ⟨rb, ro, none⟩) es.length rc] ++ ca) w.drew (StpP a A (.func (Fn.func ka) #[] ca) rb es w.drew)) := Ha w.drew A ka ca rb ro rc es (h8.below hd) (fun k z => hh k (h1.a k z)) (fun z => hV (h1.a _ z)) (rowIn_sub ⟨hR.sl.below hd, hR.off, hR.sub, hR.same, hR.len⟩ h1.a)
  have hS0 : (fun w' : World => w'.cell? ⟨pa, 0, none⟩ = some (.func (Fn.func ka) #[] ca) ∧ w'.cell? ⟨pb, 0, none⟩ = some (.func (Fn.func kb) #[] cb)) w.drew := ⟨h6.cell (j := 0) rfl, h7.cell (j := 0) rfl⟩
  have hka : ∀ (args : Array Value) (w : World), (callFunc ka args).run Tryz.prog w = .ok (.enter ka args) w := h8.callOk
  have hkb : ∀ (args : Array Value) (w : World), (callFunc kb args).run Tryz.prog w = .ok (.enter kb args) w := h9.callOk
  obtain ⟨N, hN⟩ : ∃ N, N = es.length := ⟨_, rfl⟩
  have HNl : Hid (N = es.length) := hN
  rw [← hN] at HA ⊢
  clear h1 h2 h2' h3 h3' h6 h7 h8 h9 hR hh hV hN
  show Calls Tryz.prog 62 #[.slice (some ⟨rb, ro, none⟩) N rc, ptrC pb, ptrC pa] w _
  go_enter Tryz.func62, Tryz.ntmps62
  go_upto_region 1 with fail
  refine wp_region_T 99 (fun w' : World => w'.cell? ⟨pa, 0, none⟩ = some (.func (Fn.func ka) #[] ca) ∧ w'.cell? ⟨pb, 0, none⟩ = some (.func (Fn.func kb) #[] cb)) (by kernel_rfl) ?_
  refine anyT_takeN (i := 0) (v := ?vsc0) rfl (by kernel_rfl) (by kernel_rfl) (by kernel_rfl) (by rfl) (fun _ _ _ h => h) (Or.inl ⟨by rfl, ?ysc0⟩) hS0 ?_
  case ysc0 => (intro wz hSw; obtain ⟨hz0, hz1⟩ := hSw; go_simp; (try with_reducible rfl))
  try simp only [Act.put, List.getElem_toArray, List.getElem_cons_zero, List.getElem_cons_succ, List.setIfInBounds_toArray, List.set_cons_zero, List.set_cons_succ]
  refine anyT_takeN (i := 1) (v := ?vsc1) rfl (by kernel_rfl) (by kernel_rfl) (by kernel_rfl) (by rfl) (fun _ _ _ h => h) (Or.inl ⟨by rfl, ?ysc1⟩) hS0 ?_
  case ysc1 => (intro wz hSw; obtain ⟨hz0, hz1⟩ := hSw; go_simp; (try with_reducible rfl))
  try simp only [Act.put, List.getElem_toArray, List.getElem_cons_zero, List.getElem_cons_succ, List.setIfInBounds_toArray, List.set_cons_zero, List.set_cons_succ]
  refine anyT_takeN (i := 2) (v := ?vsc2) rfl (by kernel_rfl) (by kernel_rfl) (by kernel_rfl) (by rfl) (fun _ _ _ h => h) (Or.inl ⟨by rfl, ?ysc2⟩) hS0 ?_
  case ysc2 => (intro wz hSw; obtain ⟨hz0, hz1⟩ := hSw; go_simp; (try with_reducible rfl))
  try simp only [Act.put, List.getElem_toArray, List.getElem_cons_zero, List.getElem_cons_succ, List.setIfInBounds_toArray, List.set_cons_zero, List.set_cons_succ]
  refine anyT_one (i := 3) (by kernel_rfl) rfl (fun K hK => ?_)
  go_simp
  refine HA.out.mono ?_
  rintro e w1 ⟨b1, o1, c1, rfl, H1⟩
  have hc1 : Chg A w w1 := (Chg.of_below hd).trans H1.out.2.2.2
  have hx1 : Hid (BoxAt w1 0 58 1 pa [.func (Fn.func ka) #[] ca] ∧ BoxAt w1 0 58 1 pb [.func (Fn.func kb) #[] cb] ∧ StepAt w1 b B (.func (Fn.func kb) #[] cb) ∧ RowIn w1 R rb ro rc es ∧ RowIn w1 R b1 o1 c1 (mean a es) ∧ (∀ k, R k → k < w1.heap.size) ∧ Chg A w w1) := by
    have h8 := HS.out
    have hr := HR.out
    exact ⟨h8.2.2.2.1.chg hc1 h8.2.1.1.out, h8.2.2.2.2.1.chg hc1 h8.2.2.1.1.out, h8.2.2.2.2.2.chg hc1 (fun z => hr.2.2 (h8.1.a _ z)) h8.1.d, rowIn_chg hr.1 hc1 h8.1.a, rowIn_mean a hr.1 H1.out.1 H1.out.2.1 hr.2.1, fun k z => Nat.lt_of_lt_of_le (hr.2.1 k z) hc1.size, hc1⟩
  have hS1 : (fun w' : World => w'.cell? ⟨pa, 0, none⟩ = some (.func (Fn.func ka) #[] ca) ∧ w'.cell? ⟨pb, 0, none⟩ = some (.func (Fn.func kb) #[] cb)) w1 := ⟨hx1.out.1.cell (j := 0) rfl, hx1.out.2.1.cell (j := 0) rfl⟩
  have HB : Hid (Calls Tryz.prog kb (#[.slice (some ⟨b1, o1, none⟩) (mean a es).length c1] ++ cb) w1 (StpP b B (.func (Fn.func kb) #[] cb) b1 (mean a es) w1)) := Hb w1 B kb cb b1 o1 c1 (mean a es) hx1.out.2.2.1 (fun k z => hx1.out.2.2.2.2.2.1 k (HS.out.1.b k z)) (fun z => HR.out.2.2 (HS.out.1.b _ z)) (rowIn_sub hx1.out.2.2.2.2.1 HS.out.1.b)
  clear hc1
  refine hK.out _ _ (.inr hS1) ?_
  clear hK
  try simp only [Act.put, List.getElem_toArray, List.getElem_cons_zero, List.getElem_cons_succ, List.setIfInBounds_toArray, List.set_cons_zero, List.set_cons_succ]
  refine anyT_one (i := 4) (by kernel_rfl) rfl (fun K hK => ?_)
  go_simp
  refine HB.out.mono ?_
  rintro e w2 ⟨b2, o2, c2, rfl, H2⟩
  have hc2 := H2.out.2.2.2
  have hS2 : (fun w' : World => w'.cell? ⟨pa, 0, none⟩ = some (.func (Fn.func ka) #[] ca) ∧ w'.cell? ⟨pb, 0, none⟩ = some (.func (Fn.func kb) #[] cb)) w2 := ⟨(hx1.out.1.chg hc2 HS.out.2.1.2.out).cell (j := 0) rfl, (hx1.out.2.1.chg hc2 HS.out.2.2.1.2.out).cell (j := 0) rfl⟩
  have HE : Hid (StpP (.chain n a b) R (.func (Fn.func 62) #[] #[ptrC pb, ptrC pa]) rb es w (.returned (.slice (some ⟨b2, o2, none⟩) (mean b (mean a es)).length c2)) w2) := by
    have h8 := HS.out
    have hr := HR.out
    have hc1 := hx1.out.2.2.2.2.2.2
    refine ⟨b2, o2, c2, rfl, H2.out.1, ?_, ⟨A, B, pa, pb, ka, ca, kb, cb, h8.1, h8.2.1.1, h8.2.1.2, h8.2.2.1.1, h8.2.2.1.2, rfl, hx1.out.1.chg hc2 h8.2.1.2.out, hx1.out.2.1.chg hc2 h8.2.2.1.2.out, ?_, H2.out.2.2.1⟩, ?_⟩
    · rcases H2.out.2.1 with z | z
      · rw [z]; exact H1.out.2.1
      · exact .inr (Nat.le_trans hc1.size z)
    · exact H1.out.2.2.1.chg hc2 (fun z => hr.2.2 (h8.1.b _ z)) (fun k z y => h8.1.d k y z)
    · exact (hc1.mono h8.1.a).trans (hc2.mono h8.1.b)
  clear hc2
  refine hK.out _ _ (.inr hS2) ?_
  clear hK
  try simp only [Act.put, List.getElem_toArray, List.getElem_cons_zero, List.getElem_cons_succ, List.setIfInBounds_toArray, List.set_cons_zero, List.set_cons_succ]
  refine anyT_takeN (i := 5) (v := ?vsc5) rfl (by kernel_rfl) (by kernel_rfl) (by kernel_rfl) (by rfl) (fun _ _ _ h => h) (Or.inl ⟨by rfl, ?ysc5⟩) hS2 ?_
  case ysc5 => (intro wz hSw; obtain ⟨hz0, hz1⟩ := hSw; go_simp; (try with_reducible rfl))
  try simp only [Act.put, List.getElem_toArray, List.getElem_cons_zero, List.getElem_cons_succ, List.setIfInBounds_toArray, List.set_cons_zero, List.set_cons_succ]
  refine anyT_done (by kernel_rfl) ?_
  go_wp2_with fail
  go_ret
  exact HE.out
set_option maxHeartbeats 4000000 in
theorem step_inter (n : Nd) {a b : CT} (Ha : StC a) (Hb : StC b) : StC (.inter n a b) := by
  intro w R k caps rb ro rc es hS hh hV hR
  obtain ⟨A, B, pa, pb, ka, ca, kb, cb, h1, h2, h2', h3, h3', h5, h6, h7, h8, h9⟩ := hS
  cases h5
  have HS : Hid (Twp R A B ∧ (Osd R A pa ∧ Osd R B pa) ∧ (Osd R A pb ∧ Osd R B pb) ∧ BoxAt w 0 58 1 pa [.func (Fn.func ka) #[] ca] ∧ BoxAt w 0 58 1 pb [.func (Fn.func kb) #[] cb] ∧ StepAt w b B (.func (Fn.func kb) #[] cb)) := ⟨h1, ⟨h2, h2'⟩, ⟨h3, h3'⟩, h6, h7, h9⟩
  have HR : Hid (RowIn w R rb ro rc es ∧ (∀ k, R k → k < w.heap.size) ∧ ¬ R 1) := ⟨hR, hh, hV⟩
  have hd : Below w.heap.size w w.drew := (Below.refl _ _).drew
  have HA : Hid (Calls Tryz.prog ka (#[.slice (some ⟨rb, ro, none⟩) es.length rc] ++ ca) w.drew (StpP a A (.func (Fn.func ka) #[] ca) rb es w.drew)) := Ha w.drew A ka ca rb ro rc es (h8.below hd) (fun k z => hh k (h1.a k z)) (fun z => hV (h1.a _ z)) (rowIn_sub ⟨hR.sl.below hd, hR.off, hR.sub, hR.same, hR.len⟩ h1.a)
  have hS0 : (fun w' : World => w'.cell? ⟨pa, 0, none⟩ = some (.func (Fn.func ka) #[] ca) ∧ w'.cell? ⟨pb, 0, none⟩ = some (.func (Fn.func kb) #[] cb)) w.drew := ⟨h6.cell (j := 0) rfl, h7.cell (j := 0) rfl⟩
  have hka : ∀ (args : Array Value) (w : World), (callFunc ka args).run Tryz.prog w = .ok (.enter ka args) w := h8.callOk
  have hkb : ∀ (args : Array Value) (w : World), (callFunc kb args).run Tryz.prog w = .ok (.enter kb args) w := h9.callOk
  obtain ⟨N, hN⟩ : ∃ N, N = es.length := ⟨_, rfl⟩
  have HNl : Hid (N = es.length) := hN
  rw [← hN] at HA ⊢
  clear h1 h2 h2' h3 h3' h6 h7 h8 h9 hR hh hV hN
  show Calls Tryz.prog 63 #[.slice (some ⟨rb, ro, none⟩) N rc, ptrC pa, ptrC pb] w _
  go_enter Tryz.func63, Tryz.ntmps63
  go_upto_region 1 with fail
  refine wp_region_T 99 (fun w' : World => w'.cell? ⟨pa, 0, none⟩ = some (.func (Fn.func ka) #[] ca) ∧ w'.cell? ⟨pb, 0, none⟩ = some (.func (Fn.func kb) #[] cb)) (by kernel_rfl) ?_
  refine anyT_takeN (i := 0) (v := ?vsi0) rfl (by kernel_rfl) (by kernel_rfl) (by kernel_rfl) (by rfl) (fun _ _ _ h => h) (Or.inl ⟨by rfl, ?ysi0⟩) hS0 ?_
  case ysi0 => (intro wz hSw; obtain ⟨hz0, hz1⟩ := hSw; go_simp; (try with_reducible rfl))
  try simp only [Act.put, List.getElem_toArray, List.getElem_cons_zero, List.getElem_cons_succ, List.setIfInBounds_toArray, List.set_cons_zero, List.set_cons_succ]
  refine anyT_takeN (i := 1) (v := ?vsi1) rfl (by kernel_rfl) (by kernel_rfl) (by kernel_rfl) (by rfl) (fun _ _ _ h => h) (Or.inl ⟨by rfl, ?ysi1⟩) hS0 ?_
  case ysi1 => (intro wz hSw; obtain ⟨hz0, hz1⟩ := hSw; go_simp; (try with_reducible rfl))
  try simp only [Act.put, List.getElem_toArray, List.getElem_cons_zero, List.getElem_cons_succ, List.setIfInBounds_toArray, List.set_cons_zero, List.set_cons_succ]
  refine anyT_takeN (i := 3) (v := ?vsi3) rfl (by kernel_rfl) (by kernel_rfl) (by kernel_rfl) (by rfl) (fun _ _ _ h => h) (Or.inl ⟨by rfl, ?ysi3⟩) hS0 ?_
  case ysi3 => (intro wz hSw; obtain ⟨hz0, hz1⟩ := hSw; go_simp; (try with_reducible rfl))
  try simp only [Act.put, List.getElem_toArray, List.getElem_cons_zero, List.getElem_cons_succ, List.setIfInBounds_toArray, List.set_cons_zero, List.set_cons_succ]
  refine anyT_takeN (i := 4) (v := ?vsi4) rfl (by kernel_rfl) (by kernel_rfl) (by kernel_rfl) (by rfl) (fun _ _ _ h => h) (Or.inl ⟨by rfl, ?ysi4⟩) hS0 ?_
  case ysi4 => (intro wz hSw; obtain ⟨hz0, hz1⟩ := hSw; go_simp; (try with_reducible rfl))
  try simp only [Act.put, List.getElem_toArray, List.getElem_cons_zero, List.getElem_cons_succ, List.setIfInBounds_toArray, List.set_cons_zero, List.set_cons_succ]
  refine anyT_one (i := 2) (by kernel_rfl) rfl (fun K hK => ?_)
  go_simp
  refine HA.out.mono ?_
  rintro e w1 ⟨b1, o1, c1, rfl, H1⟩
  have hc1 : Chg A w w1 := (Chg.of_below hd).trans H1.out.2.2.2
  have hx1 : Hid (BoxAt w1 0 58 1 pa [.func (Fn.func ka) #[] ca] ∧ BoxAt w1 0 58 1 pb [.func (Fn.func kb) #[] cb] ∧ StepAt w1 b B (.func (Fn.func kb) #[] cb) ∧ RowIn w1 R rb ro rc es ∧ RowIn w1 R b1 o1 c1 (mean a es) ∧ (∀ k, R k → k < w1.heap.size) ∧ Chg A w w1) := by
    have h8 := HS.out
    have hr := HR.out
    exact ⟨h8.2.2.2.1.chg hc1 h8.2.1.1.out, h8.2.2.2.2.1.chg hc1 h8.2.2.1.1.out, h8.2.2.2.2.2.chg hc1 (fun z => hr.2.2 (h8.1.a _ z)) h8.1.d, rowIn_chg hr.1 hc1 h8.1.a, rowIn_mean a hr.1 H1.out.1 H1.out.2.1 hr.2.1, fun k z => Nat.lt_of_lt_of_le (hr.2.1 k z) hc1.size, hc1⟩
  have hS1 : (fun w' : World => w'.cell? ⟨pa, 0, none⟩ = some (.func (Fn.func ka) #[] ca) ∧ w'.cell? ⟨pb, 0, none⟩ = some (.func (Fn.func kb) #[] cb)) w1 := ⟨hx1.out.1.cell (j := 0) rfl, hx1.out.2.1.cell (j := 0) rfl⟩
  have HB : Hid (Calls Tryz.prog kb (#[.slice (some ⟨rb, ro, none⟩) N rc] ++ cb) w1 (StpP b B (.func (Fn.func kb) #[] cb) rb es w1)) := by
    rw [HNl.out]; exact Hb w1 B kb cb rb ro rc es hx1.out.2.2.1 (fun k z => hx1.out.2.2.2.2.2.1 k (HS.out.1.b k z)) (fun z => HR.out.2.2 (HS.out.1.b _ z)) (rowIn_sub hx1.out.2.2.2.1 HS.out.1.b)
  clear hc1
  refine hK.out _ _ (.inr hS1) ?_
  clear hK
  try simp only [Act.put, List.getElem_toArray, List.getElem_cons_zero, List.getElem_cons_succ, List.setIfInBounds_toArray, List.set_cons_zero, List.set_cons_succ]
  refine anyT_one (i := 5) (by kernel_rfl) rfl (fun K hK => ?_)
  go_simp
  refine HB.out.mono ?_
  rintro e w2 ⟨b2, o2, c2, rfl, H2⟩
  have hc2 := H2.out.2.2.2
  have hS2 : (fun w' : World => w'.cell? ⟨pa, 0, none⟩ = some (.func (Fn.func ka) #[] ca) ∧ w'.cell? ⟨pb, 0, none⟩ = some (.func (Fn.func kb) #[] cb)) w2 := ⟨(hx1.out.1.chg hc2 HS.out.2.1.2.out).cell (j := 0) rfl, (hx1.out.2.1.chg hc2 HS.out.2.2.1.2.out).cell (j := 0) rfl⟩
  have HU : Hid (Calls Tryz.prog 64 #[.slice (some ⟨b1, o1, none⟩) (mean a es).length c1, .slice (some ⟨b2, o2, none⟩) (mean b es).length c2] w2 fun e w' => ∃ g cp, e = .returned (.slice (some ⟨g, 0, none⟩) (uniM (mean a es) (mean b es)).length cp) ∧ OwnC w' w2.heap.size g cp (uniM (mean a es) (mean b es)) ∧ Below w2.heap.size w2 w') := by
    have hr := HR.out.1
    have sa := mean_sub a hr.sub
    have sb' := mean_sub b hr.sub
    have la := sa.len hr.sub.ord
    have lb := sb'.len hr.sub.ord
    have le := hr.len
    exact unite_core ((hx1.out.2.2.2.2.1).sl.chg hc2 (fun z => hx1.out.2.2.2.2.1.off (HS.out.1.b _ z))) H2.out.1 sa.ord sb'.ord sa.kind sb'.kind (by omega) (by omega)
  clear hc2
  refine hK.out _ _ (.inr hS2) ?_
  clear hK
  try simp only [Act.put, List.getElem_toArray, List.getElem_cons_zero, List.getElem_cons_succ, List.setIfInBounds_toArray, List.set_cons_zero, List.set_cons_succ]
  refine anyT_one (i := 6) (by kernel_rfl) rfl (fun K hK => ?_)
  go_simp
  refine HU.out.mono ?_
  rintro e w3 ⟨g3, cp3, rfl, hO3, hb3⟩
  have hc2 := H2.out.2.2.2
  have hc3 : Chg B w1 w3 := hc2.trans (Chg.of_below hb3)
  have hS3 : (fun w' : World => w'.cell? ⟨pa, 0, none⟩ = some (.func (Fn.func ka) #[] ca) ∧ w'.cell? ⟨pb, 0, none⟩ = some (.func (Fn.func kb) #[] cb)) w3 := ⟨(hx1.out.1.chg hc3 HS.out.2.1.2.out).cell (j := 0) rfl, (hx1.out.2.1.chg hc3 HS.out.2.2.1.2.out).cell (j := 0) rfl⟩
  have HE : Hid (StpP (.inter n a b) R (.func (Fn.func 63) #[] #[ptrC pa, ptrC pb]) rb es w (.returned (.slice (some ⟨g3, 0, none⟩) (uniM (mean a es) (mean b es)).length cp3)) w3) := by
    have h8 := HS.out
    have hr := HR.out
    have hc1 := hx1.out.2.2.2.2.2.2
    refine ⟨g3, 0, cp3, rfl, hO3.sl, .inr ?_, ⟨A, B, pa, pb, ka, ca, kb, cb, h8.1, h8.2.1.1, h8.2.1.2, h8.2.2.1.1, h8.2.2.1.2, rfl, hx1.out.1.chg hc3 h8.2.1.2.out, hx1.out.2.1.chg hc3 h8.2.2.1.2.out, ?_, H2.out.2.2.1.below hb3⟩, ?_⟩
    · have := hO3.lt.1; have := hc1.size; have := hc2.size; omega
    · exact H1.out.2.2.1.chg hc3 (fun z => hr.2.2 (h8.1.b _ z)) (fun k z y => h8.1.d k y z)
    · exact (hc1.mono h8.1.a).trans (hc3.mono h8.1.b)
  clear hc2 hc3 hO3 hb3
  refine hK.out _ _ (.inr hS3) ?_
  clear hK
  try simp only [Act.put, List.getElem_toArray, List.getElem_cons_zero, List.getElem_cons_succ, List.setIfInBounds_toArray, List.set_cons_zero, List.set_cons_succ]
  refine anyT_takeN (i := 7) (v := ?vsi7) rfl (by kernel_rfl) (by kernel_rfl) (by kernel_rfl) (by rfl) (fun _ _ _ h => h) (Or.inl ⟨by rfl, ?ysi7⟩) hS3 ?_
  case ysi7 => (intro wz hSw; obtain ⟨hz0, hz1⟩ := hSw; go_simp; (try with_reducible rfl))
  try simp only [Act.put, List.getElem_toArray, List.getElem_cons_zero, List.getElem_cons_succ, List.setIfInBounds_toArray, List.set_cons_zero, List.set_cons_succ]
  refine anyT_done (by kernel_rfl) ?_
  go_wp2_with fail
  go_ret
  exact HE.out
set_option maxHeartbeats 4000000 in
theorem step_cond (n : Nd) {p a b : CT} (Hp : StC p) (Ha : StC a) (Hb : StC b) : StC (.cond n p a b) := by
  intro w R k caps rb ro rc es hS hh hV hR
  obtain ⟨P, A, B, pp, pa, pb, kp, cp, ka, ca, kb, cb, h1, h4, h5, h6, h7, h8, h9, g1, g2, g3, g4⟩ := hS
  cases h7
  have HS : Hid ((Twp R P A ∧ Twp R P B ∧ Twp R A B) ∧ (Osd R P pp ∧ Osd R A pp ∧ Osd R B pp) ∧ (Osd R P pa ∧ Osd R A pa ∧ Osd R B pa) ∧ (Osd R P pb ∧ Osd R A pb ∧ Osd R B pb)) := ⟨h1, h4, h5, h6⟩
  have HB0 : Hid (BoxAt w 0 58 1 pp [.func (Fn.func kp) #[] cp] ∧ BoxAt w 0 58 1 pa [.func (Fn.func ka) #[] ca] ∧ BoxAt w 0 58 1 pb [.func (Fn.func kb) #[] cb] ∧ StepAt w a A (.func (Fn.func ka) #[] ca) ∧ StepAt w b B (.func (Fn.func kb) #[] cb)) := ⟨h8, h9, g1, g3, g4⟩
  have HR : Hid (RowIn w R rb ro rc es ∧ (∀ k, R k → k < w.heap.size) ∧ ¬ R 1) := ⟨hR, hh, hV⟩
  have HP : Hid (Calls Tryz.prog kp (#[.slice (some ⟨rb, ro, none⟩) es.length rc] ++ cp) w (StpP p P (.func (Fn.func kp) #[] cp) rb es w)) := Hp w P kp cp rb ro rc es g2 (fun k z => hh k (h1.1.a k z)) (fun z => hV (h1.1.a _ z)) (rowIn_sub hR h1.1.a)
  have x0 := h8.cell (j := 0) rfl
  have hkp : ∀ (args : Array Value) (w : World), (callFunc kp args).run Tryz.prog w = .ok (.enter kp args) w := g2.callOk
  have hka : ∀ (args : Array Value) (w : World), (callFunc ka args).run Tryz.prog w = .ok (.enter ka args) w := g3.callOk
  have hkb : ∀ (args : Array Value) (w : World), (callFunc kb args).run Tryz.prog w = .ok (.enter kb args) w := g4.callOk
  obtain ⟨N, hN⟩ : ∃ N, N = es.length := ⟨_, rfl⟩
  have HNl : Hid (N = es.length) := hN
  rw [← hN] at HP ⊢
  clear h1 h4 h5 h6 h8 h9 g1 g2 g3 g4 hR hh hV hN
  show Calls Tryz.prog 102 #[.slice (some ⟨rb, ro, none⟩) N rc, ptrC pp, ptrC pa, ptrC pb] w _
  go_enter Tryz.func102, Tryz.ntmps102
  go_wp2_with fail
  refine HP.out.mono ?_
  rintro e w1 ⟨b1, o1, c1, rfl, H1⟩
  have hlp : (mean p es).length ≤ 10000 := by have h8 := (mean_sub p HR.out.1.sub).len HR.out.1.sub.ord; have h9 := HR.out.1.len; omega
  obtain ⟨Q, hQ⟩ : ∃ Q, Q = (mean p es).length := ⟨_, rfl⟩
  have HPl : Hid (Q = (mean p es).length) := hQ
  rw [← hQ] at hlp ⊢
  have HX : Hid (BoxAt w1 0 58 1 pp [.func (Fn.func kp) #[] cp] ∧ BoxAt w1 0 58 1 pa [.func (Fn.func ka) #[] ca] ∧ BoxAt w1 0 58 1 pb [.func (Fn.func kb) #[] cb] ∧ StepAt w1 a A (.func (Fn.func ka) #[] ca) ∧ StepAt w1 b B (.func (Fn.func kb) #[] cb) ∧ RowIn w1 R rb ro rc es ∧ (∀ k, R k → k < w1.heap.size)) := by
    have hc1 := H1.out.2.2.2
    have h8 := HS.out
    have hb := HB0.out
    have hr := HR.out
    have hv : ¬ P 1 := fun z => hr.2.2 (h8.1.1.a _ z)
    exact ⟨hb.1.chg hc1 h8.2.1.1.out, hb.2.1.chg hc1 h8.2.2.1.1.out, hb.2.2.1.chg hc1 h8.2.2.2.1.out, hb.2.2.2.1.chg hc1 hv h8.1.1.d, hb.2.2.2.2.chg hc1 hv h8.1.2.1.d, rowIn_chg hr.1 hc1 h8.1.1.a, fun k z => Nat.lt_of_lt_of_le (hr.2.1 k z) hc1.size⟩
  clear hQ x0
  by_cases hz : Q = 0
  · subst hz
    have HM : Hid (mean (.cond n p a b) es = mean b es) := by
      show mean (.cond n p a b) es = _
      have h0 : mean p es = [] := List.length_eq_zero_iff.1 HPl.out.symm
      conv => lhs; unfold mean
      rw [if_pos h0]
    have HC : Hid (Calls Tryz.prog kb (#[.slice (some ⟨rb, ro, none⟩) N rc] ++ cb) w1 (StpP b B (.func (Fn.func kb) #[] cb) rb es w1)) := by
      rw [HNl.out]; exact Hb w1 B kb cb rb ro rc es HX.out.2.2.2.2.1 (fun k z => HX.out.2.2.2.2.2.2 k (HS.out.1.2.1.b k z)) (fun z => HR.out.2.2 (HS.out.1.2.1.b _ z)) (rowIn_sub HX.out.2.2.2.2.2.1 HS.out.1.2.1.b)
    have x1 := HX.out.2.2.1.cell (j := 0) rfl
    go_wp2_with fail
    refine HC.out.mono ?_
    rintro e w2 ⟨b2, o2, c2, rfl, H2⟩
    have HE : Hid (StpP (.cond n p a b) R (.func (Fn.func 102) #[] #[ptrC pp, ptrC pa, ptrC pb]) rb es w (.returned (.slice (some ⟨b2, o2, none⟩) (mean b es).length c2)) w2) := by
      have hc1 := H1.out.2.2.2
      have hc2 := H2.out.2.2.2
      have h8 := HS.out
      have hr := HR.out
      have hv : ¬ B 1 := fun z => hr.2.2 (HS.out.1.2.1.b _ z)
      refine ⟨b2, o2, c2, by rw [HM.out], by rw [HM.out]; exact H2.out.1, ?_, ⟨P, A, B, pp, pa, pb, kp, cp, ka, ca, kb, cb, h8.1, h8.2.1, h8.2.2.1, h8.2.2.2, rfl, HX.out.1.chg hc2 h8.2.1.2.2.out, HX.out.2.1.chg hc2 h8.2.2.1.2.2.out, HX.out.2.2.1.chg hc2 h8.2.2.2.2.2.out, ?_, ?_, ?_⟩, ?_⟩
      · rcases H2.out.2.1 with z | z
        · exact .inl z
        · exact .inr (Nat.le_trans hc1.size z)
      · exact H1.out.2.2.1.chg hc2 hv (fun k z y => h8.1.2.1.d k y z)
      · exact HX.out.2.2.2.1.chg hc2 hv (fun k z y => h8.1.2.2.d k y z)
      · exact H2.out.2.2.1
      · exact (hc1.mono h8.1.1.a).trans (hc2.mono HS.out.1.2.1.b)
    go_wp2_with fail
    go_ret
    exact HE.out
  · have zp : (0 : Int) < (Q : Int) := by omega
    have HM : Hid (mean (.cond n p a b) es = mean a es) := by
      show mean (.cond n p a b) es = _
      have h0 : ¬ mean p es = [] := fun q => hz (by rw [HPl.out, q]; rfl)
      conv => lhs; unfold mean
      rw [if_neg h0]
    have HC : Hid (Calls Tryz.prog ka (#[.slice (some ⟨rb, ro, none⟩) N rc] ++ ca) w1 (StpP a A (.func (Fn.func ka) #[] ca) rb es w1)) := by
      rw [HNl.out]; exact Ha w1 A ka ca rb ro rc es HX.out.2.2.2.1 (fun k z => HX.out.2.2.2.2.2.2 k (HS.out.1.1.b k z)) (fun z => HR.out.2.2 (HS.out.1.1.b _ z)) (rowIn_sub HX.out.2.2.2.2.2.1 HS.out.1.1.b)
    have x1 := HX.out.2.1.cell (j := 0) rfl
    go_wp2_with fail
    refine HC.out.mono ?_
    rintro e w2 ⟨b2, o2, c2, rfl, H2⟩
    have HE : Hid (StpP (.cond n p a b) R (.func (Fn.func 102) #[] #[ptrC pp, ptrC pa, ptrC pb]) rb es w (.returned (.slice (some ⟨b2, o2, none⟩) (mean a es).length c2)) w2) := by
      have hc1 := H1.out.2.2.2
      have hc2 := H2.out.2.2.2
      have h8 := HS.out
      have hr := HR.out
      have hv : ¬ A 1 := fun z => hr.2.2 (HS.out.1.1.b _ z)
      refine ⟨b2, o2, c2, by rw [HM.out], by rw [HM.out]; exact H2.out.1, ?_, ⟨P, A, B, pp, pa, pb, kp, cp, ka, ca, kb, cb, h8.1, h8.2.1, h8.2.2.1, h8.2.2.2, rfl, HX.out.1.chg hc2 h8.2.1.2.1.out, HX.out.2.1.chg hc2 h8.2.2.1.2.1.out, HX.out.2.2.1.chg hc2 h8.2.2.2.2.1.out, ?_, ?_, ?_⟩, ?_⟩
      · rcases H2.out.2.1 with z | z
        · exact .inl z
        · exact .inr (Nat.le_trans hc1.size z)
      · exact H1.out.2.2.1.chg hc2 hv (fun k z y => h8.1.1.d k y z)
      · exact H2.out.2.2.1
      · exact HX.out.2.2.2.2.1.chg hc2 hv (fun k z y => h8.1.2.2.d k z y)
      · exact (hc1.mono h8.1.1.a).trans (hc2.mono HS.out.1.1.b)
    go_wp2_with fail
    go_ret
    exact HE.out
theorem step_all : ∀ t : CT, StC t
  | .leaf n => step_leaf n
  | .chain n a b => step_chain n (step_all a) (step_all b)
  | .inter n a b => step_inter n (step_all a) (step_all b)
  | .cond n p a b => step_cond n (step_all p) (step_all a) (step_all b)
end Go.Proofs.YtkidabedcgngcaaGreatDoor

/-
  impl.makeCellTest at a pattern.
-/
namespace Go.Proofs.YtkidabedcgngcaaGreatDoor
open Go.ChangeShapes Go.WideShapes Go.ChangeAt Go.RowKit Go.Deep
set_option linter.unusedVariables false
set_option linter.unusedSimpArgs false
set_option maxRecDepth 100000

set_option maxHeartbeats 8000000 in
theorem mct_4 (n : Nd) (w : World) (hT : TabD w) (hs : n.s.size ≤ maxLen) (hg : (checkM (sb n.s)).1 = 0) (h4 : n.kind = 4) : Calls Tryz.prog 71 #[n.v] w (CteP n w) := by
  have hP : PatK n.kind := by unfold PatK; omega
  have HKH : Hid (n.kind = 4) := h4
  have HPH : Hid (PatK n.kind) := hP
  clear h4 hP
  obtain ⟨W2, hW2⟩ : ∃ W2 : World, W2 = ((w.alloc (.cells n.seven.toArray 75)).alloc (.cells #[.int .i64 0, .string ⟨#[]⟩, .bool false, .string ⟨#[]⟩, .int .u64 0, .int .u64 0, .int .i64 0, .pointer none] 111)).alloc (.cells #[.int .i64 n.kind, .string n.s, .bool n.hi, .string n.t, .int .u64 n.lo, .int .u64 n.up, .int .i64 n.n, .pointer none] 111) := ⟨_, rfl⟩
  have HW2 : Hid (BoxAt W2 w.heap.size 75 7 w.heap.size n.seven ∧ BoxAt W2 w.heap.size 111 8 (w.heap.size + 1) (#[.int .i64 0, .string ⟨#[]⟩, .bool false, .string ⟨#[]⟩, .int .u64 0, .int .u64 0, .int .i64 0, .pointer none]).toList ∧ BoxAt W2 w.heap.size 111 8 (w.heap.size + 1 + 1) (eightV n none) ∧ Below w.heap.size w W2) := ct_start n w W2 hW2
  have HT : Hid (TabD w ∧ n.s.size ≤ maxLen) := ⟨hT, hs⟩
  have hbd := tst_build n.kind n.s n.hi n.t n.lo n.up n.n
  have HF : Hid (∀ (X : World) (mp : Option Addr), BoxAt X w.heap.size 111 8 (w.heap.size + 1) (#[.int .i64 0, .string ⟨#[]⟩, .bool false, .string ⟨#[]⟩, .int .u64 0, .int .u64 0, .int .i64 0, .pointer none]).toList → Below w.heap.size w X → w.heap.size + 1 < X.heap.size → TstAt X (w.heap.size + 1 + 1 + 1) X.heap.size n (.pointer mp) → CteP n w (.returned (.agg #[.int .i64 n.kind, .string n.s, .bool n.hi, .string n.t, .int .u64 n.lo, .int .u64 n.up, .int .i64 n.n, .pointer mp])) (set8 X (w.heap.size + 1) n mp) ∧ BoxAt (set8 X (w.heap.size + 1) n mp) w.heap.size 111 8 (w.heap.size + 1) (eightV n mp)) := ct_fin n w hT
  have HG : Hid (PatK n.kind → (checkM (sb n.s)).1 = 0) := fun _ => hg
  clear hg
  clear hT hs
  go_enter Tryz.func71, Tryz.ntmps71
  go_upto_region 2 with fail
  have hW2' := hW2
  simp only [Nd.seven] at hW2'
  rw [← hW2']
  clear hW2 hW2' hbd
  have n0 := HW2.out.1.cell (j := 0) rfl
  have n1 := HW2.out.1.cell (j := 1) rfl
  have hz2 : w.heap.size + 1 + 1 < W2.heap.size := HW2.out.2.2.1.lt.2
  have hp200 : n.s.size ≤ 200 := by
    apply Classical.byContradiction
    intro h6
    have q0 := HG.out HPH.out
    unfold checkM at q0
    rw [if_pos (by rw [sb_len]; omega)] at q0
    exact absurd q0 (by decide)
  have HRp : Hid (Calls Tryz.prog 104 #[.string n.s] W2 (ReadPost n.s W2)) := readPattern_core n.s W2 HT.out.2
  have hP0 : Hid (PatK n.kind) := HPH.out
  have hP := HPH.out
  have h4 := HKH.out
  have b4 : (n.kind == 4) = true := by rw [beq_iff_eq]; exact h4
  have HK9 : Hid (n.kind = 4) := h4
  clear h4 hP
  go_upto_region 7 with fail
  go_wp2_with fail
  refine HRp.out.mono ?_
  rintro e w3 ⟨u, rfl, hb3, hu⟩
  obtain ⟨os, ho, hU0⟩ : ∃ os, AltOk (sb n.s) 0 0 n.s.size os ∧ AltAt w3 (Bet W2.heap.size w3.heap.size) os u := by
    rcases hu with ⟨_, os, h1, h2⟩ | ⟨q, _⟩
    · exact ⟨os, h1, h2⟩
    · exact absurd (HG.out hP0.out) q
  obtain ⟨ua, un, uc, rfl⟩ : ∃ a n cp, u = .slice a n cp := by
    obtain ⟨g, n, cp, rfl⟩ := hU0.slice; exact ⟨_, _, _, rfl⟩
  obtain ⟨cc, hcc⟩ : ∃ c, c = (checkM (sb n.s)).1 := ⟨_, rfl⟩
  obtain ⟨kk, hkk⟩ : ∃ k : Int, k = ((checkM (sb n.s)).2 : Int) := ⟨_, rfl⟩
  rw [← hcc, ← hkk]
  clear hcc hkk hu
  obtain ⟨W4, hW4⟩ : ∃ W4 : World, W4 = (w3.alloc (Obj.cells #[.slice ua un uc] 142)).alloc (Obj.cells #[.int .i64 cc, .int .i64 kk] 129) := ⟨_, rfl⟩
  have hb4 : Below w3.heap.size w3 W4 := by rw [hW4]; exact ((Below.refl _ _).alloc (Nat.le_refl _) _).alloc (by simp) _
  have hz3 := hb3.size
  have hz4 := hb4.size
  have k24 : Below W2.heap.size W2 W4 := hb3.trans (hb4.mono hz3)
  have HA4 : Hid (BoxAt W4 w.heap.size 142 1 w3.heap.size [.slice ua un uc] ∧ Below W2.heap.size W2 W4 ∧ W2.heap.size ≤ W4.heap.size) := by
    refine ⟨?_, k24, by omega⟩
    rw [hW4]
    exact BoxAt.ofHeap (vs := #[.slice ua un uc]) (heap_alloc2_old w3 _ _) (by omega) rfl
  obtain ⟨nn, hg0⟩ := ho.gr
  have ecut : cut (sb n.s) 0 n.s.size = sb n.s := by unfold cut; rw [List.drop_zero, Nat.sub_zero, ← sb_len, List.take_length]
  rw [ecut] at hg0
  have hwt : wtA os ≤ 250 := by have := wt_alt (fun xs t q => wt_atom nn xs t q) hg0; rw [sb_len] at this; omega
  have hU4 : AltAt W4 (Bet W2.heap.size w3.heap.size) os (.slice ua un uc) := hU0.move (S := fun _ => False) (Chg.of_below hb4) (fun q hq => hq.elim) (fun q _ z => z)
  obtain ⟨dd, hU5⟩ := hU4
  have hT4 : TabD W4 := HT.out.1.chg (S := fun _ => False) (Chg.of_below (HW2.out.2.2.2.trans (k24.mono HW2.out.2.2.2.size))) (fun q => q)
  obtain ⟨sa, sn, sc, hsl, hmk⟩ := makeMatcher_core W4 hT4 (fun k hk => by have := hk.2; omega) hU5 hwt
  simp only [Value.slice.injEq] at hsl
  obtain ⟨rfl, rfl, rfl⟩ := hsl
  have HMk : Hid (Calls Tryz.prog 105 #[.agg #[.slice ua un uc]] W4 (MkR os W4)) := hmk
  have HGr : Hid (AltG (AtomG nn) os (sb n.s) ∧ wtA os ≤ 250) := ⟨hg0, hwt⟩
  obtain ⟨rb, hrb⟩ : ∃ rb, rb = w3.heap.size := ⟨_, rfl⟩
  rw [← hrb] at HA4
  go_upto_region 8 with fail
  rw [← hW4, ← hrb]
  clear hW4 hrb ho hU0 hU5 hg0 hwt hT4 hmk ecut k24 hb3 hb4 hz3 hz4
  have a0 := HA4.out.1.cell (j := 0) rfl
  have HB4 : Hid (∀ wx, Below W4.heap.size W4 wx → BoxAt wx w.heap.size 111 8 (w.heap.size + 1) (#[.int .i64 0, .string ⟨#[]⟩, .bool false, .string ⟨#[]⟩, .int .u64 0, .int .u64 0, .int .i64 0, .pointer none]).toList ∧ BoxAt wx w.heap.size 111 8 (w.heap.size + 1 + 1) (eightV n none) ∧ Below w.heap.size w wx) := fun wx hx => by
    have k := HA4.out.2.1.trans (hx.mono HA4.out.2.2)
    exact ⟨HW2.out.2.1.below k, HW2.out.2.2.1.below k, HW2.out.2.2.2.trans (k.mono HW2.out.2.2.2.size)⟩
  go_wp2_with fail
  refine HMk.out.mono ?_
  rintro e w5 ⟨M, G, cp, mp, rfl, H5⟩
  have hB5 := HB4.out w5 H5.out.2.2.2
  have q7 := hB5.2.1.cell (j := 7) rfl
  have g7 := hB5.2.1.frozen 7
  have hlm := H5.out.1.ltM
  have hlg := H5.out.1.ltG
  have hlp := H5.out.2.2.1
  have hlp2 : mp < w5.heap.size := (Array.getElem?_eq_some_iff.1 H5.out.2.1).1
  have hz4 := HA4.out.2.2
  obtain ⟨W6, hW6⟩ : ∃ W6 : World, W6 = w5.setCell ⟨w.heap.size + 1 + 1, 7, none⟩ (.pointer (some ⟨M, 0, none⟩)) := ⟨_, rfl⟩
  have hc6 : Chg (fun k => k = w.heap.size + 1 + 1) w5 W6 := by rw [hW6]; exact Chg.of_set _ _ _ _ rfl
  have hs6 : W6.heap.size = w5.heap.size := by rw [hW6]; simp
  have HBx : Hid (BoxAt W6 w.heap.size 111 8 (w.heap.size + 1) (#[.int .i64 0, .string ⟨#[]⟩, .bool false, .string ⟨#[]⟩, .int .u64 0, .int .u64 0, .int .i64 0, .pointer none]).toList ∧ Below w.heap.size w W6 ∧ w.heap.size + 1 < W6.heap.size ∧ TstAt W6 (w.heap.size + 1 + 1 + 1) W6.heap.size n (.pointer (some ⟨M, 0, none⟩))) := by
    refine ⟨hB5.1.chg hc6 (by omega), Chg.below hB5.2.2 hc6 hB5.2.2.size (fun k q => by omega), by have := hB5.2.2.size; omega, .inr ⟨hP0.out, M, rfl, ?_⟩⟩
    have hcor := cor_P (.alt os) 1
    have e1 : lyP (.alt os) 1 = lyA os (Lay.no 1) := by simp only [lyP]
    rw [e1] at hcor
    have hnx : (lyA os (Lay.no 1)).nx ≤ 256 := by have h8 := nx_A os (Lay.no 1); have h9 := HGr.out.2; simp only [Lay.no] at h8; simp only [Lay.no]; omega
    have hM5 : MchAt w5 W4.heap.size w5.heap.size M n.s := ⟨_, _, _, _, _, _, _, os, nn, HGr.out.1, HG.out hP0.out, H5.out.1, ⟨0, StI.made H5.out.2.1⟩, fun b p hp => (hcor.spt.tk p _ hp).2, hcor.spt.le, hnx, hlp, hlm.2, hlg.2, hlp2, fun s => by
      have := run_words os hnx s
      exact this⟩
    have h9 := hM5.chg hc6 (fun k q z => by have := z.1; omega) (fun q z => by have := HT.out.1.lt; omega)
    rw [hs6]
    exact h9.wide (by omega) (Nat.le_refl _) (by have := HT.out.1.lt; omega)
  have HB6 : Hid (BoxAt W6 w.heap.size 111 8 (w.heap.size + 1 + 1) (eightV n (some ⟨M, 0, none⟩))) := by
    rw [hW6]
    exact hB5.2.1.set 7 _
  have HE2 : Hid (CteP n w (.returned (.agg #[.int .i64 n.kind, .string n.s, .bool n.hi, .string n.t, .int .u64 n.lo, .int .u64 n.up, .int .i64 n.n, .pointer (some ⟨M, 0, none⟩)])) (set8 W6 (w.heap.size + 1) n (some ⟨M, 0, none⟩)) ∧ BoxAt (set8 W6 (w.heap.size + 1) n (some ⟨M, 0, none⟩)) w.heap.size 111 8 (w.heap.size + 1) (eightV n (some ⟨M, 0, none⟩))) := HF.out W6 (some ⟨M, 0, none⟩) HBx.out.1 HBx.out.2.1 HBx.out.2.2.1 HBx.out.2.2.2
  clear hlm hlg hlp hlp2 hz4 hc6 hs6 H5 hB5
  go_upto_region 9 with fail
  rw [← hW6]
  clear hW6 q7 g7 a0
  obtain ⟨W9, hW9⟩ : ∃ W9, W9 = set8 W6 (w.heap.size + 1) n (some ⟨M, 0, none⟩) := ⟨_, rfl⟩
  rw [← hW9] at HE2
  simp only [set8] at hW9
  have m0 := HB6.out.cell (j := 0) rfl
  have m1 := HB6.out.cell (j := 1) rfl
  have m2 := HB6.out.cell (j := 2) rfl
  have m3 := HB6.out.cell (j := 3) rfl
  have m4 := HB6.out.cell (j := 4) rfl
  have m5 := HB6.out.cell (j := 5) rfl
  have m6 := HB6.out.cell (j := 6) rfl
  have m7 := HB6.out.cell (j := 7) rfl
  have r0 := HBx.out.1.cell (j := 0) rfl
  have r1 := HBx.out.1.cell (j := 1) rfl
  have r2 := HBx.out.1.cell (j := 2) rfl
  have r3 := HBx.out.1.cell (j := 3) rfl
  have r4 := HBx.out.1.cell (j := 4) rfl
  have r5 := HBx.out.1.cell (j := 5) rfl
  have r6 := HBx.out.1.cell (j := 6) rfl
  have r7 := HBx.out.1.cell (j := 7) rfl
  have f0 := HBx.out.1.frozen 0
  have f1 := HBx.out.1.frozen 1
  have f2 := HBx.out.1.frozen 2
  have f3 := HBx.out.1.frozen 3
  have f4 := HBx.out.1.frozen 4
  have f5 := HBx.out.1.frozen 5
  have f6 := HBx.out.1.frozen 6
  have f7 := HBx.out.1.frozen 7
  go_wp2_with fail
  rw [← hW9]
  exact bodyPost_ret (ct_res (base := w.heap.size) (g := w.heap.size + 1) rfl HE2.out.2) rfl HE2.out.1
end Go.Proofs.YtkidabedcgngcaaGreatDoor

/-
  impl.makeCellTest at a pattern.
-/
namespace Go.Proofs.YtkidabedcgngcaaGreatDoor
open Go.ChangeShapes Go.WideShapes Go.ChangeAt Go.RowKit Go.Deep
set_option linter.unusedVariables false
set_option linter.unusedSimpArgs false
set_option maxRecDepth 100000

set_option maxHeartbeats 8000000 in
theorem mct_5 (n : Nd) (w : World) (hT : TabD w) (hs : n.s.size ≤ maxLen) (hg : (checkM (sb n.s)).1 = 0) (h5 : n.kind = 5) : Calls Tryz.prog 71 #[n.v] w (CteP n w) := by
  have hP : PatK n.kind := by unfold PatK; omega
  have HKH : Hid (n.kind = 5) := h5
  have HPH : Hid (PatK n.kind) := hP
  clear h5 hP
  obtain ⟨W2, hW2⟩ : ∃ W2 : World, W2 = ((w.alloc (.cells n.seven.toArray 75)).alloc (.cells #[.int .i64 0, .string ⟨#[]⟩, .bool false, .string ⟨#[]⟩, .int .u64 0, .int .u64 0, .int .i64 0, .pointer none] 111)).alloc (.cells #[.int .i64 n.kind, .string n.s, .bool n.hi, .string n.t, .int .u64 n.lo, .int .u64 n.up, .int .i64 n.n, .pointer none] 111) := ⟨_, rfl⟩
  have HW2 : Hid (BoxAt W2 w.heap.size 75 7 w.heap.size n.seven ∧ BoxAt W2 w.heap.size 111 8 (w.heap.size + 1) (#[.int .i64 0, .string ⟨#[]⟩, .bool false, .string ⟨#[]⟩, .int .u64 0, .int .u64 0, .int .i64 0, .pointer none]).toList ∧ BoxAt W2 w.heap.size 111 8 (w.heap.size + 1 + 1) (eightV n none) ∧ Below w.heap.size w W2) := ct_start n w W2 hW2
  have HT : Hid (TabD w ∧ n.s.size ≤ maxLen) := ⟨hT, hs⟩
  have hbd := tst_build n.kind n.s n.hi n.t n.lo n.up n.n
  have HF : Hid (∀ (X : World) (mp : Option Addr), BoxAt X w.heap.size 111 8 (w.heap.size + 1) (#[.int .i64 0, .string ⟨#[]⟩, .bool false, .string ⟨#[]⟩, .int .u64 0, .int .u64 0, .int .i64 0, .pointer none]).toList → Below w.heap.size w X → w.heap.size + 1 < X.heap.size → TstAt X (w.heap.size + 1 + 1 + 1) X.heap.size n (.pointer mp) → CteP n w (.returned (.agg #[.int .i64 n.kind, .string n.s, .bool n.hi, .string n.t, .int .u64 n.lo, .int .u64 n.up, .int .i64 n.n, .pointer mp])) (set8 X (w.heap.size + 1) n mp) ∧ BoxAt (set8 X (w.heap.size + 1) n mp) w.heap.size 111 8 (w.heap.size + 1) (eightV n mp)) := ct_fin n w hT
  have HG : Hid (PatK n.kind → (checkM (sb n.s)).1 = 0) := fun _ => hg
  clear hg
  clear hT hs
  go_enter Tryz.func71, Tryz.ntmps71
  go_upto_region 2 with fail
  have hW2' := hW2
  simp only [Nd.seven] at hW2'
  rw [← hW2']
  clear hW2 hW2' hbd
  have n0 := HW2.out.1.cell (j := 0) rfl
  have n1 := HW2.out.1.cell (j := 1) rfl
  have hz2 : w.heap.size + 1 + 1 < W2.heap.size := HW2.out.2.2.1.lt.2
  have hp200 : n.s.size ≤ 200 := by
    apply Classical.byContradiction
    intro h6
    have q0 := HG.out HPH.out
    unfold checkM at q0
    rw [if_pos (by rw [sb_len]; omega)] at q0
    exact absurd q0 (by decide)
  have HRp : Hid (Calls Tryz.prog 104 #[.string n.s] W2 (ReadPost n.s W2)) := readPattern_core n.s W2 HT.out.2
  have hP0 : Hid (PatK n.kind) := HPH.out
  have hP := HPH.out
  have h5 := HKH.out
  have b4 : (n.kind == 4) = false := by rw [beq_eq_false_iff_ne]; omega
  have b5 : (n.kind == 5) = true := by rw [beq_iff_eq]; exact h5
  have HK9 : Hid (n.kind = 5) := h5
  clear h5 hP
  go_upto_region 7 with fail
  go_wp2_with fail
  refine HRp.out.mono ?_
  rintro e w3 ⟨u, rfl, hb3, hu⟩
  obtain ⟨os, ho, hU0⟩ : ∃ os, AltOk (sb n.s) 0 0 n.s.size os ∧ AltAt w3 (Bet W2.heap.size w3.heap.size) os u := by
    rcases hu with ⟨_, os, h1, h2⟩ | ⟨q, _⟩
    · exact ⟨os, h1, h2⟩
    · exact absurd (HG.out hP0.out) q
  obtain ⟨ua, un, uc, rfl⟩ : ∃ a n cp, u = .slice a n cp := by
    obtain ⟨g, n, cp, rfl⟩ := hU0.slice; exact ⟨_, _, _, rfl⟩
  obtain ⟨cc, hcc⟩ : ∃ c, c = (checkM (sb n.s)).1 := ⟨_, rfl⟩
  obtain ⟨kk, hkk⟩ : ∃ k : Int, k = ((checkM (sb n.s)).2 : Int) := ⟨_, rfl⟩
  rw [← hcc, ← hkk]
  clear hcc hkk hu
  obtain ⟨W4, hW4⟩ : ∃ W4 : World, W4 = (w3.alloc (Obj.cells #[.slice ua un uc] 142)).alloc (Obj.cells #[.int .i64 cc, .int .i64 kk] 129) := ⟨_, rfl⟩
  have hb4 : Below w3.heap.size w3 W4 := by rw [hW4]; exact ((Below.refl _ _).alloc (Nat.le_refl _) _).alloc (by simp) _
  have hz3 := hb3.size
  have hz4 := hb4.size
  have k24 : Below W2.heap.size W2 W4 := hb3.trans (hb4.mono hz3)
  have HA4 : Hid (BoxAt W4 w.heap.size 142 1 w3.heap.size [.slice ua un uc] ∧ Below W2.heap.size W2 W4 ∧ W2.heap.size ≤ W4.heap.size) := by
    refine ⟨?_, k24, by omega⟩
    rw [hW4]
    exact BoxAt.ofHeap (vs := #[.slice ua un uc]) (heap_alloc2_old w3 _ _) (by omega) rfl
  obtain ⟨nn, hg0⟩ := ho.gr
  have ecut : cut (sb n.s) 0 n.s.size = sb n.s := by unfold cut; rw [List.drop_zero, Nat.sub_zero, ← sb_len, List.take_length]
  rw [ecut] at hg0
  have hwt : wtA os ≤ 250 := by have := wt_alt (fun xs t q => wt_atom nn xs t q) hg0; rw [sb_len] at this; omega
  have hU4 : AltAt W4 (Bet W2.heap.size w3.heap.size) os (.slice ua un uc) := hU0.move (S := fun _ => False) (Chg.of_below hb4) (fun q hq => hq.elim) (fun q _ z => z)
  obtain ⟨dd, hU5⟩ := hU4
  have hT4 : TabD W4 := HT.out.1.chg (S := fun _ => False) (Chg.of_below (HW2.out.2.2.2.trans (k24.mono HW2.out.2.2.2.size))) (fun q => q)
  obtain ⟨sa, sn, sc, hsl, hmk⟩ := makeMatcher_core W4 hT4 (fun k hk => by have := hk.2; omega) hU5 hwt
  simp only [Value.slice.injEq] at hsl
  obtain ⟨rfl, rfl, rfl⟩ := hsl
  have HMk : Hid (Calls Tryz.prog 105 #[.agg #[.slice ua un uc]] W4 (MkR os W4)) := hmk
  have HGr : Hid (AltG (AtomG nn) os (sb n.s) ∧ wtA os ≤ 250) := ⟨hg0, hwt⟩
  obtain ⟨rb, hrb⟩ : ∃ rb, rb = w3.heap.size := ⟨_, rfl⟩
  rw [← hrb] at HA4
  go_upto_region 8 with fail
  rw [← hW4, ← hrb]
  clear hW4 hrb ho hU0 hU5 hg0 hwt hT4 hmk ecut k24 hb3 hb4 hz3 hz4
  have a0 := HA4.out.1.cell (j := 0) rfl
  have HB4 : Hid (∀ wx, Below W4.heap.size W4 wx → BoxAt wx w.heap.size 111 8 (w.heap.size + 1) (#[.int .i64 0, .string ⟨#[]⟩, .bool false, .string ⟨#[]⟩, .int .u64 0, .int .u64 0, .int .i64 0, .pointer none]).toList ∧ BoxAt wx w.heap.size 111 8 (w.heap.size + 1 + 1) (eightV n none) ∧ Below w.heap.size w wx) := fun wx hx => by
    have k := HA4.out.2.1.trans (hx.mono HA4.out.2.2)
    exact ⟨HW2.out.2.1.below k, HW2.out.2.2.1.below k, HW2.out.2.2.2.trans (k.mono HW2.out.2.2.2.size)⟩
  go_wp2_with fail
  refine HMk.out.mono ?_
  rintro e w5 ⟨M, G, cp, mp, rfl, H5⟩
  have hB5 := HB4.out w5 H5.out.2.2.2
  have q7 := hB5.2.1.cell (j := 7) rfl
  have g7 := hB5.2.1.frozen 7
  have hlm := H5.out.1.ltM
  have hlg := H5.out.1.ltG
  have hlp := H5.out.2.2.1
  have hlp2 : mp < w5.heap.size := (Array.getElem?_eq_some_iff.1 H5.out.2.1).1
  have hz4 := HA4.out.2.2
  obtain ⟨W6, hW6⟩ : ∃ W6 : World, W6 = w5.setCell ⟨w.heap.size + 1 + 1, 7, none⟩ (.pointer (some ⟨M, 0, none⟩)) := ⟨_, rfl⟩
  have hc6 : Chg (fun k => k = w.heap.size + 1 + 1) w5 W6 := by rw [hW6]; exact Chg.of_set _ _ _ _ rfl
  have hs6 : W6.heap.size = w5.heap.size := by rw [hW6]; simp
  have HBx : Hid (BoxAt W6 w.heap.size 111 8 (w.heap.size + 1) (#[.int .i64 0, .string ⟨#[]⟩, .bool false, .string ⟨#[]⟩, .int .u64 0, .int .u64 0, .int .i64 0, .pointer none]).toList ∧ Below w.heap.size w W6 ∧ w.heap.size + 1 < W6.heap.size ∧ TstAt W6 (w.heap.size + 1 + 1 + 1) W6.heap.size n (.pointer (some ⟨M, 0, none⟩))) := by
    refine ⟨hB5.1.chg hc6 (by omega), Chg.below hB5.2.2 hc6 hB5.2.2.size (fun k q => by omega), by have := hB5.2.2.size; omega, .inr ⟨hP0.out, M, rfl, ?_⟩⟩
    have hcor := cor_P (.alt os) 1
    have e1 : lyP (.alt os) 1 = lyA os (Lay.no 1) := by simp only [lyP]
    rw [e1] at hcor
    have hnx : (lyA os (Lay.no 1)).nx ≤ 256 := by have h8 := nx_A os (Lay.no 1); have h9 := HGr.out.2; simp only [Lay.no] at h8; simp only [Lay.no]; omega
    have hM5 : MchAt w5 W4.heap.size w5.heap.size M n.s := ⟨_, _, _, _, _, _, _, os, nn, HGr.out.1, HG.out hP0.out, H5.out.1, ⟨0, StI.made H5.out.2.1⟩, fun b p hp => (hcor.spt.tk p _ hp).2, hcor.spt.le, hnx, hlp, hlm.2, hlg.2, hlp2, fun s => by
      have := run_words os hnx s
      exact this⟩
    have h9 := hM5.chg hc6 (fun k q z => by have := z.1; omega) (fun q z => by have := HT.out.1.lt; omega)
    rw [hs6]
    exact h9.wide (by omega) (Nat.le_refl _) (by have := HT.out.1.lt; omega)
  have HB6 : Hid (BoxAt W6 w.heap.size 111 8 (w.heap.size + 1 + 1) (eightV n (some ⟨M, 0, none⟩))) := by
    rw [hW6]
    exact hB5.2.1.set 7 _
  have HE2 : Hid (CteP n w (.returned (.agg #[.int .i64 n.kind, .string n.s, .bool n.hi, .string n.t, .int .u64 n.lo, .int .u64 n.up, .int .i64 n.n, .pointer (some ⟨M, 0, none⟩)])) (set8 W6 (w.heap.size + 1) n (some ⟨M, 0, none⟩)) ∧ BoxAt (set8 W6 (w.heap.size + 1) n (some ⟨M, 0, none⟩)) w.heap.size 111 8 (w.heap.size + 1) (eightV n (some ⟨M, 0, none⟩))) := HF.out W6 (some ⟨M, 0, none⟩) HBx.out.1 HBx.out.2.1 HBx.out.2.2.1 HBx.out.2.2.2
  clear hlm hlg hlp hlp2 hz4 hc6 hs6 H5 hB5
  go_upto_region 9 with fail
  rw [← hW6]
  clear hW6 q7 g7 a0
  obtain ⟨W9, hW9⟩ : ∃ W9, W9 = set8 W6 (w.heap.size + 1) n (some ⟨M, 0, none⟩) := ⟨_, rfl⟩
  rw [← hW9] at HE2
  simp only [set8] at hW9
  have m0 := HB6.out.cell (j := 0) rfl
  have m1 := HB6.out.cell (j := 1) rfl
  have m2 := HB6.out.cell (j := 2) rfl
  have m3 := HB6.out.cell (j := 3) rfl
  have m4 := HB6.out.cell (j := 4) rfl
  have m5 := HB6.out.cell (j := 5) rfl
  have m6 := HB6.out.cell (j := 6) rfl
  have m7 := HB6.out.cell (j := 7) rfl
  have r0 := HBx.out.1.cell (j := 0) rfl
  have r1 := HBx.out.1.cell (j := 1) rfl
  have r2 := HBx.out.1.cell (j := 2) rfl
  have r3 := HBx.out.1.cell (j := 3) rfl
  have r4 := HBx.out.1.cell (j := 4) rfl
  have r5 := HBx.out.1.cell (j := 5) rfl
  have r6 := HBx.out.1.cell (j := 6) rfl
  have r7 := HBx.out.1.cell (j := 7) rfl
  have f0 := HBx.out.1.frozen 0
  have f1 := HBx.out.1.frozen 1
  have f2 := HBx.out.1.frozen 2
  have f3 := HBx.out.1.frozen 3
  have f4 := HBx.out.1.frozen 4
  have f5 := HBx.out.1.frozen 5
  have f6 := HBx.out.1.frozen 6
  have f7 := HBx.out.1.frozen 7
  go_wp2_with fail
  rw [← hW9]
  exact bodyPost_ret (ct_res (base := w.heap.size) (g := w.heap.size + 1) rfl HE2.out.2) rfl HE2.out.1
end Go.Proofs.YtkidabedcgngcaaGreatDoor

/-
  impl.makeCellTest at a pattern.
-/
namespace Go.Proofs.YtkidabedcgngcaaGreatDoor
open Go.ChangeShapes Go.WideShapes Go.ChangeAt Go.RowKit Go.Deep
set_option linter.unusedVariables false
set_option linter.unusedSimpArgs false
set_option maxRecDepth 100000

set_option maxHeartbeats 8000000 in
theorem mct_6 (n : Nd) (w : World) (hT : TabD w) (hs : n.s.size ≤ maxLen) (hg : (checkM (sb n.s)).1 = 0) (h6 : n.kind = 6) : Calls Tryz.prog 71 #[n.v] w (CteP n w) := by
  have hP : PatK n.kind := by unfold PatK; omega
  have HKH : Hid (n.kind = 6) := h6
  have HPH : Hid (PatK n.kind) := hP
  clear h6 hP
  obtain ⟨W2, hW2⟩ : ∃ W2 : World, W2 = ((w.alloc (.cells n.seven.toArray 75)).alloc (.cells #[.int .i64 0, .string ⟨#[]⟩, .bool false, .string ⟨#[]⟩, .int .u64 0, .int .u64 0, .int .i64 0, .pointer none] 111)).alloc (.cells #[.int .i64 n.kind, .string n.s, .bool n.hi, .string n.t, .int .u64 n.lo, .int .u64 n.up, .int .i64 n.n, .pointer none] 111) := ⟨_, rfl⟩
  have HW2 : Hid (BoxAt W2 w.heap.size 75 7 w.heap.size n.seven ∧ BoxAt W2 w.heap.size 111 8 (w.heap.size + 1) (#[.int .i64 0, .string ⟨#[]⟩, .bool false, .string ⟨#[]⟩, .int .u64 0, .int .u64 0, .int .i64 0, .pointer none]).toList ∧ BoxAt W2 w.heap.size 111 8 (w.heap.size + 1 + 1) (eightV n none) ∧ Below w.heap.size w W2) := ct_start n w W2 hW2
  have HT : Hid (TabD w ∧ n.s.size ≤ maxLen) := ⟨hT, hs⟩
  have hbd := tst_build n.kind n.s n.hi n.t n.lo n.up n.n
  have HF : Hid (∀ (X : World) (mp : Option Addr), BoxAt X w.heap.size 111 8 (w.heap.size + 1) (#[.int .i64 0, .string ⟨#[]⟩, .bool false, .string ⟨#[]⟩, .int .u64 0, .int .u64 0, .int .i64 0, .pointer none]).toList → Below w.heap.size w X → w.heap.size + 1 < X.heap.size → TstAt X (w.heap.size + 1 + 1 + 1) X.heap.size n (.pointer mp) → CteP n w (.returned (.agg #[.int .i64 n.kind, .string n.s, .bool n.hi, .string n.t, .int .u64 n.lo, .int .u64 n.up, .int .i64 n.n, .pointer mp])) (set8 X (w.heap.size + 1) n mp) ∧ BoxAt (set8 X (w.heap.size + 1) n mp) w.heap.size 111 8 (w.heap.size + 1) (eightV n mp)) := ct_fin n w hT
  have HG : Hid (PatK n.kind → (checkM (sb n.s)).1 = 0) := fun _ => hg
  clear hg
  clear hT hs
  go_enter Tryz.func71, Tryz.ntmps71
  go_upto_region 2 with fail
  have hW2' := hW2
  simp only [Nd.seven] at hW2'
  rw [← hW2']
  clear hW2 hW2' hbd
  have n0 := HW2.out.1.cell (j := 0) rfl
  have n1 := HW2.out.1.cell (j := 1) rfl
  have hz2 : w.heap.size + 1 + 1 < W2.heap.size := HW2.out.2.2.1.lt.2
  have hp200 : n.s.size ≤ 200 := by
    apply Classical.byContradiction
    intro h6
    have q0 := HG.out HPH.out
    unfold checkM at q0
    rw [if_pos (by rw [sb_len]; omega)] at q0
    exact absurd q0 (by decide)
  have HRp : Hid (Calls Tryz.prog 104 #[.string n.s] W2 (ReadPost n.s W2)) := readPattern_core n.s W2 HT.out.2
  have hP0 : Hid (PatK n.kind) := HPH.out
  have hP := HPH.out
  have h6 := HKH.out
  have b4 : (n.kind == 4) = false := by rw [beq_eq_false_iff_ne]; omega
  have b5 : (n.kind == 5) = false := by rw [beq_eq_false_iff_ne]; omega
  have b6 : (n.kind == 6) = true := by rw [beq_iff_eq]; exact h6
  have HK9 : Hid (n.kind = 6) := h6
  clear h6 hP
  go_upto_region 7 with fail
  go_wp2_with fail
  refine HRp.out.mono ?_
  rintro e w3 ⟨u, rfl, hb3, hu⟩
  obtain ⟨os, ho, hU0⟩ : ∃ os, AltOk (sb n.s) 0 0 n.s.size os ∧ AltAt w3 (Bet W2.heap.size w3.heap.size) os u := by
    rcases hu with ⟨_, os, h1, h2⟩ | ⟨q, _⟩
    · exact ⟨os, h1, h2⟩
    · exact absurd (HG.out hP0.out) q
  obtain ⟨ua, un, uc, rfl⟩ : ∃ a n cp, u = .slice a n cp := by
    obtain ⟨g, n, cp, rfl⟩ := hU0.slice; exact ⟨_, _, _, rfl⟩
  obtain ⟨cc, hcc⟩ : ∃ c, c = (checkM (sb n.s)).1 := ⟨_, rfl⟩
  obtain ⟨kk, hkk⟩ : ∃ k : Int, k = ((checkM (sb n.s)).2 : Int) := ⟨_, rfl⟩
  rw [← hcc, ← hkk]
  clear hcc hkk hu
  obtain ⟨W4, hW4⟩ : ∃ W4 : World, W4 = (w3.alloc (Obj.cells #[.slice ua un uc] 142)).alloc (Obj.cells #[.int .i64 cc, .int .i64 kk] 129) := ⟨_, rfl⟩
  have hb4 : Below w3.heap.size w3 W4 := by rw [hW4]; exact ((Below.refl _ _).alloc (Nat.le_refl _) _).alloc (by simp) _
  have hz3 := hb3.size
  have hz4 := hb4.size
  have k24 : Below W2.heap.size W2 W4 := hb3.trans (hb4.mono hz3)
  have HA4 : Hid (BoxAt W4 w.heap.size 142 1 w3.heap.size [.slice ua un uc] ∧ Below W2.heap.size W2 W4 ∧ W2.heap.size ≤ W4.heap.size) := by
    refine ⟨?_, k24, by omega⟩
    rw [hW4]
    exact BoxAt.ofHeap (vs := #[.slice ua un uc]) (heap_alloc2_old w3 _ _) (by omega) rfl
  obtain ⟨nn, hg0⟩ := ho.gr
  have ecut : cut (sb n.s) 0 n.s.size = sb n.s := by unfold cut; rw [List.drop_zero, Nat.sub_zero, ← sb_len, List.take_length]
  rw [ecut] at hg0
  have hwt : wtA os ≤ 250 := by have := wt_alt (fun xs t q => wt_atom nn xs t q) hg0; rw [sb_len] at this; omega
  have hU4 : AltAt W4 (Bet W2.heap.size w3.heap.size) os (.slice ua un uc) := hU0.move (S := fun _ => False) (Chg.of_below hb4) (fun q hq => hq.elim) (fun q _ z => z)
  obtain ⟨dd, hU5⟩ := hU4
  have hT4 : TabD W4 := HT.out.1.chg (S := fun _ => False) (Chg.of_below (HW2.out.2.2.2.trans (k24.mono HW2.out.2.2.2.size))) (fun q => q)
  obtain ⟨sa, sn, sc, hsl, hmk⟩ := makeMatcher_core W4 hT4 (fun k hk => by have := hk.2; omega) hU5 hwt
  simp only [Value.slice.injEq] at hsl
  obtain ⟨rfl, rfl, rfl⟩ := hsl
  have HMk : Hid (Calls Tryz.prog 105 #[.agg #[.slice ua un uc]] W4 (MkR os W4)) := hmk
  have HGr : Hid (AltG (AtomG nn) os (sb n.s) ∧ wtA os ≤ 250) := ⟨hg0, hwt⟩
  obtain ⟨rb, hrb⟩ : ∃ rb, rb = w3.heap.size := ⟨_, rfl⟩
  rw [← hrb] at HA4
  go_upto_region 8 with fail
  rw [← hW4, ← hrb]
  clear hW4 hrb ho hU0 hU5 hg0 hwt hT4 hmk ecut k24 hb3 hb4 hz3 hz4
  have a0 := HA4.out.1.cell (j := 0) rfl
  have HB4 : Hid (∀ wx, Below W4.heap.size W4 wx → BoxAt wx w.heap.size 111 8 (w.heap.size + 1) (#[.int .i64 0, .string ⟨#[]⟩, .bool false, .string ⟨#[]⟩, .int .u64 0, .int .u64 0, .int .i64 0, .pointer none]).toList ∧ BoxAt wx w.heap.size 111 8 (w.heap.size + 1 + 1) (eightV n none) ∧ Below w.heap.size w wx) := fun wx hx => by
    have k := HA4.out.2.1.trans (hx.mono HA4.out.2.2)
    exact ⟨HW2.out.2.1.below k, HW2.out.2.2.1.below k, HW2.out.2.2.2.trans (k.mono HW2.out.2.2.2.size)⟩
  go_wp2_with fail
  refine HMk.out.mono ?_
  rintro e w5 ⟨M, G, cp, mp, rfl, H5⟩
  have hB5 := HB4.out w5 H5.out.2.2.2
  have q7 := hB5.2.1.cell (j := 7) rfl
  have g7 := hB5.2.1.frozen 7
  have hlm := H5.out.1.ltM
  have hlg := H5.out.1.ltG
  have hlp := H5.out.2.2.1
  have hlp2 : mp < w5.heap.size := (Array.getElem?_eq_some_iff.1 H5.out.2.1).1
  have hz4 := HA4.out.2.2
  obtain ⟨W6, hW6⟩ : ∃ W6 : World, W6 = w5.setCell ⟨w.heap.size + 1 + 1, 7, none⟩ (.pointer (some ⟨M, 0, none⟩)) := ⟨_, rfl⟩
  have hc6 : Chg (fun k => k = w.heap.size + 1 + 1) w5 W6 := by rw [hW6]; exact Chg.of_set _ _ _ _ rfl
  have hs6 : W6.heap.size = w5.heap.size := by rw [hW6]; simp
  have HBx : Hid (BoxAt W6 w.heap.size 111 8 (w.heap.size + 1) (#[.int .i64 0, .string ⟨#[]⟩, .bool false, .string ⟨#[]⟩, .int .u64 0, .int .u64 0, .int .i64 0, .pointer none]).toList ∧ Below w.heap.size w W6 ∧ w.heap.size + 1 < W6.heap.size ∧ TstAt W6 (w.heap.size + 1 + 1 + 1) W6.heap.size n (.pointer (some ⟨M, 0, none⟩))) := by
    refine ⟨hB5.1.chg hc6 (by omega), Chg.below hB5.2.2 hc6 hB5.2.2.size (fun k q => by omega), by have := hB5.2.2.size; omega, .inr ⟨hP0.out, M, rfl, ?_⟩⟩
    have hcor := cor_P (.alt os) 1
    have e1 : lyP (.alt os) 1 = lyA os (Lay.no 1) := by simp only [lyP]
    rw [e1] at hcor
    have hnx : (lyA os (Lay.no 1)).nx ≤ 256 := by have h8 := nx_A os (Lay.no 1); have h9 := HGr.out.2; simp only [Lay.no] at h8; simp only [Lay.no]; omega
    have hM5 : MchAt w5 W4.heap.size w5.heap.size M n.s := ⟨_, _, _, _, _, _, _, os, nn, HGr.out.1, HG.out hP0.out, H5.out.1, ⟨0, StI.made H5.out.2.1⟩, fun b p hp => (hcor.spt.tk p _ hp).2, hcor.spt.le, hnx, hlp, hlm.2, hlg.2, hlp2, fun s => by
      have := run_words os hnx s
      exact this⟩
    have h9 := hM5.chg hc6 (fun k q z => by have := z.1; omega) (fun q z => by have := HT.out.1.lt; omega)
    rw [hs6]
    exact h9.wide (by omega) (Nat.le_refl _) (by have := HT.out.1.lt; omega)
  have HB6 : Hid (BoxAt W6 w.heap.size 111 8 (w.heap.size + 1 + 1) (eightV n (some ⟨M, 0, none⟩))) := by
    rw [hW6]
    exact hB5.2.1.set 7 _
  have HE2 : Hid (CteP n w (.returned (.agg #[.int .i64 n.kind, .string n.s, .bool n.hi, .string n.t, .int .u64 n.lo, .int .u64 n.up, .int .i64 n.n, .pointer (some ⟨M, 0, none⟩)])) (set8 W6 (w.heap.size + 1) n (some ⟨M, 0, none⟩)) ∧ BoxAt (set8 W6 (w.heap.size + 1) n (some ⟨M, 0, none⟩)) w.heap.size 111 8 (w.heap.size + 1) (eightV n (some ⟨M, 0, none⟩))) := HF.out W6 (some ⟨M, 0, none⟩) HBx.out.1 HBx.out.2.1 HBx.out.2.2.1 HBx.out.2.2.2
  clear hlm hlg hlp hlp2 hz4 hc6 hs6 H5 hB5
  go_upto_region 9 with fail
  rw [← hW6]
  clear hW6 q7 g7 a0
  obtain ⟨W9, hW9⟩ : ∃ W9, W9 = set8 W6 (w.heap.size + 1) n (some ⟨M, 0, none⟩) := ⟨_, rfl⟩
  rw [← hW9] at HE2
  simp only [set8] at hW9
  have m0 := HB6.out.cell (j := 0) rfl
  have m1 := HB6.out.cell (j := 1) rfl
  have m2 := HB6.out.cell (j := 2) rfl
  have m3 := HB6.out.cell (j := 3) rfl
  have m4 := HB6.out.cell (j := 4) rfl
  have m5 := HB6.out.cell (j := 5) rfl
  have m6 := HB6.out.cell (j := 6) rfl
  have m7 := HB6.out.cell (j := 7) rfl
  have r0 := HBx.out.1.cell (j := 0) rfl
  have r1 := HBx.out.1.cell (j := 1) rfl
  have r2 := HBx.out.1.cell (j := 2) rfl
  have r3 := HBx.out.1.cell (j := 3) rfl
  have r4 := HBx.out.1.cell (j := 4) rfl
  have r5 := HBx.out.1.cell (j := 5) rfl
  have r6 := HBx.out.1.cell (j := 6) rfl
  have r7 := HBx.out.1.cell (j := 7) rfl
  have f0 := HBx.out.1.frozen 0
  have f1 := HBx.out.1.frozen 1
  have f2 := HBx.out.1.frozen 2
  have f3 := HBx.out.1.frozen 3
  have f4 := HBx.out.1.frozen 4
  have f5 := HBx.out.1.frozen 5
  have f6 := HBx.out.1.frozen 6
  have f7 := HBx.out.1.frozen 7
  go_wp2_with fail
  rw [← hW9]
  exact bodyPost_ret (ct_res (base := w.heap.size) (g := w.heap.size + 1) rfl HE2.out.2) rfl HE2.out.1
end Go.Proofs.YtkidabedcgngcaaGreatDoor

/-
  impl.makeCellTest at a pattern.
-/
namespace Go.Proofs.YtkidabedcgngcaaGreatDoor
open Go.ChangeShapes Go.WideShapes Go.ChangeAt Go.RowKit Go.Deep
set_option linter.unusedVariables false
set_option linter.unusedSimpArgs false
set_option maxRecDepth 100000

set_option maxHeartbeats 8000000 in
theorem mct_7 (n : Nd) (w : World) (hT : TabD w) (hs : n.s.size ≤ maxLen) (hg : (checkM (sb n.s)).1 = 0) (h7 : n.kind = 7) : Calls Tryz.prog 71 #[n.v] w (CteP n w) := by
  have hP : PatK n.kind := by unfold PatK; omega
  have HKH : Hid (n.kind = 7) := h7
  have HPH : Hid (PatK n.kind) := hP
  clear h7 hP
  obtain ⟨W2, hW2⟩ : ∃ W2 : World, W2 = ((w.alloc (.cells n.seven.toArray 75)).alloc (.cells #[.int .i64 0, .string ⟨#[]⟩, .bool false, .string ⟨#[]⟩, .int .u64 0, .int .u64 0, .int .i64 0, .pointer none] 111)).alloc (.cells #[.int .i64 n.kind, .string n.s, .bool n.hi, .string n.t, .int .u64 n.lo, .int .u64 n.up, .int .i64 n.n, .pointer none] 111) := ⟨_, rfl⟩
  have HW2 : Hid (BoxAt W2 w.heap.size 75 7 w.heap.size n.seven ∧ BoxAt W2 w.heap.size 111 8 (w.heap.size + 1) (#[.int .i64 0, .string ⟨#[]⟩, .bool false, .string ⟨#[]⟩, .int .u64 0, .int .u64 0, .int .i64 0, .pointer none]).toList ∧ BoxAt W2 w.heap.size 111 8 (w.heap.size + 1 + 1) (eightV n none) ∧ Below w.heap.size w W2) := ct_start n w W2 hW2
  have HT : Hid (TabD w ∧ n.s.size ≤ maxLen) := ⟨hT, hs⟩
  have hbd := tst_build n.kind n.s n.hi n.t n.lo n.up n.n
  have HF : Hid (∀ (X : World) (mp : Option Addr), BoxAt X w.heap.size 111 8 (w.heap.size + 1) (#[.int .i64 0, .string ⟨#[]⟩, .bool false, .string ⟨#[]⟩, .int .u64 0, .int .u64 0, .int .i64 0, .pointer none]).toList → Below w.heap.size w X → w.heap.size + 1 < X.heap.size → TstAt X (w.heap.size + 1 + 1 + 1) X.heap.size n (.pointer mp) → CteP n w (.returned (.agg #[.int .i64 n.kind, .string n.s, .bool n.hi, .string n.t, .int .u64 n.lo, .int .u64 n.up, .int .i64 n.n, .pointer mp])) (set8 X (w.heap.size + 1) n mp) ∧ BoxAt (set8 X (w.heap.size + 1) n mp) w.heap.size 111 8 (w.heap.size + 1) (eightV n mp)) := ct_fin n w hT
  have HG : Hid (PatK n.kind → (checkM (sb n.s)).1 = 0) := fun _ => hg
  clear hg
  clear hT hs
  go_enter Tryz.func71, Tryz.ntmps71
  go_upto_region 2 with fail
  have hW2' := hW2
  simp only [Nd.seven] at hW2'
  rw [← hW2']
  clear hW2 hW2' hbd
  have n0 := HW2.out.1.cell (j := 0) rfl
  have n1 := HW2.out.1.cell (j := 1) rfl
  have hz2 : w.heap.size + 1 + 1 < W2.heap.size := HW2.out.2.2.1.lt.2
  have hp200 : n.s.size ≤ 200 := by
    apply Classical.byContradiction
    intro h6
    have q0 := HG.out HPH.out
    unfold checkM at q0
    rw [if_pos (by rw [sb_len]; omega)] at q0
    exact absurd q0 (by decide)
  have HRp : Hid (Calls Tryz.prog 104 #[.string n.s] W2 (ReadPost n.s W2)) := readPattern_core n.s W2 HT.out.2
  have hP0 : Hid (PatK n.kind) := HPH.out
  have hP := HPH.out
  have h7 := HKH.out
  have b4 : (n.kind == 4) = false := by rw [beq_eq_false_iff_ne]; omega
  have b5 : (n.kind == 5) = false := by rw [beq_eq_false_iff_ne]; omega
  have b6 : (n.kind == 6) = false := by rw [beq_eq_false_iff_ne]; omega
  have b7 : (n.kind == 7) = true := by rw [beq_iff_eq]; exact h7
  have HK9 : Hid (n.kind = 7) := h7
  clear h7 hP
  go_upto_region 7 with fail
  go_wp2_with fail
  refine HRp.out.mono ?_
  rintro e w3 ⟨u, rfl, hb3, hu⟩
  obtain ⟨os, ho, hU0⟩ : ∃ os, AltOk (sb n.s) 0 0 n.s.size os ∧ AltAt w3 (Bet W2.heap.size w3.heap.size) os u := by
    rcases hu with ⟨_, os, h1, h2⟩ | ⟨q, _⟩
    · exact ⟨os, h1, h2⟩
    · exact absurd (HG.out hP0.out) q
  obtain ⟨ua, un, uc, rfl⟩ : ∃ a n cp, u = .slice a n cp := by
    obtain ⟨g, n, cp, rfl⟩ := hU0.slice; exact ⟨_, _, _, rfl⟩
  obtain ⟨cc, hcc⟩ : ∃ c, c = (checkM (sb n.s)).1 := ⟨_, rfl⟩
  obtain ⟨kk, hkk⟩ : ∃ k : Int, k = ((checkM (sb n.s)).2 : Int) := ⟨_, rfl⟩
  rw [← hcc, ← hkk]
  clear hcc hkk hu
  obtain ⟨W4, hW4⟩ : ∃ W4 : World, W4 = (w3.alloc (Obj.cells #[.slice ua un uc] 142)).alloc (Obj.cells #[.int .i64 cc, .int .i64 kk] 129) := ⟨_, rfl⟩
  have hb4 : Below w3.heap.size w3 W4 := by rw [hW4]; exact ((Below.refl _ _).alloc (Nat.le_refl _) _).alloc (by simp) _
  have hz3 := hb3.size
  have hz4 := hb4.size
  have k24 : Below W2.heap.size W2 W4 := hb3.trans (hb4.mono hz3)
  have HA4 : Hid (BoxAt W4 w.heap.size 142 1 w3.heap.size [.slice ua un uc] ∧ Below W2.heap.size W2 W4 ∧ W2.heap.size ≤ W4.heap.size) := by
    refine ⟨?_, k24, by omega⟩
    rw [hW4]
    exact BoxAt.ofHeap (vs := #[.slice ua un uc]) (heap_alloc2_old w3 _ _) (by omega) rfl
  obtain ⟨nn, hg0⟩ := ho.gr
  have ecut : cut (sb n.s) 0 n.s.size = sb n.s := by unfold cut; rw [List.drop_zero, Nat.sub_zero, ← sb_len, List.take_length]
  rw [ecut] at hg0
  have hwt : wtA os ≤ 250 := by have := wt_alt (fun xs t q => wt_atom nn xs t q) hg0; rw [sb_len] at this; omega
  have hU4 : AltAt W4 (Bet W2.heap.size w3.heap.size) os (.slice ua un uc) := hU0.move (S := fun _ => False) (Chg.of_below hb4) (fun q hq => hq.elim) (fun q _ z => z)
  obtain ⟨dd, hU5⟩ := hU4
  have hT4 : TabD W4 := HT.out.1.chg (S := fun _ => False) (Chg.of_below (HW2.out.2.2.2.trans (k24.mono HW2.out.2.2.2.size))) (fun q => q)
  obtain ⟨sa, sn, sc, hsl, hmk⟩ := makeMatcher_core W4 hT4 (fun k hk => by have := hk.2; omega) hU5 hwt
  simp only [Value.slice.injEq] at hsl
  obtain ⟨rfl, rfl, rfl⟩ := hsl
  have HMk : Hid (Calls Tryz.prog 105 #[.agg #[.slice ua un uc]] W4 (MkR os W4)) := hmk
  have HGr : Hid (AltG (AtomG nn) os (sb n.s) ∧ wtA os ≤ 250) := ⟨hg0, hwt⟩
  obtain ⟨rb, hrb⟩ : ∃ rb, rb = w3.heap.size := ⟨_, rfl⟩
  rw [← hrb] at HA4
  go_upto_region 8 with fail
  rw [← hW4, ← hrb]
  clear hW4 hrb ho hU0 hU5 hg0 hwt hT4 hmk ecut k24 hb3 hb4 hz3 hz4
  have a0 := HA4.out.1.cell (j := 0) rfl
  have HB4 : Hid (∀ wx, Below W4.heap.size W4 wx → BoxAt wx w.heap.size 111 8 (w.heap.size + 1) (#[.int .i64 0, .string ⟨#[]⟩, .bool false, .string ⟨#[]⟩, .int .u64 0, .int .u64 0, .int .i64 0, .pointer none]).toList ∧ BoxAt wx w.heap.size 111 8 (w.heap.size + 1 + 1) (eightV n none) ∧ Below w.heap.size w wx) := fun wx hx => by
    have k := HA4.out.2.1.trans (hx.mono HA4.out.2.2)
    exact ⟨HW2.out.2.1.below k, HW2.out.2.2.1.below k, HW2.out.2.2.2.trans (k.mono HW2.out.2.2.2.size)⟩
  go_wp2_with fail
  refine HMk.out.mono ?_
  rintro e w5 ⟨M, G, cp, mp, rfl, H5⟩
  have hB5 := HB4.out w5 H5.out.2.2.2
  have q7 := hB5.2.1.cell (j := 7) rfl
  have g7 := hB5.2.1.frozen 7
  have hlm := H5.out.1.ltM
  have hlg := H5.out.1.ltG
  have hlp := H5.out.2.2.1
  have hlp2 : mp < w5.heap.size := (Array.getElem?_eq_some_iff.1 H5.out.2.1).1
  have hz4 := HA4.out.2.2
  obtain ⟨W6, hW6⟩ : ∃ W6 : World, W6 = w5.setCell ⟨w.heap.size + 1 + 1, 7, none⟩ (.pointer (some ⟨M, 0, none⟩)) := ⟨_, rfl⟩
  have hc6 : Chg (fun k => k = w.heap.size + 1 + 1) w5 W6 := by rw [hW6]; exact Chg.of_set _ _ _ _ rfl
  have hs6 : W6.heap.size = w5.heap.size := by rw [hW6]; simp
  have HBx : Hid (BoxAt W6 w.heap.size 111 8 (w.heap.size + 1) (#[.int .i64 0, .string ⟨#[]⟩, .bool false, .string ⟨#[]⟩, .int .u64 0, .int .u64 0, .int .i64 0, .pointer none]).toList ∧ Below w.heap.size w W6 ∧ w.heap.size + 1 < W6.heap.size ∧ TstAt W6 (w.heap.size + 1 + 1 + 1) W6.heap.size n (.pointer (some ⟨M, 0, none⟩))) := by
    refine ⟨hB5.1.chg hc6 (by omega), Chg.below hB5.2.2 hc6 hB5.2.2.size (fun k q => by omega), by have := hB5.2.2.size; omega, .inr ⟨hP0.out, M, rfl, ?_⟩⟩
    have hcor := cor_P (.alt os) 1
    have e1 : lyP (.alt os) 1 = lyA os (Lay.no 1) := by simp only [lyP]
    rw [e1] at hcor
    have hnx : (lyA os (Lay.no 1)).nx ≤ 256 := by have h8 := nx_A os (Lay.no 1); have h9 := HGr.out.2; simp only [Lay.no] at h8; simp only [Lay.no]; omega
    have hM5 : MchAt w5 W4.heap.size w5.heap.size M n.s := ⟨_, _, _, _, _, _, _, os, nn, HGr.out.1, HG.out hP0.out, H5.out.1, ⟨0, StI.made H5.out.2.1⟩, fun b p hp => (hcor.spt.tk p _ hp).2, hcor.spt.le, hnx, hlp, hlm.2, hlg.2, hlp2, fun s => by
      have := run_words os hnx s
      exact this⟩
    have h9 := hM5.chg hc6 (fun k q z => by have := z.1; omega) (fun q z => by have := HT.out.1.lt; omega)
    rw [hs6]
    exact h9.wide (by omega) (Nat.le_refl _) (by have := HT.out.1.lt; omega)
  have HB6 : Hid (BoxAt W6 w.heap.size 111 8 (w.heap.size + 1 + 1) (eightV n (some ⟨M, 0, none⟩))) := by
    rw [hW6]
    exact hB5.2.1.set 7 _
  have HE2 : Hid (CteP n w (.returned (.agg #[.int .i64 n.kind, .string n.s, .bool n.hi, .string n.t, .int .u64 n.lo, .int .u64 n.up, .int .i64 n.n, .pointer (some ⟨M, 0, none⟩)])) (set8 W6 (w.heap.size + 1) n (some ⟨M, 0, none⟩)) ∧ BoxAt (set8 W6 (w.heap.size + 1) n (some ⟨M, 0, none⟩)) w.heap.size 111 8 (w.heap.size + 1) (eightV n (some ⟨M, 0, none⟩))) := HF.out W6 (some ⟨M, 0, none⟩) HBx.out.1 HBx.out.2.1 HBx.out.2.2.1 HBx.out.2.2.2
  clear hlm hlg hlp hlp2 hz4 hc6 hs6 H5 hB5
  go_upto_region 9 with fail
  rw [← hW6]
  clear hW6 q7 g7 a0
  obtain ⟨W9, hW9⟩ : ∃ W9, W9 = set8 W6 (w.heap.size + 1) n (some ⟨M, 0, none⟩) := ⟨_, rfl⟩
  rw [← hW9] at HE2
  simp only [set8] at hW9
  have m0 := HB6.out.cell (j := 0) rfl
  have m1 := HB6.out.cell (j := 1) rfl
  have m2 := HB6.out.cell (j := 2) rfl
  have m3 := HB6.out.cell (j := 3) rfl
  have m4 := HB6.out.cell (j := 4) rfl
  have m5 := HB6.out.cell (j := 5) rfl
  have m6 := HB6.out.cell (j := 6) rfl
  have m7 := HB6.out.cell (j := 7) rfl
  have r0 := HBx.out.1.cell (j := 0) rfl
  have r1 := HBx.out.1.cell (j := 1) rfl
  have r2 := HBx.out.1.cell (j := 2) rfl
  have r3 := HBx.out.1.cell (j := 3) rfl
  have r4 := HBx.out.1.cell (j := 4) rfl
  have r5 := HBx.out.1.cell (j := 5) rfl
  have r6 := HBx.out.1.cell (j := 6) rfl
  have r7 := HBx.out.1.cell (j := 7) rfl
  have f0 := HBx.out.1.frozen 0
  have f1 := HBx.out.1.frozen 1
  have f2 := HBx.out.1.frozen 2
  have f3 := HBx.out.1.frozen 3
  have f4 := HBx.out.1.frozen 4
  have f5 := HBx.out.1.frozen 5
  have f6 := HBx.out.1.frozen 6
  have f7 := HBx.out.1.frozen 7
  go_wp2_with fail
  rw [← hW9]
  exact bodyPost_ret (ct_res (base := w.heap.size) (g := w.heap.size + 1) rfl HE2.out.2) rfl HE2.out.1
end Go.Proofs.YtkidabedcgngcaaGreatDoor

/-
  impl.makeCellTest, every kind.
-/
namespace Go.Proofs.YtkidabedcgngcaaGreatDoor
open Go.ChangeShapes Go.WideShapes Go.ChangeAt Go.RowKit Go.Deep
theorem makeCellTest_core (n : Nd) (w : World) (hT : TabD w) (hs : n.s.size ≤ maxLen) (hg : PatK n.kind → (checkM (sb n.s)).1 = 0) : Calls Tryz.prog 71 #[n.v] w (CteP n w) := by
  by_cases hP : PatK n.kind
  · rcases hP with h | h | h | h
    · exact mct_4 n w hT hs (hg (.inl h)) h
    · exact mct_5 n w hT hs (hg (.inr (.inl h))) h
    · exact mct_6 n w hT hs (hg (.inr (.inr (.inl h)))) h
    · exact mct_7 n w hT hs (hg (.inr (.inr (.inr h)))) h
  · exact mct_plain n w hT hs hP
end Go.Proofs.YtkidabedcgngcaaGreatDoor

