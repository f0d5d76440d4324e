import Derived.Test.YtkidabedcgngcaaGreatDoorPkAL
/-
  connect.
-/
namespace Go.Proofs.YtkidabedcgngcaaGreatDoor
open Go.ChangeShapes Go.WideShapes Go.ChangeAt Go.RowKit Go.Deep Go.Shelf
set_option linter.unusedVariables false
set_option linter.unusedSimpArgs false
set_option maxRecDepth 100000
attribute [local go_sem] Oper.semAt_some

theorem MtrI.edge4 {w : World} {base M : Nat} {T : Nat → PS} {G cp a : Nat} {E : Nat → PS} {en : PS} {mp : Nat} (h : MtrI w base M T G cp a E en mp) {p : Nat} (hp : p < a) : w.cell? ⟨G, p * 4, none⟩ = some (.int .u64 (wdN (E p) 0 : Int)) ∧ w.cell? ⟨G, p * 4 + 1, none⟩ = some (.int .u64 (wdN (E p) 1 : Int)) ∧ w.cell? ⟨G, p * 4 + 2, none⟩ = some (.int .u64 (wdN (E p) 2 : Int)) ∧ w.cell? ⟨G, p * 4 + 3, none⟩ = some (.int .u64 (wdN (E p) 3 : Int)) ∧ w.frozen? ⟨G, p * 4, none⟩ = false ∧ w.frozen? ⟨G, p * 4 + 1, none⟩ = false ∧ w.frozen? ⟨G, p * 4 + 2, none⟩ = false ∧ w.frozen? ⟨G, p * 4 + 3, none⟩ = false := by
  rw [Nat.mul_comm p 4]
  exact ⟨h.edge hp (j := 0) (by omega), h.edge hp (by omega), h.edge hp (by omega), h.edge hp (by omega), h.frzG _, h.frzG _, h.frzG _, h.frzG _⟩
/-- What follows the positions of F below k: X besides. -/
def conE (E : Nat → PS) (F X : PS) (k : Nat) : Nat → PS := fun p => if p < k then (fun q => E p q || (F p && X q)) else E p
/-- The three boxes of connect. -/
def CoB (w : World) (h M : Nat) (F X : PS) (W : World) : Prop := BoxAt W h 109 1 h [.pointer (some ⟨M, 0, none⟩)] ∧ BoxAt W h 178 4 (h + 1) (psL F) ∧ BoxAt W h 178 4 (h + 1 + 1) (psL X)
def CoI (w : World) (base M : Nat) (T : Nat → PS) (G cp a : Nat) (E : Nat → PS) (en : PS) (mp : Nat) (F X : PS) (k : Nat) (W : World) : Prop :=
  MtrI W base M T G cp a (conE E F X k) en mp ∧ CoB w w.heap.size M F X W ∧ Chg (fun j => j = G) w W
set_option maxHeartbeats 4000000 in
theorem connect_core {base M : Nat} {T : Nat → PS} {G cp a : Nat} {E : Nat → PS} {en : PS} {mp : Nat} (F X : PS) (w : World) (h : MtrI w base M T G cp a E en mp) (hF : ∀ p, F p = true → p < a) (ha : a ≤ 256) :
    Calls Tryz.prog 156 #[.pointer (some ⟨M, 0, none⟩), psV F, psV X] w fun e w' => (∃ v, e = .returned v) ∧ Hid (MtrI w' base M T G cp a (fun p q => E p q || (F p && X q)) en mp ∧ Chg (fun k => k = G) w w') := by
  obtain ⟨W0, hW0⟩ : ∃ W0 : World, W0 = ((w.alloc (.cells #[.pointer (some ⟨M, 0, none⟩)] 109)).alloc (.cells (psL F).toArray 178)).alloc (.cells (psL X).toArray 178) := ⟨_, rfl⟩
  have k1 : ∀ (x : World) (o : Obj), Below x.heap.size x (x.alloc o) := fun x o => (Below.refl _ _).alloc (Nat.le_refl _) _
  have HI0 : Hid (CoI w base M T G cp a E en mp F X 0 W0 ∧ W0.heap.size = w.heap.size + 3) := by
    have b1 := boxAt_new w (base := w.heap.size) (t := 109) (sz := 1) #[.pointer (some ⟨M, 0, none⟩)] (Nat.le_refl _) rfl
    have b2 := boxAt_new (w.alloc (.cells #[.pointer (some ⟨M, 0, none⟩)] 109)) (base := w.heap.size) (t := 178) (sz := 4) (psL F).toArray (by simp) rfl
    have b3 := boxAt_new ((w.alloc (.cells #[.pointer (some ⟨M, 0, none⟩)] 109)).alloc (.cells (psL F).toArray 178)) (base := w.heap.size) (t := 178) (sz := 4) (psL X).toArray (by simp; omega) rfl
    rw [World.size_alloc] at b2
    rw [World.size_alloc, World.size_alloc] at b3
    have e : conE E F X 0 = E := by funext p q; simp [conE]
    unfold CoI CoB
    rw [hW0, e]
    exact ⟨⟨((h.below (k1 _ _)).below (k1 _ _)).below (k1 _ _), ⟨(b1.below (k1 _ _)).below (k1 _ _), b2.below (k1 _ _), b3⟩, Chg.of_below ((((Below.refl _ _).alloc (Nat.le_refl _) _).alloc (by simp) _).alloc (by simp; omega) _)⟩, by simp⟩
  have HF : Hid (∀ p, F p = true → p < a) := hF
  have hGw0 : G < w.heap.size := h.ltG.2
  have hMw0 : M < w.heap.size := h.ltM.2
  clear h hF k1
  have hmo : Tryz.prog.follows Departure.mixedOrders = true := by kernel_rfl
  refine (callsIn_wide (n := 9)).1 ?_
  refine callsIn_of_wp_marks Tryz.func156 rfl trivial ?_ rfl
  simp only [Tryz.ntmps156, List.size_toArray, List.length_cons, List.length_nil, Nat.reduceAdd, Nat.reduceSub, Array.replicate_succ, Array.replicate_zero, List.push_toArray, List.append_toArray, List.nil_append, List.cons_append]
  gi_wp2
  have hW0' := hW0
  simp only [psL] at hW0'
  rw [← hW0']
  clear hW0 hW0'
  have z0 := HI0.out.2
  refine wp_range_mem (by decide) F rfl rfl (fun k W => CoI w base M T G cp a E en mp F X k W ∧ W0.heap.size ≤ W.heap.size) ?hI ?hIt ?hIs ⟨HI0.out.1, Nat.le_refl _⟩
    (fun x => { tmps := #[.pointer (some ⟨M, 0, none⟩), psV F, psV X, .pointer (some ⟨w.heap.size, 0, none⟩), .pointer (some ⟨w.heap.size + 1, 0, none⟩), .pointer (some ⟨w.heap.size + 1 + 1, 0, none⟩), .int .i64 (x : Int), psV F, .func (.func 160) #[psV F] #[], .int .i64 (x : Int), undef, undef, undef, undef, undef, undef, undef, undef, undef, undef, undef, undef, undef, undef, undef], defers := [] }) ?assign ?body ?done
  case hI =>
    rintro k A B row ⟨⟨hM, hB, hC⟩, hsz⟩ hg hr
    have hc : Chg (fun j => row = some j) A B := Chg.of_grown hg (fun j q => q)
    have hlow : ∀ j, row = some j → W0.heap.size ≤ j := fun j q => (hr j q).1
    have hb : ∀ {t sz g : Nat} {vs : List Value}, g < W0.heap.size → BoxAt A w.heap.size t sz g vs → BoxAt B w.heap.size t sz g vs := fun hg h => h.chg hc (fun q => by have := hlow _ q; omega)
    refine ⟨⟨hM.chg hc (fun q => by have := hlow _ q; omega) (fun q => by have := hlow _ q; omega) (fun j q => by have := hlow _ q; have := hM.ltG.1; omega), ⟨hb (by omega) hB.1, hb (by omega) hB.2.1, hb (by omega) hB.2.2⟩, ?_⟩, Nat.le_trans hsz hc.size⟩
    exact ⟨hc.os.trans hC.os, hc.tape.trans hC.tape, hc.output.trans hC.output, Nat.le_trans hC.size hc.size, fun j hj hn => (hc.block j (Nat.lt_of_lt_of_le hj hC.size) (fun q => by have := hlow _ q; omega)).trans (hC.block j hj hn)⟩
  case hIt => exact fun k W h => h.1.1.tab
  case hIs =>
    rintro k k' W ⟨⟨hM, hB, hC⟩, hsz⟩ hk hno
    refine ⟨⟨hM.iff (fun _ _ _ _ => rfl) (fun q p hq hp => ?_) (fun p hp q => ?_), hB, hC⟩, hsz⟩
    · unfold conE
      by_cases h3 : q < k
      · rw [if_pos h3, if_pos (by omega)]
      · rw [if_neg h3]
        by_cases h4 : q < k'
        · rw [if_pos h4, hno q (by omega) h4]; simp
        · rw [if_neg h4]
    · have h5 := hM.new p hp q
      unfold conE at h5 ⊢
      have hFp : F p = false := by
        cases hf : F p with
        | false => rfl
        | true => have := HF.out p hf; omega
      rw [hFp] at h5 ⊢
      by_cases h3 : p < k
      · rw [if_pos h3] at h5; rw [if_pos (by omega)]; exact h5
      · rw [if_neg h3] at h5
        by_cases h4 : p < k'
        · rw [if_pos h4]; simp [h5]
        · rw [if_neg h4]; exact h5
  case assign =>
    intro l x W K hK
    gi_wp2
    exact hK
  case body =>
    rintro l k x W ⟨⟨hM, hB, hC⟩, hsz⟩ hkx hx hS hbet
    have hxa := HF.out x hS
    have m0 := hB.1.cell (j := 0) rfl
    have t0 := hB.2.2.cell (j := 0) rfl
    have t1 := hB.2.2.cell (j := 1) rfl
    have t2 := hB.2.2.cell (j := 2) rfl
    have t3 := hB.2.2.cell (j := 3) rfl
    have c0 := hM.fol
    have hcap := hM.caps
    have hEx : conE E F X k x = E x := by unfold conE; rw [if_neg (by omega)]
    have e0 : W.cell? ⟨G, x * 4, none⟩ = some (.int .u64 (wdN (E x) 0 : Int)) := by have := hM.edge hxa (j := 0) (by omega); rwa [hEx, show 4 * x + 0 = x * 4 by omega] at this
    have e1 : W.cell? ⟨G, x * 4 + 1, none⟩ = some (.int .u64 (wdN (E x) 1 : Int)) := by have := hM.edge hxa (j := 1) (by omega); rwa [hEx, show 4 * x + 1 = x * 4 + 1 by omega] at this
    have e2 : W.cell? ⟨G, x * 4 + 2, none⟩ = some (.int .u64 (wdN (E x) 2 : Int)) := by have := hM.edge hxa (j := 2) (by omega); rwa [hEx, show 4 * x + 2 = x * 4 + 2 by omega] at this
    have e3 : W.cell? ⟨G, x * 4 + 3, none⟩ = some (.int .u64 (wdN (E x) 3 : Int)) := by have := hM.edge hxa (j := 3) (by omega); rwa [hEx, show 4 * x + 3 = x * 4 + 3 by omega] at this
    have zx : (x : Int) < (a : Int) := by omega
    have HB : Hid (MtrI W base M T G cp a (conE E F X k) en mp ∧ CoB w w.heap.size M F X W ∧ Chg (fun j => j = G) w W ∧ W0.heap.size ≤ W.heap.size ∧ conE E F X k x = E x ∧ F x = true ∧ (∀ j, k ≤ j → j < x → F j = false)) := ⟨hM, hB, hC, hsz, hEx, hS, hbet⟩
    have HU : Hid (∀ wx : World, Calls Tryz.prog 161 #[psV (E x), psV X] wx fun e w' => e = .returned (psV (sOr (E x) X)) ∧ Below wx.heap.size wx w') := fun wx => union_core (E x) X wx
    have hlG := hM.ltG
    clear hM hB hC hsz hEx hS hbet
    have HS0 : Hid (W.drew.cell? ⟨w.heap.size, 0, none⟩ = some (.pointer (some ⟨M, 0, none⟩)) ∧ W.drew.cell? ⟨M, 1024, none⟩ = some (.slice (some ⟨G, 0, none⟩) a cp) ∧ (W.drew.cell? ⟨G, x * 4, none⟩ = some (.int .u64 (wdN (E x) 0 : Int)) ∧ W.drew.cell? ⟨G, x * 4 + 1, none⟩ = some (.int .u64 (wdN (E x) 1 : Int)) ∧ W.drew.cell? ⟨G, x * 4 + 2, none⟩ = some (.int .u64 (wdN (E x) 2 : Int)) ∧ W.drew.cell? ⟨G, x * 4 + 3, none⟩ = some (.int .u64 (wdN (E x) 3 : Int))) ∧ W.drew.cell? ⟨w.heap.size + 1 + 1, 0, none⟩ = some (.int .u64 (wdN X 0 : Int)) ∧ W.drew.cell? ⟨w.heap.size + 1 + 1, 1, none⟩ = some (.int .u64 (wdN X 1 : Int)) ∧ W.drew.cell? ⟨w.heap.size + 1 + 1, 2, none⟩ = some (.int .u64 (wdN X 2 : Int)) ∧ W.drew.cell? ⟨w.heap.size + 1 + 1, 3, none⟩ = some (.int .u64 (wdN X 3 : Int))) := ⟨m0, c0, ⟨e0, e1, e2, e3⟩, t0, t1, t2, t3⟩
    gi_wp2
    refine wpIn_region_T 15 (fun wz => wz.cell? ⟨w.heap.size, 0, none⟩ = some (.pointer (some ⟨M, 0, none⟩)) ∧ wz.cell? ⟨M, 1024, none⟩ = some (.slice (some ⟨G, 0, none⟩) a cp) ∧ (wz.cell? ⟨G, x * 4, none⟩ = some (.int .u64 (wdN (E x) 0 : Int)) ∧ wz.cell? ⟨G, x * 4 + 1, none⟩ = some (.int .u64 (wdN (E x) 1 : Int)) ∧ wz.cell? ⟨G, x * 4 + 2, none⟩ = some (.int .u64 (wdN (E x) 2 : Int)) ∧ wz.cell? ⟨G, x * 4 + 3, none⟩ = some (.int .u64 (wdN (E x) 3 : Int))) ∧ wz.cell? ⟨w.heap.size + 1 + 1, 0, none⟩ = some (.int .u64 (wdN X 0 : Int)) ∧ wz.cell? ⟨w.heap.size + 1 + 1, 1, none⟩ = some (.int .u64 (wdN X 1 : Int)) ∧ wz.cell? ⟨w.heap.size + 1 + 1, 2, none⟩ = some (.int .u64 (wdN X 2 : Int)) ∧ wz.cell? ⟨w.heap.size + 1 + 1, 3, none⟩ = some (.int .u64 (wdN X 3 : Int))) (by kernel_rfl) (by kernel_rfl) ?hlet ?_
    case hlet => rintro ⟨a0, w0, hq⟩; exact nomatch (show Exit.outgrown = Exit.normal from hq.1)
    refine anyT_take (i := 0) (v := ?vc0) rfl (by kernel_rfl) (by kernel_rfl) (by kernel_rfl) (by kernel_rfl) (by decide) (fun _ _ _ h => h) (Or.inl ⟨by rfl, ?yc0⟩) HS0.out ?_
    case yc0 => (intro wz hSw; obtain ⟨d0, d1, ⟨d2, d3, d4, d5⟩, d6, d7, d8, d9⟩ := hSw; go_simp; (try with_reducible rfl))
    try simp only [Act.put, List.getElem_toArray, List.getElem_cons_zero, List.getElem_cons_succ, List.setIfInBounds_toArray, List.set_cons_zero, List.set_cons_succ]
    refine anyT_take (i := 1) (v := ?vc1) rfl (by kernel_rfl) (by kernel_rfl) (by kernel_rfl) (by kernel_rfl) (by decide) (fun _ _ _ h => h) (Or.inl ⟨by rfl, ?yc1⟩) HS0.out ?_
    case yc1 => (intro wz hSw; obtain ⟨d0, d1, ⟨d2, d3, d4, d5⟩, d6, d7, d8, d9⟩ := hSw; go_simp; (try with_reducible rfl))
    try simp only [Act.put, List.getElem_toArray, List.getElem_cons_zero, List.getElem_cons_succ, List.setIfInBounds_toArray, List.set_cons_zero, List.set_cons_succ]
    refine anyT_take (i := 2) (v := ?vc2) rfl (by kernel_rfl) (by kernel_rfl) (by kernel_rfl) (by kernel_rfl) (by decide) (fun _ _ _ h => h) (Or.inl ⟨by rfl, ?yc2⟩) HS0.out ?_
    case yc2 => (intro wz hSw; obtain ⟨d0, d1, ⟨d2, d3, d4, d5⟩, d6, d7, d8, d9⟩ := hSw; go_simp; (try with_reducible rfl))
    try simp only [Act.put, List.getElem_toArray, List.getElem_cons_zero, List.getElem_cons_succ, List.setIfInBounds_toArray, List.set_cons_zero, List.set_cons_succ]
    refine anyT_take (i := 3) (v := ?vc3) rfl (by kernel_rfl) (by kernel_rfl) (by kernel_rfl) (by kernel_rfl) (by decide) (fun _ _ _ h => h) (Or.inl ⟨by rfl, ?yc3⟩) HS0.out ?_
    case yc3 => (intro wz hSw; obtain ⟨d0, d1, ⟨d2, d3, d4, d5⟩, d6, d7, d8, d9⟩ := hSw; go_simp; (try with_reducible rfl))
    try simp only [Act.put, List.getElem_toArray, List.getElem_cons_zero, List.getElem_cons_succ, List.setIfInBounds_toArray, List.set_cons_zero, List.set_cons_succ]
    refine anyT_take (i := 4) (v := ?vc4) rfl (by kernel_rfl) (by kernel_rfl) (by kernel_rfl) (by kernel_rfl) (by decide) (fun _ _ _ h => h) (Or.inl ⟨by rfl, ?yc4⟩) HS0.out ?_
    case yc4 => (intro wz hSw; obtain ⟨d0, d1, ⟨d2, d3, d4, d5⟩, d6, d7, d8, d9⟩ := hSw; go_simp; (try with_reducible rfl))
    try simp only [Act.put, List.getElem_toArray, List.getElem_cons_zero, List.getElem_cons_succ, List.setIfInBounds_toArray, List.set_cons_zero, List.set_cons_succ]
    refine anyT_take (i := 5) (v := ?vc5) rfl (by kernel_rfl) (by kernel_rfl) (by kernel_rfl) (by kernel_rfl) (by decide) (fun _ _ _ h => h) (Or.inl ⟨by rfl, ?yc5⟩) HS0.out ?_
    case yc5 => (intro wz hSw; obtain ⟨d0, d1, ⟨d2, d3, d4, d5⟩, d6, d7, d8, d9⟩ := hSw; go_simp; (try with_reducible rfl))
    try simp only [Act.put, List.getElem_toArray, List.getElem_cons_zero, List.getElem_cons_succ, List.setIfInBounds_toArray, List.set_cons_zero, List.set_cons_succ]
    refine anyT_take (i := 6) (v := ?vc6) rfl (by kernel_rfl) (by kernel_rfl) (by kernel_rfl) (by kernel_rfl) (by decide) (fun _ _ _ h => h) (Or.inl ⟨by rfl, ?yc6⟩) HS0.out ?_
    case yc6 => (intro wz hSw; obtain ⟨d0, d1, ⟨d2, d3, d4, d5⟩, d6, d7, d8, d9⟩ := hSw; go_simp; (try with_reducible rfl))
    try simp only [Act.put, List.getElem_toArray, List.getElem_cons_zero, List.getElem_cons_succ, List.setIfInBounds_toArray, List.set_cons_zero, List.set_cons_succ]
    refine anyT_take (i := 7) (v := ?vc7) rfl (by kernel_rfl) (by kernel_rfl) (by kernel_rfl) (by kernel_rfl) (by decide) (fun _ _ _ h => h) (Or.inl ⟨by rfl, ?yc7⟩) HS0.out ?_
    case yc7 => (intro wz hSw; obtain ⟨d0, d1, ⟨d2, d3, d4, d5⟩, d6, d7, d8, d9⟩ := hSw; go_simp; (try with_reducible rfl))
    try simp only [Act.put, List.getElem_toArray, List.getElem_cons_zero, List.getElem_cons_succ, List.setIfInBounds_toArray, List.set_cons_zero, List.set_cons_succ]
    refine anyT_take (i := 8) (v := ?vc8) rfl (by kernel_rfl) (by kernel_rfl) (by kernel_rfl) (by kernel_rfl) (by decide) (fun _ _ _ h => h) (Or.inl ⟨by rfl, ?yc8⟩) HS0.out ?_
    case yc8 => (intro wz hSw; obtain ⟨d0, d1, ⟨d2, d3, d4, d5⟩, d6, d7, d8, d9⟩ := hSw; go_simp; (try with_reducible rfl))
    try simp only [Act.put, List.getElem_toArray, List.getElem_cons_zero, List.getElem_cons_succ, List.setIfInBounds_toArray, List.set_cons_zero, List.set_cons_succ]
    refine anyT_take (i := 9) (v := ?vc9) rfl (by kernel_rfl) (by kernel_rfl) (by kernel_rfl) (by kernel_rfl) (by decide) (fun _ _ _ h => h) (Or.inl ⟨by rfl, ?yc9⟩) HS0.out ?_
    case yc9 => (intro wz hSw; obtain ⟨d0, d1, ⟨d2, d3, d4, d5⟩, d6, d7, d8, d9⟩ := hSw; go_simp; (try with_reducible rfl))
    try simp only [Act.put, List.getElem_toArray, List.getElem_cons_zero, List.getElem_cons_succ, List.setIfInBounds_toArray, List.set_cons_zero, List.set_cons_succ]
    refine anyT_take (i := 10) (v := ?vc10) rfl (by kernel_rfl) (by kernel_rfl) (by kernel_rfl) (by kernel_rfl) (by decide) (fun _ _ _ h => h) (Or.inl ⟨by rfl, ?yc10⟩) HS0.out ?_
    case yc10 => (intro wz hSw; obtain ⟨d0, d1, ⟨d2, d3, d4, d5⟩, d6, d7, d8, d9⟩ := hSw; go_simp; (try with_reducible rfl))
    try simp only [Act.put, List.getElem_toArray, List.getElem_cons_zero, List.getElem_cons_succ, List.setIfInBounds_toArray, List.set_cons_zero, List.set_cons_succ]
    refine anyT_take (i := 11) (v := ?vc11) rfl (by kernel_rfl) (by kernel_rfl) (by kernel_rfl) (by kernel_rfl) (by decide) (fun _ _ _ h => h) (Or.inl ⟨by rfl, ?yc11⟩) HS0.out ?_
    case yc11 => (intro wz hSw; obtain ⟨d0, d1, ⟨d2, d3, d4, d5⟩, d6, d7, d8, d9⟩ := hSw; go_simp; (try with_reducible rfl))
    try simp only [Act.put, List.getElem_toArray, List.getElem_cons_zero, List.getElem_cons_succ, List.setIfInBounds_toArray, List.set_cons_zero, List.set_cons_succ]
    refine anyT_take (i := 12) (v := ?vc12) rfl (by kernel_rfl) (by kernel_rfl) (by kernel_rfl) (by kernel_rfl) (by decide) (fun _ _ _ h => h) (Or.inl ⟨by rfl, ?yc12⟩) HS0.out ?_
    case yc12 => (intro wz hSw; obtain ⟨d0, d1, ⟨d2, d3, d4, d5⟩, d6, d7, d8, d9⟩ := hSw; go_simp; (try with_reducible rfl))
    try simp only [Act.put, List.getElem_toArray, List.getElem_cons_zero, List.getElem_cons_succ, List.setIfInBounds_toArray, List.set_cons_zero, List.set_cons_succ]
    refine anyT_one (i := 13) (by kernel_rfl) rfl (fun K hK => ?_)
    go_simp
    refine (HU.out _).mono ?_
    rintro r v3 ⟨rfl, hb3⟩
    have HV : Hid (Below W.heap.size W v3) := ((Below.refl W.heap.size W).drew).trans hb3
    have HM3 : Hid (MtrI v3 base M T G cp a (conE E F X k) en mp) := HB.out.1.below HV.out
    have hB3 : CoB w w.heap.size M F X v3 := ⟨HB.out.2.1.1.below HV.out, HB.out.2.1.2.1.below HV.out, HB.out.2.1.2.2.below HV.out⟩
    obtain ⟨g0, g1, g2, g3, y0, y1, y2, y3⟩ := HM3.out.edge4 hxa
    rw [HB.out.2.2.2.2.1] at g0 g1 g2 g3
    have HS3 : Hid (v3.cell? ⟨w.heap.size, 0, none⟩ = some (.pointer (some ⟨M, 0, none⟩)) ∧ v3.cell? ⟨M, 1024, none⟩ = some (.slice (some ⟨G, 0, none⟩) a cp) ∧ (v3.cell? ⟨G, x * 4, none⟩ = some (.int .u64 (wdN (E x) 0 : Int)) ∧ v3.cell? ⟨G, x * 4 + 1, none⟩ = some (.int .u64 (wdN (E x) 1 : Int)) ∧ v3.cell? ⟨G, x * 4 + 2, none⟩ = some (.int .u64 (wdN (E x) 2 : Int)) ∧ v3.cell? ⟨G, x * 4 + 3, none⟩ = some (.int .u64 (wdN (E x) 3 : Int))) ∧ v3.cell? ⟨w.heap.size + 1 + 1, 0, none⟩ = some (.int .u64 (wdN X 0 : Int)) ∧ v3.cell? ⟨w.heap.size + 1 + 1, 1, none⟩ = some (.int .u64 (wdN X 1 : Int)) ∧ v3.cell? ⟨w.heap.size + 1 + 1, 2, none⟩ = some (.int .u64 (wdN X 2 : Int)) ∧ v3.cell? ⟨w.heap.size + 1 + 1, 3, none⟩ = some (.int .u64 (wdN X 3 : Int))) := ⟨hB3.1.cell (j := 0) rfl, HM3.out.fol, ⟨g0, g1, g2, g3⟩, hB3.2.2.cell (j := 0) rfl, hB3.2.2.cell (j := 1) rfl, hB3.2.2.cell (j := 2) rfl, hB3.2.2.cell (j := 3) rfl⟩
    have HB3 : Hid (CoB w w.heap.size M F X v3) := hB3
    refine hK.out _ _ (.inr HS3.out) ?_
    clear hK hb3 hB3
    try simp only [Act.put, List.getElem_toArray, List.getElem_cons_zero, List.getElem_cons_succ, List.setIfInBounds_toArray, List.set_cons_zero, List.set_cons_succ]
    refine anyT_take (i := 14) (v := ?vc14) rfl (by kernel_rfl) (by kernel_rfl) (by kernel_rfl) (by kernel_rfl) (by decide) (fun _ _ _ h => h) (Or.inl ⟨by rfl, ?yc14⟩) HS3.out ?_
    case yc14 => (intro wz hSw; obtain ⟨d0, d1, ⟨d2, d3, d4, d5⟩, d6, d7, d8, d9⟩ := hSw; go_simp; (try with_reducible rfl))
    try simp only [Act.put, List.getElem_toArray, List.getElem_cons_zero, List.getElem_cons_succ, List.setIfInBounds_toArray, List.set_cons_zero, List.set_cons_succ]
    refine anyT_one (i := 15) (by kernel_rfl) rfl (fun K hK => ?_)
    go_simp
    refine hK.out _ _ (.inl rfl) ?_
    clear hK
    try simp only [Act.put, List.getElem_toArray, List.getElem_cons_zero, List.getElem_cons_succ, List.setIfInBounds_toArray, List.set_cons_zero, List.set_cons_succ]
    refine anyT_done (by kernel_rfl) ?_
    have hC3 : Chg (fun j => j = G) W (set4 v3 G (x * 4) (sOr (E x) X)) := (Chg.of_below HV.out).trans (chg_set4 v3 G (x * 4) _ rfl)
    have hGw : G < w.heap.size := hGw0
    refine ⟨rfl, ⟨hC3.size, fun j o hj ho _ => (hC3.block j (Array.getElem?_eq_some_iff.1 ho).1 (by omega)).trans ho⟩, ⟨?_, ?_, HB.out.2.2.1.trans hC3⟩, Nat.le_trans HB.out.2.2.2.1 hC3.size⟩
    · have h1 := HM3.out.setE hxa (sOr (E x) X)
      rw [Nat.mul_comm 4 x] at h1
      refine h1.iff (fun _ _ _ _ => rfl) (fun q p hq hp => ?_) (fun p hp q => ?_)
      · unfold updE conE
        by_cases h2 : q = x
        · subst h2; rw [if_pos rfl, if_pos (by omega), HB.out.2.2.2.2.2.1]; simp [sOr]
        · rw [if_neg h2]
          by_cases h3 : q < k
          · rw [if_pos h3, if_pos (by omega)]
          · rw [if_neg h3]
            by_cases h4 : q < x + 1
            · rw [if_pos h4, HB.out.2.2.2.2.2.2 q (by omega) (by omega)]; simp
            · rw [if_neg h4]
      · have h5 := HM3.out.new p hp q
        unfold conE at h5 ⊢
        have hFp : F p = false := by
          cases hf : F p with
          | false => rfl
          | true => have := HF.out p hf; omega
        rw [hFp] at h5 ⊢
        by_cases h3 : p < k
        · rw [if_pos h3] at h5; rw [if_pos (by omega)]; exact h5
        · rw [if_neg h3] at h5
          by_cases h4 : p < x + 1
          · rw [if_pos h4]; simp [h5]
          · rw [if_neg h4]; exact h5
    · have hb : ∀ {t sz g : Nat} {vs : List Value}, BoxAt v3 w.heap.size t sz g vs → BoxAt (set4 v3 G (x * 4) (sOr (E x) X)) w.heap.size t sz g vs := fun h => h.chg (S := fun j => j = G) (chg_set4 v3 G (x * 4) _ rfl) (by have := h.lt.1; omega)
      exact ⟨hb HB3.out.1, hb HB3.out.2.1, hb HB3.out.2.2⟩
  case done =>
    rintro D W hD ⟨⟨hM, hB, hC⟩, hsz⟩ hK
    have hPut : Chg (fun j => j = D) W (W.putObj D (.deferred none)) := Chg.of_grown (grownBy_putObj' W D _) (fun j q => by cases q; rfl)
    have HFin : Hid (MtrI (W.putObj D (.deferred none)) base M T G cp a (fun p q => E p q || (F p && X q)) en mp ∧ Chg (fun k => k = G) w (W.putObj D (.deferred none))) := by
      refine ⟨(hM.chg hPut (by omega) (by omega) (fun j q => by have := hM.ltG.1; omega)).iff (fun _ _ _ _ => rfl) (fun q p hq hp => ?_) (fun p hp q => ?_), ?_⟩
      · unfold conE; rw [if_pos (by omega)]
      · have h5 := hM.new p hp q
        unfold conE at h5
        have hFp : F p = false := by
          cases hf : F p with
          | false => rfl
          | true => have := HF.out p hf; omega
        rw [hFp] at h5 ⊢
        by_cases h3 : p < 256
        · rw [if_pos h3] at h5; exact h5
        · rw [if_neg h3] at h5; simp [h5]
      · exact ⟨hPut.os.trans hC.os, hPut.tape.trans hC.tape, hPut.output.trans hC.output, Nat.le_trans hC.size hPut.size, fun j hj hn => (hPut.block j (Nat.lt_of_lt_of_le hj hC.size) (by omega)).trans (hC.block j hj hn)⟩
    clear hM hB hC hPut
    gi_wp2
    refine ⟨by simp, .inl ⟨_, _, rfl, run_takeDeferred hK, ?_⟩⟩
    exact ⟨_, results_none rfl _ _ _, ⟨_, rfl⟩, HFin⟩
end Go.Proofs.YtkidabedcgngcaaGreatDoor

/-
  state, where it is known.
-/
namespace Go.Proofs.YtkidabedcgngcaaGreatDoor
open Go.ChangeShapes Go.WideShapes Go.ChangeAt Go.RowKit Go.Deep Go.Shelf
set_option linter.unusedVariables false
set_option linter.unusedSimpArgs false
set_option maxRecDepth 100000

/-- Whether a set has no members. -/
def noE (X : PS) : Bool := decide (wdN X 0 = 0) && decide (wdN X 1 = 0) && decide (wdN X 2 = 0) && decide (wdN X 3 = 0)
theorem ps_equal (X : PS) (w : World) : (Op.equalIn 10000 178 (psV X) (.agg #[.int .u64 0, .int .u64 0, .int .u64 0, .int .u64 0])).run Tryz.prog w = .ok (noE X) w := by
  have h := run_equalIn_deep (P := Tryz.prog) 9998 2 178 (by kernel_rfl)
  have h2 : Tryz.prog.cellsOf 178 = 4 := by kernel_rfl
  have h3 : Tryz.prog.cellsOf 49 = 1 := by kernel_rfl
  have h4 : List.range 4 = [0, 1, 2, 3] := rfl
  have k : ∀ S : PS, Tryz.prog.keyLits 2 178 (psV S).cells.toList = some [.int .u64 (wdN S 0 : Int), .int .u64 (wdN S 1 : Int), .int .u64 (wdN S 2 : Int), .int .u64 (wdN S 3 : Int)] := fun S => by
    have w0 := wd_wf S 0
    have w1 := wd_wf S 1
    have w2 := wd_wf S 2
    have w3 := wd_wf S 3
    simp [Program.keyLits, Tryz.underlying178, Tryz.underlying49, h2, h3, h4, Value.cells, w0, w1, w2, w3]
  have hz : (.agg #[.int .u64 0, .int .u64 0, .int .u64 0, .int .u64 0] : Value) = psV sNo := psV_no.symm
  rw [hz]
  obtain ⟨r, hr, hi⟩ := h w 2 2 (psV X) (psV sNo) _ _ (by kernel_rfl) (by kernel_rfl) (k X) (k sNo)
  rw [show (10000 : Nat) = 9998 + 2 from rfl, hr]
  congr 1
  rw [Bool.eq_iff_iff, hi]
  unfold noE
  simp only [wdN_no]
  simp [and_assoc]
theorem ps_neq (X : PS) (w : World) : (binOp .neq 178 (psV X) (.agg #[.int .u64 0, .int .u64 0, .int .u64 0, .int .u64 0])).run Tryz.prog w = .ok (.bool (!noE X)) w := by
  have h := ps_equal X w
  go_simp
theorem ps_eql (X : PS) (w : World) : (binOp .eql 178 (psV X) (.agg #[.int .u64 0, .int .u64 0, .int .u64 0, .int .u64 0])).run Tryz.prog w = .ok (.bool (noE X)) w := by
  have h := ps_equal X w
  go_simp
theorem noE_iff (X : PS) : noE X = false ↔ ∃ p, p < 256 ∧ X p = true := by
  constructor
  · intro h
    apply Classical.byContradiction
    intro hn
    have hx : ∀ p, p < 256 → X p = sNo p := fun p hp => by
      cases hc : X p with
      | false => rfl
      | true => exact absurd ⟨p, hp, hc⟩ hn
    have : noE X = true := by
      unfold noE
      simp [wdN_congr hx (i := 0) (by omega), wdN_congr hx (i := 1) (by omega), wdN_congr hx (i := 2) (by omega), wdN_congr hx (i := 3) (by omega), wdN_no]
    rw [h] at this; cases this
  · rintro ⟨p, hp, hx⟩
    cases he : noE X with
    | false => rfl
    | true =>
      unfold noE at he
      simp at he
      have h0 : X p = sNo p := words_inj (fun i hi => by
        rw [wdN_no]
        rcases (by omega : i = 0 ∨ i = 1 ∨ i = 2 ∨ i = 3) with rfl | rfl | rfl | rfl
        · exact he.1.1.1
        · exact he.1.1.2
        · exact he.1.2
        · exact he.2) p hp
      rw [hx] at h0; cases h0
theorem acc_and (en S : PS) : (!noE (sAnd S en)) = acc en S := by
  rw [Bool.eq_iff_iff]
  unfold acc
  rw [List.any_eq_true, Bool.not_eq_true', noE_iff]
  constructor
  · rintro ⟨p, hp, hx⟩; exact ⟨p, List.mem_range.2 hp, hx⟩
  · rintro ⟨p, hp, hx⟩; exact ⟨p, List.mem_range.1 hp, hx⟩
abbrev z5 : Array Value := #[.int .u64 0, .int .u64 0, .int .u64 0, .int .u64 0, .bool false]
def stL (A : PS) (b : Bool) : List Value := [.int .u64 (wdN A 0 : Int), .int .u64 (wdN A 1 : Int), .int .u64 (wdN A 2 : Int), .int .u64 (wdN A 3 : Int), .bool b]
/-- The boxes of state beside the matcher and its map. -/
structure StB (w X : World) (base M : Nat) (T : Nat → PS) (G cp a : Nat) (E : Nat → PS) (en : PS) (mp n : Nat) (D : DataW Value) (S : PS) : Prop where
  mtr : MtrI X base M T G cp a E en mp
  ptr : BoxAt X w.heap.size 109 1 w.heap.size [.pointer (some ⟨M, 0, none⟩)]
  set : BoxAt X w.heap.size 178 4 (w.heap.size + 1) (psL S)
  ans : BoxAt X w.heap.size 188 5 (w.heap.size + 1 + 1) z5.toList
  map : StD X mp n D E en
section
variable {w X X' : World} {base M : Nat} {T : Nat → PS} {G cp a : Nat} {E : Nat → PS} {en : PS} {mp n : Nat} {D : DataW Value} {S : PS}
theorem StB.below (h : StB w X base M T G cp a E en mp n D S) (hb : Below X.heap.size X X') : StB w X' base M T G cp a E en mp n D S :=
  ⟨h.mtr.below hb, h.ptr.below hb, h.set.below hb, h.ans.below hb, h.map.chg (S := fun _ => False) (Chg.of_below hb) (fun q => q)⟩
theorem StB.chg {Z : Nat → Prop} (h : StB w X base M T G cp a E en mp n D S) (hc : Chg Z X X') (hM : ¬ Z M) (hG : ¬ Z G) (hp : ¬ Z mp) (hb : ∀ k, Z k → base ≤ k ∧ w.heap.size + 1 + 1 < k) : StB w X' base M T G cp a E en mp n D S :=
  ⟨h.mtr.chg hc hM hG (fun k q => (hb k q).1), h.ptr.chg hc (fun q => by have := (hb _ q).2; omega), h.set.chg hc (fun q => by have := (hb _ q).2; omega), h.ans.chg hc (fun q => by have := (hb _ q).2; omega), h.map.chg hc hp⟩
end
/-- What state hands back. -/
def StP (base M : Nat) (T : Nat → PS) (G cp a : Nat) (E : Nat → PS) (en : PS) (mp n : Nat) (S : PS) (w : World) (e : Ending) (w' : World) : Prop :=
  e = .returned (stV (ahd E S) (acc en S)) ∧ Hid (MtrI w' base M T G cp a E en mp ∧ StI w' mp (n + 1) E en ∧ Chg (fun k => k = mp) w w')
theorem st_res {w : World} {base g : Nat} {tmps : Array Value} {A : PS} {b : Bool} (ht : tmps[4]?.getD undef = .pointer (some ⟨g, 0, none⟩)) (h : BoxAt w base 188 5 g (stL A b)) : (results Tryz.f138 tmps).run Tryz.prog w = .ok (stV A b) w := by
  have p0 := h.cell (j := 0) rfl
  have p1 := h.cell (j := 1) rfl
  have p2 := h.cell (j := 2) rfl
  have p3 := h.cell (j := 3) rfl
  have p4 := h.cell (j := 4) rfl
  simp [results, Tryz.results138, ht, go_sem, p0, p1, p2, p3, p4]
/-- A state stored. -/
def set5 (w : World) (g : Nat) (A : PS) (b : Bool) : World := ((((w.setCell ⟨g, 0, none⟩ (.int .u64 (wdN A 0 : Int))).setCell ⟨g, 1, none⟩ (.int .u64 (wdN A 1 : Int))).setCell ⟨g, 2, none⟩ (.int .u64 (wdN A 2 : Int))).setCell ⟨g, 3, none⟩ (.int .u64 (wdN A 3 : Int))).setCell ⟨g, 4, none⟩ (.bool b)
theorem BoxAt.set5 {w : World} {base t g : Nat} {vs : List Value} (h : BoxAt w base t 5 g vs) (A : PS) (b : Bool) : BoxAt (Go.Proofs.YtkidabedcgngcaaGreatDoor.set5 w g A b) base t 5 g (stL A b) := by
  have h1 := ((((h.set 0 (.int .u64 (wdN A 0 : Int))).set 1 (.int .u64 (wdN A 1 : Int))).set 2 (.int .u64 (wdN A 2 : Int))).set 3 (.int .u64 (wdN A 3 : Int))).set 4 (.bool b)
  have hl := h.len
  match vs, hl with
  | [_, _, _, _, _], _ => exact h1
theorem chg_set5 {Z : Nat → Prop} (w : World) (g : Nat) (A : PS) (b : Bool) (hs : Z g) : Chg Z w (set5 w g A b) :=
  ((((Chg.of_set w g 0 _ hs).trans (Chg.of_set _ g 1 _ hs)).trans (Chg.of_set _ g 2 _ hs)).trans (Chg.of_set _ g 3 _ hs)).trans (Chg.of_set _ g 4 _ hs)
end Go.Proofs.YtkidabedcgngcaaGreatDoor

/-
  state, where it is known.
-/
namespace Go.Proofs.YtkidabedcgngcaaGreatDoor
open Go.ChangeShapes Go.WideShapes Go.ChangeAt Go.RowKit Go.Deep Go.Shelf
set_option linter.unusedVariables false
set_option linter.unusedSimpArgs false
set_option maxRecDepth 100000

theorem st_start {base M : Nat} {T : Nat → PS} {G cp a : Nat} {E : Nat → PS} {en : PS} {mp n : Nat} {D : DataW Value} (S : PS) (w : World) (h : MtrI w base M T G cp a E en mp) (hm : StD w mp n D E en) : StB w (((w.alloc (.cells #[.pointer (some ⟨M, 0, none⟩)] 109)).alloc (.cells (psL S).toArray 178)).alloc (.cells z5 188)) base M T G cp a E en mp n D S ∧ Below w.heap.size w (((w.alloc (.cells #[.pointer (some ⟨M, 0, none⟩)] 109)).alloc (.cells (psL S).toArray 178)).alloc (.cells z5 188)) := by
  have k1 : ∀ (x : World) (o : Obj), Below x.heap.size x (x.alloc o) := fun x o => (Below.refl _ _).alloc (Nat.le_refl _) _
  have b1 := boxAt_new w (base := w.heap.size) (t := 109) (sz := 1) #[.pointer (some ⟨M, 0, none⟩)] (Nat.le_refl _) rfl
  have b2 := boxAt_new (w.alloc (.cells #[.pointer (some ⟨M, 0, none⟩)] 109)) (base := w.heap.size) (t := 178) (sz := 4) (psL S).toArray (by simp) rfl
  have b3 := boxAt_new ((w.alloc (.cells #[.pointer (some ⟨M, 0, none⟩)] 109)).alloc (.cells (psL S).toArray 178)) (base := w.heap.size) (t := 188) (sz := 5) z5 (by simp; omega) rfl
  rw [World.size_alloc] at b2
  rw [World.size_alloc, World.size_alloc] at b3
  have k0 : Below w.heap.size w (((w.alloc (.cells #[.pointer (some ⟨M, 0, none⟩)] 109)).alloc (.cells (psL S).toArray 178)).alloc (.cells z5 188)) := (((Below.refl _ _).alloc (Nat.le_refl _) _).alloc (by simp) _).alloc (by simp; omega) _
  exact ⟨⟨h.below k0, (b1.below (k1 _ _)).below (k1 _ _), b2.below (k1 _ _), b3, hm.chg (S := fun _ => False) (Chg.of_below k0) (fun q => q)⟩, k0⟩
set_option maxHeartbeats 8000000 in
theorem state_known {base M : Nat} {T : Nat → PS} {G cp a : Nat} {E : Nat → PS} {en : PS} {mp n : Nat} {D : DataW Value} (S : PS) (w : World) (h : MtrI w base M T G cp a E en mp) (hm : StD w mp n D E en) (hh : Maps.has D (psK S) = true) : Calls Tryz.prog 138 #[.pointer (some ⟨M, 0, none⟩), psV S] w (StP base M T G cp a E en mp n S w) := by
  obtain ⟨W0, hW0⟩ : ∃ W0 : World, W0 = ((w.alloc (.cells #[.pointer (some ⟨M, 0, none⟩)] 109)).alloc (.cells (psL S).toArray 178)).alloc (.cells z5 188) := ⟨_, rfl⟩
  have HW0 : Hid (StB w W0 base M T G cp a E en mp n D S ∧ Below w.heap.size w W0) := by rw [hW0]; exact st_start S w h hm
  have HH : Hid (Maps.has D (psK S) = true) := hh
  have HLo : Hid (base ≤ w.heap.size + 1 + 1) := by show _ ≤ _; have := h.ltM; omega
  clear h hm hh
  refine (callsIn_wide (n := 9)).1 ?_
  refine callsIn_of_wp_marks Tryz.func138 rfl trivial ?_ rfl
  simp only [Tryz.ntmps138, List.size_toArray, List.length_cons, List.length_nil, Nat.reduceAdd, Nat.reduceSub, Array.replicate_succ, Array.replicate_zero, List.push_toArray, List.append_toArray, List.nil_append, List.cons_append]
  gi_wp2
  have hW0' := hW0
  simp only [psL, z5] at hW0'
  rw [← hW0']
  clear hW0 hW0'
  have hSB : ∀ X, StB w X base M T G cp a E en mp n D S → (X.cell? ⟨w.heap.size, 0, none⟩ = some (.pointer (some ⟨M, 0, none⟩)) ∧ X.cell? ⟨M, 1029, none⟩ = some (.map (some mp)) ∧ X.cell? ⟨w.heap.size + 1, 0, none⟩ = some (.int .u64 (wdN S 0 : Int)) ∧ X.cell? ⟨w.heap.size + 1, 1, none⟩ = some (.int .u64 (wdN S 1 : Int)) ∧ X.cell? ⟨w.heap.size + 1, 2, none⟩ = some (.int .u64 (wdN S 2 : Int)) ∧ X.cell? ⟨w.heap.size + 1, 3, none⟩ = some (.int .u64 (wdN S 3 : Int)) ∧ StD X mp n D E en) := fun X h => ⟨h.ptr.cell (j := 0) rfl, h.mtr.map, h.set.cell (j := 0) rfl, h.set.cell (j := 1) rfl, h.set.cell (j := 2) rfl, h.set.cell (j := 3) rfl, h.map⟩
  have HSB : Hid (∀ X, StB w X base M T G cp a E en mp n D S → (X.cell? ⟨w.heap.size, 0, none⟩ = some (.pointer (some ⟨M, 0, none⟩)) ∧ X.cell? ⟨M, 1029, none⟩ = some (.map (some mp)) ∧ X.cell? ⟨w.heap.size + 1, 0, none⟩ = some (.int .u64 (wdN S 0 : Int)) ∧ X.cell? ⟨w.heap.size + 1, 1, none⟩ = some (.int .u64 (wdN S 1 : Int)) ∧ X.cell? ⟨w.heap.size + 1, 2, none⟩ = some (.int .u64 (wdN S 2 : Int)) ∧ X.cell? ⟨w.heap.size + 1, 3, none⟩ = some (.int .u64 (wdN S 3 : Int)) ∧ StD X mp n D E en)) := hSB
  have HD : Hid (StB w W0.drew base M T G cp a E en mp n D S) := HW0.out.1.below ((Below.refl _ _).drew)
  clear hSB
  refine wpIn_wide.2 ?_
  refine wp_region_noPanic ?_
  refine wp_region_T 99 (fun wz => wz.cell? ⟨w.heap.size, 0, none⟩ = some (.pointer (some ⟨M, 0, none⟩)) ∧ wz.cell? ⟨M, 1029, none⟩ = some (.map (some mp)) ∧ wz.cell? ⟨w.heap.size + 1, 0, none⟩ = some (.int .u64 (wdN S 0 : Int)) ∧ wz.cell? ⟨w.heap.size + 1, 1, none⟩ = some (.int .u64 (wdN S 1 : Int)) ∧ wz.cell? ⟨w.heap.size + 1, 2, none⟩ = some (.int .u64 (wdN S 2 : Int)) ∧ wz.cell? ⟨w.heap.size + 1, 3, none⟩ = some (.int .u64 (wdN S 3 : Int)) ∧ StD wz mp n D E en) (by kernel_rfl) ?_
  refine anyT_takeN (i := 0) (v := ?vkt0) rfl (by kernel_rfl) (by kernel_rfl) (by kernel_rfl) (by rfl) (fun _ _ _ h => h) (Or.inl ⟨by rfl, ?ykt0⟩) (HSB.out _ HD.out) ?_
  case ykt0 => (intro wz hSw; obtain ⟨d0, d1, d2, d3, d4, d5, d6⟩ := hSw; have hlk := d6.look_t S HH.out; go_simp; (try with_reducible rfl))
  try simp only [Act.put, List.getElem_toArray, List.getElem_cons_zero, List.getElem_cons_succ, List.setIfInBounds_toArray, List.set_cons_zero, List.set_cons_succ]
  refine anyT_takeN (i := 1) (v := ?vkt1) rfl (by kernel_rfl) (by kernel_rfl) (by kernel_rfl) (by rfl) (fun _ _ _ h => h) (Or.inl ⟨by rfl, ?ykt1⟩) (HSB.out _ HD.out) ?_
  case ykt1 => (intro wz hSw; obtain ⟨d0, d1, d2, d3, d4, d5, d6⟩ := hSw; have hlk := d6.look_t S HH.out; go_simp; (try with_reducible rfl))
  try simp only [Act.put, List.getElem_toArray, List.getElem_cons_zero, List.getElem_cons_succ, List.setIfInBounds_toArray, List.set_cons_zero, List.set_cons_succ]
  refine anyT_takeN (i := 2) (v := ?vkt2) rfl (by kernel_rfl) (by kernel_rfl) (by kernel_rfl) (by rfl) (fun _ _ _ h => h) (Or.inl ⟨by rfl, ?ykt2⟩) (HSB.out _ HD.out) ?_
  case ykt2 => (intro wz hSw; obtain ⟨d0, d1, d2, d3, d4, d5, d6⟩ := hSw; have hlk := d6.look_t S HH.out; go_simp; (try with_reducible rfl))
  try simp only [Act.put, List.getElem_toArray, List.getElem_cons_zero, List.getElem_cons_succ, List.setIfInBounds_toArray, List.set_cons_zero, List.set_cons_succ]
  refine anyT_takeN (i := 3) (v := ?vkt3) rfl (by kernel_rfl) (by kernel_rfl) (by kernel_rfl) (by rfl) (fun _ _ _ h => h) (Or.inl ⟨by rfl, ?ykt3⟩) (HSB.out _ HD.out) ?_
  case ykt3 => (intro wz hSw; obtain ⟨d0, d1, d2, d3, d4, d5, d6⟩ := hSw; have hlk := d6.look_t S HH.out; go_simp; (try with_reducible rfl))
  try simp only [Act.put, List.getElem_toArray, List.getElem_cons_zero, List.getElem_cons_succ, List.setIfInBounds_toArray, List.set_cons_zero, List.set_cons_succ]
  refine anyT_takeN (i := 4) (v := ?vkt4) rfl (by kernel_rfl) (by kernel_rfl) (by kernel_rfl) (by rfl) (fun _ _ _ h => h) (Or.inl ⟨by rfl, ?ykt4⟩) (HSB.out _ HD.out) ?_
  case ykt4 => (intro wz hSw; obtain ⟨d0, d1, d2, d3, d4, d5, d6⟩ := hSw; have hlk := d6.look_t S HH.out; go_simp; (try with_reducible rfl))
  try simp only [Act.put, List.getElem_toArray, List.getElem_cons_zero, List.getElem_cons_succ, List.setIfInBounds_toArray, List.set_cons_zero, List.set_cons_succ]
  refine anyT_takeN (i := 5) (v := ?vkt5) rfl (by kernel_rfl) (by kernel_rfl) (by kernel_rfl) (by rfl) (fun _ _ _ h => h) (Or.inl ⟨by rfl, ?ykt5⟩) (HSB.out _ HD.out) ?_
  case ykt5 => (intro wz hSw; obtain ⟨d0, d1, d2, d3, d4, d5, d6⟩ := hSw; have hlk := d6.look_t S HH.out; go_simp; (try with_reducible rfl))
  try simp only [Act.put, List.getElem_toArray, List.getElem_cons_zero, List.getElem_cons_succ, List.setIfInBounds_toArray, List.set_cons_zero, List.set_cons_succ]
  refine anyT_takeN (i := 6) (v := ?vkt6) rfl (by kernel_rfl) (by kernel_rfl) (by kernel_rfl) (by rfl) (fun _ _ _ h => h) (Or.inl ⟨by rfl, ?ykt6⟩) (HSB.out _ HD.out) ?_
  case ykt6 => (intro wz hSw; obtain ⟨d0, d1, d2, d3, d4, d5, d6⟩ := hSw; have hlk := d6.look_t S HH.out; go_simp; (try with_reducible rfl))
  try simp only [Act.put, List.getElem_toArray, List.getElem_cons_zero, List.getElem_cons_succ, List.setIfInBounds_toArray, List.set_cons_zero, List.set_cons_succ]
  refine anyT_takeN (i := 7) (v := ?vkt7) rfl (by kernel_rfl) (by kernel_rfl) (by kernel_rfl) (by rfl) (fun _ _ _ h => h) (Or.inl ⟨by rfl, ?ykt7⟩) (HSB.out _ HD.out) ?_
  case ykt7 => (intro wz hSw; obtain ⟨d0, d1, d2, d3, d4, d5, d6⟩ := hSw; have hlk := d6.look_t S HH.out; go_simp; (try with_reducible rfl))
  try simp only [Act.put, List.getElem_toArray, List.getElem_cons_zero, List.getElem_cons_succ, List.setIfInBounds_toArray, List.set_cons_zero, List.set_cons_succ]
  refine anyT_takeN (i := 8) (v := ?vkt8) rfl (by kernel_rfl) (by kernel_rfl) (by kernel_rfl) (by rfl) (fun _ _ _ h => h) (Or.inl ⟨by rfl, ?ykt8⟩) (HSB.out _ HD.out) ?_
  case ykt8 => (intro wz hSw; obtain ⟨d0, d1, d2, d3, d4, d5, d6⟩ := hSw; have hlk := d6.look_t S HH.out; go_simp; (try with_reducible rfl))
  try simp only [Act.put, List.getElem_toArray, List.getElem_cons_zero, List.getElem_cons_succ, List.setIfInBounds_toArray, List.set_cons_zero, List.set_cons_succ]
  refine anyT_one (i := 9) (by kernel_rfl) rfl (fun K hK => ?_)
  go_simp
  refine hK.out _ _ (.inr (HSB.out _ (HW0.out.1.below (by repeat (first | exact Below.refl _ _ | refine Below.drew ?_ | refine Below.alloc ?_ (Nat.le_refl _) _ | refine below_set ?_ (Nat.le_refl _) _ _))))) ?_
  clear hK
  try simp only [Act.put, List.getElem_toArray, List.getElem_cons_zero, List.getElem_cons_succ, List.setIfInBounds_toArray, List.set_cons_zero, List.set_cons_succ]
  refine anyT_one (i := 10) (by kernel_rfl) rfl (fun K hK => ?_)
  go_simp
  refine hK.out _ _ (.inr (HSB.out _ (HW0.out.1.below (by repeat (first | exact Below.refl _ _ | refine Below.drew ?_ | refine Below.alloc ?_ (Nat.le_refl _) _ | refine below_set ?_ (Nat.le_refl _) _ _))))) ?_
  clear hK
  try simp only [Act.put, List.getElem_toArray, List.getElem_cons_zero, List.getElem_cons_succ, List.setIfInBounds_toArray, List.set_cons_zero, List.set_cons_succ]
  refine anyT_one (i := 11) (by kernel_rfl) rfl (fun K hK => ?_)
  go_simp
  refine hK.out _ _ (.inr (HSB.out _ (HW0.out.1.below (by repeat (first | exact Below.refl _ _ | refine Below.drew ?_ | refine Below.alloc ?_ (Nat.le_refl _) _ | refine below_set ?_ (Nat.le_refl _) _ _))))) ?_
  clear hK
  try simp only [Act.put, List.getElem_toArray, List.getElem_cons_zero, List.getElem_cons_succ, List.setIfInBounds_toArray, List.set_cons_zero, List.set_cons_succ]
  refine anyT_done (by kernel_rfl) ?_
  dsimp only [NoPanic]
  obtain ⟨W1, hW1⟩ : ∃ W1 : World, W1 = (W0.alloc (.cells (stL (ahd E S) (acc en S)).toArray 188)).drew := ⟨_, rfl⟩
  have k1 : Below W0.heap.size W0 W1 := by rw [hW1]; exact ((Below.refl _ _).alloc (Nat.le_refl _) _).drew
  have s0 := HW0.out.2.size
  have HW1 : Hid (StB w W1 base M T G cp a E en mp n D S ∧ BoxAt W1 w.heap.size 188 5 W0.heap.size (stL (ahd E S) (acc en S)) ∧ Below w.heap.size w W1) := by
    refine ⟨HW0.out.1.below k1, ?_, HW0.out.2.trans (k1.mono s0)⟩
    have b1 := boxAt_new W0 (base := w.heap.size) (t := 188) (sz := 5) (stL (ahd E S) (acc en S)).toArray s0 rfl
    rw [hW1]; exact b1.below ((Below.refl _ _).drew)
  have hW1' := hW1
  simp only [stL] at hW1'
  rw [← hW1']
  clear hW1 hW1' k1 HD HSB
  have r0 := HW1.out.2.1.cell (j := 0) rfl
  have a0 := HW1.out.1.ans.cell (j := 0) rfl
  have f0 := HW1.out.1.ans.frozen 0
  have r1 := HW1.out.2.1.cell (j := 1) rfl
  have a1 := HW1.out.1.ans.cell (j := 1) rfl
  have f1 := HW1.out.1.ans.frozen 1
  have r2 := HW1.out.2.1.cell (j := 2) rfl
  have a2 := HW1.out.1.ans.cell (j := 2) rfl
  have f2 := HW1.out.1.ans.frozen 2
  have r3 := HW1.out.2.1.cell (j := 3) rfl
  have a3 := HW1.out.1.ans.cell (j := 3) rfl
  have f3 := HW1.out.1.ans.frozen 3
  have r4 := HW1.out.2.1.cell (j := 4) rfl
  have a4 := HW1.out.1.ans.cell (j := 4) rfl
  have f4 := HW1.out.1.ans.frozen 4
  have HF : Hid (StP base M T G cp a E en mp n S w (.returned (stV (ahd E S) (acc en S))) (set5 W1 (w.heap.size + 1 + 1) (ahd E S) (acc en S)) ∧ BoxAt (set5 W1 (w.heap.size + 1 + 1) (ahd E S) (acc en S)) w.heap.size 188 5 (w.heap.size + 1 + 1) (stL (ahd E S) (acc en S))) := by
    have hc : Chg (fun k => k = w.heap.size + 1 + 1) W1 (set5 W1 (w.heap.size + 1 + 1) (ahd E S) (acc en S)) := chg_set5 _ _ _ _ rfl
    have hB := HW1.out.1
    have hM : ¬ M = w.heap.size + 1 + 1 := fun q => own_apart hB.mtr.box hB.ans (by decide) M rfl (by rw [q]; rfl)
    have hG : ¬ G = w.heap.size + 1 + 1 := fun q => own_apart hB.mtr.row hB.ans (by decide) G rfl (by rw [q]; rfl)
    have hp : ¬ mp = w.heap.size + 1 + 1 := hB.map.ne hB.ans
    have hlow : base ≤ w.heap.size + 1 + 1 := HLo.out
    have hD := hB.map.chg hc hp
    refine ⟨⟨rfl, hB.mtr.chg hc hM hG (fun k q => by omega), ⟨D, hD.1.mono (Nat.le_succ n), hD.2⟩, ?_⟩, hB.ans.set5 _ _⟩
    have hx : Chg (fun k => k = mp) w W1 := Chg.of_below HW1.out.2.2
    exact ⟨hc.os.trans hx.os, hc.tape.trans hx.tape, hc.output.trans hx.output, Nat.le_trans hx.size hc.size, fun j hj hn => (hc.block j (Nat.lt_of_lt_of_le hj hx.size) (by omega)).trans (hx.block j hj hn)⟩
  gi_wp2
  exact ⟨_, st_res (base := w.heap.size) (g := w.heap.size + 1 + 1) rfl HF.out.2, HF.out.1⟩
end Go.Proofs.YtkidabedcgngcaaGreatDoor

