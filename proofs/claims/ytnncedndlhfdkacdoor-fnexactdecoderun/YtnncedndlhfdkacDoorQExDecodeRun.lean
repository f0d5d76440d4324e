/-
  The law FnExactDecodeRun.
-/
import Derived.Test.YtnncedndlhfdkacDoorPkAB
import Derived.Test.YtnncedndlhfdkacDoorPkAG
import Derived.Test.YtnncedndlhfdkacDoorTie
import Derived.Test.YtnncedndlhfdkacDoorCards
import Derived.ChangeSame
import Derived.ChangeVars
import Derived.JoinedOf
import Derived.LaidLaws
import Derived.LaidHandle
import Derived.Stop.Joined
import Derived.SevenTiedAt
namespace Go.Proofs.YtnncedndlhfdkacDoor.exDecodeRun
open Go.ChangeShapes Go.WideShapes Go.ChangeAt Go.RowKit Go.Deep
set_option linter.unusedVariables false
set_option maxRecDepth 100000

theorem own : ownKnob Tryd.prog.godebug = none := by kernel_rfl
theorem laidOut : laidOutB Tryd.prog = true := by kernel_rfl
theorem decM_many (xs : List UInt8) (h : xs.length ≤ 1048576) : (decM xs).2.length ≤ 1048576 := by
  unfold decM
  split
  · simp
  split
  · simp
  split
  · next hG => have := hG.1.1; simp only []; omega
  · simp

set_option maxHeartbeats 4000000 in
theorem walk (v : Value) (xs : List UInt8) (w : World) (h : BysIn w v xs) (hg : HandleAt w) :
    Calls Tryd.prog 3 #[v] w fun e w' => e = .returned (.bool true) ∧ Below w.heap.size w w' := by
  obtain ⟨a, cap, hv⟩ := h.slice
  subst hv
  have HI : Hid (BysIn w (.slice a xs.length cap) xs ∧ HandleAt w ∧ 0 < w.heap.size) := ⟨h, hg, hg.lt⟩
  have hr := h.1
  unfold maxLen at hr
  clear h hg
  by_cases hbig : 1048576 < xs.length
  · have z : ¬ ((xs.length : Int) ≤ 1048576) := by omega
    go_enter Tryd.func3, Tryd.ntmps3
    go_wp2_with fail
    go_ret
    exact ⟨rfl, Below.refl _ _⟩
  have h1 : xs.length ≤ 1048576 := by omega
  have HM : Hid (xs.length ≤ maxLen) := by show xs.length ≤ maxLen; unfold maxLen; omega
  go_enter Tryd.func3, Tryd.ntmps3
  go_wp2_with fail
  refine (toByteS_in _ xs _ HI.out.1 h1).mono ?_
  rintro e w1 ⟨g1, rfl, ho1, hb1⟩
  have Ho1 : Hid (OwnY w1 w.heap.size g1 xs.length xs) := ho1
  have s1 := hb1.size
  clear ho1
  go_wp2_with fail
  refine (specDec_core g1 0 xs.length xs _ Ho1.out.at Ho1.out.lt.2 (by omega) (Nat.le_refl _) HM.out).mono ?_
  rintro e w2 ⟨err, u, es, rfl, hM, hU, hok, hb2⟩
  obtain ⟨ua, un, uc, rfl⟩ := hU.slice
  have s2 := hb2.size
  have HD : Hid ((err, es) = decM xs) := hM
  have hesn : es.length ≤ 1048576 := by have := decM_many xs h1; rw [← hM] at this; exact this
  obtain ⟨W2, hW2⟩ : ∃ W2 : World, W2 = w2.alloc (Obj.cells #[.int .i64 err, .slice ua un uc] 27) := ⟨_, rfl⟩
  have z2 : w2.heap.size < W2.heap.size := by rw [hW2]; simp
  have b2' : Below w2.heap.size w2 W2 := by rw [hW2]; exact (Below.refl _ _).alloc (Nat.le_refl _) _
  have HU2 : Hid (OwnU W2 w1.heap.size (.slice ua un uc) es ∧ BoxAt W2 w.heap.size 27 2 w2.heap.size [.int .i64 err, .slice ua un uc] ∧ (∀ g, (Value.slice ua un uc).ownBlock = some g → g < w2.heap.size)) := by
    refine ⟨hU.below b2', ?_, fun g q => (hU.row g q).2⟩
    rw [hW2]; exact boxAt_new w2 _ (by omega) rfl
  have k2 : Below w.heap.size w W2 := (hb1.trans (hb2.mono s1)).trans (b2'.mono (by omega))
  clear hU hM hok Ho1
  go_upto_region 4 with fail
  rw [← hW2]
  clear hW2 hb1 hb2 b2'
  go_wp2_with fail
  refine (toByteS_in _ xs _ (HI.out.1.below k2) h1).mono ?_
  rintro e w3 ⟨g3, rfl, ho3, hb3⟩
  have s3 := hb3.size
  have Ho3 : Hid (OwnY w3 W2.heap.size g3 xs.length xs) := ho3
  have k3 : Below w.heap.size w w3 := k2.trans (hb3.mono k2.size)
  have hg3 := ho3.lt
  clear ho3
  go_wp2_with fail
  refine (implDec_core ⟨g3, 0, xs.length, xs⟩ w3 (HI.out.2.1.below k3 HI.out.2.2) Ho3.out.at hg3.2 (by show xs.length ≤ _; omega) (Nat.le_refl _) HM.out).mono ?_
  rintro e w4 ⟨err', u', es', rfl, hM', hU', hok', hb4⟩
  obtain ⟨rfl, rfl⟩ : err' = err ∧ es' = es := by
    have h9 : (err', es') = (err, es) := hM'.trans HD.out.symm
    simpa using h9
  obtain ⟨ia, n', ic, rfl⟩ := hU'.slice
  have s4 := hb4.size
  obtain ⟨W4, hW4⟩ : ∃ W4 : World, W4 = w4.alloc (Obj.cells #[.int .i64 err', .slice ia n' ic] 27) := ⟨_, rfl⟩
  have z4 : w4.heap.size < W4.heap.size := by rw [hW4]; simp
  have b4' : Below w4.heap.size w4 W4 := by rw [hW4]; exact (Below.refl _ _).alloc (Nat.le_refl _) _
  have b24 : Below W2.heap.size W2 W4 := (hb3.trans (hb4.mono s3)).trans (b4'.mono (by omega))
  have HU4 : Hid ((OwnU W4 w1.heap.size (.slice ua un uc) es' ∧ BoxAt W4 w.heap.size 27 2 w2.heap.size [.int .i64 err', .slice ua un uc]) ∧ (OwnU W4 w3.heap.size (.slice ia n' ic) es' ∧ BoxAt W4 w.heap.size 27 2 w4.heap.size [.int .i64 err', .slice ia n' ic]) ∧ (∀ g, (Value.slice ia n' ic).ownBlock = some g → w3.heap.size ≤ g ∧ g < w4.heap.size) ∧ OwnY W4 W2.heap.size g3 xs.length xs) := by
    refine ⟨⟨HU2.out.1.below b24, HU2.out.2.1.below b24⟩, ⟨hU'.below b4', ?_⟩, fun g q => hU'.row g q, (Ho3.out.below hb4).below b4'⟩
    rw [hW4]; exact boxAt_new w4 _ (by omega) rfl
  have k4 : Below w.heap.size w W4 := k2.trans (b24.mono k2.size)
  have c0 := HU2.out.2.1.below (hb3.trans (hb4.mono s3))
  have p0 := c0.cell (j := 0) rfl
  have p1 := c0.cell (j := 1) rfl
  clear hU' hM' hok' c0
  go_upto_region 6 with fail
  rw [← hW4]
  clear hW4 hb3 hb4 b4' p0 p1
  have p0 := HU4.out.1.2.cell (j := 0) rfl
  have p1 := HU4.out.1.2.cell (j := 1) rfl
  have q0 := HU4.out.2.1.2.cell (j := 0) rfl
  have q1 := HU4.out.2.1.2.cell (j := 1) rfl
  go_wp2_with fail
  refine (eqFileRes_same err' ia n' ic ua un uc es' _ _ W4 HU4.out.2.1.1 HU4.out.1.1).mono ?_
  rintro e w5 ⟨rfl, hb5⟩
  have s5 := hb5.size
  clear p0 p1 q0 q1
  go_wp2_with fail
  refine (toByteS_in _ xs _ (HI.out.1.below (k4.trans (hb5.mono k4.size))) h1).mono ?_
  rintro e w6 ⟨g6, rfl, ho6, hb6⟩
  have s6 := hb6.size
  have b46 : Below W4.heap.size W4 w6 := hb5.trans (hb6.mono s5)
  have Ho6 : Hid (OwnY w6 w5.heap.size g6 xs.length xs ∧ OwnY w6 W2.heap.size g3 xs.length xs) := ⟨ho6, HU4.out.2.2.2.below b46⟩
  clear ho6
  go_wp2_with fail
  refine (eqByteS_same g3 0 xs.length g6 0 xs.length xs _ Ho6.out.2.at Ho6.out.1.at Ho6.out.2.lt.2 Ho6.out.1.lt.2 HM.out).mono ?_
  rintro e w7 ⟨rfl, hb7⟩
  have s7 := hb7.size
  have b47 : Below W4.heap.size W4 w7 := b46.trans (hb7.mono b46.size)
  have Ho7 : Hid (OwnY w7 W2.heap.size g3 xs.length xs) := Ho6.out.2.below hb7
  clear Ho6 hb5 hb6 hb7 b46
  go_wp2_with fail
  refine (markByteS_own W2.heap.size g3 xs.length xs w7 Ho7.out h1).mono ?_
  rintro e w8 ⟨rfl, hg8⟩
  have s8 := hg8.size
  have c8 : Chg (fun k => k = g3) w7 w8 := Chg.of_grown hg8 (fun k hk => by cases hk; rfl)
  have HU8 : Hid ((OwnU w8 w1.heap.size (.slice ua un uc) es' ∧ BoxAt w8 w.heap.size 27 2 w2.heap.size [.int .i64 err', .slice ua un uc]) ∧ (OwnU w8 w3.heap.size (.slice ia n' ic) es' ∧ BoxAt w8 w.heap.size 27 2 w4.heap.size [.int .i64 err', .slice ia n' ic])) := by
    refine ⟨⟨(HU4.out.1.1.below b47).keptNe hg8 (fun g q q2 => ?_), (HU4.out.1.2.below b47).chg c8 (by omega)⟩, ⟨(HU4.out.2.1.1.below b47).keptNe hg8 (fun g q q2 => ?_), (HU4.out.2.1.2.below b47).chg c8 (by omega)⟩⟩
    · have := HU2.out.2.2 g q; have := Option.some.inj q2; omega
    · have := HU4.out.2.2.1 g q; have := Option.some.inj q2; omega
  have k8 : Below w.heap.size w w8 := (k4.trans (b47.mono k4.size)).grown hg8 (by have := k4.size; omega) (fun k hk => by cases hk; omega)
  have HG : Hid (∀ g, (Value.slice ia n' ic).ownBlock = some g → w3.heap.size ≤ g ∧ g < w4.heap.size) := HU4.out.2.2.1
  have hk1 : ¬ (1 + (xs.length : Int)) < 0 := by omega
  clear hg8 c8 Ho7 HU4 b47
  have p0 := HU8.out.1.2.cell (j := 0) rfl
  have p1 := HU8.out.1.2.cell (j := 1) rfl
  have q0 := HU8.out.2.2.cell (j := 0) rfl
  have q1 := HU8.out.2.2.cell (j := 1) rfl
  go_wp2_with fail
  refine (eqFileRes_same err' ia n' ic ua un uc es' _ _ w8 HU8.out.2.1 HU8.out.1.1).mono ?_
  rintro e w9 ⟨rfl, hb9⟩
  have s9 := hb9.size
  have k9 : Below w.heap.size w w9 := k8.trans (hb9.mono k8.size)
  have HU9 : Hid ((OwnU w9 w1.heap.size (.slice ua un uc) es' ∧ BoxAt w9 w.heap.size 27 2 w2.heap.size [.int .i64 err', .slice ua un uc]) ∧ (OwnU w9 w3.heap.size (.slice ia n' ic) es' ∧ BoxAt w9 w.heap.size 27 2 w4.heap.size [.int .i64 err', .slice ia n' ic])) := ⟨⟨HU8.out.1.1.below hb9, HU8.out.1.2.below hb9⟩, ⟨HU8.out.2.1.below hb9, HU8.out.2.2.below hb9⟩⟩
  clear p0 p1 q0 q1 hb9 HU8
  have q0 := HU9.out.2.2.cell (j := 0) rfl
  have q1 := HU9.out.2.2.cell (j := 1) rfl
  go_wp2_with fail
  refine (markFileRes_own err' ia n' ic w3.heap.size es' w9 HU9.out.2.1 hesn (by omega)).mono ?_
  rintro e w10 ⟨R', rfl, hU10, hl10, hm10, hg10⟩
  have s10 := hg10.size
  have c10 : Chg (fun k => w3.heap.size ≤ k ∧ k < w4.heap.size) w9 w10 := Chg.of_grown hg10 (fun k hk => HG.out k hk)
  have HU10 : Hid ((OwnU w10 w1.heap.size (.slice ua un uc) es' ∧ BoxAt w10 w.heap.size 27 2 w2.heap.size [.int .i64 err', .slice ua un uc]) ∧ (OwnU w10 w3.heap.size (.slice ia n' ic) R' ∧ BoxAt w10 w.heap.size 27 2 w4.heap.size [.int .i64 err', .slice ia n' ic]) ∧ R'.length = es'.length ∧ marked 1 R' R'.length) := by
    refine ⟨⟨HU9.out.1.1.keptNe hg10 (fun g q q2 => ?_), HU9.out.1.2.chg c10 (by omega)⟩, ⟨hU10, HU9.out.2.2.chg c10 (by omega)⟩, hl10, hm10⟩
    have h7 := HU2.out.2.2 g q
    have h8 := HG.out g q2
    omega
  have k10 : Below w.heap.size w w10 := Chg.below k9 c10 k9.size (by omega)
  clear q0 q1 hU10 hl10 hm10 hg10 c10 HU9
  have q0 := HU10.out.2.1.2.cell (j := 0) rfl
  have q1 := HU10.out.2.1.2.cell (j := 1) rfl
  go_wp2_with fail
  have hhl := heldFileRes_own err' ia n' ic w3.heap.size R' w10 HU10.out.2.1.1 HU10.out.2.2.2 (by rw [HU10.out.2.2.1]; exact hesn)
  rw [HU10.out.2.2.1] at hhl
  refine hhl.mono ?_
  rintro e w11 ⟨rfl, hb11⟩
  have s11 := hb11.size
  have k11 : Below w.heap.size w w11 := k10.trans (hb11.mono k10.size)
  have HU11 : Hid (OwnU w11 w1.heap.size (.slice ua un uc) es' ∧ BoxAt w11 w.heap.size 27 2 w2.heap.size [.int .i64 err', .slice ua un uc]) := ⟨HU10.out.1.1.below hb11, HU10.out.1.2.below hb11⟩
  have hq0 : ¬ (1 + (es'.length : Int) * 6) < 0 := by omega
  clear q0 q1 hb11 HU10 hhl
  go_wp2_with fail
  refine (toByteS_in _ xs _ (HI.out.1.below k11) h1).mono ?_
  rintro e w12 ⟨g12, rfl, ho12, hb12⟩
  have s12 := hb12.size
  have k12 : Below w.heap.size w w12 := k11.trans (hb12.mono k11.size)
  have Ho12 : Hid (OwnY w12 w11.heap.size g12 xs.length xs) := ho12
  clear ho12
  go_wp2_with fail
  refine (implDec_core ⟨g12, 0, xs.length, xs⟩ w12 (HI.out.2.1.below k12 HI.out.2.2) Ho12.out.at Ho12.out.lt.2 (by show xs.length ≤ _; omega) (Nat.le_refl _) HM.out).mono ?_
  rintro e w13 ⟨err2, u2, es2, rfl, hM2, hU2, hok2, hb13⟩
  obtain ⟨rfl, rfl⟩ : err2 = err' ∧ es2 = es' := by
    have h9 : (err2, es2) = (err', es') := hM2.trans HD.out.symm
    simpa using h9
  obtain ⟨ha, hn2, hc2, rfl⟩ := hU2.slice
  have s13 := hb13.size
  obtain ⟨W13, hW13⟩ : ∃ W13 : World, W13 = w13.alloc (Obj.cells #[.int .i64 err2, .slice ha hn2 hc2] 27) := ⟨_, rfl⟩
  have b13' : Below w13.heap.size w13 W13 := by rw [hW13]; exact (Below.refl _ _).alloc (Nat.le_refl _) _
  have b1113 : Below w11.heap.size w11 W13 := (hb12.trans (hb13.mono s12)).trans (b13'.mono (by omega))
  have HU13 : Hid ((OwnU W13 w1.heap.size (.slice ua un uc) es2 ∧ BoxAt W13 w.heap.size 27 2 w2.heap.size [.int .i64 err2, .slice ua un uc]) ∧ (OwnU W13 w12.heap.size (.slice ha hn2 hc2) es2 ∧ BoxAt W13 w.heap.size 27 2 w13.heap.size [.int .i64 err2, .slice ha hn2 hc2])) := by
    refine ⟨⟨HU11.out.1.below b1113, HU11.out.2.below b1113⟩, ⟨hU2.below b13', ?_⟩⟩
    rw [hW13]; exact boxAt_new w13 _ (by have := k12.size; omega) rfl
  have k13 : Below w.heap.size w W13 := k11.trans (b1113.mono k11.size)
  clear hU2 hM2 hok2
  go_upto_region 23 with fail
  rw [← hW13]
  clear hW13 hb12 hb13 b13' b1113
  have p0 := HU13.out.1.2.cell (j := 0) rfl
  have p1 := HU13.out.1.2.cell (j := 1) rfl
  have q0 := HU13.out.2.2.cell (j := 0) rfl
  have q1 := HU13.out.2.2.cell (j := 1) rfl
  go_wp2_with fail
  refine (eqFileRes_same err2 ha hn2 hc2 ua un uc es2 _ _ W13 HU13.out.2.1 HU13.out.1.1).mono ?_
  rintro e w14 ⟨rfl, hb14⟩
  go_wp2_with fail
  go_ret
  exact ⟨rfl, k13.trans (hb14.mono k13.size)⟩

theorem et : Tryd.prog.globalNamed "errors.errorType" = some 0 := by kernel_rfl
theorem rt : (Tryd.prog.cutTypes.find? (·.1 == "internal/reflectlite.rtype")).map (·.2) = some 115 := by kernel_rfl
theorem oneRow : ((List.range 163).filter fun t => Tryd.prog.rowNamed t [101, 114, 114, 111, 114]) = [73] := by kernel_rfl
theorem size : Tryd.prog.types.size = 163 := by kernel_rfl
/-- The variable's cell, out of the row's condition. -/
theorem handle_of_laid {W : World} (h : laidMetH Tryd.prog Rows.fnExactDecodeRunRow.laid W) : HandleAt W := by
  have h' : laidMet Tryd.prog [] W ∧ handlesMet Tryd.prog Rows.fnExactDecodeRunRow.laid W := h
  obtain ⟨name, u, ty, e1, e2, e3, e4, e5⟩ := h'.2 _ (List.mem_singleton.2 rfl)
  have en : name = [101, 114, 114, 111, 114] := (Option.some.inj e1).symm
  subst en
  obtain rfl := Option.some.inj (rt.symm.trans e2)
  have hm : ty ∈ (List.range 163).filter fun t => Tryd.prog.rowNamed t [101, 114, 114, 111, 114] := List.mem_filter.2 ⟨List.mem_range.2 (by rw [← size]; exact e3), e4⟩
  rw [oneRow] at hm
  obtain rfl := List.mem_singleton.1 hm
  have hh : typeHandle Tryd.prog 73 = .pointer (some ⟨2, 73, none⟩) := by kernel_rfl
  rw [hh] at e5
  have := World.var?_cell et e5 0
  simpa [HandleAt] using this
/-- A world that meets the condition. -/
noncomputable def laidWorld (os : Os) : World :=
  let w0 := World.holding Tryd.prog os ⟨#[], #[], []⟩
  { w0 with heap := w0.heap.modify 0 fun
      | .cells _ t frozen => .cells #[.iface 115 (.agg #[.pointer (some ⟨2, 73, none⟩)])] t frozen
      | o => o }
theorem laidWorld_met (os : Os) (args : Array Value) : laidMetH Tryd.prog Rows.fnExactDecodeRunRow.laid ((laidWorld os).forCall (fun _ _ => 0) ⟨#[], args, []⟩).memory :=
  laidMetH_of_parts (laidMet_nil _ _) (by kernel_rfl)

theorem lifted (os : Os) (started : os.Started) (H : Type) (enc : TypeId × Value → H) :
    ReturnsInHanded {} Tryd.checked os 3 .any (fun w args => (Rows.fnExactDecodeRunSpec.pre enc Tryd.prog Tryd.f3 [] false w args ∧ laidMetH Tryd.prog Rows.fnExactDecodeRunRow.laid w) ∧ sizedMet enc Tryd.prog Tryd.f3 (OpenSpec.ofChange Rows.fnExactDecodeRunSpec) false w args)
      (Rows.fnExactDecodeRunSpec.post enc Tryd.prog Tryd.f3 false true false false) := by
  refine returnsInHanded_of_change_and (C := Tryd.checked) (X := fun w _ => laidMetH Tryd.prog Rows.fnExactDecodeRunRow.laid w) (fun _ _ _ hh h => h.of_heap hh) own started (by kernel_rfl) Tryd.func3
    (ChangeSpec.witness_at (enc := enc) (C := Tryd.checked) (os := os) (X := fun w _ => laidMetH Tryd.prog Rows.fnExactDecodeRunRow.laid w) false (laidWorld os) #[.slice none 0 0] 8 rfl (by kernel_rfl) (by kernel_rfl) (by kernel_rfl) (by kernel_rfl) (by kernel_rfl) (laidWorld_met os _)) ?_
  intro W base args ds gs before hval0 hW _ _ hL _
  have hval : ∀ (j : Nat) t v, Tryd.f3.params[j]? = some t → args[j]? = some v → Value.okWide Tryd.prog W .any base t v := hval0
  have hW' := hW
  obtain ⟨p, q, hA0, hV, rfl, hfz, hnd⟩ := hW
  have hA : DataW.TrodAll enc Tryd.prog W 0 (fun _ => true) true Tryd.f3.params.toList args.toList ds p := hA0
  rw [Tryd.params3] at hA hval
  obtain ⟨v0, vs0, d0, ds0, p0, q0, hargs, rfl, rfl, h0, r0⟩ := trodAll_cons hA
  obtain ⟨rfl, rfl, rfl⟩ := trodAll_nil r0
  obtain rfl : args = #[v0] := by cases args; simp_all
  obtain ⟨rfl, rfl⟩ := trodVars_none hV
  have k0 := h0
  have lt0 : ∀ x ∈ p0, x.block < W.heap.size := by obtain ⟨m, hm⟩ := k0; exact DataW.trod_lt m _ _ _ hm
  obtain ⟨xs, hxs⟩ : ∃ xs, BysIn W v0 xs := by
    obtain ⟨a0, len0, cap0, rfl⟩ := okWide_slice Tryd.underlying22 (hval 0 22 v0 rfl rfl)
    obtain ⟨fuel, hf⟩ := h0
    exact bysIn_of_trod (x := (d0, p0)) (by simpa [Value.cells] using hf) lt0
  clear hA0 hval0
  refine (walk v0 xs W hxs (handle_of_laid hL)).mono fun e W' ⟨he, bel⟩ => ?_
  subst he
  exact ⟨_, rfl, _, _, _, [], _, [], hW', trodAll_mk1 (shut_bool Tryd.underlying4 _), (trodAll_cons_mk (Below.trod laidOut (by kernel_rfl) (of_decide_eq_true (by kernel_rfl)) k0 bel lt0) trodAll_mk0), rfl, bel.frame _, fun h => by cases h⟩

theorem over : Rows.FnExactDecodeRunSaid :=
  OpenClaim.holds_of_wide 3 Tryd.f3 rfl rfl rfl rfl rfl rfl rfl ⟨rfl, rfl, rfl, rfl, rfl⟩ rfl rfl rfl rfl rfl (by kernel_rfl) Tryd.func3 (by kernel_rfl)
    (of_decide_eq_true (by kernel_rfl)) (by unfold Func.isWrapper; first | (rw [if_pos (by decide +kernel)]; kernel_rfl) | (rw [if_neg (by decide +kernel)]; exact ⟨rfl, rfl⟩))
    (fun os started H enc _ => lifted os started H enc)

theorem card : Rows.FnExactDecodeRunCardSaid :=
  Claim7.holds_tied_plain_at .later [] [.handle] true Rows.fnExactDecodeRunCard.stood.harness true
    over (fun _ h => by cases h) (by kernel_rfl) (fun _ h => by cases h) fnExactDecodeRun_row_tie rfl ⟨rfl, rfl⟩ (by kernel_rfl) rfl
    (fun f fn hf hfn => by
      obtain rfl : f = 3 := Option.some.inj ((show Tryd.prog.funcNamed "loop.example/s01854/laws.FnExactDecodeRun" = some 3 by kernel_rfl).symm.trans hf) |>.symm
      obtain rfl : fn = Tryd.f3 := (Option.some.inj (Tryd.func3.symm.trans hfn)).symm
      exact ⟨by kernel_rfl, fun j t ht => by
        rw [Tryd.params3] at ht
        have h3 : t = 22 := by
          rcases j with _ | j
          · simpa using ht.symm
          · simp at ht
        subst h3
        exact (show Tryd.prog.wantsStandIn 22 = false by kernel_rfl)⟩)
    (by kernel_rfl)
end Go.Proofs.YtnncedndlhfdkacDoor.exDecodeRun
namespace Go.Proofs.YtnncedndlhfdkacDoor
theorem exactDecodeRun_holds : Rows.FnExactDecodeRunCardSaid := exDecodeRun.card
#print axioms exactDecodeRun_holds
end Go.Proofs.YtnncedndlhfdkacDoor
