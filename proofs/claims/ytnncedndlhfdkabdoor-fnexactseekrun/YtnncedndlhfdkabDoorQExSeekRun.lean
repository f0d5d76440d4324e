/-
  The law FnExactSeekRun.
-/
import Derived.Test.YtnncedndlhfdkabDoorPkAA
import Derived.Test.YtnncedndlhfdkabDoorPkAG
import Derived.Test.YtnncedndlhfdkabDoorTie
import Derived.Test.YtnncedndlhfdkabDoorCards
import Derived.ChangeSame
import Derived.ChangeVars
import Derived.JoinedOf
import Derived.LaidLaws
import Derived.LaidHandle
import Derived.Stop.Joined
import Derived.SevenTiedAt
namespace Go.Proofs.YtnncedndlhfdkabDoor.exSeekRun
open Go.ChangeShapes Go.WideShapes Go.ChangeAt Go.RowKit Go.Deep
open Go.ChangeMaps (open_string shut_string)
set_option linter.unusedVariables false
set_option linter.unusedSimpArgs false
set_option maxRecDepth 100000

theorem own : ownKnob Tryd.prog.godebug = none := by kernel_rfl
theorem laidOut : laidOutB Tryd.prog = true := by kernel_rfl
set_option maxHeartbeats 1000000 in
theorem eqSk_same (s : Sk) (w : World) : Calls Tryd.prog 7 #[s.v, s.v] w fun e w' => e = .returned (.bool true) ∧ Below w.heap.size w w' := by
  unfold Sk.v
  obtain ⟨W, hW⟩ : ∃ W : World, W = (w.alloc (Obj.cells #[.int .i64 s.err, .bool s.found, .string s.ent.row, .string s.ent.fam, .string s.ent.qual, .int .u64 s.ent.ts, .int .i64 s.ent.kind, .string s.ent.val, .int .i64 (s.read : Int)] 27)).alloc (Obj.cells #[.int .i64 s.err, .bool s.found, .string s.ent.row, .string s.ent.fam, .string s.ent.qual, .int .u64 s.ent.ts, .int .i64 s.ent.kind, .string s.ent.val, .int .i64 (s.read : Int)] 27) := ⟨_, rfl⟩
  have HW : Hid (BoxAt W w.heap.size 27 9 w.heap.size s.cells ∧ BoxAt W w.heap.size 27 9 (w.heap.size + 1) s.cells ∧ Below w.heap.size w W) := by
    have hb : Below w.heap.size w W := by rw [hW]; exact ((Below.refl _ _).alloc (Nat.le_refl _) _).alloc (by simp) _
    refine ⟨?_, ?_, hb⟩
    · rw [hW]; exact (boxAt_new w _ (Nat.le_refl _) rfl).below ((Below.refl _ _).alloc (Nat.le_refl _) _)
    · rw [hW]
      have := boxAt_new (w.alloc (Obj.cells #[.int .i64 s.err, .bool s.found, .string s.ent.row, .string s.ent.fam, .string s.ent.qual, .int .u64 s.ent.ts, .int .i64 s.ent.kind, .string s.ent.val, .int .i64 (s.read : Int)] 27)) (base := w.heap.size) (t := 27) (sz := 9) #[.int .i64 s.err, .bool s.found, .string s.ent.row, .string s.ent.fam, .string s.ent.qual, .int .u64 s.ent.ts, .int .i64 s.ent.kind, .string s.ent.val, .int .i64 (s.read : Int)] (by simp) rfl
      rw [World.size_alloc] at this
      exact this
  go_enter Tryd.func7, Tryd.ntmps7
  go_upto_region 1 with fail
  rw [← hW]
  clear hW
  have a0 := HW.out.1.cell (j := 0) rfl
  have a1 := HW.out.1.cell (j := 1) rfl
  have a2 := HW.out.1.cell (j := 2) rfl
  have a3 := HW.out.1.cell (j := 3) rfl
  have a4 := HW.out.1.cell (j := 4) rfl
  have a5 := HW.out.1.cell (j := 5) rfl
  have a6 := HW.out.1.cell (j := 6) rfl
  have a7 := HW.out.1.cell (j := 7) rfl
  have b0 := HW.out.2.1.cell (j := 0) rfl
  have b1 := HW.out.2.1.cell (j := 1) rfl
  have b2 := HW.out.2.1.cell (j := 2) rfl
  have b3 := HW.out.2.1.cell (j := 3) rfl
  have b4 := HW.out.2.1.cell (j := 4) rfl
  have b5 := HW.out.2.1.cell (j := 5) rfl
  have b6 := HW.out.2.1.cell (j := 6) rfl
  have b7 := HW.out.2.1.cell (j := 7) rfl
  go_wp2_with fail
  refine (eqEntry_same s.ent W).mono ?_
  rintro e w1 ⟨rfl, hb1⟩
  have HW1 : Hid (BoxAt w1 w.heap.size 27 9 w.heap.size s.cells ∧ BoxAt w1 w.heap.size 27 9 (w.heap.size + 1) s.cells ∧ Below w.heap.size w w1) := ⟨HW.out.1.below hb1, HW.out.2.1.below hb1, HW.out.2.2.trans (hb1.mono HW.out.2.2.size)⟩
  clear hb1 a0 a1 a2 a3 a4 a5 a6 a7 b0 b1 b2 b3 b4 b5 b6 b7
  have a8 := HW1.out.1.cell (j := 8) rfl
  have b8 := HW1.out.2.1.cell (j := 8) rfl
  go_wp2_with fail
  go_ret
  exact ⟨rfl, HW1.out.2.2⟩

set_option maxHeartbeats 4000000 in
theorem walk (v : Value) (xs : List UInt8) (row : ByteArray) (w : World) (h : BysIn w v xs) (hrow : row.size ≤ maxLen) (hg : HandleAt w) :
    Calls Tryd.prog 3 #[v, .string row] w fun e w' => e = .returned (.bool true) ∧ Below w.heap.size w w' := by
  obtain ⟨a, cap, hv⟩ := h.slice
  subst hv
  have HI : Hid (BysIn w (.slice a xs.length cap) xs ∧ HandleAt w ∧ 0 < w.heap.size) := ⟨h, hg, hg.lt⟩
  have hr := h.1
  unfold maxLen at hr hrow
  clear h hg
  by_cases hbig : 1048576 < xs.length
  · have z : ¬ ((xs.length : Int) ≤ 1048576) := by omega
    go_enter Tryd.func3, Tryd.ntmps3
    go_wp2_with fail
    go_ret
    exact ⟨rfl, Below.refl _ _⟩
  have h1 : xs.length ≤ 1048576 := by omega
  by_cases hbig2 : 1048576 < row.size
  · have z : ¬ ((row.size : Int) ≤ 1048576) := by omega
    go_enter Tryd.func3, Tryd.ntmps3
    go_wp2_with fail
    go_ret
    exact ⟨rfl, Below.refl _ _⟩
  have z2 : (row.size : Int) ≤ 1048576 := by omega
  have HM : Hid (xs.length ≤ maxLen) := by show xs.length ≤ maxLen; unfold maxLen; omega
  obtain ⟨s, hs⟩ : ∃ s, s = seekM xs row := ⟨_, rfl⟩
  have HSp : Hid (∀ (b off cap : Nat) (w : World), BysAt w b off xs → b < w.heap.size → xs.length ≤ cap → cap ≤ maxLen → Calls Tryd.prog 4 #[.slice (some ⟨b, off, none⟩) xs.length cap, .string row] w fun r w' => r = .returned s.v ∧ Below w.heap.size w w') := fun b off cap w q1 q2 q3 q4 => by
    rw [hs]; exact specSeek_core b off cap xs row w q1 q2 (by omega) q3 q4
  have HIm : Hid (∀ (b : Nat) (w : World), HandleAt w → BysAt w b 0 xs → b < w.heap.size → Calls Tryd.prog 6 #[.slice (some ⟨b, 0, none⟩) xs.length xs.length, .string row] w fun r w' => r = .returned s.v ∧ Below w.heap.size w w') := fun b w q0 q1 q2 => by
    rw [hs]; exact implSeek_core ⟨b, 0, xs.length, xs⟩ row w q0 q1 q2 (by show xs.length ≤ _; omega) (Nat.le_refl _) HM.out
  clear hs hr hrow
  go_enter Tryd.func3, Tryd.ntmps3
  go_wp2_with fail
  refine (toByteS_in _ xs _ HI.out.1 h1).mono ?_
  rintro e w1 ⟨g1, rfl, ho1, hb1⟩
  have Ho1 : Hid (OwnY w1 w.heap.size g1 xs.length xs) := ho1
  have s1 := hb1.size
  clear ho1
  go_wp2_with fail
  refine (HSp.out g1 0 xs.length w1 Ho1.out.at Ho1.out.lt.2 (Nat.le_refl _) HM.out).mono ?_
  rintro e w2 ⟨rfl, hb2⟩
  have s2 := hb2.size
  obtain ⟨W2, hW2⟩ : ∃ W2 : World, W2 = w2.alloc (Obj.cells #[.int .i64 s.err, .bool s.found, .string s.ent.row, .string s.ent.fam, .string s.ent.qual, .int .u64 s.ent.ts, .int .i64 s.ent.kind, .string s.ent.val, .int .i64 (s.read : Int)] 27) := ⟨_, rfl⟩
  have HW2 : Hid (BoxAt W2 w.heap.size 27 9 w2.heap.size s.cells ∧ Below w.heap.size w W2) := by
    rw [hW2]
    exact ⟨boxAt_new w2 _ (by omega) rfl, (hb1.trans (hb2.mono s1)).trans ((Below.refl _ _).alloc (by omega) _)⟩
  clear hb2 Ho1
  go_upto_region 6 with fail
  rw [← hW2]
  clear hW2 hb1
  go_wp2_with fail
  refine (toByteS_in _ xs _ (HI.out.1.below HW2.out.2) h1).mono ?_
  rintro e w3 ⟨g3, rfl, ho3, hb3⟩
  have HW3 : Hid (OwnY w3 W2.heap.size g3 xs.length xs ∧ BoxAt w3 w.heap.size 27 9 w2.heap.size s.cells ∧ Below w.heap.size w w3) := ⟨ho3, HW2.out.1.below hb3, HW2.out.2.trans (hb3.mono HW2.out.2.size)⟩
  clear ho3 hb3 HW2
  go_wp2_with fail
  refine (HIm.out g3 w3 (HI.out.2.1.below HW3.out.2.2 HI.out.2.2) HW3.out.1.at HW3.out.1.lt.2).mono ?_
  rintro e w4 ⟨rfl, hb4⟩
  have s4 := hb4.size
  have s3 := HW3.out.2.2.size
  obtain ⟨W4, hW4⟩ : ∃ W4 : World, W4 = w4.alloc (Obj.cells #[.int .i64 s.err, .bool s.found, .string s.ent.row, .string s.ent.fam, .string s.ent.qual, .int .u64 s.ent.ts, .int .i64 s.ent.kind, .string s.ent.val, .int .i64 (s.read : Int)] 27) := ⟨_, rfl⟩
  have HW4 : Hid (OwnY W4 W2.heap.size g3 xs.length xs ∧ BoxAt W4 w.heap.size 27 9 w2.heap.size s.cells ∧ BoxAt W4 w.heap.size 27 9 w4.heap.size s.cells ∧ Below w.heap.size w W4) := by
    have hb5 : Below w4.heap.size w4 W4 := by rw [hW4]; exact (Below.refl _ _).alloc (Nat.le_refl _) _
    refine ⟨(HW3.out.1.below hb4).below hb5, (HW3.out.2.1.below hb4).below hb5, ?_, (HW3.out.2.2.trans (hb4.mono s3)).trans (hb5.mono (by omega))⟩
    rw [hW4]; exact boxAt_new w4 _ (by omega) rfl
  clear hb4 HW3
  go_upto_region 8 with fail
  rw [← hW4]
  clear hW4
  have a0 := HW4.out.2.1.cell (j := 0) rfl
  have a1 := HW4.out.2.1.cell (j := 1) rfl
  have a2 := HW4.out.2.1.cell (j := 2) rfl
  have a3 := HW4.out.2.1.cell (j := 3) rfl
  have a4 := HW4.out.2.1.cell (j := 4) rfl
  have a5 := HW4.out.2.1.cell (j := 5) rfl
  have a6 := HW4.out.2.1.cell (j := 6) rfl
  have a7 := HW4.out.2.1.cell (j := 7) rfl
  have a8 := HW4.out.2.1.cell (j := 8) rfl
  have b0 := HW4.out.2.2.1.cell (j := 0) rfl
  have b1 := HW4.out.2.2.1.cell (j := 1) rfl
  have b2 := HW4.out.2.2.1.cell (j := 2) rfl
  have b3 := HW4.out.2.2.1.cell (j := 3) rfl
  have b4 := HW4.out.2.2.1.cell (j := 4) rfl
  have b5 := HW4.out.2.2.1.cell (j := 5) rfl
  have b6 := HW4.out.2.2.1.cell (j := 6) rfl
  have b7 := HW4.out.2.2.1.cell (j := 7) rfl
  have b8 := HW4.out.2.2.1.cell (j := 8) rfl
  go_wp2_with fail
  refine (eqSk_same s W4).mono ?_
  rintro e w5 ⟨rfl, hb5⟩
  have HW5 : Hid (OwnY w5 W2.heap.size g3 xs.length xs ∧ Below w.heap.size w w5) := ⟨HW4.out.1.below hb5, HW4.out.2.2.2.trans (hb5.mono HW4.out.2.2.2.size)⟩
  clear hb5 a0 a1 a2 a3 a4 a5 a6 a7 a8 b0 b1 b2 b3 b4 b5 b6 b7 b8 HW4
  go_wp2_with fail
  refine (toByteS_in _ xs _ (HI.out.1.below HW5.out.2) h1).mono ?_
  rintro e w6 ⟨g6, rfl, ho6, hb6⟩
  have HW6 : Hid (OwnY w6 W2.heap.size g3 xs.length xs ∧ OwnY w6 w5.heap.size g6 xs.length xs ∧ Below w.heap.size w w6) := ⟨HW5.out.1.below hb6, ho6, HW5.out.2.trans (hb6.mono HW5.out.2.size)⟩
  clear ho6 hb6 HW5
  go_wp2_with fail
  refine (eqByteS_same g3 0 xs.length g6 0 xs.length xs w6 HW6.out.1.at HW6.out.2.1.at HW6.out.1.lt.2 HW6.out.2.1.lt.2 HM.out).mono ?_
  rintro e w7 ⟨rfl, hb7⟩
  go_wp2_with fail
  go_ret
  exact ⟨rfl, HW6.out.2.2.trans (hb7.mono HW6.out.2.2.size)⟩

theorem et : Tryd.prog.globalNamed "errors.errorType" = some 0 := by kernel_rfl
theorem rt : (Tryd.prog.cutTypes.find? (·.1 == "internal/reflectlite.rtype")).map (·.2) = some 99 := by kernel_rfl
theorem oneRow : ((List.range 144).filter fun t => Tryd.prog.rowNamed t [101, 114, 114, 111, 114]) = [66] := by kernel_rfl
theorem size : Tryd.prog.types.size = 144 := by kernel_rfl
/-- The variable's cell, out of the row's condition. -/
theorem handle_of_laid {W : World} (h : laidMetH Tryd.prog Rows.fnExactSeekRunRow.laid W) : HandleAt W := by
  have h' : laidMet Tryd.prog [] W ∧ handlesMet Tryd.prog Rows.fnExactSeekRunRow.laid W := h
  obtain ⟨name, u, ty, e1, e2, e3, e4, e5⟩ := h'.2 _ (List.mem_singleton.2 rfl)
  have en : name = [101, 114, 114, 111, 114] := (Option.some.inj e1).symm
  subst en
  obtain rfl := Option.some.inj (rt.symm.trans e2)
  have hm : ty ∈ (List.range 144).filter fun t => Tryd.prog.rowNamed t [101, 114, 114, 111, 114] := List.mem_filter.2 ⟨List.mem_range.2 (by rw [← size]; exact e3), e4⟩
  rw [oneRow] at hm
  obtain rfl := List.mem_singleton.1 hm
  have hh : typeHandle Tryd.prog 66 = .pointer (some ⟨1, 66, none⟩) := by kernel_rfl
  rw [hh] at e5
  have := World.var?_cell et e5 0
  simpa [HandleAt] using this
/-- A world that meets the condition. -/
noncomputable def laidWorld (os : Os) : World :=
  let w0 := World.holding Tryd.prog os ⟨#[], #[], []⟩
  { w0 with heap := w0.heap.modify 0 fun
      | .cells _ t frozen => .cells #[.iface 99 (.agg #[.pointer (some ⟨1, 66, none⟩)])] t frozen
      | o => o }
theorem laidWorld_met (os : Os) (args : Array Value) : laidMetH Tryd.prog Rows.fnExactSeekRunRow.laid ((laidWorld os).forCall (fun _ _ => 0) ⟨#[], args, []⟩).memory :=
  laidMetH_of_parts (laidMet_nil _ _) (by kernel_rfl)

theorem lifted (os : Os) (started : os.Started) (H : Type) (enc : TypeId × Value → H) :
    ReturnsInHanded {} Tryd.checked os 3 .any (fun w args => (Rows.fnExactSeekRunSpec.pre enc Tryd.prog Tryd.f3 [] false w args ∧ laidMetH Tryd.prog Rows.fnExactSeekRunRow.laid w) ∧ sizedMet enc Tryd.prog Tryd.f3 (OpenSpec.ofChange Rows.fnExactSeekRunSpec) false w args)
      (Rows.fnExactSeekRunSpec.post enc Tryd.prog Tryd.f3 false true false false) := by
  refine returnsInHanded_of_change_and (C := Tryd.checked) (X := fun w _ => laidMetH Tryd.prog Rows.fnExactSeekRunRow.laid w) (fun _ _ _ hh h => h.of_heap hh) own started (by kernel_rfl) Tryd.func3
    (ChangeSpec.witness_at (enc := enc) (C := Tryd.checked) (os := os) (X := fun w _ => laidMetH Tryd.prog Rows.fnExactSeekRunRow.laid w) false (laidWorld os) #[.slice none 0 0, .string ⟨#[]⟩] 8 rfl (by kernel_rfl) (by kernel_rfl) (by kernel_rfl) (by kernel_rfl) (by kernel_rfl) (laidWorld_met os _)) ?_
  intro W base args ds gs before hval0 hW _ _ hL _
  have hval : ∀ (j : Nat) t v, Tryd.f3.params[j]? = some t → args[j]? = some v → Value.okWide Tryd.prog W .any base t v := hval0
  have hW' := hW
  obtain ⟨p, q, hA0, hV, rfl, hfz, hnd⟩ := hW
  have hA : DataW.TrodAll enc Tryd.prog W 0 (fun _ => true) true Tryd.f3.params.toList args.toList ds p := hA0
  rw [Tryd.params3] at hA hval
  obtain ⟨v0, vs0, d0, ds0, p0, q0, hargs, rfl, rfl, h0, r0⟩ := trodAll_cons hA
  obtain ⟨v1, vs1, d1, ds1, p1, q1, rfl, rfl, rfl, h1, r1⟩ := trodAll_cons r0
  obtain ⟨rfl, rfl, rfl⟩ := trodAll_nil r1
  obtain rfl : args = #[v0, v1] := by cases args; simp_all
  obtain ⟨rfl, rfl⟩ := trodVars_none hV
  have k0 := h0
  have lt0 : ∀ x ∈ p0, x.block < W.heap.size := by obtain ⟨m, hm⟩ := k0; exact DataW.trod_lt m _ _ _ hm
  obtain ⟨xs, hxs⟩ : ∃ xs, BysIn W v0 xs := by
    obtain ⟨a0, len0, cap0, rfl⟩ := okWide_slice Tryd.underlying22 (hval 0 22 v0 rfl rfl)
    obtain ⟨fuel, hf⟩ := h0
    exact bysIn_of_trod (x := (d0, p0)) (by simpa [Value.cells] using hf) lt0
  have k1 := h1
  have lt1 : ∀ x ∈ p1, x.block < W.heap.size := by obtain ⟨m, hm⟩ := k1; exact DataW.trod_lt m _ _ _ hm
  obtain ⟨s, rfl, _, _, hs⟩ := open_string Tryd.underlying9 (hval 1 9 v1 rfl rfl) h1
  clear hA0 hval0
  refine (walk v0 xs s W hxs hs (handle_of_laid hL)).mono fun e W' ⟨he, bel⟩ => ?_
  subst he
  exact ⟨_, rfl, _, _, _, [], _, [], hW', trodAll_mk1 (shut_bool Tryd.underlying4 _), (trodAll_cons_mk (Below.trod laidOut (by kernel_rfl) (of_decide_eq_true (by kernel_rfl)) k0 bel lt0) (trodAll_cons_mk (Below.trod laidOut (by kernel_rfl) (of_decide_eq_true (by kernel_rfl)) k1 bel lt1) trodAll_mk0)), rfl, bel.frame _, fun h => by cases h⟩

theorem over : Rows.FnExactSeekRunSaid :=
  OpenClaim.holds_of_wide 3 Tryd.f3 rfl rfl rfl rfl rfl rfl rfl ⟨rfl, rfl, rfl, rfl, rfl⟩ rfl rfl rfl rfl rfl (by kernel_rfl) Tryd.func3 (by kernel_rfl)
    (of_decide_eq_true (by kernel_rfl)) (by unfold Func.isWrapper; first | (rw [if_pos (by decide +kernel)]; kernel_rfl) | (rw [if_neg (by decide +kernel)]; exact ⟨rfl, rfl⟩))
    (fun os started H enc _ => lifted os started H enc)

theorem card : Rows.FnExactSeekRunCardSaid :=
  Claim7.holds_tied_plain_at .later [] [.handle] true Rows.fnExactSeekRunCard.stood.harness true
    over (fun _ h => by cases h) (by kernel_rfl) (fun _ h => by cases h) fnExactSeekRun_row_tie rfl ⟨rfl, rfl⟩ (by kernel_rfl) rfl
    (fun f fn hf hfn => by
      obtain rfl : f = 3 := Option.some.inj ((show Tryd.prog.funcNamed "loop.example/s01854/laws.FnExactSeekRun" = some 3 by kernel_rfl).symm.trans hf) |>.symm
      obtain rfl : fn = Tryd.f3 := (Option.some.inj (Tryd.func3.symm.trans hfn)).symm
      exact ⟨by kernel_rfl, fun j t ht => by
        rw [Tryd.params3] at ht
        have h3 : t = 22 ∨ t = 9 := by
          rcases j with _ | _ | j
          · exact .inl (by simpa using ht.symm)
          · exact .inr (by simpa using ht.symm)
          · simp at ht
        rcases h3 with rfl | rfl
        · exact (show Tryd.prog.wantsStandIn 22 = false by kernel_rfl)
        · exact (show Tryd.prog.wantsStandIn 9 = false by kernel_rfl)⟩)
    (by kernel_rfl)
end Go.Proofs.YtnncedndlhfdkabDoor.exSeekRun
namespace Go.Proofs.YtnncedndlhfdkabDoor
theorem exactSeekRun_holds : Rows.FnExactSeekRunCardSaid := exSeekRun.card
#print axioms exactSeekRun_holds
end Go.Proofs.YtnncedndlhfdkabDoor
