/-
  The law FnFile.
-/
import Derived.Test.YtlgeffinhbodeacDoorPkAA
import Derived.Test.YtlgeffinhbodeacDoorPkAI
import Derived.Test.YtlgeffinhbodeacDoorPkAK
import Derived.Test.YtlgeffinhbodeacDoorPkAF
import Derived.Test.YtlgeffinhbodeacDoorTie
import Derived.Test.YtlgeffinhbodeacDoorCards
import Derived.ChangeSame
import Derived.ChangeVars
import Derived.JoinedOf
import Derived.LaidLaws
import Derived.LaidHandle
import Derived.Stop.Joined
import Derived.SevenTiedAt
namespace Go.Proofs.YtlgeffinhbodeacDoor.exFnFile
open Go.ChangeShapes Go.WideShapes Go.ChangeAt Go.RowKit Go.Deep
set_option linter.unusedVariables false
set_option maxRecDepth 100000

theorem own : ownKnob Tryd.prog.godebug = none := by kernel_rfl
theorem laidOut : laidOutB Tryd.prog = true := by kernel_rfl
theorem file_len {es : List Ent} {p : Nat} (hg : GoodR es) (hok : ∀ e ∈ es, e.ok) : (fileM (chunks p es)).length ≤ 2 ^ 29 := by
  have hk := chunks_ok (p := p) hg.1.2 hok
  have hf := chunks_flatten p _ es (Nat.le_refl _)
  have h1 := fblocks_len _ hk
  have h2 := blocks_many _ hk
  have h3 := fones_len _ hk (by rw [hf]; exact hg.1.1)
  have h4 := hg.1.1
  rw [hf] at h1 h2
  have h5 := num_len64 (n := (chunks p es).length) (by omega)
  unfold fileM findex
  simp only [List.length_append, sumOf_len, fixed_len, headB, List.length_cons, List.length_nil]
  omega

set_option maxHeartbeats 4000000 in
theorem walk (v : Value) (n : Nat) (w : World) (h : BytesIn w v n) (hg : HandleAt w) :
    Calls Tryd.prog 4 #[v] w fun e w' => e = .returned (.bool true) ∧ Below w.heap.size w w' := by
  obtain ⟨a, cap, hv⟩ := h.slice
  subst hv
  have HI : Hid (BytesIn w (.slice a n cap) n ∧ HandleAt w ∧ 0 < w.heap.size) := ⟨h, hg, hg.lt⟩
  have hr := h.1
  unfold maxLen at hr
  clear h hg
  by_cases hbig : 1048576 < n
  · have z : (1048576 : Int) < (n : Int) := by omega
    go_enter Tryd.func4, Tryd.ntmps4
    go_wp2_with fail
    go_ret
    exact ⟨rfl, Below.refl _ _⟩
  have h1 : n ≤ 1048576 := by omega
  have z : ¬ (1048576 : Int) < (n : Int) := by omega
  go_enter Tryd.func4, Tryd.ntmps4
  go_wp2_with fail
  refine (drawEncode_core _ n _ (HI.out.1.code h1)).mono ?_
  rintro e w1 ⟨r, per, rfl, hp0, hp1, hD⟩
  have HD : Hid (DrawnR w r w1) := hD
  have s1 := hD.below.size
  clear hD
  obtain ⟨W1, hW1⟩ : ∃ W1 : World, W1 = w1.alloc (Obj.cells #[.slice (some ⟨r.b, r.off, none⟩) r.es.length r.cap] 25) := ⟨_, rfl⟩
  have hb1 : Below w1.heap.size w1 W1 := by rw [hW1]; exact (Below.refl _ _).alloc (Nat.le_refl _) _
  have hz1 : w1.heap.size < W1.heap.size := by rw [hW1]; simp
  have k1 : Below w.heap.size w W1 := HD.out.below.trans (hb1.mono s1)
  have HR : Hid (∀ wx, Below W1.heap.size W1 wx → wx.cell? ⟨w1.heap.size, 0, none⟩ = some (.slice (some ⟨r.b, r.off, none⟩) r.es.length r.cap) ∧ r.at wx ∧ HandleAt wx ∧ Below w.heap.size w wx) := by
    intro wx hx
    have k := k1.trans (hx.mono k1.size)
    refine ⟨?_, (HD.out.at_.below hb1).below hx, HI.out.2.1.below k HI.out.2.2, k⟩
    rw [hx.cell (p := ⟨w1.heap.size, 0, none⟩) hz1, hW1]; simp
  have HOk : Hid (∀ e ∈ r.es, e.ok) := fun e he => (HD.out.ok e he).ok
  have hrl : r.es.length ≤ 101 := HD.out.len
  clear hz1
  obtain ⟨c0, hat1, _, _⟩ := HR.out W1 (Below.refl _ _)
  have HA1 : Hid (r.at W1) := hat1
  clear hat1
  go_upto_region 4 with fail
  rw [← hW1]
  clear hW1
  go_wp2_with fail
  refine (implEnc_core r.b r.off r.cap r.es per _ HA1.out.ents HOk.out HA1.out.lt HA1.out.len HA1.out.cap).mono ?_
  rintro e w2 ⟨g, cp, xs, rfl, hO, hEn, hb2⟩
  have HO : Hid (OwnY w2 W1.heap.size g cp xs ∧ EncOf r.es per xs) := ⟨hO, hEn⟩
  clear hO hEn c0
  obtain ⟨c0, hat2, _, _⟩ := HR.out w2 hb2
  have HA2 : Hid (r.at w2) := hat2
  clear hat2
  have s2 := hb2.size
  go_wp2_with fail
  refine (specValidRun_core r.b r.off r.cap r.es _ HA2.out.ents HOk.out HA2.out.lt HA2.out.len HA2.out.cap).mono ?_
  rintro e w3 ⟨gd, rfl, hgd, hb3⟩
  have HGd : Hid (gd = true ↔ GoodR r.es) := hgd
  have k13 : Below W1.heap.size W1 w3 := hb2.trans (hb3.mono s2)
  have s3 := k13.size
  clear hgd c0
  obtain ⟨c0, hat3, hh3, k03⟩ := HR.out w3 k13
  have HH3 : Hid (HandleAt w3) := hh3
  clear hat3 hh3
  have hempty : Hid (¬ (GoodR r.es ∧ 1 ≤ per ∧ per ≤ 1000) → xs.length = 0) := fun q => by rw [HO.out.2.2 q]; rfl
  have HXS : Hid (GoodR r.es ∧ 1 ≤ per ∧ per ≤ 1000 → xs = fileM (chunks per.toNat r.es)) := HO.out.2.1
  have hxsz : Hid (xs.length ≤ 2 ^ 29) := by
    show xs.length ≤ _
    by_cases hq : GoodR r.es ∧ 1 ≤ per ∧ per ≤ 1000
    · rw [HXS.out hq]; exact file_len hq.1 HOk.out
    · rw [hempty.out hq]; exact Nat.zero_le _
  cases gd
  case false =>
    have hx0 : xs.length = 0 := hempty.out (fun q => Bool.noConfusion (HGd.out.2 q.1))
    have hx0' : ((xs.length : Int) == 0) = true := by rw [beq_iff_eq]; omega
    have HX0 : Hid (xs.length = 0) := hx0
    clear hx0
    go_wp2_with fail
    go_ret
    exact ⟨by simp [HX0.out], k03⟩
  case true =>
  have HG : Hid (GoodR r.es) := HGd.out.1 rfl
  by_cases hpa : per < 1
  · have hx0 : xs.length = 0 := hempty.out (fun q => by omega)
    have HX0 : Hid (xs.length = 0) := hx0
    clear hx0
    go_wp2_with fail
    go_ret
    exact ⟨by simp [HX0.out], k03⟩
  by_cases hpb : 1000 < per
  · have hx0 : xs.length = 0 := hempty.out (fun q => by omega)
    have HX0 : Hid (xs.length = 0) := hx0
    clear hx0
    go_wp2_with fail
    go_ret
    exact ⟨by simp [HX0.out], k03⟩
  have HB : Hid (decM xs = (0, r.es)) := by
    show _ = _
    rw [HXS.out ⟨HG.out, by omega, by omega⟩]
    exact decM_back HG.out HOk.out (by omega) (by omega)
  have HO3 : Hid (OwnY w3 W1.heap.size g cp xs) := HO.out.1.below hb3
  go_wp2_with fail
  refine (implDec_core ⟨g, 0, cp, xs⟩ w3 HH3.out HO3.out.at HO3.out.lt.2 hxsz.out HO3.out.caps.1 HO3.out.caps.2).mono ?_
  rintro e w4 ⟨err, u, es, rfl, hM, hU, hok, hb4⟩
  obtain ⟨rfl, rfl⟩ : err = 0 ∧ es = r.es := by
    have h9 : (err, es) = (0, r.es) := hM.trans HB.out
    simpa using h9
  obtain ⟨ua, un, uc, rfl⟩ : ∃ ua un uc, u = .slice ua un uc := by rcases hU with ⟨q, _⟩ | ⟨g', cp', q, _⟩ <;> exact ⟨_, _, _, q⟩
  have s4 := hb4.size
  obtain ⟨W4, hW4⟩ : ∃ W4 : World, W4 = w4.alloc (Obj.cells #[.int .i64 0, .slice ua un uc] 27) := ⟨_, rfl⟩
  have b4 : Below w4.heap.size w4 W4 := by rw [hW4]; exact (Below.refl _ _).alloc (Nat.le_refl _) _
  have k14 : Below W1.heap.size W1 W4 := (k13.trans (hb4.mono s3)).trans (b4.mono (by omega))
  have q0 : W4.cell? ⟨w4.heap.size, 0, none⟩ = some (.int .i64 0) := by rw [hW4]; simp
  have q1 : W4.cell? ⟨w4.heap.size, 1, none⟩ = some (.slice ua un uc) := by rw [hW4]; simp
  have HU4 : Hid (InEnts W4 (.slice ua un uc) r.es) := (OwnU.ins hU).below b4 (Nat.le_refl _)
  clear hU hM hok c0
  obtain ⟨c0, hat4, _, k04⟩ := HR.out W4 k14
  have HR4 : Hid (InEnts W4 (.slice (some ⟨r.b, r.off, none⟩) r.es.length r.cap) r.es) := .inr ⟨_, _, _, rfl, hat4.ents, hat4.lt, hat4.len, hat4.cap⟩
  clear hat4
  go_upto_region 8 with fail
  rw [← hW4]
  clear hW4
  go_wp2_with fail
  refine (lwRun_same _ _ r.es _ HU4.out HR4.out (by omega)).mono ?_
  rintro e w5 ⟨rfl, hb5⟩
  go_wp2_with fail
  go_ret
  exact ⟨rfl, k04.trans (hb5.mono k04.size)⟩

theorem et : Tryd.prog.globalNamed "errors.errorType" = some 0 := by kernel_rfl
theorem rt : (Tryd.prog.cutTypes.find? (·.1 == "internal/reflectlite.rtype")).map (·.2) = some 142 := by kernel_rfl
theorem oneRow : ((List.range 195).filter fun t => Tryd.prog.rowNamed t [101, 114, 114, 111, 114]) = [91] := by kernel_rfl
theorem size : Tryd.prog.types.size = 195 := by kernel_rfl
/-- The variable's cell, out of the row's condition. -/
theorem handle_of_laid {W : World} (h : laidMetH Tryd.prog Rows.fnFileRow.laid W) : HandleAt W := by
  have h' : laidMet Tryd.prog [] W ∧ handlesMet Tryd.prog Rows.fnFileRow.laid W := h
  obtain ⟨name, u, ty, e1, e2, e3, e4, e5⟩ := h'.2 _ (List.mem_singleton.2 rfl)
  have en : name = [101, 114, 114, 111, 114] := (Option.some.inj e1).symm
  subst en
  obtain rfl := Option.some.inj (rt.symm.trans e2)
  have hm : ty ∈ (List.range 195).filter fun t => Tryd.prog.rowNamed t [101, 114, 114, 111, 114] := List.mem_filter.2 ⟨List.mem_range.2 (by rw [← size]; exact e3), e4⟩
  rw [oneRow] at hm
  obtain rfl := List.mem_singleton.1 hm
  have hh : typeHandle Tryd.prog 91 = .pointer (some ⟨2, 91, none⟩) := by kernel_rfl
  rw [hh] at e5
  have := World.var?_cell et e5 0
  simpa [HandleAt] using this
/-- A world that meets the condition. -/
noncomputable def laidWorld (os : Os) : World :=
  let w0 := World.holding Tryd.prog os ⟨#[], #[], []⟩
  { w0 with heap := w0.heap.modify 0 fun
      | .cells _ t frozen => .cells #[.iface 142 (.agg #[.pointer (some ⟨2, 91, none⟩)])] t frozen
      | o => o }
theorem laidWorld_met (os : Os) (args : Array Value) : laidMetH Tryd.prog Rows.fnFileRow.laid ((laidWorld os).forCall (fun _ _ => 0) ⟨#[], args, []⟩).memory :=
  laidMetH_of_parts (laidMet_nil _ _) (by kernel_rfl)

theorem lifted (os : Os) (started : os.Started) (H : Type) (enc : TypeId × Value → H) :
    ReturnsInHanded {} Tryd.checked os 4 .any (fun w args => (Rows.fnFileSpec.pre enc Tryd.prog Tryd.f4 [] false w args ∧ laidMetH Tryd.prog Rows.fnFileRow.laid w) ∧ sizedMet enc Tryd.prog Tryd.f4 (OpenSpec.ofChange Rows.fnFileSpec) false w args)
      (Rows.fnFileSpec.post enc Tryd.prog Tryd.f4 false true false false) := by
  refine returnsInHanded_of_change_and (C := Tryd.checked) (X := fun w _ => laidMetH Tryd.prog Rows.fnFileRow.laid w) (fun _ _ _ hh h => h.of_heap hh) own started (by kernel_rfl) Tryd.func4
    (ChangeSpec.witness_at (enc := enc) (C := Tryd.checked) (os := os) (X := fun w _ => laidMetH Tryd.prog Rows.fnFileRow.laid w) false (laidWorld os) #[.slice none 0 0] 8 rfl (by kernel_rfl) (by kernel_rfl) (by kernel_rfl) (by kernel_rfl) (by kernel_rfl) (laidWorld_met os _)) ?_
  intro W base args ds gs before hval0 hW _ _ hL _
  have hval : ∀ (j : Nat) t v, Tryd.f4.params[j]? = some t → args[j]? = some v → Value.okWide Tryd.prog W .any base t v := hval0
  have hW' := hW
  obtain ⟨p, q, hA0, hV, rfl, hfz, hnd⟩ := hW
  have hA : DataW.TrodAll enc Tryd.prog W 0 (fun _ => true) true Tryd.f4.params.toList args.toList ds p := hA0
  rw [Tryd.params4] at hA hval
  obtain ⟨v0, vs0, d0, ds0, p0, q0, hargs, rfl, rfl, h0, r0⟩ := trodAll_cons hA
  obtain ⟨rfl, rfl, rfl⟩ := trodAll_nil r0
  obtain rfl : args = #[v0] := by cases args; simp_all
  obtain ⟨rfl, rfl⟩ := trodVars_none hV
  have k0 := h0
  have lt0 : ∀ x ∈ p0, x.block < W.heap.size := by obtain ⟨m, hm⟩ := k0; exact DataW.trod_lt m _ _ _ hm
  obtain ⟨n, hxs⟩ : ∃ n, BytesIn W v0 n := by
    obtain ⟨a0, len0, cap0, rfl⟩ := okWide_slice Tryd.underlying22 (hval 0 22 v0 rfl rfl)
    obtain ⟨fuel, hf⟩ := h0
    exact bytes_of_trod (x := (d0, p0)) (by simpa [Value.cells] using hf) lt0
  clear hA0 hval0
  refine (walk v0 n W hxs (handle_of_laid hL)).mono fun e W' ⟨he, bel⟩ => ?_
  subst he
  exact ⟨_, rfl, _, _, _, [], _, [], hW', trodAll_mk1 (shut_bool Tryd.underlying4 _), (trodAll_cons_mk (Below.trod laidOut (by kernel_rfl) (of_decide_eq_true (by kernel_rfl)) k0 bel lt0) trodAll_mk0), rfl, bel.frame _, fun h => by cases h⟩

theorem over : Rows.FnFileSaid :=
  OpenClaim.holds_of_wide 4 Tryd.f4 rfl rfl rfl rfl rfl rfl rfl ⟨rfl, rfl, rfl, rfl, rfl⟩ rfl rfl rfl rfl rfl (by kernel_rfl) Tryd.func4 (by kernel_rfl)
    (of_decide_eq_true (by kernel_rfl)) (by unfold Func.isWrapper; first | (rw [if_pos (by decide +kernel)]; kernel_rfl) | (rw [if_neg (by decide +kernel)]; exact ⟨rfl, rfl⟩))
    (fun os started H enc _ => lifted os started H enc)

theorem card : Rows.FnFileCardSaid :=
  Claim7.holds_tied_plain_at .later [] [.handle] true Rows.fnFileCard.stood.harness true
    over (fun _ h => by cases h) (by kernel_rfl) (fun _ h => by cases h) fnFile_row_tie rfl ⟨rfl, rfl⟩ (by kernel_rfl) rfl
    (fun f fn hf hfn => by
      obtain rfl : f = 4 := Option.some.inj ((show Tryd.prog.funcNamed "loop.example/s01854/laws.FnFile" = some 4 by kernel_rfl).symm.trans hf) |>.symm
      obtain rfl : fn = Tryd.f4 := (Option.some.inj (Tryd.func4.symm.trans hfn)).symm
      exact ⟨by kernel_rfl, fun j t ht => by
        rw [Tryd.params4] at ht
        have h3 : t = 22 := by
          rcases j with _ | j
          · simpa using ht.symm
          · simp at ht
        subst h3
        exact (show Tryd.prog.wantsStandIn 22 = false by kernel_rfl)⟩)
    (by kernel_rfl)
end Go.Proofs.YtlgeffinhbodeacDoor.exFnFile
namespace Go.Proofs.YtlgeffinhbodeacDoor
theorem fnFile_holds : Rows.FnFileCardSaid := exFnFile.card
#print axioms fnFile_holds
end Go.Proofs.YtlgeffinhbodeacDoor
