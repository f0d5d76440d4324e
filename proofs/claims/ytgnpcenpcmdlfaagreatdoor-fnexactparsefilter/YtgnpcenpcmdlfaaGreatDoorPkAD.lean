import Derived.Recover
import Derived.RecoverIn
import Derived.Stop.Asserts
import Derived.Test.YtgnpcenpcmdlfaaGreatDoorPkAC
import Derived.Test.YtgnpcenpcmdlfaaGreatDoorPkAA
/-
  impl.placedFaultOf, impl.readPattern.
-/
namespace Go.Proofs.YtgnpcenpcmdlfaaGreatDoor
open Go.ChangeShapes Go.WideShapes Go.ChangeAt Go.RowKit Go.Deep
set_option linter.unusedVariables false
set_option linter.unusedSimpArgs false
set_option maxRecDepth 100000

theorem pf_assert (c a : Int) (w : World) : (Instr.typeAssert (pfV c a) 20 46 true).run Tryz.prog w = .ok (.tuple #[.agg #[.int .i64 c, .int .i64 a], .bool true]) w := by kernel_rfl
set_option maxHeartbeats 2000000 in
theorem pfOf_nil (w : World) : Calls Tryz.prog 24 #[.nilIface] w fun e w' => e = .returned (.agg #[.int .i64 0, .int .i64 0]) ∧ Below w.heap.size w w' := by
  go_enter Tryz.func24, Tryz.ntmps24
  go_wp2_with fail
  refine bodyPost_ret (v := .agg #[.int .i64 0, .int .i64 0]) (by simp [results, Tryz.results24, go_sem]) rfl ⟨rfl, ?_⟩
  exact (Below.refl _ _).alloc (Nat.le_refl _) _
set_option maxHeartbeats 2000000 in
theorem pfOf_pf (c a : Int) (w : World) : Calls Tryz.prog 24 #[pfV c a] w fun e w' => e = .returned (.agg #[.int .i64 c, .int .i64 a]) ∧ Below w.heap.size w w' := by
  have hta := pf_assert
  obtain ⟨W, hW⟩ : ∃ W : World, W = w.alloc (Obj.cells #[.int .i64 0, .int .i64 0] 46) := ⟨_, rfl⟩
  have HW : Hid (BoxAt W w.heap.size 46 2 w.heap.size [.int .i64 0, .int .i64 0] ∧ Below w.heap.size w W) := by
    rw [hW]; exact ⟨boxAt_new w _ (Nat.le_refl _) rfl, (Below.refl _ _).alloc (Nat.le_refl _) _⟩
  obtain ⟨W2, hW2⟩ : ∃ W2 : World, W2 = W.alloc (Obj.cells #[.int .i64 c, .int .i64 a] 46) := ⟨_, rfl⟩
  have HW2 : Hid (BoxAt W2 w.heap.size 46 2 w.heap.size [.int .i64 0, .int .i64 0] ∧ BoxAt W2 w.heap.size 46 2 W.heap.size [.int .i64 c, .int .i64 a] ∧ Below w.heap.size w W2) := by
    have hb : Below W.heap.size W W2 := by rw [hW2]; exact (Below.refl _ _).alloc (Nat.le_refl _) _
    refine ⟨HW.out.1.below hb, ?_, HW.out.2.trans (hb.mono HW.out.2.size)⟩
    rw [hW2]; exact boxAt_new W _ HW.out.2.size rfl
  go_enter Tryz.func24, Tryz.ntmps24
  go_upto_region 1 with fail
  rw [← hW]
  clear hW
  go_upto_region 7 with fail
  rw [← hW2]
  clear hW2 hta
  have b0 := HW2.out.2.1.cell (j := 0) rfl
  have b1 := HW2.out.2.1.cell (j := 1) rfl
  have r0 := HW2.out.1.cell (j := 0) rfl
  have r1 := HW2.out.1.cell (j := 1) rfl
  have f0 := HW2.out.1.frozen 0
  have f1 := HW2.out.1.frozen 1
  have hbx := (HW2.out.1.set 0 (.int .i64 c)).set 1 (.int .i64 a)
  have p0 := hbx.cell (j := 0) rfl
  have p1 := hbx.cell (j := 1) rfl
  obtain ⟨W3, hW3⟩ : ∃ W3 : World, W3 = (W2.setCell ⟨w.heap.size, 0, none⟩ (.int .i64 c)).setCell ⟨w.heap.size, 1, none⟩ (.int .i64 a) := ⟨_, rfl⟩
  rw [← hW3] at p0 p1
  have HB3 : Hid (Below w.heap.size w W3) := by
    show Below w.heap.size w W3
    rw [hW3]; exact below_set (below_set HW2.out.2.2 (Nat.le_refl _) 0 _) (Nat.le_refl _) 1 _
  clear hbx
  go_wp2_with fail
  rw [← hW3]
  refine bodyPost_ret (v := .agg #[.int .i64 c, .int .i64 a]) (by simp [results, Tryz.results24, go_sem, p0, p1]) rfl ⟨rfl, HB3.out⟩

set_option maxHeartbeats 4000000 in
theorem rp_catch (base rb eb : Nat) (c a : Int) (older : List PanicEntry) (w : World) (hc : ¬ c = 0) (x : Value) (hr : BoxAt w base 171 1 rb [x]) (he : BoxAt w base 125 2 eb [.int .i64 0, .int .i64 0]) (hne : ¬ rb = eb) :
    CallsD Tryz.prog 141 #[.pointer (some ⟨rb, 0, none⟩), .pointer (some ⟨eb, 0, none⟩)] (.panicking ({ v := pfV c a, recovered := false } :: older)) w fun e u' w' =>
      e = .returned (.tuple #[]) ∧ u' = .panicking ({ v := pfV c a, recovered := true } :: older) ∧ BoxAt w' base 171 1 rb [.slice none 0 0] ∧ BoxAt w' base 125 2 eb [.int .i64 c, .int .i64 a] ∧ Chg (fun k => k = rb ∨ k = eb) w w' := by
  refine callsD_of_wpS Tryz.func141 rfl fun c₀ cs hu => ?_
  apply wpS_seq
  apply wpS_region
  simp [wpOpsS, go_sem, recoverD, hu, Tryz.ntmps141, Exit.thenS]
  refine (pfOf_pf c a w).mono ?_
  rintro e w1 ⟨rfl, hb1⟩
  simp [wpOpsS, go_sem]
  have ht : #[Value.pointer (some ⟨rb, 0, none⟩), Value.pointer (some ⟨eb, 0, none⟩)] ++ (((Array.replicate 12 undef).setIfInBounds 1 (pfV c a)).setIfInBounds 2 (Value.agg #[Value.int IntKind.i64 c, Value.int IntKind.i64 a])).setIfInBounds 0 (Value.pointer (some ⟨w1.heap.size, 0, none⟩)) = #[.pointer (some ⟨rb, 0, none⟩), .pointer (some ⟨eb, 0, none⟩), .pointer (some ⟨w1.heap.size, 0, none⟩), pfV c a, .agg #[.int .i64 c, .int .i64 a], undef, undef, undef, undef, undef, undef, undef, undef, undef] := by rfl
  rw [ht]
  clear ht
  obtain ⟨W2, hW2⟩ : ∃ W2 : World, W2 = w1.alloc (Obj.cells #[.int .i64 c, .int .i64 a] 46) := ⟨_, rfl⟩
  have hb2 : Below w1.heap.size w1 W2 := by rw [hW2]; exact (Below.refl _ _).alloc (Nat.le_refl _) _
  have HB : Hid (BoxAt W2 base 171 1 rb [x] ∧ BoxAt W2 base 125 2 eb [.int .i64 0, .int .i64 0] ∧ Chg (fun k => k = rb ∨ k = eb) w W2) :=
    ⟨(hr.below hb1).below hb2, (he.below hb1).below hb2, (Chg.of_below hb1).trans (Chg.of_below hb2)⟩
  have d0 : W2.cell? ⟨w1.heap.size, 0, none⟩ = some (.int .i64 c) := by rw [hW2]; simp
  have d1 : W2.cell? ⟨w1.heap.size, 1, none⟩ = some (.int .i64 a) := by rw [hW2]; simp
  have hrl := (hr.below hb1).lt.2
  have hel := (he.below hb1).lt.2
  obtain ⟨FB, hFB⟩ : ∃ FB, FB = w1.heap.size := ⟨_, rfl⟩
  rw [← hW2]
  rw [← hFB] at d0 d1 ⊢
  have n1 : ¬ FB = rb := by omega
  have n2 : ¬ FB = eb := by omega
  clear hW2 hFB hb1 hb2 hr he hrl hel
  have r0 := HB.out.1.cell (j := 0) rfl
  have rf := HB.out.1.frozen 0
  have e0 := HB.out.2.1.cell (j := 0) rfl
  have e1 := HB.out.2.1.cell (j := 1) rfl
  have f0 := HB.out.2.1.frozen 0
  have f1 := HB.out.2.1.frozen 1
  have n3 : ¬ eb = rb := fun q => hne q.symm
  have HF : ∀ w' : World, Below W2.heap.size W2 w' → BoxAt (((w'.setCell ⟨rb, 0, none⟩ (.slice none 0 0)).setCell ⟨eb, 0, none⟩ (.int .i64 c)).setCell ⟨eb, 1, none⟩ (.int .i64 a)) base 171 1 rb [.slice none 0 0] ∧ BoxAt (((w'.setCell ⟨rb, 0, none⟩ (.slice none 0 0)).setCell ⟨eb, 0, none⟩ (.int .i64 c)).setCell ⟨eb, 1, none⟩ (.int .i64 a)) base 125 2 eb [.int .i64 c, .int .i64 a] ∧ Chg (fun k => k = rb ∨ k = eb) w (((w'.setCell ⟨rb, 0, none⟩ (.slice none 0 0)).setCell ⟨eb, 0, none⟩ (.int .i64 c)).setCell ⟨eb, 1, none⟩ (.int .i64 a)) := fun w' hb => by
    refine ⟨((((HB.out.1.below hb).set 0 _).beside hne 0 _).beside hne 1 _), ((((HB.out.2.1.below hb).beside n3 0 _).set 0 _).set 1 _), ((((HB.out.2.2.trans (Chg.of_below hb)).trans (Chg.of_set _ rb 0 _ (.inl rfl))).trans (Chg.of_set _ eb 0 _ (.inr rfl))).trans (Chg.of_set _ eb 1 _ (.inr rfl)))⟩
  have HFF : Hid (∀ w' : World, Below W2.heap.size W2 w' → BoxAt (((w'.setCell ⟨rb, 0, none⟩ (.slice none 0 0)).setCell ⟨eb, 0, none⟩ (.int .i64 c)).setCell ⟨eb, 1, none⟩ (.int .i64 a)) base 171 1 rb [.slice none 0 0] ∧ BoxAt (((w'.setCell ⟨rb, 0, none⟩ (.slice none 0 0)).setCell ⟨eb, 0, none⟩ (.int .i64 c)).setCell ⟨eb, 1, none⟩ (.int .i64 a)) base 125 2 eb [.int .i64 c, .int .i64 a] ∧ Chg (fun k => k = rb ∨ k = eb) w (((w'.setCell ⟨rb, 0, none⟩ (.slice none 0 0)).setCell ⟨eb, 0, none⟩ (.int .i64 c)).setCell ⟨eb, 1, none⟩ (.int .i64 a))) := HF
  clear HF
  refine wpS_of_wp ?_
  go_upto_region 2 with fail
  go_region
  all_goals go_wp2_with fail
  have hfin := HFF.out W2 (Below.refl _ _)
  have hdr : ∀ X : World, Below X.heap.size X X.drew := fun X => (Below.refl _ _).drew
  exact ⟨rfl, _, rfl, _, by simp [results, Tryz.results141], rfl, rfl, hfin.1.below (hdr _), hfin.2.1.below (hdr _), hfin.2.2.trans (Chg.of_below (hdr _))⟩

set_option maxHeartbeats 4000000 in
theorem rp_idle (rb eb : Nat) (w : World) :
    CallsD Tryz.prog 141 #[.pointer (some ⟨rb, 0, none⟩), .pointer (some ⟨eb, 0, none⟩)] .returning w fun e u' w' => e = .returned (.tuple #[]) ∧ u' = .returning ∧ Below w.heap.size w w' := by
  refine callsD_of_wpS Tryz.func141 rfl fun c₀ cs hu => ?_
  apply wpS_seq
  apply wpS_region
  simp [wpOpsS, go_sem, recoverD, hu, Tryz.ntmps141, Exit.thenS]
  refine (pfOf_nil w).mono ?_
  rintro e w1 ⟨rfl, hb1⟩
  simp [wpOpsS, go_sem]
  have ht : #[Value.pointer (some ⟨rb, 0, none⟩), Value.pointer (some ⟨eb, 0, none⟩)] ++ (((Array.replicate 12 undef).setIfInBounds 1 .nilIface).setIfInBounds 2 (Value.agg #[Value.int IntKind.i64 0, Value.int IntKind.i64 0])).setIfInBounds 0 (Value.pointer (some ⟨w1.heap.size, 0, none⟩)) = #[.pointer (some ⟨rb, 0, none⟩), .pointer (some ⟨eb, 0, none⟩), .pointer (some ⟨w1.heap.size, 0, none⟩), .nilIface, .agg #[.int .i64 0, .int .i64 0], undef, undef, undef, undef, undef, undef, undef, undef, undef] := by rfl
  rw [ht]
  clear ht
  have HB : Hid (Below w.heap.size w (w1.alloc (Obj.cells #[.int .i64 0, .int .i64 0] 46))) := hb1.trans ((Below.refl _ _).alloc hb1.size _)
  clear hb1
  refine wpS_of_wp ?_
  go_wp2_with fail
  refine ⟨rfl, .returning, ?_, _, by simp [results, Tryz.results141], rfl, rfl, HB.out⟩
  cases c₀
  simp_all

/-- What the check of a pattern comes to. -/
def checkM (p : List UInt8) : Int × Nat := if 200 < p.length then (1, 0) else chkM p 0 0 false
/-- What readPattern hands back. -/
def ReadPost (p : ByteArray) (w : World) (e : Ending) (w' : World) : Prop :=
  ∃ u : Value, e = .returned (.tuple #[.agg #[u], .agg #[.int .i64 (checkM (sb p)).1, .int .i64 ((checkM (sb p)).2 : Int)]]) ∧ Below w.heap.size w w' ∧
    (((checkM (sb p)).1 = 0 ∧ ∃ os, AltOk (sb p) 0 0 p.size os ∧ AltAt w' (Bet w.heap.size w'.heap.size) os u) ∨ (¬ (checkM (sb p)).1 = 0 ∧ u = .slice none 0 0))
theorem rp_res {base rb eb : Nat} {w : World} {a : Act} {u x y : Value} (hu : u.oneCell' = true) (ht : a.tmps.getD 2 undef = .pointer (some ⟨rb, 0, none⟩)) (ht2 : a.tmps.getD 3 undef = .pointer (some ⟨eb, 0, none⟩)) (hr : BoxAt w base 171 1 rb [u]) (he : BoxAt w base 125 2 eb [x, y]) :
    (results Tryz.f132 a.tmps).run Tryz.prog w = .ok (.tuple #[.agg #[u], .agg #[x, y]]) w := by
  have p0 := hr.cell (j := 0) rfl
  have q0 := he.cell (j := 0) rfl
  have q1 := he.cell (j := 1) rfl
  have h1 : a.tmps[2]?.getD undef = .pointer (some ⟨rb, 0, none⟩) := by rw [← Array.getD_eq_getD_getElem?]; exact ht
  have h2 : a.tmps[3]?.getD undef = .pointer (some ⟨eb, 0, none⟩) := by rw [← Array.getD_eq_getD_getElem?]; exact ht2
  simp [results, Tryz.results132, go_sem, h1, h2, p0, q0, q1]
/-- Every panic of readPattern ends in its fault. -/
theorem rp_dies (p : ByteArray) (w wq : World) (a : Act) (c : Int) (k rb eb : Nat) (x : Value) (hrb : w.heap.size ≤ rb) (heb : w.heap.size ≤ eb) (hne : ¬ rb = eb) (hd : a.defers = [{ target := Target.fn (Fn.func 141) #[.pointer (some ⟨rb, 0, none⟩), .pointer (some ⟨eb, 0, none⟩)], args := #[] }])
    (ht : a.tmps.getD 2 undef = .pointer (some ⟨rb, 0, none⟩)) (ht2 : a.tmps.getD 3 undef = .pointer (some ⟨eb, 0, none⟩)) (hM : checkM (sb p) = (c, k)) (hc : ¬ c = 0) (hr : BoxAt wq w.heap.size 171 1 rb [x]) (he : BoxAt wq w.heap.size 125 2 eb [.int .i64 0, .int .i64 0]) (hB : Below w.heap.size w wq) :
    bodyPostD Tryz.prog Tryz.f132 (fun e w' => ReadPost p w e w') (.panic [{ v := pfV c k, recovered := false }]) a wq := by
  show Leaves Tryz.prog Tryz.f132 a.tmps (fun e w' => ReadPost p w e w') a.defers (.panicking [{ v := pfV c k, recovered := false }]) wq
  rw [hd]
  refine leaves_cons (f := 141) (args := #[.pointer (some ⟨rb, 0, none⟩), .pointer (some ⟨eb, 0, none⟩)]) (by simp) (by simp [go_sem]) ?_
  refine (rp_catch w.heap.size rb eb c k [] wq hc x hr he hne).mono ?_
  rintro e u' w'' ⟨rfl, rfl, hr2, he2, hC⟩
  show Leaves Tryz.prog Tryz.f132 a.tmps (fun e w' => ReadPost p w e w') [] (settle (.panicking [{ v := pfV c k, recovered := true }])) _
  refine ⟨_, rp_res rfl ht ht2 hr2 he2, .slice none 0 0, by rw [hM], Chg.below hB hC hB.size (fun j q => by omega), .inr ⟨by rw [hM]; exact hc, rfl⟩⟩
theorem rp_done (p : ByteArray) (w wq : World) (a : Act) (rb eb : Nat) (u : Value) (os : List (List Pat)) (hu : u.oneCell' = true) (hd : a.defers = [{ target := Target.fn (Fn.func 141) #[.pointer (some ⟨rb, 0, none⟩), .pointer (some ⟨eb, 0, none⟩)], args := #[] }])
    (ht : a.tmps.getD 2 undef = .pointer (some ⟨rb, 0, none⟩)) (ht2 : a.tmps.getD 3 undef = .pointer (some ⟨eb, 0, none⟩)) (hM : checkM (sb p) = (0, 0)) (hA : AltOk (sb p) 0 0 p.size os) (hU : AltAt wq (Bet w.heap.size wq.heap.size) os u) (hr : BoxAt wq w.heap.size 171 1 rb [u]) (he : BoxAt wq w.heap.size 125 2 eb [.int .i64 0, .int .i64 0]) (hB : Below w.heap.size w wq) :
    bodyPostD Tryz.prog Tryz.f132 (fun e w' => ReadPost p w e w') .ret a wq := by
  show Leaves Tryz.prog Tryz.f132 a.tmps (fun e w' => ReadPost p w e w') a.defers .returning wq
  rw [hd]
  refine leaves_cons (f := 141) (args := #[.pointer (some ⟨rb, 0, none⟩), .pointer (some ⟨eb, 0, none⟩)]) (by simp) (by simp [go_sem]) ?_
  refine (rp_idle rb eb wq).mono ?_
  rintro e u' w'' ⟨rfl, rfl, hb⟩
  show Leaves Tryz.prog Tryz.f132 a.tmps (fun e w' => ReadPost p w e w') [] (settle .returning) w''
  refine ⟨_, rp_res hu ht ht2 (hr.below hb) (he.below hb), u, by rw [hM]; rfl, hB.trans (hb.mono hB.size), .inl ⟨by rw [hM], os, hA, hU.move (S := fun _ => False) (Chg.of_below hb) (fun q hq => hq.elim) (fun q hq z => ⟨z.1, by have := hb.size; omega⟩)⟩⟩
end Go.Proofs.YtgnpcenpcmdlfaaGreatDoor

/-
  impl.readPattern, impl.CheckRegex.
-/
namespace Go.Proofs.YtgnpcenpcmdlfaaGreatDoor
open Go.ChangeShapes Go.WideShapes Go.ChangeAt Go.RowKit Go.Deep
set_option linter.unusedVariables false
set_option linter.unusedSimpArgs false
set_option maxRecDepth 100000

set_option maxHeartbeats 4000000 in
theorem readPattern_core (p : ByteArray) (w : World) (hpm : p.size ≤ maxLen) : Calls Tryz.prog 132 #[.string p] w fun e w' => ReadPost p w e w' := by
  have hmf : ∀ (fn : Fn) (first cap : Array Value) (w : World), (Instr.makeFunc fn first cap).run Tryz.prog w = .ok (.func fn first cap) w := fun _ _ _ _ => rfl
  obtain ⟨W0, hW0⟩ : ∃ W0 : World, W0 = (w.alloc (Obj.cells #[.slice none 0 0] 171)).alloc (Obj.cells #[.int .i64 0, .int .i64 0] 125) := ⟨_, rfl⟩
  have HW0 : Hid (BoxAt W0 w.heap.size 171 1 w.heap.size [.slice none 0 0] ∧ BoxAt W0 w.heap.size 125 2 (w.heap.size + 1) [.int .i64 0, .int .i64 0] ∧ Below w.heap.size w W0 ∧ W0.heap.size = w.heap.size + 2) := by
    rw [hW0]
    refine ⟨BoxAt.ofHeap (vs := #[.slice none 0 0]) (heap_alloc2_old w _ _) (Nat.le_refl _) rfl, BoxAt.ofHeap (vs := #[.int .i64 0, .int .i64 0]) (heap_alloc2_new w _ _) (by omega) rfl, ((Below.refl _ _).alloc (Nat.le_refl _) _).alloc (by simp) _, by simp⟩
  unfold maxLen at hpm
  by_cases hp : 200 < p.size
  · have HM : Hid (checkM (sb p) = (1, 0)) := by
      show checkM (sb p) = _
      unfold checkM; rw [if_pos (by rw [sb_len]; exact hp)]
    have z : ¬ (p.size : Int) ≤ 200 := by omega
    have z2 : (200 : Int) < (p.size : Int) := by omega
    go_enter_defers Tryz.func132, Tryz.ntmps132
    go_upto_region 1 with fail
    rw [← hW0]
    clear hW0
    have r0 := HW0.out.1.cell (j := 0) rfl
    have rf := HW0.out.1.frozen 0
    have e0 := HW0.out.2.1.cell (j := 0) rfl
    have e1 := HW0.out.2.1.cell (j := 1) rfl
    have f0 := HW0.out.2.1.frozen 0
    have f1 := HW0.out.2.1.frozen 1
    obtain ⟨W1, hW1⟩ : ∃ W1 : World, W1 = ((W0.setCell ⟨w.heap.size, 0, none⟩ (.slice none 0 0)).setCell ⟨w.heap.size + 1, 0, none⟩ (.int .i64 1)).setCell ⟨w.heap.size + 1, 1, none⟩ (.int .i64 0) := ⟨_, rfl⟩
    have HW1 : Hid (BoxAt W1 w.heap.size 171 1 w.heap.size [.slice none 0 0] ∧ BoxAt W1 w.heap.size 125 2 (w.heap.size + 1) [.int .i64 1, .int .i64 0] ∧ Below w.heap.size w W1) := by
      rw [hW1]
      exact ⟨(((HW0.out.1.set 0 _).beside (by omega) 0 _).beside (by omega) 1 _), (((HW0.out.2.1.beside (by omega) 0 _).set 0 _).set 1 _), below_set (below_set (below_set HW0.out.2.2.1 (Nat.le_refl _) 0 _) (by omega) 0 _) (by omega) 1 _⟩
    go_wp2_with fail
    rw [← hW1]
    show Leaves Tryz.prog Tryz.f132 _ (fun e w' => ReadPost p w e w') [] .returning W1
    refine ⟨_, rp_res (a := { tmps := _, defers := [] }) rfl rfl rfl HW1.out.1 HW1.out.2.1, .slice none 0 0, by rw [HM.out]; rfl, HW1.out.2.2, .inr ⟨by rw [HM.out]; decide, rfl⟩⟩
  have hp2 : p.size ≤ 200 := by omega
  have HM : Hid (checkM (sb p) = chkM (sb p) 0 0 false) := by
    show checkM (sb p) = _
    unfold checkM; rw [if_neg (by rw [sb_len]; exact hp)]
  have z : (p.size : Int) ≤ 200 := by omega
  obtain ⟨W1, hW1⟩ : ∃ W1 : World, W1 = W0.alloc (Obj.cells #[.string p, .int .i64 0, .int .i64 0] 181) := ⟨_, rfl⟩
  have HW1 : Hid (BoxAt W1 w.heap.size 171 1 w.heap.size [.slice none 0 0] ∧ BoxAt W1 w.heap.size 125 2 (w.heap.size + 1) [.int .i64 0, .int .i64 0] ∧ PrAt W1 w.heap.size (w.heap.size + 2) p 0 0 ∧ Below w.heap.size w W1 ∧ W1.heap.size = w.heap.size + 3) := by
    have hb : Below W0.heap.size W0 W1 := by rw [hW1]; exact (Below.refl _ _).alloc (Nat.le_refl _) _
    have hz := HW0.out.2.2.2
    refine ⟨HW0.out.1.below hb, HW0.out.2.1.below hb, ?_, HW0.out.2.2.1.trans (hb.mono (by omega)), by rw [hW1]; simp; omega⟩
    rw [hW1, ← hz]
    exact boxAt_new W0 #[.string p, .int .i64 0, .int .i64 0] (by omega) rfl
  go_enter_defers Tryz.func132, Tryz.ntmps132
  go_upto_region 1 with fail
  rw [← hW0]
  have hz0 : W0.heap.size = w.heap.size + 2 := HW0.out.2.2.2
  clear hW0 HW0
  go_upto_region 5 with fail
  rw [← hW1]
  clear hW1 hz0
  go_wp2_with fail
  refine (alt_core hp2 w.heap.size (w.heap.size + 2) 0 0 W1 (Nat.zero_le _) (Nat.zero_le _) HW1.out.2.2.1).mono ?_
  rintro e w2 ⟨hC2, (⟨k, os, u, hA, hN, rfl, hU, hP2⟩ | ⟨c, k, hc, hk, rfl⟩)⟩
  case inr =>
    have hb2 : Below w.heap.size w w2 := Chg.below HW1.out.2.2.2.1 hC2 HW1.out.2.2.2.1.size (fun j q => by omega)
    exact rp_dies p w w2 _ c k w.heap.size (w.heap.size + 1) _ (Nat.le_refl _) (by omega) (by omega) rfl rfl rfl (by rw [HM.out, hk]) hc (HW1.out.1.chg hC2 (by omega)) (HW1.out.2.1.chg hC2 (by omega)) hb2
  obtain ⟨gu, nu, cu, rfl⟩ := hU.slice
  have hkp : k ≤ p.size := by have := hA.le; rw [sb_len] at this; exact this
  have HA : Hid (AltOk (sb p) 0 0 k os ∧ (∀ c, (sb p)[k]? = some c → isEnd c ∧ ¬ c = 124)) := ⟨hA, hN⟩
  have HW2 : Hid (BoxAt w2 w.heap.size 171 1 w.heap.size [.slice none 0 0] ∧ BoxAt w2 w.heap.size 125 2 (w.heap.size + 1) [.int .i64 0, .int .i64 0] ∧ PrAt w2 w.heap.size (w.heap.size + 2) p k 0 ∧ Below w.heap.size w w2 ∧ AltAt w2 (fun j => w.heap.size + 3 ≤ j) os (.slice (some ⟨gu, 0, none⟩) nu cu)) := by
    refine ⟨HW1.out.1.chg hC2 (by omega), HW1.out.2.1.chg hC2 (by omega), hP2, Chg.below HW1.out.2.2.2.1 hC2 HW1.out.2.2.2.1.size (fun j q => by omega), hU.move (S := fun _ => False) (Chg.refl _ _) (fun q hq => hq.elim) (fun q _ z => by have h1 := z.1; rw [HW1.out.2.2.2.2] at h1; exact h1)⟩
  clear hC2 hA hN hU hP2 HW1
  obtain ⟨W3, hW3⟩ : ∃ W3 : World, W3 = w2.setCell ⟨w.heap.size, 0, none⟩ (.slice (some ⟨gu, 0, none⟩) nu cu) := ⟨_, rfl⟩
  have HW3 : Hid (BoxAt W3 w.heap.size 171 1 w.heap.size [.slice (some ⟨gu, 0, none⟩) nu cu] ∧ BoxAt W3 w.heap.size 125 2 (w.heap.size + 1) [.int .i64 0, .int .i64 0] ∧ PrAt W3 w.heap.size (w.heap.size + 2) p k 0 ∧ Below w.heap.size w W3 ∧ AltAt W3 (fun j => w.heap.size + 3 ≤ j) os (.slice (some ⟨gu, 0, none⟩) nu cu)) := by
    have hc := Chg.of_set w2 w.heap.size 0 (.slice (some ⟨gu, 0, none⟩) nu cu) (S := fun j => j = w.heap.size) rfl
    rw [hW3]
    exact ⟨HW2.out.1.set 0 _, HW2.out.2.1.chg hc (by omega), BoxAt.chg HW2.out.2.2.1 hc (by omega), below_set HW2.out.2.2.2.1 (Nat.le_refl _) 0 _, HW2.out.2.2.2.2.move hc (fun q hq => by subst hq; exact fun z => by omega) (fun q _ z => z)⟩
  have r0 := HW2.out.1.cell (j := 0) rfl
  have rf := HW2.out.1.frozen 0
  clear HW2
  go_upto_region 6 with fail
  rw [← hW3]
  clear hW3 r0 rf
  have c1 := HW3.out.2.2.1.cell (j := 1) rfl
  by_cases hke : k = p.size
  · have zk : (k : Int) = (p.size : Int) := by omega
    have HOk : Hid (checkM (sb p) = (0, 0) ∧ AltOk (sb p) 0 0 p.size os) := by
      refine ⟨?_, by rw [← hke]; exact HA.out.1⟩
      rw [HM.out, HA.out.1.chk, chk_end (by rw [sb_len]; omega), if_neg (by omega)]
    clear HA hke
    go_wp2_with fail
    refine (pdem_core _ HW3.out.2.2.1).mono ?_
    rintro e w5 ⟨hw5, (⟨hc, rfl⟩ | ⟨hc, rfl⟩)⟩
    case inr => exfalso; (simp at hc) <;> omega
    rw [hw5]
    clear hw5 hc c1
    have r0 := HW3.out.1.cell (j := 0) rfl
    have rf := HW3.out.1.frozen 0
    have e0 := HW3.out.2.1.cell (j := 0) rfl
    have e1 := HW3.out.2.1.cell (j := 1) rfl
    have f0 := HW3.out.2.1.frozen 0
    have f1 := HW3.out.2.1.frozen 1
    obtain ⟨W6, hW6⟩ : ∃ W6 : World, W6 = ((W3.setCell ⟨w.heap.size, 0, none⟩ (.slice (some ⟨gu, 0, none⟩) nu cu)).setCell ⟨w.heap.size + 1, 0, none⟩ (.int .i64 0)).setCell ⟨w.heap.size + 1, 1, none⟩ (.int .i64 0) := ⟨_, rfl⟩
    have HW6 : Hid (BoxAt W6 w.heap.size 171 1 w.heap.size [.slice (some ⟨gu, 0, none⟩) nu cu] ∧ BoxAt W6 w.heap.size 125 2 (w.heap.size + 1) [.int .i64 0, .int .i64 0] ∧ Below w.heap.size w W6 ∧ AltAt W6 (Bet w.heap.size W6.heap.size) os (.slice (some ⟨gu, 0, none⟩) nu cu)) := by
      have c1 := Chg.of_set W3 w.heap.size 0 (.slice (some ⟨gu, 0, none⟩) nu cu) (S := fun j => j = w.heap.size ∨ j = w.heap.size + 1) (.inl rfl)
      have c2 := c1.trans (Chg.of_set _ (w.heap.size + 1) 0 (.int .i64 0) (S := fun j => j = w.heap.size ∨ j = w.heap.size + 1) (.inr rfl))
      have c3 := c2.trans (Chg.of_set _ (w.heap.size + 1) 1 (.int .i64 0) (S := fun j => j = w.heap.size ∨ j = w.heap.size + 1) (.inr rfl))
      rw [hW6]
      exact ⟨(((HW3.out.1.set 0 _).beside (by omega) 0 _).beside (by omega) 1 _), (((HW3.out.2.1.beside (by omega) 0 _).set 0 _).set 1 _), below_set (below_set (below_set HW3.out.2.2.2.1 (Nat.le_refl _) 0 _) (by omega) 0 _) (by omega) 1 _, HW3.out.2.2.2.2.move c3 (fun q hq => fun z => by omega) (fun q hq z => ⟨by omega, by have := c3.size; omega⟩)⟩
    go_wp2_with fail
    rw [← hW6]
    exact rp_done p w W6 _ w.heap.size (w.heap.size + 1) _ os rfl rfl rfl rfl HOk.out.1 HOk.out.2 HW6.out.2.2.2 HW6.out.1 HW6.out.2.1 HW6.out.2.2.1
  · have zk : ¬ (k : Int) = (p.size : Int) := by omega
    have HOk : Hid (checkM (sb p) = (2, k)) := by
      show checkM (sb p) = _
      obtain ⟨c, hc⟩ : ∃ c, (sb p)[k]? = some c := ⟨_, List.getElem?_eq_getElem (by rw [sb_len]; omega)⟩
      obtain ⟨h1, h2⟩ := HA.out.2 c hc
      rw [HM.out, HA.out.1.chk]
      rcases h1 with h1 | h1 | h1 | h1
      · rw [chk_op hc h1]; rfl
      · exact absurd h1 h2
      · subst h1; rw [chk_close hc, if_pos rfl]
      · subst h1; rw [chk_rb hc]
    clear HA hke
    go_wp2_with fail
    refine (pdem_core _ HW3.out.2.2.1).mono ?_
    rintro e w5 ⟨hw5, (⟨hc, rfl⟩ | ⟨hc, rfl⟩)⟩
    · exfalso; (simp at hc) <;> omega
    rw [hw5]
    exact rp_dies p w W3 _ 2 k w.heap.size (w.heap.size + 1) _ (Nat.le_refl _) (by omega) (by omega) rfl rfl rfl HOk.out (by decide) HW3.out.1 HW3.out.2.1 HW3.out.2.2.2.1

set_option maxHeartbeats 2000000 in
theorem implCheck_core (p : ByteArray) (w : World) (hpm : p.size ≤ maxLen) : Calls Tryz.prog 119 #[.string p] w fun e w' => e = .returned (.agg #[.int .i64 (checkM (sb p)).1, .int .i64 ((checkM (sb p)).2 : Int)]) ∧ Below w.heap.size w w' := by
  obtain ⟨W0, hW0⟩ : ∃ W0 : World, W0 = w.alloc (Obj.cells #[.int .i64 0, .int .i64 0] 125) := ⟨_, rfl⟩
  have HW0 : Hid (BoxAt W0 w.heap.size 125 2 w.heap.size [.int .i64 0, .int .i64 0] ∧ Below w.heap.size w W0) := by
    rw [hW0]; exact ⟨boxAt_new w _ (Nat.le_refl _) rfl, (Below.refl _ _).alloc (Nat.le_refl _) _⟩
  obtain ⟨c, hc⟩ : ∃ c, c = (checkM (sb p)).1 := ⟨_, rfl⟩
  obtain ⟨k, hk⟩ : ∃ k, k = (checkM (sb p)).2 := ⟨_, rfl⟩
  rw [← hc, ← hk]
  go_enter Tryz.func119, Tryz.ntmps119
  go_upto_region 1 with fail
  rw [← hW0]
  clear hW0
  go_wp2_with fail
  refine (readPattern_core p W0 hpm).mono ?_
  rintro e w1 ⟨u, rfl, hb1, hu⟩
  rw [← hc, ← hk]
  obtain ⟨ua, un, uc, rfl⟩ : ∃ a n cp, u = .slice a n cp := by
    rcases hu with ⟨_, os, _, hU⟩ | ⟨_, rfl⟩
    · obtain ⟨g, n, cp, rfl⟩ := hU.slice; exact ⟨_, _, _, rfl⟩
    · exact ⟨_, _, _, rfl⟩
  clear hu hc hk
  obtain ⟨W2, hW2⟩ : ∃ W2 : World, W2 = (w1.alloc (Obj.cells #[.slice ua un uc] 171)).alloc (Obj.cells #[.int .i64 c, .int .i64 (k : Int)] 125) := ⟨_, rfl⟩
  have HW2 : Hid (BoxAt W2 w.heap.size 125 2 w.heap.size [.int .i64 0, .int .i64 0] ∧ BoxAt W2 w.heap.size 125 2 (w1.heap.size + 1) [.int .i64 c, .int .i64 (k : Int)] ∧ Below w.heap.size w W2) := by
    have hb2 : Below w1.heap.size w1 W2 := by rw [hW2]; exact ((Below.refl _ _).alloc (Nat.le_refl _) _).alloc (by simp) _
    have h1 := HW0.out.2.size
    have h2 := hb1.size
    refine ⟨(HW0.out.1.below hb1).below hb2, ?_, (HW0.out.2.trans (hb1.mono h1)).trans (hb2.mono (by omega))⟩
    rw [hW2]
    exact BoxAt.ofHeap (vs := #[.int .i64 c, .int .i64 (k : Int)]) (heap_alloc2_new w1 _ _) (by omega) rfl
  clear hb1 HW0
  go_upto_region 2 with fail
  rw [← hW2]
  clear hW2
  have b0 := HW2.out.2.1.cell (j := 0) rfl
  have b1 := HW2.out.2.1.cell (j := 1) rfl
  have r0 := HW2.out.1.cell (j := 0) rfl
  have r1 := HW2.out.1.cell (j := 1) rfl
  have f0 := HW2.out.1.frozen 0
  have f1 := HW2.out.1.frozen 1
  have hbx := (HW2.out.1.set 0 (.int .i64 c)).set 1 (.int .i64 (k : Int))
  have p0 := hbx.cell (j := 0) rfl
  have p1 := hbx.cell (j := 1) rfl
  have HB3 : Hid (Below w.heap.size w ((W2.setCell ⟨w.heap.size, 0, none⟩ (.int .i64 c)).setCell ⟨w.heap.size, 1, none⟩ (.int .i64 (k : Int)))) := below_set (below_set HW2.out.2.2 (Nat.le_refl _) 0 _) (Nat.le_refl _) 1 _
  obtain ⟨W3, hW3⟩ : ∃ W3 : World, W3 = (W2.setCell ⟨w.heap.size, 0, none⟩ (.int .i64 c)).setCell ⟨w.heap.size, 1, none⟩ (.int .i64 (k : Int)) := ⟨_, rfl⟩
  rw [← hW3] at p0 p1 HB3
  clear hbx
  go_wp2_with fail
  rw [← hW3]
  refine bodyPost_ret (v := .agg #[.int .i64 c, .int .i64 (k : Int)]) (by simp [results, Tryz.results119, go_sem, p0, p1]) rfl ⟨rfl, HB3.out⟩
end Go.Proofs.YtgnpcenpcmdlfaaGreatDoor

/-
  Single nodes: impl.validNode, spec.l5GoodNode.
-/
namespace Go.Proofs.YtgnpcenpcmdlfaaGreatDoor
open Go.ChangeShapes Go.WideShapes Go.ChangeAt Go.RowKit Go.Deep
set_option linter.unusedVariables false
set_option linter.unusedSimpArgs false
set_option maxRecDepth 100000

abbrev less (a b : ByteArray) : Prop := Op.bytesLess a.toList b.toList = true
theorem ndEq_run (k : Int) (s : ByteArray) (h : Bool) (t : ByteArray) (l u n k' : Int) (s' : ByteArray) (h' : Bool) (t' : ByteArray) (l' u' n' : Int) (wx : World) :
    (binOp .eql 65 (.agg #[.int .i64 k, .string s, .bool h, .string t, .int .u64 l, .int .u64 u, .int .i64 n]) (.agg #[.int .i64 k', .string s', .bool h', .string t', .int .u64 l', .int .u64 u', .int .i64 n'])).run Tryz.prog wx = .ok (.bool (decide (k = k' ∧ s.toList = s'.toList ∧ h = h' ∧ t.toList = t'.toList ∧ l = l' ∧ u = u' ∧ n = n'))) wx := by
  go_simp
  repeat' split
  all_goals simp_all
set_option maxHeartbeats 1000000 in
theorem bareS_core (e : Nd) (w : World) : Calls Tryz.prog 77 #[e.v, .bool true, .bool false, .bool false, .bool false, .bool false] w fun r w' => ∃ b, r = .returned (.bool b) ∧ (b = true ↔ e.hi = false ∧ e.t.toList = [] ∧ e.lo = 0 ∧ e.up = 0 ∧ e.n = 0) ∧ Below w.heap.size w w' := by
  go_enter Tryz.func77, Tryz.ntmps77
  go_wp2_with fail
  all_goals go_ret
  all_goals exact ⟨_, rfl, by simp_all, (Below.refl _ _).alloc (Nat.le_refl _) _⟩
set_option maxHeartbeats 1000000 in
theorem bareST_core (e : Nd) (w : World) : Calls Tryz.prog 77 #[e.v, .bool true, .bool true, .bool true, .bool false, .bool false] w fun r w' => ∃ b, r = .returned (.bool b) ∧ (b = true ↔ e.lo = 0 ∧ e.up = 0 ∧ e.n = 0) ∧ Below w.heap.size w w' := by
  go_enter Tryz.func77, Tryz.ntmps77
  go_wp2_with fail
  all_goals go_ret
  all_goals exact ⟨_, rfl, by simp_all, (Below.refl _ _).alloc (Nat.le_refl _) _⟩
set_option maxHeartbeats 1000000 in
theorem bareN_core (e : Nd) (w : World) : Calls Tryz.prog 77 #[e.v, .bool false, .bool true, .bool false, .bool true, .bool false] w fun r w' => ∃ b, r = .returned (.bool b) ∧ (b = true ↔ e.s.toList = [] ∧ e.t.toList = [] ∧ e.n = 0) ∧ Below w.heap.size w w' := by
  go_enter Tryz.func77, Tryz.ntmps77
  go_wp2_with fail
  all_goals go_ret
  all_goals exact ⟨_, rfl, by simp_all, (Below.refl _ _).alloc (Nat.le_refl _) _⟩
set_option maxHeartbeats 1000000 in
theorem bareC_core (e : Nd) (w : World) : Calls Tryz.prog 77 #[e.v, .bool false, .bool false, .bool false, .bool false, .bool true] w fun r w' => ∃ b, r = .returned (.bool b) ∧ (b = true ↔ e.s.toList = [] ∧ e.hi = false ∧ e.t.toList = [] ∧ e.lo = 0 ∧ e.up = 0) ∧ Below w.heap.size w w' := by
  go_enter Tryz.func77, Tryz.ntmps77
  go_wp2_with fail
  all_goals go_ret
  all_goals exact ⟨_, rfl, by simp_all, (Below.refl _ _).alloc (Nat.le_refl _) _⟩
set_option maxHeartbeats 1000000 in
theorem bareZ_core (e : Nd) (w : World) : Calls Tryz.prog 77 #[e.v, .bool false, .bool false, .bool false, .bool false, .bool false] w fun r w' => ∃ b, r = .returned (.bool b) ∧ (b = true ↔ e.s.toList = [] ∧ e.hi = false ∧ e.t.toList = [] ∧ e.lo = 0 ∧ e.up = 0 ∧ e.n = 0) ∧ Below w.heap.size w w' := by
  go_enter Tryz.func77, Tryz.ntmps77
  go_wp2_with fail
  all_goals go_ret
  all_goals exact ⟨_, rfl, by simp_all, (Below.refl _ _).alloc (Nat.le_refl _) _⟩
set_option maxHeartbeats 1000000 in
theorem ends_core (e : Nd) (w : World) : Calls Tryz.prog 120 #[e.v] w fun r w' => ∃ b, r = .returned (.bool b) ∧ (b = true ↔ ((e.hi = false ∧ e.t.toList = [] ∧ e.up = 0) ∨ (e.hi = true ∧ (less e.s e.t ∨ e.lo < e.up)))) ∧ Below w.heap.size w w' := by
  go_enter Tryz.func120, Tryz.ntmps120
  go_wp2_with fail
  all_goals go_ret
  all_goals exact ⟨_, rfl, by simp_all [less], (Below.refl _ _).alloc (Nat.le_refl _) _⟩
/-- What makes a node valid. -/
def GoodN (e : Nd) : Prop := e.s.size ≤ 200 ∧ e.t.size ≤ 200 ∧ (e.hi = false → e.t.toList = [] ∧ e.up = 0) ∧
  (((e.kind = 4 ∨ e.kind = 5 ∨ e.kind = 6 ∨ e.kind = 7) ∧ (e.hi = false ∧ e.t.toList = [] ∧ e.lo = 0 ∧ e.up = 0 ∧ e.n = 0) ∧ (checkM (sb e.s)).1 = 0) ∨
   ((e.kind = 8 ∨ e.kind = 9) ∧ (e.lo = 0 ∧ e.up = 0 ∧ e.n = 0) ∧ (e.hi = true → less e.s e.t)) ∨
   (e.kind = 10 ∧ (e.s.toList = [] ∧ e.t.toList = [] ∧ e.n = 0) ∧ (e.hi = true → e.lo < e.up)) ∨
   ((e.kind = 11 ∨ e.kind = 12 ∨ e.kind = 13) ∧ (e.s.toList = [] ∧ e.hi = false ∧ e.t.toList = [] ∧ e.lo = 0 ∧ e.up = 0) ∧ 1 ≤ e.n ∧ e.n ≤ 1000) ∨
   ((e.kind = 1 ∨ e.kind = 2 ∨ e.kind = 3 ∨ e.kind = 14 ∨ e.kind = 15 ∨ e.kind = 16) ∧ (e.s.toList = [] ∧ e.hi = false ∧ e.t.toList = [] ∧ e.lo = 0 ∧ e.up = 0 ∧ e.n = 0)))
end Go.Proofs.YtgnpcenpcmdlfaaGreatDoor

/-
  Filters parsed, without memory: tokens; the reading by descent; the reading by a row of what waits; both answer the same.
-/
namespace Go.Proofs.YtgnpcenpcmdlfaaGreatDoor
set_option linter.unusedVariables false
set_option linter.unusedSimpArgs false

inductive TkK where
  | word (k : Int)
  | num (n : Int)
  | str (s : ByteArray)
  | sign (b : UInt8)
  | fin
  | bad
structure Tk where
  k : TkK
  pos : Nat
def TkK.isBad : TkK → Bool
  | .bad => true
  | _ => false
def TkK.isFin : TkK → Bool
  | .fin => true
  | _ => false
def TkK.isSign (b : UInt8) : TkK → Bool
  | .sign c => c == b
  | _ => false
def TkK.isSort (strs : Bool) : TkK → Bool
  | .str _ => strs
  | .num _ => !strs
  | _ => false
def noS : ByteArray := ⟨#[]⟩
def TkK.txt : TkK → ByteArray
  | .str s => s
  | _ => noS
def TkK.nm : TkK → Int
  | .num n => n
  | _ => 0
abbrev PE := Int × Nat
abbrev PR (α : Type) := Except PE α
structure Ps where
  ks : List Tk
  made : Nat
  out : List Nd
def hdK : List Tk → TkK
  | [] => .fin
  | k :: _ => k.k
def hdA : List Tk → Nat
  | [] => 0
  | k :: _ => k.pos
def takeF (ks : List Tk) : PR (List Tk) := if (hdK ks.tail).isBad = true then .error (2, hdA ks.tail) else .ok ks.tail
def expectF (b : UInt8) (ks : List Tk) : PR (List Tk) := if (hdK ks).isSign b = true then takeF ks else .error (3, hdA ks)
def leafN (k : Int) : Nd := ⟨k, noS, false, noS, 0, 0, 0⟩
def patN (k : Int) (s : ByteArray) : Nd := ⟨k, s, false, noS, 0, 0, 0⟩
def cntN (k : Int) (n : Int) : Nd := ⟨k, noS, false, noS, 0, 0, n⟩
def Ps.to (s : Ps) (r : PR (List Tk)) : PR Ps := match r with
  | .error e => .error e
  | .ok ks => .ok { s with ks := ks }
def Ps.add (s : Ps) (n : Nd) : Ps := { s with out := s.out ++ [n] }
def makerF (s : Ps) : PR Ps := if s.made < 200 then Ps.to { s with made := s.made + 1 } (takeF s.ks) else .error (5, hdA s.ks)
def enterF (d : Nat) (s : Ps) : PR Ps := if (hdK s.ks).isSign 40 = true then (if d = 0 then .error (4, hdA s.ks) else s.to (takeF s.ks)) else .error (3, hdA s.ks)
def leaveF (s : Ps) : PR Ps := s.to (expectF 41 s.ks)
def commaF (s : Ps) : PR Ps := s.to (expectF 44 s.ks)
/-- The upper end of a range. -/
def upF (k : Int) (strs : Bool) (a : TkK) (ks : List Tk) : PR (List Tk × Nd) :=
  if (hdK ks).isSort strs = true then
    (if less a.txt (hdK ks).txt ∨ a.nm < (hdK ks).nm then (match takeF ks with
      | .error e => .error e
      | .ok k2 => .ok (k2, ⟨k, a.txt, true, (hdK ks).txt, a.nm, (hdK ks).nm, 0⟩)) else .error (7, hdA ks))
  else .ok (ks, ⟨k, a.txt, false, noS, a.nm, 0, 0⟩)
def dotsF (k : Int) (strs : Bool) (a : TkK) (ks : List Tk) : PR (List Tk × Nd) := match expectF 46 ks with
  | .error e => .error e
  | .ok k2 => upF k strs a k2
def rangeF (k : Int) (strs : Bool) (ks : List Tk) : PR (List Tk × Nd) :=
  if (hdK ks).isSort strs = true then (match takeF ks with
    | .error e => .error e
    | .ok k2 => dotsF k strs (hdK ks) k2) else dotsF k strs .fin ks
def argsF (k : Int) (ks : List Tk) : PR (List Tk × Nd) :=
  if k ≤ 3 then .ok (ks, leafN k)
  else if k ≤ 7 then (match hdK ks with
    | .str s => if (checkM (sb s)).1 = 0 then (match takeF ks with
        | .error e => .error e
        | .ok k2 => .ok (k2, patN k s)) else .error (6, hdA ks)
    | _ => .error (3, hdA ks))
  else if k ≤ 9 then rangeF k true ks
  else if k ≤ 10 then rangeF k false ks
  else (match hdK ks with
    | .num n => if 1 ≤ n ∧ n ≤ 1000 then (match takeF ks with
        | .error e => .error e
        | .ok k2 => .ok (k2, cntN k n)) else .error (8, hdA ks)
    | _ => .error (3, hdA ks))
def argF (k : Int) (s : Ps) : PR Ps := match argsF k s.ks with
  | .error e => .error e
  | .ok (ks, n) => .ok { s with ks := ks, out := s.out ++ [n] }
def bindR {α β γ : Type} (A : α → PR β → Prop) (B : β → PR γ → Prop) (s : α) (r : PR γ) : Prop := (∃ e, A s (.error e) ∧ r = .error e) ∨ ∃ s1, A s (.ok s1) ∧ B s1 r
def fnR {α β : Type} (f : α → PR β) (s : α) (r : PR β) : Prop := r = f s
inductive LoopR (sg : UInt8) (kd : Int) (R : Ps → PR Ps → Prop) : Ps → PR Ps → Prop
  | stop {s : Ps} (h : (hdK s.ks).isSign sg = false) : LoopR sg kd R s (.ok s)
  | e1 {s : Ps} {e : PE} (h : (hdK s.ks).isSign sg = true) (h1 : makerF s = .error e) : LoopR sg kd R s (.error e)
  | e2 {s s1 : Ps} {e : PE} (h : (hdK s.ks).isSign sg = true) (h1 : makerF s = .ok s1) (h2 : R s1 (.error e)) : LoopR sg kd R s (.error e)
  | more {s s1 s2 : Ps} {r : PR Ps} (h : (hdK s.ks).isSign sg = true) (h1 : makerF s = .ok s1) (h2 : R s1 (.ok s2)) (h3 : LoopR sg kd R (s2.add (leafN kd)) r) : LoopR sg kd R s r
def JoinR (sg : UInt8) (kd : Int) (R : Ps → PR Ps → Prop) : Ps → PR Ps → Prop := bindR R (LoopR sg kd R)
/-- An if, from its bracket on. -/
def BranR (F : Ps → PR Ps → Prop) (d : Nat) : Ps → PR Ps → Prop :=
  bindR (fnR (enterF d)) (bindR F (bindR (fnR commaF) (bindR F (bindR (fnR commaF) (bindR F (fnR leaveF))))))
def PrimR (F : Ps → PR Ps → Prop) (d : Nat) (s : Ps) (r : PR Ps) : Prop :=
  ((hdK s.ks).isSign 40 = true ∧ bindR (fnR (enterF d)) (bindR F (fnR leaveF)) s r) ∨
  (hdK s.ks = .word 16 ∧ bindR (fnR makerF) (bindR (BranR F d) (fnR fun s => .ok (s.add (leafN 16)))) s r) ∨
  (∃ k, hdK s.ks = .word k ∧ ¬ k = 16 ∧ bindR (fnR makerF) (fnR (argF k)) s r) ∨
  ((hdK s.ks).isSign 40 = false ∧ (∀ k, ¬ hdK s.ks = .word k) ∧ r = .error (3, hdA s.ks))
def ChaR (F : Ps → PR Ps → Prop) (d : Nat) : Ps → PR Ps → Prop := JoinR 62 14 (PrimR F d)
def FilR : Nat → Ps → PR Ps → Prop
  | 0 => JoinR 124 15 (ChaR (fun _ _ => False) 0)
  | d + 1 => JoinR 124 15 (ChaR (FilR d) (d + 1))
def endF (s : Ps) : PR Ps := if (hdK s.ks).isFin = true then .ok s else .error (3, hdA s.ks)
/-- The reading of tokens. -/
def ParR (ks : List Tk) (r : PR Ps) : Prop := ((hdK ks).isBad = true ∧ r = .error (2, hdA ks)) ∨ ((hdK ks).isBad = false ∧ bindR (FilR 20) (fnR endF) ⟨ks, 0, []⟩ r)

/- The reading by a row of what waits. -/
structure Ms where
  ks : List Tk
  made : Nat
  out : List Nd
  st : List (Int × Nat)
  want : Bool
def failF {α : Type} (c : Int) (ks : List Tk) : PR α := .error (if (hdK ks).isBad = true then 2 else c, hdA ks)
def drainF (all : Bool) : List (Int × Nat) → List Nd → List (Int × Nat) × List Nd
  | [], out => ([], out)
  | (k, l) :: st, out => if k = 1 ∨ (all = true ∧ k = 2) then drainF all st (out ++ [leafN (if k = 2 then 15 else 14)]) else ((k, l) :: st, out)
def openF : List (Int × Nat) → Nat
  | [] => 0
  | (k, _) :: st => openF st + if 2 < k then 1 else 0
def upM (k : Int) (strs : Bool) (a : TkK) (ks : List Tk) : PR (List Tk × Nd) :=
  if (hdK ks).isSort strs = true then
    (if less a.txt (hdK ks).txt ∨ a.nm < (hdK ks).nm then .ok (ks.tail, ⟨k, a.txt, true, (hdK ks).txt, a.nm, (hdK ks).nm, 0⟩) else failF 7 ks)
  else .ok (ks, ⟨k, a.txt, false, noS, a.nm, 0, 0⟩)
def dotsM (k : Int) (strs : Bool) (a : TkK) (ks : List Tk) : PR (List Tk × Nd) := if (hdK ks).isSign 46 = true then upM k strs a ks.tail else failF 3 ks
def rangeM (k : Int) (strs : Bool) (ks : List Tk) : PR (List Tk × Nd) := if (hdK ks).isSort strs = true then dotsM k strs (hdK ks) ks.tail else dotsM k strs .fin ks
def argsM (k : Int) (ks : List Tk) : PR (List Tk × Nd) :=
  if k ≤ 3 then .ok (ks, leafN k)
  else if k ≤ 7 then (match hdK ks with
    | .str s => if (checkM (sb s)).1 = 0 then .ok (ks.tail, patN k s) else failF 6 ks
    | _ => failF 3 ks)
  else if k ≤ 9 then rangeM k true ks
  else if k ≤ 10 then rangeM k false ks
  else (match hdK ks with
    | .num n => if 1 ≤ n ∧ n ≤ 1000 then .ok (ks.tail, cntN k n) else failF 8 ks
    | _ => failF 3 ks)
abbrev Mr := Ms ⊕ PR (List Nd)
def stepIf (m : Ms) : Mr :=
  if m.made < 200 then
    (if (hdK m.ks.tail).isSign 40 = true then
      (if openF m.st = 20 then .inr (.error (4, hdA m.ks.tail)) else .inl { m with ks := m.ks.tail.tail, made := m.made + 1, st := (4, 2) :: m.st })
    else .inr (failF 3 m.ks.tail))
  else .inr (.error (5, hdA m.ks))
def stepLeaf (k : Int) (m : Ms) : Mr :=
  if m.made < 200 then (match argsM k m.ks.tail with
    | .error e => .inr (.error e)
    | .ok (ks, n) => .inl { m with ks := ks, made := m.made + 1, out := m.out ++ [n], want := false })
  else .inr (.error (5, hdA m.ks))
def stepWant (m : Ms) : Mr := match hdK m.ks with
  | .word k => if k = 16 then stepIf m else stepLeaf k m
  | t => if t.isSign 40 = true then (if openF m.st = 20 then .inr (.error (4, hdA m.ks)) else .inl { m with ks := m.ks.tail, st := (3, 0) :: m.st }) else .inr (.error (3, hdA m.ks))
def stepOp (all : Bool) (k : Int) (m : Ms) : Mr :=
  if m.made < 200 then .inl ⟨m.ks.tail, m.made + 1, (drainF all m.st m.out).2, (k, 0) :: (drainF all m.st m.out).1, true⟩ else .inr (.error (5, hdA m.ks))
def stepClose (m : Ms) (st : List (Int × Nat)) (out : List Nd) : Mr := match st with
  | [] => if (hdK m.ks).isFin = true then .inr (.ok out) else .inr (.error (3, hdA m.ks))
  | (k, l) :: st2 =>
    if k = 4 ∧ 0 < l ∧ (hdK m.ks).isSign 44 = true then .inl ⟨m.ks.tail, m.made, out, (k, l - 1) :: st2, true⟩
    else if l = 0 ∧ (hdK m.ks).isSign 41 = true then .inl ⟨m.ks.tail, m.made, if k = 4 then out ++ [leafN 16] else out, st2, false⟩
    else .inr (.error (3, hdA m.ks))
def mStep (m : Ms) : Mr :=
  if (hdK m.ks).isBad = true then .inr (.error (2, hdA m.ks))
  else if m.want = true then stepWant m
  else if (hdK m.ks).isSign 62 = true then stepOp false 1 m
  else if (hdK m.ks).isSign 124 = true then stepOp true 2 m
  else stepClose m (drainF true m.st m.out).1 (drainF true m.st m.out).2
inductive MEnds : Ms → PR (List Nd) → Prop
  | fin {m : Ms} {r : PR (List Nd)} (h : mStep m = .inr r) : MEnds m r
  | step {m m' : Ms} {r : PR (List Nd)} (h : mStep m = .inl m') (k : MEnds m' r) : MEnds m r
theorem MEnds.one {m : Ms} {r r' : PR (List Nd)} (h : MEnds m r) (k : MEnds m r') : r = r' := by
  induction h with
  | fin h => cases k with
    | fin k => exact Sum.inr.inj (h.symm.trans k)
    | step k _ => rw [h] at k; cases k
  | step h _ ih => cases k with
    | fin k => rw [h] at k; cases k
    | step k k2 => obtain rfl := Sum.inl.inj (h.symm.trans k); exact ih k2
theorem MEnds.bad {m : Ms} (h : (hdK m.ks).isBad = true) : MEnds m (.error (2, hdA m.ks)) := .fin (by unfold mStep; rw [if_pos h])
theorem TkK.isSign_eq {t : TkK} {b : UInt8} (h : t.isSign b = true) : t = .sign b := by
  cases t <;> simp [TkK.isSign] at h
  rw [h]
theorem drainF_cons (all : Bool) (k : Int) (l : Nat) (st : List (Int × Nat)) (out : List Nd) : drainF all ((k, l) :: st) out = if k = 1 ∨ (all = true ∧ k = 2) then drainF all st (out ++ [leafN (if k = 2 then 15 else 14)]) else ((k, l) :: st, out) := by conv => lhs; unfold drainF
theorem drain_false_true : ∀ (st : List (Int × Nat)) (out : List Nd), drainF true (drainF false st out).1 (drainF false st out).2 = drainF true st out
  | [], out => rfl
  | (k, l) :: st, out => by
    rw [drainF_cons false]
    by_cases h : k = 1
    · subst h; simp only [true_or, if_true]; rw [drain_false_true st, drainF_cons true]; simp only [true_or, if_true]
    · rw [if_neg (by simp [h])]
/-- What lies on top is no chain (and no inter). -/
def TopNo (all : Bool) : List (Int × Nat) → Prop
  | [] => True
  | (k, _) :: _ => ¬ (k = 1 ∨ (all = true ∧ k = 2))
theorem TopNo.drain {all : Bool} : ∀ {st : List (Int × Nat)} {out : List Nd}, TopNo all st → drainF all st out = (st, out)
  | [], out, _ => rfl
  | (k, l) :: st, out, h => by unfold drainF; rw [if_neg h]
abbrev mOf (s : Ps) (st : List (Int × Nat)) (out : List Nd) (want : Bool) : Ms := ⟨s.ks, s.made, out, st, want⟩
/-- The descent A, as the machine does it, over a row of what waits; 'all': what may be left waiting. -/
def Sim (lazy : Option Bool) (A : Ps → PR Ps → Prop) (st : List (Int × Nat)) (s : Ps) (m : Ms) : Prop := ∀ r, A s r → match r with
  | .error e => MEnds m (.error e)
  | .ok s1 => (hdK s1.ks).isBad = false ∧ (match lazy with
      | none => ∀ R, MEnds (mOf s1 st s1.out false) R → MEnds m R
      | some all => (hdK s1.ks).isSign 62 = false ∧ (all = true → (hdK s1.ks).isSign 124 = false) ∧ ∀ R, (∀ st2 out2, drainF all st2 out2 = (st, s1.out) → MEnds (mOf s1 st2 out2 false) R) → MEnds m R)
theorem take_cases (ks : List Tk) : ((hdK ks.tail).isBad = true ∧ takeF ks = .error (2, hdA ks.tail)) ∨ ((hdK ks.tail).isBad = false ∧ takeF ks = .ok ks.tail) := by
  unfold takeF
  cases h : (hdK ks.tail).isBad
  · exact .inr ⟨rfl, by simp⟩
  · exact .inl ⟨rfl, by simp⟩
theorem failF_ok {α : Type} {c : Int} {ks : List Tk} (h : (hdK ks).isBad = false) : (failF c ks : PR α) = .error (c, hdA ks) := by unfold failF; simp [h]
theorem failF_bad {α : Type} {c : Int} {ks : List Tk} (h : (hdK ks).isBad = true) : (failF c ks : PR α) = .error (2, hdA ks) := by unfold failF; simp [h]
theorem bad_sign {t : TkK} (h : t.isBad = true) (b : UInt8) : t.isSign b = false := by cases t <;> simp [TkK.isBad] at h; rfl
theorem bad_sort {t : TkK} (h : t.isBad = true) (b : Bool) : t.isSort b = false := by cases t <;> simp [TkK.isBad] at h; rfl
/-- The arguments of a leaf, read by either: the same, but that the machine sees a bad token when it comes to it. -/
def ArgSame (A : PR (List Tk × Nd)) (B : PR (List Tk × Nd)) : Prop := match A with
  | .error e => B = .error e ∨ ∃ ks n, B = .ok (ks, n) ∧ (hdK ks).isBad = true ∧ e = (2, hdA ks)
  | .ok (ks, n) => B = .ok (ks, n) ∧ (hdK ks).isBad = false
theorem argSame_take {ks : List Tk} {n : Nd} : ArgSame (match takeF ks with
    | .error e => .error e
    | .ok k2 => .ok (k2, n)) (.ok (ks.tail, n)) := by
  rcases take_cases ks with ⟨h, q⟩ | ⟨h, q⟩
  · rw [q]; exact .inr ⟨_, _, rfl, h, rfl⟩
  · rw [q]; exact ⟨rfl, h⟩
theorem argSame_fail {ks : List Tk} (h : (hdK ks).isBad = false) (c : Int) : ArgSame (.error (c, hdA ks)) (failF c ks) := .inl (failF_ok h)
theorem up_same (k : Int) (strs : Bool) (a : TkK) (ks : List Tk) (h : (hdK ks).isBad = false) : ArgSame (upF k strs a ks) (upM k strs a ks) := by
  unfold upF upM
  split
  · split
    · exact argSame_take
    · exact argSame_fail h 7
  · exact ⟨rfl, h⟩
theorem up_bad (k : Int) (strs : Bool) (a : TkK) (ks : List Tk) (h : (hdK ks).isBad = true) : ∃ n, upM k strs a ks = .ok (ks, n) := by
  unfold upM
  rw [if_neg (by rw [bad_sort h]; simp)]
  exact ⟨_, rfl⟩
theorem dots_same (k : Int) (strs : Bool) (a : TkK) (ks : List Tk) (h : (hdK ks).isBad = false) : ArgSame (dotsF k strs a ks) (dotsM k strs a ks) := by
  unfold dotsF dotsM expectF
  by_cases hs : (hdK ks).isSign 46 = true
  · rw [if_pos hs, if_pos hs]
    rcases take_cases ks with ⟨hb, q⟩ | ⟨hb, q⟩
    · rw [q]
      obtain ⟨n, hn⟩ := up_bad k strs a ks.tail hb
      exact .inr ⟨_, _, hn, hb, rfl⟩
    · rw [q]
      exact up_same k strs a _ hb
  · rw [if_neg hs, if_neg hs]
    exact argSame_fail h 3
theorem range_same (k : Int) (strs : Bool) (ks : List Tk) (h : (hdK ks).isBad = false) : ArgSame (rangeF k strs ks) (rangeM k strs ks) := by
  unfold rangeF rangeM
  by_cases hs : (hdK ks).isSort strs = true
  · rw [if_pos hs, if_pos hs]
    rcases take_cases ks with ⟨hb, q⟩ | ⟨hb, q⟩
    · rw [q]
      refine .inl ?_
      unfold dotsM
      rw [if_neg (by rw [bad_sign hb]; simp)]
      exact failF_bad hb
    · rw [q]
      exact dots_same k strs _ _ hb
  · rw [if_neg hs, if_neg hs]
    exact dots_same k strs _ _ h
theorem args_same (k : Int) (ks : List Tk) (h : (hdK ks).isBad = false) : ArgSame (argsF k ks) (argsM k ks) := by
  unfold argsF argsM
  split
  · exact ⟨rfl, h⟩
  · split
    · split
      · split
        · exact argSame_take
        · exact argSame_fail h 6
      · exact argSame_fail h 3
    · split
      · exact range_same k true ks h
      · split
        · exact range_same k false ks h
        · split
          · split
            · exact argSame_take
            · exact argSame_fail h 8
          · exact argSame_fail h 3
/-- At a bad token there is nothing behind a word that has arguments; one without is made, and the token is seen then. -/
theorem args_bad (k : Int) (ks : List Tk) (h : (hdK ks).isBad = true) : argsM k ks = .error (2, hdA ks) ∨ ∃ n, argsM k ks = .ok (ks, n) := by
  have hd : ∀ strs a, dotsM k strs a ks = .error (2, hdA ks) := fun strs a => by
    unfold dotsM
    rw [if_neg (by rw [bad_sign h]; simp)]
    exact failF_bad h
  have hr : ∀ strs, rangeM k strs ks = .error (2, hdA ks) := fun strs => by
    unfold rangeM
    rw [if_neg (by rw [bad_sort h]; simp)]
    exact hd _ _
  obtain ⟨t, ht⟩ : ∃ t, t = hdK ks := ⟨_, rfl⟩
  unfold argsM
  rw [← ht]
  split
  · exact .inr ⟨_, rfl⟩
  · split
    · split
      · rw [← ht] at h; cases h
      · exact .inl (failF_bad h)
    · split
      · exact .inl (hr _)
      · split
        · exact .inl (hr _)
        · split
          · rw [← ht] at h; cases h
          · exact .inl (failF_bad h)
theorem mStep_want {s : Ps} {st : List (Int × Nat)} {out : List Nd} (hb : (hdK s.ks).isBad = false) : mStep (mOf s st out Bool.true) = stepWant (mOf s st out Bool.true) := by
  unfold mStep
  rw [if_neg (by show ¬ (hdK s.ks).isBad = true; rw [hb]; simp), if_pos rfl]
theorem prim_sim {F : Ps → PR Ps → Prop} {d : Nat} {st : List (Int × Nat)} (ho : openF st + d = 20)
    (HF : 0 < d → ∀ k l s, 2 < k → (hdK s.ks).isBad = false → Sim (some true) F ((k, l) :: st) s (mOf s ((k, l) :: st) s.out true)) :
    ∀ s, (hdK s.ks).isBad = false → Sim none (PrimR F d) st s (mOf s st s.out true) := by
  have enter : ∀ (s : Ps) (k : Int) (l : Nat), 2 < k → (hdK s.ks).isBad = false → (hdK s.ks).isSign 40 = true → ¬ d = 0 → ∀ (B : Ps → PR Ps → Prop) (m : Ms) (r : PR Ps), (∀ R, MEnds ⟨s.ks.tail, s.made, s.out, (k, l) :: st, true⟩ R → MEnds m R) →
      bindR (fnR (enterF d)) (bindR F B) s r → (∀ s1, (hdK s1.ks).isBad = false → (hdK s1.ks).isSign 62 = false → (hdK s1.ks).isSign 124 = false → (∀ R, (∀ st2 out2, drainF true st2 out2 = ((k, l) :: st, s1.out) → MEnds (mOf s1 st2 out2 false) R) → MEnds m R) → B s1 r → (match r with
        | .error e => MEnds m (.error e)
        | .ok s2 => (hdK s2.ks).isBad = false ∧ ∀ R, MEnds (mOf s2 st s2.out false) R → MEnds m R)) → (match r with
        | .error e => MEnds m (.error e)
        | .ok s2 => (hdK s2.ks).isBad = false ∧ ∀ R, MEnds (mOf s2 st s2.out false) R → MEnds m R) := by
    intro s k l hk hb hs hd B m r hm hr hB
    rcases hr with ⟨e, h, rfl⟩ | ⟨s1, h, hr⟩
    · have h' : Except.error e = enterF d s := h
      unfold enterF at h'
      rw [if_pos hs, if_neg hd] at h'
      rcases take_cases s.ks with ⟨hb2, q⟩ | ⟨hb2, q⟩
      · rw [q] at h'
        cases h'
        exact hm _ (MEnds.bad hb2)
      · rw [q] at h'; cases h'
    · have h' : Except.ok s1 = enterF d s := h
      unfold enterF at h'
      rw [if_pos hs, if_neg hd] at h'
      rcases take_cases s.ks with ⟨hb2, q⟩ | ⟨hb2, q⟩
      · rw [q] at h'; cases h'
      · rw [q] at h'
        cases h'
        have hF := HF (by omega) k l { s with ks := s.ks.tail } hk hb2
        rcases hr with ⟨e, h, rfl⟩ | ⟨s1, h, hr⟩
        · exact hm _ (hF _ h)
        · obtain ⟨h1, h2, h3, h4⟩ := hF _ h
          exact hB s1 h1 h2 (h3 rfl) (fun R hR => hm _ (h4 R hR)) hr
  have dead : ∀ (s : Ps), (hdK s.ks).isSign 40 = true → d = 0 → enterF d s = .error (4, hdA s.ks) := fun s hs hd => by unfold enterF; rw [if_pos hs, if_pos hd]
  have hop : d = 0 → openF st = 20 := fun h => by omega
  have hon : ¬ d = 0 → ¬ openF st = 20 := fun h => by omega
  have close : ∀ (k : Int) (l : Nat) (s1 : Ps) (st2 : List (Int × Nat)) (out2 : List Nd), (hdK s1.ks).isBad = false → (hdK s1.ks).isSign 62 = false → (hdK s1.ks).isSign 124 = false → drainF true st2 out2 = ((k, l) :: st, s1.out) → mStep (mOf s1 st2 out2 false) = stepClose (mOf s1 st2 out2 false) ((k, l) :: st) s1.out := by
    intro k l s1 st2 out2 h1 h2 h3 hd
    unfold mStep
    rw [if_neg (by show ¬ (hdK s1.ks).isBad = true; rw [h1]; simp), if_neg (by simp), if_neg (by show ¬ (hdK s1.ks).isSign 62 = true; rw [h2]; simp), if_neg (by show ¬ (hdK s1.ks).isSign 124 = true; rw [h3]; simp)]
    show stepClose _ (drainF true st2 out2).1 (drainF true st2 out2).2 = _
    rw [hd]
  intro s hb r hr
  rcases hr with ⟨hs, hr⟩ | ⟨hw, hr⟩ | ⟨k, hw, hk, hr⟩ | ⟨hs, hw, rfl⟩
  · -- in brackets
    have hstep : mStep (mOf s st s.out true) = if openF st = 20 then .inr (.error (4, hdA s.ks)) else .inl ⟨s.ks.tail, s.made, s.out, (3, 0) :: st, true⟩ := by
      rw [mStep_want hb]
      unfold stepWant
      show (match hdK s.ks with
        | .word k => _
        | t => _) = _
      rw [TkK.isSign_eq hs]
      rfl
    by_cases hd : d = 0
    · rcases hr with ⟨e, h, rfl⟩ | ⟨s1, h, hr⟩
      · have h' : Except.error e = enterF d s := h
        rw [dead s hs hd] at h'
        cases h'
        exact .fin (by rw [hstep, if_pos (hop hd)])
      · have h' : Except.ok s1 = enterF d s := h
        rw [dead s hs hd] at h'
        cases h'
    · rw [if_neg (hon hd)] at hstep
      refine enter s 3 0 (by omega) hb hs hd _ _ r (fun R hR => .step hstep hR) hr ?_
      intro s1 h1 h2 h3 h4 hB
      have hB' : r = leaveF s1 := hB
      unfold leaveF expectF at hB'
      by_cases h41 : (hdK s1.ks).isSign 41 = true
      · rw [if_pos h41] at hB'
        have hc : ∀ st2 out2, drainF true st2 out2 = ((3, 0) :: st, s1.out) → mStep (mOf s1 st2 out2 false) = .inl ⟨s1.ks.tail, s1.made, s1.out, st, false⟩ := fun st2 out2 hq => by
          rw [close 3 0 s1 st2 out2 h1 h2 h3 hq]
          unfold stepClose
          simp [h41]
        rcases take_cases s1.ks with ⟨hb2, q⟩ | ⟨hb2, q⟩
        · rw [q] at hB'
          subst hB'
          exact h4 _ (fun st2 out2 hq => .step (hc st2 out2 hq) (MEnds.bad hb2))
        · rw [q] at hB'
          subst hB'
          exact ⟨hb2, fun R hR => h4 _ (fun st2 out2 hq => .step (hc st2 out2 hq) hR)⟩
      · rw [if_neg h41] at hB'
        subst hB'
        refine h4 _ (fun st2 out2 hq => .fin ?_)
        rw [close 3 0 s1 st2 out2 h1 h2 h3 hq]
        unfold stepClose
        simp [h41]
  · -- an if
    have hstep : mStep (mOf s st s.out true) = stepIf (mOf s st s.out true) := by
      rw [mStep_want hb]
      unfold stepWant
      show (match hdK s.ks with
        | .word k => _
        | t => _) = _
      rw [hw]
      rfl
    unfold stepIf at hstep
    by_cases hm : s.made < 200
    · rw [if_pos (show (mOf s st s.out true).made < 200 from hm)] at hstep
      have hmk : makerF s = Ps.to { s with made := s.made + 1 } (takeF s.ks) := by unfold makerF; rw [if_pos hm]
      rcases hr with ⟨e, h, rfl⟩ | ⟨s1, h, hr⟩
      · have h' : Except.error e = makerF s := h
        rw [hmk] at h'
        rcases take_cases s.ks with ⟨hb2, q⟩ | ⟨hb2, q⟩
        · rw [q] at h'
          cases h'
          refine .fin ?_
          rw [hstep, if_neg (by show ¬ (hdK s.ks.tail).isSign 40 = true; rw [bad_sign hb2]; simp)]
          show Sum.inr (failF 3 s.ks.tail) = _
          rw [failF_bad hb2]
        · rw [q] at h'; cases h'
      · have h' : Except.ok s1 = makerF s := h
        rw [hmk] at h'
        rcases take_cases s.ks with ⟨hb2, q⟩ | ⟨hb2, q⟩
        · rw [q] at h'; cases h'
        rw [q] at h'
        cases h'
        have hr2 : bindR (fnR (enterF d)) (bindR F (fun s r => bindR (bindR (fnR commaF) (bindR F (bindR (fnR commaF) (bindR F (fnR leaveF))))) (fnR fun s => .ok (s.add (leafN 16))) s r)) { ks := s.ks.tail, made := s.made + 1, out := s.out } r := by
          rcases hr with ⟨e, h, rfl⟩ | ⟨s1, h, hr⟩
          · rcases h with ⟨e, h, h2⟩ | ⟨s2, h, h2⟩
            · cases h2; exact .inl ⟨_, h, rfl⟩
            · rcases h2 with ⟨e, h2, h3⟩ | ⟨s3, h2, h3⟩
              · cases h3; exact .inr ⟨_, h, .inl ⟨_, h2, rfl⟩⟩
              · exact .inr ⟨_, h, .inr ⟨_, h2, .inl ⟨_, h3, rfl⟩⟩⟩
          · rcases h with ⟨e, h, h2⟩ | ⟨s2, h, h2⟩
            · cases h2
            · rcases h2 with ⟨e, h2, h3⟩ | ⟨s3, h2, h3⟩
              · cases h3
              · exact .inr ⟨_, h, .inr ⟨_, h2, .inr ⟨_, h3, hr⟩⟩⟩
        clear hr
        by_cases hs : (hdK s.ks.tail).isSign 40 = true
        · rw [if_pos (show (hdK (mOf s st s.out true).ks.tail).isSign 40 = true from hs)] at hstep
          by_cases hd : d = 0
          · rw [if_pos (show openF (mOf s st s.out true).st = 20 from hop hd)] at hstep
            rcases hr2 with ⟨e, h, rfl⟩ | ⟨s1, h, hr⟩
            · have h' : Except.error e = enterF d _ := h
              rw [dead _ hs hd] at h'
              cases h'
              exact .fin hstep
            · have h' : Except.ok s1 = enterF d _ := h
              rw [dead _ hs hd] at h'
              cases h'
          · rw [if_neg (show ¬ openF (mOf s st s.out true).st = 20 from hon hd)] at hstep
            refine enter { ks := s.ks.tail, made := s.made + 1, out := s.out } 4 2 (by omega) hb2 hs hd _ _ r (fun R hR => .step hstep hR) hr2 ?_
            -- behind the first filter: a comma, a filter, a comma, a filter, the end
            have comma : ∀ (l : Nat) (s1 : Ps) (m : Ms) (B : Ps → PR Ps → Prop) (r : PR Ps), (hdK s1.ks).isBad = false → (hdK s1.ks).isSign 62 = false → (hdK s1.ks).isSign 124 = false → (∀ R, (∀ st2 out2, drainF true st2 out2 = ((4, l + 1) :: st, s1.out) → MEnds (mOf s1 st2 out2 false) R) → MEnds m R) →
                bindR (fnR commaF) (bindR F B) s1 r → (∀ s2, (hdK s2.ks).isBad = false → (hdK s2.ks).isSign 62 = false → (hdK s2.ks).isSign 124 = false → (∀ R, (∀ st2 out2, drainF true st2 out2 = ((4, l) :: st, s2.out) → MEnds (mOf s2 st2 out2 false) R) → MEnds m R) → B s2 r → (match r with
                  | .error e => MEnds m (.error e)
                  | .ok s2 => (hdK s2.ks).isBad = false ∧ ∀ R, MEnds (mOf s2 st (s2.out ++ [leafN 16]) false) R → MEnds m R)) → (match r with
                  | .error e => MEnds m (.error e)
                  | .ok s2 => (hdK s2.ks).isBad = false ∧ ∀ R, MEnds (mOf s2 st (s2.out ++ [leafN 16]) false) R → MEnds m R) := by
              intro l s1 m B r h1 h2 h3 h4 hB hnext
              by_cases h44 : (hdK s1.ks).isSign 44 = true
              · have hc : ∀ st2 out2, drainF true st2 out2 = ((4, l + 1) :: st, s1.out) → mStep (mOf s1 st2 out2 false) = .inl ⟨s1.ks.tail, s1.made, s1.out, (4, l) :: st, true⟩ := fun st2 out2 hq => by
                  rw [close 4 (l + 1) s1 st2 out2 h1 h2 h3 hq]
                  unfold stepClose
                  simp [h44]
                have hcf : commaF s1 = s1.to (takeF s1.ks) := by unfold commaF expectF; rw [if_pos h44]
                rcases take_cases s1.ks with ⟨hb2, q⟩ | ⟨hb2, q⟩
                · rw [q] at hcf
                  rcases hB with ⟨e, h, rfl⟩ | ⟨s2, h, hB⟩
                  · have h' : Except.error e = commaF s1 := h
                    rw [hcf] at h'
                    cases h'
                    exact h4 _ (fun st2 out2 hq => .step (hc st2 out2 hq) (MEnds.bad hb2))
                  · have h' : Except.ok s2 = commaF s1 := h
                    rw [hcf] at h'
                    cases h'
                · rw [q] at hcf
                  rcases hB with ⟨e, h, rfl⟩ | ⟨s2, h, hB⟩
                  · have h' : Except.error e = commaF s1 := h
                    rw [hcf] at h'
                    cases h'
                  · have h' : Except.ok s2 = commaF s1 := h
                    rw [hcf] at h'
                    cases h'
                    have hF := HF (by omega) 4 l { s1 with ks := s1.ks.tail } (by omega) hb2
                    rcases hB with ⟨e, h, rfl⟩ | ⟨s3, h, hB⟩
                    · exact h4 _ (fun st2 out2 hq => .step (hc st2 out2 hq) (hF _ h))
                    · obtain ⟨g1, g2, g3, g4⟩ := hF _ h
                      exact hnext s3 g1 g2 (g3 rfl) (fun R hR => h4 _ (fun st2 out2 hq => .step (hc st2 out2 hq) (g4 R hR))) hB
              · have hcf : commaF s1 = .error (3, hdA s1.ks) := by unfold commaF expectF; rw [if_neg h44]; rfl
                rcases hB with ⟨e, h, rfl⟩ | ⟨s2, h, hB⟩
                · have h' : Except.error e = commaF s1 := h
                  rw [hcf] at h'
                  cases h'
                  refine h4 _ (fun st2 out2 hq => .fin ?_)
                  rw [close 4 (l + 1) s1 st2 out2 h1 h2 h3 hq]
                  unfold stepClose
                  simp [h44]
                · have h' : Except.ok s2 = commaF s1 := h
                  rw [hcf] at h'
                  cases h'
            intro s1 h1 h2 h3 h4 hB
            obtain ⟨r9, h9⟩ : ∃ r9 : PR Ps, bindR (fnR commaF) (bindR F (bindR (fnR commaF) (bindR F (fnR leaveF)))) s1 r9 ∧ r = (match r9 with
                | .error e => .error e
                | .ok s => .ok (s.add (leafN 16))) := by
              rcases hB with ⟨e, h, rfl⟩ | ⟨s2, h, hB⟩
              · exact ⟨_, h, rfl⟩
              · exact ⟨_, h, hB⟩
            have key := comma 1 s1 (mOf s st s.out true) _ r9 h1 h2 h3 h4 h9.1 (fun s2 g1 g2 g3 g4 hB2 => comma 0 s2 (mOf s st s.out true) _ r9 g1 g2 g3 g4 hB2 (fun s3 f1 f2 f3 f4 hB3 => by
              have hB' : r9 = leaveF s3 := hB3
              unfold leaveF expectF at hB'
              by_cases h41 : (hdK s3.ks).isSign 41 = true
              · rw [if_pos h41] at hB'
                have hn44 : (hdK s3.ks).isSign 44 = false := by rw [TkK.isSign_eq h41]; rfl
                have hc : ∀ st2 out2, drainF true st2 out2 = ((4, 0) :: st, s3.out) → mStep (mOf s3 st2 out2 false) = .inl ⟨s3.ks.tail, s3.made, s3.out ++ [leafN 16], st, false⟩ := fun st2 out2 hq => by
                  rw [close 4 0 s3 st2 out2 f1 f2 f3 hq]
                  unfold stepClose
                  simp [h41]
                rcases take_cases s3.ks with ⟨hb2, q⟩ | ⟨hb2, q⟩
                · rw [q] at hB'
                  subst hB'
                  exact f4 _ (fun st2 out2 hq => .step (hc st2 out2 hq) (MEnds.bad hb2))
                · rw [q] at hB'
                  subst hB'
                  exact ⟨hb2, fun R hR => f4 _ (fun st2 out2 hq => .step (hc st2 out2 hq) hR)⟩
              · rw [if_neg h41] at hB'
                subst hB'
                refine f4 _ (fun st2 out2 hq => .fin ?_)
                rw [close 4 0 s3 st2 out2 f1 f2 f3 hq]
                unfold stepClose
                simp [h41]))
            rw [h9.2]
            cases r9 with
            | error e => exact key
            | ok s9 => exact key
        · rw [if_neg (show ¬ (hdK (mOf s st s.out true).ks.tail).isSign 40 = true from hs)] at hstep
          have hde : enterF d { ks := s.ks.tail, made := s.made + 1, out := s.out } = .error (3, hdA s.ks.tail) := by unfold enterF; rw [if_neg hs]
          rcases hr2 with ⟨e, h, rfl⟩ | ⟨s1, h, hr⟩
          · have h' : Except.error e = enterF d _ := h
            rw [hde] at h'
            cases h'
            refine .fin ?_
            rw [hstep]
            show Sum.inr (failF 3 s.ks.tail) = _
            rw [failF_ok hb2]
          · have h' : Except.ok s1 = enterF d _ := h
            rw [hde] at h'
            cases h'
    · rw [if_neg (show ¬ (mOf s st s.out true).made < 200 from hm)] at hstep
      have hmk : makerF s = .error (5, hdA s.ks) := by unfold makerF; rw [if_neg hm]
      rcases hr with ⟨e, h, rfl⟩ | ⟨s1, h, hr⟩
      · have h' : Except.error e = makerF s := h
        rw [hmk] at h'
        cases h'
        exact .fin hstep
      · have h' : Except.ok s1 = makerF s := h
        rw [hmk] at h'
        cases h'
  · -- a leaf
    have hstep : mStep (mOf s st s.out true) = stepLeaf k (mOf s st s.out true) := by
      rw [mStep_want hb]
      unfold stepWant
      show (match hdK s.ks with
        | .word k => _
        | t => _) = _
      rw [hw]
      exact if_neg hk
    unfold stepLeaf at hstep
    by_cases hm : s.made < 200
    · rw [if_pos (show (mOf s st s.out true).made < 200 from hm)] at hstep
      have hmk : makerF s = Ps.to { s with made := s.made + 1 } (takeF s.ks) := by unfold makerF; rw [if_pos hm]
      rcases hr with ⟨e, h, rfl⟩ | ⟨s1, h, hr⟩
      · have h' : Except.error e = makerF s := h
        rw [hmk] at h'
        rcases take_cases s.ks with ⟨hb2, q⟩ | ⟨hb2, q⟩
        · rw [q] at h'
          cases h'
          rcases args_bad k s.ks.tail hb2 with q2 | ⟨n, q2⟩
          · refine .fin ?_
            rw [hstep]
            show (match argsM k s.ks.tail with
              | .error e => _
              | .ok (ks, n) => _) = _
            rw [q2]
          · refine .step (m' := ⟨s.ks.tail, s.made + 1, s.out ++ [n], st, false⟩) ?_ (MEnds.bad hb2)
            rw [hstep]
            show (match argsM k s.ks.tail with
              | .error e => _
              | .ok (ks, n) => _) = _
            rw [q2]
        · rw [q] at h'; cases h'
      · have h' : Except.ok s1 = makerF s := h
        rw [hmk] at h'
        rcases take_cases s.ks with ⟨hb2, q⟩ | ⟨hb2, q⟩
        · rw [q] at h'; cases h'
        rw [q] at h'
        cases h'
        have hr' : r = argF k { ks := s.ks.tail, made := s.made + 1, out := s.out } := hr
        have hA := args_same k s.ks.tail hb2
        unfold argF at hr'
        have hst : mStep (mOf s st s.out true) = (match argsM k s.ks.tail with
          | .error e => .inr (.error e)
          | .ok (ks, n) => .inl ⟨ks, s.made + 1, s.out ++ [n], st, false⟩) := hstep
        cases hq : argsF k s.ks.tail with
        | error e =>
          rw [hq] at hA
          have hr2 : r = .error e := by rw [hr']; show (match argsF k s.ks.tail with
            | .error e => _
            | .ok (ks, n) => _) = _
                                        rw [hq]
          subst hr2
          rcases hA with q2 | ⟨ks, n, q2, hbb, rfl⟩
          · exact .fin (by rw [hst, q2])
          · exact .step (m' := ⟨ks, s.made + 1, s.out ++ [n], st, false⟩) (by rw [hst, q2]) (MEnds.bad hbb)
        | ok p =>
          obtain ⟨ks, n⟩ := p
          rw [hq] at hA
          have hr2 : r = .ok ⟨ks, s.made + 1, s.out ++ [n]⟩ := by rw [hr']; show (match argsF k s.ks.tail with
            | .error e => _
            | .ok (ks, n) => _) = _
                                                                  rw [hq]
          subst hr2
          exact ⟨hA.2, fun R hR => .step (m' := ⟨ks, s.made + 1, s.out ++ [n], st, false⟩) (by rw [hst, hA.1]) hR⟩
    · rw [if_neg (show ¬ (mOf s st s.out true).made < 200 from hm)] at hstep
      have hmk : makerF s = .error (5, hdA s.ks) := by unfold makerF; rw [if_neg hm]
      rcases hr with ⟨e, h, rfl⟩ | ⟨s1, h, hr⟩
      · have h' : Except.error e = makerF s := h
        rw [hmk] at h'
        cases h'
        exact .fin hstep
      · have h' : Except.ok s1 = makerF s := h
        rw [hmk] at h'
        cases h'
  · -- nothing that begins one
    refine .fin ?_
    rw [mStep_want hb]
    unfold stepWant
    show (match hdK s.ks with
      | .word k => _
      | t => _) = _
    obtain ⟨t, ht⟩ : ∃ t, t = hdK s.ks := ⟨_, rfl⟩
    rw [← ht] at hs hw ⊢
    cases t with
    | word k => exact absurd rfl (hw k)
    | sign c => show (if (TkK.sign c).isSign 40 = true then _ else _) = _; rw [if_neg (by rw [hs]; simp)]
    | num n => rfl
    | str s => rfl
    | fin => rfl
    | bad => rfl
theorem mStep_op {s : Ps} {st2 : List (Int × Nat)} {out2 : List Nd} (hb : (hdK s.ks).isBad = false) : ((hdK s.ks).isSign 62 = true → mStep (mOf s st2 out2 Bool.false) = stepOp false 1 (mOf s st2 out2 Bool.false)) ∧ ((hdK s.ks).isSign 62 = false → (hdK s.ks).isSign 124 = true → mStep (mOf s st2 out2 Bool.false) = stepOp true 2 (mOf s st2 out2 Bool.false)) := by
  have h0 : ¬ (hdK (mOf s st2 out2 Bool.false).ks).isBad = true := by show ¬ (hdK s.ks).isBad = true; rw [hb]; simp
  constructor
  · intro h
    unfold mStep
    rw [if_neg h0, if_neg (by simp), if_pos h]
  · intro h h2
    unfold mStep
    rw [if_neg h0, if_neg (by simp), if_neg (by show ¬ (hdK s.ks).isSign 62 = true; rw [h]; simp), if_pos h2]
/-- A loop over operands, as the machine does it. -/
theorem loop_sim (all : Bool) (sg : UInt8) (kd pk : Int) (low : Ps → Prop) {R : Ps → PR Ps → Prop} {st : List (Int × Nat)}
    (hstep : ∀ s st2 out2, (hdK s.ks).isBad = false → low s → (hdK s.ks).isSign sg = true → drainF all st2 out2 = (st, s.out) → mStep (mOf s st2 out2 Bool.false) = if s.made < 200 then .inl ⟨s.ks.tail, s.made + 1, s.out, (pk, 0) :: st, true⟩ else .inr (.error (5, hdA s.ks)))
    (hadd : ∀ s n, low s → low (s.add n))
    (HOp : ∀ s, (hdK s.ks).isBad = false → ∀ r, R s r → match r with
      | .error e => MEnds (mOf s ((pk, 0) :: st) s.out Bool.true) (.error e)
      | .ok s2 => (hdK s2.ks).isBad = false ∧ low s2 ∧ ∀ Q, (∀ st2 out2, drainF all st2 out2 = (st, s2.out ++ [leafN kd]) → MEnds (mOf s2 st2 out2 Bool.false) Q) → MEnds (mOf s ((pk, 0) :: st) s.out Bool.true) Q) :
    ∀ s r, LoopR sg kd R s r → (hdK s.ks).isBad = false → low s → match r with
      | .error e => ∀ st2 out2, drainF all st2 out2 = (st, s.out) → MEnds (mOf s st2 out2 Bool.false) (.error e)
      | .ok s1 => (hdK s1.ks).isBad = false ∧ (hdK s1.ks).isSign sg = false ∧ low s1 ∧ ∀ Q, (∀ st2 out2, drainF all st2 out2 = (st, s1.out) → MEnds (mOf s1 st2 out2 Bool.false) Q) → ∀ st2 out2, drainF all st2 out2 = (st, s.out) → MEnds (mOf s st2 out2 Bool.false) Q := by
  intro s r h
  have mk : ∀ (s : Ps), makerF s = if s.made < 200 then (if (hdK s.ks.tail).isBad = true then .error (2, hdA s.ks.tail) else .ok ⟨s.ks.tail, s.made + 1, s.out⟩) else .error (5, hdA s.ks) := fun s => by
    unfold makerF takeF
    split
    · split <;> rfl
    · rfl
  induction h with
  | stop h => intro hb hl; exact ⟨hb, h, hl, fun Q hQ st2 out2 hd => hQ st2 out2 hd⟩
  | @e1 s e h h1 =>
    intro hb hl st2 out2 hd
    have hs := hstep s st2 out2 hb hl h hd
    rw [mk] at h1
    by_cases hm : s.made < 200
    · rw [if_pos hm] at hs h1
      by_cases hbb : (hdK s.ks.tail).isBad = true
      · rw [if_pos hbb] at h1
        cases h1
        exact .step hs (MEnds.bad hbb)
      · rw [if_neg hbb] at h1; cases h1
    · rw [if_neg hm] at hs h1
      cases h1
      exact .fin hs
  | @e2 s s1 e h h1 h2 =>
    intro hb hl st2 out2 hd
    have hs := hstep s st2 out2 hb hl h hd
    rw [mk] at h1
    by_cases hm : s.made < 200
    · rw [if_pos hm] at hs h1
      by_cases hbb : (hdK s.ks.tail).isBad = true
      · rw [if_pos hbb] at h1; cases h1
      · rw [if_neg hbb] at h1
        cases h1
        exact .step hs (HOp _ (by simpa using hbb) _ h2)
    · rw [if_neg hm] at h1; cases h1
  | @more s s1 s2 r h h1 h2 h3 ih =>
    intro hb hl
    rw [mk] at h1
    by_cases hm : s.made < 200
    · rw [if_pos hm] at h1
      by_cases hbb : (hdK s.ks.tail).isBad = true
      · rw [if_pos hbb] at h1; cases h1
      · rw [if_neg hbb] at h1
        cases h1
        obtain ⟨g1, g2, g3⟩ := HOp _ (by simpa using hbb) _ h2
        have hi := ih g1 (hadd _ _ g2)
        have hs := fun st2 out2 hd => hstep s st2 out2 hb hl h hd
        simp only [if_pos hm] at hs
        cases r with
        | error e => exact fun st2 out2 hd => .step (hs st2 out2 hd) (g3 _ (fun st3 out3 hd3 => hi st3 out3 hd3))
        | ok s9 => exact ⟨hi.1, hi.2.1, hi.2.2.1, fun Q hQ st2 out2 hd => .step (hs st2 out2 hd) (g3 _ (fun st3 out3 hd3 => hi.2.2.2 Q hQ st3 out3 hd3))⟩
    · rw [if_neg hm] at h1; cases h1
theorem cha_sim {F : Ps → PR Ps → Prop} {d : Nat} {st : List (Int × Nat)} (hT : TopNo false st)
    (HP : ∀ st', (st' = st ∨ st' = (1, 0) :: st) → ∀ s, (hdK s.ks).isBad = false → Sim none (PrimR F d) st' s (mOf s st' s.out Bool.true)) :
    ∀ s, (hdK s.ks).isBad = false → Sim (some false) (ChaR F d) st s (mOf s st s.out Bool.true) := by
  have hL := loop_sim false 62 14 1 (fun _ => True) (R := PrimR F d) (st := st) (fun s st2 out2 hb _ hsg hd => by
    rw [(mStep_op hb).1 hsg]
    unfold stepOp
    show (if s.made < 200 then _ else _) = _
    simp only [hd]) (fun _ _ _ => trivial) (fun s hb r hr => by
      have h9 := HP _ (.inr rfl) s hb r hr
      cases r with
      | error e => exact h9
      | ok s2 => exact ⟨h9.1, trivial, fun Q hQ => h9.2 Q (hQ _ _ (by rw [drainF_cons, if_pos (.inl rfl)]; simp only [show ¬ ((1 : Int) = 2) by omega, if_false]; exact hT.drain))⟩)
  intro s hb r hr
  have hP := HP st (.inl rfl) s hb
  rcases hr with ⟨e, h, rfl⟩ | ⟨s1, h, hr⟩
  · exact hP _ h
  · obtain ⟨h1, h2⟩ := hP _ h
    have h9 := hL s1 r hr h1 trivial
    cases r with
    | error e => exact h2 _ (h9 st s1.out hT.drain)
    | ok s2 => exact ⟨h9.1, h9.2.1, fun q => (by cases q), fun Q hQ => h2 _ (h9.2.2.2 Q hQ st s1.out hT.drain)⟩
theorem TopNo.weak {st : List (Int × Nat)} (h : TopNo true st) : TopNo false st := by
  cases st with
  | nil => trivial
  | cons x st => obtain ⟨k, l⟩ := x; exact fun q => h (q.elim .inl (fun z => by cases z.1))
theorem join_sim {F : Ps → PR Ps → Prop} {d : Nat} {st : List (Int × Nat)} (hT : TopNo true st)
    (HP : ∀ st', openF st' = openF st → ∀ s, (hdK s.ks).isBad = false → Sim none (PrimR F d) st' s (mOf s st' s.out Bool.true)) :
    ∀ s, (hdK s.ks).isBad = false → Sim (some true) (JoinR 124 15 (ChaR F d)) st s (mOf s st s.out Bool.true) := by
  have o1 : openF ((1, 0) :: st) = openF st := by simp [openF]
  have o2 : openF ((2, 0) :: st) = openF st := by simp [openF]
  have o3 : openF ((1, 0) :: (2, 0) :: st) = openF st := by simp [openF]
  have hC1 := cha_sim hT.weak (fun st' q => HP st' (by rcases q with rfl | rfl <;> first | rfl | exact o1))
  have hC2 := cha_sim (st := (2, 0) :: st) (F := F) (d := d) (by intro q; rcases q with q | q <;> simp at q) (fun st' q => HP st' (by rcases q with rfl | rfl <;> first | exact o2 | exact o3))
  have hL := loop_sim true 124 15 2 (fun s => (hdK s.ks).isSign 62 = false) (R := ChaR F d) (st := st) (fun s st2 out2 hb hl hsg hd => by
    rw [(mStep_op hb).2 hl hsg]
    unfold stepOp
    show (if s.made < 200 then _ else _) = _
    simp only [hd]) (fun _ _ h => h) (fun s hb r hr => by
      have h9 := hC2 s hb r hr
      cases r with
      | error e => exact h9
      | ok s2 => exact ⟨h9.1, h9.2.1, fun Q hQ => h9.2.2.2 Q (fun st2 out2 hd => hQ _ _ (by
          rw [← drain_false_true, hd]
          show drainF true ((2, 0) :: st) s2.out = _
          rw [drainF_cons, if_pos (.inr ⟨rfl, rfl⟩)]
          simp only [if_true]
          exact hT.drain))⟩)
  intro s hb r hr
  have hP := hC1 s hb
  rcases hr with ⟨e, h, rfl⟩ | ⟨s1, h, hr⟩
  · exact hP _ h
  · obtain ⟨h1, h2, _, h3⟩ := hP _ h
    have h9 := hL s1 r hr h1 h2
    have hdr : ∀ st2 out2, drainF false st2 out2 = (st, s1.out) → drainF true st2 out2 = (st, s1.out) := fun st2 out2 hd => by
      rw [← drain_false_true, hd]
      exact hT.drain
    cases r with
    | error e => exact h3 _ (fun st2 out2 hd => h9 st2 out2 (hdr _ _ hd))
    | ok s2 => exact ⟨h9.1, h9.2.2.1, fun _ => h9.2.1, fun Q hQ => h3 _ (fun st2 out2 hd => h9.2.2.2 Q hQ st2 out2 (hdr _ _ hd))⟩
theorem fil_sim : ∀ (d : Nat) (st : List (Int × Nat)), openF st + d = 20 → TopNo true st → ∀ s, (hdK s.ks).isBad = false → Sim (some true) (FilR d) st s (mOf s st s.out Bool.true)
  | 0, st, ho, hT => join_sim hT (fun st' ho' => prim_sim (by omega) (fun q => by omega))
  | d + 1, st, ho, hT => join_sim hT (fun st' ho' => prim_sim (by omega) (fun _ k l s hk hb => fil_sim d ((k, l) :: st') (by
      have : openF ((k, l) :: st') = openF st' + 1 := by simp [openF, hk]
      omega) (by intro q; rcases q with q | q <;> omega) s hb))
/-- Both readings answer the same. -/
def outOf (r : PR Ps) : PR (List Nd) := match r with
  | .error e => .error e
  | .ok s => .ok s.out
theorem par_same {ks : List Tk} {r : PR Ps} (h : ParR ks r) : MEnds ⟨ks, 0, [], [], true⟩ (outOf r) := by
  rcases h with ⟨hb, rfl⟩ | ⟨hb, h⟩
  · exact MEnds.bad hb
  · have hF := fil_sim 20 [] rfl trivial ⟨ks, 0, []⟩ hb
    rcases h with ⟨e, h, rfl⟩ | ⟨s1, h, h2⟩
    · exact hF _ h
    · obtain ⟨h1, h3, h4, h5⟩ := hF _ h
      have h2' : r = endF s1 := h2
      subst h2'
      refine h5 _ (fun st2 out2 hd => .fin ?_)
      unfold mStep
      rw [if_neg (by show ¬ (hdK s1.ks).isBad = true; rw [h1]; simp), if_neg (by simp), if_neg (by show ¬ (hdK s1.ks).isSign 62 = true; rw [h3]; simp), if_neg (by show ¬ (hdK s1.ks).isSign 124 = true; rw [h4 rfl]; simp)]
      show stepClose _ (drainF true st2 out2).1 (drainF true st2 out2).2 = _
      rw [hd]
      show (if (hdK s1.ks).isFin = true then _ else _) = _
      unfold endF
      split <;> rfl
end Go.Proofs.YtgnpcenpcmdlfaaGreatDoor

