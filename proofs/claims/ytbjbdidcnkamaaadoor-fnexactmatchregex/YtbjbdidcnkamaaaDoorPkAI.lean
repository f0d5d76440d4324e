import Derived.Recover
import Derived.RecoverIn
import Derived.Stop.Asserts
import Derived.Maps.AppendAt
import Derived.Lib.ConvBytes
import Derived.Test.YtbjbdidcnkamaaaDoorPkAH
import Derived.Test.YtbjbdidcnkamaaaDoorPkAE
import Derived.Test.YtbjbdidcnkamaaaDoorPkAA
/-
  impl.placedFaultOf, impl.readPattern.
-/
namespace Go.Proofs.YtbjbdidcnkamaaaDoor
open Go.ChangeShapes Go.WideShapes Go.ChangeAt Go.RowKit Go.Deep
set_option linter.unusedVariables false
set_option linter.unusedSimpArgs false
set_option maxRecDepth 100000

theorem pf_assert (c a : Int) (w : World) : (Instr.typeAssert (pfV c a) 20 45 true).run Tryd.prog w = .ok (.tuple #[.agg #[.int .i64 c, .int .i64 a], .bool true]) w := by kernel_rfl
set_option maxHeartbeats 2000000 in
theorem pfOf_nil (w : World) : Calls Tryd.prog 18 #[.nilIface] w fun e w' => e = .returned (.agg #[.int .i64 0, .int .i64 0]) ∧ Below w.heap.size w w' := by
  go_enter Tryd.func18, Tryd.ntmps18
  go_wp2_with fail
  refine bodyPost_ret (v := .agg #[.int .i64 0, .int .i64 0]) (by simp [results, Tryd.results18, go_sem]) rfl ⟨rfl, ?_⟩
  exact (Below.refl _ _).alloc (Nat.le_refl _) _
set_option maxHeartbeats 2000000 in
theorem pfOf_pf (c a : Int) (w : World) : Calls Tryd.prog 18 #[pfV c a] w fun e w' => e = .returned (.agg #[.int .i64 c, .int .i64 a]) ∧ Below w.heap.size w w' := by
  have hta := pf_assert
  obtain ⟨W, hW⟩ : ∃ W : World, W = w.alloc (Obj.cells #[.int .i64 0, .int .i64 0] 45) := ⟨_, rfl⟩
  have HW : Hid (BoxAt W w.heap.size 45 2 w.heap.size [.int .i64 0, .int .i64 0] ∧ Below w.heap.size w W) := by
    rw [hW]; exact ⟨boxAt_new w _ (Nat.le_refl _) rfl, (Below.refl _ _).alloc (Nat.le_refl _) _⟩
  obtain ⟨W2, hW2⟩ : ∃ W2 : World, W2 = W.alloc (Obj.cells #[.int .i64 c, .int .i64 a] 45) := ⟨_, rfl⟩
  have HW2 : Hid (BoxAt W2 w.heap.size 45 2 w.heap.size [.int .i64 0, .int .i64 0] ∧ BoxAt W2 w.heap.size 45 2 W.heap.size [.int .i64 c, .int .i64 a] ∧ Below w.heap.size w W2) := by
    have hb : Below W.heap.size W W2 := by rw [hW2]; exact (Below.refl _ _).alloc (Nat.le_refl _) _
    refine ⟨HW.out.1.below hb, ?_, HW.out.2.trans (hb.mono HW.out.2.size)⟩
    rw [hW2]; exact boxAt_new W _ HW.out.2.size rfl
  go_enter Tryd.func18, Tryd.ntmps18
  go_upto_region 1 with fail
  rw [← hW]
  clear hW
  go_upto_region 7 with fail
  rw [← hW2]
  clear hW2 hta
  have b0 := HW2.out.2.1.cell (j := 0) rfl
  have b1 := HW2.out.2.1.cell (j := 1) rfl
  have r0 := HW2.out.1.cell (j := 0) rfl
  have r1 := HW2.out.1.cell (j := 1) rfl
  have f0 := HW2.out.1.frozen 0
  have f1 := HW2.out.1.frozen 1
  have hbx := (HW2.out.1.set 0 (.int .i64 c)).set 1 (.int .i64 a)
  have p0 := hbx.cell (j := 0) rfl
  have p1 := hbx.cell (j := 1) rfl
  obtain ⟨W3, hW3⟩ : ∃ W3 : World, W3 = (W2.setCell ⟨w.heap.size, 0, none⟩ (.int .i64 c)).setCell ⟨w.heap.size, 1, none⟩ (.int .i64 a) := ⟨_, rfl⟩
  rw [← hW3] at p0 p1
  have HB3 : Hid (Below w.heap.size w W3) := by
    show Below w.heap.size w W3
    rw [hW3]; exact below_set (below_set HW2.out.2.2 (Nat.le_refl _) 0 _) (Nat.le_refl _) 1 _
  clear hbx
  go_wp2_with fail
  rw [← hW3]
  refine bodyPost_ret (v := .agg #[.int .i64 c, .int .i64 a]) (by simp [results, Tryd.results18, go_sem, p0, p1]) rfl ⟨rfl, HB3.out⟩

set_option maxHeartbeats 4000000 in
theorem rp_catch (base rb eb : Nat) (c a : Int) (older : List PanicEntry) (w : World) (hc : ¬ c = 0) (x : Value) (hr : BoxAt w base 31 1 rb [x]) (he : BoxAt w base 24 2 eb [.int .i64 0, .int .i64 0]) (hne : ¬ rb = eb) :
    CallsD Tryd.prog 17 #[.pointer (some ⟨rb, 0, none⟩), .pointer (some ⟨eb, 0, none⟩)] (.panicking ({ v := pfV c a, recovered := false } :: older)) w fun e u' w' =>
      e = .returned (.tuple #[]) ∧ u' = .panicking ({ v := pfV c a, recovered := true } :: older) ∧ BoxAt w' base 31 1 rb [.slice none 0 0] ∧ BoxAt w' base 24 2 eb [.int .i64 c, .int .i64 a] ∧ Chg (fun k => k = rb ∨ k = eb) w w' := by
  refine callsD_of_wpS Tryd.func17 rfl fun c₀ cs hu => ?_
  apply wpS_seq
  apply wpS_region
  simp [wpOpsS, go_sem, recoverD, hu, Tryd.ntmps17, Exit.thenS]
  refine (pfOf_pf c a w).mono ?_
  rintro e w1 ⟨rfl, hb1⟩
  simp [wpOpsS, go_sem]
  have ht : #[Value.pointer (some ⟨rb, 0, none⟩), Value.pointer (some ⟨eb, 0, none⟩)] ++ (((Array.replicate 12 undef).setIfInBounds 1 (pfV c a)).setIfInBounds 2 (Value.agg #[Value.int IntKind.i64 c, Value.int IntKind.i64 a])).setIfInBounds 0 (Value.pointer (some ⟨w1.heap.size, 0, none⟩)) = #[.pointer (some ⟨rb, 0, none⟩), .pointer (some ⟨eb, 0, none⟩), .pointer (some ⟨w1.heap.size, 0, none⟩), pfV c a, .agg #[.int .i64 c, .int .i64 a], undef, undef, undef, undef, undef, undef, undef, undef, undef] := by rfl
  rw [ht]
  clear ht
  obtain ⟨W2, hW2⟩ : ∃ W2 : World, W2 = w1.alloc (Obj.cells #[.int .i64 c, .int .i64 a] 45) := ⟨_, rfl⟩
  have hb2 : Below w1.heap.size w1 W2 := by rw [hW2]; exact (Below.refl _ _).alloc (Nat.le_refl _) _
  have HB : Hid (BoxAt W2 base 31 1 rb [x] ∧ BoxAt W2 base 24 2 eb [.int .i64 0, .int .i64 0] ∧ Chg (fun k => k = rb ∨ k = eb) w W2) :=
    ⟨(hr.below hb1).below hb2, (he.below hb1).below hb2, (Chg.of_below hb1).trans (Chg.of_below hb2)⟩
  have d0 : W2.cell? ⟨w1.heap.size, 0, none⟩ = some (.int .i64 c) := by rw [hW2]; simp
  have d1 : W2.cell? ⟨w1.heap.size, 1, none⟩ = some (.int .i64 a) := by rw [hW2]; simp
  have hrl := (hr.below hb1).lt.2
  have hel := (he.below hb1).lt.2
  obtain ⟨FB, hFB⟩ : ∃ FB, FB = w1.heap.size := ⟨_, rfl⟩
  rw [← hW2]
  rw [← hFB] at d0 d1 ⊢
  have n1 : ¬ FB = rb := by omega
  have n2 : ¬ FB = eb := by omega
  clear hW2 hFB hb1 hb2 hr he hrl hel
  have r0 := HB.out.1.cell (j := 0) rfl
  have rf := HB.out.1.frozen 0
  have e0 := HB.out.2.1.cell (j := 0) rfl
  have e1 := HB.out.2.1.cell (j := 1) rfl
  have f0 := HB.out.2.1.frozen 0
  have f1 := HB.out.2.1.frozen 1
  have n3 : ¬ eb = rb := fun q => hne q.symm
  have HF : ∀ w' : World, Below W2.heap.size W2 w' → BoxAt (((w'.setCell ⟨rb, 0, none⟩ (.slice none 0 0)).setCell ⟨eb, 0, none⟩ (.int .i64 c)).setCell ⟨eb, 1, none⟩ (.int .i64 a)) base 31 1 rb [.slice none 0 0] ∧ BoxAt (((w'.setCell ⟨rb, 0, none⟩ (.slice none 0 0)).setCell ⟨eb, 0, none⟩ (.int .i64 c)).setCell ⟨eb, 1, none⟩ (.int .i64 a)) base 24 2 eb [.int .i64 c, .int .i64 a] ∧ Chg (fun k => k = rb ∨ k = eb) w (((w'.setCell ⟨rb, 0, none⟩ (.slice none 0 0)).setCell ⟨eb, 0, none⟩ (.int .i64 c)).setCell ⟨eb, 1, none⟩ (.int .i64 a)) := fun w' hb => by
    refine ⟨((((HB.out.1.below hb).set 0 _).beside hne 0 _).beside hne 1 _), ((((HB.out.2.1.below hb).beside n3 0 _).set 0 _).set 1 _), ((((HB.out.2.2.trans (Chg.of_below hb)).trans (Chg.of_set _ rb 0 _ (.inl rfl))).trans (Chg.of_set _ eb 0 _ (.inr rfl))).trans (Chg.of_set _ eb 1 _ (.inr rfl)))⟩
  have HFF : Hid (∀ w' : World, Below W2.heap.size W2 w' → BoxAt (((w'.setCell ⟨rb, 0, none⟩ (.slice none 0 0)).setCell ⟨eb, 0, none⟩ (.int .i64 c)).setCell ⟨eb, 1, none⟩ (.int .i64 a)) base 31 1 rb [.slice none 0 0] ∧ BoxAt (((w'.setCell ⟨rb, 0, none⟩ (.slice none 0 0)).setCell ⟨eb, 0, none⟩ (.int .i64 c)).setCell ⟨eb, 1, none⟩ (.int .i64 a)) base 24 2 eb [.int .i64 c, .int .i64 a] ∧ Chg (fun k => k = rb ∨ k = eb) w (((w'.setCell ⟨rb, 0, none⟩ (.slice none 0 0)).setCell ⟨eb, 0, none⟩ (.int .i64 c)).setCell ⟨eb, 1, none⟩ (.int .i64 a))) := HF
  clear HF
  refine wpS_of_wp ?_
  go_upto_region 2 with fail
  go_region
  all_goals go_wp2_with fail
  have hfin := HFF.out W2 (Below.refl _ _)
  have hdr : ∀ X : World, Below X.heap.size X X.drew := fun X => (Below.refl _ _).drew
  exact ⟨rfl, _, rfl, _, by simp [results, Tryd.results17], rfl, rfl, hfin.1.below (hdr _), hfin.2.1.below (hdr _), hfin.2.2.trans (Chg.of_below (hdr _))⟩

set_option maxHeartbeats 4000000 in
theorem rp_idle (rb eb : Nat) (w : World) :
    CallsD Tryd.prog 17 #[.pointer (some ⟨rb, 0, none⟩), .pointer (some ⟨eb, 0, none⟩)] .returning w fun e u' w' => e = .returned (.tuple #[]) ∧ u' = .returning ∧ Below w.heap.size w w' := by
  refine callsD_of_wpS Tryd.func17 rfl fun c₀ cs hu => ?_
  apply wpS_seq
  apply wpS_region
  simp [wpOpsS, go_sem, recoverD, hu, Tryd.ntmps17, Exit.thenS]
  refine (pfOf_nil w).mono ?_
  rintro e w1 ⟨rfl, hb1⟩
  simp [wpOpsS, go_sem]
  have ht : #[Value.pointer (some ⟨rb, 0, none⟩), Value.pointer (some ⟨eb, 0, none⟩)] ++ (((Array.replicate 12 undef).setIfInBounds 1 .nilIface).setIfInBounds 2 (Value.agg #[Value.int IntKind.i64 0, Value.int IntKind.i64 0])).setIfInBounds 0 (Value.pointer (some ⟨w1.heap.size, 0, none⟩)) = #[.pointer (some ⟨rb, 0, none⟩), .pointer (some ⟨eb, 0, none⟩), .pointer (some ⟨w1.heap.size, 0, none⟩), .nilIface, .agg #[.int .i64 0, .int .i64 0], undef, undef, undef, undef, undef, undef, undef, undef, undef] := by rfl
  rw [ht]
  clear ht
  have HB : Hid (Below w.heap.size w (w1.alloc (Obj.cells #[.int .i64 0, .int .i64 0] 45))) := hb1.trans ((Below.refl _ _).alloc hb1.size _)
  clear hb1
  refine wpS_of_wp ?_
  go_wp2_with fail
  refine ⟨rfl, .returning, ?_, _, by simp [results, Tryd.results17], rfl, rfl, HB.out⟩
  cases c₀
  simp_all

/-- What the check of a pattern comes to. -/
def checkM (p : List UInt8) : Int × Nat := if 200 < p.length then (1, 0) else chkM p 0 0 false
/-- What readPattern hands back. -/
def ReadPost (p : ByteArray) (w : World) (e : Ending) (w' : World) : Prop :=
  ∃ u : Value, e = .returned (.tuple #[.agg #[u], .agg #[.int .i64 (checkM (sb p)).1, .int .i64 ((checkM (sb p)).2 : Int)]]) ∧ Below w.heap.size w w' ∧
    (((checkM (sb p)).1 = 0 ∧ ∃ os, AltOk (sb p) 0 0 p.size os ∧ AltAt w' (Bet w.heap.size w'.heap.size) os u) ∨ (¬ (checkM (sb p)).1 = 0 ∧ u = .slice none 0 0))
theorem rp_res {base rb eb : Nat} {w : World} {a : Act} {u x y : Value} (hu : u.oneCell' = true) (ht : a.tmps.getD 2 undef = .pointer (some ⟨rb, 0, none⟩)) (ht2 : a.tmps.getD 3 undef = .pointer (some ⟨eb, 0, none⟩)) (hr : BoxAt w base 31 1 rb [u]) (he : BoxAt w base 24 2 eb [x, y]) :
    (results Tryd.f8 a.tmps).run Tryd.prog w = .ok (.tuple #[.agg #[u], .agg #[x, y]]) w := by
  have p0 := hr.cell (j := 0) rfl
  have q0 := he.cell (j := 0) rfl
  have q1 := he.cell (j := 1) rfl
  have h1 : a.tmps[2]?.getD undef = .pointer (some ⟨rb, 0, none⟩) := by rw [← Array.getD_eq_getD_getElem?]; exact ht
  have h2 : a.tmps[3]?.getD undef = .pointer (some ⟨eb, 0, none⟩) := by rw [← Array.getD_eq_getD_getElem?]; exact ht2
  simp [results, Tryd.results8, go_sem, h1, h2, p0, q0, q1]
/-- Every panic of readPattern ends in its fault. -/
theorem rp_dies (p : ByteArray) (w wq : World) (a : Act) (c : Int) (k rb eb : Nat) (x : Value) (hrb : w.heap.size ≤ rb) (heb : w.heap.size ≤ eb) (hne : ¬ rb = eb) (hd : a.defers = [{ target := Target.fn (Fn.func 17) #[.pointer (some ⟨rb, 0, none⟩), .pointer (some ⟨eb, 0, none⟩)], args := #[] }])
    (ht : a.tmps.getD 2 undef = .pointer (some ⟨rb, 0, none⟩)) (ht2 : a.tmps.getD 3 undef = .pointer (some ⟨eb, 0, none⟩)) (hM : checkM (sb p) = (c, k)) (hc : ¬ c = 0) (hr : BoxAt wq w.heap.size 31 1 rb [x]) (he : BoxAt wq w.heap.size 24 2 eb [.int .i64 0, .int .i64 0]) (hB : Below w.heap.size w wq) :
    bodyPostD Tryd.prog Tryd.f8 (fun e w' => ReadPost p w e w') (.panic [{ v := pfV c k, recovered := false }]) a wq := by
  show Leaves Tryd.prog Tryd.f8 a.tmps (fun e w' => ReadPost p w e w') a.defers (.panicking [{ v := pfV c k, recovered := false }]) wq
  rw [hd]
  refine leaves_cons (f := 17) (args := #[.pointer (some ⟨rb, 0, none⟩), .pointer (some ⟨eb, 0, none⟩)]) (by simp) (by simp [go_sem]) ?_
  refine (rp_catch w.heap.size rb eb c k [] wq hc x hr he hne).mono ?_
  rintro e u' w'' ⟨rfl, rfl, hr2, he2, hC⟩
  show Leaves Tryd.prog Tryd.f8 a.tmps (fun e w' => ReadPost p w e w') [] (settle (.panicking [{ v := pfV c k, recovered := true }])) _
  refine ⟨_, rp_res rfl ht ht2 hr2 he2, .slice none 0 0, by rw [hM], Chg.below hB hC hB.size (fun j q => by omega), .inr ⟨by rw [hM]; exact hc, rfl⟩⟩
theorem rp_done (p : ByteArray) (w wq : World) (a : Act) (rb eb : Nat) (u : Value) (os : List (List Pat)) (hu : u.oneCell' = true) (hd : a.defers = [{ target := Target.fn (Fn.func 17) #[.pointer (some ⟨rb, 0, none⟩), .pointer (some ⟨eb, 0, none⟩)], args := #[] }])
    (ht : a.tmps.getD 2 undef = .pointer (some ⟨rb, 0, none⟩)) (ht2 : a.tmps.getD 3 undef = .pointer (some ⟨eb, 0, none⟩)) (hM : checkM (sb p) = (0, 0)) (hA : AltOk (sb p) 0 0 p.size os) (hU : AltAt wq (Bet w.heap.size wq.heap.size) os u) (hr : BoxAt wq w.heap.size 31 1 rb [u]) (he : BoxAt wq w.heap.size 24 2 eb [.int .i64 0, .int .i64 0]) (hB : Below w.heap.size w wq) :
    bodyPostD Tryd.prog Tryd.f8 (fun e w' => ReadPost p w e w') .ret a wq := by
  show Leaves Tryd.prog Tryd.f8 a.tmps (fun e w' => ReadPost p w e w') a.defers .returning wq
  rw [hd]
  refine leaves_cons (f := 17) (args := #[.pointer (some ⟨rb, 0, none⟩), .pointer (some ⟨eb, 0, none⟩)]) (by simp) (by simp [go_sem]) ?_
  refine (rp_idle rb eb wq).mono ?_
  rintro e u' w'' ⟨rfl, rfl, hb⟩
  show Leaves Tryd.prog Tryd.f8 a.tmps (fun e w' => ReadPost p w e w') [] (settle .returning) w''
  refine ⟨_, rp_res hu ht ht2 (hr.below hb) (he.below hb), u, by rw [hM]; rfl, hB.trans (hb.mono hB.size), .inl ⟨by rw [hM], os, hA, hU.move (S := fun _ => False) (Chg.of_below hb) (fun q hq => hq.elim) (fun q hq z => ⟨z.1, by have := hb.size; omega⟩)⟩⟩
end Go.Proofs.YtbjbdidcnkamaaaDoor

/-
  impl.readPattern, impl.CheckRegex.
-/
namespace Go.Proofs.YtbjbdidcnkamaaaDoor
open Go.ChangeShapes Go.WideShapes Go.ChangeAt Go.RowKit Go.Deep
set_option linter.unusedVariables false
set_option linter.unusedSimpArgs false
set_option maxRecDepth 100000

set_option maxHeartbeats 4000000 in
theorem readPattern_core (p : ByteArray) (w : World) (hpm : p.size ≤ maxLen) : Calls Tryd.prog 8 #[.string p] w fun e w' => ReadPost p w e w' := by
  have hmf : ∀ (fn : Fn) (first cap : Array Value) (w : World), (Instr.makeFunc fn first cap).run Tryd.prog w = .ok (.func fn first cap) w := fun _ _ _ _ => rfl
  obtain ⟨W0, hW0⟩ : ∃ W0 : World, W0 = (w.alloc (Obj.cells #[.slice none 0 0] 31)).alloc (Obj.cells #[.int .i64 0, .int .i64 0] 24) := ⟨_, rfl⟩
  have HW0 : Hid (BoxAt W0 w.heap.size 31 1 w.heap.size [.slice none 0 0] ∧ BoxAt W0 w.heap.size 24 2 (w.heap.size + 1) [.int .i64 0, .int .i64 0] ∧ Below w.heap.size w W0 ∧ W0.heap.size = w.heap.size + 2) := by
    rw [hW0]
    refine ⟨BoxAt.ofHeap (vs := #[.slice none 0 0]) (heap_alloc2_old w _ _) (Nat.le_refl _) rfl, BoxAt.ofHeap (vs := #[.int .i64 0, .int .i64 0]) (heap_alloc2_new w _ _) (by omega) rfl, ((Below.refl _ _).alloc (Nat.le_refl _) _).alloc (by simp) _, by simp⟩
  unfold maxLen at hpm
  by_cases hp : 200 < p.size
  · have HM : Hid (checkM (sb p) = (1, 0)) := by
      show checkM (sb p) = _
      unfold checkM; rw [if_pos (by rw [sb_len]; exact hp)]
    have z : ¬ (p.size : Int) ≤ 200 := by omega
    have z2 : (200 : Int) < (p.size : Int) := by omega
    go_enter_defers Tryd.func8, Tryd.ntmps8
    go_upto_region 1 with fail
    rw [← hW0]
    clear hW0
    have r0 := HW0.out.1.cell (j := 0) rfl
    have rf := HW0.out.1.frozen 0
    have e0 := HW0.out.2.1.cell (j := 0) rfl
    have e1 := HW0.out.2.1.cell (j := 1) rfl
    have f0 := HW0.out.2.1.frozen 0
    have f1 := HW0.out.2.1.frozen 1
    obtain ⟨W1, hW1⟩ : ∃ W1 : World, W1 = ((W0.setCell ⟨w.heap.size, 0, none⟩ (.slice none 0 0)).setCell ⟨w.heap.size + 1, 0, none⟩ (.int .i64 1)).setCell ⟨w.heap.size + 1, 1, none⟩ (.int .i64 0) := ⟨_, rfl⟩
    have HW1 : Hid (BoxAt W1 w.heap.size 31 1 w.heap.size [.slice none 0 0] ∧ BoxAt W1 w.heap.size 24 2 (w.heap.size + 1) [.int .i64 1, .int .i64 0] ∧ Below w.heap.size w W1) := by
      rw [hW1]
      exact ⟨(((HW0.out.1.set 0 _).beside (by omega) 0 _).beside (by omega) 1 _), (((HW0.out.2.1.beside (by omega) 0 _).set 0 _).set 1 _), below_set (below_set (below_set HW0.out.2.2.1 (Nat.le_refl _) 0 _) (by omega) 0 _) (by omega) 1 _⟩
    go_wp2_with fail
    rw [← hW1]
    show Leaves Tryd.prog Tryd.f8 _ (fun e w' => ReadPost p w e w') [] .returning W1
    refine ⟨_, rp_res (a := { tmps := _, defers := [] }) rfl rfl rfl HW1.out.1 HW1.out.2.1, .slice none 0 0, by rw [HM.out]; rfl, HW1.out.2.2, .inr ⟨by rw [HM.out]; decide, rfl⟩⟩
  have hp2 : p.size ≤ 200 := by omega
  have HM : Hid (checkM (sb p) = chkM (sb p) 0 0 false) := by
    show checkM (sb p) = _
    unfold checkM; rw [if_neg (by rw [sb_len]; exact hp)]
  have z : (p.size : Int) ≤ 200 := by omega
  obtain ⟨W1, hW1⟩ : ∃ W1 : World, W1 = W0.alloc (Obj.cells #[.string p, .int .i64 0, .int .i64 0] 48) := ⟨_, rfl⟩
  have HW1 : Hid (BoxAt W1 w.heap.size 31 1 w.heap.size [.slice none 0 0] ∧ BoxAt W1 w.heap.size 24 2 (w.heap.size + 1) [.int .i64 0, .int .i64 0] ∧ PrAt W1 w.heap.size (w.heap.size + 2) p 0 0 ∧ Below w.heap.size w W1 ∧ W1.heap.size = w.heap.size + 3) := by
    have hb : Below W0.heap.size W0 W1 := by rw [hW1]; exact (Below.refl _ _).alloc (Nat.le_refl _) _
    have hz := HW0.out.2.2.2
    refine ⟨HW0.out.1.below hb, HW0.out.2.1.below hb, ?_, HW0.out.2.2.1.trans (hb.mono (by omega)), by rw [hW1]; simp; omega⟩
    rw [hW1, ← hz]
    exact boxAt_new W0 #[.string p, .int .i64 0, .int .i64 0] (by omega) rfl
  go_enter_defers Tryd.func8, Tryd.ntmps8
  go_upto_region 1 with fail
  rw [← hW0]
  have hz0 : W0.heap.size = w.heap.size + 2 := HW0.out.2.2.2
  clear hW0 HW0
  go_upto_region 5 with fail
  rw [← hW1]
  clear hW1 hz0
  go_wp2_with fail
  refine (alt_core hp2 w.heap.size (w.heap.size + 2) 0 0 W1 (Nat.zero_le _) (Nat.zero_le _) HW1.out.2.2.1).mono ?_
  rintro e w2 ⟨hC2, (⟨k, os, u, hA, hN, rfl, hU, hP2⟩ | ⟨c, k, hc, hk, rfl⟩)⟩
  case inr =>
    have hb2 : Below w.heap.size w w2 := Chg.below HW1.out.2.2.2.1 hC2 HW1.out.2.2.2.1.size (fun j q => by omega)
    exact rp_dies p w w2 _ c k w.heap.size (w.heap.size + 1) _ (Nat.le_refl _) (by omega) (by omega) rfl rfl rfl (by rw [HM.out, hk]) hc (HW1.out.1.chg hC2 (by omega)) (HW1.out.2.1.chg hC2 (by omega)) hb2
  obtain ⟨gu, nu, cu, rfl⟩ := hU.slice
  have hkp : k ≤ p.size := by have := hA.le; rw [sb_len] at this; exact this
  have HA : Hid (AltOk (sb p) 0 0 k os ∧ (∀ c, (sb p)[k]? = some c → isEnd c ∧ ¬ c = 124)) := ⟨hA, hN⟩
  have HW2 : Hid (BoxAt w2 w.heap.size 31 1 w.heap.size [.slice none 0 0] ∧ BoxAt w2 w.heap.size 24 2 (w.heap.size + 1) [.int .i64 0, .int .i64 0] ∧ PrAt w2 w.heap.size (w.heap.size + 2) p k 0 ∧ Below w.heap.size w w2 ∧ AltAt w2 (fun j => w.heap.size + 3 ≤ j) os (.slice (some ⟨gu, 0, none⟩) nu cu)) := by
    refine ⟨HW1.out.1.chg hC2 (by omega), HW1.out.2.1.chg hC2 (by omega), hP2, Chg.below HW1.out.2.2.2.1 hC2 HW1.out.2.2.2.1.size (fun j q => by omega), hU.move (S := fun _ => False) (Chg.refl _ _) (fun q hq => hq.elim) (fun q _ z => by have h1 := z.1; rw [HW1.out.2.2.2.2] at h1; exact h1)⟩
  clear hC2 hA hN hU hP2 HW1
  obtain ⟨W3, hW3⟩ : ∃ W3 : World, W3 = w2.setCell ⟨w.heap.size, 0, none⟩ (.slice (some ⟨gu, 0, none⟩) nu cu) := ⟨_, rfl⟩
  have HW3 : Hid (BoxAt W3 w.heap.size 31 1 w.heap.size [.slice (some ⟨gu, 0, none⟩) nu cu] ∧ BoxAt W3 w.heap.size 24 2 (w.heap.size + 1) [.int .i64 0, .int .i64 0] ∧ PrAt W3 w.heap.size (w.heap.size + 2) p k 0 ∧ Below w.heap.size w W3 ∧ AltAt W3 (fun j => w.heap.size + 3 ≤ j) os (.slice (some ⟨gu, 0, none⟩) nu cu)) := by
    have hc := Chg.of_set w2 w.heap.size 0 (.slice (some ⟨gu, 0, none⟩) nu cu) (S := fun j => j = w.heap.size) rfl
    rw [hW3]
    exact ⟨HW2.out.1.set 0 _, HW2.out.2.1.chg hc (by omega), BoxAt.chg HW2.out.2.2.1 hc (by omega), below_set HW2.out.2.2.2.1 (Nat.le_refl _) 0 _, HW2.out.2.2.2.2.move hc (fun q hq => by subst hq; exact fun z => by omega) (fun q _ z => z)⟩
  have r0 := HW2.out.1.cell (j := 0) rfl
  have rf := HW2.out.1.frozen 0
  clear HW2
  go_upto_region 6 with fail
  rw [← hW3]
  clear hW3 r0 rf
  have c1 := HW3.out.2.2.1.cell (j := 1) rfl
  by_cases hke : k = p.size
  · have zk : (k : Int) = (p.size : Int) := by omega
    have HOk : Hid (checkM (sb p) = (0, 0) ∧ AltOk (sb p) 0 0 p.size os) := by
      refine ⟨?_, by rw [← hke]; exact HA.out.1⟩
      rw [HM.out, HA.out.1.chk, chk_end (by rw [sb_len]; omega), if_neg (by omega)]
    clear HA hke
    go_wp2_with fail
    refine (pdem_core _ HW3.out.2.2.1).mono ?_
    rintro e w5 ⟨hw5, (⟨hc, rfl⟩ | ⟨hc, rfl⟩)⟩
    case inr => exfalso; (simp at hc) <;> omega
    rw [hw5]
    clear hw5 hc c1
    have r0 := HW3.out.1.cell (j := 0) rfl
    have rf := HW3.out.1.frozen 0
    have e0 := HW3.out.2.1.cell (j := 0) rfl
    have e1 := HW3.out.2.1.cell (j := 1) rfl
    have f0 := HW3.out.2.1.frozen 0
    have f1 := HW3.out.2.1.frozen 1
    obtain ⟨W6, hW6⟩ : ∃ W6 : World, W6 = ((W3.setCell ⟨w.heap.size, 0, none⟩ (.slice (some ⟨gu, 0, none⟩) nu cu)).setCell ⟨w.heap.size + 1, 0, none⟩ (.int .i64 0)).setCell ⟨w.heap.size + 1, 1, none⟩ (.int .i64 0) := ⟨_, rfl⟩
    have HW6 : Hid (BoxAt W6 w.heap.size 31 1 w.heap.size [.slice (some ⟨gu, 0, none⟩) nu cu] ∧ BoxAt W6 w.heap.size 24 2 (w.heap.size + 1) [.int .i64 0, .int .i64 0] ∧ Below w.heap.size w W6 ∧ AltAt W6 (Bet w.heap.size W6.heap.size) os (.slice (some ⟨gu, 0, none⟩) nu cu)) := by
      have c1 := Chg.of_set W3 w.heap.size 0 (.slice (some ⟨gu, 0, none⟩) nu cu) (S := fun j => j = w.heap.size ∨ j = w.heap.size + 1) (.inl rfl)
      have c2 := c1.trans (Chg.of_set _ (w.heap.size + 1) 0 (.int .i64 0) (S := fun j => j = w.heap.size ∨ j = w.heap.size + 1) (.inr rfl))
      have c3 := c2.trans (Chg.of_set _ (w.heap.size + 1) 1 (.int .i64 0) (S := fun j => j = w.heap.size ∨ j = w.heap.size + 1) (.inr rfl))
      rw [hW6]
      exact ⟨(((HW3.out.1.set 0 _).beside (by omega) 0 _).beside (by omega) 1 _), (((HW3.out.2.1.beside (by omega) 0 _).set 0 _).set 1 _), below_set (below_set (below_set HW3.out.2.2.2.1 (Nat.le_refl _) 0 _) (by omega) 0 _) (by omega) 1 _, HW3.out.2.2.2.2.move c3 (fun q hq => fun z => by omega) (fun q hq z => ⟨by omega, by have := c3.size; omega⟩)⟩
    go_wp2_with fail
    rw [← hW6]
    exact rp_done p w W6 _ w.heap.size (w.heap.size + 1) _ os rfl rfl rfl rfl HOk.out.1 HOk.out.2 HW6.out.2.2.2 HW6.out.1 HW6.out.2.1 HW6.out.2.2.1
  · have zk : ¬ (k : Int) = (p.size : Int) := by omega
    have HOk : Hid (checkM (sb p) = (2, k)) := by
      show checkM (sb p) = _
      obtain ⟨c, hc⟩ : ∃ c, (sb p)[k]? = some c := ⟨_, List.getElem?_eq_getElem (by rw [sb_len]; omega)⟩
      obtain ⟨h1, h2⟩ := HA.out.2 c hc
      rw [HM.out, HA.out.1.chk]
      rcases h1 with h1 | h1 | h1 | h1
      · rw [chk_op hc h1]; rfl
      · exact absurd h1 h2
      · subst h1; rw [chk_close hc, if_pos rfl]
      · subst h1; rw [chk_rb hc]
    clear HA hke
    go_wp2_with fail
    refine (pdem_core _ HW3.out.2.2.1).mono ?_
    rintro e w5 ⟨hw5, (⟨hc, rfl⟩ | ⟨hc, rfl⟩)⟩
    · exfalso; (simp at hc) <;> omega
    rw [hw5]
    exact rp_dies p w W3 _ 2 k w.heap.size (w.heap.size + 1) _ (Nat.le_refl _) (by omega) (by omega) rfl rfl rfl HOk.out (by decide) HW3.out.1 HW3.out.2.1 HW3.out.2.2.2.1

end Go.Proofs.YtbjbdidcnkamaaaDoor

/-
  A class says the same wherever its bytes stand.
-/
namespace Go.Proofs.YtbjbdidcnkamaaaDoor
set_option linter.unusedVariables false
set_option linter.unusedSimpArgs false

theorem chM_agree {p q : List UInt8} {i j k : Nat} {c : UInt8} (h : chM p i = (c, k, true)) (ha : ∀ t, i + t < k → q[j + t]? = p[i + t]?) : chM q j = (c, j + (k - i), true) := by
  have hg := chM_gt h
  have h0 := ha 0 (by omega)
  simp only [Nat.add_zero] at h0
  unfold chM at h ⊢
  rw [h0]
  split at h
  · cases h
  · next d hd =>
    split at h
    · cases h
    · next hn =>
      rw [if_neg hn]
      split at h
      · next h92 =>
        rw [if_pos h92]
        split at h
        · cases h
        · next e he =>
          simp only [Prod.mk.injEq, and_true] at h
          obtain ⟨rfl, rfl⟩ := h
          have h1 := ha 1 (by omega)
          rw [h1, he]
          simp only [Prod.mk.injEq, and_true, true_and]
          omega
      · next h92 =>
        rw [if_neg h92]
        simp only [Prod.mk.injEq, and_true] at h
        obtain ⟨rfl, rfl⟩ := h
        simp only [Prod.mk.injEq, and_true, true_and]
        omega
theorem itemM_agree {p q : List UInt8} {i j k : Nat} {a b : UInt8} (h : itemM p i = .inl (a, b, k)) (ha : ∀ t, i + t ≤ k → q[j + t]? = p[i + t]?) : itemM q j = .inl (a, b, j + (k - i)) := by
  unfold itemM at h ⊢
  split at h
  · cases h
  · next lo k1 hk1 =>
    have hg := chM_gt hk1
    split at h
    · next h45 =>
      split at h
      · cases h
      · next hi m hm =>
        have hg2 := chM_gt hm
        split at h
        · cases h
        · next hle =>
          simp only [Sum.inl.injEq, Prod.mk.injEq] at h
          obtain ⟨rfl, rfl, rfl⟩ := h
          have e1 := chM_agree (q := q) (j := j) hk1 (fun t ht => ha t (by omega))
          have e2 : q[j + (k1 - i)]? = some 45 := by rw [ha (k1 - i) (by omega), show i + (k1 - i) = k1 by omega]; exact h45
          have e3 := chM_agree (q := q) (j := j + (k1 - i) + 1) hm (fun t ht => by have := ha (k1 - i + 1 + t) (by omega); rw [show j + (k1 - i) + 1 + t = j + (k1 - i + 1 + t) by omega, this]; congr 1; omega)
          rw [e1]
          simp only []
          rw [if_pos e2, e3]
          simp only []
          rw [if_neg hle]
          simp only [Sum.inl.injEq, Prod.mk.injEq, true_and]
          omega
    · next h45 =>
      simp only [Sum.inl.injEq, Prod.mk.injEq] at h
      obtain ⟨rfl, rfl, rfl⟩ := h
      have e1 := chM_agree (q := q) (j := j) hk1 (fun t ht => ha t (by omega))
      have e2 : ¬ q[j + (k1 - i)]? = some 45 := by rw [ha (k1 - i) (by omega), show i + (k1 - i) = k1 by omega]; exact h45
      rw [e1]
      simp only []
      rw [if_neg e2]
theorem clsM_agree : ∀ (n : Nat) {p q : List UInt8} {i j k : Nat} {b : Bool} {f g : UInt8 → Bool}, p.length - i ≤ n → clsM p i b f = .inl (g, k) → (∀ t, i + t < k → q[j + t]? = p[i + t]?) → clsM q j b f = .inl (g, j + (k - i))
  | n, p, q, i, j, k, b, f, g, hn, h, ha => by
    have hg := clsM_gt _ (Nat.le_refl _) h
    have h0 := ha 0 (by omega)
    simp only [Nat.add_zero] at h0
    rw [clsM] at h
    split at h
    · next hi =>
      have hj : j < q.length := by
        rw [List.getElem?_eq_getElem hi] at h0
        exact lt_of_at h0
      rw [clsM, dif_pos hj, h0]
      split at h
      · next he =>
        rw [if_pos he]
        simp only [Sum.inl.injEq, Prod.mk.injEq] at h
        obtain ⟨rfl, rfl⟩ := h
        simp only [Sum.inl.injEq, Prod.mk.injEq, true_and]
        omega
      · next he =>
        rw [if_neg he]
        split at h
        · cases h
        · next a b' k' hk =>
          have h1 := itemM_gt hk
          have h2 := clsM_gt _ (Nat.le_refl _) h
          have e1 := itemM_agree (q := q) (j := j) hk (fun t ht => ha t (by omega))
          match n, hn with
          | 0, hn => omega
          | n + 1, hn =>
            have e2 := clsM_agree n (q := q) (j := j + (k' - i)) (by omega) h (fun t ht => by have := ha (k' - i + t) (by omega); rw [show j + (k' - i) + t = j + (k' - i + t) by omega, this]; congr 1; omega)
            split
            · next e hh => rw [e1] at hh; cases hh
            · next a2 b2 k2 hh =>
              rw [e1] at hh
              simp only [Sum.inl.injEq, Prod.mk.injEq] at hh
              obtain ⟨rfl, rfl, rfl⟩ := hh
              rw [e2]
              simp only [Sum.inl.injEq, Prod.mk.injEq, true_and]
              omega
    · cases h
theorem classM_agree {p q : List UInt8} {i j k : Nat} {g : UInt8 → Bool} (h : classM p i = .inl (g, k)) (ha : ∀ t, i + t < k → q[j + t]? = p[i + t]?) : classM q j = .inl (g, j + (k - i)) := by
  have hg := classM_gt h
  have h0 := ha 0 (by omega)
  simp only [Nat.add_zero] at h0
  unfold classM at h ⊢
  rw [h0]
  split at h
  · next h94 =>
    rw [if_pos h94]
    split at h
    · next f k' hc =>
      have hg2 := clsM_gt _ (Nat.le_refl _) hc
      simp only [Sum.inl.injEq, Prod.mk.injEq] at h
      obtain ⟨rfl, rfl⟩ := h
      have e := clsM_agree _ (Nat.le_refl _) (q := q) (j := j + 1) hc (fun t ht => by have := ha (1 + t) (by omega); rw [show j + 1 + t = j + (1 + t) by omega, this]; congr 1; omega)
      rw [e]
      simp only [Sum.inl.injEq, Prod.mk.injEq, true_and]
      omega
    · cases h
  · next h94 =>
    rw [if_neg h94]
    exact clsM_agree _ (Nat.le_refl _) h ha
end Go.Proofs.YtbjbdidcnkamaaaDoor

/-
  A pattern's bytes as signs and atoms, one behind another.
-/
namespace Go.Proofs.YtbjbdidcnkamaaaDoor
set_option linter.unusedVariables false
set_option linter.unusedSimpArgs false

/-- Signs and atoms, one behind another. -/
inductive TokG (A : List UInt8 → Pat → Prop) : List UInt8 → Prop
  | nil : TokG A []
  | sign {c : UInt8} {zs : List UInt8} (hc : c = 124 ∨ isOp c) (h : TokG A zs) : TokG A (c :: zs)
  | atom {xs zs : List UInt8} {t : Pat} (ha : A xs t) (h : TokG A zs) : TokG A (xs ++ zs)
variable {A : List UInt8 → Pat → Prop}
theorem TokG.cat {xs ys : List UInt8} (h : TokG A xs) (k : TokG A ys) : TokG A (xs ++ ys) := by
  induction h with
  | nil => exact k
  | sign hc _ ih => exact .sign hc ih
  | atom ha _ ih => rw [List.append_assoc]; exact .atom ha ih
theorem TokG.ops : ∀ {l : List UInt8}, (∀ c ∈ l, isOp c) → TokG A l
  | [], _ => .nil
  | c :: l, h => .sign (.inr (h c (by simp))) (TokG.ops (fun d hd => h d (by simp [hd])))
theorem RepG.tok {xs : List UInt8} {t : Pat} : RepG A xs t → TokG A xs
  | ⟨ys, ops, a, h1, h2, h3, _⟩ => by rw [h1]; exact .atom h2 (TokG.ops h3)
theorem SeqG.tok : ∀ {ts : List Pat} {xs : List UInt8}, SeqG A ts xs → TokG A xs
  | [], _, h => by rw [show _ = [] from h]; exact .nil
  | _ :: _, _, ⟨ys, zs, h1, h2, h3⟩ => by rw [h1]; exact h2.tok.cat (SeqG.tok h3)
theorem AltG.tok : ∀ {os : List (List Pat)} {xs : List UInt8}, AltG A os xs → TokG A xs
  | [], _, h => h.elim
  | [_], _, h => SeqG.tok h
  | _ :: _ :: _, _, ⟨ys, zs, h1, h2, h3⟩ => by rw [h1]; exact h2.tok.cat (.sign (.inl rfl) (AltG.tok h3))
/-- The first byte of an atom is none of the signs. -/
theorem AtomG.first : ∀ {n : Nat} {xs : List UInt8} {t : Pat}, AtomG n xs t → ∃ c ys, xs = c :: ys ∧ ¬ c = 41 ∧ ¬ c = 124 ∧ ¬ isOp c
  | 0, _, _, h => h.elim
  | n + 1, xs, t, h => by
    rcases h with ⟨c, rfl, hs, _⟩ | ⟨rfl, _⟩ | ⟨c, rfl, _⟩ | ⟨ys, os, rfl, _, _⟩ | ⟨p, i, k, f, h1, h2, rfl, _⟩
    · exact ⟨c, [], rfl, fun q => hs (.inl (.inr (.inr (.inl q)))), fun q => hs (.inl (.inr (.inl q))), fun q => hs (.inl (.inl q))⟩
    · exact ⟨46, [], rfl, by decide, by decide, by decide⟩
    · exact ⟨92, [c], rfl, by decide, by decide, by decide⟩
    · exact ⟨40, ys ++ [41], rfl, by decide, by decide, by decide⟩
    · have hg := classM_gt h2
      refine ⟨91, cut p (i + 1) k, ?_, by decide, by decide, by decide⟩
      rw [cut_cat (show i ≤ i + 1 by omega) (show i + 1 ≤ k by omega), cut_one h1]
      rfl
/-- A class that stands at i in whatever p. -/
theorem class_here {p : List UInt8} {i k : Nat} {q : List UInt8} {j m : Nat} {f : UInt8 → Bool} (h1 : q[j]? = some 91) (h2 : classM q (j + 1) = .inl (f, m)) (hc : cut p i k = cut q j m) (hk : k ≤ p.length) (hik : i < k) : p[i]? = some 91 ∧ classM p (i + 1) = .inl (f, k) := by
  have hg := classM_gt h2
  have hl : k - i = m - j := by have h3 := congrArg List.length hc; rw [cut_len hk, cut_len hg.2] at h3; exact h3
  have hat : ∀ t, t < k - i → p[i + t]? = q[j + t]? := fun t ht => by
    have h3 := congrArg (fun l => l[t]?) hc
    simp only [cut, List.getElem?_take, List.getElem?_drop] at h3
    rw [if_pos ht, if_pos (by omega)] at h3
    exact h3
  refine ⟨by have := hat 0 (by omega); simpa [h1] using this, ?_⟩
  have e := classM_agree (q := p) (j := i + 1) h2 (fun t ht => by have := hat (1 + t) (by omega); rw [show i + 1 + t = i + (1 + t) by omega, this]; congr 1; omega)
  rw [e]
  simp only [Sum.inl.injEq, Prod.mk.injEq, true_and]
  omega
end Go.Proofs.YtbjbdidcnkamaaaDoor

/-
  What a pattern begins with, as a function of its nodes.
-/
namespace Go.Proofs.YtbjbdidcnkamaaaDoor
set_option linter.unusedVariables false
set_option linter.unusedSimpArgs false

/-- What a seq of nodes begins with; whether that is all of it. -/
def prefM : List Pat → List UInt8 × Bool
  | [] => ([], true)
  | .byte c :: ts => (c :: (prefM ts).1, (prefM ts).2)
  | .cls _ :: _ => ([], false)
  | .rep _ _ _ :: _ => ([], false)
  | .alt _ :: _ => ([], false)
def prefOf : List (List Pat) → List UInt8 × Bool
  | [ts] => prefM ts
  | _ => ([], false)
def isByte : Pat → Prop
  | .byte _ => True
  | _ => False
theorem prefM_not {t : Pat} (h : ¬ isByte t) (ts : List Pat) : prefM (t :: ts) = ([], false) := by
  cases t with
  | byte b => exact (h trivial).elim
  | _ => rfl
theorem prefM_len : ∀ ts : List Pat, (prefM ts).1.length ≤ ts.length
  | [] => Nat.le_refl _
  | .byte c :: ts => by simp only [prefM, List.length_cons]; have := prefM_len ts; omega
  | .cls _ :: _ => Nat.zero_le _
  | .rep _ _ _ :: _ => Nat.zero_le _
  | .alt _ :: _ => Nat.zero_le _

/-- Signs and atoms with so many bars between them. -/
inductive TokN (A : List UInt8 → Pat → Prop) : Nat → List UInt8 → Prop
  | nil : TokN A 0 []
  | bar {k : Nat} {zs : List UInt8} (h : TokN A k zs) : TokN A (k + 1) (124 :: zs)
  | op {k : Nat} {c : UInt8} {zs : List UInt8} (hc : isOp c) (h : TokN A k zs) : TokN A k (c :: zs)
  | atom {k : Nat} {xs zs : List UInt8} {t : Pat} (ha : A xs t) (h : TokN A k zs) : TokN A k (xs ++ zs)
variable {A : List UInt8 → Pat → Prop}
theorem TokN.cat {k m : Nat} {xs ys : List UInt8} (h : TokN A k xs) (q : TokN A m ys) : TokN A (k + m) (xs ++ ys) := by
  induction h with
  | nil => simpa using q
  | bar _ ih => rw [show ∀ k, k + 1 + m = (k + m) + 1 from fun k => by omega]; exact .bar ih
  | op hc _ ih => exact .op hc ih
  | atom ha _ ih => rw [List.append_assoc]; exact .atom ha ih
theorem TokN.ops : ∀ {l : List UInt8}, (∀ c ∈ l, isOp c) → TokN A 0 l
  | [], _ => .nil
  | c :: l, h => .op (h c (by simp)) (TokN.ops (fun d hd => h d (by simp [hd])))
theorem RepG.tokn {xs : List UInt8} {t : Pat} : RepG A xs t → TokN A 0 xs
  | ⟨ys, ops, a, h1, h2, h3, _⟩ => by rw [h1]; exact .atom h2 (TokN.ops h3)
theorem SeqG.tokn : ∀ {ts : List Pat} {xs : List UInt8}, SeqG A ts xs → TokN A 0 xs
  | [], _, h => by rw [show _ = [] from h]; exact .nil
  | _ :: _, _, ⟨ys, zs, h1, h2, h3⟩ => by rw [h1]; simpa using h2.tokn.cat (SeqG.tokn h3)
theorem AltG.tokn : ∀ {os : List (List Pat)} {xs : List UInt8}, AltG A os xs → ∃ k, os.length = k + 1 ∧ TokN A k xs
  | [], _, h => h.elim
  | [_], _, h => ⟨0, rfl, SeqG.tokn h⟩
  | _ :: o :: os, _, ⟨ys, zs, h1, h2, h3⟩ => by
    obtain ⟨k, hk, hT⟩ := AltG.tokn h3
    refine ⟨k + 1, by simp at hk ⊢; omega, ?_⟩
    rw [h1]
    have := h2.tokn.cat (TokN.bar hT)
    simpa using this
theorem tokn_step {k : Nat} {xs : List UInt8} (h : TokN A k xs) : (xs = [] ∧ k = 0) ∨ (∃ m zs, xs = 124 :: zs ∧ k = m + 1 ∧ TokN A m zs) ∨ (∃ c zs, xs = c :: zs ∧ isOp c ∧ TokN A k zs) ∨ (∃ ys zs t, xs = ys ++ zs ∧ A ys t ∧ TokN A k zs) := by
  cases h with
  | nil => exact .inl ⟨rfl, rfl⟩
  | bar h => exact .inr (.inl ⟨_, _, rfl, rfl, h⟩)
  | op hc h => exact .inr (.inr (.inl ⟨_, _, rfl, hc, h⟩))
  | atom ha h => exact .inr (.inr (.inr ⟨_, _, _, rfl, ha, h⟩))
theorem cutHead {p : List UInt8} {j m : Nat} {c : UInt8} {zs : List UInt8} (h : cut p j m = c :: zs) (hm : m ≤ p.length) : p[j]? = some c ∧ cut p (j + 1) m = zs ∧ j < m := by
  have hl := congrArg List.length h
  rw [cut_len hm] at hl
  simp at hl
  have hj : j < m := by omega
  obtain ⟨d, hd⟩ : ∃ d, p[j]? = some d := ⟨_, List.getElem?_eq_getElem (by omega)⟩
  rw [cut_cat (show j ≤ j + 1 by omega) (show j + 1 ≤ m by omega), cut_one hd] at h
  simp at h
  exact ⟨by rw [hd, h.1], h.2, hj⟩
theorem cutTwo {p : List UInt8} {j m : Nat} {xs zs : List UInt8} (h : cut p j m = xs ++ zs) (hm : m ≤ p.length) (hjm : j ≤ m) : cut p j (j + xs.length) = xs ∧ cut p (j + xs.length) m = zs ∧ j + xs.length ≤ m := by
  have hl := congrArg List.length h
  rw [cut_len hm, List.length_append] at hl
  have h1 := cut_cat (p := p) (show j ≤ j + xs.length by omega) (show j + xs.length ≤ m by omega)
  rw [h] at h1
  have h2 := List.append_inj h1 (by rw [cut_len (by omega)]; omega)
  exact ⟨h2.1.symm, h2.2.symm, by omega⟩
/-- The byte of an atom that is a byte stands at its end; every other one begins with a sign. -/
theorem AtomG.byte : ∀ {n : Nat} {xs : List UInt8} {t : Pat}, AtomG n xs t → ∃ c ys, xs = c :: ys ∧ ((∃ b, t = .byte b ∧ xs.getLast? = some b ∧ (¬ special c ∨ c = 92)) ∨ (¬ isByte t ∧ special c ∧ ¬ c = 92))
  | 0, _, _, h => h.elim
  | n + 1, xs, t, h => by
    rcases h with ⟨c, rfl, hs, rfl⟩ | ⟨rfl, rfl⟩ | ⟨c, rfl, rfl⟩ | ⟨ys, os, rfl, _, rfl⟩ | ⟨p, i, k, f, h1, h2, rfl, rfl⟩
    · exact ⟨c, [], rfl, .inl ⟨c, rfl, rfl, .inl hs⟩⟩
    · exact ⟨46, [], rfl, .inr ⟨fun h => h, by decide, by decide⟩⟩
    · exact ⟨92, [c], rfl, .inl ⟨c, rfl, rfl, .inr rfl⟩⟩
    · exact ⟨40, ys ++ [41], rfl, .inr ⟨fun h => h, by decide, by decide⟩⟩
    · have hg := classM_gt h2
      refine ⟨91, cut p (i + 1) k, ?_, .inr ⟨fun h => h, by decide, by decide⟩⟩
      rw [cut_cat (show i ≤ i + 1 by omega) (show i + 1 ≤ k by omega), cut_one h1]
      rfl
/-- One step of a seq, from the left. -/
structure SeqStep (n : Nat) (p : List UInt8) (i m j : Nat) (c : UInt8) (a t : Pat) (ts : List Pat) : Prop where
  atom : AtomG n (cut p i j) a
  lt : i < j
  le : j ≤ m
  at0 : p[i]? = some c
  what : (∃ b, t = .byte b ∧ (¬ special c ∨ c = 92) ∧ (∀ d, p[j]? = some d → j < m → ¬ isOp d) ∧ p[j - 1]? = some b ∧ SeqG (AtomG n) ts (cut p j m)) ∨ (¬ isByte t ∧ ((special c ∧ ¬ c = 92) ∨ ((¬ special c ∨ c = 92) ∧ ∃ d, p[j]? = some d ∧ isOp d ∧ j < m)))
theorem seq_step {n : Nat} {p : List UInt8} {i m : Nat} {ts : List Pat} (h : SeqG (AtomG n) ts (cut p i m)) (hm : m ≤ p.length) (him : i < m) : ∃ t ts' j c a, ts = t :: ts' ∧ SeqStep n p i m j c a t ts' := by
  cases ts with
  | nil =>
    have hl := cut_len (p := p) (i := i) hm
    rw [show cut p i m = [] from h] at hl
    simp at hl
    omega
  | cons t ts' =>
    obtain ⟨ys, zs, h1, ⟨xa, ops, a, h2, h3, h4, h5⟩, h6⟩ := h
    rw [h2, List.append_assoc] at h1
    obtain ⟨c1, c2, c3⟩ := cutTwo h1 hm (by omega)
    obtain ⟨c, xb, hc, hw⟩ := h3.byte
    have hal : 0 < xa.length := by rw [hc]; simp
    obtain ⟨p0, _, _⟩ := cutHead (c1.trans hc) (by omega)
    refine ⟨t, ts', i + xa.length, c, a, rfl, ⟨by rw [c1]; exact h3, by omega, c3, p0, ?_⟩⟩
    cases ops with
    | nil =>
      have hta : t = a := h5
      subst hta
      rw [List.nil_append] at c2
      rcases hw with ⟨b, hb, hlast, hs⟩ | ⟨hb, hs⟩
      · left
        refine ⟨b, hb, hs, ?_, ?_, by rw [c2]; exact h6⟩
        · intro d hd hlt
          cases ts' with
          | nil =>
            have hl := cut_len (p := p) (i := i + xa.length) hm
            rw [c2, show zs = [] from h6] at hl
            simp at hl
            omega
          | cons t2 ts2 =>
            obtain ⟨ys2, zs2, e1, ⟨xa2, ops2, a2, e2, e3, _, _⟩, _⟩ := h6
            obtain ⟨c2', xa3, hc2, _, _, hn⟩ := e3.first
            rw [e1, e2, hc2] at c2
            have := (cutHead (p := p) (c := c2') (zs := xa3 ++ ops2 ++ zs2) (by rw [c2]; simp) hm).1
            rw [hd] at this
            rw [Option.some.inj this]
            exact hn
        · have hg : xa[xa.length - 1]? = some b := by rw [← List.getLast?_eq_getElem?]; exact hlast
          have e := congrArg (fun l => l[xa.length - 1]?) c1
          simp only [cut, List.getElem?_take, List.getElem?_drop] at e
          rw [if_pos (by omega), hg] at e
          rw [show i + xa.length - 1 = i + (xa.length - 1) by omega]
          exact e
      · exact .inr ⟨hb, .inl hs⟩
    | cons o ops =>
      right
      have hnb : ¬ isByte t := by rw [h5, if_neg (by simp)]; exact fun h => h
      refine ⟨hnb, ?_⟩
      obtain ⟨q1, _, q3⟩ := cutHead (p := p) (c := o) (zs := ops ++ zs) (by rw [c2]; simp) hm
      rcases hw with ⟨b, hb, hlast, hs⟩ | ⟨hb, hs⟩
      · exact .inr ⟨hs, o, q1, h4 o (by simp), q3⟩
      · exact .inl hs
theorem seq_done {n : Nat} {p : List UInt8} {m : Nat} {ts : List Pat} (h : SeqG (AtomG n) ts (cut p m m)) (hm : m ≤ p.length) : ts = [] := by
  cases ts with
  | nil => rfl
  | cons t ts =>
    obtain ⟨ys, zs, h1, ⟨xa, ops, a, h2, h3, _, _⟩, _⟩ := h
    obtain ⟨c, xb, hc, _⟩ := h3.first
    rw [cut_nil, h2, hc] at h1
    simp at h1
end Go.Proofs.YtbjbdidcnkamaaaDoor

/-
  A pattern is read in one way.
-/
namespace Go.Proofs.YtbjbdidcnkamaaaDoor
set_option linter.unusedVariables false
set_option linter.unusedSimpArgs false

/-- What an atom is, by its first byte. -/
inductive Tag (n : Nat) : UInt8 → List UInt8 → Pat → Prop
  | plain {c : UInt8} (h : ¬ special c) : Tag n c [] (.byte c)
  | dot : Tag n 46 [] (.cls (fun _ => true))
  | esc {d : UInt8} : Tag n 92 [d] (.byte d)
  | group {ys : List UInt8} {os : List (List Pat)} (h : AltG (AtomG n) os ys) : Tag n 40 (ys ++ [41]) (.alt os)
  | cls {zs : List UInt8} {f : UInt8 → Bool} (h : ∀ r, classM (91 :: zs ++ r) 1 = .inl (f, zs.length + 1)) : Tag n 91 zs (.cls f)
theorem AtomG.tag {n : Nat} {xs : List UInt8} {t : Pat} (h : AtomG (n + 1) xs t) : ∃ c zs, xs = c :: zs ∧ Tag n c zs t := by
  rcases h with ⟨c, rfl, hs, rfl⟩ | ⟨rfl, rfl⟩ | ⟨c, rfl, rfl⟩ | ⟨ys, os, rfl, ho, rfl⟩ | ⟨p, i, k, f, h1, h2, rfl, rfl⟩
  · exact ⟨c, [], rfl, .plain hs⟩
  · exact ⟨46, [], rfl, .dot⟩
  · exact ⟨92, [c], rfl, .esc⟩
  · exact ⟨40, ys ++ [41], rfl, .group ho⟩
  · have hg := classM_gt h2
    have e : cut p i k = 91 :: cut p (i + 1) k := by
      rw [cut_cat (show i ≤ i + 1 by omega) (show i + 1 ≤ k by omega), cut_one h1]; rfl
    refine ⟨91, _, e, .cls fun r => ?_⟩
    have hl := congrArg List.length e
    rw [List.length_cons] at hl
    have h3 := class_here (p := 91 :: cut p (i + 1) k ++ r) (i := 0) (k := (cut p (i + 1) k).length + 1) h1 h2 ?_ (by simp) (by omega)
    · exact h3.2
    · rw [← hl, ← e]
      show (List.drop 0 (cut p i k ++ r)).take ((cut p i k).length - 0) = _
      rw [List.drop_zero, Nat.sub_zero, List.take_left]
/-- Signs and atoms up to a bracket that closes: one way. -/
theorem tok_one {A B : List UInt8 → Pat → Prop} (hA : ∀ ys t, A ys t → ∃ c zs, ys = c :: zs ∧ ¬ c = 41 ∧ ¬ c = 124 ∧ ¬ isOp c) (hB : ∀ ys t, B ys t → ∃ c zs, ys = c :: zs ∧ ¬ c = 41 ∧ ¬ c = 124 ∧ ¬ isOp c)
    (U : ∀ xs ys t t' r r', A xs t → B ys t' → xs ++ r = ys ++ r' → xs = ys) {xs : List UInt8} (h : TokG A xs) : ∀ {ys r r' : List UInt8}, TokG B ys → xs ++ 41 :: r = ys ++ 41 :: r' → xs = ys := by
  induction h with
  | nil =>
    intro ys r r' k e
    cases k with
    | nil => rfl
    | sign hc _ =>
      simp at e
      exfalso
      rw [← e.1] at hc
      rcases hc with q | q | q | q <;> exact absurd q (by decide)
    | atom ha _ =>
      obtain ⟨c, zs, rfl, n41, _⟩ := hB _ _ ha
      simp at e
      exact absurd e.1.symm n41
  | @sign c zs hc h ih =>
    intro ys r r' k e
    cases k with
    | nil =>
      simp at e
      exfalso
      rw [e.1] at hc
      rcases hc with q | q | q | q <;> exact absurd q (by decide)
    | sign hc' k' =>
      simp at e
      rw [e.1, ih k' e.2]
    | atom ha _ =>
      obtain ⟨c, zs, rfl, _, n124, nop⟩ := hB _ _ ha
      simp at e
      rw [e.1] at hc
      exact absurd hc (fun q => q.elim n124 nop)
  | @atom us zs t ha h ih =>
    intro ys r r' k e
    cases k with
    | nil =>
      obtain ⟨c, zs, rfl, n41, _⟩ := hA _ _ ha
      simp at e
      exact absurd e.1 n41
    | sign hc' k' =>
      obtain ⟨c, zs, rfl, _, n124, nop⟩ := hA _ _ ha
      simp at e
      rw [← e.1] at hc'
      exact absurd hc' (fun q => q.elim n124 nop)
    | atom hb k' =>
      rw [List.append_assoc, List.append_assoc] at e
      have q := U _ _ _ _ _ _ ha hb e
      subst q
      rw [ih k' (List.append_cancel_left e)]
theorem atom_one : ∀ {n m : Nat} {xs ys : List UInt8} {t t' : Pat} {r r' : List UInt8}, AtomG n xs t → AtomG m ys t' → xs ++ r = ys ++ r' → xs = ys
  | 0, _, _, _, _, _, _, _, h, _, _ => h.elim
  | _ + 1, 0, _, _, _, _, _, _, _, h, _ => h.elim
  | n + 1, m + 1, xs, ys, t, t', r, r', h, k, e => by
    obtain ⟨c, zs, rfl, hT⟩ := h.tag
    obtain ⟨c', zs', rfl, hT'⟩ := k.tag
    simp only [List.cons_append, List.cons.injEq] at e
    obtain ⟨rfl, e⟩ := e
    congr 1
    cases hT with
    | plain h1 =>
      cases hT' with
      | plain _ => rfl
      | dot => rfl
      | esc => exact absurd h1 (by decide)
      | group _ => exact absurd h1 (by decide)
      | cls _ => exact absurd h1 (by decide)
    | dot =>
      cases hT' with
      | plain _ => rfl
      | dot => rfl
    | esc =>
      cases hT' with
      | plain h1 => exact absurd h1 (by decide)
      | esc => simp at e; rw [e.1]
    | group h1 =>
      cases hT' with
      | plain h1 => exact absurd h1 (by decide)
      | group h2 =>
        rw [List.append_assoc, List.append_assoc] at e
        rw [tok_one (fun ys t q => q.first) (fun ys t q => q.first) (fun xs ys t t' r r' a b e => atom_one a b e) h1.tok h2.tok e]
    | cls h1 =>
      cases hT' with
      | plain h1 => exact absurd h1 (by decide)
      | cls h2 =>
        have a := h1 r
        have b := h2 r'
        rw [List.cons_append, e] at a
        rw [List.cons_append, a] at b
        simp at b
        exact (List.append_inj e b.2).1
/-- Bytes and signs: the number of bars is one. -/
theorem tokn_one {n m : Nat} {k : Nat} {xs : List UInt8} (h : TokN (AtomG n) k xs) : ∀ {j : Nat} {ys : List UInt8}, TokN (AtomG m) j ys → xs = ys → k = j := by
  induction h with
  | nil =>
    intro j ys q e
    cases q with
    | nil => rfl
    | bar _ => cases e
    | op _ _ => cases e
    | atom ha _ => obtain ⟨c, zs, rfl, _⟩ := ha.first; cases e
  | bar h ih =>
    intro j ys q e
    cases q with
    | nil => cases e
    | bar q' => simp at e; rw [ih q' e]
    | op hc _ => simp at e; rw [← e.1] at hc; exact absurd hc (by decide)
    | atom ha _ => obtain ⟨c, zs, rfl, _, n124, _⟩ := ha.first; simp at e; exact absurd e.1.symm n124
  | op hc h ih =>
    intro j ys q e
    cases q with
    | nil => cases e
    | bar _ => simp at e; rw [e.1] at hc; exact absurd hc (by decide)
    | op hc' q' => simp at e; exact ih q' e.2
    | atom ha _ => obtain ⟨c, zs, rfl, _, _, nop⟩ := ha.first; simp at e; rw [e.1] at hc; exact absurd hc nop
  | atom ha h ih =>
    intro j ys q e
    cases q with
    | nil => obtain ⟨c, zs, rfl, _⟩ := ha.first; cases e
    | bar _ => obtain ⟨c, zs, rfl, _, n124, _⟩ := ha.first; simp at e; exact absurd e.1 n124
    | op hc _ => obtain ⟨c, zs, rfl, _, _, nop⟩ := ha.first; simp at e; rw [← e.1] at hc; exact absurd hc nop
    | atom hb q' =>
      have u := atom_one ha hb e
      subst u
      exact ih q' (List.append_cancel_left e)
theorem prefM_one {n m : Nat} {p : List UInt8} : ∀ {ts us : List Pat} {i : Nat}, i ≤ p.length → SeqG (AtomG n) ts (cut p i p.length) → SeqG (AtomG m) us (cut p i p.length) → prefM ts = prefM us
  | [], us, i, hi, h, k => by
    have hip : i = p.length := by
      have hl := cut_len (p := p) (i := i) (Nat.le_refl _)
      rw [show cut p i p.length = [] from h] at hl
      simp at hl
      omega
    subst hip
    rw [seq_done k (Nat.le_refl _)]
  | t :: ts, us, i, hi, h, k => by
    have him : i < p.length := by
      refine Nat.lt_of_le_of_ne hi fun q => ?_
      subst q
      exact absurd (seq_done h (Nat.le_refl _)) (by simp)
    obtain ⟨t1, ts1, j, c, a, e1, h1⟩ := seq_step h (Nat.le_refl _) him
    obtain ⟨rfl, rfl⟩ : t1 = t ∧ ts1 = ts := by simpa using e1.symm
    obtain ⟨u1, us1, j', c', a', rfl, k1⟩ := seq_step k (Nat.le_refl _) him
    have e2 := atom_one (r := cut p j p.length) (r' := cut p j' p.length) h1.atom k1.atom (by rw [← cut_cat (Nat.le_of_lt h1.lt) h1.le, ← cut_cat (Nat.le_of_lt k1.lt) k1.le])
    have e3 : j = j' := by
      have hl := congrArg List.length e2
      rw [cut_len h1.le, cut_len k1.le] at hl
      have := h1.lt
      have := k1.lt
      omega
    subst e3
    obtain rfl : c = c' := Option.some.inj (h1.at0.symm.trans k1.at0)
    rcases h1.what with ⟨b, rfl, hs, hn, hb, hS⟩ | ⟨hnb, hw⟩
    · rcases k1.what with ⟨b', rfl, _, _, hb', kS⟩ | ⟨_, (⟨s1, s2⟩ | ⟨_, d, hd, hop, hlt⟩)⟩
      · obtain rfl : b = b' := Option.some.inj (hb.symm.trans hb')
        simp only [prefM]
        rw [prefM_one h1.le hS kS]
      · exact absurd hs (fun q => q.elim (fun z => z s1) s2)
      · exact absurd hop (hn d hd hlt)
    · rw [prefM_not hnb]
      rcases k1.what with ⟨b', rfl, hs, hn, hb', kS⟩ | ⟨knb, _⟩
      · rcases hw with ⟨s1, s2⟩ | ⟨_, d, hd, hop, hlt⟩
        · exact absurd hs (fun q => q.elim (fun z => z s1) s2)
        · exact absurd hop (hn d hd hlt)
      · rw [prefM_not knb]
theorem prefOf_one {p : List UInt8} {os us : List (List Pat)} (h : AltOk p 0 0 p.length os) (k : AltOk p 0 0 p.length us) : prefOf os = prefOf us := by
  obtain ⟨n, h1⟩ := h.gr
  obtain ⟨m, k1⟩ := k.gr
  obtain ⟨j, hj, hT⟩ := h1.tokn
  obtain ⟨j', hj', kT⟩ := k1.tokn
  have e := tokn_one hT kT rfl
  match os, us, h1, k1, hj, hj' with
  | [ts], [us], h1, k1, _, _ => exact prefM_one (Nat.zero_le _) h1 k1
  | [ts], u :: v :: us, h1, k1, hj, hj' => simp at hj hj'; omega
  | t :: v :: ts, [us], h1, k1, hj, hj' => simp at hj hj'; omega
  | t :: v :: ts, u :: x :: us, h1, k1, hj, hj' => rfl
end Go.Proofs.YtbjbdidcnkamaaaDoor

/-
  Bytes of a run's file: numbers, strings, fixed numbers, as lists (mathematics).
-/
namespace Go.Proofs.YtbjbdidcnkamaaaDoor
set_option linter.unusedVariables false
set_option linter.unusedSimpArgs false

/-- The byte of a number. -/
def byt (n : Nat) : UInt8 := UInt8.ofNat n
theorem byt_nat {n : Nat} (h : n < 256) : (byt n).toNat = n := by
  unfold byt
  rw [UInt8.toNat_ofNat']
  exact Nat.mod_eq_of_lt h
theorem byt_self (x : UInt8) : byt x.toNat = x := by
  apply UInt8.toNat_inj.1
  rw [byt_nat (UInt8.toNat_lt x)]
theorem u8lt (x : UInt8) : x.toNat < 256 := UInt8.toNat_lt x

/-- A number, seven bits a byte, the last byte below 128. -/
def num (n : Nat) : List UInt8 := if n < 128 then [byt n] else byt (128 + n % 128) :: num (n / 128)
termination_by n
decreasing_by omega
theorem num_small {n : Nat} (h : n < 128) : num n = [byt n] := by rw [num, if_pos h]
theorem num_large {n : Nat} (h : ¬ n < 128) : num n = byt (128 + n % 128) :: num (n / 128) := by rw [num, if_neg h]
theorem num_ne (n : Nat) : num n ≠ [] := by
  by_cases h : n < 128
  · rw [num_small h]; simp
  · rw [num_large h]; simp
theorem num_pos (n : Nat) : 0 < (num n).length := List.length_pos_iff.2 (num_ne n)
theorem num_len : ∀ (k n : Nat), n < 128 ^ (k + 1) → (num n).length ≤ k + 1
  | 0, n, h => by rw [num_small (by simpa using h)]; simp
  | k + 1, n, h => by
    by_cases hs : n < 128
    · rw [num_small hs]; simp
    · rw [num_large hs]
      have := num_len k (n / 128) (by rw [Nat.div_lt_iff_lt_mul (by omega), ← Nat.pow_succ]; exact h)
      simp; omega
theorem num_len64 {n : Nat} (h : n < 2 ^ 64) : (num n).length ≤ 10 := num_len 9 n (Nat.lt_trans h (by decide))

/-- A number read off, of whatever size; none where the bytes end or the form is not the shortest. -/
def getAny : List UInt8 → Option (Nat × List UInt8)
  | [] => none
  | x :: t => if x.toNat < 128 then some (x.toNat, t) else
    match getAny t with
    | none => none
    | some (n, u) => if n = 0 then none else some (x.toNat - 128 + 128 * n, u)
theorem getAny_num : ∀ (n : Nat) (t : List UInt8), getAny (num n ++ t) = some (n, t) := by
  intro n
  induction n using Nat.strongRecOn with
  | ind n ih =>
    intro t
    by_cases h : n < 128
    · rw [num_small h, List.singleton_append, getAny, if_pos (by rw [byt_nat (by omega)]; exact h), byt_nat (by omega)]
    · rw [num_large h, List.cons_append, getAny, if_neg (by rw [byt_nat (by omega)]; omega), ih (n / 128) (by omega) t]
      simp only []
      rw [if_neg (by omega), byt_nat (by omega)]
      congr 2
      omega
theorem getAny_iff {xs t : List UInt8} {n : Nat} : getAny xs = some (n, t) ↔ xs = num n ++ t := by
  constructor
  · induction xs generalizing n t with
    | nil => intro h; cases h
    | cons x l ih =>
      intro h
      rw [getAny] at h
      by_cases hx : x.toNat < 128
      · rw [if_pos hx] at h
        simp only [Option.some.injEq, Prod.mk.injEq] at h
        obtain ⟨rfl, rfl⟩ := h
        rw [num_small hx, byt_self]; rfl
      · rw [if_neg hx] at h
        cases hg : getAny l with
        | none => rw [hg] at h; cases h
        | some p =>
          obtain ⟨m, u⟩ := p
          rw [hg] at h
          simp only [] at h
          by_cases hm : m = 0
          · rw [if_pos hm] at h; cases h
          · rw [if_neg hm] at h
            simp only [Option.some.injEq, Prod.mk.injEq] at h
            obtain ⟨rfl, rfl⟩ := h
            have hx2 := u8lt x
            rw [num_large (by omega), show (x.toNat - 128 + 128 * m) / 128 = m by omega, show 128 + (x.toNat - 128 + 128 * m) % 128 = x.toNat by omega, byt_self, ih hg]
            rfl
  · rintro rfl
    exact getAny_num n t
/-- A number below 2^64 read off. -/
def getNum (xs : List UInt8) : Option (Nat × List UInt8) :=
  match getAny xs with
  | none => none
  | some (n, t) => if n < 2 ^ 64 then some (n, t) else none
theorem getNum_iff {xs t : List UInt8} {n : Nat} : getNum xs = some (n, t) ↔ n < 2 ^ 64 ∧ xs = num n ++ t := by
  unfold getNum
  cases hg : getAny xs with
  | none =>
    simp only []
    constructor
    · intro h; cases h
    · rintro ⟨_, h⟩
      rw [getAny_iff.2 h] at hg; cases hg
  | some p =>
    obtain ⟨m, u⟩ := p
    have h1 := getAny_iff.1 hg
    simp only []
    constructor
    · intro h
      split at h
      · simp only [Option.some.injEq, Prod.mk.injEq] at h
        obtain ⟨rfl, rfl⟩ := h
        exact ⟨by assumption, h1⟩
      · cases h
    · rintro ⟨h2, h3⟩
      rw [getAny_iff.2 h3] at hg
      simp only [Option.some.injEq, Prod.mk.injEq] at hg
      obtain ⟨rfl, rfl⟩ := hg
      rw [if_pos h2]
theorem getNum_num {n : Nat} (h : n < 2 ^ 64) (t : List UInt8) : getNum (num n ++ t) = some (n, t) := getNum_iff.2 ⟨h, rfl⟩
theorem num_split {n m : Nat} {s t : List UInt8} (h : num n ++ s = num m ++ t) : n = m ∧ s = t := by
  have h1 := getAny_num n s
  rw [h, getAny_num m t] at h1
  simp only [Option.some.injEq, Prod.mk.injEq] at h1
  exact ⟨h1.1.symm, h1.2.symm⟩

/-- A string with its length ahead. -/
def strB (s : List UInt8) : List UInt8 := num s.length ++ s
def getStr (xs : List UInt8) : Option (List UInt8 × List UInt8) :=
  match getNum xs with
  | none => none
  | some (n, t) => if n ≤ t.length then some (t.take n, t.drop n) else none
theorem getStr_iff {xs s t : List UInt8} : getStr xs = some (s, t) ↔ s.length < 2 ^ 64 ∧ xs = strB s ++ t := by
  unfold getStr strB
  cases hg : getNum xs with
  | none =>
    simp only []
    constructor
    · intro h; cases h
    · rintro ⟨h1, h⟩
      rw [List.append_assoc] at h
      rw [getNum_iff.2 ⟨h1, h⟩] at hg; cases hg
  | some p =>
    obtain ⟨m, u⟩ := p
    obtain ⟨h1, h2⟩ := getNum_iff.1 hg
    simp only []
    constructor
    · intro h
      split at h
      · next hm =>
        simp only [Option.some.injEq, Prod.mk.injEq] at h
        obtain ⟨rfl, rfl⟩ := h
        rw [List.length_take, Nat.min_eq_left hm]
        exact ⟨h1, by rw [List.append_assoc, List.take_append_drop]; exact h2⟩
      · cases h
    · rintro ⟨h3, h4⟩
      rw [List.append_assoc] at h4
      rw [getNum_iff.2 ⟨h3, h4⟩] at hg
      simp only [Option.some.injEq, Prod.mk.injEq] at hg
      obtain ⟨rfl, rfl⟩ := hg
      rw [if_pos (by simp)]
      simp
theorem getStr_str {s : List UInt8} (h : s.length < 2 ^ 64) (t : List UInt8) : getStr (strB s ++ t) = some (s, t) := getStr_iff.2 ⟨h, rfl⟩

/-- A number in four bytes, the least first. -/
def fixed (n : Nat) : List UInt8 := [byt (n % 256), byt (n / 256 % 256), byt (n / 65536 % 256), byt (n / 16777216 % 256)]
theorem fixed_len (n : Nat) : (fixed n).length = 4 := rfl
def fix4 (a b c d : UInt8) : Nat := a.toNat + 256 * b.toNat + 65536 * c.toNat + 16777216 * d.toNat
theorem fix4_lt (a b c d : UInt8) : fix4 a b c d < 2 ^ 32 := by
  have := u8lt a; have := u8lt b; have := u8lt c; have := u8lt d
  unfold fix4; omega
theorem fix4_fixed {n : Nat} (h : n < 2 ^ 32) : fix4 (byt (n % 256)) (byt (n / 256 % 256)) (byt (n / 65536 % 256)) (byt (n / 16777216 % 256)) = n := by
  unfold fix4
  rw [byt_nat (by omega), byt_nat (by omega), byt_nat (by omega), byt_nat (by omega)]
  omega
theorem fixed_fix4 (a b c d : UInt8) : fixed (fix4 a b c d) = [a, b, c, d] := by
  have ha := u8lt a; have hb := u8lt b; have hc := u8lt c; have hd := u8lt d
  unfold fixed fix4
  rw [show (a.toNat + 256 * b.toNat + 65536 * c.toNat + 16777216 * d.toNat) % 256 = a.toNat by omega,
    show (a.toNat + 256 * b.toNat + 65536 * c.toNat + 16777216 * d.toNat) / 256 % 256 = b.toNat by omega,
    show (a.toNat + 256 * b.toNat + 65536 * c.toNat + 16777216 * d.toNat) / 65536 % 256 = c.toNat by omega,
    show (a.toNat + 256 * b.toNat + 65536 * c.toNat + 16777216 * d.toNat) / 16777216 % 256 = d.toNat by omega]
  simp only [byt_self]
/-- The four bytes at a place, as a number. -/
def fixAt (xs : List UInt8) (i : Nat) : Nat := fix4 (xs.getD i 0) (xs.getD (i + 1) 0) (xs.getD (i + 2) 0) (xs.getD (i + 3) 0)
theorem fixAt_lt (xs : List UInt8) (i : Nat) : fixAt xs i < 2 ^ 32 := fix4_lt _ _ _ _
theorem fixAt_fixed {n : Nat} (h : n < 2 ^ 32) (xs t : List UInt8) : fixAt (xs ++ (fixed n ++ t)) xs.length = n := by
  unfold fixAt fixed
  simp only [List.getD_eq_getElem?_getD, List.getElem?_append_right (Nat.le_refl _), List.getElem?_append_right (show xs.length ≤ xs.length + 1 by omega), List.getElem?_append_right (show xs.length ≤ xs.length + 2 by omega), List.getElem?_append_right (show xs.length ≤ xs.length + 3 by omega), Nat.sub_self, Nat.add_sub_cancel_left]
  exact fix4_fixed h

/-- How many bytes two strings have in common at their beginning. -/
def shared : List UInt8 → List UInt8 → Nat
  | x :: s, y :: t => if x = y then shared s t + 1 else 0
  | _, _ => 0
theorem shared_le : ∀ (s t : List UInt8), shared s t ≤ s.length ∧ shared s t ≤ t.length
  | [], _ => by simp [shared]
  | _ :: _, [] => by simp [shared]
  | x :: s, y :: t => by
    have := shared_le s t
    unfold shared
    split <;> simp <;> omega
theorem shared_take : ∀ (s t : List UInt8), s.take (shared s t) = t.take (shared s t)
  | [], _ => by simp [shared]
  | _ :: _, [] => by simp [shared]
  | x :: s, y :: t => by
    unfold shared
    split
    · next h => rw [List.take_succ_cons, List.take_succ_cons, shared_take s t, h]
    · rfl
/-- The loop's own words: one more in common. -/
theorem shared_iff : ∀ (s t : List UInt8) (n : Nat), n ≤ s.length → n ≤ t.length → s.take n = t.take n → (n = s.length ∨ n = t.length ∨ s[n]? ≠ t[n]?) → shared s t = n
  | [], t, n, h1, _, _, _ => by simp at h1; subst h1; simp [shared]
  | x :: s, [], n, _, h2, _, _ => by simp at h2; subst h2; simp [shared]
  | x :: s, y :: t, 0, _, _, _, h4 => by
    unfold shared
    rw [if_neg]
    rintro rfl
    simp at h4
  | x :: s, y :: t, n + 1, h1, h2, h3, h4 => by
    rw [List.take_succ_cons, List.take_succ_cons] at h3
    obtain ⟨rfl, h5⟩ := List.cons.inj h3
    unfold shared
    rw [if_pos rfl, shared_iff s t n (by simpa using h1) (by simpa using h2) h5 (by simpa using h4)]
end Go.Proofs.YtbjbdidcnkamaaaDoor

/-
  The checksum of a list of bytes (mathematics).
-/
namespace Go.Proofs.YtbjbdidcnkamaaaDoor
set_option linter.unusedVariables false
set_option linter.unusedSimpArgs false

/-- One bit. -/
def sh (c : BitVec 32) : BitVec 32 := if c.toNat % 2 = 1 then (c >>> 1) ^^^ 3988292384#32 else c >>> 1
def shN : Nat → BitVec 32 → BitVec 32
  | 0, c => c
  | k + 1, c => sh (shN k c)
/-- One byte. -/
def crcB (c : BitVec 32) (x : UInt8) : BitVec 32 := shN 8 (c ^^^ BitVec.ofNat 32 x.toNat)
def crcTo (c : BitVec 32) (xs : List UInt8) : BitVec 32 := xs.foldl crcB c
def crc (xs : List UInt8) : BitVec 32 := crcTo 4294967295#32 xs ^^^ 4294967295#32
theorem crcTo_snoc (c : BitVec 32) (xs : List UInt8) (x : UInt8) : crcTo c (xs ++ [x]) = crcB (crcTo c xs) x := by simp [crcTo]
theorem crcTo_append (c : BitVec 32) (xs ys : List UInt8) : crcTo c (xs ++ ys) = crcTo (crcTo c xs) ys := by simp [crcTo]

theorem bit0 (c : BitVec 32) : c.getLsbD 0 = decide (c.toNat % 2 = 1) := by
  unfold BitVec.getLsbD
  exact Nat.testBit_zero _
theorem sh_inj {a b : BitVec 32} (h : sh a = sh b) : a = b := by
  have top : ∀ c : BitVec 32, (sh c).getLsbD 31 = c.getLsbD 0 := by
    intro c
    unfold sh
    by_cases h : c.toNat % 2 = 1
    · rw [if_pos h, BitVec.getLsbD_xor, BitVec.getLsbD_ushiftRight, BitVec.getLsbD_of_ge c (1 + 31) (by omega)]
      have : c.getLsbD 0 = true := by rw [bit0]; simp [h]
      rw [this]; decide
    · rw [if_neg h, BitVec.getLsbD_ushiftRight, BitVec.getLsbD_of_ge c (1 + 31) (by omega)]
      have : c.getLsbD 0 = false := by rw [bit0]; simp [h]
      rw [this]
  have low : a.getLsbD 0 = b.getLsbD 0 := by rw [← top a, ← top b, h]
  have par : (a.toNat % 2 = 1) ↔ (b.toNat % 2 = 1) := by
    rw [bit0, bit0] at low
    exact decide_eq_decide.1 low
  have hs : a >>> 1 = b >>> 1 := by
    unfold sh at h
    by_cases q : a.toNat % 2 = 1
    · rw [if_pos q, if_pos (par.1 q)] at h
      exact (BitVec.xor_left_inj _).1 h
    · rw [if_neg q, if_neg (fun r => q (par.2 r))] at h
      exact h
  apply BitVec.eq_of_getLsbD_eq
  intro i hi
  cases i with
  | zero => exact low
  | succ i =>
    have := congrArg (fun x => x.getLsbD i) hs
    simp only [BitVec.getLsbD_ushiftRight] at this
    rw [Nat.add_comm]; exact this
theorem shN_inj : ∀ (k : Nat) {a b : BitVec 32}, shN k a = shN k b → a = b
  | 0, _, _, h => h
  | k + 1, _, _, h => shN_inj k (sh_inj h)
theorem crcB_inj {a b : BitVec 32} {x : UInt8} (h : crcB a x = crcB b x) : a = b := (BitVec.xor_left_inj _).1 (shN_inj 8 h)
theorem crcTo_inj : ∀ (xs : List UInt8) {a b : BitVec 32}, crcTo a xs = crcTo b xs → a = b
  | [], _, _, h => h
  | x :: xs, a, b, h => crcB_inj (crcTo_inj xs (show crcTo (crcB a x) xs = crcTo (crcB b x) xs from h))
/-- One byte changed: another checksum. -/
theorem crc_one {xs ys : List UInt8} {a b : UInt8} (hab : ¬ a = b) : ¬ crc (xs ++ a :: ys) = crc (xs ++ b :: ys) := by
  intro h
  have h1 := (BitVec.xor_left_inj _).1 h
  rw [crcTo_append, crcTo_append] at h1
  have h2 : crcB (crcTo 4294967295#32 xs) a = crcB (crcTo 4294967295#32 xs) b := crcTo_inj ys h1
  have h3 := (BitVec.xor_right_inj _).1 (shN_inj 8 h2)
  apply hab
  apply UInt8.toNat_inj.1
  have h4 := congrArg BitVec.toNat h3
  have ha := u8lt a
  have hb := u8lt b
  rw [BitVec.toNat_ofNat, BitVec.toNat_ofNat, Nat.mod_eq_of_lt (by omega), Nat.mod_eq_of_lt (by omega)] at h4
  exact h4
end Go.Proofs.YtbjbdidcnkamaaaDoor

/-
  Bytes in memory.
-/
namespace Go.Proofs.YtbjbdidcnkamaaaDoor
open Go.ChangeShapes Go.WideShapes Go.ChangeAt Go.RowKit Go.Deep
set_option linter.unusedVariables false
set_option linter.unusedSimpArgs false
set_option maxRecDepth 100000

abbrev ub (x : UInt8) : Value := .int .u8 (x.toNat : Int)
/-- The bytes lie there. -/
def BysAt (w : World) (b off : Nat) (xs : List UInt8) : Prop := ∀ i x, xs[i]? = some x → w.cell? ⟨b, off + i, none⟩ = some (ub x)
theorem BysAt.below {B : Nat} {w w' : World} {b off : Nat} {xs : List UInt8} (h : BysAt w b off xs) (hb : Below B w w') (hlt : b < B) : BysAt w' b off xs := by
  intro i x hx
  rw [hb.cell (p := ⟨b, off + i, none⟩) hlt]
  exact h i x hx

theorem xor32 (s t : BitVec 32) {x : Int} (hx : x = (t.toNat : Int)) : bits .xor .u32 (s.toNat : Int) x = ((s ^^^ t).toNat : Int) := by
  subst hx
  have h1 : BitVec.ofInt 32 (s.toNat : Int) = s := by simp
  have h2 : BitVec.ofInt 32 (t.toNat : Int) = t := by simp
  show IntKind.wrap .u32 ((BitVec.ofInt 32 (s.toNat : Int) ^^^ BitVec.ofInt 32 (t.toNat : Int)).toNat : Int) = _
  rw [h1, h2]
  have := (s ^^^ t).isLt
  simp only [IntKind.wrap, IntKind.bits, IntKind.signed, Bool.false_and, Bool.false_eq_true, if_false]
  omega
end Go.Proofs.YtbjbdidcnkamaaaDoor

/-
  Bytes of the call's own; append; l2Num, l2Cat, l2Str, l2Fixed, l2Shared.
-/
namespace Go.Proofs.YtbjbdidcnkamaaaDoor
open Go.ChangeShapes Go.WideShapes Go.ChangeAt Go.RowKit Go.Deep
set_option linter.unusedVariables false
set_option linter.unusedSimpArgs false
set_option maxRecDepth 100000

/-- A row of bytes of the call's own. -/
def OwnY (w : World) (base g cp : Nat) (xs : List UInt8) : Prop := w.ownsRow base 5 1 (.slice (some ⟨g, 0, none⟩) xs.length cp) xs.length (xs.map ub)
theorem OwnY.lt {w : World} {base g cp : Nat} {xs : List UInt8} (h : OwnY w base g cp xs) : base ≤ g ∧ g < w.heap.size := World.ownsRow.lt h g rfl
theorem OwnY.chg {S : Nat → Prop} {w w' : World} {base g cp : Nat} {xs : List UInt8} (h : OwnY w base g cp xs) (hc : Chg S w w') (hn : ¬ S g) : OwnY w' base g cp xs := own_chg h hc (fun k q => by simp [Value.ownBlock] at q; subst q; exact hn)
theorem OwnY.below {w w' : World} {base g cp : Nat} {xs : List UInt8} (h : OwnY w base g cp xs) (hb : Below w.heap.size w w') : OwnY w' base g cp xs := h.chg (Chg.of_below hb) (S := fun _ => False) (fun q => q)
theorem OwnY.at {w : World} {base g cp : Nat} {xs : List UInt8} (h : OwnY w base g cp xs) : BysAt w g 0 xs := by
  intro k x hx
  have hk := (List.getElem?_eq_some_iff.1 hx).1
  rw [Nat.zero_add, World.ownsRow.cellAt h k (by omega), List.getElem?_map, hx]; rfl
theorem OwnY.caps {w : World} {base g cp : Nat} {xs : List UInt8} (h : OwnY w base g cp xs) : xs.length ≤ cp ∧ cp ≤ maxLen := by
  rcases h.2 with ⟨h0, _⟩ | ⟨g', cap', cur, hv, _, _, hn, hcap, _, _⟩
  · cases h0
  · simp only [Value.slice.injEq, Option.some.injEq, Addr.mk.injEq, and_true, true_and] at hv
    obtain ⟨rfl, rfl⟩ := hv
    exact ⟨hn, hcap⟩
theorem OwnY.mono {w : World} {base base' g cp : Nat} {xs : List UInt8} (h : OwnY w base g cp xs) (hb : base' ≤ base) : OwnY w base' g cp xs := by
  refine ⟨h.1, ?_⟩
  rcases h.2 with hn | ⟨g', cap', cur, hv, h1, rest⟩
  · exact .inl hn
  · exact .inr ⟨g', cap', cur, hv, Nat.le_trans hb h1, rest⟩
theorem ub_one (xs : List UInt8) : ∀ u ∈ xs.map ub, u.oneCell' = true := by
  intro u hu
  obtain ⟨r, _, rfl⟩ := List.mem_map.1 hu
  rfl
theorem Tryd.infoByte : (Tryd.prog.info? 5).map (fun i => (i.zero, i.size, i.bytes)) = some (some (.int .u8 0), 1, 1) := by kernel_rfl
theorem ownY_new (w : World) {base : Nat} (hb : base ≤ w.heap.size) : OwnY (w.alloc (Obj.cells #[] 5)) base w.heap.size 0 [] :=
  World.ownsRow_made w #[] 0 hb (Nat.zero_le _) (by simp)
theorem ownY_one (w : World) {base : Nat} (hb : base ≤ w.heap.size) (x : UInt8) {v : Int} (hv : v = (x.toNat : Int)) : OwnY (w.alloc (Obj.cells #[.int .u8 v] 5)) base w.heap.size 1 [x] := by
  subst hv
  exact World.ownsRow_lit w #[ub x] 1 hb (by decide) rfl

end Go.Proofs.YtbjbdidcnkamaaaDoor

/-
  (impl.seqNode).prefix, impl.PrefixOf.
-/
namespace Go.Proofs.YtbjbdidcnkamaaaDoor
open Go.ChangeShapes Go.WideShapes Go.ChangeAt Go.RowKit Go.Deep
set_option linter.unusedVariables false
set_option linter.unusedSimpArgs false
set_option maxRecDepth 100000

theorem pb_assert (b : UInt8) (w : World) : (Instr.typeAssert (byteV b) 78 80 true).run Tryd.prog w = .ok (.tuple #[.agg #[.int .u8 (b.toNat : Int)], .bool true]) w := by kernel_rfl
theorem pb_other {T : Nat} (hT : T = 86 ∨ T = 88 ∨ T = 31) (cs : Array Value) (w : World) : (Instr.typeAssert (.iface T (.agg cs)) 78 80 true).run Tryd.prog w = .ok (.tuple #[.agg #[.int .u8 0], .bool false]) w := by
  rcases hT with rfl | rfl | rfl <;> kernel_rfl
/-- A node that is a byte, and one that is not. -/
theorem NodeOk.kind {w : World} {lo : Nat → Prop} {t : Pat} {v : Value} (h : NodeOk w lo t v) : (∃ b, t = .byte b ∧ v = byteV b) ∨ (¬ isByte t ∧ ∃ T cs, v = .iface T (.agg cs) ∧ (T = 86 ∨ T = 88 ∨ T = 31)) := by
  obtain ⟨n, hn⟩ := h
  cases n with
  | zero => exact hn.elim
  | succ n =>
    cases t with
    | byte b => exact .inl ⟨b, rfl, hn⟩
    | cls f => exact .inr ⟨fun h => h, _, _, hn, .inl rfl⟩
    | rep t o r => obtain ⟨u, h1, _⟩ := hn; exact .inr ⟨fun h => h, _, _, h1, .inr (.inl rfl)⟩
    | alt os => obtain ⟨u, h1, _⟩ := hn; exact .inr ⟨fun h => h, _, _, h1, .inr (.inr rfl)⟩
/-- A seq's nodes, one by one. -/
theorem SeqAt.nth {w : World} {R : Nat → Prop} {ts : List Pat} {u : Value} (h : SeqAt w R ts u) : ∃ a cp, u = .slice a ts.length cp ∧ ∀ k t, ts[k]? = some t → ∃ gs v, a = some ⟨gs, 0, none⟩ ∧ gs < w.heap.size ∧ w.cell? ⟨gs, k, none⟩ = some v ∧ NodeOk w R t v := by
  obtain ⟨n, h | ⟨g, cp, us, h1, h2, h3, h4⟩⟩ := h
  · obtain ⟨rfl, rfl⟩ := h
    exact ⟨none, 0, rfl, fun k t ht => by simp at ht⟩
  · refine ⟨_, cp, h1, fun k t ht => ?_⟩
    have hk := (List.getElem?_eq_some_iff.1 ht).1
    obtain ⟨v, hv⟩ : ∃ v, us[k]? = some v := ⟨_, List.getElem?_eq_getElem (by omega)⟩
    exact ⟨g, v, rfl, h3.lt, h3.val k v hv, n, h4 k v t hv ht⟩
def set2 (w : World) (g : Nat) (a b : Value) : World := (w.setCell ⟨g, 0, none⟩ a).setCell ⟨g, 1, none⟩ b
theorem set2_cells {w : World} {base t g : Nat} {x y : Value} (h : BoxAt w base t 2 g [x, y]) (a b : Value) : BoxAt (set2 w g a b) base t 2 g [a, b] := ((h.set 0 a).set 1 b)

theorem AltAt.nth {w : World} {R : Nat → Prop} {os : List (List Pat)} {u : Value} (h : AltAt w R os u) : ∃ g cp, u = .slice (some ⟨g, 0, none⟩) os.length cp ∧ g < w.heap.size ∧ ∀ k ts, os[k]? = some ts → ∃ v, w.cell? ⟨g, k, none⟩ = some v ∧ SeqAt w R ts v := by
  obtain ⟨n, g, cp, us, h1, h2, h3, h4⟩ := h
  refine ⟨g, cp, h1, h3.lt, fun k ts ht => ?_⟩
  have hk := (List.getElem?_eq_some_iff.1 ht).1
  obtain ⟨v, hv⟩ : ∃ v, us[k]? = some v := ⟨_, List.getElem?_eq_getElem (by omega)⟩
  exact ⟨v, h3.val k v hv, n, h4 k v ts hv ht⟩
theorem pref_is (p : ByteArray) (hp : p.size ≤ maxLen) : (checkM (sb p)).1 = 0 → ∃ os, AltOk (sb p) 0 0 p.size os := by
  intro h
  obtain ⟨e, w', fr, ⟨u, _, _, (⟨_, os, h1, _⟩ | ⟨h1, _⟩)⟩, _⟩ := readPattern_core p default hp []
  · exact ⟨os, h1⟩
  · exact absurd h h1
/-- What PrefixOf of a pattern comes to. -/
def PrefIs (p : ByteArray) (r : List UInt8 × Bool) : Prop := (¬ (checkM (sb p)).1 = 0 → r = ([], false)) ∧ ((checkM (sb p)).1 = 0 → ∀ os, AltOk (sb p) 0 0 p.size os → r = prefOf os)
theorem prefIs_some (p : ByteArray) (hp : p.size ≤ maxLen) : ∃ r, PrefIs p r := by
  by_cases h : (checkM (sb p)).1 = 0
  · obtain ⟨os, ho⟩ := pref_is p hp h
    refine ⟨prefOf os, fun q => absurd h q, fun _ us hu => prefOf_one (by rw [sb_len]; exact ho) (by rw [sb_len]; exact hu)⟩
  · exact ⟨_, fun _ => rfl, fun q => absurd q h⟩
theorem seqG_len {A : List UInt8 → Pat → Prop} (hA : ∀ xs t, A xs t → 0 < xs.length) : ∀ {ts : List Pat} {xs : List UInt8}, SeqG A ts xs → ts.length ≤ xs.length
  | [], _, _ => Nat.zero_le _
  | _ :: ts, _, ⟨ys, zs, h1, ⟨us, ops, a, h2, h3, _⟩, h4⟩ => by
    have := seqG_len hA h4
    have := hA _ _ h3
    rw [h1, h2]
    simp
    omega

end Go.Proofs.YtbjbdidcnkamaaaDoor

/-
  impl.MatchRegex.
-/
namespace Go.Proofs.YtbjbdidcnkamaaaDoor
open Go.ChangeShapes Go.WideShapes Go.ChangeAt Go.RowKit Go.Deep
set_option linter.unusedVariables false
set_option linter.unusedSimpArgs false
set_option maxRecDepth 100000

set_option maxHeartbeats 1000000 in
theorem matches_long (M : Nat) (s : ByteArray) (hs : 200 < s.size) (w : World) : Calls Tryd.prog 10 #[.pointer (some ⟨M, 0, none⟩), .string s] w fun e w' => e = .returned (.bool false) ∧ w' = w := by
  have zs : (200 : Int) < (s.size : Int) := by omega
  go_enter Tryd.func10, Tryd.ntmps10
  go_wp2_with fail
  go_ret
  exact ⟨rfl, rfl⟩
/-- A pattern without a fault, made and matched. -/
theorem made_matches (os : List (List Pat)) (hwt : wtA os ≤ 250) (s : ByteArray) (w w' : World) {M G cp mp : Nat} (h : MtrI w' w.heap.size M (mkT (lyA os (Lay.no 1))) G cp (lyA os (Lay.no 1)).nx (mkE (lyA os (Lay.no 1))) (mkN (lyA os (Lay.no 1)) (nulA os)) mp) (hm : w'.heap[mp]? = some (.map #[] 0)) (hb : w.heap.size ≤ mp) : Calls Tryd.prog 10 #[.pointer (some ⟨M, 0, none⟩), .string s] w' fun e w2 => ∃ b : Bool, e = .returned (.bool b) ∧ Hid ((b = true ↔ s.size ≤ 200 ∧ LgA os (sb s)) ∧ Chg (fun k => k = mp) w' w2) := by
  have hc := cor_P (.alt os) 1
  have e1 : lyP (.alt os) 1 = lyA os (Lay.no 1) := by simp only [lyP]
  rw [e1] at hc
  have hnx : (lyA os (Lay.no 1)).nx ≤ 256 := by have := nx_A os (Lay.no 1); simp only [Lay.no] at this; simp only [Lay.no]; omega
  by_cases hs : s.size ≤ 200
  · refine (matches_core s hs w' h (StI.made hm) (fun b p hp => (hc.spt.tk p _ hp).2) hc.spt.le hnx hb).mono ?_
    rintro e w2 ⟨b, rfl, H⟩
    refine ⟨b, rfl, ?_, H.out.2⟩
    rw [H.out.1, run_words os hnx]
    exact ⟨fun q => ⟨hs, q⟩, fun q => q.2⟩
  · refine (matches_long M s (by omega) w').mono ?_
    rintro e w2 ⟨rfl, rfl⟩
    exact ⟨false, rfl, ⟨fun q => (by cases q), fun q => absurd q.1 hs⟩, Chg.refl _ _⟩
def MatR2 (p s : ByteArray) (w : World) (e : Ending) (w' : World) : Prop := ∃ b : Bool, e = .returned (.bool b) ∧ Hid (Below w.heap.size w w' ∧ ((¬ (checkM (sb p)).1 = 0 ∧ b = false) ∨ ((checkM (sb p)).1 = 0 ∧ ∃ n os, AltG (AtomG n) os (sb p) ∧ (b = true ↔ s.size ≤ 200 ∧ LgA os (sb s)))))
set_option maxHeartbeats 4000000 in
theorem implMatch_core (p s : ByteArray) (w : World) (hpm : p.size ≤ maxLen) (hT : TabD w) : Calls Tryd.prog 5 #[.string p, .string s] w (MatR2 p s w) := by
  obtain ⟨c, hc⟩ : ∃ c, c = (checkM (sb p)).1 := ⟨_, rfl⟩
  obtain ⟨k, hk⟩ : ∃ k, k = (checkM (sb p)).2 := ⟨_, rfl⟩
  have HC : Hid (c = (checkM (sb p)).1) := hc
  have HT : Hid (TabD w) := hT
  clear hT
  go_enter Tryd.func5, Tryd.ntmps5
  go_wp2_with fail
  refine (readPattern_core p w hpm).mono ?_
  rintro e w1 ⟨u, rfl, hb1, hu⟩
  rw [← hc, ← hk]
  obtain ⟨ua, un, uc, rfl⟩ : ∃ a n cp, u = .slice a n cp := by
    rcases hu with ⟨_, os, _, hU⟩ | ⟨_, rfl⟩
    · obtain ⟨g, n, cp, rfl⟩ := hU.slice; exact ⟨_, _, _, rfl⟩
    · exact ⟨_, _, _, rfl⟩
  obtain ⟨W2, hW2⟩ : ∃ W2 : World, W2 = (w1.alloc (Obj.cells #[.slice ua un uc] 31)).alloc (Obj.cells #[.int .i64 c, .int .i64 (k : Int)] 24) := ⟨_, rfl⟩
  have hb2 : Below w1.heap.size w1 W2 := by rw [hW2]; exact ((Below.refl _ _).alloc (Nat.le_refl _) _).alloc (by simp) _
  have h1 := hb1.size
  have HW2 : Hid (BoxAt W2 w.heap.size 24 2 (w1.heap.size + 1) [.int .i64 c, .int .i64 (k : Int)] ∧ BoxAt W2 w.heap.size 31 1 w1.heap.size [.slice ua un uc] ∧ Below w.heap.size w W2) := by
    refine ⟨?_, ?_, hb1.trans (hb2.mono h1)⟩
    · rw [hW2]
      exact BoxAt.ofHeap (vs := #[.int .i64 c, .int .i64 (k : Int)]) (heap_alloc2_new w1 _ _) (by omega) rfl
    · rw [hW2]
      exact BoxAt.ofHeap (vs := #[.slice ua un uc]) (heap_alloc2_old w1 _ _) (by omega) rfl
  have HU : Hid ((c = 0 ∧ ∃ os, AltOk (sb p) 0 0 p.size os ∧ AltAt W2 (Bet w.heap.size w1.heap.size) os (.slice ua un uc)) ∨ ¬ c = 0) := by
    rw [hc]
    rcases hu with ⟨q, os, ho, hU⟩ | ⟨q, _⟩
    · exact .inl ⟨q, os, ho, hU.move (S := fun _ => False) (Chg.of_below hb2) (fun q hq => hq.elim) (fun q _ z => z)⟩
    · exact .inr q
  have hsz : w1.heap.size ≤ W2.heap.size := hb2.size
  clear hu hc hk hb2
  go_upto_region 2 with fail
  rw [← hW2]
  clear hW2
  have b0 := HW2.out.1.cell (j := 0) rfl
  have a0 := HW2.out.2.1.cell (j := 0) rfl
  by_cases hc0 : c = 0
  · subst hc0
    rcases HU.out with ⟨_, os, ho, d, hU⟩ | q
    · obtain ⟨n, hg⟩ := ho.gr
      have ecut : cut (sb p) 0 p.size = sb p := by unfold cut; rw [List.drop_zero, Nat.sub_zero, ← sb_len, List.take_length]
      rw [ecut] at hg
      have hp : p.size ≤ 200 := by
        apply Classical.byContradiction
        intro h6
        have q0 : (checkM (sb p)).1 = 0 := HC.out.symm
        unfold checkM at q0
        rw [if_pos (by rw [sb_len]; omega)] at q0
        exact absurd q0 (by decide)
      have hwt : wtA os ≤ 250 := by have := wt_alt (fun xs t q => wt_atom n xs t q) hg; rw [sb_len] at this; omega
      have hTW : TabD W2 := HT.out.chg (S := fun _ => False) (Chg.of_below (HW2.out.2.2)) (fun q => q)
      obtain ⟨sa, sn, sc, hsl, hmk⟩ := makeMatcher_core W2 hTW (fun k hk => by have := hk.2; omega) hU hwt
      simp only [Value.slice.injEq] at hsl
      obtain ⟨rfl, rfl, rfl⟩ := hsl
      have HMk : Hid (Calls Tryd.prog 9 #[.agg #[.slice ua un uc]] W2 (MkR os W2)) := hmk
      have HG : Hid (AltG (AtomG n) os (sb p) ∧ wtA os ≤ 250) := ⟨hg, hwt⟩
      clear ho hU hg hp hwt hTW hmk ecut
      go_wp2_with fail
      refine HMk.out.mono ?_
      rintro e w3 ⟨M, G, cp, mp, rfl, H3⟩
      have HMa : Hid (Calls Tryd.prog 10 #[.pointer (some ⟨M, 0, none⟩), .string s] w3 fun e w2 => ∃ b : Bool, e = .returned (.bool b) ∧ Hid ((b = true ↔ s.size ≤ 200 ∧ LgA os (sb s)) ∧ Chg (fun k => k = mp) w3 w2)) := made_matches os HG.out.2 s W2 w3 H3.out.1 H3.out.2.1 H3.out.2.2.1
      go_wp2_with fail
      refine HMa.out.mono ?_
      rintro e w4 ⟨b, rfl, H4⟩
      have HF : Hid (MatR2 p s w (.returned (.bool b)) w4) := by
        have s2 := HW2.out.2.2.size
        have hx := HW2.out.2.2.trans (H3.out.2.2.2.mono s2)
        refine ⟨b, rfl, Chg.below hx H4.out.2 hx.size (fun k q => by have := H3.out.2.2.1; omega), .inr ⟨HC.out.symm, n, os, HG.out.1, H4.out.1⟩⟩
      go_wp2_with fail
      go_ret
      exact HF.out
    · exact absurd rfl q
  · go_wp2_with fail
    go_ret
    exact ⟨false, rfl, HW2.out.2.2, .inl ⟨by rw [← HC.out]; exact hc0, rfl⟩⟩
end Go.Proofs.YtbjbdidcnkamaaaDoor

/-
  spec.l4Ch, l4Op, l4Class, CheckRegex.
-/
namespace Go.Proofs.YtbjbdidcnkamaaaDoor
open Go.ChangeShapes Go.WideShapes Go.ChangeAt Go.RowKit Go.Deep
set_option linter.unusedVariables false
set_option linter.unusedSimpArgs false
set_option maxRecDepth 100000

theorem ne_u8 {x c : UInt8} (h : ¬ x = c) : ¬ (x.toNat : Int) = (c.toNat : Int) := fun q => h (UInt8.toNat_inj.1 (by omega))
set_option maxHeartbeats 2000000 in
theorem l4Ch_core (p : ByteArray) (i : Nat) (w : World) (hp : p.size ≤ 200) (hi : i ≤ 300) (c : UInt8) (k : Nat) (b : Bool) (h : chM (sb p) i = (c, k, b)) :
    Calls Tryd.prog 26 #[.string p, .int .i64 (i : Int)] w fun e w' => e = .returned (.tuple #[.int .u8 (c.toNat : Int), .int .i64 (k : Int), .bool b]) ∧ w' = w := by
  have HM : Hid (chM (sb p) i = (c, k, b)) := h
  clear h
  by_cases hlt : i < p.size
  · obtain ⟨x, hx⟩ : ∃ x, (sb p)[i]? = some x := ⟨_, List.getElem?_eq_getElem (by rw [sb_len]; exact hlt)⟩
    obtain ⟨_, gx⟩ := sb_get hx
    have z1 : (i : Int) < (p.size : Int) := by omega
    have hle : ¬ p.size ≤ i := by omega
    have HX : Hid ((sb p)[i]? = some x) := hx
    clear hx
    by_cases hend : x = 93 ∨ x = 45
    · have HF : c = 0 ∧ k = i ∧ b = false := by
        have h1 : chM (sb p) i = (0, i, false) := by unfold chM; rw [HX.out]; simp only []; rw [if_pos hend]
        rw [HM.out] at h1
        simpa using h1
      obtain ⟨rfl, rfl, rfl⟩ := HF
      rcases hend with rfl | rfl
      all_goals go_enter Tryd.func26, Tryd.ntmps26
      all_goals go_wp2_with fail
      all_goals refine bodyPost_ret (v := .tuple #[.int .u8 0, .int .i64 (k : Int), .bool false]) (by simp [results, Tryd.results26, go_sem]) rfl ⟨rfl, rfl⟩
    have h93 : ((x.toNat : Int) == 93) = false := beq_eq_false_iff_ne.2 (ne_u8 (c := 93) (fun q => hend (.inl q)))
    have h45 : ((x.toNat : Int) == 45) = false := beq_eq_false_iff_ne.2 (ne_u8 (c := 45) (fun q => hend (.inr q)))
    by_cases h92 : x = 92
    · subst h92
      by_cases hl2 : i + 1 < p.size
      · obtain ⟨y, hy⟩ : ∃ y, (sb p)[i + 1]? = some y := ⟨_, List.getElem?_eq_getElem (by rw [sb_len]; exact hl2)⟩
        obtain ⟨_, gy⟩ := sb_get hy
        have HF : c = y ∧ k = i + 2 ∧ b = true := by
          have h1 : chM (sb p) i = (y, i + 2, true) := by rw [chM_esc HX.out, hy]
          rw [HM.out] at h1
          simpa using h1
        obtain ⟨rfl, rfl, rfl⟩ := HF
        have z2 : (i : Int) + 1 < (p.size : Int) := by omega
        clear hy
        go_enter Tryd.func26, Tryd.ntmps26
        go_wp2_with fail
        refine bodyPost_ret (v := .tuple #[.int .u8 (c.toNat : Int), .int .i64 ((i + 2 : Nat) : Int), .bool true]) (by simp [results, Tryd.results26, go_sem]) rfl ⟨rfl, rfl⟩
      · have HF : c = 0 ∧ k = i + 1 ∧ b = false := by
          have h1 : chM (sb p) i = (0, i + 1, false) := by rw [chM_esc HX.out, List.getElem?_eq_none (by rw [sb_len]; omega)]
          rw [HM.out] at h1
          simpa using h1
        obtain ⟨rfl, rfl, rfl⟩ := HF
        have z2 : ¬ (i : Int) + 1 < (p.size : Int) := by omega
        go_enter Tryd.func26, Tryd.ntmps26
        go_wp2_with fail
        refine bodyPost_ret (v := .tuple #[.int .u8 0, .int .i64 ((i + 1 : Nat) : Int), .bool false]) (by simp [results, Tryd.results26, go_sem]) rfl ⟨rfl, rfl⟩
    · have z92 : ((x.toNat : Int) == 92) = false := beq_eq_false_iff_ne.2 (ne_u8 (c := 92) h92)
      have HF : c = x ∧ k = i + 1 ∧ b = true := by
        have h1 : chM (sb p) i = (x, i + 1, true) := by unfold chM; rw [HX.out]; simp only []; rw [if_neg hend, if_neg h92]
        rw [HM.out] at h1
        simpa using h1
      obtain ⟨rfl, rfl, rfl⟩ := HF
      go_enter Tryd.func26, Tryd.ntmps26
      go_wp2_with fail
      refine bodyPost_ret (v := .tuple #[.int .u8 (c.toNat : Int), .int .i64 ((i + 1 : Nat) : Int), .bool true]) (by simp [results, Tryd.results26, go_sem]) rfl ⟨rfl, rfl⟩
  · have HF : c = 0 ∧ k = i ∧ b = false := by
      have h1 : chM (sb p) i = (0, i, false) := chM_end (List.getElem?_eq_none (by rw [sb_len]; omega))
      rw [HM.out] at h1
      simpa using h1
    obtain ⟨rfl, rfl, rfl⟩ := HF
    have z1 : ¬ (k : Int) < (p.size : Int) := by omega
    have z2 : (p.size : Int) ≤ (k : Int) := by omega
    go_enter Tryd.func26, Tryd.ntmps26
    go_wp2_with fail
    refine bodyPost_ret (v := .tuple #[.int .u8 0, .int .i64 (k : Int), .bool false]) (by simp [results, Tryd.results26, go_sem]) rfl ⟨rfl, rfl⟩

set_option maxHeartbeats 1000000 in
theorem l4Op_core (c : UInt8) (w : World) : Calls Tryd.prog 11 #[.int .u8 (c.toNat : Int)] w fun e w' => e = .returned (.bool (decide (isOp c))) ∧ w' = w := by
  by_cases h42 : c = 42
  · subst h42
    go_enter Tryd.func11, Tryd.ntmps11
    go_wp2_with fail
    go_ret
    exact ⟨rfl, rfl⟩
  by_cases h43 : c = 43
  · subst h43
    go_enter Tryd.func11, Tryd.ntmps11
    go_wp2_with fail
    go_ret
    exact ⟨rfl, rfl⟩
  by_cases h63 : c = 63
  · subst h63
    go_enter Tryd.func11, Tryd.ntmps11
    go_wp2_with fail
    go_ret
    exact ⟨rfl, rfl⟩
  have z1 : ((c.toNat : Int) == 42) = false := beq_eq_false_iff_ne.2 (ne_u8 (c := 42) h42)
  have z2 : ((c.toNat : Int) == 43) = false := beq_eq_false_iff_ne.2 (ne_u8 (c := 43) h43)
  have z3 : ((c.toNat : Int) == 63) = false := beq_eq_false_iff_ne.2 (ne_u8 (c := 63) h63)
  have H : Hid (decide (isOp c) = false) := decide_eq_false (fun q => q.elim h42 (fun q => q.elim h43 h63))
  go_enter Tryd.func11, Tryd.ntmps11
  go_wp2_with fail
  go_ret
  exact ⟨by rw [H.out]; (first | rfl | simp [z3]), rfl⟩
end Go.Proofs.YtbjbdidcnkamaaaDoor

