import Derived.Recover
import Derived.RecoverIn
import Derived.Stop.Asserts
import Derived.Maps.AppendAt
import Derived.Lib.ConvBytes
import Derived.Test.YtnncedndlhfdkaaPkAB
import Derived.Test.YtnncedndlhfdkaaPkAA
/-
  impl.placedFaultOf, impl.readPattern.
-/
namespace Go.Proofs.Ytnncedndlhfdkaa
open Go.ChangeShapes Go.WideShapes Go.ChangeAt Go.RowKit Go.Deep
set_option linter.unusedVariables false
set_option linter.unusedSimpArgs false
set_option maxRecDepth 100000

theorem pf_assert (c a : Int) (w : World) : (Instr.typeAssert (pfV c a) 20 81 true).run Try.prog w = .ok (.tuple #[.agg #[.int .i64 c, .int .i64 a], .bool true]) w := by kernel_rfl
set_option maxHeartbeats 2000000 in
theorem pfOf_nil (w : World) : Calls Try.prog 45 #[.nilIface] w fun e w' => e = .returned (.agg #[.int .i64 0, .int .i64 0]) ∧ Below w.heap.size w w' := by
  go_enter Try.func45, Try.ntmps45
  go_wp2_with fail
  refine bodyPost_ret (v := .agg #[.int .i64 0, .int .i64 0]) (by simp [results, Try.results45, go_sem]) rfl ⟨rfl, ?_⟩
  exact (Below.refl _ _).alloc (Nat.le_refl _) _
set_option maxHeartbeats 2000000 in
theorem pfOf_pf (c a : Int) (w : World) : Calls Try.prog 45 #[pfV c a] w fun e w' => e = .returned (.agg #[.int .i64 c, .int .i64 a]) ∧ Below w.heap.size w w' := by
  have hta := pf_assert
  obtain ⟨W, hW⟩ : ∃ W : World, W = w.alloc (Obj.cells #[.int .i64 0, .int .i64 0] 81) := ⟨_, rfl⟩
  have HW : Hid (BoxAt W w.heap.size 81 2 w.heap.size [.int .i64 0, .int .i64 0] ∧ Below w.heap.size w W) := by
    rw [hW]; exact ⟨boxAt_new w _ (Nat.le_refl _) rfl, (Below.refl _ _).alloc (Nat.le_refl _) _⟩
  obtain ⟨W2, hW2⟩ : ∃ W2 : World, W2 = W.alloc (Obj.cells #[.int .i64 c, .int .i64 a] 81) := ⟨_, rfl⟩
  have HW2 : Hid (BoxAt W2 w.heap.size 81 2 w.heap.size [.int .i64 0, .int .i64 0] ∧ BoxAt W2 w.heap.size 81 2 W.heap.size [.int .i64 c, .int .i64 a] ∧ Below w.heap.size w W2) := by
    have hb : Below W.heap.size W W2 := by rw [hW2]; exact (Below.refl _ _).alloc (Nat.le_refl _) _
    refine ⟨HW.out.1.below hb, ?_, HW.out.2.trans (hb.mono HW.out.2.size)⟩
    rw [hW2]; exact boxAt_new W _ HW.out.2.size rfl
  go_enter Try.func45, Try.ntmps45
  go_upto_region 1 with fail
  rw [← hW]
  clear hW
  go_upto_region 7 with fail
  rw [← hW2]
  clear hW2 hta
  have b0 := HW2.out.2.1.cell (j := 0) rfl
  have b1 := HW2.out.2.1.cell (j := 1) rfl
  have r0 := HW2.out.1.cell (j := 0) rfl
  have r1 := HW2.out.1.cell (j := 1) rfl
  have f0 := HW2.out.1.frozen 0
  have f1 := HW2.out.1.frozen 1
  have hbx := (HW2.out.1.set 0 (.int .i64 c)).set 1 (.int .i64 a)
  have p0 := hbx.cell (j := 0) rfl
  have p1 := hbx.cell (j := 1) rfl
  obtain ⟨W3, hW3⟩ : ∃ W3 : World, W3 = (W2.setCell ⟨w.heap.size, 0, none⟩ (.int .i64 c)).setCell ⟨w.heap.size, 1, none⟩ (.int .i64 a) := ⟨_, rfl⟩
  rw [← hW3] at p0 p1
  have HB3 : Hid (Below w.heap.size w W3) := by
    show Below w.heap.size w W3
    rw [hW3]; exact below_set (below_set HW2.out.2.2 (Nat.le_refl _) 0 _) (Nat.le_refl _) 1 _
  clear hbx
  go_wp2_with fail
  rw [← hW3]
  refine bodyPost_ret (v := .agg #[.int .i64 c, .int .i64 a]) (by simp [results, Try.results45, go_sem, p0, p1]) rfl ⟨rfl, HB3.out⟩

set_option maxHeartbeats 4000000 in
theorem rp_catch (base rb eb : Nat) (c a : Int) (older : List PanicEntry) (w : World) (hc : ¬ c = 0) (x : Value) (hr : BoxAt w base 65 1 rb [x]) (he : BoxAt w base 46 2 eb [.int .i64 0, .int .i64 0]) (hne : ¬ rb = eb) :
    CallsD Try.prog 44 #[.pointer (some ⟨rb, 0, none⟩), .pointer (some ⟨eb, 0, none⟩)] (.panicking ({ v := pfV c a, recovered := false } :: older)) w fun e u' w' =>
      e = .returned (.tuple #[]) ∧ u' = .panicking ({ v := pfV c a, recovered := true } :: older) ∧ BoxAt w' base 65 1 rb [.slice none 0 0] ∧ BoxAt w' base 46 2 eb [.int .i64 c, .int .i64 a] ∧ Chg (fun k => k = rb ∨ k = eb) w w' := by
  refine callsD_of_wpS Try.func44 rfl fun c₀ cs hu => ?_
  apply wpS_seq
  apply wpS_region
  simp [wpOpsS, go_sem, recoverD, hu, Try.ntmps44, Exit.thenS]
  refine (pfOf_pf c a w).mono ?_
  rintro e w1 ⟨rfl, hb1⟩
  simp [wpOpsS, go_sem]
  have ht : #[Value.pointer (some ⟨rb, 0, none⟩), Value.pointer (some ⟨eb, 0, none⟩)] ++ (((Array.replicate 12 undef).setIfInBounds 1 (pfV c a)).setIfInBounds 2 (Value.agg #[Value.int IntKind.i64 c, Value.int IntKind.i64 a])).setIfInBounds 0 (Value.pointer (some ⟨w1.heap.size, 0, none⟩)) = #[.pointer (some ⟨rb, 0, none⟩), .pointer (some ⟨eb, 0, none⟩), .pointer (some ⟨w1.heap.size, 0, none⟩), pfV c a, .agg #[.int .i64 c, .int .i64 a], undef, undef, undef, undef, undef, undef, undef, undef, undef] := by rfl
  rw [ht]
  clear ht
  obtain ⟨W2, hW2⟩ : ∃ W2 : World, W2 = w1.alloc (Obj.cells #[.int .i64 c, .int .i64 a] 81) := ⟨_, rfl⟩
  have hb2 : Below w1.heap.size w1 W2 := by rw [hW2]; exact (Below.refl _ _).alloc (Nat.le_refl _) _
  have HB : Hid (BoxAt W2 base 65 1 rb [x] ∧ BoxAt W2 base 46 2 eb [.int .i64 0, .int .i64 0] ∧ Chg (fun k => k = rb ∨ k = eb) w W2) :=
    ⟨(hr.below hb1).below hb2, (he.below hb1).below hb2, (Chg.of_below hb1).trans (Chg.of_below hb2)⟩
  have d0 : W2.cell? ⟨w1.heap.size, 0, none⟩ = some (.int .i64 c) := by rw [hW2]; simp
  have d1 : W2.cell? ⟨w1.heap.size, 1, none⟩ = some (.int .i64 a) := by rw [hW2]; simp
  have hrl := (hr.below hb1).lt.2
  have hel := (he.below hb1).lt.2
  obtain ⟨FB, hFB⟩ : ∃ FB, FB = w1.heap.size := ⟨_, rfl⟩
  rw [← hW2]
  rw [← hFB] at d0 d1 ⊢
  have n1 : ¬ FB = rb := by omega
  have n2 : ¬ FB = eb := by omega
  clear hW2 hFB hb1 hb2 hr he hrl hel
  have r0 := HB.out.1.cell (j := 0) rfl
  have rf := HB.out.1.frozen 0
  have e0 := HB.out.2.1.cell (j := 0) rfl
  have e1 := HB.out.2.1.cell (j := 1) rfl
  have f0 := HB.out.2.1.frozen 0
  have f1 := HB.out.2.1.frozen 1
  have n3 : ¬ eb = rb := fun q => hne q.symm
  have HF : ∀ w' : World, Below W2.heap.size W2 w' → BoxAt (((w'.setCell ⟨rb, 0, none⟩ (.slice none 0 0)).setCell ⟨eb, 0, none⟩ (.int .i64 c)).setCell ⟨eb, 1, none⟩ (.int .i64 a)) base 65 1 rb [.slice none 0 0] ∧ BoxAt (((w'.setCell ⟨rb, 0, none⟩ (.slice none 0 0)).setCell ⟨eb, 0, none⟩ (.int .i64 c)).setCell ⟨eb, 1, none⟩ (.int .i64 a)) base 46 2 eb [.int .i64 c, .int .i64 a] ∧ Chg (fun k => k = rb ∨ k = eb) w (((w'.setCell ⟨rb, 0, none⟩ (.slice none 0 0)).setCell ⟨eb, 0, none⟩ (.int .i64 c)).setCell ⟨eb, 1, none⟩ (.int .i64 a)) := fun w' hb => by
    refine ⟨((((HB.out.1.below hb).set 0 _).beside hne 0 _).beside hne 1 _), ((((HB.out.2.1.below hb).beside n3 0 _).set 0 _).set 1 _), ((((HB.out.2.2.trans (Chg.of_below hb)).trans (Chg.of_set _ rb 0 _ (.inl rfl))).trans (Chg.of_set _ eb 0 _ (.inr rfl))).trans (Chg.of_set _ eb 1 _ (.inr rfl)))⟩
  have HFF : Hid (∀ w' : World, Below W2.heap.size W2 w' → BoxAt (((w'.setCell ⟨rb, 0, none⟩ (.slice none 0 0)).setCell ⟨eb, 0, none⟩ (.int .i64 c)).setCell ⟨eb, 1, none⟩ (.int .i64 a)) base 65 1 rb [.slice none 0 0] ∧ BoxAt (((w'.setCell ⟨rb, 0, none⟩ (.slice none 0 0)).setCell ⟨eb, 0, none⟩ (.int .i64 c)).setCell ⟨eb, 1, none⟩ (.int .i64 a)) base 46 2 eb [.int .i64 c, .int .i64 a] ∧ Chg (fun k => k = rb ∨ k = eb) w (((w'.setCell ⟨rb, 0, none⟩ (.slice none 0 0)).setCell ⟨eb, 0, none⟩ (.int .i64 c)).setCell ⟨eb, 1, none⟩ (.int .i64 a))) := HF
  clear HF
  refine wpS_of_wp ?_
  go_upto_region 2 with fail
  go_region
  all_goals go_wp2_with fail
  have hfin := HFF.out W2 (Below.refl _ _)
  have hdr : ∀ X : World, Below X.heap.size X X.drew := fun X => (Below.refl _ _).drew
  exact ⟨rfl, _, rfl, _, by simp [results, Try.results44], rfl, rfl, hfin.1.below (hdr _), hfin.2.1.below (hdr _), hfin.2.2.trans (Chg.of_below (hdr _))⟩

set_option maxHeartbeats 4000000 in
theorem rp_idle (rb eb : Nat) (w : World) :
    CallsD Try.prog 44 #[.pointer (some ⟨rb, 0, none⟩), .pointer (some ⟨eb, 0, none⟩)] .returning w fun e u' w' => e = .returned (.tuple #[]) ∧ u' = .returning ∧ Below w.heap.size w w' := by
  refine callsD_of_wpS Try.func44 rfl fun c₀ cs hu => ?_
  apply wpS_seq
  apply wpS_region
  simp [wpOpsS, go_sem, recoverD, hu, Try.ntmps44, Exit.thenS]
  refine (pfOf_nil w).mono ?_
  rintro e w1 ⟨rfl, hb1⟩
  simp [wpOpsS, go_sem]
  have ht : #[Value.pointer (some ⟨rb, 0, none⟩), Value.pointer (some ⟨eb, 0, none⟩)] ++ (((Array.replicate 12 undef).setIfInBounds 1 .nilIface).setIfInBounds 2 (Value.agg #[Value.int IntKind.i64 0, Value.int IntKind.i64 0])).setIfInBounds 0 (Value.pointer (some ⟨w1.heap.size, 0, none⟩)) = #[.pointer (some ⟨rb, 0, none⟩), .pointer (some ⟨eb, 0, none⟩), .pointer (some ⟨w1.heap.size, 0, none⟩), .nilIface, .agg #[.int .i64 0, .int .i64 0], undef, undef, undef, undef, undef, undef, undef, undef, undef] := by rfl
  rw [ht]
  clear ht
  have HB : Hid (Below w.heap.size w (w1.alloc (Obj.cells #[.int .i64 0, .int .i64 0] 81))) := hb1.trans ((Below.refl _ _).alloc hb1.size _)
  clear hb1
  refine wpS_of_wp ?_
  go_wp2_with fail
  refine ⟨rfl, .returning, ?_, _, by simp [results, Try.results44], rfl, rfl, HB.out⟩
  cases c₀
  simp_all

/-- What the check of a pattern comes to. -/
def checkM (p : List UInt8) : Int × Nat := if 200 < p.length then (1, 0) else chkM p 0 0 false
/-- What readPattern hands back. -/
def ReadPost (p : ByteArray) (w : World) (e : Ending) (w' : World) : Prop :=
  ∃ u : Value, e = .returned (.tuple #[.agg #[u], .agg #[.int .i64 (checkM (sb p)).1, .int .i64 ((checkM (sb p)).2 : Int)]]) ∧ Below w.heap.size w w' ∧
    (((checkM (sb p)).1 = 0 ∧ ∃ os, AltOk (sb p) 0 0 p.size os ∧ AltAt w' (Bet w.heap.size w'.heap.size) os u) ∨ (¬ (checkM (sb p)).1 = 0 ∧ u = .slice none 0 0))
theorem rp_res {base rb eb : Nat} {w : World} {a : Act} {u x y : Value} (hu : u.oneCell' = true) (ht : a.tmps.getD 2 undef = .pointer (some ⟨rb, 0, none⟩)) (ht2 : a.tmps.getD 3 undef = .pointer (some ⟨eb, 0, none⟩)) (hr : BoxAt w base 65 1 rb [u]) (he : BoxAt w base 46 2 eb [x, y]) :
    (results Try.f36 a.tmps).run Try.prog w = .ok (.tuple #[.agg #[u], .agg #[x, y]]) w := by
  have p0 := hr.cell (j := 0) rfl
  have q0 := he.cell (j := 0) rfl
  have q1 := he.cell (j := 1) rfl
  have h1 : a.tmps[2]?.getD undef = .pointer (some ⟨rb, 0, none⟩) := by rw [← Array.getD_eq_getD_getElem?]; exact ht
  have h2 : a.tmps[3]?.getD undef = .pointer (some ⟨eb, 0, none⟩) := by rw [← Array.getD_eq_getD_getElem?]; exact ht2
  simp [results, Try.results36, go_sem, h1, h2, p0, q0, q1]
/-- Every panic of readPattern ends in its fault. -/
theorem rp_dies (p : ByteArray) (w wq : World) (a : Act) (c : Int) (k rb eb : Nat) (x : Value) (hrb : w.heap.size ≤ rb) (heb : w.heap.size ≤ eb) (hne : ¬ rb = eb) (hd : a.defers = [{ target := Target.fn (Fn.func 44) #[.pointer (some ⟨rb, 0, none⟩), .pointer (some ⟨eb, 0, none⟩)], args := #[] }])
    (ht : a.tmps.getD 2 undef = .pointer (some ⟨rb, 0, none⟩)) (ht2 : a.tmps.getD 3 undef = .pointer (some ⟨eb, 0, none⟩)) (hM : checkM (sb p) = (c, k)) (hc : ¬ c = 0) (hr : BoxAt wq w.heap.size 65 1 rb [x]) (he : BoxAt wq w.heap.size 46 2 eb [.int .i64 0, .int .i64 0]) (hB : Below w.heap.size w wq) :
    bodyPostD Try.prog Try.f36 (fun e w' => ReadPost p w e w') (.panic [{ v := pfV c k, recovered := false }]) a wq := by
  show Leaves Try.prog Try.f36 a.tmps (fun e w' => ReadPost p w e w') a.defers (.panicking [{ v := pfV c k, recovered := false }]) wq
  rw [hd]
  refine leaves_cons (f := 44) (args := #[.pointer (some ⟨rb, 0, none⟩), .pointer (some ⟨eb, 0, none⟩)]) (by simp) (by simp [go_sem]) ?_
  refine (rp_catch w.heap.size rb eb c k [] wq hc x hr he hne).mono ?_
  rintro e u' w'' ⟨rfl, rfl, hr2, he2, hC⟩
  show Leaves Try.prog Try.f36 a.tmps (fun e w' => ReadPost p w e w') [] (settle (.panicking [{ v := pfV c k, recovered := true }])) _
  refine ⟨_, rp_res rfl ht ht2 hr2 he2, .slice none 0 0, by rw [hM], Chg.below hB hC hB.size (fun j q => by omega), .inr ⟨by rw [hM]; exact hc, rfl⟩⟩
theorem rp_done (p : ByteArray) (w wq : World) (a : Act) (rb eb : Nat) (u : Value) (os : List (List Pat)) (hu : u.oneCell' = true) (hd : a.defers = [{ target := Target.fn (Fn.func 44) #[.pointer (some ⟨rb, 0, none⟩), .pointer (some ⟨eb, 0, none⟩)], args := #[] }])
    (ht : a.tmps.getD 2 undef = .pointer (some ⟨rb, 0, none⟩)) (ht2 : a.tmps.getD 3 undef = .pointer (some ⟨eb, 0, none⟩)) (hM : checkM (sb p) = (0, 0)) (hA : AltOk (sb p) 0 0 p.size os) (hU : AltAt wq (Bet w.heap.size wq.heap.size) os u) (hr : BoxAt wq w.heap.size 65 1 rb [u]) (he : BoxAt wq w.heap.size 46 2 eb [.int .i64 0, .int .i64 0]) (hB : Below w.heap.size w wq) :
    bodyPostD Try.prog Try.f36 (fun e w' => ReadPost p w e w') .ret a wq := by
  show Leaves Try.prog Try.f36 a.tmps (fun e w' => ReadPost p w e w') a.defers .returning wq
  rw [hd]
  refine leaves_cons (f := 44) (args := #[.pointer (some ⟨rb, 0, none⟩), .pointer (some ⟨eb, 0, none⟩)]) (by simp) (by simp [go_sem]) ?_
  refine (rp_idle rb eb wq).mono ?_
  rintro e u' w'' ⟨rfl, rfl, hb⟩
  show Leaves Try.prog Try.f36 a.tmps (fun e w' => ReadPost p w e w') [] (settle .returning) w''
  refine ⟨_, rp_res hu ht ht2 (hr.below hb) (he.below hb), u, by rw [hM]; rfl, hB.trans (hb.mono hB.size), .inl ⟨by rw [hM], os, hA, hU.move (S := fun _ => False) (Chg.of_below hb) (fun q hq => hq.elim) (fun q hq z => ⟨z.1, by have := hb.size; omega⟩)⟩⟩
end Go.Proofs.Ytnncedndlhfdkaa

/-
  impl.readPattern, impl.CheckRegex.
-/
namespace Go.Proofs.Ytnncedndlhfdkaa
open Go.ChangeShapes Go.WideShapes Go.ChangeAt Go.RowKit Go.Deep
set_option linter.unusedVariables false
set_option linter.unusedSimpArgs false
set_option maxRecDepth 100000

set_option maxHeartbeats 4000000 in
theorem readPattern_core (p : ByteArray) (w : World) (hpm : p.size ≤ maxLen) : Calls Try.prog 36 #[.string p] w fun e w' => ReadPost p w e w' := by
  have hmf : ∀ (fn : Fn) (first cap : Array Value) (w : World), (Instr.makeFunc fn first cap).run Try.prog w = .ok (.func fn first cap) w := fun _ _ _ _ => rfl
  obtain ⟨W0, hW0⟩ : ∃ W0 : World, W0 = (w.alloc (Obj.cells #[.slice none 0 0] 65)).alloc (Obj.cells #[.int .i64 0, .int .i64 0] 46) := ⟨_, rfl⟩
  have HW0 : Hid (BoxAt W0 w.heap.size 65 1 w.heap.size [.slice none 0 0] ∧ BoxAt W0 w.heap.size 46 2 (w.heap.size + 1) [.int .i64 0, .int .i64 0] ∧ Below w.heap.size w W0 ∧ W0.heap.size = w.heap.size + 2) := by
    rw [hW0]
    refine ⟨BoxAt.ofHeap (vs := #[.slice none 0 0]) (heap_alloc2_old w _ _) (Nat.le_refl _) rfl, BoxAt.ofHeap (vs := #[.int .i64 0, .int .i64 0]) (heap_alloc2_new w _ _) (by omega) rfl, ((Below.refl _ _).alloc (Nat.le_refl _) _).alloc (by simp) _, by simp⟩
  unfold maxLen at hpm
  by_cases hp : 200 < p.size
  · have HM : Hid (checkM (sb p) = (1, 0)) := by
      show checkM (sb p) = _
      unfold checkM; rw [if_pos (by rw [sb_len]; exact hp)]
    have z : ¬ (p.size : Int) ≤ 200 := by omega
    have z2 : (200 : Int) < (p.size : Int) := by omega
    go_enter_defers Try.func36, Try.ntmps36
    go_upto_region 1 with fail
    rw [← hW0]
    clear hW0
    have r0 := HW0.out.1.cell (j := 0) rfl
    have rf := HW0.out.1.frozen 0
    have e0 := HW0.out.2.1.cell (j := 0) rfl
    have e1 := HW0.out.2.1.cell (j := 1) rfl
    have f0 := HW0.out.2.1.frozen 0
    have f1 := HW0.out.2.1.frozen 1
    obtain ⟨W1, hW1⟩ : ∃ W1 : World, W1 = ((W0.setCell ⟨w.heap.size, 0, none⟩ (.slice none 0 0)).setCell ⟨w.heap.size + 1, 0, none⟩ (.int .i64 1)).setCell ⟨w.heap.size + 1, 1, none⟩ (.int .i64 0) := ⟨_, rfl⟩
    have HW1 : Hid (BoxAt W1 w.heap.size 65 1 w.heap.size [.slice none 0 0] ∧ BoxAt W1 w.heap.size 46 2 (w.heap.size + 1) [.int .i64 1, .int .i64 0] ∧ Below w.heap.size w W1) := by
      rw [hW1]
      exact ⟨(((HW0.out.1.set 0 _).beside (by omega) 0 _).beside (by omega) 1 _), (((HW0.out.2.1.beside (by omega) 0 _).set 0 _).set 1 _), below_set (below_set (below_set HW0.out.2.2.1 (Nat.le_refl _) 0 _) (by omega) 0 _) (by omega) 1 _⟩
    go_wp2_with fail
    rw [← hW1]
    show Leaves Try.prog Try.f36 _ (fun e w' => ReadPost p w e w') [] .returning W1
    refine ⟨_, rp_res (a := { tmps := _, defers := [] }) rfl rfl rfl HW1.out.1 HW1.out.2.1, .slice none 0 0, by rw [HM.out]; rfl, HW1.out.2.2, .inr ⟨by rw [HM.out]; decide, rfl⟩⟩
  have hp2 : p.size ≤ 200 := by omega
  have HM : Hid (checkM (sb p) = chkM (sb p) 0 0 false) := by
    show checkM (sb p) = _
    unfold checkM; rw [if_neg (by rw [sb_len]; exact hp)]
  have z : (p.size : Int) ≤ 200 := by omega
  obtain ⟨W1, hW1⟩ : ∃ W1 : World, W1 = W0.alloc (Obj.cells #[.string p, .int .i64 0, .int .i64 0] 84) := ⟨_, rfl⟩
  have HW1 : Hid (BoxAt W1 w.heap.size 65 1 w.heap.size [.slice none 0 0] ∧ BoxAt W1 w.heap.size 46 2 (w.heap.size + 1) [.int .i64 0, .int .i64 0] ∧ PrAt W1 w.heap.size (w.heap.size + 2) p 0 0 ∧ Below w.heap.size w W1 ∧ W1.heap.size = w.heap.size + 3) := by
    have hb : Below W0.heap.size W0 W1 := by rw [hW1]; exact (Below.refl _ _).alloc (Nat.le_refl _) _
    have hz := HW0.out.2.2.2
    refine ⟨HW0.out.1.below hb, HW0.out.2.1.below hb, ?_, HW0.out.2.2.1.trans (hb.mono (by omega)), by rw [hW1]; simp; omega⟩
    rw [hW1, ← hz]
    exact boxAt_new W0 #[.string p, .int .i64 0, .int .i64 0] (by omega) rfl
  go_enter_defers Try.func36, Try.ntmps36
  go_upto_region 1 with fail
  rw [← hW0]
  have hz0 : W0.heap.size = w.heap.size + 2 := HW0.out.2.2.2
  clear hW0 HW0
  go_upto_region 5 with fail
  rw [← hW1]
  clear hW1 hz0
  go_wp2_with fail
  refine (alt_core hp2 w.heap.size (w.heap.size + 2) 0 0 W1 (Nat.zero_le _) (Nat.zero_le _) HW1.out.2.2.1).mono ?_
  rintro e w2 ⟨hC2, (⟨k, os, u, hA, hN, rfl, hU, hP2⟩ | ⟨c, k, hc, hk, rfl⟩)⟩
  case inr =>
    have hb2 : Below w.heap.size w w2 := Chg.below HW1.out.2.2.2.1 hC2 HW1.out.2.2.2.1.size (fun j q => by omega)
    exact rp_dies p w w2 _ c k w.heap.size (w.heap.size + 1) _ (Nat.le_refl _) (by omega) (by omega) rfl rfl rfl (by rw [HM.out, hk]) hc (HW1.out.1.chg hC2 (by omega)) (HW1.out.2.1.chg hC2 (by omega)) hb2
  obtain ⟨gu, nu, cu, rfl⟩ := hU.slice
  have hkp : k ≤ p.size := by have := hA.le; rw [sb_len] at this; exact this
  have HA : Hid (AltOk (sb p) 0 0 k os ∧ (∀ c, (sb p)[k]? = some c → isEnd c ∧ ¬ c = 124)) := ⟨hA, hN⟩
  have HW2 : Hid (BoxAt w2 w.heap.size 65 1 w.heap.size [.slice none 0 0] ∧ BoxAt w2 w.heap.size 46 2 (w.heap.size + 1) [.int .i64 0, .int .i64 0] ∧ PrAt w2 w.heap.size (w.heap.size + 2) p k 0 ∧ Below w.heap.size w w2 ∧ AltAt w2 (fun j => w.heap.size + 3 ≤ j) os (.slice (some ⟨gu, 0, none⟩) nu cu)) := by
    refine ⟨HW1.out.1.chg hC2 (by omega), HW1.out.2.1.chg hC2 (by omega), hP2, Chg.below HW1.out.2.2.2.1 hC2 HW1.out.2.2.2.1.size (fun j q => by omega), hU.move (S := fun _ => False) (Chg.refl _ _) (fun q hq => hq.elim) (fun q _ z => by have h1 := z.1; rw [HW1.out.2.2.2.2] at h1; exact h1)⟩
  clear hC2 hA hN hU hP2 HW1
  obtain ⟨W3, hW3⟩ : ∃ W3 : World, W3 = w2.setCell ⟨w.heap.size, 0, none⟩ (.slice (some ⟨gu, 0, none⟩) nu cu) := ⟨_, rfl⟩
  have HW3 : Hid (BoxAt W3 w.heap.size 65 1 w.heap.size [.slice (some ⟨gu, 0, none⟩) nu cu] ∧ BoxAt W3 w.heap.size 46 2 (w.heap.size + 1) [.int .i64 0, .int .i64 0] ∧ PrAt W3 w.heap.size (w.heap.size + 2) p k 0 ∧ Below w.heap.size w W3 ∧ AltAt W3 (fun j => w.heap.size + 3 ≤ j) os (.slice (some ⟨gu, 0, none⟩) nu cu)) := by
    have hc := Chg.of_set w2 w.heap.size 0 (.slice (some ⟨gu, 0, none⟩) nu cu) (S := fun j => j = w.heap.size) rfl
    rw [hW3]
    exact ⟨HW2.out.1.set 0 _, HW2.out.2.1.chg hc (by omega), BoxAt.chg HW2.out.2.2.1 hc (by omega), below_set HW2.out.2.2.2.1 (Nat.le_refl _) 0 _, HW2.out.2.2.2.2.move hc (fun q hq => by subst hq; exact fun z => by omega) (fun q _ z => z)⟩
  have r0 := HW2.out.1.cell (j := 0) rfl
  have rf := HW2.out.1.frozen 0
  clear HW2
  go_upto_region 6 with fail
  rw [← hW3]
  clear hW3 r0 rf
  have c1 := HW3.out.2.2.1.cell (j := 1) rfl
  by_cases hke : k = p.size
  · have zk : (k : Int) = (p.size : Int) := by omega
    have HOk : Hid (checkM (sb p) = (0, 0) ∧ AltOk (sb p) 0 0 p.size os) := by
      refine ⟨?_, by rw [← hke]; exact HA.out.1⟩
      rw [HM.out, HA.out.1.chk, chk_end (by rw [sb_len]; omega), if_neg (by omega)]
    clear HA hke
    go_wp2_with fail
    refine (pdem_core _ HW3.out.2.2.1).mono ?_
    rintro e w5 ⟨hw5, (⟨hc, rfl⟩ | ⟨hc, rfl⟩)⟩
    case inr => exfalso; (simp at hc) <;> omega
    rw [hw5]
    clear hw5 hc c1
    have r0 := HW3.out.1.cell (j := 0) rfl
    have rf := HW3.out.1.frozen 0
    have e0 := HW3.out.2.1.cell (j := 0) rfl
    have e1 := HW3.out.2.1.cell (j := 1) rfl
    have f0 := HW3.out.2.1.frozen 0
    have f1 := HW3.out.2.1.frozen 1
    obtain ⟨W6, hW6⟩ : ∃ W6 : World, W6 = ((W3.setCell ⟨w.heap.size, 0, none⟩ (.slice (some ⟨gu, 0, none⟩) nu cu)).setCell ⟨w.heap.size + 1, 0, none⟩ (.int .i64 0)).setCell ⟨w.heap.size + 1, 1, none⟩ (.int .i64 0) := ⟨_, rfl⟩
    have HW6 : Hid (BoxAt W6 w.heap.size 65 1 w.heap.size [.slice (some ⟨gu, 0, none⟩) nu cu] ∧ BoxAt W6 w.heap.size 46 2 (w.heap.size + 1) [.int .i64 0, .int .i64 0] ∧ Below w.heap.size w W6 ∧ AltAt W6 (Bet w.heap.size W6.heap.size) os (.slice (some ⟨gu, 0, none⟩) nu cu)) := by
      have c1 := Chg.of_set W3 w.heap.size 0 (.slice (some ⟨gu, 0, none⟩) nu cu) (S := fun j => j = w.heap.size ∨ j = w.heap.size + 1) (.inl rfl)
      have c2 := c1.trans (Chg.of_set _ (w.heap.size + 1) 0 (.int .i64 0) (S := fun j => j = w.heap.size ∨ j = w.heap.size + 1) (.inr rfl))
      have c3 := c2.trans (Chg.of_set _ (w.heap.size + 1) 1 (.int .i64 0) (S := fun j => j = w.heap.size ∨ j = w.heap.size + 1) (.inr rfl))
      rw [hW6]
      exact ⟨(((HW3.out.1.set 0 _).beside (by omega) 0 _).beside (by omega) 1 _), (((HW3.out.2.1.beside (by omega) 0 _).set 0 _).set 1 _), below_set (below_set (below_set HW3.out.2.2.2.1 (Nat.le_refl _) 0 _) (by omega) 0 _) (by omega) 1 _, HW3.out.2.2.2.2.move c3 (fun q hq => fun z => by omega) (fun q hq z => ⟨by omega, by have := c3.size; omega⟩)⟩
    go_wp2_with fail
    rw [← hW6]
    exact rp_done p w W6 _ w.heap.size (w.heap.size + 1) _ os rfl rfl rfl rfl HOk.out.1 HOk.out.2 HW6.out.2.2.2 HW6.out.1 HW6.out.2.1 HW6.out.2.2.1
  · have zk : ¬ (k : Int) = (p.size : Int) := by omega
    have HOk : Hid (checkM (sb p) = (2, k)) := by
      show checkM (sb p) = _
      obtain ⟨c, hc⟩ : ∃ c, (sb p)[k]? = some c := ⟨_, List.getElem?_eq_getElem (by rw [sb_len]; omega)⟩
      obtain ⟨h1, h2⟩ := HA.out.2 c hc
      rw [HM.out, HA.out.1.chk]
      rcases h1 with h1 | h1 | h1 | h1
      · rw [chk_op hc h1]; rfl
      · exact absurd h1 h2
      · subst h1; rw [chk_close hc, if_pos rfl]
      · subst h1; rw [chk_rb hc]
    clear HA hke
    go_wp2_with fail
    refine (pdem_core _ HW3.out.2.2.1).mono ?_
    rintro e w5 ⟨hw5, (⟨hc, rfl⟩ | ⟨hc, rfl⟩)⟩
    · exfalso; (simp at hc) <;> omega
    rw [hw5]
    exact rp_dies p w W3 _ 2 k w.heap.size (w.heap.size + 1) _ (Nat.le_refl _) (by omega) (by omega) rfl rfl rfl HOk.out (by decide) HW3.out.1 HW3.out.2.1 HW3.out.2.2.2.1

set_option maxHeartbeats 2000000 in
theorem implCheck_core (p : ByteArray) (w : World) (hpm : p.size ≤ maxLen) : Calls Try.prog 24 #[.string p] w fun e w' => e = .returned (.agg #[.int .i64 (checkM (sb p)).1, .int .i64 ((checkM (sb p)).2 : Int)]) ∧ Below w.heap.size w w' := by
  obtain ⟨W0, hW0⟩ : ∃ W0 : World, W0 = w.alloc (Obj.cells #[.int .i64 0, .int .i64 0] 46) := ⟨_, rfl⟩
  have HW0 : Hid (BoxAt W0 w.heap.size 46 2 w.heap.size [.int .i64 0, .int .i64 0] ∧ Below w.heap.size w W0) := by
    rw [hW0]; exact ⟨boxAt_new w _ (Nat.le_refl _) rfl, (Below.refl _ _).alloc (Nat.le_refl _) _⟩
  obtain ⟨c, hc⟩ : ∃ c, c = (checkM (sb p)).1 := ⟨_, rfl⟩
  obtain ⟨k, hk⟩ : ∃ k, k = (checkM (sb p)).2 := ⟨_, rfl⟩
  rw [← hc, ← hk]
  go_enter Try.func24, Try.ntmps24
  go_upto_region 1 with fail
  rw [← hW0]
  clear hW0
  go_wp2_with fail
  refine (readPattern_core p W0 hpm).mono ?_
  rintro e w1 ⟨u, rfl, hb1, hu⟩
  rw [← hc, ← hk]
  obtain ⟨ua, un, uc, rfl⟩ : ∃ a n cp, u = .slice a n cp := by
    rcases hu with ⟨_, os, _, hU⟩ | ⟨_, rfl⟩
    · obtain ⟨g, n, cp, rfl⟩ := hU.slice; exact ⟨_, _, _, rfl⟩
    · exact ⟨_, _, _, rfl⟩
  clear hu hc hk
  obtain ⟨W2, hW2⟩ : ∃ W2 : World, W2 = (w1.alloc (Obj.cells #[.slice ua un uc] 65)).alloc (Obj.cells #[.int .i64 c, .int .i64 (k : Int)] 46) := ⟨_, rfl⟩
  have HW2 : Hid (BoxAt W2 w.heap.size 46 2 w.heap.size [.int .i64 0, .int .i64 0] ∧ BoxAt W2 w.heap.size 46 2 (w1.heap.size + 1) [.int .i64 c, .int .i64 (k : Int)] ∧ Below w.heap.size w W2) := by
    have hb2 : Below w1.heap.size w1 W2 := by rw [hW2]; exact ((Below.refl _ _).alloc (Nat.le_refl _) _).alloc (by simp) _
    have h1 := HW0.out.2.size
    have h2 := hb1.size
    refine ⟨(HW0.out.1.below hb1).below hb2, ?_, (HW0.out.2.trans (hb1.mono h1)).trans (hb2.mono (by omega))⟩
    rw [hW2]
    exact BoxAt.ofHeap (vs := #[.int .i64 c, .int .i64 (k : Int)]) (heap_alloc2_new w1 _ _) (by omega) rfl
  clear hb1 HW0
  go_upto_region 2 with fail
  rw [← hW2]
  clear hW2
  have b0 := HW2.out.2.1.cell (j := 0) rfl
  have b1 := HW2.out.2.1.cell (j := 1) rfl
  have r0 := HW2.out.1.cell (j := 0) rfl
  have r1 := HW2.out.1.cell (j := 1) rfl
  have f0 := HW2.out.1.frozen 0
  have f1 := HW2.out.1.frozen 1
  have hbx := (HW2.out.1.set 0 (.int .i64 c)).set 1 (.int .i64 (k : Int))
  have p0 := hbx.cell (j := 0) rfl
  have p1 := hbx.cell (j := 1) rfl
  have HB3 : Hid (Below w.heap.size w ((W2.setCell ⟨w.heap.size, 0, none⟩ (.int .i64 c)).setCell ⟨w.heap.size, 1, none⟩ (.int .i64 (k : Int)))) := below_set (below_set HW2.out.2.2 (Nat.le_refl _) 0 _) (Nat.le_refl _) 1 _
  obtain ⟨W3, hW3⟩ : ∃ W3 : World, W3 = (W2.setCell ⟨w.heap.size, 0, none⟩ (.int .i64 c)).setCell ⟨w.heap.size, 1, none⟩ (.int .i64 (k : Int)) := ⟨_, rfl⟩
  rw [← hW3] at p0 p1 HB3
  clear hbx
  go_wp2_with fail
  rw [← hW3]
  refine bodyPost_ret (v := .agg #[.int .i64 c, .int .i64 (k : Int)]) (by simp [results, Try.results24, go_sem, p0, p1]) rfl ⟨rfl, HB3.out⟩
end Go.Proofs.Ytnncedndlhfdkaa

/-
  What a pattern begins with, as a function of its nodes.
-/
namespace Go.Proofs.Ytnncedndlhfdkaa
set_option linter.unusedVariables false
set_option linter.unusedSimpArgs false

/-- What a seq of nodes begins with; whether that is all of it. -/
def prefM : List Pat → List UInt8 × Bool
  | [] => ([], true)
  | .byte c :: ts => (c :: (prefM ts).1, (prefM ts).2)
  | .cls _ :: _ => ([], false)
  | .rep _ _ _ :: _ => ([], false)
  | .alt _ :: _ => ([], false)
def prefOf : List (List Pat) → List UInt8 × Bool
  | [ts] => prefM ts
  | _ => ([], false)
def isByte : Pat → Prop
  | .byte _ => True
  | _ => False
theorem prefM_not {t : Pat} (h : ¬ isByte t) (ts : List Pat) : prefM (t :: ts) = ([], false) := by
  cases t with
  | byte b => exact (h trivial).elim
  | _ => rfl
theorem prefM_len : ∀ ts : List Pat, (prefM ts).1.length ≤ ts.length
  | [] => Nat.le_refl _
  | .byte c :: ts => by simp only [prefM, List.length_cons]; have := prefM_len ts; omega
  | .cls _ :: _ => Nat.zero_le _
  | .rep _ _ _ :: _ => Nat.zero_le _
  | .alt _ :: _ => Nat.zero_le _

/-- Signs and atoms with so many bars between them. -/
inductive TokN (A : List UInt8 → Pat → Prop) : Nat → List UInt8 → Prop
  | nil : TokN A 0 []
  | bar {k : Nat} {zs : List UInt8} (h : TokN A k zs) : TokN A (k + 1) (124 :: zs)
  | op {k : Nat} {c : UInt8} {zs : List UInt8} (hc : isOp c) (h : TokN A k zs) : TokN A k (c :: zs)
  | atom {k : Nat} {xs zs : List UInt8} {t : Pat} (ha : A xs t) (h : TokN A k zs) : TokN A k (xs ++ zs)
variable {A : List UInt8 → Pat → Prop}
theorem TokN.cat {k m : Nat} {xs ys : List UInt8} (h : TokN A k xs) (q : TokN A m ys) : TokN A (k + m) (xs ++ ys) := by
  induction h with
  | nil => simpa using q
  | bar _ ih => rw [show ∀ k, k + 1 + m = (k + m) + 1 from fun k => by omega]; exact .bar ih
  | op hc _ ih => exact .op hc ih
  | atom ha _ ih => rw [List.append_assoc]; exact .atom ha ih
theorem TokN.ops : ∀ {l : List UInt8}, (∀ c ∈ l, isOp c) → TokN A 0 l
  | [], _ => .nil
  | c :: l, h => .op (h c (by simp)) (TokN.ops (fun d hd => h d (by simp [hd])))
theorem RepG.tokn {xs : List UInt8} {t : Pat} : RepG A xs t → TokN A 0 xs
  | ⟨ys, ops, a, h1, h2, h3, _⟩ => by rw [h1]; exact .atom h2 (TokN.ops h3)
theorem SeqG.tokn : ∀ {ts : List Pat} {xs : List UInt8}, SeqG A ts xs → TokN A 0 xs
  | [], _, h => by rw [show _ = [] from h]; exact .nil
  | _ :: _, _, ⟨ys, zs, h1, h2, h3⟩ => by rw [h1]; simpa using h2.tokn.cat (SeqG.tokn h3)
theorem AltG.tokn : ∀ {os : List (List Pat)} {xs : List UInt8}, AltG A os xs → ∃ k, os.length = k + 1 ∧ TokN A k xs
  | [], _, h => h.elim
  | [_], _, h => ⟨0, rfl, SeqG.tokn h⟩
  | _ :: o :: os, _, ⟨ys, zs, h1, h2, h3⟩ => by
    obtain ⟨k, hk, hT⟩ := AltG.tokn h3
    refine ⟨k + 1, by simp at hk ⊢; omega, ?_⟩
    rw [h1]
    have := h2.tokn.cat (TokN.bar hT)
    simpa using this
theorem tokn_step {k : Nat} {xs : List UInt8} (h : TokN A k xs) : (xs = [] ∧ k = 0) ∨ (∃ m zs, xs = 124 :: zs ∧ k = m + 1 ∧ TokN A m zs) ∨ (∃ c zs, xs = c :: zs ∧ isOp c ∧ TokN A k zs) ∨ (∃ ys zs t, xs = ys ++ zs ∧ A ys t ∧ TokN A k zs) := by
  cases h with
  | nil => exact .inl ⟨rfl, rfl⟩
  | bar h => exact .inr (.inl ⟨_, _, rfl, rfl, h⟩)
  | op hc h => exact .inr (.inr (.inl ⟨_, _, rfl, hc, h⟩))
  | atom ha h => exact .inr (.inr (.inr ⟨_, _, _, rfl, ha, h⟩))
theorem cutHead {p : List UInt8} {j m : Nat} {c : UInt8} {zs : List UInt8} (h : cut p j m = c :: zs) (hm : m ≤ p.length) : p[j]? = some c ∧ cut p (j + 1) m = zs ∧ j < m := by
  have hl := congrArg List.length h
  rw [cut_len hm] at hl
  simp at hl
  have hj : j < m := by omega
  obtain ⟨d, hd⟩ : ∃ d, p[j]? = some d := ⟨_, List.getElem?_eq_getElem (by omega)⟩
  rw [cut_cat (show j ≤ j + 1 by omega) (show j + 1 ≤ m by omega), cut_one hd] at h
  simp at h
  exact ⟨by rw [hd, h.1], h.2, hj⟩
theorem cutTwo {p : List UInt8} {j m : Nat} {xs zs : List UInt8} (h : cut p j m = xs ++ zs) (hm : m ≤ p.length) (hjm : j ≤ m) : cut p j (j + xs.length) = xs ∧ cut p (j + xs.length) m = zs ∧ j + xs.length ≤ m := by
  have hl := congrArg List.length h
  rw [cut_len hm, List.length_append] at hl
  have h1 := cut_cat (p := p) (show j ≤ j + xs.length by omega) (show j + xs.length ≤ m by omega)
  rw [h] at h1
  have h2 := List.append_inj h1 (by rw [cut_len (by omega)]; omega)
  exact ⟨h2.1.symm, h2.2.symm, by omega⟩
/-- The byte of an atom that is a byte stands at its end; every other one begins with a sign. -/
theorem AtomG.byte : ∀ {n : Nat} {xs : List UInt8} {t : Pat}, AtomG n xs t → ∃ c ys, xs = c :: ys ∧ ((∃ b, t = .byte b ∧ xs.getLast? = some b ∧ (¬ special c ∨ c = 92)) ∨ (¬ isByte t ∧ special c ∧ ¬ c = 92))
  | 0, _, _, h => h.elim
  | n + 1, xs, t, h => by
    rcases h with ⟨c, rfl, hs, rfl⟩ | ⟨rfl, rfl⟩ | ⟨c, rfl, rfl⟩ | ⟨ys, os, rfl, _, rfl⟩ | ⟨p, i, k, f, h1, h2, rfl, rfl⟩
    · exact ⟨c, [], rfl, .inl ⟨c, rfl, rfl, .inl hs⟩⟩
    · exact ⟨46, [], rfl, .inr ⟨fun h => h, by decide, by decide⟩⟩
    · exact ⟨92, [c], rfl, .inl ⟨c, rfl, rfl, .inr rfl⟩⟩
    · exact ⟨40, ys ++ [41], rfl, .inr ⟨fun h => h, by decide, by decide⟩⟩
    · have hg := classM_gt h2
      refine ⟨91, cut p (i + 1) k, ?_, .inr ⟨fun h => h, by decide, by decide⟩⟩
      rw [cut_cat (show i ≤ i + 1 by omega) (show i + 1 ≤ k by omega), cut_one h1]
      rfl
/-- One step of a seq, from the left. -/
structure SeqStep (n : Nat) (p : List UInt8) (i m j : Nat) (c : UInt8) (a t : Pat) (ts : List Pat) : Prop where
  atom : AtomG n (cut p i j) a
  lt : i < j
  le : j ≤ m
  at0 : p[i]? = some c
  what : (∃ b, t = .byte b ∧ (¬ special c ∨ c = 92) ∧ (∀ d, p[j]? = some d → j < m → ¬ isOp d) ∧ p[j - 1]? = some b ∧ SeqG (AtomG n) ts (cut p j m)) ∨ (¬ isByte t ∧ ((special c ∧ ¬ c = 92) ∨ ((¬ special c ∨ c = 92) ∧ ∃ d, p[j]? = some d ∧ isOp d ∧ j < m)))
theorem seq_step {n : Nat} {p : List UInt8} {i m : Nat} {ts : List Pat} (h : SeqG (AtomG n) ts (cut p i m)) (hm : m ≤ p.length) (him : i < m) : ∃ t ts' j c a, ts = t :: ts' ∧ SeqStep n p i m j c a t ts' := by
  cases ts with
  | nil =>
    have hl := cut_len (p := p) (i := i) hm
    rw [show cut p i m = [] from h] at hl
    simp at hl
    omega
  | cons t ts' =>
    obtain ⟨ys, zs, h1, ⟨xa, ops, a, h2, h3, h4, h5⟩, h6⟩ := h
    rw [h2, List.append_assoc] at h1
    obtain ⟨c1, c2, c3⟩ := cutTwo h1 hm (by omega)
    obtain ⟨c, xb, hc, hw⟩ := h3.byte
    have hal : 0 < xa.length := by rw [hc]; simp
    obtain ⟨p0, _, _⟩ := cutHead (c1.trans hc) (by omega)
    refine ⟨t, ts', i + xa.length, c, a, rfl, ⟨by rw [c1]; exact h3, by omega, c3, p0, ?_⟩⟩
    cases ops with
    | nil =>
      have hta : t = a := h5
      subst hta
      rw [List.nil_append] at c2
      rcases hw with ⟨b, hb, hlast, hs⟩ | ⟨hb, hs⟩
      · left
        refine ⟨b, hb, hs, ?_, ?_, by rw [c2]; exact h6⟩
        · intro d hd hlt
          cases ts' with
          | nil =>
            have hl := cut_len (p := p) (i := i + xa.length) hm
            rw [c2, show zs = [] from h6] at hl
            simp at hl
            omega
          | cons t2 ts2 =>
            obtain ⟨ys2, zs2, e1, ⟨xa2, ops2, a2, e2, e3, _, _⟩, _⟩ := h6
            obtain ⟨c2', xa3, hc2, _, _, hn⟩ := e3.first
            rw [e1, e2, hc2] at c2
            have := (cutHead (p := p) (c := c2') (zs := xa3 ++ ops2 ++ zs2) (by rw [c2]; simp) hm).1
            rw [hd] at this
            rw [Option.some.inj this]
            exact hn
        · have hg : xa[xa.length - 1]? = some b := by rw [← List.getLast?_eq_getElem?]; exact hlast
          have e := congrArg (fun l => l[xa.length - 1]?) c1
          simp only [cut, List.getElem?_take, List.getElem?_drop] at e
          rw [if_pos (by omega), hg] at e
          rw [show i + xa.length - 1 = i + (xa.length - 1) by omega]
          exact e
      · exact .inr ⟨hb, .inl hs⟩
    | cons o ops =>
      right
      have hnb : ¬ isByte t := by rw [h5, if_neg (by simp)]; exact fun h => h
      refine ⟨hnb, ?_⟩
      obtain ⟨q1, _, q3⟩ := cutHead (p := p) (c := o) (zs := ops ++ zs) (by rw [c2]; simp) hm
      rcases hw with ⟨b, hb, hlast, hs⟩ | ⟨hb, hs⟩
      · exact .inr ⟨hs, o, q1, h4 o (by simp), q3⟩
      · exact .inl hs
theorem seq_done {n : Nat} {p : List UInt8} {m : Nat} {ts : List Pat} (h : SeqG (AtomG n) ts (cut p m m)) (hm : m ≤ p.length) : ts = [] := by
  cases ts with
  | nil => rfl
  | cons t ts =>
    obtain ⟨ys, zs, h1, ⟨xa, ops, a, h2, h3, _, _⟩, _⟩ := h
    obtain ⟨c, xb, hc, _⟩ := h3.first
    rw [cut_nil, h2, hc] at h1
    simp at h1
end Go.Proofs.Ytnncedndlhfdkaa

/-
  A pattern is read in one way.
-/
namespace Go.Proofs.Ytnncedndlhfdkaa
set_option linter.unusedVariables false
set_option linter.unusedSimpArgs false

/-- What an atom is, by its first byte. -/
inductive Tag (n : Nat) : UInt8 → List UInt8 → Pat → Prop
  | plain {c : UInt8} (h : ¬ special c) : Tag n c [] (.byte c)
  | dot : Tag n 46 [] (.cls (fun _ => true))
  | esc {d : UInt8} : Tag n 92 [d] (.byte d)
  | group {ys : List UInt8} {os : List (List Pat)} (h : AltG (AtomG n) os ys) : Tag n 40 (ys ++ [41]) (.alt os)
  | cls {zs : List UInt8} {f : UInt8 → Bool} (h : ∀ r, classM (91 :: zs ++ r) 1 = .inl (f, zs.length + 1)) : Tag n 91 zs (.cls f)
theorem AtomG.tag {n : Nat} {xs : List UInt8} {t : Pat} (h : AtomG (n + 1) xs t) : ∃ c zs, xs = c :: zs ∧ Tag n c zs t := by
  rcases h with ⟨c, rfl, hs, rfl⟩ | ⟨rfl, rfl⟩ | ⟨c, rfl, rfl⟩ | ⟨ys, os, rfl, ho, rfl⟩ | ⟨p, i, k, f, h1, h2, rfl, rfl⟩
  · exact ⟨c, [], rfl, .plain hs⟩
  · exact ⟨46, [], rfl, .dot⟩
  · exact ⟨92, [c], rfl, .esc⟩
  · exact ⟨40, ys ++ [41], rfl, .group ho⟩
  · have hg := classM_gt h2
    have e : cut p i k = 91 :: cut p (i + 1) k := by
      rw [cut_cat (show i ≤ i + 1 by omega) (show i + 1 ≤ k by omega), cut_one h1]; rfl
    refine ⟨91, _, e, .cls fun r => ?_⟩
    have hl := congrArg List.length e
    rw [List.length_cons] at hl
    have h3 := class_here (p := 91 :: cut p (i + 1) k ++ r) (i := 0) (k := (cut p (i + 1) k).length + 1) h1 h2 ?_ (by simp) (by omega)
    · exact h3.2
    · rw [← hl, ← e]
      show (List.drop 0 (cut p i k ++ r)).take ((cut p i k).length - 0) = _
      rw [List.drop_zero, Nat.sub_zero, List.take_left]
/-- Signs and atoms up to a bracket that closes: one way. -/
theorem tok_one {A B : List UInt8 → Pat → Prop} (hA : ∀ ys t, A ys t → ∃ c zs, ys = c :: zs ∧ ¬ c = 41 ∧ ¬ c = 124 ∧ ¬ isOp c) (hB : ∀ ys t, B ys t → ∃ c zs, ys = c :: zs ∧ ¬ c = 41 ∧ ¬ c = 124 ∧ ¬ isOp c)
    (U : ∀ xs ys t t' r r', A xs t → B ys t' → xs ++ r = ys ++ r' → xs = ys) {xs : List UInt8} (h : TokG A xs) : ∀ {ys r r' : List UInt8}, TokG B ys → xs ++ 41 :: r = ys ++ 41 :: r' → xs = ys := by
  induction h with
  | nil =>
    intro ys r r' k e
    cases k with
    | nil => rfl
    | sign hc _ =>
      simp at e
      exfalso
      rw [← e.1] at hc
      rcases hc with q | q | q | q <;> exact absurd q (by decide)
    | atom ha _ =>
      obtain ⟨c, zs, rfl, n41, _⟩ := hB _ _ ha
      simp at e
      exact absurd e.1.symm n41
  | @sign c zs hc h ih =>
    intro ys r r' k e
    cases k with
    | nil =>
      simp at e
      exfalso
      rw [e.1] at hc
      rcases hc with q | q | q | q <;> exact absurd q (by decide)
    | sign hc' k' =>
      simp at e
      rw [e.1, ih k' e.2]
    | atom ha _ =>
      obtain ⟨c, zs, rfl, _, n124, nop⟩ := hB _ _ ha
      simp at e
      rw [e.1] at hc
      exact absurd hc (fun q => q.elim n124 nop)
  | @atom us zs t ha h ih =>
    intro ys r r' k e
    cases k with
    | nil =>
      obtain ⟨c, zs, rfl, n41, _⟩ := hA _ _ ha
      simp at e
      exact absurd e.1 n41
    | sign hc' k' =>
      obtain ⟨c, zs, rfl, _, n124, nop⟩ := hA _ _ ha
      simp at e
      rw [← e.1] at hc'
      exact absurd hc' (fun q => q.elim n124 nop)
    | atom hb k' =>
      rw [List.append_assoc, List.append_assoc] at e
      have q := U _ _ _ _ _ _ ha hb e
      subst q
      rw [ih k' (List.append_cancel_left e)]
theorem atom_one : ∀ {n m : Nat} {xs ys : List UInt8} {t t' : Pat} {r r' : List UInt8}, AtomG n xs t → AtomG m ys t' → xs ++ r = ys ++ r' → xs = ys
  | 0, _, _, _, _, _, _, _, h, _, _ => h.elim
  | _ + 1, 0, _, _, _, _, _, _, _, h, _ => h.elim
  | n + 1, m + 1, xs, ys, t, t', r, r', h, k, e => by
    obtain ⟨c, zs, rfl, hT⟩ := h.tag
    obtain ⟨c', zs', rfl, hT'⟩ := k.tag
    simp only [List.cons_append, List.cons.injEq] at e
    obtain ⟨rfl, e⟩ := e
    congr 1
    cases hT with
    | plain h1 =>
      cases hT' with
      | plain _ => rfl
      | dot => rfl
      | esc => exact absurd h1 (by decide)
      | group _ => exact absurd h1 (by decide)
      | cls _ => exact absurd h1 (by decide)
    | dot =>
      cases hT' with
      | plain _ => rfl
      | dot => rfl
    | esc =>
      cases hT' with
      | plain h1 => exact absurd h1 (by decide)
      | esc => simp at e; rw [e.1]
    | group h1 =>
      cases hT' with
      | plain h1 => exact absurd h1 (by decide)
      | group h2 =>
        rw [List.append_assoc, List.append_assoc] at e
        rw [tok_one (fun ys t q => q.first) (fun ys t q => q.first) (fun xs ys t t' r r' a b e => atom_one a b e) h1.tok h2.tok e]
    | cls h1 =>
      cases hT' with
      | plain h1 => exact absurd h1 (by decide)
      | cls h2 =>
        have a := h1 r
        have b := h2 r'
        rw [List.cons_append, e] at a
        rw [List.cons_append, a] at b
        simp at b
        exact (List.append_inj e b.2).1
/-- Bytes and signs: the number of bars is one. -/
theorem tokn_one {n m : Nat} {k : Nat} {xs : List UInt8} (h : TokN (AtomG n) k xs) : ∀ {j : Nat} {ys : List UInt8}, TokN (AtomG m) j ys → xs = ys → k = j := by
  induction h with
  | nil =>
    intro j ys q e
    cases q with
    | nil => rfl
    | bar _ => cases e
    | op _ _ => cases e
    | atom ha _ => obtain ⟨c, zs, rfl, _⟩ := ha.first; cases e
  | bar h ih =>
    intro j ys q e
    cases q with
    | nil => cases e
    | bar q' => simp at e; rw [ih q' e]
    | op hc _ => simp at e; rw [← e.1] at hc; exact absurd hc (by decide)
    | atom ha _ => obtain ⟨c, zs, rfl, _, n124, _⟩ := ha.first; simp at e; exact absurd e.1.symm n124
  | op hc h ih =>
    intro j ys q e
    cases q with
    | nil => cases e
    | bar _ => simp at e; rw [e.1] at hc; exact absurd hc (by decide)
    | op hc' q' => simp at e; exact ih q' e.2
    | atom ha _ => obtain ⟨c, zs, rfl, _, _, nop⟩ := ha.first; simp at e; rw [e.1] at hc; exact absurd hc nop
  | atom ha h ih =>
    intro j ys q e
    cases q with
    | nil => obtain ⟨c, zs, rfl, _⟩ := ha.first; cases e
    | bar _ => obtain ⟨c, zs, rfl, _, n124, _⟩ := ha.first; simp at e; exact absurd e.1 n124
    | op hc _ => obtain ⟨c, zs, rfl, _, _, nop⟩ := ha.first; simp at e; rw [← e.1] at hc; exact absurd hc nop
    | atom hb q' =>
      have u := atom_one ha hb e
      subst u
      exact ih q' (List.append_cancel_left e)
theorem prefM_one {n m : Nat} {p : List UInt8} : ∀ {ts us : List Pat} {i : Nat}, i ≤ p.length → SeqG (AtomG n) ts (cut p i p.length) → SeqG (AtomG m) us (cut p i p.length) → prefM ts = prefM us
  | [], us, i, hi, h, k => by
    have hip : i = p.length := by
      have hl := cut_len (p := p) (i := i) (Nat.le_refl _)
      rw [show cut p i p.length = [] from h] at hl
      simp at hl
      omega
    subst hip
    rw [seq_done k (Nat.le_refl _)]
  | t :: ts, us, i, hi, h, k => by
    have him : i < p.length := by
      refine Nat.lt_of_le_of_ne hi fun q => ?_
      subst q
      exact absurd (seq_done h (Nat.le_refl _)) (by simp)
    obtain ⟨t1, ts1, j, c, a, e1, h1⟩ := seq_step h (Nat.le_refl _) him
    obtain ⟨rfl, rfl⟩ : t1 = t ∧ ts1 = ts := by simpa using e1.symm
    obtain ⟨u1, us1, j', c', a', rfl, k1⟩ := seq_step k (Nat.le_refl _) him
    have e2 := atom_one (r := cut p j p.length) (r' := cut p j' p.length) h1.atom k1.atom (by rw [← cut_cat (Nat.le_of_lt h1.lt) h1.le, ← cut_cat (Nat.le_of_lt k1.lt) k1.le])
    have e3 : j = j' := by
      have hl := congrArg List.length e2
      rw [cut_len h1.le, cut_len k1.le] at hl
      have := h1.lt
      have := k1.lt
      omega
    subst e3
    obtain rfl : c = c' := Option.some.inj (h1.at0.symm.trans k1.at0)
    rcases h1.what with ⟨b, rfl, hs, hn, hb, hS⟩ | ⟨hnb, hw⟩
    · rcases k1.what with ⟨b', rfl, _, _, hb', kS⟩ | ⟨_, (⟨s1, s2⟩ | ⟨_, d, hd, hop, hlt⟩)⟩
      · obtain rfl : b = b' := Option.some.inj (hb.symm.trans hb')
        simp only [prefM]
        rw [prefM_one h1.le hS kS]
      · exact absurd hs (fun q => q.elim (fun z => z s1) s2)
      · exact absurd hop (hn d hd hlt)
    · rw [prefM_not hnb]
      rcases k1.what with ⟨b', rfl, hs, hn, hb', kS⟩ | ⟨knb, _⟩
      · rcases hw with ⟨s1, s2⟩ | ⟨_, d, hd, hop, hlt⟩
        · exact absurd hs (fun q => q.elim (fun z => z s1) s2)
        · exact absurd hop (hn d hd hlt)
      · rw [prefM_not knb]
theorem prefOf_one {p : List UInt8} {os us : List (List Pat)} (h : AltOk p 0 0 p.length os) (k : AltOk p 0 0 p.length us) : prefOf os = prefOf us := by
  obtain ⟨n, h1⟩ := h.gr
  obtain ⟨m, k1⟩ := k.gr
  obtain ⟨j, hj, hT⟩ := h1.tokn
  obtain ⟨j', hj', kT⟩ := k1.tokn
  have e := tokn_one hT kT rfl
  match os, us, h1, k1, hj, hj' with
  | [ts], [us], h1, k1, _, _ => exact prefM_one (Nat.zero_le _) h1 k1
  | [ts], u :: v :: us, h1, k1, hj, hj' => simp at hj hj'; omega
  | t :: v :: ts, [us], h1, k1, hj, hj' => simp at hj hj'; omega
  | t :: v :: ts, u :: x :: us, h1, k1, hj, hj' => rfl
end Go.Proofs.Ytnncedndlhfdkaa

/-
  Bytes of a run's file: numbers, strings, fixed numbers, as lists (mathematics).
-/
namespace Go.Proofs.Ytnncedndlhfdkaa
set_option linter.unusedVariables false
set_option linter.unusedSimpArgs false

/-- The byte of a number. -/
def byt (n : Nat) : UInt8 := UInt8.ofNat n
theorem byt_nat {n : Nat} (h : n < 256) : (byt n).toNat = n := by
  unfold byt
  rw [UInt8.toNat_ofNat']
  exact Nat.mod_eq_of_lt h
theorem byt_self (x : UInt8) : byt x.toNat = x := by
  apply UInt8.toNat_inj.1
  rw [byt_nat (UInt8.toNat_lt x)]
theorem u8lt (x : UInt8) : x.toNat < 256 := UInt8.toNat_lt x

/-- A number, seven bits a byte, the last byte below 128. -/
def num (n : Nat) : List UInt8 := if n < 128 then [byt n] else byt (128 + n % 128) :: num (n / 128)
termination_by n
decreasing_by omega
theorem num_small {n : Nat} (h : n < 128) : num n = [byt n] := by rw [num, if_pos h]
theorem num_large {n : Nat} (h : ¬ n < 128) : num n = byt (128 + n % 128) :: num (n / 128) := by rw [num, if_neg h]
theorem num_ne (n : Nat) : num n ≠ [] := by
  by_cases h : n < 128
  · rw [num_small h]; simp
  · rw [num_large h]; simp
theorem num_pos (n : Nat) : 0 < (num n).length := List.length_pos_iff.2 (num_ne n)
theorem num_len : ∀ (k n : Nat), n < 128 ^ (k + 1) → (num n).length ≤ k + 1
  | 0, n, h => by rw [num_small (by simpa using h)]; simp
  | k + 1, n, h => by
    by_cases hs : n < 128
    · rw [num_small hs]; simp
    · rw [num_large hs]
      have := num_len k (n / 128) (by rw [Nat.div_lt_iff_lt_mul (by omega), ← Nat.pow_succ]; exact h)
      simp; omega
theorem num_len64 {n : Nat} (h : n < 2 ^ 64) : (num n).length ≤ 10 := num_len 9 n (Nat.lt_trans h (by decide))

/-- A number read off, of whatever size; none where the bytes end or the form is not the shortest. -/
def getAny : List UInt8 → Option (Nat × List UInt8)
  | [] => none
  | x :: t => if x.toNat < 128 then some (x.toNat, t) else
    match getAny t with
    | none => none
    | some (n, u) => if n = 0 then none else some (x.toNat - 128 + 128 * n, u)
theorem getAny_num : ∀ (n : Nat) (t : List UInt8), getAny (num n ++ t) = some (n, t) := by
  intro n
  induction n using Nat.strongRecOn with
  | ind n ih =>
    intro t
    by_cases h : n < 128
    · rw [num_small h, List.singleton_append, getAny, if_pos (by rw [byt_nat (by omega)]; exact h), byt_nat (by omega)]
    · rw [num_large h, List.cons_append, getAny, if_neg (by rw [byt_nat (by omega)]; omega), ih (n / 128) (by omega) t]
      simp only []
      rw [if_neg (by omega), byt_nat (by omega)]
      congr 2
      omega
theorem getAny_iff {xs t : List UInt8} {n : Nat} : getAny xs = some (n, t) ↔ xs = num n ++ t := by
  constructor
  · induction xs generalizing n t with
    | nil => intro h; cases h
    | cons x l ih =>
      intro h
      rw [getAny] at h
      by_cases hx : x.toNat < 128
      · rw [if_pos hx] at h
        simp only [Option.some.injEq, Prod.mk.injEq] at h
        obtain ⟨rfl, rfl⟩ := h
        rw [num_small hx, byt_self]; rfl
      · rw [if_neg hx] at h
        cases hg : getAny l with
        | none => rw [hg] at h; cases h
        | some p =>
          obtain ⟨m, u⟩ := p
          rw [hg] at h
          simp only [] at h
          by_cases hm : m = 0
          · rw [if_pos hm] at h; cases h
          · rw [if_neg hm] at h
            simp only [Option.some.injEq, Prod.mk.injEq] at h
            obtain ⟨rfl, rfl⟩ := h
            have hx2 := u8lt x
            rw [num_large (by omega), show (x.toNat - 128 + 128 * m) / 128 = m by omega, show 128 + (x.toNat - 128 + 128 * m) % 128 = x.toNat by omega, byt_self, ih hg]
            rfl
  · rintro rfl
    exact getAny_num n t
/-- A number below 2^64 read off. -/
def getNum (xs : List UInt8) : Option (Nat × List UInt8) :=
  match getAny xs with
  | none => none
  | some (n, t) => if n < 2 ^ 64 then some (n, t) else none
theorem getNum_iff {xs t : List UInt8} {n : Nat} : getNum xs = some (n, t) ↔ n < 2 ^ 64 ∧ xs = num n ++ t := by
  unfold getNum
  cases hg : getAny xs with
  | none =>
    simp only []
    constructor
    · intro h; cases h
    · rintro ⟨_, h⟩
      rw [getAny_iff.2 h] at hg; cases hg
  | some p =>
    obtain ⟨m, u⟩ := p
    have h1 := getAny_iff.1 hg
    simp only []
    constructor
    · intro h
      split at h
      · simp only [Option.some.injEq, Prod.mk.injEq] at h
        obtain ⟨rfl, rfl⟩ := h
        exact ⟨by assumption, h1⟩
      · cases h
    · rintro ⟨h2, h3⟩
      rw [getAny_iff.2 h3] at hg
      simp only [Option.some.injEq, Prod.mk.injEq] at hg
      obtain ⟨rfl, rfl⟩ := hg
      rw [if_pos h2]
theorem getNum_num {n : Nat} (h : n < 2 ^ 64) (t : List UInt8) : getNum (num n ++ t) = some (n, t) := getNum_iff.2 ⟨h, rfl⟩
theorem num_split {n m : Nat} {s t : List UInt8} (h : num n ++ s = num m ++ t) : n = m ∧ s = t := by
  have h1 := getAny_num n s
  rw [h, getAny_num m t] at h1
  simp only [Option.some.injEq, Prod.mk.injEq] at h1
  exact ⟨h1.1.symm, h1.2.symm⟩

/-- A string with its length ahead. -/
def strB (s : List UInt8) : List UInt8 := num s.length ++ s
def getStr (xs : List UInt8) : Option (List UInt8 × List UInt8) :=
  match getNum xs with
  | none => none
  | some (n, t) => if n ≤ t.length then some (t.take n, t.drop n) else none
theorem getStr_iff {xs s t : List UInt8} : getStr xs = some (s, t) ↔ s.length < 2 ^ 64 ∧ xs = strB s ++ t := by
  unfold getStr strB
  cases hg : getNum xs with
  | none =>
    simp only []
    constructor
    · intro h; cases h
    · rintro ⟨h1, h⟩
      rw [List.append_assoc] at h
      rw [getNum_iff.2 ⟨h1, h⟩] at hg; cases hg
  | some p =>
    obtain ⟨m, u⟩ := p
    obtain ⟨h1, h2⟩ := getNum_iff.1 hg
    simp only []
    constructor
    · intro h
      split at h
      · next hm =>
        simp only [Option.some.injEq, Prod.mk.injEq] at h
        obtain ⟨rfl, rfl⟩ := h
        rw [List.length_take, Nat.min_eq_left hm]
        exact ⟨h1, by rw [List.append_assoc, List.take_append_drop]; exact h2⟩
      · cases h
    · rintro ⟨h3, h4⟩
      rw [List.append_assoc] at h4
      rw [getNum_iff.2 ⟨h3, h4⟩] at hg
      simp only [Option.some.injEq, Prod.mk.injEq] at hg
      obtain ⟨rfl, rfl⟩ := hg
      rw [if_pos (by simp)]
      simp
theorem getStr_str {s : List UInt8} (h : s.length < 2 ^ 64) (t : List UInt8) : getStr (strB s ++ t) = some (s, t) := getStr_iff.2 ⟨h, rfl⟩

/-- A number in four bytes, the least first. -/
def fixed (n : Nat) : List UInt8 := [byt (n % 256), byt (n / 256 % 256), byt (n / 65536 % 256), byt (n / 16777216 % 256)]
theorem fixed_len (n : Nat) : (fixed n).length = 4 := rfl
def fix4 (a b c d : UInt8) : Nat := a.toNat + 256 * b.toNat + 65536 * c.toNat + 16777216 * d.toNat
theorem fix4_lt (a b c d : UInt8) : fix4 a b c d < 2 ^ 32 := by
  have := u8lt a; have := u8lt b; have := u8lt c; have := u8lt d
  unfold fix4; omega
theorem fix4_fixed {n : Nat} (h : n < 2 ^ 32) : fix4 (byt (n % 256)) (byt (n / 256 % 256)) (byt (n / 65536 % 256)) (byt (n / 16777216 % 256)) = n := by
  unfold fix4
  rw [byt_nat (by omega), byt_nat (by omega), byt_nat (by omega), byt_nat (by omega)]
  omega
theorem fixed_fix4 (a b c d : UInt8) : fixed (fix4 a b c d) = [a, b, c, d] := by
  have ha := u8lt a; have hb := u8lt b; have hc := u8lt c; have hd := u8lt d
  unfold fixed fix4
  rw [show (a.toNat + 256 * b.toNat + 65536 * c.toNat + 16777216 * d.toNat) % 256 = a.toNat by omega,
    show (a.toNat + 256 * b.toNat + 65536 * c.toNat + 16777216 * d.toNat) / 256 % 256 = b.toNat by omega,
    show (a.toNat + 256 * b.toNat + 65536 * c.toNat + 16777216 * d.toNat) / 65536 % 256 = c.toNat by omega,
    show (a.toNat + 256 * b.toNat + 65536 * c.toNat + 16777216 * d.toNat) / 16777216 % 256 = d.toNat by omega]
  simp only [byt_self]
/-- The four bytes at a place, as a number. -/
def fixAt (xs : List UInt8) (i : Nat) : Nat := fix4 (xs.getD i 0) (xs.getD (i + 1) 0) (xs.getD (i + 2) 0) (xs.getD (i + 3) 0)
theorem fixAt_lt (xs : List UInt8) (i : Nat) : fixAt xs i < 2 ^ 32 := fix4_lt _ _ _ _
theorem fixAt_fixed {n : Nat} (h : n < 2 ^ 32) (xs t : List UInt8) : fixAt (xs ++ (fixed n ++ t)) xs.length = n := by
  unfold fixAt fixed
  simp only [List.getD_eq_getElem?_getD, List.getElem?_append_right (Nat.le_refl _), List.getElem?_append_right (show xs.length ≤ xs.length + 1 by omega), List.getElem?_append_right (show xs.length ≤ xs.length + 2 by omega), List.getElem?_append_right (show xs.length ≤ xs.length + 3 by omega), Nat.sub_self, Nat.add_sub_cancel_left]
  exact fix4_fixed h

/-- How many bytes two strings have in common at their beginning. -/
def shared : List UInt8 → List UInt8 → Nat
  | x :: s, y :: t => if x = y then shared s t + 1 else 0
  | _, _ => 0
theorem shared_le : ∀ (s t : List UInt8), shared s t ≤ s.length ∧ shared s t ≤ t.length
  | [], _ => by simp [shared]
  | _ :: _, [] => by simp [shared]
  | x :: s, y :: t => by
    have := shared_le s t
    unfold shared
    split <;> simp <;> omega
theorem shared_take : ∀ (s t : List UInt8), s.take (shared s t) = t.take (shared s t)
  | [], _ => by simp [shared]
  | _ :: _, [] => by simp [shared]
  | x :: s, y :: t => by
    unfold shared
    split
    · next h => rw [List.take_succ_cons, List.take_succ_cons, shared_take s t, h]
    · rfl
/-- The loop's own words: one more in common. -/
theorem shared_iff : ∀ (s t : List UInt8) (n : Nat), n ≤ s.length → n ≤ t.length → s.take n = t.take n → (n = s.length ∨ n = t.length ∨ s[n]? ≠ t[n]?) → shared s t = n
  | [], t, n, h1, _, _, _ => by simp at h1; subst h1; simp [shared]
  | x :: s, [], n, _, h2, _, _ => by simp at h2; subst h2; simp [shared]
  | x :: s, y :: t, 0, _, _, _, h4 => by
    unfold shared
    rw [if_neg]
    rintro rfl
    simp at h4
  | x :: s, y :: t, n + 1, h1, h2, h3, h4 => by
    rw [List.take_succ_cons, List.take_succ_cons] at h3
    obtain ⟨rfl, h5⟩ := List.cons.inj h3
    unfold shared
    rw [if_pos rfl, shared_iff s t n (by simpa using h1) (by simpa using h2) h5 (by simpa using h4)]
end Go.Proofs.Ytnncedndlhfdkaa

/-
  The checksum of a list of bytes (mathematics).
-/
namespace Go.Proofs.Ytnncedndlhfdkaa
set_option linter.unusedVariables false
set_option linter.unusedSimpArgs false

/-- One bit. -/
def sh (c : BitVec 32) : BitVec 32 := if c.toNat % 2 = 1 then (c >>> 1) ^^^ 3988292384#32 else c >>> 1
def shN : Nat → BitVec 32 → BitVec 32
  | 0, c => c
  | k + 1, c => sh (shN k c)
/-- One byte. -/
def crcB (c : BitVec 32) (x : UInt8) : BitVec 32 := shN 8 (c ^^^ BitVec.ofNat 32 x.toNat)
def crcTo (c : BitVec 32) (xs : List UInt8) : BitVec 32 := xs.foldl crcB c
def crc (xs : List UInt8) : BitVec 32 := crcTo 4294967295#32 xs ^^^ 4294967295#32
theorem crcTo_snoc (c : BitVec 32) (xs : List UInt8) (x : UInt8) : crcTo c (xs ++ [x]) = crcB (crcTo c xs) x := by simp [crcTo]
theorem crcTo_append (c : BitVec 32) (xs ys : List UInt8) : crcTo c (xs ++ ys) = crcTo (crcTo c xs) ys := by simp [crcTo]

theorem bit0 (c : BitVec 32) : c.getLsbD 0 = decide (c.toNat % 2 = 1) := by
  unfold BitVec.getLsbD
  exact Nat.testBit_zero _
theorem sh_inj {a b : BitVec 32} (h : sh a = sh b) : a = b := by
  have top : ∀ c : BitVec 32, (sh c).getLsbD 31 = c.getLsbD 0 := by
    intro c
    unfold sh
    by_cases h : c.toNat % 2 = 1
    · rw [if_pos h, BitVec.getLsbD_xor, BitVec.getLsbD_ushiftRight, BitVec.getLsbD_of_ge c (1 + 31) (by omega)]
      have : c.getLsbD 0 = true := by rw [bit0]; simp [h]
      rw [this]; decide
    · rw [if_neg h, BitVec.getLsbD_ushiftRight, BitVec.getLsbD_of_ge c (1 + 31) (by omega)]
      have : c.getLsbD 0 = false := by rw [bit0]; simp [h]
      rw [this]
  have low : a.getLsbD 0 = b.getLsbD 0 := by rw [← top a, ← top b, h]
  have par : (a.toNat % 2 = 1) ↔ (b.toNat % 2 = 1) := by
    rw [bit0, bit0] at low
    exact decide_eq_decide.1 low
  have hs : a >>> 1 = b >>> 1 := by
    unfold sh at h
    by_cases q : a.toNat % 2 = 1
    · rw [if_pos q, if_pos (par.1 q)] at h
      exact (BitVec.xor_left_inj _).1 h
    · rw [if_neg q, if_neg (fun r => q (par.2 r))] at h
      exact h
  apply BitVec.eq_of_getLsbD_eq
  intro i hi
  cases i with
  | zero => exact low
  | succ i =>
    have := congrArg (fun x => x.getLsbD i) hs
    simp only [BitVec.getLsbD_ushiftRight] at this
    rw [Nat.add_comm]; exact this
theorem shN_inj : ∀ (k : Nat) {a b : BitVec 32}, shN k a = shN k b → a = b
  | 0, _, _, h => h
  | k + 1, _, _, h => shN_inj k (sh_inj h)
theorem crcB_inj {a b : BitVec 32} {x : UInt8} (h : crcB a x = crcB b x) : a = b := (BitVec.xor_left_inj _).1 (shN_inj 8 h)
theorem crcTo_inj : ∀ (xs : List UInt8) {a b : BitVec 32}, crcTo a xs = crcTo b xs → a = b
  | [], _, _, h => h
  | x :: xs, a, b, h => crcB_inj (crcTo_inj xs (show crcTo (crcB a x) xs = crcTo (crcB b x) xs from h))
/-- One byte changed: another checksum. -/
theorem crc_one {xs ys : List UInt8} {a b : UInt8} (hab : ¬ a = b) : ¬ crc (xs ++ a :: ys) = crc (xs ++ b :: ys) := by
  intro h
  have h1 := (BitVec.xor_left_inj _).1 h
  rw [crcTo_append, crcTo_append] at h1
  have h2 : crcB (crcTo 4294967295#32 xs) a = crcB (crcTo 4294967295#32 xs) b := crcTo_inj ys h1
  have h3 := (BitVec.xor_right_inj _).1 (shN_inj 8 h2)
  apply hab
  apply UInt8.toNat_inj.1
  have h4 := congrArg BitVec.toNat h3
  have ha := u8lt a
  have hb := u8lt b
  rw [BitVec.toNat_ofNat, BitVec.toNat_ofNat, Nat.mod_eq_of_lt (by omega), Nat.mod_eq_of_lt (by omega)] at h4
  exact h4
end Go.Proofs.Ytnncedndlhfdkaa

/-
  Bytes in memory.
-/
namespace Go.Proofs.Ytnncedndlhfdkaa
open Go.ChangeShapes Go.WideShapes Go.ChangeAt Go.RowKit Go.Deep
set_option linter.unusedVariables false
set_option linter.unusedSimpArgs false
set_option maxRecDepth 100000

abbrev ub (x : UInt8) : Value := .int .u8 (x.toNat : Int)
/-- The bytes lie there. -/
def BysAt (w : World) (b off : Nat) (xs : List UInt8) : Prop := ∀ i x, xs[i]? = some x → w.cell? ⟨b, off + i, none⟩ = some (ub x)
theorem BysAt.below {B : Nat} {w w' : World} {b off : Nat} {xs : List UInt8} (h : BysAt w b off xs) (hb : Below B w w') (hlt : b < B) : BysAt w' b off xs := by
  intro i x hx
  rw [hb.cell (p := ⟨b, off + i, none⟩) hlt]
  exact h i x hx

theorem xor32 (s t : BitVec 32) {x : Int} (hx : x = (t.toNat : Int)) : bits .xor .u32 (s.toNat : Int) x = ((s ^^^ t).toNat : Int) := by
  subst hx
  have h1 : BitVec.ofInt 32 (s.toNat : Int) = s := by simp
  have h2 : BitVec.ofInt 32 (t.toNat : Int) = t := by simp
  show IntKind.wrap .u32 ((BitVec.ofInt 32 (s.toNat : Int) ^^^ BitVec.ofInt 32 (t.toNat : Int)).toNat : Int) = _
  rw [h1, h2]
  have := (s ^^^ t).isLt
  simp only [IntKind.wrap, IntKind.bits, IntKind.signed, Bool.false_and, Bool.false_eq_true, if_false]
  omega
set_option maxHeartbeats 2000000 in
theorem specCrc_core (b off cap : Nat) (xs : List UInt8) (w : World) (hE : BysAt w b off xs) (hlen : xs.length ≤ maxLen) :
    Calls Try.prog 13 #[.slice (some ⟨b, off, none⟩) xs.length cap] w fun e w' => e = .returned (.int .u32 ((crc xs).toNat : Int)) ∧ w' = w := by
  have HE : Hid (BysAt w b off xs) := hE
  clear hE
  unfold maxLen at hlen
  go_enter Try.func13, Try.ntmps13
  go_wp2_with fail
  go_loopw [3, 4] (fun c i wr => ∃ (k : Nat), k ≤ xs.length ∧ c = .int .u32 ((crcTo 4294967295#32 (xs.take k)).toNat : Int) ∧ i = .int .i64 k ∧ wr = w) (fun _ i _ => xs.length - (intOf i).toNat)
  case atStart => exact ⟨0, Nat.zero_le _, rfl, rfl, rfl⟩
  case round =>
    obtain ⟨k, hk, rfl, rfl, rfl⟩ := hrel
    by_cases hlt : k < xs.length
    · obtain ⟨x, hx⟩ : ∃ x, xs[k]? = some x := ⟨_, List.getElem?_eq_getElem hlt⟩
      have c0 := HE.out k x hx
      obtain ⟨s, hs⟩ : ∃ s, s = crcTo 4294967295#32 (xs.take k) := ⟨_, rfl⟩
      rw [← hs]
      have HS : Hid (crcTo 4294967295#32 (xs.take (k + 1)) = crcB s x) := by
        show crcTo 4294967295#32 (xs.take (k + 1)) = crcB s x
        rw [List.take_add_one, hx, hs]; exact crcTo_snoc _ _ _
      clear hx hs
      go_wp2_with fail
      obtain ⟨t, ht⟩ : ∃ t, t = s ^^^ BitVec.ofNat 32 x.toNat := ⟨_, rfl⟩
      have HT : Hid (bits .xor .u32 (s.toNat : Int) ((x.toNat : Int) % 4294967296) = (t.toNat : Int)) := by
        show bits .xor .u32 (s.toNat : Int) ((x.toNat : Int) % 4294967296) = (t.toNat : Int)
        rw [ht]
        refine xor32 s _ ?_
        have := u8lt x
        rw [BitVec.toNat_ofNat]
        omega
      rw [HT.out]
      have HS2 : Hid (crcTo 4294967295#32 (xs.take (k + 1)) = shN 8 t) := by rw [ht]; exact HS.out
      clear ht HS HT
      go_loopw [3, 5] (fun c j wr' => ∃ (q : Nat), q ≤ 8 ∧ c = .int .u32 ((shN q t).toNat : Int) ∧ j = .int .i64 q ∧ wr' = wr) (fun _ j _ => 8 - (intOf j).toNat)
      case atStart => exact ⟨0, Nat.zero_le _, rfl, rfl, rfl⟩
      case round =>
        obtain ⟨q, hq, rfl, rfl, rfl⟩ := hrel
        obtain ⟨c, hc⟩ : ∃ c, c = shN q t := ⟨_, rfl⟩
        have HQ : Hid (shN (q + 1) t = sh c) := by rw [hc]; exact rfl
        rw [← hc]
        by_cases h8 : q < 8
        · by_cases hp : c.toNat % 2 = 1
          · have hz : ((c.toNat : Int) % 2) = 1 := by omega
            clear hc
            go_wp2_with fail
            have hx : bits .xor .u32 ((c.toNat : Int) / 2) 3988292384 = ((sh c).toNat : Int) := by
              have e : (c.toNat : Int) / (2 : Int) = ((c >>> 1).toNat : Int) := by
                rw [BitVec.toNat_ushiftRight, Nat.shiftRight_eq_div_pow]
                omega
              unfold sh
              rw [if_pos hp, e]
              exact xor32 (c >>> 1) 3988292384#32 (by rfl)
            exact ⟨⟨q + 1, by omega, by rw [hx, HQ.out], by go_num, trivial⟩, by simp [intOf]; omega⟩
          · have hz : ¬ ((c.toNat : Int) % 2) = 1 := by omega
            clear hc
            go_wp2_with fail
            have hx : ((c.toNat : Int) / 2) = ((sh c).toNat : Int) := by
              unfold sh
              rw [if_neg hp, BitVec.toNat_ushiftRight, Nat.shiftRight_eq_div_pow]
              omega
            exact ⟨⟨q + 1, by omega, by rw [hx, HQ.out], by go_num, trivial⟩, by simp [intOf]; omega⟩
        · obtain rfl : q = 8 := by omega
          have HE8 : Hid (c = crcTo 4294967295#32 (xs.take (k + 1))) := by rw [hc]; exact HS2.out.symm
          clear hc HQ
          go_wp2_with fail
          exact ⟨⟨k + 1, by omega, by rw [HE8.out], by go_num, trivial⟩, by simp [intOf]; omega⟩
    · obtain rfl : k = xs.length := by omega
      have hx := xor32 (crcTo 4294967295#32 (xs.take xs.length)) 4294967295#32 (x := 4294967295) (by rfl)
      rw [List.take_of_length_le (Nat.le_refl _)] at hx ⊢
      have HX : Hid (bits .xor .u32 ((crcTo 4294967295#32 xs).toNat : Int) 4294967295 = ((crc xs).toNat : Int)) := hx
      clear hx
      go_wp2_with fail
      go_ret
      refine ⟨?_, rfl⟩
      show Ending.returned (Value.int .u32 (bits .xor .u32 ((crcTo 4294967295#32 xs).toNat : Int) 4294967295)) = _
      rw [HX.out]
end Go.Proofs.Ytnncedndlhfdkaa

/-
  Bytes of the call's own; append; l2Num, l2Cat, l2Str, l2Fixed, l2Shared.
-/
namespace Go.Proofs.Ytnncedndlhfdkaa
open Go.ChangeShapes Go.WideShapes Go.ChangeAt Go.RowKit Go.Deep
set_option linter.unusedVariables false
set_option linter.unusedSimpArgs false
set_option maxRecDepth 100000

/-- A row of bytes of the call's own. -/
def OwnY (w : World) (base g cp : Nat) (xs : List UInt8) : Prop := w.ownsRow base 5 1 (.slice (some ⟨g, 0, none⟩) xs.length cp) xs.length (xs.map ub)
theorem OwnY.lt {w : World} {base g cp : Nat} {xs : List UInt8} (h : OwnY w base g cp xs) : base ≤ g ∧ g < w.heap.size := World.ownsRow.lt h g rfl
theorem OwnY.chg {S : Nat → Prop} {w w' : World} {base g cp : Nat} {xs : List UInt8} (h : OwnY w base g cp xs) (hc : Chg S w w') (hn : ¬ S g) : OwnY w' base g cp xs := own_chg h hc (fun k q => by simp [Value.ownBlock] at q; subst q; exact hn)
theorem OwnY.below {w w' : World} {base g cp : Nat} {xs : List UInt8} (h : OwnY w base g cp xs) (hb : Below w.heap.size w w') : OwnY w' base g cp xs := h.chg (Chg.of_below hb) (S := fun _ => False) (fun q => q)
theorem OwnY.at {w : World} {base g cp : Nat} {xs : List UInt8} (h : OwnY w base g cp xs) : BysAt w g 0 xs := by
  intro k x hx
  have hk := (List.getElem?_eq_some_iff.1 hx).1
  rw [Nat.zero_add, World.ownsRow.cellAt h k (by omega), List.getElem?_map, hx]; rfl
theorem OwnY.caps {w : World} {base g cp : Nat} {xs : List UInt8} (h : OwnY w base g cp xs) : xs.length ≤ cp ∧ cp ≤ maxLen := by
  rcases h.2 with ⟨h0, _⟩ | ⟨g', cap', cur, hv, _, _, hn, hcap, _, _⟩
  · cases h0
  · simp only [Value.slice.injEq, Option.some.injEq, Addr.mk.injEq, and_true, true_and] at hv
    obtain ⟨rfl, rfl⟩ := hv
    exact ⟨hn, hcap⟩
theorem OwnY.mono {w : World} {base base' g cp : Nat} {xs : List UInt8} (h : OwnY w base g cp xs) (hb : base' ≤ base) : OwnY w base' g cp xs := by
  refine ⟨h.1, ?_⟩
  rcases h.2 with hn | ⟨g', cap', cur, hv, h1, rest⟩
  · exact .inl hn
  · exact .inr ⟨g', cap', cur, hv, Nat.le_trans hb h1, rest⟩
theorem ub_one (xs : List UInt8) : ∀ u ∈ xs.map ub, u.oneCell' = true := by
  intro u hu
  obtain ⟨r, _, rfl⟩ := List.mem_map.1 hu
  rfl
theorem Try.infoByte : (Try.prog.info? 5).map (fun i => (i.zero, i.size, i.bytes)) = some (some (.int .u8 0), 1, 1) := by kernel_rfl
/-- Bytes appended to a row of the call's own. -/
theorem wpList_append_bys {ops : Array Oper} {rest : List Oper} {o : Oper} {a : Act} {Q : Exit → Act → World → Prop} (w : World) (hgd : o.guard = none) (s x : Operand)
    (ho : o.op = .call { callee := .builtin .append, args := #[s, x], argTypes := #[30, 30] })
    (base g cp n b off m cx : Nat) (l k : List UInt8) (hs : a.eval s = .slice (some ⟨g, 0, none⟩) n cp) (hx : a.eval x = .slice (some ⟨b, off, none⟩) m cx) (hn : n = l.length) (hm : m = k.length) (hO : OwnY w base g cp l)
    (hc : BysAt w b off k) (hlen : l.length + k.length ≤ 2 ^ 30) (hbase : base ≤ w.heap.size)
    (h : ∀ g' cp' w', OwnY w' base g' cp' (l ++ k) → w.grownBy w' (some g) → (g' = g ∨ g' = w.heap.size) → wpList Try.prog ops Q rest (a.put o.dst (.slice (some ⟨g', 0, none⟩) (n + m) cp')) w') : wpList Try.prog ops Q (o :: rest) a w := by
  subst hn hm
  obtain ⟨i, hi, hz0, hz1, hz2⟩ := info_parts Try.infoByte
  refine wpList_append_own_at w hgd s x 30 ho base 5 i _ 1 1 Try.underlying30 hi hz0 hz1 hz2 rfl (by decide) (.slice (some ⟨g, 0, none⟩) l.length cp) l.length (l.map ub) hs hO ⟨b, off, none⟩ k.length cx (k.map ub) hx (by simp) ?_ (ub_one k) ?_ ?_ hbase ?_
  · intro j u hu
    rw [List.getElem?_map] at hu
    cases hk : k[j]? with
    | none => rw [hk] at hu; cases hu
    | some r =>
      rw [hk] at hu
      simp at hu
      rw [Addr.add_mid, hc j r hk, ← hu]
  · unfold maxLen; omega
  · omega
  · intro v' w' hO' hgr hnil hat
    rcases hO'.2 with ⟨h0, _⟩ | ⟨g', cap', cur, hv, _, _, hn, hcap, _, _⟩
    · have := (hnil.1 h0).1
      cases this
    · subst hv
      refine h g' cap' w' ?_ hgr ?_
      · unfold OwnY
        rw [List.length_append, List.map_append]
        exact hO'
      · simp [Value.ownBlock] at hat
        exact hat
theorem ownY_new (w : World) {base : Nat} (hb : base ≤ w.heap.size) : OwnY (w.alloc (Obj.cells #[] 5)) base w.heap.size 0 [] :=
  World.ownsRow_made w #[] 0 hb (Nat.zero_le _) (by simp)
theorem ownY_one (w : World) {base : Nat} (hb : base ≤ w.heap.size) (x : UInt8) {v : Int} (hv : v = (x.toNat : Int)) : OwnY (w.alloc (Obj.cells #[.int .u8 v] 5)) base w.heap.size 1 [x] := by
  subst hv
  exact World.ownsRow_lit w #[ub x] 1 hb (by decide) rfl

end Go.Proofs.Ytnncedndlhfdkaa

/-
  (impl.seqNode).prefix, impl.PrefixOf.
-/
namespace Go.Proofs.Ytnncedndlhfdkaa
open Go.ChangeShapes Go.WideShapes Go.ChangeAt Go.RowKit Go.Deep
set_option linter.unusedVariables false
set_option linter.unusedSimpArgs false
set_option maxRecDepth 100000

theorem pb_assert (b : UInt8) (w : World) : (Instr.typeAssert (byteV b) 88 90 true).run Try.prog w = .ok (.tuple #[.agg #[.int .u8 (b.toNat : Int)], .bool true]) w := by kernel_rfl
theorem pb_other {T : Nat} (hT : T = 105 ∨ T = 99 ∨ T = 65) (cs : Array Value) (w : World) : (Instr.typeAssert (.iface T (.agg cs)) 88 90 true).run Try.prog w = .ok (.tuple #[.agg #[.int .u8 0], .bool false]) w := by
  rcases hT with rfl | rfl | rfl <;> kernel_rfl
theorem conv_ownY {w : World} {base g cap : Nat} {zs : List UInt8} (h : OwnY w base g cap zs) : (convert 30 9 (.slice (some ⟨g, 0, none⟩) zs.length cap)).run Try.prog w = .ok (.string ⟨zs.toArray⟩) w := by
  refine run_convert_bytes_back (P := Try.prog) w 30 9 5 ⟨g, 0, none⟩ cap zs Try.underlying30 Try.underlying5 Try.underlying9 ?_
  intro i hi
  have := World.ownsRow.cellAt h i (by omega)
  rw [Addr.add_mid, Nat.zero_add, this, List.getElem?_map, List.getElem?_eq_getElem hi]
  rfl
/-- A node that is a byte, and one that is not. -/
theorem NodeOk.kind {w : World} {lo : Nat → Prop} {t : Pat} {v : Value} (h : NodeOk w lo t v) : (∃ b, t = .byte b ∧ v = byteV b) ∨ (¬ isByte t ∧ ∃ T cs, v = .iface T (.agg cs) ∧ (T = 105 ∨ T = 99 ∨ T = 65)) := by
  obtain ⟨n, hn⟩ := h
  cases n with
  | zero => exact hn.elim
  | succ n =>
    cases t with
    | byte b => exact .inl ⟨b, rfl, hn⟩
    | cls f => exact .inr ⟨fun h => h, _, _, hn, .inl rfl⟩
    | rep t o r => obtain ⟨u, h1, _⟩ := hn; exact .inr ⟨fun h => h, _, _, h1, .inr (.inl rfl)⟩
    | alt os => obtain ⟨u, h1, _⟩ := hn; exact .inr ⟨fun h => h, _, _, h1, .inr (.inr rfl)⟩
/-- A seq's nodes, one by one. -/
theorem SeqAt.nth {w : World} {R : Nat → Prop} {ts : List Pat} {u : Value} (h : SeqAt w R ts u) : ∃ a cp, u = .slice a ts.length cp ∧ ∀ k t, ts[k]? = some t → ∃ gs v, a = some ⟨gs, 0, none⟩ ∧ gs < w.heap.size ∧ w.cell? ⟨gs, k, none⟩ = some v ∧ NodeOk w R t v := by
  obtain ⟨n, h | ⟨g, cp, us, h1, h2, h3, h4⟩⟩ := h
  · obtain ⟨rfl, rfl⟩ := h
    exact ⟨none, 0, rfl, fun k t ht => by simp at ht⟩
  · refine ⟨_, cp, h1, fun k t ht => ?_⟩
    have hk := (List.getElem?_eq_some_iff.1 ht).1
    obtain ⟨v, hv⟩ : ∃ v, us[k]? = some v := ⟨_, List.getElem?_eq_getElem (by omega)⟩
    exact ⟨g, v, rfl, h3.lt, h3.val k v hv, n, h4 k v t hv ht⟩
/-- The state of the loop of prefix. -/
structure PxJ (w : World) (ts : List Pat) (k g cp : Nat) (xs : List UInt8) (wr : World) : Prop where
  len : xs.length = k
  pre : prefM ts = (xs ++ (prefM (ts.drop k)).1, (prefM (ts.drop k)).2)
  own : OwnY wr (w.heap.size + 2) g cp xs
  res : BoxAt wr w.heap.size 51 2 (w.heap.size + 1) [.string ⟨#[]⟩, .bool false]
  below : Below w.heap.size w wr
def set2 (w : World) (g : Nat) (a b : Value) : World := (w.setCell ⟨g, 0, none⟩ a).setCell ⟨g, 1, none⟩ b
theorem set2_cells {w : World} {base t g : Nat} {x y : Value} (h : BoxAt w base t 2 g [x, y]) (a b : Value) : BoxAt (set2 w g a b) base t 2 g [a, b] := ((h.set 0 a).set 1 b)

set_option maxHeartbeats 8000000 in
theorem prefix_core {w : World} {R : Nat → Prop} {ts : List Pat} {u : Value} (h : SeqAt w R ts u) (hl : ts.length ≤ 1000) : Calls Try.prog 40 #[.agg #[u]] w fun e w' => e = .returned (.agg #[.string ⟨(prefM ts).1.toArray⟩, .bool (prefM ts).2]) ∧ Below w.heap.size w w' := by
  obtain ⟨a, cp, rfl, hn⟩ := h.nth
  have HN : Hid (∀ k t, ts[k]? = some t → ∃ gs v, a = some ⟨gs, 0, none⟩ ∧ gs < w.heap.size ∧ w.cell? ⟨gs, k, none⟩ = some v ∧ NodeOk w R t v) := hn
  clear h hn
  obtain ⟨n, hnn⟩ : ∃ n, n = ts.length := ⟨_, rfl⟩
  have HL : Hid (n = ts.length) := hnn
  rw [← hnn] at hl ⊢
  clear hnn
  obtain ⟨W0, hW0⟩ : ∃ W0 : World, W0 = ((w.alloc (Obj.cells #[.slice a n cp] 73)).alloc (Obj.cells #[.string ⟨#[]⟩, .bool false] 51)).alloc (Obj.cells #[] 5) := ⟨_, rfl⟩
  have HW0 : Hid (PxJ w ts 0 (w.heap.size + 2) 0 [] W0 ∧ W0.cell? ⟨w.heap.size, 0, none⟩ = some (.slice a n cp)) := by
    obtain ⟨V, hV⟩ : ∃ V : World, V = (w.alloc (Obj.cells #[.slice a n cp] 73)).alloc (Obj.cells #[.string ⟨#[]⟩, .bool false] 51) := ⟨_, rfl⟩
    have hz : V.heap.size = w.heap.size + 2 := by rw [hV]; simp
    have hbV : Below w.heap.size w V := by rw [hV]; exact ((Below.refl _ _).alloc (Nat.le_refl _) _).alloc (by simp) _
    have b1 : BoxAt V w.heap.size 73 1 w.heap.size [.slice a n cp] := by rw [hV]; exact BoxAt.ofHeap (vs := #[.slice a n cp]) (heap_alloc2_old w _ _) (Nat.le_refl _) rfl
    have b2 : BoxAt V w.heap.size 51 2 (w.heap.size + 1) [.string ⟨#[]⟩, .bool false] := by rw [hV]; exact BoxAt.ofHeap (vs := #[.string ⟨#[]⟩, .bool false]) (heap_alloc2_new w _ _) (by omega) rfl
    have hb0 : Below V.heap.size V W0 := by rw [hW0, ← hV]; exact (Below.refl _ _).alloc (Nat.le_refl _) _
    refine ⟨⟨rfl, by simp, ?_, b2.below hb0, hbV.trans (hb0.mono (by omega))⟩, (b1.below hb0).cell (j := 0) rfl⟩
    rw [hW0, ← hV, ← hz]
    exact ownY_new V (Nat.le_refl _)
  go_enter Try.func40, Try.ntmps40
  go_upto_region 2 with fail
  rw [← hW0]
  clear hW0
  have c0 := HW0.out.2
  go_wp2_with fail
  clear c0
  go_loopw [3, 12] (fun o i wr => ∃ (k g cq : Nat) (xs : List UInt8), k ≤ n ∧ i = .int .i64 (k : Int) ∧ o = .slice (some ⟨g, 0, none⟩) k cq ∧ PxJ w ts k g cq xs wr) (fun _ i _ => n - (intOf i).toNat)
  case atStart => exact ⟨0, _, 0, [], Nat.zero_le _, rfl, rfl, HW0.out.1⟩
  case round =>
    obtain ⟨k, g, cq, xs, hk, rfl, rfl, hJ⟩ := hrel
    have HJ : Hid (PxJ w ts k g cq xs wr) := hJ
    have hgl := hJ.own.lt
    have hxl := hJ.len
    have hsz := hJ.below.size
    have r0 := hJ.res.cell (j := 0) rfl
    have r1 := hJ.res.cell (j := 1) rfl
    have f0 := hJ.res.frozen 0
    have f1 := hJ.res.frozen 1
    clear hJ HW0
    by_cases hlt : k < n
    · have zk : (k : Int) < (n : Int) := by omega
      obtain ⟨t, ht⟩ : ∃ t, ts[k]? = some t := ⟨_, List.getElem?_eq_getElem (by have := HL.out; omega)⟩
      obtain ⟨gs, v, rfl, hgs, hv, hN⟩ := HN.out k t ht
      have hv2 : wr.cell? ⟨gs, k, none⟩ = some v := by
        rw [(Chg.of_below HJ.out.below (S := fun _ => False)).cell (p := ⟨gs, k, none⟩) hgs (fun q => q)]; exact hv
      have hdrop : ts.drop k = t :: ts.drop (k + 1) := by
        rw [List.drop_eq_getElem_cons (by have := HL.out; omega)]
        congr 1
        exact Option.some.inj ((List.getElem?_eq_getElem (by have := HL.out; omega)).symm.trans ht)
      have HD : Hid (ts.drop k = t :: ts.drop (k + 1)) := hdrop
      clear hv hdrop ht
      rcases hN.kind with ⟨b, rfl, rfl⟩ | ⟨hnb, T, cs, rfl, hT⟩
      · have ha := pb_assert b
        clear hN
        have HP : Hid (prefM ts = ((xs ++ [b]) ++ (prefM (ts.drop (k + 1))).1, (prefM (ts.drop (k + 1))).2)) := by
          show prefM ts = _
          rw [HJ.out.pre, HD.out]; simp [prefM]
        obtain ⟨W5, hW5⟩ : ∃ W5 : World, W5 = wr.alloc (Obj.cells #[.int .u8 (b.toNat : Int)] 90) := ⟨_, rfl⟩
        have hb5 : Below wr.heap.size wr W5 := by rw [hW5]; exact (Below.refl _ _).alloc (Nat.le_refl _) _
        have hz5 : W5.heap.size = wr.heap.size + 1 := by rw [hW5]; simp
        have HJ5 : Hid (PxJ w ts k g cq xs W5) := ⟨HJ.out.len, HJ.out.pre, HJ.out.own.below hb5, HJ.out.res.below hb5, HJ.out.below.trans (hb5.mono hsz)⟩
        have b5 : W5.cell? ⟨wr.heap.size, 0, none⟩ = some (.int .u8 (b.toNat : Int)) := by
          rw [hW5]; exact (boxAt_new wr (base := 0) (t := 90) (sz := 1) #[.int .u8 (b.toNat : Int)] (Nat.zero_le _) rfl).cell (j := 0) rfl
        go_upto_region 6 with fail
        rw [← hW5]
        clear hW5 hv2 r0 r1 f0 f1 ha HJ
        obtain ⟨W6, hW6⟩ : ∃ W6 : World, W6 = W5.alloc (Obj.cells #[.int .u8 (b.toNat : Int)] 5) := ⟨_, rfl⟩
        have hb6 : Below W5.heap.size W5 W6 := by rw [hW6]; exact (Below.refl _ _).alloc (Nat.le_refl _) _
        have hz6 : W6.heap.size = W5.heap.size + 1 := by rw [hW6]; simp
        have HJ6 : Hid (PxJ w ts k g cq xs W6 ∧ BysAt W6 (wr.heap.size + 1) 0 [b]) := by
          refine ⟨⟨HJ5.out.len, HJ5.out.pre, HJ5.out.own.below hb6, HJ5.out.res.below hb6, HJ5.out.below.trans (hb6.mono (by omega))⟩, ?_⟩
          rw [hW6, ← hz5]
          exact (ownY_one W5 (Nat.le_refl _) b rfl).at
        go_wp2_with (at_builtin; rw [← hW6]; refine wpList_append_bys _ rfl _ _ rfl (w.heap.size + 2) g cq k (wr.heap.size + 1) 0 1 1 xs [b] rfl rfl ?hn rfl ?hO ?hc ?hl ?hb ?_)
        case hn => exact hxl.symm
        case hO => exact HJ6.out.1.own
        case hc => exact HJ6.out.2
        case hl => simp; omega
        case hb => omega
        intro g' cp' w' hO' hgr hat
        rw [← hW6] at hgr
        have HJ7 : Hid (PxJ w ts (k + 1) g' cp' (xs ++ [b]) w') := by
          have hC : Chg (fun j => j = g) W6 w' := Chg.of_grown hgr (fun j hj => by cases hj; rfl)
          refine ⟨by simp [hxl], HP.out, hO', HJ6.out.1.res.chg hC (by omega), ?_⟩
          exact Chg.below HJ6.out.1.below hC HJ6.out.1.below.size (fun j q => by omega)
        clear hO' hgr hat hW6 b5
        go_wp2_with fail
        go_roundw
        case rel => exact ⟨k + 1, g', cp', xs ++ [b], by omega, by go_num, rfl, HJ7.out⟩
        case measure => simp [intOf]; omega
      · have ha := pb_other hT cs
        have HP : Hid (prefM ts = (xs, false)) := by
          show prefM ts = _
          rw [HJ.out.pre, HD.out, prefM_not hnb]; simp
        obtain ⟨W5, hW5⟩ : ∃ W5 : World, W5 = wr.alloc (Obj.cells #[.int .u8 0] 90) := ⟨_, rfl⟩
        have hb5 : Below wr.heap.size wr W5 := by rw [hW5]; exact (Below.refl _ _).alloc (Nat.le_refl _) _
        have HJ5 : Hid (PxJ w ts k g cq xs W5) := ⟨HJ.out.len, HJ.out.pre, HJ.out.own.below hb5, HJ.out.res.below hb5, HJ.out.below.trans (hb5.mono hsz)⟩
        go_upto_region 6 with fail
        rw [← hW5]
        clear hW5 hv2 r0 r1 f0 f1 ha HJ hN hnb hT
        have hcv := conv_ownY HJ5.out.own
        rw [hxl] at hcv
        have r0 := HJ5.out.res.cell (j := 0) rfl
        have r1 := HJ5.out.res.cell (j := 1) rfl
        have f0 := HJ5.out.res.frozen 0
        have f1 := HJ5.out.res.frozen 1
        obtain ⟨W6, hW6⟩ : ∃ W6 : World, W6 = set2 W5 (w.heap.size + 1) (.string ⟨xs.toArray⟩) (.bool false) := ⟨_, rfl⟩
        have HW6 : Hid (BoxAt W6 w.heap.size 51 2 (w.heap.size + 1) [.string ⟨xs.toArray⟩, .bool false] ∧ Below w.heap.size w W6) := by
          rw [hW6]; exact ⟨set2_cells HJ5.out.res _ _, below_set (below_set HJ5.out.below (by omega) 0 _) (by omega) 1 _⟩
        have p0 := HW6.out.1.cell (j := 0) rfl
        have p1 := HW6.out.1.cell (j := 1) rfl
        unfold set2 at hW6
        go_wp2_with fail
        rw [← hW6]
        rw [HP.out]
        refine bodyPost_ret (v := .agg #[.string ⟨xs.toArray⟩, .bool false]) (by simp [results, Try.results40, go_sem, p0, p1]) rfl ⟨rfl, HW6.out.2⟩
    · have zk : ¬ (k : Int) < (n : Int) := by omega
      have HP : Hid (prefM ts = (xs, true)) := by
        show prefM ts = _
        rw [HJ.out.pre, List.drop_eq_nil_of_le (by have := HL.out; omega)]; simp [prefM]
      have hcv := conv_ownY HJ.out.own
      rw [hxl] at hcv
      obtain ⟨W6, hW6⟩ : ∃ W6 : World, W6 = set2 wr (w.heap.size + 1) (.string ⟨xs.toArray⟩) (.bool true) := ⟨_, rfl⟩
      have HW6 : Hid (BoxAt W6 w.heap.size 51 2 (w.heap.size + 1) [.string ⟨xs.toArray⟩, .bool true] ∧ Below w.heap.size w W6) := by
        rw [hW6]; exact ⟨set2_cells HJ.out.res _ _, below_set (below_set HJ.out.below (by omega) 0 _) (by omega) 1 _⟩
      have p0 := HW6.out.1.cell (j := 0) rfl
      have p1 := HW6.out.1.cell (j := 1) rfl
      unfold set2 at hW6
      go_wp2_with fail
      rw [← hW6]
      rw [HP.out]
      refine bodyPost_ret (v := .agg #[.string ⟨xs.toArray⟩, .bool true]) (by simp [results, Try.results40, go_sem, p0, p1]) rfl ⟨rfl, HW6.out.2⟩

theorem AltAt.nth {w : World} {R : Nat → Prop} {os : List (List Pat)} {u : Value} (h : AltAt w R os u) : ∃ g cp, u = .slice (some ⟨g, 0, none⟩) os.length cp ∧ g < w.heap.size ∧ ∀ k ts, os[k]? = some ts → ∃ v, w.cell? ⟨g, k, none⟩ = some v ∧ SeqAt w R ts v := by
  obtain ⟨n, g, cp, us, h1, h2, h3, h4⟩ := h
  refine ⟨g, cp, h1, h3.lt, fun k ts ht => ?_⟩
  have hk := (List.getElem?_eq_some_iff.1 ht).1
  obtain ⟨v, hv⟩ : ∃ v, us[k]? = some v := ⟨_, List.getElem?_eq_getElem (by omega)⟩
  exact ⟨v, h3.val k v hv, n, h4 k v ts hv ht⟩
theorem pref_is (p : ByteArray) (hp : p.size ≤ maxLen) : (checkM (sb p)).1 = 0 → ∃ os, AltOk (sb p) 0 0 p.size os := by
  intro h
  obtain ⟨e, w', fr, ⟨u, _, _, (⟨_, os, h1, _⟩ | ⟨h1, _⟩)⟩, _⟩ := readPattern_core p default hp []
  · exact ⟨os, h1⟩
  · exact absurd h h1
/-- What PrefixOf of a pattern comes to. -/
def PrefIs (p : ByteArray) (r : List UInt8 × Bool) : Prop := (¬ (checkM (sb p)).1 = 0 → r = ([], false)) ∧ ((checkM (sb p)).1 = 0 → ∀ os, AltOk (sb p) 0 0 p.size os → r = prefOf os)
theorem prefIs_some (p : ByteArray) (hp : p.size ≤ maxLen) : ∃ r, PrefIs p r := by
  by_cases h : (checkM (sb p)).1 = 0
  · obtain ⟨os, ho⟩ := pref_is p hp h
    refine ⟨prefOf os, fun q => absurd h q, fun _ us hu => prefOf_one (by rw [sb_len]; exact ho) (by rw [sb_len]; exact hu)⟩
  · exact ⟨_, fun _ => rfl, fun q => absurd q h⟩
theorem seqG_len {A : List UInt8 → Pat → Prop} (hA : ∀ xs t, A xs t → 0 < xs.length) : ∀ {ts : List Pat} {xs : List UInt8}, SeqG A ts xs → ts.length ≤ xs.length
  | [], _, _ => Nat.zero_le _
  | _ :: ts, _, ⟨ys, zs, h1, ⟨us, ops, a, h2, h3, _⟩, h4⟩ => by
    have := seqG_len hA h4
    have := hA _ _ h3
    rw [h1, h2]
    simp
    omega

set_option maxHeartbeats 8000000 in
theorem implPrefix_core (p : ByteArray) (w : World) (hpm : p.size ≤ maxLen) (r : List UInt8 × Bool) (hr : PrefIs p r) : Calls Try.prog 27 #[.string p] w fun e w' => e = .returned (.agg #[.string ⟨r.1.toArray⟩, .bool r.2]) ∧ Below w.heap.size w w' := by
  have HR : Hid (PrefIs p r) := hr
  clear hr
  obtain ⟨W0, hW0⟩ : ∃ W0 : World, W0 = w.alloc (Obj.cells #[.string ⟨#[]⟩, .bool false] 51) := ⟨_, rfl⟩
  have HW0 : Hid (BoxAt W0 w.heap.size 51 2 w.heap.size [.string ⟨#[]⟩, .bool false] ∧ Below w.heap.size w W0) := by
    rw [hW0]; exact ⟨boxAt_new w _ (Nat.le_refl _) rfl, (Below.refl _ _).alloc (Nat.le_refl _) _⟩
  obtain ⟨c, hc⟩ : ∃ c, c = (checkM (sb p)).1 := ⟨_, rfl⟩
  obtain ⟨k, hk⟩ : ∃ k, k = (checkM (sb p)).2 := ⟨_, rfl⟩
  have HC : Hid (c = (checkM (sb p)).1) := hc
  go_enter Try.func27, Try.ntmps27
  go_upto_region 1 with fail
  rw [← hW0]
  clear hW0
  go_wp2_with fail
  refine (readPattern_core p W0 hpm).mono ?_
  rintro e w1 ⟨u, rfl, hb1, hu⟩
  rw [← hc, ← hk]
  have HU : Hid (((checkM (sb p)).1 = 0 ∧ ∃ os, AltOk (sb p) 0 0 p.size os ∧ AltAt w1 (Bet W0.heap.size w1.heap.size) os u) ∨ (¬ (checkM (sb p)).1 = 0 ∧ u = .slice none 0 0)) := hu
  obtain ⟨ua, un, uc, rfl⟩ : ∃ a n cp, u = .slice a n cp := by
    rcases hu with ⟨_, os, _, hU⟩ | ⟨_, rfl⟩
    · obtain ⟨g, n, cp, rfl⟩ := hU.slice; exact ⟨_, _, _, rfl⟩
    · exact ⟨_, _, _, rfl⟩
  clear hu hc hk
  have h1 := HW0.out.2.size
  have h2 := hb1.size
  obtain ⟨W2, hW2⟩ : ∃ W2 : World, W2 = (w1.alloc (Obj.cells #[.slice ua un uc] 65)).alloc (Obj.cells #[.int .i64 c, .int .i64 (k : Int)] 46) := ⟨_, rfl⟩
  have hb2 : Below w1.heap.size w1 W2 := by rw [hW2]; exact ((Below.refl _ _).alloc (Nat.le_refl _) _).alloc (by simp) _
  have HW2 : Hid (BoxAt W2 w.heap.size 51 2 w.heap.size [.string ⟨#[]⟩, .bool false] ∧ BoxAt W2 w.heap.size 46 2 (w1.heap.size + 1) [.int .i64 c, .int .i64 (k : Int)] ∧ BoxAt W2 w.heap.size 65 1 w1.heap.size [.slice ua un uc] ∧ Below w.heap.size w W2) := by
    refine ⟨(HW0.out.1.below hb1).below hb2, ?_, ?_, (HW0.out.2.trans (hb1.mono h1)).trans (hb2.mono (by omega))⟩
    · rw [hW2]
      exact BoxAt.ofHeap (vs := #[.int .i64 c, .int .i64 (k : Int)]) (heap_alloc2_new w1 _ _) (by omega) rfl
    · rw [hW2]
      exact BoxAt.ofHeap (vs := #[.slice ua un uc]) (heap_alloc2_old w1 _ _) (by omega) rfl
  have HU2 : Hid (((checkM (sb p)).1 = 0 ∧ ∃ os, AltOk (sb p) 0 0 p.size os ∧ AltAt W2 (Bet W0.heap.size w1.heap.size) os (.slice ua un uc)) ∨ (¬ (checkM (sb p)).1 = 0 ∧ Value.slice ua un uc = .slice none 0 0)) := by
    rcases HU.out with ⟨q, os, ho, hU⟩ | q
    · exact .inl ⟨q, os, ho, hU.move (S := fun _ => False) (Chg.of_below hb2) (fun q hq => hq.elim) (fun q _ z => z)⟩
    · exact .inr q
  clear hb1 hb2 HW0 HU
  go_upto_region 2 with fail
  rw [← hW2]
  clear hW2
  have b0 := HW2.out.2.1.cell (j := 0) rfl
  have a0 := HW2.out.2.2.1.cell (j := 0) rfl
  have r0 := HW2.out.1.cell (j := 0) rfl
  have r1 := HW2.out.1.cell (j := 1) rfl
  have f0 := HW2.out.1.frozen 0
  have f1 := HW2.out.1.frozen 1
  have hzero : ∀ (hz : ¬ c = 0 ∨ ¬ (un : Int) = 1), r = ([], false) := fun hz => by
    rcases HU2.out with ⟨q, os, ho, hU⟩ | ⟨q, hn⟩
    · obtain ⟨g, cp, e, _, _⟩ := hU.nth
      simp at e
      have := HR.out.2 q os ho
      rw [this]
      have hc0 : c = 0 := by rw [HC.out]; exact q
      rcases os with _ | ⟨o1, _ | ⟨o2, os⟩⟩
      · rfl
      · exfalso
        simp at e
        rcases hz with hz | hz
        · exact hz hc0
        · exact hz (by rw [e.2.1]; rfl)
      · rfl
    · exact HR.out.1 q
  by_cases hz : ¬ c = 0 ∨ ¬ (un : Int) = 1
  · have e := hzero hz
    subst e
    clear hzero
    obtain ⟨W6, hW6⟩ : ∃ W6 : World, W6 = set2 W2 w.heap.size (.string ⟨#[]⟩) (.bool false) := ⟨_, rfl⟩
    have HW6 : Hid (BoxAt W6 w.heap.size 51 2 w.heap.size [.string ⟨#[]⟩, .bool false] ∧ Below w.heap.size w W6) := by
      rw [hW6]; exact ⟨set2_cells HW2.out.1 _ _, below_set (below_set HW2.out.2.2.2 (Nat.le_refl _) 0 _) (Nat.le_refl _) 1 _⟩
    have p0 := HW6.out.1.cell (j := 0) rfl
    have p1 := HW6.out.1.cell (j := 1) rfl
    unfold set2 at hW6
    by_cases hc0 : c = 0
    · have hun : ¬ (un : Int) = 1 := hz.elim (fun q => absurd hc0 q) (fun q => q)
      have zun : ((un : Int) != 1) = true := by simpa using hun
      subst hc0
      clear hz
      go_wp2_with fail
      rw [← hW6]
      refine bodyPost_ret (v := .agg #[.string ⟨#[]⟩, .bool false]) (by simp [results, Try.results27, go_sem, p0, p1]) rfl ⟨rfl, HW6.out.2⟩
    · have zc : (c != 0) = true := by simpa using hc0
      clear hz
      go_wp2_with fail
      rw [← hW6]
      refine bodyPost_ret (v := .agg #[.string ⟨#[]⟩, .bool false]) (by simp [results, Try.results27, go_sem, p0, p1]) rfl ⟨rfl, HW6.out.2⟩
  · have hc0 : c = 0 := Classical.not_not.1 (fun q => hz (.inl q))
    have hun : (un : Int) = 1 := Classical.not_not.1 (fun q => hz (.inr q))
    clear hz hzero
    have q0 : (checkM (sb p)).1 = 0 := by rw [← HC.out]; exact hc0
    obtain ⟨g, ts, v, rfl, hgv, hS, hP, hl⟩ : ∃ g ts v, ua = some ⟨g, 0, none⟩ ∧ W2.cell? ⟨g, 0, none⟩ = some v ∧ SeqAt W2 (Bet W0.heap.size w1.heap.size) ts v ∧ r = prefM ts ∧ ts.length ≤ 1000 := by
      rcases HU2.out with ⟨q, os, ho, hU⟩ | ⟨q, hn⟩
      · obtain ⟨g, cp, e, _, hn⟩ := hU.nth
        simp at e
        obtain ⟨ts, rfl⟩ : ∃ ts, os = [ts] := by
          rcases os with _ | ⟨o1, _ | ⟨o2, os⟩⟩
          · exfalso; simp at e; omega
          · exact ⟨o1, rfl⟩
          · exfalso; simp at e; omega
        obtain ⟨v, hv, hS⟩ := hn 0 ts rfl
        refine ⟨g, ts, v, e.1, hv, hS, HR.out.2 q _ ho, ?_⟩
        obtain ⟨n, hg⟩ := ho.gr
        have h3 := seqG_len (fun xs t (z : AtomG n xs t) => by obtain ⟨c, ys, e, _⟩ := z.first; rw [e]; simp) hg
        have h4 := cut_len (p := sb p) (i := 0) (k := p.size) (by rw [sb_len]; exact Nat.le_refl _)
        have h5 : p.size ≤ 200 := by
          apply Classical.byContradiction
          intro h6
          unfold checkM at q0
          rw [if_pos (by rw [sb_len]; omega)] at q0
          exact absurd q0 (by decide)
        omega
      · exact absurd q0 q
    obtain ⟨va, vn, vc, rfl⟩ := hS.slice
    have HS : Hid (SeqAt W2 (Bet W0.heap.size w1.heap.size) ts (.slice va vn vc)) := hS
    clear hS HU2
    subst hc0
    obtain rfl : un = 1 := by omega
    clear hun q0
    go_wp2_with fail
    refine (prefix_core HS.out hl).mono ?_
    rintro e w5 ⟨rfl, hb5⟩
    subst hP
    have s2 := HW2.out.2.2.2.size
    have HW5 : Hid (BoxAt w5 w.heap.size 51 2 w.heap.size [.string ⟨#[]⟩, .bool false] ∧ Below w.heap.size w w5) := ⟨HW2.out.1.below hb5, HW2.out.2.2.2.trans (hb5.mono s2)⟩
    clear hgv b0 a0 r0 r1 f0 f1 hb5
    have r0 := HW5.out.1.cell (j := 0) rfl
    have r1 := HW5.out.1.cell (j := 1) rfl
    have f0 := HW5.out.1.frozen 0
    have f1 := HW5.out.1.frozen 1
    obtain ⟨x, hx⟩ : ∃ x : ByteArray, x = ⟨(prefM ts).1.toArray⟩ := ⟨_, rfl⟩
    obtain ⟨y, hy⟩ : ∃ y : Bool, y = (prefM ts).2 := ⟨_, rfl⟩
    rw [← hx, ← hy]
    obtain ⟨W6, hW6⟩ : ∃ W6 : World, W6 = set2 w5 w.heap.size (.string x) (.bool y) := ⟨_, rfl⟩
    have HW6 : Hid (BoxAt W6 w.heap.size 51 2 w.heap.size [.string x, .bool y] ∧ Below w.heap.size w W6) := by
      rw [hW6]; exact ⟨set2_cells HW5.out.1 _ _, below_set (below_set HW5.out.2 (Nat.le_refl _) 0 _) (Nat.le_refl _) 1 _⟩
    have p0 := HW6.out.1.cell (j := 0) rfl
    have p1 := HW6.out.1.cell (j := 1) rfl
    unfold set2 at hW6
    subst hx hy
    go_wp2_with fail
    rw [← hW6]
    refine bodyPost_ret (v := .agg #[.string ⟨(prefM ts).1.toArray⟩, .bool (prefM ts).2]) (by simp [results, Try.results27, go_sem, p0, p1]) rfl ⟨rfl, HW6.out.2⟩
end Go.Proofs.Ytnncedndlhfdkaa

/-
  spec.l4Special, l4Parts, PrefixOf.
-/
namespace Go.Proofs.Ytnncedndlhfdkaa
open Go.ChangeShapes Go.WideShapes Go.ChangeAt Go.RowKit Go.Deep
set_option linter.unusedVariables false
set_option linter.unusedSimpArgs false
set_option maxRecDepth 100000

set_option maxHeartbeats 8000000 in
theorem l4Special_core (c : UInt8) (w : World) : Calls Try.prog 39 #[.int .u8 (c.toNat : Int)] w fun e w' => e = .returned (.bool (decide (special c))) ∧ w' = w := by
  by_cases h42 : c = 42
  · subst h42
    go_enter Try.func39, Try.ntmps39
    go_wp2_with fail
    go_ret
    exact ⟨rfl, rfl⟩
  by_cases h43 : c = 43
  · subst h43
    go_enter Try.func39, Try.ntmps39
    go_wp2_with fail
    go_ret
    exact ⟨rfl, rfl⟩
  by_cases h63 : c = 63
  · subst h63
    go_enter Try.func39, Try.ntmps39
    go_wp2_with fail
    go_ret
    exact ⟨rfl, rfl⟩
  by_cases h124 : c = 124
  · subst h124
    go_enter Try.func39, Try.ntmps39
    go_wp2_with fail
    go_ret
    exact ⟨rfl, rfl⟩
  by_cases h40 : c = 40
  · subst h40
    go_enter Try.func39, Try.ntmps39
    go_wp2_with fail
    go_ret
    exact ⟨rfl, rfl⟩
  by_cases h41 : c = 41
  · subst h41
    go_enter Try.func39, Try.ntmps39
    go_wp2_with fail
    go_ret
    exact ⟨rfl, rfl⟩
  by_cases h91 : c = 91
  · subst h91
    go_enter Try.func39, Try.ntmps39
    go_wp2_with fail
    go_ret
    exact ⟨rfl, rfl⟩
  by_cases h93 : c = 93
  · subst h93
    go_enter Try.func39, Try.ntmps39
    go_wp2_with fail
    go_ret
    exact ⟨rfl, rfl⟩
  by_cases h46 : c = 46
  · subst h46
    go_enter Try.func39, Try.ntmps39
    go_wp2_with fail
    go_ret
    exact ⟨rfl, rfl⟩
  by_cases h92 : c = 92
  · subst h92
    go_enter Try.func39, Try.ntmps39
    go_wp2_with fail
    go_ret
    exact ⟨rfl, rfl⟩
  have z42 : ((c.toNat : Int) == 42) = false := beq_eq_false_iff_ne.2 (ne_u8 (c := 42) h42)
  have z43 : ((c.toNat : Int) == 43) = false := beq_eq_false_iff_ne.2 (ne_u8 (c := 43) h43)
  have z63 : ((c.toNat : Int) == 63) = false := beq_eq_false_iff_ne.2 (ne_u8 (c := 63) h63)
  have z124 : ((c.toNat : Int) == 124) = false := beq_eq_false_iff_ne.2 (ne_u8 (c := 124) h124)
  have z40 : ((c.toNat : Int) == 40) = false := beq_eq_false_iff_ne.2 (ne_u8 (c := 40) h40)
  have z41 : ((c.toNat : Int) == 41) = false := beq_eq_false_iff_ne.2 (ne_u8 (c := 41) h41)
  have z91 : ((c.toNat : Int) == 91) = false := beq_eq_false_iff_ne.2 (ne_u8 (c := 91) h91)
  have z93 : ((c.toNat : Int) == 93) = false := beq_eq_false_iff_ne.2 (ne_u8 (c := 93) h93)
  have z46 : ((c.toNat : Int) == 46) = false := beq_eq_false_iff_ne.2 (ne_u8 (c := 46) h46)
  have z92 : ((c.toNat : Int) == 92) = false := beq_eq_false_iff_ne.2 (ne_u8 (c := 92) h92)
  have H : Hid (decide (special c) = false) := decide_eq_false (fun q => by rcases q with ((q | q | q) | q | q | q) | q | q | q | q <;> contradiction)
  go_enter Try.func39, Try.ntmps39
  go_wp2_with fail
  go_ret
  exact ⟨by rw [H.out]; rfl, rfl⟩

/-- A list of strings of the call's own. -/
def OwnStr (w : World) (base g cp : Nat) (us : List Value) : Prop := w.ownsRow base 9 1 (.slice (some ⟨g, 0, none⟩) us.length cp) us.length us
theorem OwnStr.lt {w : World} {base g cp : Nat} {us : List Value} (h : OwnStr w base g cp us) : base ≤ g ∧ g < w.heap.size := World.ownsRow.lt h g rfl
theorem OwnStr.below {w w' : World} {base g cp : Nat} {us : List Value} (h : OwnStr w base g cp us) (hb : Below w.heap.size w w') : OwnStr w' base g cp us := own_chg h (Chg.of_below hb) (S := fun _ => False) (fun k q z => z)
theorem ownStr_new (w : World) {base : Nat} (hb : base ≤ w.heap.size) : OwnStr (w.alloc (Obj.cells #[] 9)) base w.heap.size 0 [] :=
  World.ownsRow_made w #[] 0 hb (Nat.zero_le _) (by simp)
theorem Try.infoStr : (Try.prog.info? 9).map (fun i => (i.zero, i.size, i.bytes)) = some (some (.string ⟨#[]⟩), 1, 16) := by kernel_rfl
/-- One string appended to a list of strings. -/
theorem wpList_append_str {ops : Array Oper} {rest : List Oper} {oo : Oper} {a : Act} {Q : Exit → Act → World → Prop} (w : World) (hgd : oo.guard = none) (s x : Operand)
    (ho : oo.op = .call { callee := .builtin .append, args := #[s, x], argTypes := #[68, 68] })
    (base gq cp n b : Nat) (us : List Value) (y : Value) (hs : a.eval s = .slice (some ⟨gq, 0, none⟩) n cp) (hx : a.eval x = .slice (some ⟨b, 0, none⟩) 1 1) (hn : n = us.length) (hO : OwnStr w base gq cp us)
    (hc : w.cell? ⟨b, 0, none⟩ = some y) (hy : y.oneCell' = true) (hlen : us.length ≤ 1000) (hbase : base ≤ w.heap.size)
    (h : ∀ g' cp' w', OwnStr w' base g' cp' (us ++ [y]) → w.grownBy w' (some gq) → (g' = gq ∨ g' = w.heap.size) → wpList Try.prog ops Q rest (a.put oo.dst (.slice (some ⟨g', 0, none⟩) (n + 1) cp')) w') : wpList Try.prog ops Q (oo :: rest) a w := by
  subst hn
  obtain ⟨i, hi, hz0, hz1, hz2⟩ := info_parts Try.infoStr
  refine wpList_append_own_at w hgd s x 68 ho base 9 i _ 1 16 Try.underlying68 hi hz0 hz1 hz2 rfl (by decide) (.slice (some ⟨gq, 0, none⟩) us.length cp) us.length us hs hO ⟨b, 0, none⟩ 1 1 [y] hx rfl ?_ ?_ ?_ ?_ hbase ?_
  · intro j u hu
    have hj : j = 0 := by have := (List.getElem?_eq_some_iff.1 hu).1; simpa using this
    subst hj
    simp at hu
    rw [Addr.add_mid, ← hu]; exact hc
  · intro u hu
    simp at hu; subst hu; exact hy
  · unfold maxLen; omega
  · omega
  · intro v' w' hO' hgr hnil hat
    rcases hO'.2 with ⟨h0, _⟩ | ⟨g', cap', cur, hv, _, _, hn, hcap, _, _⟩
    · have := (hnil.1 h0).1
      cases this
    · subst hv
      refine h g' cap' w' ?_ hgr ?_
      · unfold OwnStr
        rw [List.length_append]
        exact hO'
      · simp [Value.ownBlock] at hat
        exact hat
theorem tokn_le {A : List UInt8 → Pat → Prop} {k : Nat} {xs : List UInt8} (h : TokN A k xs) : k ≤ xs.length := by
  induction h with
  | nil => exact Nat.le_refl _
  | bar _ ih => simpa using ih
  | op _ _ ih => simp; omega
  | atom _ _ ih => simp; omega
structure PaJ (p : ByteArray) (n k : Nat) (w : World) (j m g cp : Nat) (us : List Value) (wr : World) : Prop where
  tok : TokN (AtomG n) m (cut (sb p) j p.size)
  cnt : us.length + m = k
  own : OwnStr wr w.heap.size g cp us
  below : Below w.heap.size w wr
theorem PaJ.move {p : ByteArray} {n k : Nat} {w : World} {j m g cp : Nat} {us : List Value} {wr w' : World} (h : PaJ p n k w j m g cp us wr) (hb : Below wr.heap.size wr w') {j' m' : Nat} (ht : TokN (AtomG n) m' (cut (sb p) j' p.size)) (hm : m = m') : PaJ p n k w j' m' g cp us w' :=
  ⟨ht, by rw [← hm]; exact h.cnt, h.own.below hb, h.below.trans (hb.mono h.below.size)⟩
set_option maxHeartbeats 8000000 in
theorem l4Parts_core {p : ByteArray} (hp : p.size ≤ 200) {n k : Nat} (h : TokN (AtomG n) k (cut (sb p) 0 p.size)) (w : World) : Calls Try.prog 37 #[.string p] w fun e w' => ∃ g cp, e = .returned (.slice (some ⟨g, 0, none⟩) (k + 1) cp) ∧ Below w.heap.size w w' := by
  have hkl : k ≤ 200 := by
    have h1 := tokn_le h
    rw [cut_len (by rw [sb_len]; exact Nat.le_refl _)] at h1
    omega
  have hsl : p.size ≤ (sb p).length := by rw [sb_len]; exact Nat.le_refl _
  have HSl : Hid (p.size ≤ (sb p).length) := hsl
  obtain ⟨W0, hW0⟩ : ∃ W0 : World, W0 = w.alloc (Obj.cells #[] 9) := ⟨_, rfl⟩
  have HW0 : Hid (PaJ p n k w 0 k w.heap.size 0 [] W0) := by
    rw [hW0]
    exact ⟨h, by simp, ownStr_new w (Nat.le_refl _), (Below.refl _ _).alloc (Nat.le_refl _) _⟩
  clear h hsl
  go_enter Try.func37, Try.ntmps37
  go_upto_region 2 with fail
  rw [← hW0]
  clear hW0
  go_wp2_with fail
  go_loopw [3, 4, 5] (fun o fv jv wr => ∃ (j f m g cp : Nat) (us : List Value), jv = .int .i64 (j : Int) ∧ fv = .int .i64 (f : Int) ∧ f ≤ j ∧ j ≤ p.size ∧ us.length ≤ k ∧ o = .slice (some ⟨g, 0, none⟩) us.length cp ∧ PaJ p n k w j m g cp us wr) (fun _ _ jv _ => p.size - (intOf jv).toNat)
  case atStart => exact ⟨0, 0, k, _, 0, [], rfl, rfl, Nat.le_refl _, Nat.zero_le _, Nat.zero_le _, rfl, HW0.out⟩
  case round =>
    obtain ⟨j, f, m, g, cp, us, rfl, rfl, hfj, hjp, hul, rfl, hJ⟩ := hrel
    have HJ : Hid (PaJ p n k w j m g cp us wr) := hJ
    have hgl := hJ.own.lt
    have hsz := hJ.below.size
    clear hJ HW0
    have z1 : (f : Int) ≤ (j : Int) := by omega
    have z2 : (j : Int) ≤ (p.size : Int) := by omega
    by_cases hlt : j < p.size
    · have zj : (j : Int) < (p.size : Int) := by omega
      rcases tokn_step HJ.out.tok with ⟨h0, _⟩ | ⟨m', zs, h0, hm, hT⟩ | ⟨c, zs, h0, hop, hT⟩ | ⟨ys, zs, t, h0, hA, hT⟩
      · have h3 := cut_len (p := sb p) (i := j) HSl.out
        rw [h0] at h3
        simp at h3
        omega
      · obtain ⟨hpj, hcj, _⟩ := cut_head h0 HSl.out
        obtain ⟨_, gj⟩ := sb_get hpj
        have HT : Hid (TokN (AtomG n) m' (cut (sb p) (j + 1) p.size) ∧ m = m' + 1) := ⟨by rw [hcj]; exact hT, hm⟩
        clear h0 hT hm hpj hcj
        go_wp2_with (at_builtin; refine wpList_append_str _ rfl _ _ rfl w.heap.size g cp us.length wr.heap.size us (.string (p.extract f j)) rfl rfl rfl ?hO ?hc ?hy ?hl ?hb ?_)
        case hO => exact HJ.out.own.below ((Below.refl _ _).alloc (Nat.le_refl _) _)
        case hc => simp
        case hy => rfl
        case hl => omega
        case hb => simp; omega
        intro g' cp' w' hO' hgr hat
        have HJ2 : Hid (∃ y, PaJ p n k w (j + 1) m' g' cp' (us ++ [y]) w' ∧ us.length + 1 ≤ k) := by
          refine ⟨_, ⟨HT.out.1, by have := HJ.out.cnt; have := HT.out.2; simp; omega, hO', ?_⟩, by have := HJ.out.cnt; have := HT.out.2; omega⟩
          exact (HJ.out.below.trans ((Below.refl _ _).alloc hsz _)).grown hgr (by simp; omega) (fun j hj => by cases hj; omega)
        clear hO' hgr hat
        obtain ⟨y, hJ2, hk2⟩ := HJ2.out
        have HJ3 : Hid (PaJ p n k w (j + 1) m' g' cp' (us ++ [y]) w') := hJ2
        clear hJ2 HJ2
        go_wp2_with fail
        go_roundw
        case rel => exact ⟨j + 1, j + 1, m', g', cp', us ++ [y], by go_num, by go_num, Nat.le_refl _, by omega, by simp; omega, by simp, HJ3.out⟩
        case measure => simp [intOf]; omega
      · obtain ⟨hpj, hcj, _⟩ := cut_head h0 HSl.out
        obtain ⟨_, gj⟩ := sb_get hpj
        have HT : Hid (TokN (AtomG n) m (cut (sb p) (j + 1) p.size)) := by
          show TokN (AtomG n) m (cut (sb p) (j + 1) p.size)
          rw [hcj]; exact hT
        have z124 : ((c.toNat : Int) == 124) = false := beq_eq_false_iff_ne.2 (ne_u8 (c := 124) (fun q => by subst q; exact absurd hop (by decide)))
        have HOp : Hid (Calls Try.prog 34 #[.int .u8 (c.toNat : Int)] wr fun e w' => e = .returned (.bool true) ∧ w' = wr) := by
          have := l4Op_core c wr
          rw [decide_eq_true hop] at this
          exact this
        clear h0 hT hpj hcj hop
        go_wp2_with fail
        refine HOp.out.mono ?_
        rintro e' w5 ⟨rfl, hw5⟩
        rw [hw5]
        clear hw5
        go_wp2_with fail
        go_roundw
        case rel => exact ⟨j + 1, f, m, g, cp, us, by go_num, rfl, by omega, by omega, hul, rfl, HJ.out.move (Below.refl _ _) HT.out rfl⟩
        case measure => simp [intOf]; omega
      · obtain ⟨hy1, hy2, hy3⟩ := cut_two h0 HSl.out
        obtain ⟨c, yt, hyc, n41, n124, nop⟩ := hA.first
        have hylen : 0 < ys.length := by rw [hyc]; simp
        have hje2 : j + ys.length ≤ p.size := by omega
        obtain ⟨hpj, _, _⟩ := cut_head (c := c) (zs := yt) (by rw [hy1]; exact hyc) (by rw [sb_len]; omega)
        obtain ⟨_, gj⟩ := sb_get hpj
        have z124 : ((c.toNat : Int) == 124) = false := beq_eq_false_iff_ne.2 (ne_u8 (c := 124) n124)
        have HOp : Hid (Calls Try.prog 34 #[.int .u8 (c.toNat : Int)] wr fun e w' => e = .returned (.bool false) ∧ w' = wr) := by
          have := l4Op_core c wr
          rw [decide_eq_false nop] at this
          exact this
        obtain ⟨i2, hi2⟩ : ∃ i2, i2 = j + ys.length := ⟨_, rfl⟩
        have HT : Hid (TokN (AtomG n) m (cut (sb p) i2 p.size)) := by
          show TokN (AtomG n) m (cut (sb p) i2 p.size)
          rw [hi2, hy2]; exact hT
        have HCall : Hid (Calls Try.prog 38 #[.string p, .int .i64 (j : Int)] wr fun e w' => e = .returned (.int .i64 (i2 : Int)) ∧ Below wr.heap.size wr w') := by
          rw [hi2]
          exact end_all hp n j (j + ys.length) t wr (by rw [hy1]; exact hA) (by omega)
        have hj2 : j < i2 := by omega
        have hj3 : i2 ≤ p.size := by omega
        clear h0 hT hA hy1 hy2 hy3 hyc hpj n41 n124 nop hi2 hylen hje2
        go_wp2_with fail
        refine HOp.out.mono ?_
        rintro e' w5 ⟨rfl, hw5⟩
        rw [hw5]
        clear hw5
        go_wp2_with fail
        refine HCall.out.mono ?_
        rintro e' w6 ⟨rfl, hb6⟩
        have HJ6 : Hid (PaJ p n k w i2 m g cp us w6) := HJ.out.move hb6 HT.out rfl
        clear hb6
        go_wp2_with fail
        go_roundw
        case rel => exact ⟨i2, f, m, g, cp, us, rfl, rfl, by omega, by omega, hul, rfl, HJ6.out⟩
        case measure => simp [intOf]; omega
    · have zj : ¬ (j : Int) < (p.size : Int) := by omega
      obtain rfl : j = p.size := by omega
      have hm0 : m = 0 := by
        rcases tokn_step HJ.out.tok with ⟨_, h0⟩ | ⟨m', zs, h0, hm, hT⟩ | ⟨c, zs, h0, hop, hT⟩ | ⟨ys, zs, t, h0, hA, hT⟩
        · exact h0
        · rw [cut_nil] at h0; cases h0
        · rw [cut_nil] at h0; cases h0
        · rw [cut_nil] at h0
          obtain ⟨c, yt, hyc, _⟩ := hA.first
          rw [hyc] at h0
          cases h0
      have HM : Hid (us.length = k) := by
        have := HJ.out.cnt
        show us.length = k
        omega
      go_wp2_with (at_builtin; refine wpList_append_str _ rfl _ _ rfl w.heap.size g cp us.length wr.heap.size us (.string (p.extract f p.size)) rfl rfl rfl ?hO ?hc ?hy ?hl ?hb ?_)
      case hO => exact HJ.out.own.below ((Below.refl _ _).alloc (Nat.le_refl _) _)
      case hy => rfl
      case hl => omega
      case hb => first | omega | (simp; omega)
      intro g' cp' w' hO' hgr hat
      have HB : Hid (Below w.heap.size w w') := (HJ.out.below.trans ((Below.refl _ _).alloc hsz _)).grown hgr (by simp; omega) (fun j hj => by cases hj; omega)
      clear hO' hgr hat
      go_wp2_with fail
      go_ret
      refine ⟨g', cp', ?_, HB.out⟩
      rw [← HM.out]
      first | rfl | trace_state
end Go.Proofs.Ytnncedndlhfdkaa

/-
  spec.PrefixOf.
-/
namespace Go.Proofs.Ytnncedndlhfdkaa
open Go.ChangeShapes Go.WideShapes Go.ChangeAt Go.RowKit Go.Deep
set_option linter.unusedVariables false
set_option linter.unusedSimpArgs false
set_option maxRecDepth 100000

structure PsJ (p : ByteArray) (n : Nat) (w : World) (ts : List Pat) (i g cp : Nat) (xs : List UInt8) (us : List Pat) (wr : World) : Prop where
  seq : SeqG (AtomG n) us (cut (sb p) i p.size)
  pre : prefM ts = (xs ++ (prefM us).1, (prefM us).2)
  own : OwnY wr (w.heap.size + 1) g cp xs
  res : BoxAt wr w.heap.size 51 2 w.heap.size [.string ⟨#[]⟩, .bool false]
  below : Below w.heap.size w wr
theorem PsJ.move {p : ByteArray} {n : Nat} {w : World} {ts : List Pat} {i g cp : Nat} {xs : List UInt8} {us : List Pat} {wr w' : World} (h : PsJ p n w ts i g cp xs us wr) (hb : Below wr.heap.size wr w') : PsJ p n w ts i g cp xs us w' :=
  ⟨h.seq, h.pre, h.own.below hb, h.res.below hb, h.below.trans (hb.mono h.below.size)⟩
theorem reg_field (c k : Int) (w : World) : (Instr.field 46 (.agg #[.int .i64 c, .int .i64 k]) 0).run Try.prog w = .ok (.int .i64 c) w := by kernel_rfl
set_option maxHeartbeats 8000000 in
theorem specPrefix_core (p : ByteArray) (w : World) (hpm : p.size ≤ maxLen) (r : List UInt8 × Bool) (hr : PrefIs p r) : Calls Try.prog 26 #[.string p] w fun e w' => e = .returned (.agg #[.string ⟨r.1.toArray⟩, .bool r.2]) ∧ Below w.heap.size w w' := by
  have HR : Hid (PrefIs p r) := hr
  clear hr
  obtain ⟨W0, hW0⟩ : ∃ W0 : World, W0 = w.alloc (Obj.cells #[.string ⟨#[]⟩, .bool false] 51) := ⟨_, rfl⟩
  have HW0 : Hid (BoxAt W0 w.heap.size 51 2 w.heap.size [.string ⟨#[]⟩, .bool false] ∧ Below w.heap.size w W0 ∧ w.heap.size + 1 ≤ W0.heap.size) := by
    rw [hW0]; exact ⟨boxAt_new w _ (Nat.le_refl _) rfl, (Below.refl _ _).alloc (Nat.le_refl _) _, by simp⟩
  obtain ⟨c, hc⟩ : ∃ c, c = (checkM (sb p)).1 := ⟨_, rfl⟩
  obtain ⟨k, hk⟩ : ∃ k : Int, k = ((checkM (sb p)).2 : Int) := ⟨_, rfl⟩
  have HC : Hid (c = (checkM (sb p)).1) := hc
  have HS : Hid (∀ w, Calls Try.prog 23 #[.string p] w fun e w' => e = .returned (.agg #[.int .i64 c, .int .i64 k]) ∧ Below w.heap.size w w') := fun w => by
    rw [hc, hk]; exact specCheck_core p w hpm
  have hfd := reg_field c k
  clear hc hk
  have zero : ∀ w2 : World, BoxAt w2 w.heap.size 51 2 w.heap.size [.string ⟨#[]⟩, .bool false] → Below w.heap.size w w2 → Hid (BoxAt ((w2.setCell ⟨w.heap.size, 0, none⟩ (.string ⟨#[]⟩)).setCell ⟨w.heap.size, 1, none⟩ (.bool false)) w.heap.size 51 2 w.heap.size [.string ⟨#[]⟩, .bool false] ∧ Below w.heap.size w ((w2.setCell ⟨w.heap.size, 0, none⟩ (.string ⟨#[]⟩)).setCell ⟨w.heap.size, 1, none⟩ (.bool false))) := fun w2 h1 h2 =>
    ⟨set2_cells h1 _ _, below_set (below_set h2 (Nat.le_refl _) 0 _) (Nat.le_refl _) 1 _⟩
  have HZ : Hid (∀ w2 : World, BoxAt w2 w.heap.size 51 2 w.heap.size [.string ⟨#[]⟩, .bool false] → Below w.heap.size w w2 → Hid (BoxAt ((w2.setCell ⟨w.heap.size, 0, none⟩ (.string ⟨#[]⟩)).setCell ⟨w.heap.size, 1, none⟩ (.bool false)) w.heap.size 51 2 w.heap.size [.string ⟨#[]⟩, .bool false] ∧ Below w.heap.size w ((w2.setCell ⟨w.heap.size, 0, none⟩ (.string ⟨#[]⟩)).setCell ⟨w.heap.size, 1, none⟩ (.bool false)))) := zero
  clear zero
  go_enter Try.func26, Try.ntmps26
  go_upto_region 1 with fail
  rw [← hW0]
  clear hW0
  have s0 := HW0.out.2.1.size
  by_cases hc0 : c = 0
  · have q0 : (checkM (sb p)).1 = 0 := by rw [← HC.out]; exact hc0
    obtain ⟨os, ho⟩ := pref_is p hpm q0
    have hp : p.size ≤ 200 := by
      apply Classical.byContradiction
      intro h6
      unfold checkM at q0
      rw [if_pos (by rw [sb_len]; omega)] at q0
      exact absurd q0 (by decide)
    have HRo : Hid (r = prefOf os) := HR.out.2 q0 os ho
    obtain ⟨n, hg⟩ := ho.gr
    obtain ⟨m, hm, hT⟩ := hg.tokn
    have HT : Hid (os.length = m + 1 ∧ TokN (AtomG n) m (cut (sb p) 0 p.size) ∧ AltG (AtomG n) os (cut (sb p) 0 p.size)) := ⟨hm, hT, hg⟩
    subst hc0
    clear q0 ho hg hm hT HR HC
    go_wp2_with fail
    refine (HS.out W0).mono ?_
    rintro e w1 ⟨rfl, hb1⟩
    have HW1 : Hid (BoxAt w1 w.heap.size 51 2 w.heap.size [.string ⟨#[]⟩, .bool false] ∧ Below w.heap.size w w1 ∧ w.heap.size + 1 ≤ w1.heap.size) := ⟨HW0.out.1.below hb1, HW0.out.2.1.trans (hb1.mono s0), by have := HW0.out.2.2; have := hb1.size; omega⟩
    have s1 := HW1.out.2.1.size
    clear hb1 HW0 HS
    go_wp2_with fail
    refine (l4Parts_core hp HT.out.2.1 w1).mono ?_
    rintro e w2 ⟨g2, cp2, rfl, hb2⟩
    have HW2 : Hid (BoxAt w2 w.heap.size 51 2 w.heap.size [.string ⟨#[]⟩, .bool false] ∧ Below w.heap.size w w2 ∧ w.heap.size + 1 ≤ w2.heap.size) := ⟨HW1.out.1.below hb2, HW1.out.2.1.trans (hb2.mono s1), by have := HW1.out.2.2; have := hb2.size; omega⟩
    clear hb2 HW1
    have r0 := HW2.out.1.cell (j := 0) rfl
    have r1 := HW2.out.1.cell (j := 1) rfl
    have f0 := HW2.out.1.frozen 0
    have f1 := HW2.out.1.frozen 1
    by_cases hm0 : m = 0
    · subst hm0
      obtain ⟨ts, hts, hS⟩ : ∃ ts, r = prefM ts ∧ SeqG (AtomG n) ts (cut (sb p) 0 p.size) := by
        have h1 := HT.out.1
        have h2 := HT.out.2.2
        have h3 := HRo.out
        match os, h1, h2, h3 with
        | [ts], _, h2, h3 => exact ⟨ts, h3, h2⟩
      subst hts
      have hz2 := HW2.out.2.2
      obtain ⟨W3, hW3⟩ : ∃ W3 : World, W3 = w2.alloc (Obj.cells #[] 5) := ⟨_, rfl⟩
      have HW3 : Hid (PsJ p n w ts 0 w2.heap.size 0 [] ts W3) := by
        have hb3 : Below w2.heap.size w2 W3 := by rw [hW3]; exact (Below.refl _ _).alloc (Nat.le_refl _) _
        refine ⟨hS, by simp, ?_, HW2.out.1.below hb3, HW2.out.2.1.trans (hb3.mono (by omega))⟩
        rw [hW3]
        exact ownY_new w2 hz2
      clear hS HW2 HT HRo r0 r1 f0 f1 HZ
      go_upto_region 4 with fail
      rw [← hW3]
      clear hW3
      go_wp2_with fail
      go_loopw [3, 4] (fun o iv wr => ∃ (i g cp : Nat) (xs : List UInt8) (us : List Pat), iv = .int .i64 (i : Int) ∧ i ≤ p.size ∧ xs.length ≤ i ∧ o = .slice (some ⟨g, 0, none⟩) xs.length cp ∧ PsJ p n w ts i g cp xs us wr) (fun _ iv _ => p.size - (intOf iv).toNat)
      case atStart => exact ⟨0, _, 0, [], ts, rfl, Nat.zero_le _, Nat.zero_le _, rfl, HW3.out⟩
      case round =>
        obtain ⟨i, g, cp, xs, us, rfl, hip, hxi, rfl, hJ⟩ := hrel
        have HJ : Hid (PsJ p n w ts i g cp xs us wr) := hJ
        have hgl := hJ.own.lt
        have hsz := hJ.below.size
        clear hJ HW3
        by_cases hlt : i < p.size
        · have zi : (i : Int) < (p.size : Int) := by omega
          obtain ⟨t, us', j, c, a, hus, hSt⟩ := seq_step HJ.out.seq (by rw [sb_len]; exact Nat.le_refl _) hlt
          have HSt : Hid (us = t :: us' ∧ SeqStep n (sb p) i p.size j c a t us') := ⟨hus, hSt⟩
          have hij := hSt.lt
          have hjp := hSt.le
          obtain ⟨_, gi⟩ := sb_get hSt.at0
          clear hus hSt
          go_wp2_with fail
          refine (end_all hp n i j a wr HSt.out.2.atom hjp).mono ?_
          rintro e w6 ⟨rfl, hb6⟩
          have HJ6 : Hid (PsJ p n w ts i g cp xs us w6) := HJ.out.move hb6
          have hs6 := hb6.size
          clear hb6 HJ
          rcases HSt.out.2.what with ⟨b, rfl, hs, hn, hb, hS⟩ | ⟨hnb, hw⟩
          · obtain ⟨j0, rfl⟩ : ∃ j0, j = j0 + 1 := ⟨j - 1, by omega⟩
            obtain ⟨_, gb⟩ := sb_get (show (sb p)[j0]? = some b from hb)
            have HB : Hid ((∀ d, (sb p)[j0 + 1]? = some d → j0 + 1 < p.size → ¬ isOp d) ∧ SeqG (AtomG n) us' (cut (sb p) (j0 + 1) p.size)) := ⟨hn, hS⟩
            have HP : Hid (prefM ts = (xs ++ [b] ++ (prefM us').1, (prefM us').2)) := by
              show prefM ts = _
              rw [HJ6.out.pre, HSt.out.1]; simp [prefM]
            have zj0 : (j0 : Int) < (p.size : Int) := by omega
            clear hn hb hS HSt
            by_cases hjl : j0 + 1 < p.size
            · obtain ⟨d, hd⟩ : ∃ d, (sb p)[j0 + 1]? = some d := ⟨_, List.getElem?_eq_getElem (by rw [sb_len]; exact hjl)⟩
              obtain ⟨_, gd⟩ := sb_get hd
              have hnd := HB.out.1 d hd hjl
              have zjl : (j0 : Int) + 1 < (p.size : Int) := by omega
              have HOp : Hid (Calls Try.prog 34 #[.int .u8 (d.toNat : Int)] w6 fun e w' => e = .returned (.bool false) ∧ w' = w6) := by
                have := l4Op_core d w6
                rw [decide_eq_false hnd] at this
                exact this
              clear hd hnd
              rcases hs with hs | rfl
              · skip
                have HSp : Hid (Calls Try.prog 39 #[.int .u8 (c.toNat : Int)] w6 fun e w' => e = .returned (.bool false) ∧ w' = w6) := by
                  have := l4Special_core c w6
                  rw [decide_eq_false hs] at this
                  exact this
                clear hs
                go_wp2_with fail
                refine HSp.out.mono ?_
                rintro e' w7 ⟨rfl, hw7⟩
                rw [hw7]
                clear hw7
                go_wp2_with fail
                refine HOp.out.mono ?_
                rintro e' w8 ⟨rfl, hw8⟩
                rw [hw8]
                clear hw8
                go_wp2_with (at_builtin; refine wpList_append_bys _ rfl _ _ rfl (w.heap.size + 1) g cp xs.length w6.heap.size 0 1 1 xs [b] rfl rfl rfl rfl ?hO ?hc ?hl ?hb ?_)
                case hO => exact HJ6.out.own.below ((Below.refl _ _).alloc (Nat.le_refl _) _)
                case hc => exact (ownY_one w6 (Nat.le_refl _) b rfl).at
                case hl => first | omega | (simp; omega)
                case hb => first | omega | (simp; omega)
                intro g' cp' w' hO' hgr hat
                have HJ7 : Hid (PsJ p n w ts (j0 + 1) g' cp' (xs ++ [b]) us' w') := by
                  have hb7 : Below w6.heap.size w6 (w6.alloc (Obj.cells #[.int .u8 (b.toNat : Int)] 5)) := (Below.refl _ _).alloc (Nat.le_refl _) _
                  have hC : Chg (fun j => j = g) (w6.alloc (Obj.cells #[.int .u8 (b.toNat : Int)] 5)) w' := Chg.of_grown hgr (fun j hj => by cases hj; rfl)
                  have hJ' := HJ6.out.move hb7
                  exact ⟨HB.out.2, HP.out, hO', hJ'.res.chg hC (by omega), Chg.below hJ'.below hC hJ'.below.size (fun j q => by omega)⟩
                clear hO' hgr hat
                go_wp2_with fail
                go_roundw
                case rel => exact ⟨j0 + 1, g', cp', xs ++ [b], us', by go_num, by omega, by simp; omega, by simp, HJ7.out⟩
                case measure => simp [intOf]; omega
              · skip
                have HSp : Hid (Calls Try.prog 39 #[.int .u8 92] w6 fun e w' => e = .returned (.bool true) ∧ w' = w6) := l4Special_core 92 w6
                go_wp2_with fail
                refine HSp.out.mono ?_
                rintro e' w7 ⟨rfl, hw7⟩
                rw [hw7]
                clear hw7
                go_wp2_with fail
                refine HOp.out.mono ?_
                rintro e' w8 ⟨rfl, hw8⟩
                rw [hw8]
                clear hw8
                go_wp2_with (at_builtin; refine wpList_append_bys _ rfl _ _ rfl (w.heap.size + 1) g cp xs.length w6.heap.size 0 1 1 xs [b] rfl rfl rfl rfl ?hO ?hc ?hl ?hb ?_)
                case hO => exact HJ6.out.own.below ((Below.refl _ _).alloc (Nat.le_refl _) _)
                case hc => exact (ownY_one w6 (Nat.le_refl _) b rfl).at
                case hl => first | omega | (simp; omega)
                case hb => first | omega | (simp; omega)
                intro g' cp' w' hO' hgr hat
                have HJ7 : Hid (PsJ p n w ts (j0 + 1) g' cp' (xs ++ [b]) us' w') := by
                  have hb7 : Below w6.heap.size w6 (w6.alloc (Obj.cells #[.int .u8 (b.toNat : Int)] 5)) := (Below.refl _ _).alloc (Nat.le_refl _) _
                  have hC : Chg (fun j => j = g) (w6.alloc (Obj.cells #[.int .u8 (b.toNat : Int)] 5)) w' := Chg.of_grown hgr (fun j hj => by cases hj; rfl)
                  have hJ' := HJ6.out.move hb7
                  exact ⟨HB.out.2, HP.out, hO', hJ'.res.chg hC (by omega), Chg.below hJ'.below hC hJ'.below.size (fun j q => by omega)⟩
                clear hO' hgr hat
                go_wp2_with fail
                go_roundw
                case rel => exact ⟨j0 + 1, g', cp', xs ++ [b], us', by go_num, by omega, by simp; omega, by simp, HJ7.out⟩
                case measure => simp [intOf]; omega
            · have zjl : ¬ (j0 : Int) + 1 < (p.size : Int) := by omega
              rcases hs with hs | rfl
              · skip
                have HSp : Hid (Calls Try.prog 39 #[.int .u8 (c.toNat : Int)] w6 fun e w' => e = .returned (.bool false) ∧ w' = w6) := by
                  have := l4Special_core c w6
                  rw [decide_eq_false hs] at this
                  exact this
                clear hs
                go_wp2_with fail
                refine HSp.out.mono ?_
                rintro e' w7 ⟨rfl, hw7⟩
                rw [hw7]
                clear hw7
                go_wp2_with (at_builtin; refine wpList_append_bys _ rfl _ _ rfl (w.heap.size + 1) g cp xs.length w6.heap.size 0 1 1 xs [b] rfl rfl rfl rfl ?hO ?hc ?hl ?hb ?_)
                case hO => exact HJ6.out.own.below ((Below.refl _ _).alloc (Nat.le_refl _) _)
                case hc => exact (ownY_one w6 (Nat.le_refl _) b rfl).at
                case hl => first | omega | (simp; omega)
                case hb => first | omega | (simp; omega)
                intro g' cp' w' hO' hgr hat
                have HJ7 : Hid (PsJ p n w ts (j0 + 1) g' cp' (xs ++ [b]) us' w') := by
                  have hb7 : Below w6.heap.size w6 (w6.alloc (Obj.cells #[.int .u8 (b.toNat : Int)] 5)) := (Below.refl _ _).alloc (Nat.le_refl _) _
                  have hC : Chg (fun j => j = g) (w6.alloc (Obj.cells #[.int .u8 (b.toNat : Int)] 5)) w' := Chg.of_grown hgr (fun j hj => by cases hj; rfl)
                  have hJ' := HJ6.out.move hb7
                  exact ⟨HB.out.2, HP.out, hO', hJ'.res.chg hC (by omega), Chg.below hJ'.below hC hJ'.below.size (fun j q => by omega)⟩
                clear hO' hgr hat
                go_wp2_with fail
                go_roundw
                case rel => exact ⟨j0 + 1, g', cp', xs ++ [b], us', by go_num, by omega, by simp; omega, by simp, HJ7.out⟩
                case measure => simp [intOf]; omega
              · skip
                have HSp : Hid (Calls Try.prog 39 #[.int .u8 92] w6 fun e w' => e = .returned (.bool true) ∧ w' = w6) := l4Special_core 92 w6
                go_wp2_with fail
                refine HSp.out.mono ?_
                rintro e' w7 ⟨rfl, hw7⟩
                rw [hw7]
                clear hw7
                go_wp2_with (at_builtin; refine wpList_append_bys _ rfl _ _ rfl (w.heap.size + 1) g cp xs.length w6.heap.size 0 1 1 xs [b] rfl rfl rfl rfl ?hO ?hc ?hl ?hb ?_)
                case hO => exact HJ6.out.own.below ((Below.refl _ _).alloc (Nat.le_refl _) _)
                case hc => exact (ownY_one w6 (Nat.le_refl _) b rfl).at
                case hl => first | omega | (simp; omega)
                case hb => first | omega | (simp; omega)
                intro g' cp' w' hO' hgr hat
                have HJ7 : Hid (PsJ p n w ts (j0 + 1) g' cp' (xs ++ [b]) us' w') := by
                  have hb7 : Below w6.heap.size w6 (w6.alloc (Obj.cells #[.int .u8 (b.toNat : Int)] 5)) := (Below.refl _ _).alloc (Nat.le_refl _) _
                  have hC : Chg (fun j => j = g) (w6.alloc (Obj.cells #[.int .u8 (b.toNat : Int)] 5)) w' := Chg.of_grown hgr (fun j hj => by cases hj; rfl)
                  have hJ' := HJ6.out.move hb7
                  exact ⟨HB.out.2, HP.out, hO', hJ'.res.chg hC (by omega), Chg.below hJ'.below hC hJ'.below.size (fun j q => by omega)⟩
                clear hO' hgr hat
                go_wp2_with fail
                go_roundw
                case rel => exact ⟨j0 + 1, g', cp', xs ++ [b], us', by go_num, by omega, by simp; omega, by simp, HJ7.out⟩
                case measure => simp [intOf]; omega
          · have HP : Hid (prefM ts = (xs, false)) := by
              show prefM ts = _
              rw [HJ6.out.pre, HSt.out.1, prefM_not hnb]; simp
            clear HSt hnb
            rcases hw with ⟨hs, h92⟩ | ⟨hs, d, hd, hop, hjl⟩
            · have z92 : ((c.toNat : Int) != 92) = true := by have := ne_u8 (c := 92) h92; simpa using this
              have HSp : Hid (Calls Try.prog 39 #[.int .u8 (c.toNat : Int)] w6 fun e w' => e = .returned (.bool true) ∧ w' = w6) := by
                have := l4Special_core c w6
                rw [decide_eq_true hs] at this
                exact this
              clear hs h92
              go_wp2_with fail
              refine HSp.out.mono ?_
              rintro e' w7 ⟨rfl, hw7⟩
              rw [hw7]
              clear hw7
              have hcv := conv_ownY HJ6.out.own
              have r0 := HJ6.out.res.cell (j := 0) rfl
              have r1 := HJ6.out.res.cell (j := 1) rfl
              have f0 := HJ6.out.res.frozen 0
              have f1 := HJ6.out.res.frozen 1
              obtain ⟨W9, hW9⟩ : ∃ W9 : World, W9 = set2 w6 w.heap.size (.string ⟨xs.toArray⟩) (.bool false) := ⟨_, rfl⟩
              have HW9 : Hid (BoxAt W9 w.heap.size 51 2 w.heap.size [.string ⟨xs.toArray⟩, .bool false] ∧ Below w.heap.size w W9) := by
                rw [hW9]; exact ⟨set2_cells HJ6.out.res _ _, below_set (below_set HJ6.out.below (Nat.le_refl _) 0 _) (Nat.le_refl _) 1 _⟩
              have p0 := HW9.out.1.cell (j := 0) rfl
              have p1 := HW9.out.1.cell (j := 1) rfl
              unfold set2 at hW9
              go_wp2_with fail
              rw [← hW9, HP.out]
              refine bodyPost_ret (v := .agg #[.string ⟨xs.toArray⟩, .bool false]) (by simp [results, Try.results26, go_sem, p0, p1]) rfl ⟨rfl, HW9.out.2⟩
            · obtain ⟨_, gd⟩ := sb_get hd
              have zjl : (j : Int) < (p.size : Int) := by omega
              have HOp : Hid (Calls Try.prog 34 #[.int .u8 (d.toNat : Int)] w6 fun e w' => e = .returned (.bool true) ∧ w' = w6) := by
                have := l4Op_core d w6
                rw [decide_eq_true hop] at this
                exact this
              clear hd hop
              rcases hs with hs | rfl
              · skip
                have HSp : Hid (Calls Try.prog 39 #[.int .u8 (c.toNat : Int)] w6 fun e w' => e = .returned (.bool false) ∧ w' = w6) := by
                  have := l4Special_core c w6
                  rw [decide_eq_false hs] at this
                  exact this
                clear hs
                go_wp2_with fail
                refine HSp.out.mono ?_
                rintro e' w7 ⟨rfl, hw7⟩
                rw [hw7]
                clear hw7
                go_wp2_with fail
                refine HOp.out.mono ?_
                rintro e' w8 ⟨rfl, hw8⟩
                rw [hw8]
                clear hw8
                have hcv := conv_ownY HJ6.out.own
                have r0 := HJ6.out.res.cell (j := 0) rfl
                have r1 := HJ6.out.res.cell (j := 1) rfl
                have f0 := HJ6.out.res.frozen 0
                have f1 := HJ6.out.res.frozen 1
                obtain ⟨W9, hW9⟩ : ∃ W9 : World, W9 = set2 w6 w.heap.size (.string ⟨xs.toArray⟩) (.bool false) := ⟨_, rfl⟩
                have HW9 : Hid (BoxAt W9 w.heap.size 51 2 w.heap.size [.string ⟨xs.toArray⟩, .bool false] ∧ Below w.heap.size w W9) := by
                  rw [hW9]; exact ⟨set2_cells HJ6.out.res _ _, below_set (below_set HJ6.out.below (Nat.le_refl _) 0 _) (Nat.le_refl _) 1 _⟩
                have p0 := HW9.out.1.cell (j := 0) rfl
                have p1 := HW9.out.1.cell (j := 1) rfl
                unfold set2 at hW9
                go_wp2_with fail
                rw [← hW9, HP.out]
                refine bodyPost_ret (v := .agg #[.string ⟨xs.toArray⟩, .bool false]) (by simp [results, Try.results26, go_sem, p0, p1]) rfl ⟨rfl, HW9.out.2⟩
              · skip
                have HSp : Hid (Calls Try.prog 39 #[.int .u8 92] w6 fun e w' => e = .returned (.bool true) ∧ w' = w6) := l4Special_core 92 w6
                go_wp2_with fail
                refine HSp.out.mono ?_
                rintro e' w7 ⟨rfl, hw7⟩
                rw [hw7]
                clear hw7
                go_wp2_with fail
                refine HOp.out.mono ?_
                rintro e' w8 ⟨rfl, hw8⟩
                rw [hw8]
                clear hw8
                have hcv := conv_ownY HJ6.out.own
                have r0 := HJ6.out.res.cell (j := 0) rfl
                have r1 := HJ6.out.res.cell (j := 1) rfl
                have f0 := HJ6.out.res.frozen 0
                have f1 := HJ6.out.res.frozen 1
                obtain ⟨W9, hW9⟩ : ∃ W9 : World, W9 = set2 w6 w.heap.size (.string ⟨xs.toArray⟩) (.bool false) := ⟨_, rfl⟩
                have HW9 : Hid (BoxAt W9 w.heap.size 51 2 w.heap.size [.string ⟨xs.toArray⟩, .bool false] ∧ Below w.heap.size w W9) := by
                  rw [hW9]; exact ⟨set2_cells HJ6.out.res _ _, below_set (below_set HJ6.out.below (Nat.le_refl _) 0 _) (Nat.le_refl _) 1 _⟩
                have p0 := HW9.out.1.cell (j := 0) rfl
                have p1 := HW9.out.1.cell (j := 1) rfl
                unfold set2 at hW9
                go_wp2_with fail
                rw [← hW9, HP.out]
                refine bodyPost_ret (v := .agg #[.string ⟨xs.toArray⟩, .bool false]) (by simp [results, Try.results26, go_sem, p0, p1]) rfl ⟨rfl, HW9.out.2⟩
        · have zi : ¬ (i : Int) < (p.size : Int) := by omega
          obtain rfl : i = p.size := by omega
          have HP : Hid (prefM ts = (xs, true)) := by
            show prefM ts = _
            rw [HJ.out.pre, seq_done HJ.out.seq (by rw [sb_len]; exact Nat.le_refl _)]; simp [prefM]
          have hcv := conv_ownY HJ.out.own
          have r0 := HJ.out.res.cell (j := 0) rfl
          have r1 := HJ.out.res.cell (j := 1) rfl
          have f0 := HJ.out.res.frozen 0
          have f1 := HJ.out.res.frozen 1
          obtain ⟨W9, hW9⟩ : ∃ W9 : World, W9 = set2 wr w.heap.size (.string ⟨xs.toArray⟩) (.bool true) := ⟨_, rfl⟩
          have HW9 : Hid (BoxAt W9 w.heap.size 51 2 w.heap.size [.string ⟨xs.toArray⟩, .bool true] ∧ Below w.heap.size w W9) := by
            rw [hW9]; exact ⟨set2_cells HJ.out.res _ _, below_set (below_set HJ.out.below (Nat.le_refl _) 0 _) (Nat.le_refl _) 1 _⟩
          have p0 := HW9.out.1.cell (j := 0) rfl
          have p1 := HW9.out.1.cell (j := 1) rfl
          unfold set2 at hW9
          go_wp2_with fail
          rw [← hW9, HP.out]
          refine bodyPost_ret (v := .agg #[.string ⟨xs.toArray⟩, .bool true]) (by simp [results, Try.results26, go_sem, p0, p1]) rfl ⟨rfl, HW9.out.2⟩
    · have hr0 : r = ([], false) := by
        have h1 := HT.out.1
        rw [HRo.out]
        match os, h1 with
        | [], _ => rfl
        | [_], h1 => simp at h1; omega
        | _ :: _ :: _, _ => rfl
      subst hr0
      have zm : (1 : Int) < (m : Int) + 1 := by omega
      have HZ9 := HZ.out w2 HW2.out.1 HW2.out.2.1
      have p0 := HZ9.out.1.cell (j := 0) rfl
      have p1 := HZ9.out.1.cell (j := 1) rfl
      obtain ⟨W9, hW9⟩ : ∃ W9 : World, W9 = (w2.setCell ⟨w.heap.size, 0, none⟩ (.string ⟨#[]⟩)).setCell ⟨w.heap.size, 1, none⟩ (.bool false) := ⟨_, rfl⟩
      rw [← hW9] at p0 p1 HZ9
      go_wp2_with fail
      rw [← hW9]
      refine bodyPost_ret (v := .agg #[.string ⟨#[]⟩, .bool false]) (by simp [results, Try.results26, go_sem, p0, p1]) rfl ⟨rfl, HZ9.out.2⟩
  · have hr0 : r = ([], false) := HR.out.1 (by rw [← HC.out]; exact hc0)
    subst hr0
    have zc : (c != 0) = true := by simpa using hc0
    clear HR HC
    go_wp2_with fail
    refine (HS.out W0).mono ?_
    rintro e w1 ⟨rfl, hb1⟩
    have HW1 : Hid (BoxAt w1 w.heap.size 51 2 w.heap.size [.string ⟨#[]⟩, .bool false] ∧ Below w.heap.size w w1) := ⟨HW0.out.1.below hb1, HW0.out.2.1.trans (hb1.mono s0)⟩
    clear hb1 HW0
    have r0 := HW1.out.1.cell (j := 0) rfl
    have r1 := HW1.out.1.cell (j := 1) rfl
    have f0 := HW1.out.1.frozen 0
    have f1 := HW1.out.1.frozen 1
    have HZ9 := HZ.out w1 HW1.out.1 HW1.out.2
    have p0 := HZ9.out.1.cell (j := 0) rfl
    have p1 := HZ9.out.1.cell (j := 1) rfl
    obtain ⟨W9, hW9⟩ : ∃ W9 : World, W9 = (w1.setCell ⟨w.heap.size, 0, none⟩ (.string ⟨#[]⟩)).setCell ⟨w.heap.size, 1, none⟩ (.bool false) := ⟨_, rfl⟩
    rw [← hW9] at p0 p1 HZ9
    go_wp2_with fail
    rw [← hW9]
    refine bodyPost_ret (v := .agg #[.string ⟨#[]⟩, .bool false]) (by simp [results, Try.results26, go_sem, p0, p1]) rfl ⟨rfl, HZ9.out.2⟩
end Go.Proofs.Ytnncedndlhfdkaa

/-
  The law FnExactPrefixOf.
-/
namespace Go.Proofs.Ytnncedndlhfdkaa.exPrefixOf
open Go.ChangeShapes Go.WideShapes Go.ChangeAt Go.RowKit Go.Deep
open Go.ChangeMaps (open_string shut_string)
set_option linter.unusedVariables false
set_option linter.unusedSimpArgs false
set_option maxRecDepth 100000

theorem own : ownKnob Try.prog.godebug = none := by kernel_rfl
theorem laidOut : laidOutB Try.prog = true := by kernel_rfl

set_option maxHeartbeats 1000000 in
theorem eqRes_same (x : ByteArray) (y : Bool) (w : World) : Calls Try.prog 28 #[.agg #[.string x, .bool y], .agg #[.string x, .bool y]] w fun e w' => e = .returned (.bool true) ∧ Below w.heap.size w w' := by
  go_enter Try.func28, Try.ntmps28
  go_wp2
  go_ret
  exact ⟨rfl, ((Below.refl _ _).alloc (Nat.le_refl _) _).alloc (by simp) _⟩

set_option maxHeartbeats 2000000 in
theorem walk (p : ByteArray) (w : World) (hp : p.size ≤ maxLen) :
    Calls Try.prog 8 #[.string p] w fun e w' => e = .returned (.bool true) ∧ Below w.heap.size w w' := by
  have HP : Hid (p.size ≤ maxLen) := hp
  unfold maxLen at hp
  by_cases hbig : 1048576 < p.size
  · have z : (1048576 : Int) < (p.size : Int) := by omega
    go_enter Try.func8, Try.ntmps8
    go_wp2_with fail
    go_ret
    exact ⟨rfl, Below.refl _ _⟩
  have z : ¬ (1048576 : Int) < (p.size : Int) := by omega
  obtain ⟨r, hr⟩ := prefIs_some p HP.out
  obtain ⟨c, hc⟩ : ∃ c : ByteArray, c = ⟨r.1.toArray⟩ := ⟨_, rfl⟩
  obtain ⟨k, hk⟩ : ∃ k : Bool, k = r.2 := ⟨_, rfl⟩
  have HS : Hid (∀ w, Calls Try.prog 26 #[.string p] w fun e w' => e = .returned (.agg #[.string c, .bool k]) ∧ Below w.heap.size w w') := fun w => by
    rw [hc, hk]; exact specPrefix_core p w HP.out r hr
  have HI : Hid (∀ w, Calls Try.prog 27 #[.string p] w fun e w' => e = .returned (.agg #[.string c, .bool k]) ∧ Below w.heap.size w w') := fun w => by
    rw [hc, hk]; exact implPrefix_core p w HP.out r hr
  clear hc hk hp hbig hr
  go_enter Try.func8, Try.ntmps8
  go_wp2_with fail
  refine (HS.out w).mono ?_
  rintro e w1 ⟨rfl, hb1⟩
  obtain ⟨W2, hW2⟩ : ∃ W2 : World, W2 = w1.alloc (Obj.cells #[.string c, .bool k] 51) := ⟨_, rfl⟩
  have HW2 : Hid (BoxAt W2 w.heap.size 51 2 w1.heap.size [.string c, .bool k] ∧ Below w.heap.size w W2) := by
    rw [hW2]; exact ⟨boxAt_new w1 _ hb1.size rfl, hb1.trans ((Below.refl _ _).alloc hb1.size _)⟩
  clear hb1
  go_upto_region 4 with fail
  rw [← hW2]
  clear hW2
  go_wp2_with fail
  refine (HI.out W2).mono ?_
  rintro e w3 ⟨rfl, hb3⟩
  have hs2 := HW2.out.2.size
  have hs3 := hb3.size
  obtain ⟨W4, hW4⟩ : ∃ W4 : World, W4 = w3.alloc (Obj.cells #[.string c, .bool k] 51) := ⟨_, rfl⟩
  have HW4 : Hid (BoxAt W4 w.heap.size 51 2 w1.heap.size [.string c, .bool k] ∧ BoxAt W4 w.heap.size 51 2 w3.heap.size [.string c, .bool k] ∧ Below w.heap.size w W4) := by
    have hb4 : Below w3.heap.size w3 W4 := by rw [hW4]; exact (Below.refl _ _).alloc (Nat.le_refl _) _
    refine ⟨(HW2.out.1.below hb3).below hb4, ?_, (HW2.out.2.trans (hb3.mono hs2)).trans (hb4.mono (by omega))⟩
    rw [hW4]; exact boxAt_new w3 _ (by omega) rfl
  clear hb3 HW2
  go_upto_region 5 with fail
  rw [← hW4]
  clear hW4
  have b0 := HW4.out.1.cell (j := 0) rfl
  have b1 := HW4.out.1.cell (j := 1) rfl
  have d0 := HW4.out.2.1.cell (j := 0) rfl
  have d1 := HW4.out.2.1.cell (j := 1) rfl
  go_wp2_with fail
  refine (eqRes_same c k W4).mono ?_
  rintro e w5 ⟨rfl, hb5⟩
  go_wp2_with fail
  go_ret
  exact ⟨rfl, HW4.out.2.2.trans (hb5.mono HW4.out.2.2.size)⟩

theorem lifted (os : Os) (started : os.Started) (H : Type) (enc : TypeId × Value → H) :
    ReturnsInHanded {} Try.checked os 8 .any (Rows.fnExactPrefixOfSpec.pre6 enc Try.prog Try.f8 Rows.fnExactPrefixOfRow.domain false) (Rows.fnExactPrefixOfSpec.post enc Try.prog Try.f8 false true false false) := by
  refine returnsInHanded_of_change (C := Try.checked) own started (by kernel_rfl) Try.func8
    (ChangeSpec.witness6 (enc := enc) (C := Try.checked) false ⟨#[], #[.string ⟨#[]⟩], []⟩ 8 (by kernel_rfl) (by kernel_rfl) (by kernel_rfl) (by kernel_rfl)) ?_
  intro W base args ds gs before hval0 hW hcnd _
  have hval : ∀ (j : Nat) t v, Try.f8.params[j]? = some t → args[j]? = some v → Value.okWide Try.prog W .any base t v := hval0
  have hW' := hW
  obtain ⟨p, q, hA0, hV, rfl, hfz, hnd⟩ := hW
  have hA : DataW.TrodAll enc Try.prog W 0 (fun _ => true) true Try.f8.params.toList args.toList ds p := hA0
  rw [Try.params8] at hA hval
  obtain ⟨v0, vs0, d0, ds0, p0, q0, hargs, rfl, rfl, h0, r0⟩ := trodAll_cons hA
  obtain ⟨rfl, rfl, rfl⟩ := trodAll_nil r0
  obtain rfl : args = #[v0] := by cases args; simp_all
  obtain ⟨rfl, rfl⟩ := trodVars_none hV
  have k0 := h0
  have lt0 : ∀ x ∈ p0, x.block < W.heap.size := by obtain ⟨m, hm⟩ := k0; exact DataW.trod_lt m _ _ _ hm
  obtain ⟨s, rfl, _, _, hs⟩ := open_string Try.underlying9 (hval 0 9 v0 rfl rfl) h0
  clear hA0 hval0
  refine (walk s W hs).mono fun e W' ⟨he, bel⟩ => ?_
  subst he
  exact ⟨_, rfl, _, _, _, [], _, [], hW', trodAll_mk1 (shut_bool Try.underlying4 _), (trodAll_cons_mk (Below.trod laidOut (by kernel_rfl) (of_decide_eq_true (by kernel_rfl)) k0 bel lt0) trodAll_mk0), rfl, bel.frame _, fun h => by cases h⟩

theorem over : Rows.fnExactPrefixOfRow.holds Try.pinned (OpenSpec.ofChange Rows.fnExactPrefixOfSpec) :=
  OpenClaim.holds_of_wide 8 Try.f8 rfl rfl rfl rfl rfl rfl rfl ⟨rfl, rfl, rfl, rfl, rfl⟩ rfl rfl rfl rfl rfl (by kernel_rfl) Try.func8 (by kernel_rfl)
    (of_decide_eq_true (by kernel_rfl)) (by unfold Func.isWrapper; first | (rw [if_pos (by decide +kernel)]; kernel_rfl) | (rw [if_neg (by decide +kernel)]; exact ⟨rfl, rfl⟩))
    (fun os started H enc _ => lifted os started H enc)

end Go.Proofs.Ytnncedndlhfdkaa.exPrefixOf
namespace Go.Proofs.Ytnncedndlhfdkaa
theorem exactPrefixOf_holds : Rows.FnExactPrefixOfSaid := exPrefixOf.over
#print axioms exactPrefixOf_holds
end Go.Proofs.Ytnncedndlhfdkaa

