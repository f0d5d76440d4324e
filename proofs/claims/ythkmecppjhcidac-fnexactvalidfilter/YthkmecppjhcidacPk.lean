/-
  impl.placedFaultOf, impl.readPattern.
-/
import Derived.Test.YthkmecppjhcidacPj
import Derived.Recover
import Derived.RecoverIn
import Derived.Stop.Asserts
namespace Go.Proofs.Ythkmecppjhcidac
open Go.ChangeShapes Go.WideShapes Go.ChangeAt Go.RowKit Go.Deep
set_option linter.unusedVariables false
set_option linter.unusedSimpArgs false
set_option maxRecDepth 100000

theorem pf_assert (c a : Int) (w : World) : (Instr.typeAssert (pfV c a) 20 172 true).run Try.prog w = .ok (.tuple #[.agg #[.int .i64 c, .int .i64 a], .bool true]) w := by kernel_rfl
set_option maxHeartbeats 2000000 in
theorem pfOf_nil (w : World) : Calls Try.prog 124 #[.nilIface] w fun e w' => e = .returned (.agg #[.int .i64 0, .int .i64 0]) ∧ Below w.heap.size w w' := by
  go_enter Try.func124, Try.ntmps124
  go_wp2_with fail
  refine bodyPost_ret (v := .agg #[.int .i64 0, .int .i64 0]) (by simp [results, Try.results124, go_sem]) rfl ⟨rfl, ?_⟩
  exact (Below.refl _ _).alloc (Nat.le_refl _) _
set_option maxHeartbeats 2000000 in
theorem pfOf_pf (c a : Int) (w : World) : Calls Try.prog 124 #[pfV c a] w fun e w' => e = .returned (.agg #[.int .i64 c, .int .i64 a]) ∧ Below w.heap.size w w' := by
  have hta := pf_assert
  obtain ⟨W, hW⟩ : ∃ W : World, W = w.alloc (Obj.cells #[.int .i64 0, .int .i64 0] 172) := ⟨_, rfl⟩
  have HW : Hid (BoxAt W w.heap.size 172 2 w.heap.size [.int .i64 0, .int .i64 0] ∧ Below w.heap.size w W) := by
    rw [hW]; exact ⟨boxAt_new w _ (Nat.le_refl _) rfl, (Below.refl _ _).alloc (Nat.le_refl _) _⟩
  obtain ⟨W2, hW2⟩ : ∃ W2 : World, W2 = W.alloc (Obj.cells #[.int .i64 c, .int .i64 a] 172) := ⟨_, rfl⟩
  have HW2 : Hid (BoxAt W2 w.heap.size 172 2 w.heap.size [.int .i64 0, .int .i64 0] ∧ BoxAt W2 w.heap.size 172 2 W.heap.size [.int .i64 c, .int .i64 a] ∧ Below w.heap.size w W2) := by
    have hb : Below W.heap.size W W2 := by rw [hW2]; exact (Below.refl _ _).alloc (Nat.le_refl _) _
    refine ⟨HW.out.1.below hb, ?_, HW.out.2.trans (hb.mono HW.out.2.size)⟩
    rw [hW2]; exact boxAt_new W _ HW.out.2.size rfl
  go_enter Try.func124, Try.ntmps124
  go_upto_region 1 with fail
  rw [← hW]
  clear hW
  go_upto_region 7 with fail
  rw [← hW2]
  clear hW2 hta
  have b0 := HW2.out.2.1.cell (j := 0) rfl
  have b1 := HW2.out.2.1.cell (j := 1) rfl
  have r0 := HW2.out.1.cell (j := 0) rfl
  have r1 := HW2.out.1.cell (j := 1) rfl
  have f0 := HW2.out.1.frozen 0
  have f1 := HW2.out.1.frozen 1
  have hbx := (HW2.out.1.set 0 (.int .i64 c)).set 1 (.int .i64 a)
  have p0 := hbx.cell (j := 0) rfl
  have p1 := hbx.cell (j := 1) rfl
  obtain ⟨W3, hW3⟩ : ∃ W3 : World, W3 = (W2.setCell ⟨w.heap.size, 0, none⟩ (.int .i64 c)).setCell ⟨w.heap.size, 1, none⟩ (.int .i64 a) := ⟨_, rfl⟩
  rw [← hW3] at p0 p1
  have HB3 : Hid (Below w.heap.size w W3) := by
    show Below w.heap.size w W3
    rw [hW3]; exact below_set (below_set HW2.out.2.2 (Nat.le_refl _) 0 _) (Nat.le_refl _) 1 _
  clear hbx
  go_wp2_with fail
  rw [← hW3]
  refine bodyPost_ret (v := .agg #[.int .i64 c, .int .i64 a]) (by simp [results, Try.results124, go_sem, p0, p1]) rfl ⟨rfl, HB3.out⟩

set_option maxHeartbeats 4000000 in
theorem rp_catch (base rb eb : Nat) (c a : Int) (older : List PanicEntry) (w : World) (hc : ¬ c = 0) (x : Value) (hr : BoxAt w base 162 1 rb [x]) (he : BoxAt w base 118 2 eb [.int .i64 0, .int .i64 0]) (hne : ¬ rb = eb) :
    CallsD Try.prog 123 #[.pointer (some ⟨rb, 0, none⟩), .pointer (some ⟨eb, 0, none⟩)] (.panicking ({ v := pfV c a, recovered := false } :: older)) w fun e u' w' =>
      e = .returned (.tuple #[]) ∧ u' = .panicking ({ v := pfV c a, recovered := true } :: older) ∧ BoxAt w' base 162 1 rb [.slice none 0 0] ∧ BoxAt w' base 118 2 eb [.int .i64 c, .int .i64 a] ∧ Chg (fun k => k = rb ∨ k = eb) w w' := by
  refine callsD_of_wpS Try.func123 rfl fun c₀ cs hu => ?_
  apply wpS_seq
  apply wpS_region
  simp [wpOpsS, go_sem, recoverD, hu, Try.ntmps123, Exit.thenS]
  refine (pfOf_pf c a w).mono ?_
  rintro e w1 ⟨rfl, hb1⟩
  simp [wpOpsS, go_sem]
  have ht : #[Value.pointer (some ⟨rb, 0, none⟩), Value.pointer (some ⟨eb, 0, none⟩)] ++ (((Array.replicate 12 undef).setIfInBounds 1 (pfV c a)).setIfInBounds 2 (Value.agg #[Value.int IntKind.i64 c, Value.int IntKind.i64 a])).setIfInBounds 0 (Value.pointer (some ⟨w1.heap.size, 0, none⟩)) = #[.pointer (some ⟨rb, 0, none⟩), .pointer (some ⟨eb, 0, none⟩), .pointer (some ⟨w1.heap.size, 0, none⟩), pfV c a, .agg #[.int .i64 c, .int .i64 a], undef, undef, undef, undef, undef, undef, undef, undef, undef] := by rfl
  rw [ht]
  clear ht
  obtain ⟨W2, hW2⟩ : ∃ W2 : World, W2 = w1.alloc (Obj.cells #[.int .i64 c, .int .i64 a] 172) := ⟨_, rfl⟩
  have hb2 : Below w1.heap.size w1 W2 := by rw [hW2]; exact (Below.refl _ _).alloc (Nat.le_refl _) _
  have HB : Hid (BoxAt W2 base 162 1 rb [x] ∧ BoxAt W2 base 118 2 eb [.int .i64 0, .int .i64 0] ∧ Chg (fun k => k = rb ∨ k = eb) w W2) :=
    ⟨(hr.below hb1).below hb2, (he.below hb1).below hb2, (Chg.of_below hb1).trans (Chg.of_below hb2)⟩
  have d0 : W2.cell? ⟨w1.heap.size, 0, none⟩ = some (.int .i64 c) := by rw [hW2]; simp
  have d1 : W2.cell? ⟨w1.heap.size, 1, none⟩ = some (.int .i64 a) := by rw [hW2]; simp
  have hrl := (hr.below hb1).lt.2
  have hel := (he.below hb1).lt.2
  obtain ⟨FB, hFB⟩ : ∃ FB, FB = w1.heap.size := ⟨_, rfl⟩
  rw [← hW2]
  rw [← hFB] at d0 d1 ⊢
  have n1 : ¬ FB = rb := by omega
  have n2 : ¬ FB = eb := by omega
  clear hW2 hFB hb1 hb2 hr he hrl hel
  have r0 := HB.out.1.cell (j := 0) rfl
  have rf := HB.out.1.frozen 0
  have e0 := HB.out.2.1.cell (j := 0) rfl
  have e1 := HB.out.2.1.cell (j := 1) rfl
  have f0 := HB.out.2.1.frozen 0
  have f1 := HB.out.2.1.frozen 1
  have n3 : ¬ eb = rb := fun q => hne q.symm
  have HF : ∀ w' : World, Below W2.heap.size W2 w' → BoxAt (((w'.setCell ⟨rb, 0, none⟩ (.slice none 0 0)).setCell ⟨eb, 0, none⟩ (.int .i64 c)).setCell ⟨eb, 1, none⟩ (.int .i64 a)) base 162 1 rb [.slice none 0 0] ∧ BoxAt (((w'.setCell ⟨rb, 0, none⟩ (.slice none 0 0)).setCell ⟨eb, 0, none⟩ (.int .i64 c)).setCell ⟨eb, 1, none⟩ (.int .i64 a)) base 118 2 eb [.int .i64 c, .int .i64 a] ∧ Chg (fun k => k = rb ∨ k = eb) w (((w'.setCell ⟨rb, 0, none⟩ (.slice none 0 0)).setCell ⟨eb, 0, none⟩ (.int .i64 c)).setCell ⟨eb, 1, none⟩ (.int .i64 a)) := fun w' hb => by
    refine ⟨((((HB.out.1.below hb).set 0 _).beside hne 0 _).beside hne 1 _), ((((HB.out.2.1.below hb).beside n3 0 _).set 0 _).set 1 _), ((((HB.out.2.2.trans (Chg.of_below hb)).trans (Chg.of_set _ rb 0 _ (.inl rfl))).trans (Chg.of_set _ eb 0 _ (.inr rfl))).trans (Chg.of_set _ eb 1 _ (.inr rfl)))⟩
  have HFF : Hid (∀ w' : World, Below W2.heap.size W2 w' → BoxAt (((w'.setCell ⟨rb, 0, none⟩ (.slice none 0 0)).setCell ⟨eb, 0, none⟩ (.int .i64 c)).setCell ⟨eb, 1, none⟩ (.int .i64 a)) base 162 1 rb [.slice none 0 0] ∧ BoxAt (((w'.setCell ⟨rb, 0, none⟩ (.slice none 0 0)).setCell ⟨eb, 0, none⟩ (.int .i64 c)).setCell ⟨eb, 1, none⟩ (.int .i64 a)) base 118 2 eb [.int .i64 c, .int .i64 a] ∧ Chg (fun k => k = rb ∨ k = eb) w (((w'.setCell ⟨rb, 0, none⟩ (.slice none 0 0)).setCell ⟨eb, 0, none⟩ (.int .i64 c)).setCell ⟨eb, 1, none⟩ (.int .i64 a))) := HF
  clear HF
  refine wpS_of_wp ?_
  go_upto_region 2 with fail
  go_region
  all_goals go_wp2_with fail
  have hfin := HFF.out W2 (Below.refl _ _)
  have hdr : ∀ X : World, Below X.heap.size X X.drew := fun X => (Below.refl _ _).drew
  exact ⟨rfl, _, rfl, _, by simp [results, Try.results123], rfl, rfl, hfin.1.below (hdr _), hfin.2.1.below (hdr _), hfin.2.2.trans (Chg.of_below (hdr _))⟩

set_option maxHeartbeats 4000000 in
theorem rp_idle (rb eb : Nat) (w : World) :
    CallsD Try.prog 123 #[.pointer (some ⟨rb, 0, none⟩), .pointer (some ⟨eb, 0, none⟩)] .returning w fun e u' w' => e = .returned (.tuple #[]) ∧ u' = .returning ∧ Below w.heap.size w w' := by
  refine callsD_of_wpS Try.func123 rfl fun c₀ cs hu => ?_
  apply wpS_seq
  apply wpS_region
  simp [wpOpsS, go_sem, recoverD, hu, Try.ntmps123, Exit.thenS]
  refine (pfOf_nil w).mono ?_
  rintro e w1 ⟨rfl, hb1⟩
  simp [wpOpsS, go_sem]
  have ht : #[Value.pointer (some ⟨rb, 0, none⟩), Value.pointer (some ⟨eb, 0, none⟩)] ++ (((Array.replicate 12 undef).setIfInBounds 1 .nilIface).setIfInBounds 2 (Value.agg #[Value.int IntKind.i64 0, Value.int IntKind.i64 0])).setIfInBounds 0 (Value.pointer (some ⟨w1.heap.size, 0, none⟩)) = #[.pointer (some ⟨rb, 0, none⟩), .pointer (some ⟨eb, 0, none⟩), .pointer (some ⟨w1.heap.size, 0, none⟩), .nilIface, .agg #[.int .i64 0, .int .i64 0], undef, undef, undef, undef, undef, undef, undef, undef, undef] := by rfl
  rw [ht]
  clear ht
  have HB : Hid (Below w.heap.size w (w1.alloc (Obj.cells #[.int .i64 0, .int .i64 0] 172))) := hb1.trans ((Below.refl _ _).alloc hb1.size _)
  clear hb1
  refine wpS_of_wp ?_
  go_wp2_with fail
  refine ⟨rfl, .returning, ?_, _, by simp [results, Try.results123], rfl, rfl, HB.out⟩
  cases c₀
  simp_all

/-- What the check of a pattern comes to. -/
def checkM (p : List UInt8) : Int × Nat := if 200 < p.length then (1, 0) else chkM p 0 0 false
/-- What readPattern hands back. -/
def ReadPost (p : ByteArray) (w : World) (e : Ending) (w' : World) : Prop :=
  ∃ u : Value, e = .returned (.tuple #[.agg #[u], .agg #[.int .i64 (checkM (sb p)).1, .int .i64 ((checkM (sb p)).2 : Int)]]) ∧ Below w.heap.size w w' ∧
    (((checkM (sb p)).1 = 0 ∧ ∃ os, AltOk (sb p) 0 0 p.size os ∧ AltAt w' (Bet w.heap.size w'.heap.size) os u) ∨ (¬ (checkM (sb p)).1 = 0 ∧ u = .slice none 0 0))
theorem rp_res {base rb eb : Nat} {w : World} {a : Act} {u x y : Value} (hu : u.oneCell' = true) (ht : a.tmps.getD 2 undef = .pointer (some ⟨rb, 0, none⟩)) (ht2 : a.tmps.getD 3 undef = .pointer (some ⟨eb, 0, none⟩)) (hr : BoxAt w base 162 1 rb [u]) (he : BoxAt w base 118 2 eb [x, y]) :
    (results Try.f116 a.tmps).run Try.prog w = .ok (.tuple #[.agg #[u], .agg #[x, y]]) w := by
  have p0 := hr.cell (j := 0) rfl
  have q0 := he.cell (j := 0) rfl
  have q1 := he.cell (j := 1) rfl
  have h1 : a.tmps[2]?.getD undef = .pointer (some ⟨rb, 0, none⟩) := by rw [← Array.getD_eq_getD_getElem?]; exact ht
  have h2 : a.tmps[3]?.getD undef = .pointer (some ⟨eb, 0, none⟩) := by rw [← Array.getD_eq_getD_getElem?]; exact ht2
  simp [results, Try.results116, go_sem, h1, h2, p0, q0, q1]
/-- Every panic of readPattern ends in its fault. -/
theorem rp_dies (p : ByteArray) (w wq : World) (a : Act) (c : Int) (k rb eb : Nat) (x : Value) (hrb : w.heap.size ≤ rb) (heb : w.heap.size ≤ eb) (hne : ¬ rb = eb) (hd : a.defers = [{ target := Target.fn (Fn.func 123) #[.pointer (some ⟨rb, 0, none⟩), .pointer (some ⟨eb, 0, none⟩)], args := #[] }])
    (ht : a.tmps.getD 2 undef = .pointer (some ⟨rb, 0, none⟩)) (ht2 : a.tmps.getD 3 undef = .pointer (some ⟨eb, 0, none⟩)) (hM : checkM (sb p) = (c, k)) (hc : ¬ c = 0) (hr : BoxAt wq w.heap.size 162 1 rb [x]) (he : BoxAt wq w.heap.size 118 2 eb [.int .i64 0, .int .i64 0]) (hB : Below w.heap.size w wq) :
    bodyPostD Try.prog Try.f116 (fun e w' => ReadPost p w e w') (.panic [{ v := pfV c k, recovered := false }]) a wq := by
  show Leaves Try.prog Try.f116 a.tmps (fun e w' => ReadPost p w e w') a.defers (.panicking [{ v := pfV c k, recovered := false }]) wq
  rw [hd]
  refine leaves_cons (f := 123) (args := #[.pointer (some ⟨rb, 0, none⟩), .pointer (some ⟨eb, 0, none⟩)]) (by simp) (by simp [go_sem]) ?_
  refine (rp_catch w.heap.size rb eb c k [] wq hc x hr he hne).mono ?_
  rintro e u' w'' ⟨rfl, rfl, hr2, he2, hC⟩
  show Leaves Try.prog Try.f116 a.tmps (fun e w' => ReadPost p w e w') [] (settle (.panicking [{ v := pfV c k, recovered := true }])) _
  refine ⟨_, rp_res rfl ht ht2 hr2 he2, .slice none 0 0, by rw [hM], Chg.below hB hC hB.size (fun j q => by omega), .inr ⟨by rw [hM]; exact hc, rfl⟩⟩
theorem rp_done (p : ByteArray) (w wq : World) (a : Act) (rb eb : Nat) (u : Value) (os : List (List Pat)) (hu : u.oneCell' = true) (hd : a.defers = [{ target := Target.fn (Fn.func 123) #[.pointer (some ⟨rb, 0, none⟩), .pointer (some ⟨eb, 0, none⟩)], args := #[] }])
    (ht : a.tmps.getD 2 undef = .pointer (some ⟨rb, 0, none⟩)) (ht2 : a.tmps.getD 3 undef = .pointer (some ⟨eb, 0, none⟩)) (hM : checkM (sb p) = (0, 0)) (hA : AltOk (sb p) 0 0 p.size os) (hU : AltAt wq (Bet w.heap.size wq.heap.size) os u) (hr : BoxAt wq w.heap.size 162 1 rb [u]) (he : BoxAt wq w.heap.size 118 2 eb [.int .i64 0, .int .i64 0]) (hB : Below w.heap.size w wq) :
    bodyPostD Try.prog Try.f116 (fun e w' => ReadPost p w e w') .ret a wq := by
  show Leaves Try.prog Try.f116 a.tmps (fun e w' => ReadPost p w e w') a.defers .returning wq
  rw [hd]
  refine leaves_cons (f := 123) (args := #[.pointer (some ⟨rb, 0, none⟩), .pointer (some ⟨eb, 0, none⟩)]) (by simp) (by simp [go_sem]) ?_
  refine (rp_idle rb eb wq).mono ?_
  rintro e u' w'' ⟨rfl, rfl, hb⟩
  show Leaves Try.prog Try.f116 a.tmps (fun e w' => ReadPost p w e w') [] (settle .returning) w''
  refine ⟨_, rp_res hu ht ht2 (hr.below hb) (he.below hb), u, by rw [hM]; rfl, hB.trans (hb.mono hB.size), .inl ⟨by rw [hM], os, hA, hU.move (S := fun _ => False) (Chg.of_below hb) (fun q hq => hq.elim) (fun q hq z => ⟨z.1, by have := hb.size; omega⟩)⟩⟩
end Go.Proofs.Ythkmecppjhcidac
