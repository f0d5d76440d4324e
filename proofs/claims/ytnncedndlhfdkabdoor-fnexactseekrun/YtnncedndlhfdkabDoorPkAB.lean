import Derived.WalkLawsBesides
import Derived.LaidEql
import Derived.Stop.Asserts
import Derived.RowKitTokens
import Derived.Recover
import Derived.Deep.WholeRow
import Derived.Laws.Rows
import Derived.Laws.Tables
import Derived.Lib.SlBytesRow
import Derived.Lib.Bytealg
import Derived.Lib.Slices
import Derived.Lib.Walk
import Derived.Deep.QuietTactic
import Derived.BigQuiet
import Derived.Deep.DeepCutAuto
import Derived.Deep.RegionWith
import Derived.Test.YtnncedndlhfdkabDoorPkAA
/-
  impl.demand, (*impl.byteReader).take, end.
-/
namespace Go.Proofs.YtnncedndlhfdkabDoor
open Go.ChangeShapes Go.WideShapes Go.ChangeAt Go.RowKit Go.Deep
set_option linter.unusedVariables false
set_option linter.unusedSimpArgs false
set_option maxRecDepth 100000

/-- A panic with a corruption. -/
abbrev corrV (c : Int) : Value := .iface 68 (.agg #[.int .i64 c])
abbrev Corr (c : Int) : Ending := .panicked [{ v := corrV c, recovered := false }]

set_option maxHeartbeats 1000000 in
theorem demand_yes (c : Int) (w : World) : Calls Tryd.prog 26 #[.bool true, .int .i64 c] w fun e w' => e = .returned (.tuple #[]) ∧ w' = w := by
  go_enter Tryd.func26, Tryd.ntmps26
  go_wp2_with fail
  go_end0
  exact ⟨rfl, rfl⟩
set_option maxHeartbeats 1000000 in
theorem demand_no (c : Int) (w : World) : Calls Tryd.prog 26 #[.bool false, .int .i64 c] w fun e w' => e = Corr c ∧ w' = w := by
  go_enter Tryd.func26, Tryd.ntmps26
  go_wp2_with fail
  exact ⟨rfl, rfl, rfl⟩

theorem demand_core (c : Bool) (code : Int) (w : World) : Calls Tryd.prog 26 #[.bool c, .int .i64 code] w fun e w' => w' = w ∧ ((c = true ∧ e = .returned (.tuple #[])) ∨ (c = false ∧ e = Corr code)) := by
  cases c with
  | true => exact (demand_yes code w).mono fun e w' ⟨he, hw⟩ => ⟨hw, .inl ⟨rfl, he⟩⟩
  | false => exact (demand_no code w).mono fun e w' ⟨he, hw⟩ => ⟨hw, .inr ⟨rfl, he⟩⟩

/-- A region whose last operation is a demand that does not hold. -/
theorem wp_region_demand {id : Nat} {Q : Exit → Act → World → Prop} {a : Act} {w : World} {l : List Oper} (d s : Tmp) (c : Operand) (code : Int) (sl : List (Tmp × Value)) {tys : Array TypeId} {ty : TypeId} {pos : String} {aft : Array Edge}
    (ho : l.getLast? = some ⟨some d, .call { callee := .value (.func 26), args := #[.tmp s, c], argTypes := tys }, ty, pos, aft, none⟩)
    (hB : ∀ m, Region.lexB .any (l.dropLast ++ [fk m ⟨some d, .call { callee := .value (.func 26), args := #[.tmp s, c], argTypes := tys }, ty, pos, aft, none⟩]).toArray = true)
    (hB2 : waitsB l.dropLast ⟨some d, .call { callee := .value (.func 26), args := #[.tmp s, c], argTypes := tys }, ty, pos, aft, none⟩ [] d (sl.map (·.1)) = true)
    (hs : ∀ a' : Act, (∀ p ∈ sl, a'.tmps.getD p.1 undef = p.2) → a'.eval (.tmp s) = .bool false ∧ a'.eval c = .int .i64 code)
    (hQ : ∀ (a' : Act) (w' : World), Below w.heap.size w w' → a'.defers = a.defers → Q (.panic [{ v := corrV code, recovered := false }]) a' w')
    (h : ∀ m, wpQuiet Tryd.prog (l.dropLast ++ [fk m ⟨some d, .call { callee := .value (.func 26), args := #[.tmp s, c], argTypes := tys }, ty, pos, aft, none⟩]).toArray (fun w' => ∃ n : Out w, w' = n.u) (fun a' => a'.tmps.getD d undef = m ∧ ∀ p ∈ sl, a'.tmps.getD p.1 undef = p.2) (l.dropLast ++ [fk m ⟨some d, .call { callee := .value (.func 26), args := #[.tmp s, c], argTypes := tys }, ty, pos, aft, none⟩]) a) :
    (Code.region id l.toArray true).wp Tryd.prog Q a w := by
  have hl : l = l.dropLast ++ [⟨some d, .call { callee := .value (.func 26), args := #[.tmp s, c], argTypes := tys }, ty, pos, aft, none⟩] := by
    obtain ⟨l', hl'⟩ := List.getLast?_eq_some_iff.1 ho
    rw [hl']; simp
  refine wp_region_dies (C := fun w' => ∃ n : Out w, w' = n.u) l.dropLast _ [] d sl l hl (by kernel_rfl) hB hB2 rfl rfl ⟨⟨_, (Below.refl _ _).drew⟩, rfl⟩ h ?_
  rintro a' w' K ⟨n, rfl⟩ hd hp
  obtain ⟨h1, h2⟩ := hs a' hp
  unfold Oper.wp
  have hrun : (execOp a'.eval ⟨some d, .call { callee := .value (.func 26), args := #[.tmp s, c], argTypes := tys }, ty, pos, aft, none⟩).run Tryd.prog n.u = .ok (.enter 26 #[.bool false, .int .i64 code]) n.u := by
    simp [execOp, h1, h2, go_sem, Act.eval, Tryd.func26]
    exact ⟨by have := h1; simpa [Act.eval] using this, by have h3 := h2; cases c <;> simp [Act.eval] at h3 ⊢ <;> exact h3⟩
  rw [hrun, Oper.upon_enter]
  refine (demand_no code n.u).mono ?_
  rintro e w'' ⟨rfl, rfl⟩
  exact hQ a' n.u n.out hd

theorem slots1 {a' : Act} {s : Tmp} {x : Value} (h : a'.tmps.getD s undef = x) : ∀ p ∈ [(s, x)], a'.tmps.getD p.1 undef = p.2 := by
  intro p hp
  rcases List.mem_cons.1 hp with rfl | hp
  · exact h
  · cases hp
theorem slots2 {a' : Act} {s t : Tmp} {x y : Value} (h : a'.tmps.getD s undef = x) (h2 : a'.tmps.getD t undef = y) : ∀ p ∈ [(s, x), (t, y)], a'.tmps.getD p.1 undef = p.2 := by
  intro p hp
  rcases List.mem_cons.1 hp with rfl | hp
  · exact h
  · exact slots1 h2 p hp

/-- A reader in memory, before the bytes 'xs'. -/
structure RdAt (w : World) (base g b off cap : Nat) (xs : List UInt8) (code : Int) : Prop where
  box : BoxAt w base 76 2 g [.slice (some ⟨b, off, none⟩) xs.length cap, .int .i64 code]
  bys : BysAt w b off xs
  lt : b < w.heap.size
  ne : ¬ b = g
  room : xs.length < cap
  len : xs.length ≤ 2 ^ 30
  capm : cap ≤ maxLen
theorem BysAt.chgR {S : Nat → Prop} {w w' : World} {b off : Nat} {xs : List UInt8} (h : BysAt w b off xs) (hc : Chg S w w') (hlt : b < w.heap.size) (hn : ¬ S b) : BysAt w' b off xs := by
  intro i x hx
  rw [hc.cell (p := ⟨b, off + i, none⟩) hlt hn]
  exact h i x hx
theorem BysAt.drop {w : World} {b off : Nat} {xs : List UInt8} (h : BysAt w b off xs) (n : Nat) : BysAt w b (off + n) (xs.drop n) := by
  intro i x hx
  rw [List.getElem?_drop] at hx
  have := h (n + i) x hx
  rw [Nat.add_assoc]; exact this
theorem BysAt.take {w : World} {b off : Nat} {xs : List UInt8} (h : BysAt w b off xs) (n : Nat) : BysAt w b off (xs.take n) := by
  intro i x hx
  have hi := (List.getElem?_eq_some_iff.1 hx).1
  rw [List.length_take] at hi
  rw [List.getElem?_take_of_lt (by omega)] at hx
  exact h i x hx
theorem RdAt.chg {S : Nat → Prop} {w w' : World} {base g b off cap : Nat} {xs : List UInt8} {code : Int} (h : RdAt w base g b off cap xs code) (hc : Chg S w w') (hg : ¬ S g) (hb : ¬ S b) : RdAt w' base g b off cap xs code :=
  ⟨h.box.chg hc hg, h.bys.chgR hc h.lt hb, Nat.lt_of_lt_of_le h.lt hc.size, h.ne, h.room, h.len, h.capm⟩
theorem Chg.drew {S : Nat → Prop} {a w : World} (h : Chg S a w) : Chg S a w.drew := h.trans ⟨rfl, rfl, rfl, Nat.le_refl _, fun _ _ _ => rfl⟩

set_option maxHeartbeats 400000 in
theorem take_ok (base g b off cap n : Nat) (xs : List UInt8) (code : Int) (w : World) (h : RdAt w base g b off cap xs code) (hn : n ≤ xs.length) :
    Calls Tryd.prog 38 #[.pointer (some ⟨g, 0, none⟩), .int .u64 (n : Int)] w fun e w' =>
      e = .returned (.slice (some ⟨b, off, none⟩) n cap) ∧ RdAt w' base g b (off + n) (cap - n) (xs.drop n) code ∧ Chg (fun k => k = g) w w' := by
  have HR : Hid (RdAt w base g b off cap xs code) := h
  have c0 := h.box.cell (j := 0) rfl
  have c1 := h.box.cell (j := 1) rfl
  have f0 := h.box.frozen 0
  have hr := h.room
  have hl := h.len
  have hm := h.capm
  unfold maxLen at hm
  clear h
  go_enter Tryd.func38, Tryd.ntmps38
  go_upto_region 1 with fail
  have HN : Hid (cap ≤ 2 ^ 63 - 1 ∧ xs.length < cap ∧ xs.length ≤ 2 ^ 30) := ⟨hm, hr, hl⟩
  have z1 : (n : Int) ≤ (xs.length : Int) := by omega
  have z2 : (xs.length : Int) ≤ 1073741824 := by omega
  clear hm hr hl hn
  go_quiet ((go_at_call 26; exact Calls.quiet_of_same (demand_yes _ _)))
  have z3 : (n : Int) < (cap : Int) := by have := HN.out; omega
  have z4 : ¬ cap = n := by have := HN.out; omega
  go_wp2_with fail
  go_ret
  have HR2 : RdAt (w.drewN nq) base g b off cap xs code := HR.out.chg (S := fun _ => False) (Chg.of_below (below_drewN (Below.refl _ _) _)) (fun q => q) (fun q => q)
  have hc : Chg (fun k => k = g) w ((w.drewN nq).setCell ⟨g, 0, none⟩ (.slice (some ⟨b, off + n, none⟩) (xs.length - n) (cap - n))) := (Chg.of_below (below_drewN (Below.refl _ _) _)).trans (Chg.of_set _ g 0 _ rfl)
  refine ⟨rfl, ⟨?_, ?_, ?_, HR2.ne, ?_, ?_, ?_⟩, hc⟩
  · have := HR2.box.set 0 (.slice (some ⟨b, off + n, none⟩) (xs.length - n) (cap - n))
    rw [List.length_drop]
    exact this
  · exact (HR.out.bys.chgR hc HR.out.lt HR.out.ne).drop n
  · exact Nat.lt_of_lt_of_le HR.out.lt hc.size
  · have := HR.out.room; rw [List.length_drop]; omega
  · have := HR.out.len; rw [List.length_drop]; omega
  · have := HR.out.capm; omega

theorem wrap_u64 {n : Nat} (h : n < 2 ^ 64) : IntKind.u64.wrap (n : Int) = (n : Int) := by
  simp only [IntKind.wrap, IntKind.bits, IntKind.signed, Bool.false_and, Bool.false_eq_true, if_false]
  omega
set_option maxHeartbeats 400000 in
theorem take_bad (base g b off cap n : Nat) (xs : List UInt8) (code : Int) (w : World) (h : RdAt w base g b off cap xs code) (hn : xs.length < n) (hn2 : n < 2 ^ 64) :
    Calls Tryd.prog 38 #[.pointer (some ⟨g, 0, none⟩), .int .u64 (n : Int)] w fun e w' => e = Corr code ∧ Below w.heap.size w w' := by
  have c0 := h.box.cell (j := 0) rfl
  have c1 := h.box.cell (j := 1) rfl
  have hl := h.len
  have z1 : ¬ (n : Int) ≤ (xs.length : Int) := by omega
  have z2 : (xs.length : Int) ≤ 1073741824 := by omega
  have hlt := h.box.lt.2
  have e0 : ∀ n : Out w, n.u.cell? ⟨g, 0, none⟩ = some (.slice (some ⟨b, off, none⟩) xs.length cap) := fun n => (n.out.cell (p := ⟨g, 0, none⟩) hlt).trans c0
  have e1 : ∀ n : Out w, n.u.cell? ⟨g, 1, none⟩ = some (.int .i64 code) := fun n => (n.out.cell (p := ⟨g, 1, none⟩) hlt).trans c1
  clear h hl hn hn2 c0 c1 hlt
  go_enter Tryd.func38, Tryd.ntmps38
  go_upto_region 1 with fail
  refine wp_region_demand 18 13 (.tmp 17) code [(13, .bool false), (17, .int .i64 code)] rfl (fun m => by kernel_rfl) (by kernel_rfl) (fun a' h => ⟨h (13, _) (by simp), h (17, _) (by simp)⟩) ?q ?_
  case q => exact fun a' w' hb hd => ⟨hd, rfl, hb⟩
  intro m
  dsimp only [List.dropLast, fk, List.cons_append, List.nil_append]
  repeat (go_big_quiet_step (rfl))
  refine wpQuiet_nil ?_
  exact ⟨rfl, slots2 rfl rfl⟩

set_option maxHeartbeats 400000 in
theorem end_ok (base g b off cap : Nat) (code : Int) (w : World) (h : RdAt w base g b off cap [] code) :
    Calls Tryd.prog 32 #[.pointer (some ⟨g, 0, none⟩)] w fun e w' => e = .returned (.tuple #[]) ∧ Below w.heap.size w w' := by
  have c0 := h.box.cell (j := 0) rfl
  have c1 := h.box.cell (j := 1) rfl
  simp only [List.length_nil] at c0
  clear h
  go_enter Tryd.func32, Tryd.ntmps32
  go_upto_region 0 with fail
  go_quiet ((go_at_call 26; exact Calls.quiet_of_same (demand_yes _ _)))
  go_wp2_with fail
  go_end0
  exact ⟨rfl, below_drewN (Below.refl _ _) _⟩
set_option maxHeartbeats 400000 in
theorem end_bad (base g b off cap : Nat) (xs : List UInt8) (code : Int) (w : World) (h : RdAt w base g b off cap xs code) (hx : ¬ xs = []) :
    Calls Tryd.prog 32 #[.pointer (some ⟨g, 0, none⟩)] w fun e w' => e = Corr code ∧ Below w.heap.size w w' := by
  have c0 := h.box.cell (j := 0) rfl
  have c1 := h.box.cell (j := 1) rfl
  have z1 : ¬ (xs.length : Int) = 0 := by
    have : xs.length ≠ 0 := fun q => hx (List.length_eq_zero_iff.1 q)
    omega
  have hlt := h.box.lt.2
  have e0 : ∀ n : Out w, n.u.cell? ⟨g, 0, none⟩ = some (.slice (some ⟨b, off, none⟩) xs.length cap) := fun n => (n.out.cell (p := ⟨g, 0, none⟩) hlt).trans c0
  have e1 : ∀ n : Out w, n.u.cell? ⟨g, 1, none⟩ = some (.int .i64 code) := fun n => (n.out.cell (p := ⟨g, 1, none⟩) hlt).trans c1
  clear h hx c0 c1 hlt
  go_enter Tryd.func32, Tryd.ntmps32
  go_upto_region 0 with fail
  refine wp_region_demand 12 7 (.tmp 11) code [(7, .bool false), (11, .int .i64 code)] rfl (fun m => by kernel_rfl) (by kernel_rfl) (fun a' h => ⟨h (7, _) (by simp), h (11, _) (by simp)⟩) ?q ?_
  case q => exact fun a' w' hb hd => ⟨hd, rfl, hb⟩
  intro m
  dsimp only [List.dropLast, fk, List.cons_append, List.nil_append]
  repeat (go_big_quiet_step (rfl))
  refine wpQuiet_nil ?_
  exact ⟨rfl, slots2 (congrArg Value.bool (beq_eq_false_iff_ne.2 z1)) rfl⟩
end Go.Proofs.YtnncedndlhfdkabDoor

/-
  errors.As at a corruption and a variable of that type; impl.faultCode.
-/
namespace Go.Proofs.YtnncedndlhfdkabDoor
open Go.ChangeShapes Go.WideShapes Go.ChangeAt Go.RowKit Go.Deep
open Go.Extern.Stop Go.Stop Go.Extern
set_option linter.unusedVariables false
set_option linter.unusedSimpArgs false
set_option maxRecDepth 100000

/-- The handle of the type 'error' in its variable. -/
def HandleAt (w : World) : Prop := w.cell? ⟨0, 0, none⟩ = some (.iface 99 (.agg #[.pointer (some ⟨1, 66, none⟩)]))
theorem HandleAt.lt {w : World} (h : HandleAt w) : 0 < w.heap.size := by
  rcases Nat.lt_or_ge 0 w.heap.size with h1 | h1
  · exact h1
  · simp [HandleAt, World.cell?, Array.getElem?_eq_none h1] at h
theorem HandleAt.below {B : Nat} {w w' : World} (h : HandleAt w) (hb : Below B w w') (h0 : 0 < B) : HandleAt w' := by
  unfold HandleAt at h ⊢
  rw [hb.cell (p := ⟨0, 0, none⟩) h0]
  exact h

theorem as_value (t : Addr) (w : World) : (ReflectliteValue.unpack (.iface 70 (.pointer (some t)))).run Tryd.prog w
    = .ok (.agg #[.pointer (some ⟨1, 70, none⟩), .pointer (some ⟨w.heap.size, 0, none⟩), .int .u64 150]) (w.alloc (.cells #[.pointer (some t)] 70)) := by kernel_rfl
theorem as_type (a : Addr) (w : World) : (ReflectliteValue.methodAny (ReflectliteValue.valueError "reflectlite.Value.Type" 0) (fun t _ _ _ => ReflectliteType.toType t) #[.agg #[.pointer (some ⟨1, 70, none⟩), .pointer (some a), .int .u64 150]]).run Tryd.prog w
    = .ok (.iface 99 (.agg #[.pointer (some ⟨1, 70, none⟩)])) w := by kernel_rfl
theorem as_mKind (h : Value) (w : World) : (Go.method 244 99 (.agg #[h]) "Kind").run Tryd.prog w = .ok (60, h) w := by kernel_rfl
theorem as_mElem (h : Value) (w : World) : (Go.method 244 99 (.agg #[h]) "Elem").run Tryd.prog w = .ok (71, .agg #[h]) w := by kernel_rfl
theorem as_mImpl (h : Value) (w : World) : (Go.method 244 99 (.agg #[h]) "Implements").run Tryd.prog w = .ok (72, .agg #[h]) w := by kernel_rfl
theorem as_mAssign (h : Value) (w : World) : (Go.method 244 99 (.agg #[h]) "AssignableTo").run Tryd.prog w = .ok (69, .agg #[h]) w := by kernel_rfl
theorem as_kindP (w : World) : ((ReflectliteType.abiMethod fun t => (fun a : Nat => Value.int IntKind.u8 (a : Int)) <$> Rtype.kind t) #[.pointer (some ⟨1, 70, none⟩)]).run Tryd.prog w = .ok (.int .u8 22) w := by kernel_rfl
theorem as_kindX (w : World) : ((ReflectliteType.abiMethod fun t => (fun a : Nat => Value.int IntKind.u8 (a : Int)) <$> Rtype.kind t) #[.pointer (some ⟨1, 68, none⟩)]).run Tryd.prog w = .ok (.int .u8 25) w := by kernel_rfl
theorem as_elem (w : World) : (ReflectliteType.method ReflectliteType.elem #[.agg #[.pointer (some ⟨1, 70, none⟩)]]).run Tryd.prog w = .ok (.iface 99 (.agg #[.pointer (some ⟨1, 68, none⟩)])) w := by kernel_rfl
theorem as_impl (w : World) : (ReflectliteType.relation "Implements" ReflectliteType.implements_ #[.agg #[.pointer (some ⟨1, 68, none⟩)], .iface 99 (.agg #[.pointer (some ⟨1, 66, none⟩)])]).run Tryd.prog w = .ok (.bool true) w := by kernel_rfl
theorem as_typeOf (v : Value) (w : World) : (ReflectliteType.typeOf #[.iface 68 v]).run Tryd.prog w = .ok (.iface 99 (.agg #[.pointer (some ⟨1, 68, none⟩)])) w := by kernel_rfl
theorem as_assign (w : World) : (ReflectliteType.relation "AssignableTo" ReflectliteType.assignableTo #[.agg #[.pointer (some ⟨1, 68, none⟩)], .iface 99 (.agg #[.pointer (some ⟨1, 68, none⟩)])]).run Tryd.prog w = .ok (.bool true) w := by kernel_rfl
theorem as_valueX (c : Int) (w : World) : (ReflectliteValue.unpack (.iface 68 (.agg #[.int .i64 c]))).run Tryd.prog w
    = .ok (.agg #[.pointer (some ⟨1, 68, none⟩), .pointer (some ⟨w.heap.size, 0, none⟩), .int .u64 153]) (w.alloc (.cells #[.int .i64 c] 68)) := by kernel_rfl
theorem as_m1 (z : Sem Value) (f : TypeId → Addr → Nat → Nat → Sem Value) (v : Value) :
    ReflectliteValue.method z f #[v] = (do match ← ReflectliteValue.parts v with | none => z | some (t, a, fl) => f t a fl (fl % 32)) := rfl
theorem as_partsP (a : Addr) (w : World) : (ReflectliteValue.parts (.agg #[.pointer (some ⟨1, 70, none⟩), .pointer (some a), .int .u64 150])).run Tryd.prog w = .ok (some (70, a, 150)) w := by kernel_rfl
theorem as_isNil (a p : Addr) (W : World) (ha : W.cell? a = some (.pointer (some p))) :
    (ReflectliteValue.method (ReflectliteValue.valueError "reflectlite.Value.IsNil" 0) ReflectliteValue.isNil #[.agg #[.pointer (some ⟨1, 70, none⟩), .pointer (some a), .int .u64 150]]).run Tryd.prog W = .ok (.bool false) W := by
  rw [as_m1]
  simp only [Sem.run_bind, as_partsP, Result.andThen]
  simp [ReflectliteValue.isNil, loadVar, isAgg, underlying, Tryd.underlying70, ha, Result.andThen]
theorem as_elemOf (w : World) : (Rtype.elem? 70).run Tryd.prog w = .ok (some 68) w := by kernel_rfl
theorem as_mk (p : Addr) (w : World) : (ReflectliteValue.mk 68 p ReflectliteValue.flagAddr).run Tryd.prog w = .ok (.agg #[.pointer (some ⟨1, 68, none⟩), .pointer (some p), .int .u64 409]) w := by kernel_rfl
theorem as_elemV (a p : Addr) (W : World) (ha : W.cell? a = some (.pointer (some p))) :
    (ReflectliteValue.method (ReflectliteValue.valueError "reflectlite.Value.Elem" 0) ReflectliteValue.elem #[.agg #[.pointer (some ⟨1, 70, none⟩), .pointer (some a), .int .u64 150]]).run Tryd.prog W
      = .ok (.agg #[.pointer (some ⟨1, 68, none⟩), .pointer (some p), .int .u64 409]) W := by
  rw [as_m1]
  simp only [Sem.run_bind, as_partsP, Result.andThen]
  simp [ReflectliteValue.elem, loadVar, isAgg, underlying, Tryd.underlying70, ha, Result.andThen, as_elemOf, as_mk]
theorem as_set1 (v x : Value) : ReflectliteValue.set #[v, x] = (do
    let (some (dst, a, fl), some (src, b, _)) := (← ReflectliteValue.parts v, ← ReflectliteValue.parts x)
      | unsupported (.noEntry "extern/(internal/reflectlite.Value).Set.zeroValue")
    if fl / ReflectliteValue.flagAddr % 2 == 0 then unsupported (.noEntry "extern/(internal/reflectlite.Value).Set.unaddressable")
    let val ← loadVar src b
    if ← Rtype.directlyAssignable dst src then storeVar dst a val
    else if ← Rtype.implements dst src then
      if (← Rtype.kind src) == 20 then
        match val with
        | .nilIface => unsupported (.noEntry "extern/reflectlite: a nil value of one interface type handed on as a value of another")
        | _ => storeVar dst a val
      else storeVar dst a (.iface src val)
    else panicString ("reflectlite.Set: value of type " ++ (← Rtype.spelt src) ++ " is not assignable to type " ++ (← Rtype.spelt dst))
    pure (.tuple #[])) := rfl
theorem as_partsA (a : Addr) (w : World) : (ReflectliteValue.parts (.agg #[.pointer (some ⟨1, 68, none⟩), .pointer (some a), .int .u64 409])).run Tryd.prog w = .ok (some (68, a, 409)) w := by kernel_rfl
theorem as_partsX (a : Addr) (w : World) : (ReflectliteValue.parts (.agg #[.pointer (some ⟨1, 68, none⟩), .pointer (some a), .int .u64 153])).run Tryd.prog w = .ok (some (68, a, 153)) w := by kernel_rfl
theorem as_direct (w : World) : (Rtype.directlyAssignable 68 68).run Tryd.prog w = .ok true w := by kernel_rfl
theorem as_size (w : World) : (sizeOf 68).run Tryd.prog w = .ok 1 w := by kernel_rfl
theorem as_set (tb bb : Nat) (c : Int) (old : Value) (W : World) (hb : W.cell? ⟨bb, 0, none⟩ = some (.int .i64 c)) (ht : W.cell? ⟨tb, 0, none⟩ = some old) (hf : W.frozen? ⟨tb, 0, none⟩ = false) :
    (ReflectliteValue.set #[.agg #[.pointer (some ⟨1, 68, none⟩), .pointer (some ⟨tb, 0, none⟩), .int .u64 409], .agg #[.pointer (some ⟨1, 68, none⟩), .pointer (some ⟨bb, 0, none⟩), .int .u64 153]]).run Tryd.prog W
      = .ok (.tuple #[]) (W.setCell ⟨tb, 0, none⟩ (.int .i64 c)) := by
  rw [as_set1]
  simp only [Sem.run_bind, as_partsA, as_partsX, Result.andThen]
  simp [ReflectliteValue.flagAddr, loadVar, isAgg, underlying, Tryd.underlying68, hb, Result.andThen, as_direct, storeVar, Value.cells, storeCells, Addr.add, as_size, loadCells, loadCellsFrom]
  rw [run_store Tryd.prog W ⟨tb, 0, none⟩ _ _ (by rfl)]
  simp [ht, hf]
end Go.Proofs.YtnncedndlhfdkabDoor

/-
  errors.As at a corruption; impl.faultCode.
-/
namespace Go.Proofs.YtnncedndlhfdkabDoor
open Go.ChangeShapes Go.WideShapes Go.ChangeAt Go.RowKit Go.Deep
open Go.Extern.Stop Go.Stop Go.Extern
set_option linter.unusedVariables false
set_option linter.unusedSimpArgs false
set_option maxRecDepth 100000

set_option maxHeartbeats 4000000 in
theorem as_hit (tb : Nat) (c : Int) (old : Value) (w : World) (hg : HandleAt w) (ht0 : w.cell? ⟨tb, 0, none⟩ = some old) (hf0 : w.frozen? ⟨tb, 0, none⟩ = false) :
    Calls Tryd.prog 25 #[.iface 68 (.agg #[.int .i64 c]), .iface 70 (.pointer (some ⟨tb, 0, none⟩))] w fun ev w' => ev = .returned (.bool true) ∧ ∃ w4 : World, Below w.heap.size w w4 ∧ w' = w4.setCell ⟨tb, 0, none⟩ (.int .i64 c) := by
  have h6 := @run_callFunc_extern Tryd.prog 33 _ (fun args => ReflectliteValue.unpack (args.getD 0 (.tuple #[]))) Tryd.func33 (by kernel_rfl) (by kernel_rfl) (by kernel_rfl) (by kernel_rfl)
  have h7 := @run_callFunc_extern Tryd.prog 34 _ (ReflectliteValue.methodAny (ReflectliteValue.valueError "reflectlite.Value.Type" 0) (fun t _ _ _ => ReflectliteType.toType t)) Tryd.func34 (by kernel_rfl) (by kernel_rfl) (by kernel_rfl) (by kernel_rfl)
  have h8 := @run_callFunc_extern Tryd.prog 35 _ (ReflectliteValue.method (ReflectliteValue.valueError "reflectlite.Value.IsNil" 0) ReflectliteValue.isNil) Tryd.func35 (by kernel_rfl) (by kernel_rfl) (by kernel_rfl) (by kernel_rfl)
  have h27 := @run_callFunc_extern Tryd.prog 60 _ (ReflectliteType.abiMethod fun t => do pure (.int .u8 (← Rtype.kind t))) Tryd.func60 (by kernel_rfl) (by kernel_rfl) (by kernel_rfl) (by kernel_rfl)
  have h37 := @run_callFunc_extern Tryd.prog 71 _ (ReflectliteType.method ReflectliteType.elem) Tryd.func71 (by kernel_rfl) (by kernel_rfl) (by kernel_rfl) (by kernel_rfl)
  have h38 := @run_callFunc_extern Tryd.prog 72 _ (ReflectliteType.relation "Implements" ReflectliteType.implements_) Tryd.func72 (by kernel_rfl) (by kernel_rfl) (by kernel_rfl) (by kernel_rfl)
  have h10 := @run_callFunc_extern Tryd.prog 42 _ ReflectliteType.typeOf Tryd.func42 (by kernel_rfl) (by kernel_rfl) (by kernel_rfl) (by kernel_rfl)
  have h35 := @run_callFunc_extern Tryd.prog 69 _ (ReflectliteType.relation "AssignableTo" ReflectliteType.assignableTo) Tryd.func69 (by kernel_rfl) (by kernel_rfl) (by kernel_rfl) (by kernel_rfl)
  have h11 := @run_callFunc_extern Tryd.prog 43 _ (ReflectliteValue.method (ReflectliteValue.valueError "reflectlite.Value.Elem" 0) ReflectliteValue.elem) Tryd.func43 (by kernel_rfl) (by kernel_rfl) (by kernel_rfl) (by kernel_rfl)
  have h12 := @run_callFunc_extern Tryd.prog 44 _ ReflectliteValue.set Tryd.func44 (by kernel_rfl) (by kernel_rfl) (by kernel_rfl) (by kernel_rfl)
  have tO := as_typeOf
  have mA := as_mAssign
  have a25 := as_assign
  have v25 := as_valueX
  have f6 := as_value
  have f7 := as_type
  have mK := as_mKind
  have mE := as_mElem
  have mI := as_mImpl
  have k27 := as_kindP
  have k25 := as_kindX
  have e27 := as_elem
  have i25 := as_impl
  obtain ⟨A1, hA1⟩ : ∃ A1 : Obj, A1 = .cells #[.pointer (some ⟨tb, 0, none⟩)] 70 := ⟨_, rfl⟩
  obtain ⟨A2, hA2⟩ : ∃ A2 : Obj, A2 = .cells #[.pointer (some ⟨1, 70, none⟩), .pointer (some ⟨w.heap.size, 0, none⟩), .int .u64 150] 81 := ⟨_, rfl⟩
  obtain ⟨A3, hA3⟩ : ∃ A3 : Obj, A3 = .cells #[.int .i64 c] 68 := ⟨_, rfl⟩
  have hlt := hg.lt
  have htl : tb < w.heap.size := by
    rcases Nat.lt_or_ge tb w.heap.size with h | h
    · exact h
    · simp [World.cell?, Array.getElem?_eq_none h] at ht0
  have b1 : Below w.heap.size w (w.alloc A1) := (Below.refl _ _).alloc (Nat.le_refl _) _
  have b2 : Below w.heap.size w ((w.alloc A1).alloc A2) := b1.alloc (by simp) _
  have b3 : Below w.heap.size w (((w.alloc A1).alloc A2).alloc A2) := b2.alloc (by simp; omega) _
  have b4 : Below w.heap.size w ((((w.alloc A1).alloc A2).alloc A2).alloc A3) := b3.alloc (by simp; omega) _
  have n8 := as_isNil ⟨w.heap.size, 0, none⟩ ⟨tb, 0, none⟩ ((w.alloc A1).alloc A2) (by rw [World.cell?_alloc_lt _ _ ⟨w.heap.size, 0, none⟩ (by simp), hA1]; simp)
  have hg2 : ((w.alloc A1).alloc A2).cell? ⟨0, 0, none⟩ = some (.iface 99 (.agg #[.pointer (some ⟨1, 66, none⟩)])) := (b2.cell (p := ⟨0, 0, none⟩) hlt).trans hg
  have el := as_elemV ⟨w.heap.size, 0, none⟩ ⟨tb, 0, none⟩ (((w.alloc A1).alloc A2).alloc A2) (by rw [World.cell?_alloc_lt _ _ ⟨w.heap.size, 0, none⟩ (by simp; omega), World.cell?_alloc_lt _ _ ⟨w.heap.size, 0, none⟩ (by simp), hA1]; simp)
  have st := as_set tb (w.heap.size + 1 + 1 + 1) c old ((((w.alloc A1).alloc A2).alloc A2).alloc A3)
    (by rw [hA3, World.cell?_alloc_at _ _ _ _ (by simp)]; rfl)
    ((b4.cell (p := ⟨tb, 0, none⟩) htl).trans ht0)
    ((b4.frozen (p := ⟨tb, 0, none⟩) htl).trans hf0)
  have HB : Hid (Below w.heap.size w ((((w.alloc A1).alloc A2).alloc A2).alloc A3)) := b4
  clear b1 b2 b3 b4
  subst hA1 hA2 hA3
  go_enter Tryd.func25, Tryd.ntmps25
  go_wp2
  refine wp_loop_rounds 1 ?_
  rw [rounds_succ]
  go_wp2
  go_ret
  exact ⟨rfl, _, HB.out, rfl⟩

end Go.Proofs.YtnncedndlhfdkabDoor

/-
  impl.faultCode; the deferred closures of DecodeRun.
-/
namespace Go.Proofs.YtnncedndlhfdkabDoor
open Go.ChangeShapes Go.WideShapes Go.ChangeAt Go.RowKit Go.Deep
set_option linter.unusedVariables false
set_option linter.unusedSimpArgs false
set_option maxRecDepth 100000

theorem as_assert (c : Int) (w : World) : (Instr.typeAssert (corrV c) 20 66 true).run Tryd.prog w = .ok (.tuple #[corrV c, .bool true]) w := by kernel_rfl
set_option maxHeartbeats 2000000 in
theorem faultCode_nil (w : World) : Calls Tryd.prog 12 #[.nilIface] w fun e w' => e = .returned (.int .i64 0) ∧ w' = w := by
  go_enter Tryd.func12, Tryd.ntmps12
  go_wp2_with fail
  go_ret
  exact ⟨rfl, rfl⟩
set_option maxHeartbeats 2000000 in
theorem faultCode_corr (c : Int) (w : World) (hg : HandleAt w) : Calls Tryd.prog 12 #[corrV c] w fun e w' => e = .returned (.int .i64 c) ∧ Below w.heap.size w w' := by
  have hta := as_assert
  have HG : Hid (HandleAt (w.alloc (.cells #[.int .i64 0] 68))) := hg.below ((Below.refl _ _).alloc (Nat.le_refl _) _) hg.lt
  clear hg
  go_enter Tryd.func12, Tryd.ntmps12
  go_wp2_with fail
  refine (as_hit w.heap.size c (.int .i64 0) _ HG.out (by simp) (by simp)).mono ?_
  rintro e w' ⟨rfl, w4, hb4, hw'⟩
  have hb5 : Below w.heap.size w w' := by
    rw [hw']
    exact (((Below.refl _ w).alloc (Nat.le_refl _) _).trans (hb4.mono (by simp))).setCell (p := ⟨w.heap.size, 0, none⟩) (Nat.le_refl _) _
  have hc : w'.cell? ⟨w.heap.size, 0, none⟩ = some (.int .i64 c) := by
    rw [hw']
    have h4 : w4.cell? ⟨w.heap.size, 0, none⟩ = some (.int .i64 0) := (hb4.cell (p := ⟨w.heap.size, 0, none⟩) (by simp)).trans (by simp)
    exact World.cell?_setCell_same' _ _ _ (by rw [h4]; rfl)
  clear hw' hb4
  go_wp2_with fail
  go_ret
  exact ⟨rfl, hb5⟩
end Go.Proofs.YtnncedndlhfdkabDoor

/-
  The checksum by a table (mathematics): eight steps of a byte at once.
-/
namespace Go.Proofs.YtnncedndlhfdkabDoor
set_option linter.unusedVariables false
set_option linter.unusedSimpArgs false

/-- One bit, as an exclusive or. -/
theorem sh_eq (c : BitVec 32) : sh c = (c >>> 1) ^^^ (if c.getLsbD 0 then 3988292384#32 else 0#32) := by
  unfold sh
  rw [bit0]
  by_cases h : c.toNat % 2 = 1 <;> simp [h]
theorem sh_xor (a b : BitVec 32) : sh (a ^^^ b) = sh a ^^^ sh b := by
  rw [sh_eq, sh_eq, sh_eq, BitVec.ushiftRight_xor_distrib, BitVec.getLsbD_xor]
  have h4 : ∀ x y p q : BitVec 32, (x ^^^ p) ^^^ (y ^^^ q) = (x ^^^ y) ^^^ (p ^^^ q) := by
    intro x y p q
    rw [BitVec.xor_assoc, BitVec.xor_assoc, ← BitVec.xor_assoc p y q, BitVec.xor_comm p y, BitVec.xor_assoc y p q]
  rw [h4]
  congr 1
  cases a.getLsbD 0 <;> cases b.getLsbD 0 <;> simp
theorem shN_xor (k : Nat) (a b : BitVec 32) : shN k (a ^^^ b) = shN k a ^^^ shN k b := by
  induction k with
  | zero => rfl
  | succ k ih => show sh (shN k (a ^^^ b)) = sh (shN k a) ^^^ sh (shN k b); rw [ih, sh_xor]
/-- Steps over zero bits are a shift. -/
theorem shN_zero : ∀ (k : Nat) (y : BitVec 32), (∀ i, i < k → y.getLsbD i = false) → shN k y = y >>> k
  | 0, y, _ => by simp [shN]
  | k + 1, y, h => by
    show sh (shN k y) = _
    rw [shN_zero k y (fun i hi => h i (by omega)), sh_eq, BitVec.getLsbD_ushiftRight, h (k + 0) (by omega), BitVec.shiftRight_add y k 1]
    simp
/-- The table's entry. -/
def tabE (i : Nat) : BitVec 32 := shN 8 (BitVec.ofNat 32 i)
theorem split8 (c : BitVec 32) (x : UInt8) : c ^^^ BitVec.ofNat 32 x.toNat = BitVec.ofNat 32 ((c.toNat % 256) ^^^ x.toNat) ^^^ ((c >>> 8) <<< 8) := by
  have hx := u8lt x
  apply BitVec.eq_of_getLsbD_eq
  intro i hi
  simp only [BitVec.getLsbD_xor, BitVec.getLsbD_ofNat, BitVec.getLsbD_shiftLeft, BitVec.getLsbD_ushiftRight, Nat.testBit_xor, hi, decide_true, Bool.true_and]
  rw [show (256 : Nat) = 2 ^ 8 from rfl, Nat.testBit_mod_two_pow]
  by_cases h8 : i < 8
  · simp [h8, BitVec.getLsbD]
  · have : x.toNat.testBit i = false := Nat.testBit_lt_two_pow (Nat.lt_of_lt_of_le hx (by
      have : 2 ^ 8 ≤ 2 ^ i := Nat.pow_le_pow_right (by omega) (by omega)
      omega))
    rw [this]
    simp [h8, show 8 + (i - 8) = i from by omega]
/-- One byte by the table. -/
theorem crcB_tab (c : BitVec 32) (x : UInt8) : crcB c x = tabE ((c.toNat % 256) ^^^ x.toNat) ^^^ (c >>> 8) := by
  have h : shN 8 ((c >>> 8) <<< 8) = c >>> 8 := by
    rw [shN_zero 8 _ (fun i hi => by simp [BitVec.getLsbD_shiftLeft, hi])]
    apply BitVec.eq_of_getLsbD_eq
    intro i hi
    simp only [BitVec.getLsbD_ushiftRight, BitVec.getLsbD_shiftLeft]
    by_cases h : 8 + i < 32
    · simp [h]
    · simp [h]
      rw [BitVec.getLsbD_of_ge c _ (by omega)]
  unfold crcB tabE
  rw [split8, shN_xor, h]
theorem tab_lt (c : BitVec 32) (x : UInt8) : (c.toNat % 256) ^^^ x.toNat < 256 := Nat.xor_lt_two_pow (n := 8) (by omega) (u8lt x)
end Go.Proofs.YtnncedndlhfdkabDoor

/-
  impl.makeSumTable, (*impl.sumTable).of, impl.Crc32.
-/
namespace Go.Proofs.YtnncedndlhfdkabDoor
open Go.ChangeShapes Go.WideShapes Go.ChangeAt Go.RowKit Go.Deep
set_option linter.unusedVariables false
set_option linter.unusedSimpArgs false
set_option maxRecDepth 100000

/-- The table with its first k entries. -/
def tabA (k : Nat) : Array Value := Array.ofFn (n := 256) fun i => if i.val < k then .int .u32 ((tabE i.val).toNat : Int) else .int .u32 0
theorem tabA_size (k : Nat) : (tabA k).size = 256 := by simp [tabA]
theorem tabA_zero : tabA 0 = Array.replicate 256 (.int .u32 0) := by
  apply Array.ext
  · simp [tabA]
  · intro i h1 h2; simp [tabA]
theorem tabA_at (k i : Nat) (hi : i < k) (h : i < 256) : (tabA k)[i]? = some (.int .u32 ((tabE i).toNat : Int)) := by
  rw [Array.getElem?_eq_getElem (by rw [tabA_size]; exact h)]
  simp [tabA, hi]
theorem tabA_next (k : Nat) (h : k < 256) : (tabA k).setIfInBounds k (.int .u32 ((tabE k).toNat : Int)) = tabA (k + 1) := by
  apply Array.ext
  · simp [tabA]
  · intro i h1 h2
    have h3 : i < 256 := by rw [tabA_size] at h2; exact h2
    simp only [tabA, Array.getElem_setIfInBounds, Array.getElem_ofFn]
    by_cases e : k = i
    · subst e; simp
    · rw [Array.getElem_setIfInBounds_ne (by simpa using h3) e]
      simp only [Array.getElem_ofFn]
      by_cases q : i < k
      · simp [q, show i < k + 1 from by omega]
      · simp [q, show ¬ i < k + 1 from by omega]
/-- The table lies there. -/
def TabAt (w : World) (b off : Nat) : Prop := ∀ i, i < 256 → w.cell? ⟨b, off + i, none⟩ = some (.int .u32 ((tabE i).toNat : Int))
theorem TabAt.below {B : Nat} {w w' : World} {b off : Nat} (h : TabAt w b off) (hb : Below B w w') (hlt : b < B) : TabAt w' b off := by
  intro i hi
  rw [hb.cell (p := ⟨b, off + i, none⟩) hlt]
  exact h i hi

theorem shr32 (s : BitVec 32) (k : Nat) (z : Int) (hz : z = ((2 ^ k : Nat) : Int)) : (s.toNat : Int) / z = ((s >>> k).toNat : Int) := by
  subst hz
  rw [BitVec.toNat_ushiftRight, Nat.shiftRight_eq_div_pow]; exact (Int.natCast_ediv _ _).symm
theorem xor8 (a b : Nat) (ha : a < 256) (hb : b < 256) : bits .xor .u8 (a : Int) (b : Int) = ((a ^^^ b : Nat) : Int) := by
  have h1 : BitVec.ofInt 8 (a : Int) = BitVec.ofNat 8 a := by simp
  have h2 : BitVec.ofInt 8 (b : Int) = BitVec.ofNat 8 b := by simp
  show IntKind.wrap .u8 ((BitVec.ofInt 8 (a : Int) ^^^ BitVec.ofInt 8 (b : Int)).toNat : Int) = _
  rw [h1, h2, BitVec.toNat_xor, BitVec.toNat_ofNat, BitVec.toNat_ofNat, Nat.mod_eq_of_lt ha, Nat.mod_eq_of_lt hb]
  have : a ^^^ b < 256 := Nat.xor_lt_two_pow (n := 8) ha hb
  simp only [IntKind.wrap, IntKind.bits, IntKind.signed, Bool.false_and, Bool.false_eq_true, if_false]
  omega

set_option maxHeartbeats 2000000 in
theorem tableOf_core (tb toff b off cap : Nat) (xs : List UInt8) (w : World) (hT : TabAt w tb toff) (hE : BysAt w b off xs) (hlen : xs.length ≤ maxLen) :
    Calls Tryd.prog 29 #[.pointer (some ⟨tb, toff, none⟩), .slice (some ⟨b, off, none⟩) xs.length cap] w fun e w' => e = .returned (.int .u32 ((crc xs).toNat : Int)) ∧ w' = w := by
  have HE : Hid (BysAt w b off xs ∧ TabAt w tb toff) := ⟨hE, hT⟩
  clear hE hT
  unfold maxLen at hlen
  go_enter Tryd.func29, Tryd.ntmps29
  go_wp2_with fail
  go_loopw [5, 10] (fun c i wr => ∃ (k : Nat), k ≤ xs.length ∧ c = .int .u32 ((crcTo 4294967295#32 (xs.take k)).toNat : Int) ∧ i = .int .i64 k ∧ wr = w) (fun _ i _ => xs.length - (intOf i).toNat)
  case atStart => exact ⟨0, Nat.zero_le _, rfl, rfl, rfl⟩
  case round =>
    obtain ⟨k, hk, rfl, rfl, rfl⟩ := hrel
    by_cases hlt : k < xs.length
    · obtain ⟨x, hx⟩ : ∃ x, xs[k]? = some x := ⟨_, List.getElem?_eq_getElem hlt⟩
      have c0 := HE.out.1 k x hx
      obtain ⟨s, hs⟩ : ∃ s, s = crcTo 4294967295#32 (xs.take k) := ⟨_, rfl⟩
      rw [← hs]
      obtain ⟨m, hm⟩ : ∃ m, m = (s.toNat % 256) ^^^ x.toNat := ⟨_, rfl⟩
      have HS : Hid (crcTo 4294967295#32 (xs.take (k + 1)) = tabE m ^^^ (s >>> 8)) := by
        show crcTo 4294967295#32 (xs.take (k + 1)) = tabE m ^^^ (s >>> 8)
        rw [List.take_add_one, hx, hs, hm]
        exact (crcTo_snoc _ _ _).trans (by rw [crcB_tab, hs])
      have hbx : bits BinOp.xor .u8 ((s.toNat : Int) % 256) (x.toNat : Int) = (m : Int) := by
        rw [hm]; exact xor8 (s.toNat % 256) x.toNat (by omega) (u8lt x)
      have hm2 : m < 256 := by rw [hm]; exact tab_lt s x
      have hmz : (0 : Int) ≤ (m : Int) ∧ (m : Int) < 256 := by omega
      have ct := HE.out.2 m hm2
      clear hx hs hm hm2
      go_wp2_with fail
      have hn : bits BinOp.xor .u32 ((tabE m).toNat : Int) ((s.toNat : Int) / 256) = ((crcTo 4294967295#32 (xs.take (k + 1))).toNat : Int) := by
        rw [HS.out]
        exact xor32 (tabE m) (s >>> 8) (shr32 s 8 256 rfl)
      exact ⟨⟨k + 1, by omega, by rw [hn], by go_num, trivial⟩, by simp [intOf]; omega⟩
    · obtain rfl : k = xs.length := by omega
      rw [List.take_of_length_le (Nat.le_refl _)]
      go_wp2_with fail
      go_ret
      refine ⟨?_, rfl⟩
      have hx : bits BinOp.xor .u32 IntKind.u32.max ((crcTo 4294967295#32 xs).toNat : Int) = ((crc xs).toNat : Int) := by
        unfold crc
        rw [BitVec.xor_comm]
        exact xor32 4294967295#32 (crcTo 4294967295#32 xs) rfl
      show Ending.returned (Value.int .u32 (bits BinOp.xor .u32 IntKind.u32.max ((crcTo 4294967295#32 xs).toNat : Int))) = _
      rw [hx]

theorem and1 (c : BitVec 32) : bits .and .u32 (c.toNat : Int) 1 = ((c.toNat % 2 : Nat) : Int) := by
  have h1 : BitVec.ofInt 32 (c.toNat : Int) = c := by simp
  show IntKind.wrap .u32 ((BitVec.ofInt 32 (c.toNat : Int) &&& BitVec.ofInt 32 1).toNat : Int) = _
  rw [h1, BitVec.toNat_and]
  have : (BitVec.ofInt 32 1).toNat = 1 := by decide
  rw [this, Nat.and_one_is_mod]
  simp only [IntKind.wrap, IntKind.bits, IntKind.signed, Bool.false_and, Bool.false_eq_true, if_false]
  omega

theorem Below.setRow {B : Nat} {a w : World} (h : Below B a w) {g : Nat} (hg : B ≤ g) (cs : Array Value) : Below B a (w.setRow g cs) :=
  h.trans ⟨rfl, rfl, rfl, by simp, fun k hk => setRow_other w g k cs (by omega)⟩
theorem tabA_one (k : Nat) : (tabA k).all (·.oneCell') = true := by
  rw [Array.all_eq_true_iff_forall_mem]
  intro v hv
  obtain ⟨i, hi, rfl⟩ := Array.getElem_of_mem hv
  simp only [tabA, Array.getElem_ofFn]
  split <;> rfl
theorem info_table : (Tryd.prog.info? 44).map (fun i => (i.zero, i.size)) = some (some (.agg (Array.replicate 256 (.int .u32 0))), 256) := by kernel_rfl

set_option maxHeartbeats 2000000 in
theorem makeTable_core (w : World) :
    Calls Tryd.prog 28 #[] w fun e w' => e = .returned (.agg (tabA 256)) ∧ Below w.heap.size w w' := by
  have hzv := (zero_of_info info_table).1
  go_enter Tryd.func28, Tryd.ntmps28
  go_wp2_with fail
  clear hzv
  rw [← tabA_zero]
  obtain ⟨W, hW⟩ : ∃ W, W = w.alloc (.cells (tabA 0) 44) := ⟨_, rfl⟩
  have hs : W.heap.size = w.heap.size + 1 := by rw [hW]; simp
  rw [← hW, ← hs]
  have HW : Hid (W = w.alloc (.cells (tabA 0) 44) ∧ W.heap.size = w.heap.size + 1) := ⟨hW, hs⟩
  clear hW hs
  go_loopw [4] (fun i wr => ∃ (k : Nat), k ≤ 256 ∧ i = .int .i64 k ∧ wr = W.alloc (.cells (tabA k) 44)) (fun i _ => 256 - (intOf i).toNat)
  case atStart => exact ⟨0, Nat.zero_le _, rfl, rfl⟩
  case round =>
    obtain ⟨k, hk, rfl, hwr⟩ := hrel
    by_cases hlt : k < 256
    · have z : (k : Int) < 256 := by omega
      have HB : Hid ((k : Int) = ((BitVec.ofNat 32 k).toNat : Int) ∧ k < 256) := by
        refine ⟨?_, hlt⟩
        rw [BitVec.toNat_ofNat]; omega
      have Hwr : Hid (wr = W.alloc (.cells (tabA k) 44)) := hwr
      clear hwr
      go_wp2_with fail
      go_loopw [3, 9] (fun c j wq => ∃ (q : Nat), q ≤ 8 ∧ c = .int .u32 ((shN q (BitVec.ofNat 32 k)).toNat : Int) ∧ j = .int .i64 q ∧ wq = W.alloc (.cells (tabA k) 44)) (fun _ j _ => 8 - (intOf j).toNat)
      case atStart => exact ⟨0, Nat.zero_le _, congrArg (Value.int .u32) HB.out.1, rfl, Hwr.out⟩
      case round =>
        clear Hwr
        obtain ⟨q, hq, rfl, rfl, hwr⟩ := hrel
        obtain ⟨c, hc⟩ : ∃ c, c = shN q (BitVec.ofNat 32 k) := ⟨_, rfl⟩
        have HQ : Hid (shN (q + 1) (BitVec.ofNat 32 k) = sh c) := by rw [hc]; exact rfl
        rw [← hc]
        by_cases h8 : q < 8
        · have Hwr : Hid (wr = W.alloc (.cells (tabA k) 44)) := hwr
          have z8 : (q : Int) < 8 := by omega
          have ha := and1 c
          clear hwr hc
          by_cases hp : c.toNat % 2 = 1
          · rw [hp] at ha
            have HP : Hid (c.toNat % 2 = 1) := hp
            clear hp
            go_wp2_with fail
            have hx : bits .xor .u32 ((c.toNat : Int) / 2) 3988292384 = ((sh c).toNat : Int) := by
              unfold sh
              rw [if_pos HP.out]
              rw [shr32 c 1 2 rfl]
              exact xor32 (c >>> 1) 3988292384#32 (by rfl)
            exact ⟨⟨q + 1, by omega, by rw [hx, HQ.out], by go_num, Hwr.out⟩, by simp [intOf]; omega⟩
          · rw [show c.toNat % 2 = 0 from by omega] at ha
            have HP : Hid (¬ c.toNat % 2 = 1) := hp
            clear hp
            go_wp2_with fail
            have hx : ((c.toNat : Int) / 2) = ((sh c).toNat : Int) := by
              unfold sh
              rw [if_neg HP.out]
              exact shr32 c 1 2 rfl
            exact ⟨⟨q + 1, by omega, by rw [hx, HQ.out], by go_num, Hwr.out⟩, by simp [intOf]; omega⟩
        · obtain rfl : q = 8 := by omega
          have HC : Hid (c = tabE k) := hc
          have hk2 : k < (tabA k).size := by rw [tabA_size]; exact HB.out.2
          obtain ⟨v, hv⟩ : ∃ v, (tabA k)[k]? = some v := ⟨_, Array.getElem?_eq_getElem hk2⟩
          rw [hwr]
          clear hwr hc hk2
          go_wp2_with fail
          refine ⟨⟨k + 1, by have := HB.out.2; omega, by go_num, ?_⟩, by have := HB.out.2; simp [intOf]; omega⟩
          rw [HC.out, tabA_next k HB.out.2]
    · obtain rfl : k = 256 := by omega
      rw [hwr]
      clear hwr
      go_upto_region 14 with fail
      have hw0 : W.heap[w.heap.size]? = some (.cells (tabA 0) 44 (0, 0)) := by rw [HW.out.1]; exact heap_alloc_new _ _
      have hw1 : (W.alloc (.cells (tabA 256) 44)).heap[w.heap.size]? = some (.cells (tabA 0) 44 (0, 0)) := by
        rw [Below.heap_alloc W _ w.heap.size (by rw [HW.out.2]; omega)]; exact hw0
      have hi : (Tryd.prog.info? 44).map (·.size) = some 256 := (zero_of_info info_table).2
      have hB : Below w.heap.size w ((W.alloc (.cells (tabA 256) 44)).setRow w.heap.size (tabA 256)) := by
        refine Below.setRow ?_ (Nat.le_refl _) _
        rw [HW.out.1]
        exact (((Below.refl _ w).alloc (Nat.le_refl _) _).alloc (by simp) _)
      apply wp_region_list
      refine wpList_load_row rfl 44 _ rfl W.heap.size rfl 44 (tabA 256) (0, 0) _ (heap_alloc_new W _) Tryd.underlying44 rfl (by rw [tabA_size]; exact hi) ?_
      refine wpList_store_row rfl 44 _ _ rfl w.heap.size (tabA 256) rfl rfl 44 (tabA 0) hw1 (by rw [tabA_size]; exact hi) (by rw [tabA_size, tabA_size]) (tabA_one _) ?_
      have hr := setRow_heap _ _ _ (tabA 256) _ _ hw1
      obtain ⟨W2, hW2⟩ : ∃ W2, W2 = (W.alloc (.cells (tabA 256) 44)).setRow w.heap.size (tabA 256) := ⟨_, rfl⟩
      rw [← hW2] at hB hr ⊢
      clear hW2 hw0 hw1
      apply wpList_nil
      go_wp2_with fail
      refine bodyPost_ret (v := .agg (tabA 256)) (results_cell_row rfl _ _ w.heap.size _ _ _ _ rfl hr Tryd.underlying44 rfl (by rw [tabA_size]; exact hi)) rfl ⟨rfl, hB⟩

end Go.Proofs.YtnncedndlhfdkabDoor

/-
  (*impl.byteReader).number, text.
-/
namespace Go.Proofs.YtnncedndlhfdkabDoor
open Go.ChangeShapes Go.WideShapes Go.ChangeAt Go.RowKit Go.Deep
set_option linter.unusedVariables false
set_option linter.unusedSimpArgs false
set_option maxRecDepth 100000

def RdE (w : World) (base g b : Nat) (xs : List UInt8) (code : Int) : Prop := ∃ off cap, RdAt w base g b off cap xs code
theorem RdE.chg {S : Nat → Prop} {w w' : World} {base g b : Nat} {xs : List UInt8} {code : Int} (h : RdE w base g b xs code) (hc : Chg S w w') (hg : ¬ S g) (hb : ¬ S b) : RdE w' base g b xs code := by
  obtain ⟨off, cap, h⟩ := h
  exact ⟨off, cap, h.chg hc hg hb⟩
/-- What a reading leaves: the value and the reader behind it, or the corruption. -/
def NumP (w : World) (base g b : Nat) (xs : List UInt8) (code : Int) (e : Ending) (w' : World) : Prop :=
  Chg (fun k => k = g) w w' ∧ ((∃ (n : Nat) (t : List UInt8), getNum xs = some (n, t) ∧ e = .returned (.int .u64 (n : Int)) ∧ n < 2 ^ 64 ∧ t.length ≤ xs.length ∧ RdE w' base g b t code) ∨ (getNum xs = none ∧ e = Corr code))
theorem and127 (x : UInt8) : bits .and .u8 (x.toNat : Int) 127 = ((x.toNat % 128 : Nat) : Int) := by
  have h1 : BitVec.ofInt 8 (x.toNat : Int) = BitVec.ofNat 8 x.toNat := by simp
  show IntKind.wrap .u8 ((BitVec.ofInt 8 (x.toNat : Int) &&& BitVec.ofInt 8 127).toNat : Int) = _
  rw [h1, BitVec.toNat_and]
  have h2 : (BitVec.ofInt 8 127).toNat = 127 := by decide
  have h3 := u8lt x
  rw [h2, BitVec.toNat_ofNat, Nat.mod_eq_of_lt h3]
  have h4 : x.toNat &&& 127 = x.toNat % 128 := Nat.and_two_pow_sub_one_eq_mod x.toNat 7
  rw [h4]
  simp only [IntKind.wrap, IntKind.bits, IntKind.signed, Bool.false_and, Bool.false_eq_true, if_false]
  omega

theorem pow7 (k : Nat) : 2 ^ (7 * k) = 128 ^ k := by rw [Nat.pow_mul]
theorem pow7i (k : Nat) : (2 : Int) ^ (7 * k) = ((128 ^ k : Nat) : Int) := by rw [← pow7]; norm_cast
theorem shl_fit {k y : Nat} (hk : k ≤ 9) (hy : y < 128) (h9 : k = 9 → y ≤ 1) : IntKind.u64.wrap ((y : Int) * 2 ^ (7 * k)) = ((y * 128 ^ k : Nat) : Int) := by
  rw [pow7i, ← Int.natCast_mul]
  refine wrap_u64 ?_
  by_cases q : k = 9
  · subst q
    have := h9 rfl
    have : y * 128 ^ 9 ≤ 1 * 128 ^ 9 := Nat.mul_le_mul_right _ this
    omega
  · have h1 := pow8 (k := k) (by omega)
    have h2 : y * 128 ^ k ≤ 127 * 72057594037927936 := Nat.mul_le_mul (by omega) h1
    omega
theorem shl_back {k y : Nat} (hk : k ≤ 9) (hy : y < 128) (h9 : k = 9 → y ≤ 1) : (IntKind.u64.wrap ((y : Int) * 2 ^ (7 * k)) / 2 ^ (7 * k) == (y : Int)) = true := by
  rw [shl_fit hk hy h9, pow7i, ← Int.natCast_ediv, Nat.mul_div_cancel _ (Nat.pow_pos (by omega))]
  simp
theorem shl_over {y : Nat} (hy : y < 128) (h9 : ¬ y ≤ 1) : (IntKind.u64.wrap ((y : Int) * 2 ^ (7 * 9)) / 2 ^ (7 * 9) == (y : Int)) = false := by
  rw [beq_eq_false_iff_ne]
  simp only [IntKind.wrap, IntKind.bits, IntKind.signed, Bool.false_and, Bool.false_eq_true, if_false]
  omega
theorem or_add {a y k : Nat} (ha : a < 128 ^ k) (hs : a + y * 128 ^ k < 2 ^ 64) : bits .or .u64 (a : Int) ((y * 128 ^ k : Nat) : Int) = ((a + y * 128 ^ k : Nat) : Int) := by
  have h1 : BitVec.ofInt 64 (a : Int) = BitVec.ofNat 64 a := by simp
  have h2 : BitVec.ofInt 64 ((y * 128 ^ k : Nat) : Int) = BitVec.ofNat 64 (y * 128 ^ k) := BitVec.ofInt_natCast _ _
  show IntKind.wrap .u64 ((BitVec.ofInt 64 (a : Int) ||| BitVec.ofInt 64 ((y * 128 ^ k : Nat) : Int)).toNat : Int) = _
  rw [h1, h2, BitVec.toNat_or, BitVec.toNat_ofNat, BitVec.toNat_ofNat, Nat.mod_eq_of_lt (by omega), Nat.mod_eq_of_lt (by omega)]
  have h3 : a ||| y * 128 ^ k = a + y * 128 ^ k := by
    rw [Nat.or_comm, ← pow7, ← Nat.shiftLeft_eq, ← Nat.shiftLeft_add_eq_or_of_lt (by rw [pow7]; exact ha), Nat.add_comm]
  rw [h3]
  exact wrap_u64 hs

set_option maxHeartbeats 2000000 in
theorem number_core (base g b : Nat) (xs : List UInt8) (code : Int) (w : World) (h : RdE w base g b xs code) :
    Calls Tryd.prog 37 #[.pointer (some ⟨g, 0, none⟩)] w fun e w' => NumP w base g b xs code e w' := by
  have HR : Hid (RdE w base g b xs code) := h
  clear h
  go_enter Tryd.func37, Tryd.ntmps37
  go_wp2_with fail
  go_loopw [3, 4] (fun n s wr => ∃ (k acc : Nat), k ≤ 10 ∧ NumTo xs k acc ∧ (k = 10 → getNum xs = none) ∧ n = .int .u64 (acc : Int) ∧ s = .int .i64 ((7 * k : Nat) : Int) ∧ RdE wr base g b (xs.drop k) code ∧ Chg (fun k => k = g) w wr) (fun _ s _ => 70 - (intOf s).toNat)
  case atStart => exact ⟨0, 0, by omega, numTo_zero xs, by omega, rfl, rfl, HR.out, Chg.refl _ _⟩
  case round =>
    obtain ⟨k, acc, hk, hN, hT, rfl, rfl, hR, hC⟩ := hrel
    have HN : Hid (NumTo xs k acc) := hN
    have HC : Hid (Chg (fun k => k = g) w wr) := hC
    obtain ⟨off, cap, hA⟩ := hR
    have HA : Hid (RdAt wr base g b off cap (xs.drop k) code) := hA
    have c1 := hA.box.cell (j := 1) rfl
    clear hN hC hA
    by_cases h10 : k = 10
    · have z10 : ¬ ((7 * k : Nat) : Int) < 64 := by omega
      have HF : Hid (getNum xs = none) := hT h10
      clear hT h10
      go_wp2_with fail
      exact ⟨rfl, HC.out, .inr ⟨HF.out, rfl⟩⟩
    · have z10 : ((7 * k : Nat) : Int) < 64 := by omega
      clear hT
      by_cases hlt : k < xs.length
      · obtain ⟨x, hx⟩ : ∃ x, xs[k]? = some x := ⟨_, List.getElem?_eq_getElem hlt⟩
        clear c1
        go_upto_region 5 with fail
        go_wp2_with (go_at_call 38; refine (take_ok base g b off cap 1 (xs.drop k) code _ HA.out (by rw [List.length_drop]; omega)).mono ?_; rintro e w1 ⟨rfl, hA1, hC1⟩; have c0 : w1.cell? ⟨b, off, none⟩ = some (ub x) := (by have := ((HA.out.bys.chgR hC1 HA.out.lt HA.out.ne) 0 x (by rw [List.getElem?_drop]; exact hx)); exact this))
        obtain ⟨y, hy⟩ : ∃ y, y = x.toNat % 128 := ⟨_, rfl⟩
        have hg1 : IntKind.u64.wrap (bits BinOp.and IntKind.u8 (x.toNat : Int) 127) = (y : Int) := by
          rw [and127, hy]; exact wrap_u64 (by omega)
        have hg2 : bits BinOp.and IntKind.u8 (x.toNat : Int) 127 = (y : Int) := by rw [and127, hy]
        rw [hg1, hg2]
        have HX : Hid (xs[k]? = some x ∧ y = x.toNat % 128) := ⟨hx, hy⟩
        have HA1 : Hid (RdAt w1 base g b (off + 1) (cap - 1) (xs.drop (k + 1)) code) := by
          have := hA1
          rw [List.drop_drop] at this
          exact this
        have HC1 : Hid (Chg (fun k => k = g) w w1) := HC.out.trans hC1
        have c1 := hA1.box.cell (j := 1) rfl
        have glt := hA1.box.lt.2
        have zy : (y : Int) < 128 := by omega
        clear hx hy hg1 hg2 hA1 hC1 c0 hlt
        by_cases hfit : k = 9 → y ≤ 1
        · have HT : Hid ((IntKind.u64.wrap ((y : Int) * 2 ^ (7 * k)) / 2 ^ (7 * k) == (y : Int)) = true) := shl_back (by omega) (by omega) hfit
          have HS : Hid (IntKind.u64.wrap ((y : Int) * 2 ^ (7 * k)) = ((y * 128 ^ k : Nat) : Int)) := shl_fit (by omega) (by omega) hfit
          have HO : Hid (acc < 128 ^ k ∧ acc + y * 128 ^ k < 2 ^ 64) := by
            refine ⟨HN.out.lt, ?_⟩
            have := HN.out.bound (y := y) (by omega) hfit
            rw [Nat.mod_eq_of_lt (by omega : y < 128)] at this
            exact this
          have HFit : Hid (k = 9 → y ≤ 1) := hfit
          clear hfit
          go_quiet ((rw [HT.out]; go_at_call 26; exact Calls.quiet_of_same (demand_yes _ _)))
          have HW : Hid (Chg (fun k => k = g) w (w1.drewN nq) ∧ RdAt (w1.drewN nq) base g b (off + 1) (cap - 1) (xs.drop (k + 1)) code) := ⟨HC1.out.trans (Chg.of_below (below_drewN (Below.refl _ _) _)), HA1.out.chg (S := fun _ => False) (Chg.of_below (below_drewN (Below.refl _ _) _)) (fun q => q) (fun q => q)⟩
          have c1' := HW.out.2.box.cell (j := 1) rfl
          obtain ⟨w2, hw2⟩ : ∃ w2, w2 = w1.drewN nq := ⟨_, rfl⟩
          rw [← hw2] at HW c1' ⊢
          clear hw2 c1 HC1 HA1 glt
          by_cases hx8 : x.toNat < 128
          · have zx : (x.toNat : Int) < 128 := by omega
            have hlast := HN.out.last HX.out.1 hx8 (by omega) (fun q => by have := HFit.out q; have := HX.out.2; omega)
            have HL : Hid ((0 < k ∧ x.toNat = 0 → getNum xs = none) ∧ (¬ (0 < k ∧ x.toNat = 0) → getNum xs = some (acc + y * 128 ^ k, xs.drop (k + 1)) ∧ acc + y * 128 ^ k < 2 ^ 64)) := by
              refine ⟨hlast.1, fun q => ?_⟩
              have := hlast.2 q
              rw [← HX.out.2] at this
              exact this
            clear hlast hx8
            by_cases hx0 : x.toNat = 0
            · have z0 : (x.toNat : Int) = 0 := by omega
              have HX0 : Hid (x.toNat = 0) := hx0
              clear hx0
              go_wp2_with (go_at_call 26; refine (demand_core _ _ _).mono ?_; rintro e w3 ⟨rfl, (⟨hc, rfl⟩ | ⟨hc, rfl⟩)⟩)
              · have hk0 : k = 0 := by simp at hc; omega
                have HF : Hid (getNum xs = some (acc + y * 128 ^ k, xs.drop (k + 1)) ∧ acc + y * 128 ^ k < 2 ^ 64) := HL.out.2 (fun q => by omega)
                go_ret
                refine ⟨HW.out.1, .inl ⟨acc + y * 128 ^ k, xs.drop (k + 1), HF.out.1, ?_, HF.out.2, by simp, ⟨_, _, HW.out.2⟩⟩⟩
                show Ending.returned (Value.int .u64 (bits BinOp.or .u64 (acc : Int) (IntKind.u64.wrap ((y : Int) * 2 ^ (7 * k))))) = _
                rw [HS.out, or_add HO.out.1 HO.out.2]
              · have hk0 : 0 < k := by
                  by_cases q : k = 0
                  · subst q; simp at hc
                  · omega
                exact ⟨rfl, HW.out.1, .inr ⟨HL.out.1 ⟨hk0, HX0.out⟩, rfl⟩⟩
            · have z0 : ¬ (x.toNat : Int) = 0 := by omega
              have HF : Hid (getNum xs = some (acc + y * 128 ^ k, xs.drop (k + 1)) ∧ acc + y * 128 ^ k < 2 ^ 64) := HL.out.2 (fun q => hx0 q.2)
              clear hx0
              go_wp2_with (go_at_call 26; refine (demand_yes _ _).mono ?_; rintro e w3 ⟨rfl, rfl⟩)
              go_ret
              refine ⟨HW.out.1, .inl ⟨acc + y * 128 ^ k, xs.drop (k + 1), HF.out.1, ?_, HF.out.2, by simp, ⟨_, _, HW.out.2⟩⟩⟩
              show Ending.returned (Value.int .u64 (bits BinOp.or .u64 (acc : Int) (IntKind.u64.wrap ((y : Int) * 2 ^ (7 * k))))) = _
              rw [HS.out, or_add HO.out.1 HO.out.2]
          · have zx : ¬ (x.toNat : Int) < 128 := by omega
            have HM : Hid (NumTo xs (k + 1) (acc + y * 128 ^ k) ∧ (k + 1 = 10 → getNum xs = none)) := by
              refine ⟨?_, fun q => ?_⟩
              · have := HN.out.more HX.out.1 hx8
                rw [← HX.out.2] at this
                exact this
              · obtain rfl : k = 9 := by omega
                exact HN.out.great HX.out.1 (by omega)
            clear hx8
            go_wp2_with fail
            rw [HS.out, or_add HO.out.1 HO.out.2]
            refine ⟨⟨k + 1, acc + y * 128 ^ k, by omega, HM.out.1, HM.out.2, rfl, ?_, ⟨_, _, HW.out.2⟩, HW.out.1⟩, by simp [intOf]; omega⟩
            go_num
        · obtain ⟨rfl, hy1⟩ : k = 9 ∧ ¬ y ≤ 1 := by
            by_cases q : k = 9
            · exact ⟨q, fun q2 => hfit (fun _ => q2)⟩
            · exact absurd (fun q2 => absurd q2 q) hfit
          have HT : Hid ((IntKind.u64.wrap ((y : Int) * 2 ^ (7 * 9)) / 2 ^ (7 * 9) == (y : Int)) = false) := shl_over (by omega) hy1
          have HF : Hid (getNum xs = none) := HN.out.great HX.out.1 (by have := HX.out.2; omega)
          have e1 : ∀ n : Out w1, n.u.cell? ⟨g, 1, none⟩ = some (.int .i64 code) := fun n => (n.out.cell (p := ⟨g, 1, none⟩) glt).trans c1
          clear hfit hy1 c1
          refine wp_region_demand 29 24 (.tmp 28) code [(24, .bool false), (28, .int .i64 code)] rfl (fun m => by kernel_rfl) (by kernel_rfl) (fun a' h => ⟨h (24, _) (by simp), h (28, _) (by simp)⟩) ?q ?_
          case q => exact fun a' w' hb hd => ⟨hd, HC1.out.trans (Chg.of_below hb), .inr ⟨HF.out, rfl⟩⟩
          intro m
          dsimp only [List.dropLast, fk, List.cons_append, List.nil_append]
          repeat (go_big_quiet_step (rfl))
          refine wpQuiet_nil ?_
          exact ⟨rfl, slots2 (congrArg Value.bool HT.out) rfl⟩
      · have HF : Hid (getNum xs = none) := HN.out.none (by omega)
        go_upto_region 5 with fail
        go_wp2_with (go_at_call 38; refine (take_bad base g b off cap 1 (xs.drop k) code _ HA.out (by rw [List.length_drop]; omega) (by omega)).mono ?_; rintro e w1 ⟨rfl, hB1⟩)
        exact ⟨rfl, HC.out.trans (Chg.of_below hB1), .inr ⟨HF.out, rfl⟩⟩
end Go.Proofs.YtnncedndlhfdkabDoor

/-
  The order of keys: spec.CompareKeys and impl.CompareKeys come to one Lean function.
-/
namespace Go.Proofs.YtnncedndlhfdkabDoor
open Go.ChangeShapes Go.WideShapes Go.ChangeAt Go.RowKit Go.Deep

/-- Two strings against each other. -/
def cB (a b : ByteArray) : Int := Lib.compareBytes a.data.toList b.data.toList

theorem compareBytes_less : ∀ a b : List UInt8, Op.bytesLess a b = true → Lib.compareBytes a b = -1
  | [], [] => by simp [Op.bytesLess]
  | [], _ :: _ => by simp [Lib.compareBytes]
  | _ :: _, [] => by simp [Op.bytesLess]
  | a :: x, b :: y => by
    intro h
    simp only [Op.bytesLess, Bool.or_eq_true, decide_eq_true_eq, Bool.and_eq_true, beq_iff_eq] at h
    unfold Lib.compareBytes
    rcases h with h | ⟨rfl, h⟩
    · rw [if_pos h]
    · have hn : ¬ a < a := by simp
      rw [if_neg hn, if_neg hn]; exact compareBytes_less x y h
theorem compareBytes_self : ∀ a : List UInt8, Lib.compareBytes a a = 0
  | [] => rfl
  | a :: x => by
    unfold Lib.compareBytes
    have hn : ¬ a < a := by simp
    rw [if_neg hn, if_neg hn]; exact compareBytes_self x
theorem compareBytes_more : ∀ a b : List UInt8, Op.bytesLess a b = false → (a == b) = false → Lib.compareBytes a b = 1
  | [], [] => by simp
  | [], _ :: _ => by simp [Op.bytesLess]
  | _ :: _, [] => by simp [Lib.compareBytes]
  | a :: x, b :: y => by
    intro h h2
    simp only [Op.bytesLess, Bool.or_eq_false_iff, decide_eq_false_iff_not] at h
    unfold Lib.compareBytes
    rw [if_neg h.1]
    by_cases hb : b < a
    · rw [if_pos hb]
    · rw [if_neg hb]
      have hab : a = b := by
        have h1 := h.1
        rw [UInt8.lt_iff_toNat_lt] at h1 hb
        exact UInt8.toNat_inj.1 (by omega)
      subst hab
      refine compareBytes_more x y ?_ ?_
      · simpa using h.2
      · simpa using h2
theorem compareBytes_vals (a b : List UInt8) : Lib.compareBytes a b = -1 ∨ Lib.compareBytes a b = 0 ∨ Lib.compareBytes a b = 1 := by
  cases h : Op.bytesLess a b
  · cases h2 : (a == b)
    · exact .inr (.inr (compareBytes_more a b h h2))
    · rw [beq_iff_eq] at h2; subst h2; exact .inr (.inl (compareBytes_self a))
  · exact .inl (compareBytes_less a b h)
theorem cB_vals (a b : ByteArray) : cB a b = -1 ∨ cB a b = 0 ∨ cB a b = 1 := compareBytes_vals _ _
theorem cB_less {a b : ByteArray} (h : Op.bytesLess a.toList b.toList = true) : cB a b = -1 := by
  rw [ByteArray.toList_eq, ByteArray.toList_eq] at h; exact compareBytes_less _ _ h
theorem cB_more {a b : ByteArray} (h : Op.bytesLess a.toList b.toList = false) (h2 : (a.toList == b.toList) = false) : cB a b = 1 := by
  rw [ByteArray.toList_eq, ByteArray.toList_eq] at h h2; exact compareBytes_more _ _ h h2
theorem cB_same {a b : ByteArray} (h2 : (a.toList == b.toList) = true) : cB a b = 0 := by
  rw [ByteArray.toList_eq, ByteArray.toList_eq, beq_iff_eq] at h2; unfold cB; rw [h2]; exact compareBytes_self _

def firstOf (a b : Int) : Int := if a = 0 then b else a
def kindCmp (k l : Int) : Int := if k = 2 then (if l = 2 then 0 else -1) else (if l = 2 then 1 else 0)
def tsCmp (t u : Int) : Int := if u < t then -1 else if t < u then 1 else 0
/-- The order of keys. -/
def keyCmp (a b : Ent) : Int := firstOf (cB a.row b.row) (firstOf (cB a.fam b.fam) (firstOf (cB a.qual b.qual) (firstOf (kindCmp a.kind b.kind) (tsCmp a.ts b.ts))))

theorem ret_int {k : IntKind} {a b : Int} (h : a = b) : Ending.returned (.int k a) = .returned (.int k b) := by rw [h]

end Go.Proofs.YtnncedndlhfdkabDoor

/-
  The order of keys: spec.CompareKeys and impl.CompareKeys come to 'keyCmp'.
-/
namespace Go.Proofs.YtnncedndlhfdkabDoor
open Go.ChangeShapes Go.WideShapes Go.ChangeAt Go.RowKit Go.Deep

def tri (x : Int) : Prop := x = -1 ∨ x = 0 ∨ x = 1
theorem tri_first {a b : Int} (h : tri a) (k : tri b) : tri (firstOf a b) := by
  unfold firstOf; split
  · exact k
  · exact h
theorem tri_kind (k l : Int) : tri (kindCmp k l) := by
  unfold kindCmp tri; repeat' split
  all_goals omega
theorem tri_ts (k l : Int) : tri (tsCmp k l) := by
  unfold tsCmp tri; repeat' split
  all_goals omega
theorem keyCmp_vals (a b : Ent) : keyCmp a b = -1 ∨ keyCmp a b = 0 ∨ keyCmp a b = 1 :=
  tri_first (cB_vals _ _) (tri_first (cB_vals _ _) (tri_first (cB_vals _ _) (tri_first (tri_kind _ _) (tri_ts _ _))))

def colCmp (a b : Ent) : Int := firstOf (cB a.row b.row) (firstOf (cB a.fam b.fam) (cB a.qual b.qual))

theorem firstOf_assoc (a b c : Int) : firstOf (firstOf a b) c = firstOf a (firstOf b c) := by
  unfold firstOf
  by_cases h : a = 0
  · simp [h]
  · simp [h]
theorem keyCmp_col (a b : Ent) : keyCmp a b = firstOf (colCmp a b) (firstOf (kindCmp a.kind b.kind) (tsCmp a.ts b.ts)) := by
  unfold keyCmp colCmp
  rw [firstOf_assoc, firstOf_assoc]
theorem keyCmp_ne {a b : Ent} (h : ¬ colCmp a b = 0) : keyCmp a b = colCmp a b := by
  rw [keyCmp_col]; unfold firstOf; rw [if_neg h]
theorem keyCmp_del1 {a b : Ent} (h : colCmp a b = 0) (h1 : a.kind = 2) (h2 : ¬ b.kind = 2) : keyCmp a b = -1 := by
  rw [keyCmp_col]; unfold firstOf kindCmp; simp [h, h1, h2]
theorem keyCmp_del2 {a b : Ent} (h : colCmp a b = 0) (h1 : ¬ a.kind = 2) (h2 : b.kind = 2) : keyCmp a b = 1 := by
  rw [keyCmp_col]; unfold firstOf kindCmp; simp [h, h1, h2]
theorem keyCmp_ts {a b : Ent} (h : colCmp a b = 0) (h1 : (a.kind = 2) ↔ (b.kind = 2)) : keyCmp a b = tsCmp a.ts b.ts := by
  rw [keyCmp_col]; unfold firstOf kindCmp
  by_cases h2 : a.kind = 2
  · simp [h, h2, h1.1 h2]
  · have h3 : ¬ b.kind = 2 := fun x => h2 (h1.2 x)
    simp [h, h2, h3]

def kt (a b : Ent) (K T : Int) : Prop := keyCmp a b = firstOf (cB a.row b.row) (firstOf (cB a.fam b.fam) (firstOf (cB a.qual b.qual) (firstOf K T)))
theorem kt_of {a b : Ent} {K T : Int} (hk : kindCmp a.kind b.kind = K) (ht : tsCmp a.ts b.ts = T) : kt a b K T := by
  unfold kt keyCmp; rw [hk, ht]
theorem kinds (a b : Ent) :
    ((a.kind == 2) = true ∧ (a.kind != 2) = false ∧ (b.kind == 2) = true ∧ (b.kind != 2) = false ∧ kindCmp a.kind b.kind = 0) ∨
    ((a.kind == 2) = true ∧ (a.kind != 2) = false ∧ (b.kind == 2) = false ∧ (b.kind != 2) = true ∧ kindCmp a.kind b.kind = -1) ∨
    ((a.kind == 2) = false ∧ (a.kind != 2) = true ∧ (b.kind == 2) = true ∧ (b.kind != 2) = false ∧ kindCmp a.kind b.kind = 1) ∨
    ((a.kind == 2) = false ∧ (a.kind != 2) = true ∧ (b.kind == 2) = false ∧ (b.kind != 2) = true ∧ kindCmp a.kind b.kind = 0) := by
  unfold kindCmp
  by_cases ha : a.kind = 2 <;> by_cases hb : b.kind = 2 <;> simp [ha, hb]
theorem tss (a b : Ent) :
    (b.ts < a.ts ∧ ¬ a.ts < b.ts ∧ tsCmp a.ts b.ts = -1) ∨ (¬ b.ts < a.ts ∧ a.ts < b.ts ∧ tsCmp a.ts b.ts = 1) ∨ (¬ b.ts < a.ts ∧ ¬ a.ts < b.ts ∧ tsCmp a.ts b.ts = 0) := by
  unfold tsCmp
  by_cases h1 : b.ts < a.ts
  · exact .inl ⟨h1, by omega, by simp [h1]⟩
  · by_cases h2 : a.ts < b.ts
    · exact .inr (.inl ⟨h1, h2, by simp [h1, h2]⟩)
    · exact .inr (.inr ⟨h1, h2, by simp [h1, h2]⟩)

end Go.Proofs.YtnncedndlhfdkabDoor

/-
  Runs that are valid: spec.ValidRun and impl.ValidRun.
-/
namespace Go.Proofs.YtnncedndlhfdkabDoor
open Go.ChangeShapes Go.WideShapes Go.ChangeAt Go.RowKit Go.Deep
set_option linter.unusedVariables false

def Ent.vld (e : Ent) : Bool := vE e.row e.fam e.qual e.kind e.val
/-- One column? -/
def sameCol (a b : Ent) : Bool := (a.row.toList == b.row.toList) && ((a.fam.toList == b.fam.toList) && (a.qual.toList == b.qual.toList))

theorem lift_in {P : Program} {f : Nat} {args : Array Value} {w : World} {v : Value} (W0 : World) (h : Below W0.heap.size W0 w) (c : Calls P f args w fun e w' => e = .returned v ∧ Below w.heap.size w w') :
    Calls P f args w fun e w' => e = .returned v ∧ Below W0.heap.size W0 w' ∧ (∀ b o, b < W0.heap.size → w'.cell? ⟨b, o, none⟩ = W0.cell? ⟨b, o, none⟩) := by
  refine c.mono ?_
  rintro e w' ⟨he, hb⟩
  have k := h.trans (hb.mono h.size)
  exact ⟨he, k, fun b o hlt => k.cell (p := ⟨b, o, none⟩) hlt⟩

/-- May 'p' stand right before 'e' in a run? -/
def okPair (p e : Ent) : Bool := (keyCmp p e == -1) && !((p.kind == 2) && ((e.kind == 2) && sameCol p e))

end Go.Proofs.YtnncedndlhfdkabDoor

/-
  Runs that are valid: the loops of spec.ValidRun, impl.validWrites, impl.ValidRun.
-/
namespace Go.Proofs.YtnncedndlhfdkabDoor
open Go.ChangeShapes Go.WideShapes Go.ChangeAt Go.RowKit Go.Deep
set_option linter.unusedVariables false

/-- All of them are valid, and not too many. -/
def GoodW (es : List Ent) : Prop := es.length ≤ 10000 ∧ ∀ e ∈ es, e.vld = true
/-- Each may stand right before the next. -/
def Pairs (es : List Ent) : Prop := ∀ i p e, es[i]? = some p → es[i + 1]? = some e → okPair p e = true
def GoodR (es : List Ent) : Prop := GoodW es ∧ Pairs es

theorem iffF {p : Prop} (h : ¬ p) : (false = true ↔ p) := ⟨fun x => Bool.noConfusion x, fun x => absurd x h⟩
theorem iffT {p : Prop} (h : p) : (true = true ↔ p) := ⟨fun _ => h, fun _ => rfl⟩
theorem vld_of_take {es : List Ent} {k : Nat} {e : Ent} (h : ∀ x ∈ es.take k, x.vld = true) (he : es[k]? = some e) (hv : e.vld = true) : ∀ x ∈ es.take (k + 1), x.vld = true := by
  intro x hx
  rw [List.take_add_one, he] at hx
  simp at hx
  rcases hx with hx | rfl
  · exact h x hx
  · exact hv

theorem pairs_short {es : List Ent} (h : es.length ≤ 1) : Pairs es := by
  intro i p e h1 h2
  have := (List.getElem?_eq_some_iff.1 h2).1
  omega

/-- The pairs below place 'k'. -/
def PairsTo (es : List Ent) (k : Nat) : Prop := ∀ i p e, i + 1 < k → es[i]? = some p → es[i + 1]? = some e → okPair p e = true
theorem pairsTo_succ {es : List Ent} {m : Nat} {p e : Ent} (h : PairsTo es (m + 1)) (hp : es[m]? = some p) (he : es[m + 1]? = some e) (ho : okPair p e = true) : PairsTo es (m + 1 + 1) := by
  intro i p' e' hi h1 h2
  by_cases hm : i = m
  · subst hm
    rw [hp] at h1; rw [he] at h2
    simp at h1 h2
    subst h1 h2
    exact ho
  · exact h i p' e' (by omega) h1 h2
theorem pairs_of_to {es : List Ent} {k : Nat} (h : PairsTo es k) (hk : es.length ≤ k) : Pairs es := by
  intro i p e h1 h2
  have := (List.getElem?_eq_some_iff.1 h2).1
  exact h i p e (by omega) h1 h2

end Go.Proofs.YtnncedndlhfdkabDoor

/-
  The body of a block, the file of a run (mathematics).
-/
namespace Go.Proofs.YtnncedndlhfdkabDoor
set_option linter.unusedVariables false
set_option linter.unusedSimpArgs false

/-- The bytes of a string. -/
abbrev bl (s : ByteArray) : List UInt8 := s.data.toList
theorem bl_len (s : ByteArray) : (bl s).length = s.size := by simp [bl]
theorem wf_u64 {t : Int} (h : (Lit.int .u64 t).wf = true) : 0 ≤ t ∧ t < 2 ^ 64 := by
  simp only [Lit.wf, Bool.and_eq_true, decide_eq_true_eq] at h
  have h1 : IntKind.u64.min = 0 := rfl
  have h2 : IntKind.u64.max = 18446744073709551615 := rfl
  omega
/-- One entry behind a row. -/
def entB (before : List UInt8) (e : Ent) : List UInt8 :=
  num (shared before (bl e.row)) ++ strB ((bl e.row).drop (shared before (bl e.row))) ++ strB (bl e.fam) ++ strB (bl e.qual) ++ num e.ts.toNat ++ num e.kind.toNat ++ strB (bl e.val)
def body : List UInt8 → List Ent → List UInt8
  | _, [] => []
  | b, e :: es => entB b e ++ body (bl e.row) es
/-- The row ahead. -/
def lastRow : List UInt8 → List Ent → List UInt8
  | b, [] => b
  | _, e :: es => lastRow (bl e.row) es
theorem body_snoc : ∀ (b : List UInt8) (es : List Ent) (e : Ent), body b (es ++ [e]) = body b es ++ entB (lastRow b es) e
  | b, [], e => by simp [body, lastRow]
  | b, x :: es, e => by rw [List.cons_append, body, body, body_snoc (bl x.row) es e, List.append_assoc]; rfl
theorem lastRow_snoc : ∀ (b : List UInt8) (es : List Ent) (e : Ent), lastRow b (es ++ [e]) = bl e.row
  | _, [], _ => rfl
  | _, x :: es, e => lastRow_snoc (bl x.row) es e
theorem vld_parts {e : Ent} (h : e.vld = true) : 1 ≤ e.row.size ∧ e.row.size ≤ 64 ∧ 1 ≤ e.fam.size ∧ e.fam.size ≤ 16 ∧ e.qual.size ≤ 64 ∧ e.val.size ≤ 200 ∧ 0 ≤ e.kind ∧ e.kind ≤ 2 := by
  unfold Ent.vld vE at h
  simp only [Bool.and_eq_true, decide_eq_true_eq] at h
  omega
theorem strB_len {s : List UInt8} (h : s.length < 2 ^ 64) : (strB s).length ≤ 10 + s.length := by
  unfold strB
  have := num_len64 h
  simp; omega
theorem num_kind {k : Nat} (h : k ≤ 2) : (num k).length = 1 := by rw [num_small (by omega)]; rfl
theorem entB_len {b : List UInt8} {e : Ent} (h : e.vld = true) (ht : e.ts.toNat < 2 ^ 64) : (entB b e).length ≤ 500 := by
  obtain ⟨h1, h2, h3, h4, h5, h6, h7, h8⟩ := vld_parts h
  have l0 := (shared_le b (bl e.row)).2
  rw [bl_len] at l0
  have l1 := num_len64 (n := shared b (bl e.row)) (by omega)
  have l2 := strB_len (s := (bl e.row).drop (shared b (bl e.row))) (by simp only [List.length_drop, bl_len]; omega)
  have l3 := strB_len (s := bl e.fam) (by rw [bl_len]; omega)
  have l4 := strB_len (s := bl e.qual) (by rw [bl_len]; omega)
  have l5 := num_len64 (n := e.ts.toNat) ht
  have l6 := num_len64 (n := e.kind.toNat) (by omega)
  have l7 := strB_len (s := bl e.val) (by rw [bl_len]; omega)
  simp only [List.length_drop, bl_len] at l2 l3 l4 l7
  unfold entB
  simp only [List.length_append]
  omega
theorem body_len : ∀ (es : List Ent) (b : List UInt8), (∀ e ∈ es, e.vld = true) → (∀ e ∈ es, e.ts.toNat < 2 ^ 64) → (body b es).length ≤ 500 * es.length
  | [], b, _, _ => by simp [body]
  | e :: es, b, h, k => by
    have h1 := entB_len (b := b) (h e (by simp)) (k e (by simp))
    have h2 := body_len es (bl e.row) (fun x hx => h x (by simp [hx])) (fun x hx => k x (by simp [hx]))
    simp only [body, List.length_append, List.length_cons]
    omega
theorem body_pos {b : List UInt8} {es : List Ent} (h : 0 < es.length) : 0 < (body b es).length := by
  cases es with
  | nil => simp at h
  | cons e es =>
    have := num_pos (shared b (bl e.row))
    simp only [body, entB, List.length_append]
    omega
end Go.Proofs.YtnncedndlhfdkabDoor

/-
  l2Str, l2Shared.
-/
namespace Go.Proofs.YtnncedndlhfdkabDoor
open Go.ChangeShapes Go.WideShapes Go.ChangeAt Go.RowKit Go.Deep
set_option linter.unusedVariables false
set_option linter.unusedSimpArgs false
set_option maxRecDepth 100000

theorem below_bytes (w : World) (s : ByteArray) : Below w.heap.size w (Lib.bytesWorld w 5 s) :=
  ⟨rfl, rfl, rfl, by rw [Lib.bytesWorld_size]; omega, fun k hk => Lib.bytesWorld_at_old w _ s k hk⟩
theorem bys_bytes (w : World) (s : ByteArray) : BysAt (Lib.bytesWorld w 5 s) w.heap.size 0 (bl s) := by
  intro i x hx
  have hi := (List.getElem?_eq_some_iff.1 hx).1
  rw [Nat.zero_add, Lib.bytesWorld_cell w _ s i (by rw [← bl_len]; exact hi), List.getD_eq_getElem?_getD, hx]
  rfl

set_option maxHeartbeats 1000000 in
theorem l2Shared_core (s t : ByteArray) (w : World) (hs : s.size ≤ maxLen) (ht : t.size ≤ maxLen) :
    Calls Tryd.prog 23 #[.string s, .string t] w fun e w' => e = .returned (.int .i64 (shared (bl s) (bl t) : Int)) ∧ Below w.heap.size w w' := by
  unfold maxLen at hs ht
  go_enter Tryd.func23, Tryd.ntmps23
  go_wp2_with fail
  go_loopw [5] (fun i wr => ∃ (k : Nat), k ≤ s.size ∧ k ≤ t.size ∧ i = .int .i64 k ∧ (bl s).take k = (bl t).take k ∧ Below w.heap.size w wr) (fun i _ => s.size - (intOf i).toNat)
  case atStart => exact ⟨0, Nat.zero_le _, Nat.zero_le _, rfl, rfl, Below.refl _ _⟩
  case round =>
    obtain ⟨k, hk1, hk2, rfl, htk, hb⟩ := hrel
    have HT : Hid ((bl s).take k = (bl t).take k) := htk
    clear htk
    by_cases h1 : k < s.size
    · by_cases h2 : k < t.size
      · obtain ⟨x, hx⟩ : ∃ x, (bl s)[k]? = some x := ⟨_, List.getElem?_eq_getElem (by rw [bl_len]; exact h1)⟩
        obtain ⟨y, hy⟩ : ∃ y, (bl t)[k]? = some y := ⟨_, List.getElem?_eq_getElem (by rw [bl_len]; exact h2)⟩
        have gx : s[k] = x := by
          have := hx
          rw [List.getElem?_eq_getElem (by rw [bl_len]; exact h1)] at this
          exact Option.some.inj this
        have gy : t[k] = y := by
          have := hy
          rw [List.getElem?_eq_getElem (by rw [bl_len]; exact h2)] at this
          exact Option.some.inj this
        have z1 : (k : Int) < (s.size : Int) := by omega
        have z2 : (k : Int) < (t.size : Int) := by omega
        have HX : Hid ((bl s)[k]? = some x ∧ (bl t)[k]? = some y) := ⟨hx, hy⟩
        clear hx hy
        by_cases hxy : x = y
        · subst hxy
          have HS : Hid ((bl s).take (k + 1) = (bl t).take (k + 1)) := by
            show (bl s).take (k + 1) = (bl t).take (k + 1)
            rw [List.take_add_one, List.take_add_one, HT.out, HX.out.1, HX.out.2]
          go_upto_region 2 with fail
          go_cut [24] (fun v wx => v = .bool true ∧ Below w.heap.size w wx)
          case first =>
            go_region
            all_goals go_wp2_with fail
            all_goals go_meet
            all_goals exact ⟨by simp, hb.drew⟩
          case rest =>
          obtain ⟨rfl, hbc⟩ := hcut
          go_wp2_with fail
          go_roundw
          case rel => exact ⟨k + 1, by omega, by omega, by go_num, HS.out, hbc⟩
          case measure => simp [intOf]; omega
        · have HS : Hid (shared (bl s) (bl t) = k) := by
            refine shared_iff _ _ k (by rw [bl_len]; exact hk1) (by rw [bl_len]; exact hk2) HT.out (.inr (.inr ?_))
            rw [HX.out.1, HX.out.2]
            exact fun q => hxy (Option.some.inj q)
          have hne : ¬ x.toNat = y.toNat := fun q => hxy (UInt8.toNat_inj.1 q)
          go_upto_region 2 with fail
          go_cut [24] (fun v wx => v = .bool false ∧ Below w.heap.size w wx)
          case first =>
            go_region
            all_goals go_wp2_with fail
            all_goals go_meet
            all_goals exact ⟨by simp; omega, hb.drew⟩
          case rest =>
          obtain ⟨rfl, hbc⟩ := hcut
          go_wp2_with fail
          go_ret
          exact ⟨by rw [HS.out]; rfl, hbc⟩
      · have HS : Hid (shared (bl s) (bl t) = k) := shared_iff _ _ k (by rw [bl_len]; exact hk1) (by rw [bl_len]; exact hk2) HT.out (.inr (.inl (by rw [bl_len]; omega)))
        have z1 : (k : Int) < (s.size : Int) := by omega
        have z2 : ¬ (k : Int) < (t.size : Int) := by omega
        go_upto_region 2 with fail
        go_cut [24] (fun v wx => v = .bool false ∧ Below w.heap.size w wx)
        case first =>
          go_region
          all_goals go_wp2_with fail
          all_goals go_meet
          all_goals exact ⟨rfl, hb.drew⟩
        case rest =>
        obtain ⟨rfl, hbc⟩ := hcut
        go_wp2_with fail
        go_ret
        exact ⟨by rw [HS.out]; rfl, hbc⟩
    · have HS : Hid (shared (bl s) (bl t) = k) := shared_iff _ _ k (by rw [bl_len]; exact hk1) (by rw [bl_len]; exact hk2) HT.out (.inl (by rw [bl_len]; omega))
      have z1 : ¬ (k : Int) < (s.size : Int) := by omega
      go_upto_region 2 with fail
      go_cut [24] (fun v wx => v = .bool false ∧ Below w.heap.size w wx)
      case first =>
        go_region
        all_goals go_wp2_with fail
        all_goals go_meet
        all_goals exact ⟨rfl, hb.drew⟩
      case rest =>
      obtain ⟨rfl, hbc⟩ := hcut
      go_wp2_with fail
      go_ret
      exact ⟨by rw [HS.out]; rfl, hbc⟩
end Go.Proofs.YtnncedndlhfdkabDoor

/-
  impl.sharedBytes.
-/
namespace Go.Proofs.YtnncedndlhfdkabDoor
open Go.ChangeShapes Go.WideShapes Go.ChangeAt Go.RowKit Go.Deep
set_option linter.unusedVariables false
set_option linter.unusedSimpArgs false
set_option maxRecDepth 100000

set_option maxHeartbeats 1000000 in
theorem implShared_core (s t : ByteArray) (w : World) (hs : s.size ≤ maxLen) (ht : t.size ≤ maxLen) :
    Calls Tryd.prog 45 #[.string s, .string t] w fun e w' => e = .returned (.int .i64 (shared (bl s) (bl t) : Int)) ∧ Below w.heap.size w w' := by
  unfold maxLen at hs ht
  go_enter Tryd.func45, Tryd.ntmps45
  go_wp2_with fail
  go_loopw [5] (fun i wr => ∃ (k : Nat), k ≤ s.size ∧ k ≤ t.size ∧ i = .int .i64 k ∧ (bl s).take k = (bl t).take k ∧ Below w.heap.size w wr) (fun i _ => s.size - (intOf i).toNat)
  case atStart => exact ⟨0, Nat.zero_le _, Nat.zero_le _, rfl, rfl, Below.refl _ _⟩
  case round =>
    obtain ⟨k, hk1, hk2, rfl, htk, hb⟩ := hrel
    have HT : Hid ((bl s).take k = (bl t).take k) := htk
    clear htk
    by_cases h1 : k < s.size
    · by_cases h2 : k < t.size
      · obtain ⟨x, hx⟩ : ∃ x, (bl s)[k]? = some x := ⟨_, List.getElem?_eq_getElem (by rw [bl_len]; exact h1)⟩
        obtain ⟨y, hy⟩ : ∃ y, (bl t)[k]? = some y := ⟨_, List.getElem?_eq_getElem (by rw [bl_len]; exact h2)⟩
        have gx : s[k] = x := by
          have := hx
          rw [List.getElem?_eq_getElem (by rw [bl_len]; exact h1)] at this
          exact Option.some.inj this
        have gy : t[k] = y := by
          have := hy
          rw [List.getElem?_eq_getElem (by rw [bl_len]; exact h2)] at this
          exact Option.some.inj this
        have z1 : (k : Int) < (s.size : Int) := by omega
        have z2 : (k : Int) < (t.size : Int) := by omega
        have HX : Hid ((bl s)[k]? = some x ∧ (bl t)[k]? = some y) := ⟨hx, hy⟩
        clear hx hy
        by_cases hxy : x = y
        · subst hxy
          have HS : Hid ((bl s).take (k + 1) = (bl t).take (k + 1)) := by
            show (bl s).take (k + 1) = (bl t).take (k + 1)
            rw [List.take_add_one, List.take_add_one, HT.out, HX.out.1, HX.out.2]
          go_upto_region 2 with fail
          go_cut [24] (fun v wx => v = .bool true ∧ Below w.heap.size w wx)
          case first =>
            go_region
            all_goals go_wp2_with fail
            all_goals go_meet
            all_goals exact ⟨by simp, hb.drew⟩
          case rest =>
          obtain ⟨rfl, hbc⟩ := hcut
          go_wp2_with fail
          go_roundw
          case rel => exact ⟨k + 1, by omega, by omega, by go_num, HS.out, hbc⟩
          case measure => simp [intOf]; omega
        · have HS : Hid (shared (bl s) (bl t) = k) := by
            refine shared_iff _ _ k (by rw [bl_len]; exact hk1) (by rw [bl_len]; exact hk2) HT.out (.inr (.inr ?_))
            rw [HX.out.1, HX.out.2]
            exact fun q => hxy (Option.some.inj q)
          have hne : ¬ x.toNat = y.toNat := fun q => hxy (UInt8.toNat_inj.1 q)
          go_upto_region 2 with fail
          go_cut [24] (fun v wx => v = .bool false ∧ Below w.heap.size w wx)
          case first =>
            go_region
            all_goals go_wp2_with fail
            all_goals go_meet
            all_goals exact ⟨by simp; omega, hb.drew⟩
          case rest =>
          obtain ⟨rfl, hbc⟩ := hcut
          go_wp2_with fail
          go_ret
          exact ⟨by rw [HS.out]; rfl, hbc⟩
      · have HS : Hid (shared (bl s) (bl t) = k) := shared_iff _ _ k (by rw [bl_len]; exact hk1) (by rw [bl_len]; exact hk2) HT.out (.inr (.inl (by rw [bl_len]; omega)))
        have z1 : (k : Int) < (s.size : Int) := by omega
        have z2 : ¬ (k : Int) < (t.size : Int) := by omega
        go_upto_region 2 with fail
        go_cut [24] (fun v wx => v = .bool false ∧ Below w.heap.size w wx)
        case first =>
          go_region
          all_goals go_wp2_with fail
          all_goals go_meet
          all_goals exact ⟨rfl, hb.drew⟩
        case rest =>
        obtain ⟨rfl, hbc⟩ := hcut
        go_wp2_with fail
        go_ret
        exact ⟨by rw [HS.out]; rfl, hbc⟩
    · have HS : Hid (shared (bl s) (bl t) = k) := shared_iff _ _ k (by rw [bl_len]; exact hk1) (by rw [bl_len]; exact hk2) HT.out (.inl (by rw [bl_len]; omega))
      have z1 : ¬ (k : Int) < (s.size : Int) := by omega
      go_upto_region 2 with fail
      go_cut [24] (fun v wx => v = .bool false ∧ Below w.heap.size w wx)
      case first =>
        go_region
        all_goals go_wp2_with fail
        all_goals go_meet
        all_goals exact ⟨rfl, hb.drew⟩
      case rest =>
      obtain ⟨rfl, hbc⟩ := hcut
      go_wp2_with fail
      go_ret
      exact ⟨by rw [HS.out]; rfl, hbc⟩
end Go.Proofs.YtnncedndlhfdkabDoor

/-
  spec.l2GetNum.
-/
namespace Go.Proofs.YtnncedndlhfdkabDoor
open Go.ChangeShapes Go.WideShapes Go.ChangeAt Go.RowKit Go.Deep
set_option linter.unusedVariables false
set_option linter.unusedSimpArgs false
set_option maxRecDepth 100000

theorem wrapU {x : Int} (h0 : 0 ≤ x) (h1 : x < 18446744073709551616) : IntKind.u64.wrap x = x := by
  simp only [IntKind.wrap, IntKind.bits, IntKind.signed, Bool.false_and, Bool.false_eq_true, if_false]
  omega
/-- What a reader has before it. -/
def rd (xs : List UInt8) (i : Nat) (bad : Bool) : Option (List UInt8) := if bad then none else some (xs.drop i)
abbrev rdV (b off cap n i : Nat) (bad : Bool) : Value := .agg #[.slice (some ⟨b, off, none⟩) n cap, .int .i64 (i : Int), .bool bad]
/-- A number read. -/
def GotNum (xs : List UInt8) (i : Nat) (bad : Bool) (i' : Nat) (bad' : Bool) (n : Nat) : Prop :=
  i' ≤ xs.length ∧ n < 2 ^ 64 ∧ ((bad' = true ∧ (rd xs i bad).bind getNum = none) ∨ (bad' = false ∧ (rd xs i bad).bind getNum = some (n, xs.drop i')))

/-- .. as the call says it. -/
def NumPost (w : World) (b off cap : Nat) (xs : List UInt8) (i : Nat) (bad : Bool) (r : Ending) (w' : World) : Prop :=
  ∃ (i' : Nat) (bad' : Bool) (n : Nat), r = .returned (.tuple #[rdV b off cap xs.length i' bad', .int .u64 (n : Int)]) ∧ GotNum xs i bad i' bad' n ∧ Below w.heap.size w w'
set_option maxHeartbeats 8000000 in
theorem l2GetNum_core (b off cap : Nat) (xs : List UInt8) (i : Nat) (bad : Bool) (w : World) (hx : BysAt w b off xs) (hb : b < w.heap.size) (hlen : xs.length ≤ 2 ^ 30) (hi : i ≤ xs.length) :
    Calls Tryd.prog 21 #[rdV b off cap xs.length i bad] w fun r w' => NumPost w b off cap xs i bad r w' := by
  have HX : Hid (BysAt w b off xs) := hx
  clear hx
  have bel : ∀ (c1 c2 : Array Value), Below w.heap.size w ((w.alloc (Obj.cells c1 59)).alloc (Obj.cells c2 59)) := fun c1 c2 => ((Below.refl _ _).alloc (Nat.le_refl _) _).alloc (by simp) _
  have HBel : Hid (∀ (c1 c2 : Array Value), Below w.heap.size w ((w.alloc (Obj.cells c1 59)).alloc (Obj.cells c2 59))) := bel
  clear bel
  cases bad
  case true =>
    go_enter Tryd.func21, Tryd.ntmps21
    go_upto_region 4 with fail
    go_loopw [4, 5, 6] (fun n p k wr => n = .int .u64 0 ∧ p = .int .u64 1 ∧ k = .int .i64 0 ∧ wr = ((w.alloc (Obj.cells #[.slice (some ⟨b, off, none⟩) xs.length cap, .int .i64 (i : Int), .bool true] 59)).alloc (Obj.cells #[.slice none 0 0, .int .i64 0, .bool false] 59))) (fun _ _ _ _ => 0)
    case atStart => exact ⟨rfl, rfl, rfl, rfl⟩
    case round =>
      obtain ⟨rfl, rfl, rfl, rfl⟩ := hrel
      go_wp2_with fail
      exact bodyPost_ret (v := .tuple #[rdV b off cap xs.length i true, .int .u64 0]) (by simp [results, Tryd.results21, go_sem]) rfl ⟨i, true, 0, rfl, ⟨hi, by omega, .inl ⟨rfl, rfl⟩⟩, HBel.out _ _⟩
  case false =>
    go_enter Tryd.func21, Tryd.ntmps21
    go_upto_region 4 with fail
    go_loopw [4, 5, 6] (fun n p k wr => ∃ (q acc pl j : Nat), q ≤ 9 ∧ n = .int .u64 (acc : Int) ∧ p = .int .u64 (pl : Int) ∧ k = .int .i64 (q : Int) ∧ pl = 128 ^ q ∧ j = i + q ∧ NumTo (xs.drop i) q acc ∧ wr = ((w.alloc (Obj.cells #[.slice (some ⟨b, off, none⟩) xs.length cap, .int .i64 (j : Int), .bool false] 59)).alloc (Obj.cells #[.slice none 0 0, .int .i64 0, .bool false] 59))) (fun _ _ k _ => 10 - (intOf k).toNat)
    case atStart => exact ⟨0, 0, 1, i, by omega, rfl, rfl, rfl, rfl, rfl, numTo_zero _, rfl⟩
    case round =>
      obtain ⟨q, acc, pl, j, hq, rfl, rfl, rfl, hpl, hj, hN, rfl⟩ := hrel
      have HN : Hid (NumTo (xs.drop i) q acc) := hN
      have HPl : Hid (pl = 128 ^ q) := hpl
      have HJ : Hid (j = i + q) := hj
      have hjl : j ≤ xs.length := by have := hN.len; rw [List.length_drop] at this; omega
      have q10 : (q : Int) < 10 := by omega
      by_cases hlt : j < xs.length
      · obtain ⟨x, hx⟩ : ∃ x, xs[j]? = some x := ⟨_, List.getElem?_eq_getElem hlt⟩
        have hxd : (xs.drop i)[q]? = some x := by rw [List.getElem?_drop, ← hj]; exact hx
        have c0 : ∀ o1 o2, ((w.alloc o1).alloc o2).cell? ⟨b, off + j, none⟩ = some (ub x) := fun o1 o2 => by
          have hbb : Below w.heap.size w ((w.alloc o1).alloc o2) := ((Below.refl _ _).alloc (Nat.le_refl _) _).alloc (by simp) _
          rw [hbb.cell (p := ⟨b, off + j, none⟩) hb]
          exact HX.out j x hx
        have HXd : Hid ((xs.drop i)[q]? = some x) := hxd
        obtain ⟨y, hy⟩ : ∃ y : Nat, x.toNat = y := ⟨_, rfl⟩
        have hy2 : y < 256 := by rw [← hy]; exact u8lt x
        have HY : Hid (x.toNat = y) := hy
        rw [show ub x = Value.int .u8 (y : Int) by rw [← hy]] at c0
        have z1 : ¬ (xs.length : Int) ≤ (j : Int) := by omega
        have z0 : (j : Int) < (xs.length : Int) := by omega
        clear hx hxd hpl hj hN hy
        by_cases h9 : q = 9 ∧ 1 < y
        · obtain ⟨rfl, hy1⟩ := h9
          have z3 : (1 : Int) < (y : Int) := by omega
          have HF : Hid (getNum (xs.drop i) = none) := HN.out.great HXd.out (by rw [HY.out]; exact hy1)
          have hj1 : j + 1 ≤ xs.length := hlt
          go_wp2_with fail
          exact bodyPost_ret (v := .tuple #[rdV b off cap xs.length (j + 1) true, .int .u64 0]) (by simp [results, Tryd.results21, go_sem]) rfl ⟨j + 1, true, 0, rfl, ⟨hj1, by omega, .inl ⟨rfl, HF.out⟩⟩, HBel.out _ _⟩
        · have hj1 : j + 1 ≤ xs.length := hlt
          have hp9 : pl ≤ 9223372036854775808 := by rw [HPl.out]; exact pow9 hq
          have hbd : acc + y % 128 * pl < 2 ^ 64 := by rw [HPl.out]; exact HN.out.bound hq (fun h => by omega)
          obtain ⟨P, hP⟩ : ∃ P : Nat, P = y % 128 * pl := ⟨_, rfl⟩
          have e1 : (y : Int) % 128 * (pl : Int) = (P : Int) := by rw [hP]; push_cast; rfl
          have e2 : IntKind.u64.wrap ((y : Int) % 128 * (pl : Int)) = (P : Int) := by rw [e1]; exact wrapU (by omega) (by omega)
          have e3 : IntKind.u64.wrap ((acc : Int) + (P : Int)) = ((acc + P : Nat) : Int) := by rw [wrapU (by omega) (by omega)]; omega
          have HE : Hid (IntKind.u64.wrap ((acc : Int) + IntKind.u64.wrap ((y : Int) % 128 * (pl : Int))) = ((acc + P : Nat) : Int)) := by rw [e2, e3]; exact rfl
          have HP : Hid (acc + P = acc + x.toNat % 128 * 128 ^ q) := by rw [hP, HPl.out, HY.out]; exact rfl
          have hbd2 : acc + P < 2 ^ 64 := by omega
          clear hP e1 e2 e3 hbd
          by_cases h8 : y < 128
          · have z8 : (y : Int) < 128 := by omega
            obtain ⟨L1, L2⟩ := HN.out.last HXd.out (by rw [HY.out]; exact h8) hq (fun h => by rw [HY.out]; omega)
            rw [HY.out] at L1 L2
            have HL : Hid ((0 < q ∧ y = 0 → getNum (xs.drop i) = none) ∧ (¬ (0 < q ∧ y = 0) → getNum (xs.drop i) = some (acc + P, xs.drop (j + 1)))) := by
              refine ⟨L1, fun h => ?_⟩
              rw [(L2 h).1, HP.out, HY.out, List.drop_drop, HJ.out, Nat.add_assoc]
            clear L1 L2
            have z9 : ¬ ((q : Int) = 9 ∧ (1 : Int) < (y : Int)) := by omega
            by_cases hz : 0 < q ∧ y = 0
            · have HZ : Hid (getNum (xs.drop i) = none) := HL.out.1 hz
              obtain ⟨hz1, rfl⟩ := hz
              have z10 : (0 : Int) < (q : Int) := by omega
              clear HL
              go_wp2_with fail
              all_goals exact bodyPost_ret (v := .tuple #[rdV b off cap xs.length (j + 1) true, .int .u64 (acc : Int)]) (by simp [results, Tryd.results21, go_sem]) rfl ⟨j + 1, true, acc, rfl, ⟨hj1, by omega, .inl ⟨rfl, HZ.out⟩⟩, HBel.out _ _⟩
            · have HZ : Hid (getNum (xs.drop i) = some (acc + P, xs.drop (j + 1))) := HL.out.2 hz
              clear HL
              by_cases hy0 : y = 0
              · obtain rfl : q = 0 := by omega
                have hac : acc = 0 := by have := HN.out.lt; simp at this; exact this
                have hP0 : P = 0 := by have := HP.out; rw [HY.out, hy0] at this; omega
                subst hy0 hac hP0
                clear HE
                go_wp2_with fail
                all_goals exact bodyPost_ret (v := .tuple #[rdV b off cap xs.length (j + 1) false, .int .u64 0]) (by simp [results, Tryd.results21, go_sem]) rfl ⟨j + 1, false, 0, rfl, ⟨hj1, by omega, .inr ⟨rfl, HZ.out⟩⟩, HBel.out _ _⟩
              · have zy : ¬ (y : Int) = 0 := by omega
                by_cases hq9 : q = 9
                · subst hq9
                  have z11 : ¬ (1 : Int) < (y : Int) := by omega
                  go_wp2_with fail
                  all_goals exact bodyPost_ret (v := .tuple #[rdV b off cap xs.length (j + 1) false, .int .u64 ((acc + P : Nat) : Int)]) (by simp [results, Tryd.results21, go_sem, HE.out]) rfl ⟨j + 1, false, acc + P, rfl, ⟨hj1, hbd2, .inr ⟨rfl, HZ.out⟩⟩, HBel.out _ _⟩
                · have z11 : ¬ (q : Int) = 9 := by omega
                  go_wp2_with fail
                  all_goals exact bodyPost_ret (v := .tuple #[rdV b off cap xs.length (j + 1) false, .int .u64 ((acc + P : Nat) : Int)]) (by simp [results, Tryd.results21, go_sem, HE.out]) rfl ⟨j + 1, false, acc + P, rfl, ⟨hj1, hbd2, .inr ⟨rfl, HZ.out⟩⟩, HBel.out _ _⟩
          · have z8 : ¬ (y : Int) < 128 := by omega
            have hq9 : ¬ (q : Int) = 9 := by omega
            have HNm := HN.out.more HXd.out (by rw [HY.out]; exact h8)
            rw [← HP.out] at HNm
            have HNm2 : Hid (NumTo (xs.drop i) (q + 1) (acc + P)) := HNm
            have e4 : IntKind.u64.wrap ((pl : Int) * 128) = ((pl * 128 : Nat) : Int) := by
              have : pl ≤ 72057594037927936 := by rw [HPl.out]; exact pow8 (by omega)
              rw [wrapU (by omega) (by omega)]; omega
            have HE4 : Hid (IntKind.u64.wrap ((pl : Int) * 128) = ((pl * 128 : Nat) : Int)) := e4
            clear HNm e4
            go_wp2_with fail
            exact ⟨⟨q + 1, acc + P, pl * 128, j + 1, by omega, by rw [HE.out], by rw [HE4.out], by go_num, by rw [HPl.out, Nat.pow_succ], by rw [HJ.out]; omega, HNm2.out, by go_num⟩, by simp [intOf]; omega⟩
      · have z1 : (xs.length : Int) ≤ (j : Int) := by omega
        have HF : Hid (getNum (xs.drop i) = none) := HN.out.none (by rw [List.length_drop]; have := HJ.out; omega)
        clear hpl hj hN
        go_wp2_with fail
        exact bodyPost_ret (v := .tuple #[rdV b off cap xs.length j true, .int .u64 0]) (by simp [results, Tryd.results21, go_sem]) rfl ⟨j, true, 0, rfl, ⟨hjl, by omega, .inl ⟨rfl, HF.out⟩⟩, HBel.out _ _⟩
end Go.Proofs.YtnncedndlhfdkabDoor

