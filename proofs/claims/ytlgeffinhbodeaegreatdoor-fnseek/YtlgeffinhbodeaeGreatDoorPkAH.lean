import Derived.WalkLawsBesides
import Derived.LaidEql
import Derived.Stop.Asserts
import Derived.RowKitTokens
import Derived.Recover
import Derived.Deep.WholeRow
import Derived.Laws.Rows
import Derived.Laws.Tables
import Derived.Lib.SlBytesRow
import Derived.Test.YtlgeffinhbodeaeGreatDoorPkAB
import Derived.Test.YtlgeffinhbodeaeGreatDoorPkAA
import Derived.Test.YtlgeffinhbodeaeGreatDoorPkAG
import Derived.Test.YtlgeffinhbodeaeGreatDoorPkAD
import Derived.Test.YtlgeffinhbodeaeGreatDoorPkAC
/-
  impl.demand, (*impl.byteReader).take, end.
-/
namespace Go.Proofs.YtlgeffinhbodeaeGreatDoor
open Go.ChangeShapes Go.WideShapes Go.ChangeAt Go.RowKit Go.Deep
set_option linter.unusedVariables false
set_option linter.unusedSimpArgs false
set_option maxRecDepth 100000

/-- A panic with a corruption. -/
abbrev corrV (c : Int) : Value := .iface 168 (.agg #[.int .i64 c])
abbrev Corr (c : Int) : Ending := .panicked [{ v := corrV c, recovered := false }]

set_option maxHeartbeats 1000000 in
theorem demand_yes (c : Int) (w : World) : Calls Tryz.prog 106 #[.bool true, .int .i64 c] w fun e w' => e = .returned (.tuple #[]) ∧ w' = w := by
  go_enter Tryz.func106, Tryz.ntmps106
  go_wp2_with fail
  go_end0
  exact ⟨rfl, rfl⟩
set_option maxHeartbeats 1000000 in
theorem demand_no (c : Int) (w : World) : Calls Tryz.prog 106 #[.bool false, .int .i64 c] w fun e w' => e = Corr c ∧ w' = w := by
  go_enter Tryz.func106, Tryz.ntmps106
  go_wp2_with fail
  exact ⟨rfl, rfl, rfl⟩

theorem demand_core (c : Bool) (code : Int) (w : World) : Calls Tryz.prog 106 #[.bool c, .int .i64 code] w fun e w' => w' = w ∧ ((c = true ∧ e = .returned (.tuple #[])) ∨ (c = false ∧ e = Corr code)) := by
  cases c with
  | true => exact (demand_yes code w).mono fun e w' ⟨he, hw⟩ => ⟨hw, .inl ⟨rfl, he⟩⟩
  | false => exact (demand_no code w).mono fun e w' ⟨he, hw⟩ => ⟨hw, .inr ⟨rfl, he⟩⟩

/-- A region whose last operation is a demand that does not hold. -/
theorem wp_region_demand {id : Nat} {Q : Exit → Act → World → Prop} {a : Act} {w : World} {l : List Oper} (d s : Tmp) (c : Operand) (code : Int) (sl : List (Tmp × Value)) {tys : Array TypeId} {ty : TypeId} {pos : String} {aft : Array Edge}
    (ho : l.getLast? = some ⟨some d, .call { callee := .value (.func 106), args := #[.tmp s, c], argTypes := tys }, ty, pos, aft, none⟩)
    (hB : ∀ m, Region.lexB .any (l.dropLast ++ [fk m ⟨some d, .call { callee := .value (.func 106), args := #[.tmp s, c], argTypes := tys }, ty, pos, aft, none⟩]).toArray = true)
    (hB2 : waitsB l.dropLast ⟨some d, .call { callee := .value (.func 106), args := #[.tmp s, c], argTypes := tys }, ty, pos, aft, none⟩ [] d (sl.map (·.1)) = true)
    (hs : ∀ a' : Act, (∀ p ∈ sl, a'.tmps.getD p.1 undef = p.2) → a'.eval (.tmp s) = .bool false ∧ a'.eval c = .int .i64 code)
    (hQ : ∀ (a' : Act) (w' : World), Below w.heap.size w w' → a'.defers = a.defers → Q (.panic [{ v := corrV code, recovered := false }]) a' w')
    (h : ∀ m, wpQuiet Tryz.prog (l.dropLast ++ [fk m ⟨some d, .call { callee := .value (.func 106), args := #[.tmp s, c], argTypes := tys }, ty, pos, aft, none⟩]).toArray (fun w' => ∃ n : Out w, w' = n.u) (fun a' => a'.tmps.getD d undef = m ∧ ∀ p ∈ sl, a'.tmps.getD p.1 undef = p.2) (l.dropLast ++ [fk m ⟨some d, .call { callee := .value (.func 106), args := #[.tmp s, c], argTypes := tys }, ty, pos, aft, none⟩]) a) :
    (Code.region id l.toArray true).wp Tryz.prog Q a w := by
  have hl : l = l.dropLast ++ [⟨some d, .call { callee := .value (.func 106), args := #[.tmp s, c], argTypes := tys }, ty, pos, aft, none⟩] := by
    obtain ⟨l', hl'⟩ := List.getLast?_eq_some_iff.1 ho
    rw [hl']; simp
  refine wp_region_dies (C := fun w' => ∃ n : Out w, w' = n.u) l.dropLast _ [] d sl l hl (by kernel_rfl) hB hB2 rfl rfl ⟨⟨_, (Below.refl _ _).drew⟩, rfl⟩ h ?_
  rintro a' w' K ⟨n, rfl⟩ hd hp
  obtain ⟨h1, h2⟩ := hs a' hp
  unfold Oper.wp
  have hrun : (execOp a'.eval ⟨some d, .call { callee := .value (.func 106), args := #[.tmp s, c], argTypes := tys }, ty, pos, aft, none⟩).run Tryz.prog n.u = .ok (.enter 106 #[.bool false, .int .i64 code]) n.u := by
    simp [execOp, h1, h2, go_sem, Act.eval, Tryz.func106]
    exact ⟨by have := h1; simpa [Act.eval] using this, by have h3 := h2; cases c <;> simp [Act.eval] at h3 ⊢ <;> exact h3⟩
  rw [hrun, Oper.upon_enter]
  refine (demand_no code n.u).mono ?_
  rintro e w'' ⟨rfl, rfl⟩
  exact hQ a' n.u n.out hd

theorem slots1 {a' : Act} {s : Tmp} {x : Value} (h : a'.tmps.getD s undef = x) : ∀ p ∈ [(s, x)], a'.tmps.getD p.1 undef = p.2 := by
  intro p hp
  rcases List.mem_cons.1 hp with rfl | hp
  · exact h
  · cases hp
theorem slots2 {a' : Act} {s t : Tmp} {x y : Value} (h : a'.tmps.getD s undef = x) (h2 : a'.tmps.getD t undef = y) : ∀ p ∈ [(s, x), (t, y)], a'.tmps.getD p.1 undef = p.2 := by
  intro p hp
  rcases List.mem_cons.1 hp with rfl | hp
  · exact h
  · exact slots1 h2 p hp

/-- A reader in memory, before the bytes 'xs'. -/
structure RdAt (w : World) (base g b off cap : Nat) (xs : List UInt8) (code : Int) : Prop where
  box : BoxAt w base 174 2 g [.slice (some ⟨b, off, none⟩) xs.length cap, .int .i64 code]
  bys : BysAt w b off xs
  lt : b < w.heap.size
  ne : ¬ b = g
  room : xs.length < cap
  len : xs.length ≤ 2 ^ 30
  capm : cap ≤ maxLen
theorem BysAt.chgR {S : Nat → Prop} {w w' : World} {b off : Nat} {xs : List UInt8} (h : BysAt w b off xs) (hc : Chg S w w') (hlt : b < w.heap.size) (hn : ¬ S b) : BysAt w' b off xs := by
  intro i x hx
  rw [hc.cell (p := ⟨b, off + i, none⟩) hlt hn]
  exact h i x hx
theorem BysAt.drop {w : World} {b off : Nat} {xs : List UInt8} (h : BysAt w b off xs) (n : Nat) : BysAt w b (off + n) (xs.drop n) := by
  intro i x hx
  rw [List.getElem?_drop] at hx
  have := h (n + i) x hx
  rw [Nat.add_assoc]; exact this
theorem BysAt.take {w : World} {b off : Nat} {xs : List UInt8} (h : BysAt w b off xs) (n : Nat) : BysAt w b off (xs.take n) := by
  intro i x hx
  have hi := (List.getElem?_eq_some_iff.1 hx).1
  rw [List.length_take] at hi
  rw [List.getElem?_take_of_lt (by omega)] at hx
  exact h i x hx
theorem RdAt.chg {S : Nat → Prop} {w w' : World} {base g b off cap : Nat} {xs : List UInt8} {code : Int} (h : RdAt w base g b off cap xs code) (hc : Chg S w w') (hg : ¬ S g) (hb : ¬ S b) : RdAt w' base g b off cap xs code :=
  ⟨h.box.chg hc hg, h.bys.chgR hc h.lt hb, Nat.lt_of_lt_of_le h.lt hc.size, h.ne, h.room, h.len, h.capm⟩
theorem Chg.drew {S : Nat → Prop} {a w : World} (h : Chg S a w) : Chg S a w.drew := h.trans ⟨rfl, rfl, rfl, Nat.le_refl _, fun _ _ _ => rfl⟩

set_option maxHeartbeats 400000 in
theorem take_ok (base g b off cap n : Nat) (xs : List UInt8) (code : Int) (w : World) (h : RdAt w base g b off cap xs code) (hn : n ≤ xs.length) :
    Calls Tryz.prog 147 #[.pointer (some ⟨g, 0, none⟩), .int .u64 (n : Int)] w fun e w' =>
      e = .returned (.slice (some ⟨b, off, none⟩) n cap) ∧ RdAt w' base g b (off + n) (cap - n) (xs.drop n) code ∧ Chg (fun k => k = g) w w' := by
  have HR : Hid (RdAt w base g b off cap xs code) := h
  have c0 := h.box.cell (j := 0) rfl
  have c1 := h.box.cell (j := 1) rfl
  have f0 := h.box.frozen 0
  have hr := h.room
  have hl := h.len
  have hm := h.capm
  unfold maxLen at hm
  clear h
  go_enter Tryz.func147, Tryz.ntmps147
  go_upto_region 1 with fail
  have HN : Hid (cap ≤ 2 ^ 63 - 1 ∧ xs.length < cap ∧ xs.length ≤ 2 ^ 30) := ⟨hm, hr, hl⟩
  have z1 : (n : Int) ≤ (xs.length : Int) := by omega
  have z2 : (xs.length : Int) ≤ 1073741824 := by omega
  clear hm hr hl hn
  go_quiet ((go_at_call 106; exact Calls.quiet_of_same (demand_yes _ _)))
  have z3 : (n : Int) < (cap : Int) := by have := HN.out; omega
  have z4 : ¬ cap = n := by have := HN.out; omega
  go_wp2_with fail
  go_ret
  have HR2 : RdAt (w.drewN nq) base g b off cap xs code := HR.out.chg (S := fun _ => False) (Chg.of_below (below_drewN (Below.refl _ _) _)) (fun q => q) (fun q => q)
  have hc : Chg (fun k => k = g) w ((w.drewN nq).setCell ⟨g, 0, none⟩ (.slice (some ⟨b, off + n, none⟩) (xs.length - n) (cap - n))) := (Chg.of_below (below_drewN (Below.refl _ _) _)).trans (Chg.of_set _ g 0 _ rfl)
  refine ⟨rfl, ⟨?_, ?_, ?_, HR2.ne, ?_, ?_, ?_⟩, hc⟩
  · have := HR2.box.set 0 (.slice (some ⟨b, off + n, none⟩) (xs.length - n) (cap - n))
    rw [List.length_drop]
    exact this
  · exact (HR.out.bys.chgR hc HR.out.lt HR.out.ne).drop n
  · exact Nat.lt_of_lt_of_le HR.out.lt hc.size
  · have := HR.out.room; rw [List.length_drop]; omega
  · have := HR.out.len; rw [List.length_drop]; omega
  · have := HR.out.capm; omega

theorem wrap_u64 {n : Nat} (h : n < 2 ^ 64) : IntKind.u64.wrap (n : Int) = (n : Int) := by
  simp only [IntKind.wrap, IntKind.bits, IntKind.signed, Bool.false_and, Bool.false_eq_true, if_false]
  omega
set_option maxHeartbeats 400000 in
theorem take_bad (base g b off cap n : Nat) (xs : List UInt8) (code : Int) (w : World) (h : RdAt w base g b off cap xs code) (hn : xs.length < n) (hn2 : n < 2 ^ 64) :
    Calls Tryz.prog 147 #[.pointer (some ⟨g, 0, none⟩), .int .u64 (n : Int)] w fun e w' => e = Corr code ∧ Below w.heap.size w w' := by
  have c0 := h.box.cell (j := 0) rfl
  have c1 := h.box.cell (j := 1) rfl
  have hl := h.len
  have z1 : ¬ (n : Int) ≤ (xs.length : Int) := by omega
  have z2 : (xs.length : Int) ≤ 1073741824 := by omega
  have hlt := h.box.lt.2
  have e0 : ∀ n : Out w, n.u.cell? ⟨g, 0, none⟩ = some (.slice (some ⟨b, off, none⟩) xs.length cap) := fun n => (n.out.cell (p := ⟨g, 0, none⟩) hlt).trans c0
  have e1 : ∀ n : Out w, n.u.cell? ⟨g, 1, none⟩ = some (.int .i64 code) := fun n => (n.out.cell (p := ⟨g, 1, none⟩) hlt).trans c1
  clear h hl hn hn2 c0 c1 hlt
  go_enter Tryz.func147, Tryz.ntmps147
  go_upto_region 1 with fail
  refine wp_region_demand 18 13 (.tmp 17) code [(13, .bool false), (17, .int .i64 code)] rfl (fun m => by kernel_rfl) (by kernel_rfl) (fun a' h => ⟨h (13, _) (by simp), h (17, _) (by simp)⟩) ?q ?_
  case q => exact fun a' w' hb hd => ⟨hd, rfl, hb⟩
  intro m
  dsimp only [List.dropLast, fk, List.cons_append, List.nil_append]
  repeat (go_big_quiet_step (rfl))
  refine wpQuiet_nil ?_
  exact ⟨rfl, slots2 rfl rfl⟩

set_option maxHeartbeats 400000 in
theorem end_ok (base g b off cap : Nat) (code : Int) (w : World) (h : RdAt w base g b off cap [] code) :
    Calls Tryz.prog 110 #[.pointer (some ⟨g, 0, none⟩)] w fun e w' => e = .returned (.tuple #[]) ∧ Below w.heap.size w w' := by
  have c0 := h.box.cell (j := 0) rfl
  have c1 := h.box.cell (j := 1) rfl
  simp only [List.length_nil] at c0
  clear h
  go_enter Tryz.func110, Tryz.ntmps110
  go_upto_region 0 with fail
  go_quiet ((go_at_call 106; exact Calls.quiet_of_same (demand_yes _ _)))
  go_wp2_with fail
  go_end0
  exact ⟨rfl, below_drewN (Below.refl _ _) _⟩
set_option maxHeartbeats 400000 in
theorem end_bad (base g b off cap : Nat) (xs : List UInt8) (code : Int) (w : World) (h : RdAt w base g b off cap xs code) (hx : ¬ xs = []) :
    Calls Tryz.prog 110 #[.pointer (some ⟨g, 0, none⟩)] w fun e w' => e = Corr code ∧ Below w.heap.size w w' := by
  have c0 := h.box.cell (j := 0) rfl
  have c1 := h.box.cell (j := 1) rfl
  have z1 : ¬ (xs.length : Int) = 0 := by
    have : xs.length ≠ 0 := fun q => hx (List.length_eq_zero_iff.1 q)
    omega
  have hlt := h.box.lt.2
  have e0 : ∀ n : Out w, n.u.cell? ⟨g, 0, none⟩ = some (.slice (some ⟨b, off, none⟩) xs.length cap) := fun n => (n.out.cell (p := ⟨g, 0, none⟩) hlt).trans c0
  have e1 : ∀ n : Out w, n.u.cell? ⟨g, 1, none⟩ = some (.int .i64 code) := fun n => (n.out.cell (p := ⟨g, 1, none⟩) hlt).trans c1
  clear h hx c0 c1 hlt
  go_enter Tryz.func110, Tryz.ntmps110
  go_upto_region 0 with fail
  refine wp_region_demand 12 7 (.tmp 11) code [(7, .bool false), (11, .int .i64 code)] rfl (fun m => by kernel_rfl) (by kernel_rfl) (fun a' h => ⟨h (7, _) (by simp), h (11, _) (by simp)⟩) ?q ?_
  case q => exact fun a' w' hb hd => ⟨hd, rfl, hb⟩
  intro m
  dsimp only [List.dropLast, fk, List.cons_append, List.nil_append]
  repeat (go_big_quiet_step (rfl))
  refine wpQuiet_nil ?_
  exact ⟨rfl, slots2 (congrArg Value.bool (beq_eq_false_iff_ne.2 z1)) rfl⟩
end Go.Proofs.YtlgeffinhbodeaeGreatDoor

/-
  errors.As at a corruption and a variable of that type; impl.faultCode.
-/
namespace Go.Proofs.YtlgeffinhbodeaeGreatDoor
open Go.ChangeShapes Go.WideShapes Go.ChangeAt Go.RowKit Go.Deep
open Go.Extern.Stop Go.Stop Go.Extern
set_option linter.unusedVariables false
set_option linter.unusedSimpArgs false
set_option maxRecDepth 100000

/-- The handle of the type 'error' in its variable. -/
def HandleAt (w : World) : Prop := w.cell? ⟨1, 0, none⟩ = some (.iface 226 (.agg #[.pointer (some ⟨8, 166, none⟩)]))
theorem HandleAt.lt {w : World} (h : HandleAt w) : 1 < w.heap.size := by
  rcases Nat.lt_or_ge 1 w.heap.size with h1 | h1
  · exact h1
  · simp [HandleAt, World.cell?, Array.getElem?_eq_none h1] at h
theorem HandleAt.below {B : Nat} {w w' : World} (h : HandleAt w) (hb : Below B w w') (h0 : 1 < B) : HandleAt w' := by
  unfold HandleAt at h ⊢
  rw [hb.cell (p := ⟨1, 0, none⟩) h0]
  exact h

theorem as_value (t : Addr) (w : World) : (ReflectliteValue.unpack (.iface 170 (.pointer (some t)))).run Tryz.prog w
    = .ok (.agg #[.pointer (some ⟨8, 170, none⟩), .pointer (some ⟨w.heap.size, 0, none⟩), .int .u64 150]) (w.alloc (.cells #[.pointer (some t)] 170)) := by kernel_rfl
theorem as_type (a : Addr) (w : World) : (ReflectliteValue.methodAny (ReflectliteValue.valueError "reflectlite.Value.Type" 0) (fun t _ _ _ => ReflectliteType.toType t) #[.agg #[.pointer (some ⟨8, 170, none⟩), .pointer (some a), .int .u64 150]]).run Tryz.prog w
    = .ok (.iface 226 (.agg #[.pointer (some ⟨8, 170, none⟩)])) w := by kernel_rfl
theorem as_mKind (h : Value) (w : World) : (Go.method 431 226 (.agg #[h]) "Kind").run Tryz.prog w = .ok (237, h) w := by kernel_rfl
theorem as_mElem (h : Value) (w : World) : (Go.method 431 226 (.agg #[h]) "Elem").run Tryz.prog w = .ok (248, .agg #[h]) w := by kernel_rfl
theorem as_mImpl (h : Value) (w : World) : (Go.method 431 226 (.agg #[h]) "Implements").run Tryz.prog w = .ok (249, .agg #[h]) w := by kernel_rfl
theorem as_mAssign (h : Value) (w : World) : (Go.method 431 226 (.agg #[h]) "AssignableTo").run Tryz.prog w = .ok (246, .agg #[h]) w := by kernel_rfl
theorem as_kindP (w : World) : ((ReflectliteType.abiMethod fun t => (fun a : Nat => Value.int IntKind.u8 (a : Int)) <$> Rtype.kind t) #[.pointer (some ⟨8, 170, none⟩)]).run Tryz.prog w = .ok (.int .u8 22) w := by kernel_rfl
theorem as_kindX (w : World) : ((ReflectliteType.abiMethod fun t => (fun a : Nat => Value.int IntKind.u8 (a : Int)) <$> Rtype.kind t) #[.pointer (some ⟨8, 168, none⟩)]).run Tryz.prog w = .ok (.int .u8 25) w := by kernel_rfl
theorem as_elem (w : World) : (ReflectliteType.method ReflectliteType.elem #[.agg #[.pointer (some ⟨8, 170, none⟩)]]).run Tryz.prog w = .ok (.iface 226 (.agg #[.pointer (some ⟨8, 168, none⟩)])) w := by kernel_rfl
theorem as_impl (w : World) : (ReflectliteType.relation "Implements" ReflectliteType.implements_ #[.agg #[.pointer (some ⟨8, 168, none⟩)], .iface 226 (.agg #[.pointer (some ⟨8, 166, none⟩)])]).run Tryz.prog w = .ok (.bool true) w := by kernel_rfl
theorem as_typeOf (v : Value) (w : World) : (ReflectliteType.typeOf #[.iface 168 v]).run Tryz.prog w = .ok (.iface 226 (.agg #[.pointer (some ⟨8, 168, none⟩)])) w := by kernel_rfl
theorem as_assign (w : World) : (ReflectliteType.relation "AssignableTo" ReflectliteType.assignableTo #[.agg #[.pointer (some ⟨8, 168, none⟩)], .iface 226 (.agg #[.pointer (some ⟨8, 168, none⟩)])]).run Tryz.prog w = .ok (.bool true) w := by kernel_rfl
theorem as_valueX (c : Int) (w : World) : (ReflectliteValue.unpack (.iface 168 (.agg #[.int .i64 c]))).run Tryz.prog w
    = .ok (.agg #[.pointer (some ⟨8, 168, none⟩), .pointer (some ⟨w.heap.size, 0, none⟩), .int .u64 153]) (w.alloc (.cells #[.int .i64 c] 168)) := by kernel_rfl
theorem as_m1 (z : Sem Value) (f : TypeId → Addr → Nat → Nat → Sem Value) (v : Value) :
    ReflectliteValue.method z f #[v] = (do match ← ReflectliteValue.parts v with | none => z | some (t, a, fl) => f t a fl (fl % 32)) := rfl
theorem as_partsP (a : Addr) (w : World) : (ReflectliteValue.parts (.agg #[.pointer (some ⟨8, 170, none⟩), .pointer (some a), .int .u64 150])).run Tryz.prog w = .ok (some (170, a, 150)) w := by kernel_rfl
theorem as_isNil (a p : Addr) (W : World) (ha : W.cell? a = some (.pointer (some p))) :
    (ReflectliteValue.method (ReflectliteValue.valueError "reflectlite.Value.IsNil" 0) ReflectliteValue.isNil #[.agg #[.pointer (some ⟨8, 170, none⟩), .pointer (some a), .int .u64 150]]).run Tryz.prog W = .ok (.bool false) W := by
  rw [as_m1]
  simp only [Sem.run_bind, as_partsP, Result.andThen]
  simp [ReflectliteValue.isNil, loadVar, isAgg, underlying, Tryz.underlying170, ha, Result.andThen]
theorem as_elemOf (w : World) : (Rtype.elem? 170).run Tryz.prog w = .ok (some 168) w := by kernel_rfl
theorem as_mk (p : Addr) (w : World) : (ReflectliteValue.mk 168 p ReflectliteValue.flagAddr).run Tryz.prog w = .ok (.agg #[.pointer (some ⟨8, 168, none⟩), .pointer (some p), .int .u64 409]) w := by kernel_rfl
theorem as_elemV (a p : Addr) (W : World) (ha : W.cell? a = some (.pointer (some p))) :
    (ReflectliteValue.method (ReflectliteValue.valueError "reflectlite.Value.Elem" 0) ReflectliteValue.elem #[.agg #[.pointer (some ⟨8, 170, none⟩), .pointer (some a), .int .u64 150]]).run Tryz.prog W
      = .ok (.agg #[.pointer (some ⟨8, 168, none⟩), .pointer (some p), .int .u64 409]) W := by
  rw [as_m1]
  simp only [Sem.run_bind, as_partsP, Result.andThen]
  simp [ReflectliteValue.elem, loadVar, isAgg, underlying, Tryz.underlying170, ha, Result.andThen, as_elemOf, as_mk]
theorem as_set1 (v x : Value) : ReflectliteValue.set #[v, x] = (do
    let (some (dst, a, fl), some (src, b, _)) := (← ReflectliteValue.parts v, ← ReflectliteValue.parts x)
      | unsupported (.noEntry "extern/(internal/reflectlite.Value).Set.zeroValue")
    if fl / ReflectliteValue.flagAddr % 2 == 0 then unsupported (.noEntry "extern/(internal/reflectlite.Value).Set.unaddressable")
    let val ← loadVar src b
    if ← Rtype.directlyAssignable dst src then storeVar dst a val
    else if ← Rtype.implements dst src then
      if (← Rtype.kind src) == 20 then
        match val with
        | .nilIface => unsupported (.noEntry "extern/reflectlite: a nil value of one interface type handed on as a value of another")
        | _ => storeVar dst a val
      else storeVar dst a (.iface src val)
    else panicString ("reflectlite.Set: value of type " ++ (← Rtype.spelt src) ++ " is not assignable to type " ++ (← Rtype.spelt dst))
    pure (.tuple #[])) := rfl
theorem as_partsA (a : Addr) (w : World) : (ReflectliteValue.parts (.agg #[.pointer (some ⟨8, 168, none⟩), .pointer (some a), .int .u64 409])).run Tryz.prog w = .ok (some (168, a, 409)) w := by kernel_rfl
theorem as_partsX (a : Addr) (w : World) : (ReflectliteValue.parts (.agg #[.pointer (some ⟨8, 168, none⟩), .pointer (some a), .int .u64 153])).run Tryz.prog w = .ok (some (168, a, 153)) w := by kernel_rfl
theorem as_direct (w : World) : (Rtype.directlyAssignable 168 168).run Tryz.prog w = .ok true w := by kernel_rfl
theorem as_size (w : World) : (sizeOf 168).run Tryz.prog w = .ok 1 w := by kernel_rfl
theorem as_set (tb bb : Nat) (c : Int) (old : Value) (W : World) (hb : W.cell? ⟨bb, 0, none⟩ = some (.int .i64 c)) (ht : W.cell? ⟨tb, 0, none⟩ = some old) (hf : W.frozen? ⟨tb, 0, none⟩ = false) :
    (ReflectliteValue.set #[.agg #[.pointer (some ⟨8, 168, none⟩), .pointer (some ⟨tb, 0, none⟩), .int .u64 409], .agg #[.pointer (some ⟨8, 168, none⟩), .pointer (some ⟨bb, 0, none⟩), .int .u64 153]]).run Tryz.prog W
      = .ok (.tuple #[]) (W.setCell ⟨tb, 0, none⟩ (.int .i64 c)) := by
  rw [as_set1]
  simp only [Sem.run_bind, as_partsA, as_partsX, Result.andThen]
  simp [ReflectliteValue.flagAddr, loadVar, isAgg, underlying, Tryz.underlying168, hb, Result.andThen, as_direct, storeVar, Value.cells, storeCells, Addr.add, as_size, loadCells, loadCellsFrom]
  rw [run_store Tryz.prog W ⟨tb, 0, none⟩ _ _ (by rfl)]
  simp [ht, hf]
end Go.Proofs.YtlgeffinhbodeaeGreatDoor

/-
  errors.As at a corruption; impl.faultCode.
-/
namespace Go.Proofs.YtlgeffinhbodeaeGreatDoor
open Go.ChangeShapes Go.WideShapes Go.ChangeAt Go.RowKit Go.Deep
open Go.Extern.Stop Go.Stop Go.Extern
set_option linter.unusedVariables false
set_option linter.unusedSimpArgs false
set_option maxRecDepth 100000

set_option maxHeartbeats 4000000 in
theorem as_hit (tb : Nat) (c : Int) (old : Value) (w : World) (hg : HandleAt w) (ht0 : w.cell? ⟨tb, 0, none⟩ = some old) (hf0 : w.frozen? ⟨tb, 0, none⟩ = false) :
    Calls Tryz.prog 105 #[.iface 168 (.agg #[.int .i64 c]), .iface 170 (.pointer (some ⟨tb, 0, none⟩))] w fun ev w' => ev = .returned (.bool true) ∧ ∃ w4 : World, Below w.heap.size w w4 ∧ w' = w4.setCell ⟨tb, 0, none⟩ (.int .i64 c) := by
  have h6 := @run_callFunc_extern Tryz.prog 142 _ (fun args => ReflectliteValue.unpack (args.getD 0 (.tuple #[]))) Tryz.func142 (by kernel_rfl) (by kernel_rfl) (by kernel_rfl) (by kernel_rfl)
  have h7 := @run_callFunc_extern Tryz.prog 143 _ (ReflectliteValue.methodAny (ReflectliteValue.valueError "reflectlite.Value.Type" 0) (fun t _ _ _ => ReflectliteType.toType t)) Tryz.func143 (by kernel_rfl) (by kernel_rfl) (by kernel_rfl) (by kernel_rfl)
  have h8 := @run_callFunc_extern Tryz.prog 144 _ (ReflectliteValue.method (ReflectliteValue.valueError "reflectlite.Value.IsNil" 0) ReflectliteValue.isNil) Tryz.func144 (by kernel_rfl) (by kernel_rfl) (by kernel_rfl) (by kernel_rfl)
  have h27 := @run_callFunc_extern Tryz.prog 237 _ (ReflectliteType.abiMethod fun t => do pure (.int .u8 (← Rtype.kind t))) Tryz.func237 (by kernel_rfl) (by kernel_rfl) (by kernel_rfl) (by kernel_rfl)
  have h37 := @run_callFunc_extern Tryz.prog 248 _ (ReflectliteType.method ReflectliteType.elem) Tryz.func248 (by kernel_rfl) (by kernel_rfl) (by kernel_rfl) (by kernel_rfl)
  have h38 := @run_callFunc_extern Tryz.prog 249 _ (ReflectliteType.relation "Implements" ReflectliteType.implements_) Tryz.func249 (by kernel_rfl) (by kernel_rfl) (by kernel_rfl) (by kernel_rfl)
  have h10 := @run_callFunc_extern Tryz.prog 170 _ ReflectliteType.typeOf Tryz.func170 (by kernel_rfl) (by kernel_rfl) (by kernel_rfl) (by kernel_rfl)
  have h35 := @run_callFunc_extern Tryz.prog 246 _ (ReflectliteType.relation "AssignableTo" ReflectliteType.assignableTo) Tryz.func246 (by kernel_rfl) (by kernel_rfl) (by kernel_rfl) (by kernel_rfl)
  have h11 := @run_callFunc_extern Tryz.prog 171 _ (ReflectliteValue.method (ReflectliteValue.valueError "reflectlite.Value.Elem" 0) ReflectliteValue.elem) Tryz.func171 (by kernel_rfl) (by kernel_rfl) (by kernel_rfl) (by kernel_rfl)
  have h12 := @run_callFunc_extern Tryz.prog 172 _ ReflectliteValue.set Tryz.func172 (by kernel_rfl) (by kernel_rfl) (by kernel_rfl) (by kernel_rfl)
  have tO := as_typeOf
  have mA := as_mAssign
  have a25 := as_assign
  have v25 := as_valueX
  have f6 := as_value
  have f7 := as_type
  have mK := as_mKind
  have mE := as_mElem
  have mI := as_mImpl
  have k27 := as_kindP
  have k25 := as_kindX
  have e27 := as_elem
  have i25 := as_impl
  obtain ⟨A1, hA1⟩ : ∃ A1 : Obj, A1 = .cells #[.pointer (some ⟨tb, 0, none⟩)] 170 := ⟨_, rfl⟩
  obtain ⟨A2, hA2⟩ : ∃ A2 : Obj, A2 = .cells #[.pointer (some ⟨8, 170, none⟩), .pointer (some ⟨w.heap.size, 0, none⟩), .int .u64 150] 202 := ⟨_, rfl⟩
  obtain ⟨A3, hA3⟩ : ∃ A3 : Obj, A3 = .cells #[.int .i64 c] 168 := ⟨_, rfl⟩
  have hlt := hg.lt
  have htl : tb < w.heap.size := by
    rcases Nat.lt_or_ge tb w.heap.size with h | h
    · exact h
    · simp [World.cell?, Array.getElem?_eq_none h] at ht0
  have b1 : Below w.heap.size w (w.alloc A1) := (Below.refl _ _).alloc (Nat.le_refl _) _
  have b2 : Below w.heap.size w ((w.alloc A1).alloc A2) := b1.alloc (by simp) _
  have b3 : Below w.heap.size w (((w.alloc A1).alloc A2).alloc A2) := b2.alloc (by simp; omega) _
  have b4 : Below w.heap.size w ((((w.alloc A1).alloc A2).alloc A2).alloc A3) := b3.alloc (by simp; omega) _
  have n8 := as_isNil ⟨w.heap.size, 0, none⟩ ⟨tb, 0, none⟩ ((w.alloc A1).alloc A2) (by rw [World.cell?_alloc_lt _ _ ⟨w.heap.size, 0, none⟩ (by simp), hA1]; simp)
  have hg2 : ((w.alloc A1).alloc A2).cell? ⟨1, 0, none⟩ = some (.iface 226 (.agg #[.pointer (some ⟨8, 166, none⟩)])) := (b2.cell (p := ⟨1, 0, none⟩) hlt).trans hg
  have el := as_elemV ⟨w.heap.size, 0, none⟩ ⟨tb, 0, none⟩ (((w.alloc A1).alloc A2).alloc A2) (by rw [World.cell?_alloc_lt _ _ ⟨w.heap.size, 0, none⟩ (by simp; omega), World.cell?_alloc_lt _ _ ⟨w.heap.size, 0, none⟩ (by simp), hA1]; simp)
  have st := as_set tb (w.heap.size + 1 + 1 + 1) c old ((((w.alloc A1).alloc A2).alloc A2).alloc A3)
    (by rw [hA3, World.cell?_alloc_at _ _ _ _ (by simp)]; rfl)
    ((b4.cell (p := ⟨tb, 0, none⟩) htl).trans ht0)
    ((b4.frozen (p := ⟨tb, 0, none⟩) htl).trans hf0)
  have HB : Hid (Below w.heap.size w ((((w.alloc A1).alloc A2).alloc A2).alloc A3)) := b4
  clear b1 b2 b3 b4
  subst hA1 hA2 hA3
  go_enter Tryz.func105, Tryz.ntmps105
  go_wp2
  refine wp_loop_rounds 1 ?_
  rw [rounds_succ]
  go_wp2
  go_ret
  exact ⟨rfl, _, HB.out, rfl⟩

end Go.Proofs.YtlgeffinhbodeaeGreatDoor

/-
  impl.faultCode; the deferred closures of DecodeRun.
-/
namespace Go.Proofs.YtlgeffinhbodeaeGreatDoor
open Go.ChangeShapes Go.WideShapes Go.ChangeAt Go.RowKit Go.Deep
set_option linter.unusedVariables false
set_option linter.unusedSimpArgs false
set_option maxRecDepth 100000

theorem as_assert (c : Int) (w : World) : (Instr.typeAssert (corrV c) 20 166 true).run Tryz.prog w = .ok (.tuple #[corrV c, .bool true]) w := by kernel_rfl
set_option maxHeartbeats 2000000 in
theorem faultCode_nil (w : World) : Calls Tryz.prog 54 #[.nilIface] w fun e w' => e = .returned (.int .i64 0) ∧ w' = w := by
  go_enter Tryz.func54, Tryz.ntmps54
  go_wp2_with fail
  go_ret
  exact ⟨rfl, rfl⟩
set_option maxHeartbeats 2000000 in
theorem faultCode_corr (c : Int) (w : World) (hg : HandleAt w) : Calls Tryz.prog 54 #[corrV c] w fun e w' => e = .returned (.int .i64 c) ∧ Below w.heap.size w w' := by
  have hta := as_assert
  have HG : Hid (HandleAt (w.alloc (.cells #[.int .i64 0] 168))) := hg.below ((Below.refl _ _).alloc (Nat.le_refl _) _) hg.lt
  clear hg
  go_enter Tryz.func54, Tryz.ntmps54
  go_wp2_with fail
  refine (as_hit w.heap.size c (.int .i64 0) _ HG.out (by simp) (by simp)).mono ?_
  rintro e w' ⟨rfl, w4, hb4, hw'⟩
  have hb5 : Below w.heap.size w w' := by
    rw [hw']
    exact (((Below.refl _ w).alloc (Nat.le_refl _) _).trans (hb4.mono (by simp))).setCell (p := ⟨w.heap.size, 0, none⟩) (Nat.le_refl _) _
  have hc : w'.cell? ⟨w.heap.size, 0, none⟩ = some (.int .i64 c) := by
    rw [hw']
    have h4 : w4.cell? ⟨w.heap.size, 0, none⟩ = some (.int .i64 0) := (hb4.cell (p := ⟨w.heap.size, 0, none⟩) (by simp)).trans (by simp)
    exact World.cell?_setCell_same' _ _ _ (by rw [h4]; rfl)
  clear hw' hb4
  go_wp2_with fail
  go_ret
  exact ⟨rfl, hb5⟩
end Go.Proofs.YtlgeffinhbodeaeGreatDoor

/-
  The checksum by a table (mathematics): eight steps of a byte at once.
-/
namespace Go.Proofs.YtlgeffinhbodeaeGreatDoor
set_option linter.unusedVariables false
set_option linter.unusedSimpArgs false

/-- One bit, as an exclusive or. -/
theorem sh_eq (c : BitVec 32) : sh c = (c >>> 1) ^^^ (if c.getLsbD 0 then 3988292384#32 else 0#32) := by
  unfold sh
  rw [bit0]
  by_cases h : c.toNat % 2 = 1 <;> simp [h]
theorem sh_xor (a b : BitVec 32) : sh (a ^^^ b) = sh a ^^^ sh b := by
  rw [sh_eq, sh_eq, sh_eq, BitVec.ushiftRight_xor_distrib, BitVec.getLsbD_xor]
  have h4 : ∀ x y p q : BitVec 32, (x ^^^ p) ^^^ (y ^^^ q) = (x ^^^ y) ^^^ (p ^^^ q) := by
    intro x y p q
    rw [BitVec.xor_assoc, BitVec.xor_assoc, ← BitVec.xor_assoc p y q, BitVec.xor_comm p y, BitVec.xor_assoc y p q]
  rw [h4]
  congr 1
  cases a.getLsbD 0 <;> cases b.getLsbD 0 <;> simp
theorem shN_xor (k : Nat) (a b : BitVec 32) : shN k (a ^^^ b) = shN k a ^^^ shN k b := by
  induction k with
  | zero => rfl
  | succ k ih => show sh (shN k (a ^^^ b)) = sh (shN k a) ^^^ sh (shN k b); rw [ih, sh_xor]
/-- Steps over zero bits are a shift. -/
theorem shN_zero : ∀ (k : Nat) (y : BitVec 32), (∀ i, i < k → y.getLsbD i = false) → shN k y = y >>> k
  | 0, y, _ => by simp [shN]
  | k + 1, y, h => by
    show sh (shN k y) = _
    rw [shN_zero k y (fun i hi => h i (by omega)), sh_eq, BitVec.getLsbD_ushiftRight, h (k + 0) (by omega), BitVec.shiftRight_add y k 1]
    simp
/-- The table's entry. -/
def tabE (i : Nat) : BitVec 32 := shN 8 (BitVec.ofNat 32 i)
theorem split8 (c : BitVec 32) (x : UInt8) : c ^^^ BitVec.ofNat 32 x.toNat = BitVec.ofNat 32 ((c.toNat % 256) ^^^ x.toNat) ^^^ ((c >>> 8) <<< 8) := by
  have hx := u8lt x
  apply BitVec.eq_of_getLsbD_eq
  intro i hi
  simp only [BitVec.getLsbD_xor, BitVec.getLsbD_ofNat, BitVec.getLsbD_shiftLeft, BitVec.getLsbD_ushiftRight, Nat.testBit_xor, hi, decide_true, Bool.true_and]
  rw [show (256 : Nat) = 2 ^ 8 from rfl, Nat.testBit_mod_two_pow]
  by_cases h8 : i < 8
  · simp [h8, BitVec.getLsbD]
  · have : x.toNat.testBit i = false := Nat.testBit_lt_two_pow (Nat.lt_of_lt_of_le hx (by
      have : 2 ^ 8 ≤ 2 ^ i := Nat.pow_le_pow_right (by omega) (by omega)
      omega))
    rw [this]
    simp [h8, show 8 + (i - 8) = i from by omega]
/-- One byte by the table. -/
theorem crcB_tab (c : BitVec 32) (x : UInt8) : crcB c x = tabE ((c.toNat % 256) ^^^ x.toNat) ^^^ (c >>> 8) := by
  have h : shN 8 ((c >>> 8) <<< 8) = c >>> 8 := by
    rw [shN_zero 8 _ (fun i hi => by simp [BitVec.getLsbD_shiftLeft, hi])]
    apply BitVec.eq_of_getLsbD_eq
    intro i hi
    simp only [BitVec.getLsbD_ushiftRight, BitVec.getLsbD_shiftLeft]
    by_cases h : 8 + i < 32
    · simp [h]
    · simp [h]
      rw [BitVec.getLsbD_of_ge c _ (by omega)]
  unfold crcB tabE
  rw [split8, shN_xor, h]
theorem tab_lt (c : BitVec 32) (x : UInt8) : (c.toNat % 256) ^^^ x.toNat < 256 := Nat.xor_lt_two_pow (n := 8) (by omega) (u8lt x)
end Go.Proofs.YtlgeffinhbodeaeGreatDoor

/-
  impl.makeSumTable, (*impl.sumTable).of, impl.Crc32.
-/
namespace Go.Proofs.YtlgeffinhbodeaeGreatDoor
open Go.ChangeShapes Go.WideShapes Go.ChangeAt Go.RowKit Go.Deep
set_option linter.unusedVariables false
set_option linter.unusedSimpArgs false
set_option maxRecDepth 100000

/-- The table with its first k entries. -/
def tabA (k : Nat) : Array Value := Array.ofFn (n := 256) fun i => if i.val < k then .int .u32 ((tabE i.val).toNat : Int) else .int .u32 0
theorem tabA_size (k : Nat) : (tabA k).size = 256 := by simp [tabA]
theorem tabA_zero : tabA 0 = Array.replicate 256 (.int .u32 0) := by
  apply Array.ext
  · simp [tabA]
  · intro i h1 h2; simp [tabA]
theorem tabA_at (k i : Nat) (hi : i < k) (h : i < 256) : (tabA k)[i]? = some (.int .u32 ((tabE i).toNat : Int)) := by
  rw [Array.getElem?_eq_getElem (by rw [tabA_size]; exact h)]
  simp [tabA, hi]
theorem tabA_next (k : Nat) (h : k < 256) : (tabA k).setIfInBounds k (.int .u32 ((tabE k).toNat : Int)) = tabA (k + 1) := by
  apply Array.ext
  · simp [tabA]
  · intro i h1 h2
    have h3 : i < 256 := by rw [tabA_size] at h2; exact h2
    simp only [tabA, Array.getElem_setIfInBounds, Array.getElem_ofFn]
    by_cases e : k = i
    · subst e; simp
    · rw [Array.getElem_setIfInBounds_ne (by simpa using h3) e]
      simp only [Array.getElem_ofFn]
      by_cases q : i < k
      · simp [q, show i < k + 1 from by omega]
      · simp [q, show ¬ i < k + 1 from by omega]
/-- The table lies there. -/
def TabAt (w : World) (b off : Nat) : Prop := ∀ i, i < 256 → w.cell? ⟨b, off + i, none⟩ = some (.int .u32 ((tabE i).toNat : Int))
theorem TabAt.below {B : Nat} {w w' : World} {b off : Nat} (h : TabAt w b off) (hb : Below B w w') (hlt : b < B) : TabAt w' b off := by
  intro i hi
  rw [hb.cell (p := ⟨b, off + i, none⟩) hlt]
  exact h i hi

theorem shr32 (s : BitVec 32) (k : Nat) (z : Int) (hz : z = ((2 ^ k : Nat) : Int)) : (s.toNat : Int) / z = ((s >>> k).toNat : Int) := by
  subst hz
  rw [BitVec.toNat_ushiftRight, Nat.shiftRight_eq_div_pow]; exact (Int.natCast_ediv _ _).symm
theorem xor8 (a b : Nat) (ha : a < 256) (hb : b < 256) : bits .xor .u8 (a : Int) (b : Int) = ((a ^^^ b : Nat) : Int) := by
  have h1 : BitVec.ofInt 8 (a : Int) = BitVec.ofNat 8 a := by simp
  have h2 : BitVec.ofInt 8 (b : Int) = BitVec.ofNat 8 b := by simp
  show IntKind.wrap .u8 ((BitVec.ofInt 8 (a : Int) ^^^ BitVec.ofInt 8 (b : Int)).toNat : Int) = _
  rw [h1, h2, BitVec.toNat_xor, BitVec.toNat_ofNat, BitVec.toNat_ofNat, Nat.mod_eq_of_lt ha, Nat.mod_eq_of_lt hb]
  have : a ^^^ b < 256 := Nat.xor_lt_two_pow (n := 8) ha hb
  simp only [IntKind.wrap, IntKind.bits, IntKind.signed, Bool.false_and, Bool.false_eq_true, if_false]
  omega

set_option maxHeartbeats 2000000 in
theorem tableOf_core (tb toff b off cap : Nat) (xs : List UInt8) (w : World) (hT : TabAt w tb toff) (hE : BysAt w b off xs) (hlen : xs.length ≤ maxLen) :
    Calls Tryz.prog 46 #[.pointer (some ⟨tb, toff, none⟩), .slice (some ⟨b, off, none⟩) xs.length cap] w fun e w' => e = .returned (.int .u32 ((crc xs).toNat : Int)) ∧ w' = w := by
  have HE : Hid (BysAt w b off xs ∧ TabAt w tb toff) := ⟨hE, hT⟩
  clear hE hT
  unfold maxLen at hlen
  go_enter Tryz.func46, Tryz.ntmps46
  go_wp2_with fail
  go_loopw [5, 10] (fun c i wr => ∃ (k : Nat), k ≤ xs.length ∧ c = .int .u32 ((crcTo 4294967295#32 (xs.take k)).toNat : Int) ∧ i = .int .i64 k ∧ wr = w) (fun _ i _ => xs.length - (intOf i).toNat)
  case atStart => exact ⟨0, Nat.zero_le _, rfl, rfl, rfl⟩
  case round =>
    obtain ⟨k, hk, rfl, rfl, rfl⟩ := hrel
    by_cases hlt : k < xs.length
    · obtain ⟨x, hx⟩ : ∃ x, xs[k]? = some x := ⟨_, List.getElem?_eq_getElem hlt⟩
      have c0 := HE.out.1 k x hx
      obtain ⟨s, hs⟩ : ∃ s, s = crcTo 4294967295#32 (xs.take k) := ⟨_, rfl⟩
      rw [← hs]
      obtain ⟨m, hm⟩ : ∃ m, m = (s.toNat % 256) ^^^ x.toNat := ⟨_, rfl⟩
      have HS : Hid (crcTo 4294967295#32 (xs.take (k + 1)) = tabE m ^^^ (s >>> 8)) := by
        show crcTo 4294967295#32 (xs.take (k + 1)) = tabE m ^^^ (s >>> 8)
        rw [List.take_add_one, hx, hs, hm]
        exact (crcTo_snoc _ _ _).trans (by rw [crcB_tab, hs])
      have hbx : bits BinOp.xor .u8 ((s.toNat : Int) % 256) (x.toNat : Int) = (m : Int) := by
        rw [hm]; exact xor8 (s.toNat % 256) x.toNat (by omega) (u8lt x)
      have hm2 : m < 256 := by rw [hm]; exact tab_lt s x
      have hmz : (0 : Int) ≤ (m : Int) ∧ (m : Int) < 256 := by omega
      have ct := HE.out.2 m hm2
      clear hx hs hm hm2
      go_wp2_with fail
      have hn : bits BinOp.xor .u32 ((tabE m).toNat : Int) ((s.toNat : Int) / 256) = ((crcTo 4294967295#32 (xs.take (k + 1))).toNat : Int) := by
        rw [HS.out]
        exact xor32 (tabE m) (s >>> 8) (shr32 s 8 256 rfl)
      exact ⟨⟨k + 1, by omega, by rw [hn], by go_num, trivial⟩, by simp [intOf]; omega⟩
    · obtain rfl : k = xs.length := by omega
      rw [List.take_of_length_le (Nat.le_refl _)]
      go_wp2_with fail
      go_ret
      refine ⟨?_, rfl⟩
      have hx : bits BinOp.xor .u32 IntKind.u32.max ((crcTo 4294967295#32 xs).toNat : Int) = ((crc xs).toNat : Int) := by
        unfold crc
        rw [BitVec.xor_comm]
        exact xor32 4294967295#32 (crcTo 4294967295#32 xs) rfl
      show Ending.returned (Value.int .u32 (bits BinOp.xor .u32 IntKind.u32.max ((crcTo 4294967295#32 xs).toNat : Int))) = _
      rw [hx]

theorem and1 (c : BitVec 32) : bits .and .u32 (c.toNat : Int) 1 = ((c.toNat % 2 : Nat) : Int) := by
  have h1 : BitVec.ofInt 32 (c.toNat : Int) = c := by simp
  show IntKind.wrap .u32 ((BitVec.ofInt 32 (c.toNat : Int) &&& BitVec.ofInt 32 1).toNat : Int) = _
  rw [h1, BitVec.toNat_and]
  have : (BitVec.ofInt 32 1).toNat = 1 := by decide
  rw [this, Nat.and_one_is_mod]
  simp only [IntKind.wrap, IntKind.bits, IntKind.signed, Bool.false_and, Bool.false_eq_true, if_false]
  omega

theorem Below.setRow {B : Nat} {a w : World} (h : Below B a w) {g : Nat} (hg : B ≤ g) (cs : Array Value) : Below B a (w.setRow g cs) :=
  h.trans ⟨rfl, rfl, rfl, by simp, fun k hk => setRow_other w g k cs (by omega)⟩
theorem tabA_one (k : Nat) : (tabA k).all (·.oneCell') = true := by
  rw [Array.all_eq_true_iff_forall_mem]
  intro v hv
  obtain ⟨i, hi, rfl⟩ := Array.getElem_of_mem hv
  simp only [tabA, Array.getElem_ofFn]
  split <;> rfl
theorem info_table : (Tryz.prog.info? 84).map (fun i => (i.zero, i.size)) = some (some (.agg (Array.replicate 256 (.int .u32 0))), 256) := by kernel_rfl

set_option maxHeartbeats 2000000 in
theorem makeTable_core (w : World) :
    Calls Tryz.prog 42 #[] w fun e w' => e = .returned (.agg (tabA 256)) ∧ Below w.heap.size w w' := by
  have hzv := (zero_of_info info_table).1
  go_enter Tryz.func42, Tryz.ntmps42
  go_wp2_with fail
  clear hzv
  rw [← tabA_zero]
  obtain ⟨W, hW⟩ : ∃ W, W = w.alloc (.cells (tabA 0) 84) := ⟨_, rfl⟩
  have hs : W.heap.size = w.heap.size + 1 := by rw [hW]; simp
  rw [← hW, ← hs]
  have HW : Hid (W = w.alloc (.cells (tabA 0) 84) ∧ W.heap.size = w.heap.size + 1) := ⟨hW, hs⟩
  clear hW hs
  go_loopw [4] (fun i wr => ∃ (k : Nat), k ≤ 256 ∧ i = .int .i64 k ∧ wr = W.alloc (.cells (tabA k) 84)) (fun i _ => 256 - (intOf i).toNat)
  case atStart => exact ⟨0, Nat.zero_le _, rfl, rfl⟩
  case round =>
    obtain ⟨k, hk, rfl, hwr⟩ := hrel
    by_cases hlt : k < 256
    · have z : (k : Int) < 256 := by omega
      have HB : Hid ((k : Int) = ((BitVec.ofNat 32 k).toNat : Int) ∧ k < 256) := by
        refine ⟨?_, hlt⟩
        rw [BitVec.toNat_ofNat]; omega
      have Hwr : Hid (wr = W.alloc (.cells (tabA k) 84)) := hwr
      clear hwr
      go_wp2_with fail
      go_loopw [3, 9] (fun c j wq => ∃ (q : Nat), q ≤ 8 ∧ c = .int .u32 ((shN q (BitVec.ofNat 32 k)).toNat : Int) ∧ j = .int .i64 q ∧ wq = W.alloc (.cells (tabA k) 84)) (fun _ j _ => 8 - (intOf j).toNat)
      case atStart => exact ⟨0, Nat.zero_le _, congrArg (Value.int .u32) HB.out.1, rfl, Hwr.out⟩
      case round =>
        clear Hwr
        obtain ⟨q, hq, rfl, rfl, hwr⟩ := hrel
        obtain ⟨c, hc⟩ : ∃ c, c = shN q (BitVec.ofNat 32 k) := ⟨_, rfl⟩
        have HQ : Hid (shN (q + 1) (BitVec.ofNat 32 k) = sh c) := by rw [hc]; exact rfl
        rw [← hc]
        by_cases h8 : q < 8
        · have Hwr : Hid (wr = W.alloc (.cells (tabA k) 84)) := hwr
          have z8 : (q : Int) < 8 := by omega
          have ha := and1 c
          clear hwr hc
          by_cases hp : c.toNat % 2 = 1
          · rw [hp] at ha
            have HP : Hid (c.toNat % 2 = 1) := hp
            clear hp
            go_wp2_with fail
            have hx : bits .xor .u32 ((c.toNat : Int) / 2) 3988292384 = ((sh c).toNat : Int) := by
              unfold sh
              rw [if_pos HP.out]
              rw [shr32 c 1 2 rfl]
              exact xor32 (c >>> 1) 3988292384#32 (by rfl)
            exact ⟨⟨q + 1, by omega, by rw [hx, HQ.out], by go_num, Hwr.out⟩, by simp [intOf]; omega⟩
          · rw [show c.toNat % 2 = 0 from by omega] at ha
            have HP : Hid (¬ c.toNat % 2 = 1) := hp
            clear hp
            go_wp2_with fail
            have hx : ((c.toNat : Int) / 2) = ((sh c).toNat : Int) := by
              unfold sh
              rw [if_neg HP.out]
              exact shr32 c 1 2 rfl
            exact ⟨⟨q + 1, by omega, by rw [hx, HQ.out], by go_num, Hwr.out⟩, by simp [intOf]; omega⟩
        · obtain rfl : q = 8 := by omega
          have HC : Hid (c = tabE k) := hc
          have hk2 : k < (tabA k).size := by rw [tabA_size]; exact HB.out.2
          obtain ⟨v, hv⟩ : ∃ v, (tabA k)[k]? = some v := ⟨_, Array.getElem?_eq_getElem hk2⟩
          rw [hwr]
          clear hwr hc hk2
          go_wp2_with fail
          refine ⟨⟨k + 1, by have := HB.out.2; omega, by go_num, ?_⟩, by have := HB.out.2; simp [intOf]; omega⟩
          rw [HC.out, tabA_next k HB.out.2]
    · obtain rfl : k = 256 := by omega
      rw [hwr]
      clear hwr
      go_upto_region 14 with fail
      have hw0 : W.heap[w.heap.size]? = some (.cells (tabA 0) 84 (0, 0)) := by rw [HW.out.1]; exact heap_alloc_new _ _
      have hw1 : (W.alloc (.cells (tabA 256) 84)).heap[w.heap.size]? = some (.cells (tabA 0) 84 (0, 0)) := by
        rw [Below.heap_alloc W _ w.heap.size (by rw [HW.out.2]; omega)]; exact hw0
      have hi : (Tryz.prog.info? 84).map (·.size) = some 256 := (zero_of_info info_table).2
      have hB : Below w.heap.size w ((W.alloc (.cells (tabA 256) 84)).setRow w.heap.size (tabA 256)) := by
        refine Below.setRow ?_ (Nat.le_refl _) _
        rw [HW.out.1]
        exact (((Below.refl _ w).alloc (Nat.le_refl _) _).alloc (by simp) _)
      apply wp_region_list
      refine wpList_load_row rfl 84 _ rfl W.heap.size rfl 84 (tabA 256) (0, 0) _ (heap_alloc_new W _) Tryz.underlying84 rfl (by rw [tabA_size]; exact hi) ?_
      refine wpList_store_row rfl 84 _ _ rfl w.heap.size (tabA 256) rfl rfl 84 (tabA 0) hw1 (by rw [tabA_size]; exact hi) (by rw [tabA_size, tabA_size]) (tabA_one _) ?_
      have hr := setRow_heap _ _ _ (tabA 256) _ _ hw1
      obtain ⟨W2, hW2⟩ : ∃ W2, W2 = (W.alloc (.cells (tabA 256) 84)).setRow w.heap.size (tabA 256) := ⟨_, rfl⟩
      rw [← hW2] at hB hr ⊢
      clear hW2 hw0 hw1
      apply wpList_nil
      go_wp2_with fail
      refine bodyPost_ret (v := .agg (tabA 256)) (results_cell_row rfl _ _ w.heap.size _ _ _ _ rfl hr Tryz.underlying84 rfl (by rw [tabA_size]; exact hi)) rfl ⟨rfl, hB⟩

end Go.Proofs.YtlgeffinhbodeaeGreatDoor

/-
  (*impl.byteReader).number, text.
-/
namespace Go.Proofs.YtlgeffinhbodeaeGreatDoor
open Go.ChangeShapes Go.WideShapes Go.ChangeAt Go.RowKit Go.Deep
set_option linter.unusedVariables false
set_option linter.unusedSimpArgs false
set_option maxRecDepth 100000

def RdE (w : World) (base g b : Nat) (xs : List UInt8) (code : Int) : Prop := ∃ off cap, RdAt w base g b off cap xs code
theorem RdE.chg {S : Nat → Prop} {w w' : World} {base g b : Nat} {xs : List UInt8} {code : Int} (h : RdE w base g b xs code) (hc : Chg S w w') (hg : ¬ S g) (hb : ¬ S b) : RdE w' base g b xs code := by
  obtain ⟨off, cap, h⟩ := h
  exact ⟨off, cap, h.chg hc hg hb⟩
/-- What a reading leaves: the value and the reader behind it, or the corruption. -/
def NumP (w : World) (base g b : Nat) (xs : List UInt8) (code : Int) (e : Ending) (w' : World) : Prop :=
  Chg (fun k => k = g) w w' ∧ ((∃ (n : Nat) (t : List UInt8), getNum xs = some (n, t) ∧ e = .returned (.int .u64 (n : Int)) ∧ n < 2 ^ 64 ∧ t.length ≤ xs.length ∧ RdE w' base g b t code) ∨ (getNum xs = none ∧ e = Corr code))
theorem and127 (x : UInt8) : bits .and .u8 (x.toNat : Int) 127 = ((x.toNat % 128 : Nat) : Int) := by
  have h1 : BitVec.ofInt 8 (x.toNat : Int) = BitVec.ofNat 8 x.toNat := by simp
  show IntKind.wrap .u8 ((BitVec.ofInt 8 (x.toNat : Int) &&& BitVec.ofInt 8 127).toNat : Int) = _
  rw [h1, BitVec.toNat_and]
  have h2 : (BitVec.ofInt 8 127).toNat = 127 := by decide
  have h3 := u8lt x
  rw [h2, BitVec.toNat_ofNat, Nat.mod_eq_of_lt h3]
  have h4 : x.toNat &&& 127 = x.toNat % 128 := Nat.and_two_pow_sub_one_eq_mod x.toNat 7
  rw [h4]
  simp only [IntKind.wrap, IntKind.bits, IntKind.signed, Bool.false_and, Bool.false_eq_true, if_false]
  omega

theorem pow7 (k : Nat) : 2 ^ (7 * k) = 128 ^ k := by rw [Nat.pow_mul]
theorem pow7i (k : Nat) : (2 : Int) ^ (7 * k) = ((128 ^ k : Nat) : Int) := by rw [← pow7]; norm_cast
theorem shl_fit {k y : Nat} (hk : k ≤ 9) (hy : y < 128) (h9 : k = 9 → y ≤ 1) : IntKind.u64.wrap ((y : Int) * 2 ^ (7 * k)) = ((y * 128 ^ k : Nat) : Int) := by
  rw [pow7i, ← Int.natCast_mul]
  refine wrap_u64 ?_
  by_cases q : k = 9
  · subst q
    have := h9 rfl
    have : y * 128 ^ 9 ≤ 1 * 128 ^ 9 := Nat.mul_le_mul_right _ this
    omega
  · have h1 := pow8 (k := k) (by omega)
    have h2 : y * 128 ^ k ≤ 127 * 72057594037927936 := Nat.mul_le_mul (by omega) h1
    omega
theorem shl_back {k y : Nat} (hk : k ≤ 9) (hy : y < 128) (h9 : k = 9 → y ≤ 1) : (IntKind.u64.wrap ((y : Int) * 2 ^ (7 * k)) / 2 ^ (7 * k) == (y : Int)) = true := by
  rw [shl_fit hk hy h9, pow7i, ← Int.natCast_ediv, Nat.mul_div_cancel _ (Nat.pow_pos (by omega))]
  simp
theorem shl_over {y : Nat} (hy : y < 128) (h9 : ¬ y ≤ 1) : (IntKind.u64.wrap ((y : Int) * 2 ^ (7 * 9)) / 2 ^ (7 * 9) == (y : Int)) = false := by
  rw [beq_eq_false_iff_ne]
  simp only [IntKind.wrap, IntKind.bits, IntKind.signed, Bool.false_and, Bool.false_eq_true, if_false]
  omega
theorem or_add {a y k : Nat} (ha : a < 128 ^ k) (hs : a + y * 128 ^ k < 2 ^ 64) : bits .or .u64 (a : Int) ((y * 128 ^ k : Nat) : Int) = ((a + y * 128 ^ k : Nat) : Int) := by
  have h1 : BitVec.ofInt 64 (a : Int) = BitVec.ofNat 64 a := by simp
  have h2 : BitVec.ofInt 64 ((y * 128 ^ k : Nat) : Int) = BitVec.ofNat 64 (y * 128 ^ k) := BitVec.ofInt_natCast _ _
  show IntKind.wrap .u64 ((BitVec.ofInt 64 (a : Int) ||| BitVec.ofInt 64 ((y * 128 ^ k : Nat) : Int)).toNat : Int) = _
  rw [h1, h2, BitVec.toNat_or, BitVec.toNat_ofNat, BitVec.toNat_ofNat, Nat.mod_eq_of_lt (by omega), Nat.mod_eq_of_lt (by omega)]
  have h3 : a ||| y * 128 ^ k = a + y * 128 ^ k := by
    rw [Nat.or_comm, ← pow7, ← Nat.shiftLeft_eq, ← Nat.shiftLeft_add_eq_or_of_lt (by rw [pow7]; exact ha), Nat.add_comm]
  rw [h3]
  exact wrap_u64 hs

set_option maxHeartbeats 2000000 in
theorem number_core (base g b : Nat) (xs : List UInt8) (code : Int) (w : World) (h : RdE w base g b xs code) :
    Calls Tryz.prog 146 #[.pointer (some ⟨g, 0, none⟩)] w fun e w' => NumP w base g b xs code e w' := by
  have HR : Hid (RdE w base g b xs code) := h
  clear h
  go_enter Tryz.func146, Tryz.ntmps146
  go_wp2_with fail
  go_loopw [3, 4] (fun n s wr => ∃ (k acc : Nat), k ≤ 10 ∧ NumTo xs k acc ∧ (k = 10 → getNum xs = none) ∧ n = .int .u64 (acc : Int) ∧ s = .int .i64 ((7 * k : Nat) : Int) ∧ RdE wr base g b (xs.drop k) code ∧ Chg (fun k => k = g) w wr) (fun _ s _ => 70 - (intOf s).toNat)
  case atStart => exact ⟨0, 0, by omega, numTo_zero xs, by omega, rfl, rfl, HR.out, Chg.refl _ _⟩
  case round =>
    obtain ⟨k, acc, hk, hN, hT, rfl, rfl, hR, hC⟩ := hrel
    have HN : Hid (NumTo xs k acc) := hN
    have HC : Hid (Chg (fun k => k = g) w wr) := hC
    obtain ⟨off, cap, hA⟩ := hR
    have HA : Hid (RdAt wr base g b off cap (xs.drop k) code) := hA
    have c1 := hA.box.cell (j := 1) rfl
    clear hN hC hA
    by_cases h10 : k = 10
    · have z10 : ¬ ((7 * k : Nat) : Int) < 64 := by omega
      have HF : Hid (getNum xs = none) := hT h10
      clear hT h10
      go_wp2_with fail
      exact ⟨rfl, HC.out, .inr ⟨HF.out, rfl⟩⟩
    · have z10 : ((7 * k : Nat) : Int) < 64 := by omega
      clear hT
      by_cases hlt : k < xs.length
      · obtain ⟨x, hx⟩ : ∃ x, xs[k]? = some x := ⟨_, List.getElem?_eq_getElem hlt⟩
        clear c1
        go_upto_region 5 with fail
        go_wp2_with (go_at_call 147; refine (take_ok base g b off cap 1 (xs.drop k) code _ HA.out (by rw [List.length_drop]; omega)).mono ?_; rintro e w1 ⟨rfl, hA1, hC1⟩; have c0 : w1.cell? ⟨b, off, none⟩ = some (ub x) := (by have := ((HA.out.bys.chgR hC1 HA.out.lt HA.out.ne) 0 x (by rw [List.getElem?_drop]; exact hx)); exact this))
        obtain ⟨y, hy⟩ : ∃ y, y = x.toNat % 128 := ⟨_, rfl⟩
        have hg1 : IntKind.u64.wrap (bits BinOp.and IntKind.u8 (x.toNat : Int) 127) = (y : Int) := by
          rw [and127, hy]; exact wrap_u64 (by omega)
        have hg2 : bits BinOp.and IntKind.u8 (x.toNat : Int) 127 = (y : Int) := by rw [and127, hy]
        rw [hg1, hg2]
        have HX : Hid (xs[k]? = some x ∧ y = x.toNat % 128) := ⟨hx, hy⟩
        have HA1 : Hid (RdAt w1 base g b (off + 1) (cap - 1) (xs.drop (k + 1)) code) := by
          have := hA1
          rw [List.drop_drop] at this
          exact this
        have HC1 : Hid (Chg (fun k => k = g) w w1) := HC.out.trans hC1
        have c1 := hA1.box.cell (j := 1) rfl
        have glt := hA1.box.lt.2
        have zy : (y : Int) < 128 := by omega
        clear hx hy hg1 hg2 hA1 hC1 c0 hlt
        by_cases hfit : k = 9 → y ≤ 1
        · have HT : Hid ((IntKind.u64.wrap ((y : Int) * 2 ^ (7 * k)) / 2 ^ (7 * k) == (y : Int)) = true) := shl_back (by omega) (by omega) hfit
          have HS : Hid (IntKind.u64.wrap ((y : Int) * 2 ^ (7 * k)) = ((y * 128 ^ k : Nat) : Int)) := shl_fit (by omega) (by omega) hfit
          have HO : Hid (acc < 128 ^ k ∧ acc + y * 128 ^ k < 2 ^ 64) := by
            refine ⟨HN.out.lt, ?_⟩
            have := HN.out.bound (y := y) (by omega) hfit
            rw [Nat.mod_eq_of_lt (by omega : y < 128)] at this
            exact this
          have HFit : Hid (k = 9 → y ≤ 1) := hfit
          clear hfit
          go_quiet ((rw [HT.out]; go_at_call 106; exact Calls.quiet_of_same (demand_yes _ _)))
          have HW : Hid (Chg (fun k => k = g) w (w1.drewN nq) ∧ RdAt (w1.drewN nq) base g b (off + 1) (cap - 1) (xs.drop (k + 1)) code) := ⟨HC1.out.trans (Chg.of_below (below_drewN (Below.refl _ _) _)), HA1.out.chg (S := fun _ => False) (Chg.of_below (below_drewN (Below.refl _ _) _)) (fun q => q) (fun q => q)⟩
          have c1' := HW.out.2.box.cell (j := 1) rfl
          obtain ⟨w2, hw2⟩ : ∃ w2, w2 = w1.drewN nq := ⟨_, rfl⟩
          rw [← hw2] at HW c1' ⊢
          clear hw2 c1 HC1 HA1 glt
          by_cases hx8 : x.toNat < 128
          · have zx : (x.toNat : Int) < 128 := by omega
            have hlast := HN.out.last HX.out.1 hx8 (by omega) (fun q => by have := HFit.out q; have := HX.out.2; omega)
            have HL : Hid ((0 < k ∧ x.toNat = 0 → getNum xs = none) ∧ (¬ (0 < k ∧ x.toNat = 0) → getNum xs = some (acc + y * 128 ^ k, xs.drop (k + 1)) ∧ acc + y * 128 ^ k < 2 ^ 64)) := by
              refine ⟨hlast.1, fun q => ?_⟩
              have := hlast.2 q
              rw [← HX.out.2] at this
              exact this
            clear hlast hx8
            by_cases hx0 : x.toNat = 0
            · have z0 : (x.toNat : Int) = 0 := by omega
              have HX0 : Hid (x.toNat = 0) := hx0
              clear hx0
              go_wp2_with (go_at_call 106; refine (demand_core _ _ _).mono ?_; rintro e w3 ⟨rfl, (⟨hc, rfl⟩ | ⟨hc, rfl⟩)⟩)
              · have hk0 : k = 0 := by simp at hc; omega
                have HF : Hid (getNum xs = some (acc + y * 128 ^ k, xs.drop (k + 1)) ∧ acc + y * 128 ^ k < 2 ^ 64) := HL.out.2 (fun q => by omega)
                go_ret
                refine ⟨HW.out.1, .inl ⟨acc + y * 128 ^ k, xs.drop (k + 1), HF.out.1, ?_, HF.out.2, by simp, ⟨_, _, HW.out.2⟩⟩⟩
                show Ending.returned (Value.int .u64 (bits BinOp.or .u64 (acc : Int) (IntKind.u64.wrap ((y : Int) * 2 ^ (7 * k))))) = _
                rw [HS.out, or_add HO.out.1 HO.out.2]
              · have hk0 : 0 < k := by
                  by_cases q : k = 0
                  · subst q; simp at hc
                  · omega
                exact ⟨rfl, HW.out.1, .inr ⟨HL.out.1 ⟨hk0, HX0.out⟩, rfl⟩⟩
            · have z0 : ¬ (x.toNat : Int) = 0 := by omega
              have HF : Hid (getNum xs = some (acc + y * 128 ^ k, xs.drop (k + 1)) ∧ acc + y * 128 ^ k < 2 ^ 64) := HL.out.2 (fun q => hx0 q.2)
              clear hx0
              go_wp2_with (go_at_call 106; refine (demand_yes _ _).mono ?_; rintro e w3 ⟨rfl, rfl⟩)
              go_ret
              refine ⟨HW.out.1, .inl ⟨acc + y * 128 ^ k, xs.drop (k + 1), HF.out.1, ?_, HF.out.2, by simp, ⟨_, _, HW.out.2⟩⟩⟩
              show Ending.returned (Value.int .u64 (bits BinOp.or .u64 (acc : Int) (IntKind.u64.wrap ((y : Int) * 2 ^ (7 * k))))) = _
              rw [HS.out, or_add HO.out.1 HO.out.2]
          · have zx : ¬ (x.toNat : Int) < 128 := by omega
            have HM : Hid (NumTo xs (k + 1) (acc + y * 128 ^ k) ∧ (k + 1 = 10 → getNum xs = none)) := by
              refine ⟨?_, fun q => ?_⟩
              · have := HN.out.more HX.out.1 hx8
                rw [← HX.out.2] at this
                exact this
              · obtain rfl : k = 9 := by omega
                exact HN.out.great HX.out.1 (by omega)
            clear hx8
            go_wp2_with fail
            rw [HS.out, or_add HO.out.1 HO.out.2]
            refine ⟨⟨k + 1, acc + y * 128 ^ k, by omega, HM.out.1, HM.out.2, rfl, ?_, ⟨_, _, HW.out.2⟩, HW.out.1⟩, by simp [intOf]; omega⟩
            go_num
        · obtain ⟨rfl, hy1⟩ : k = 9 ∧ ¬ y ≤ 1 := by
            by_cases q : k = 9
            · exact ⟨q, fun q2 => hfit (fun _ => q2)⟩
            · exact absurd (fun q2 => absurd q2 q) hfit
          have HT : Hid ((IntKind.u64.wrap ((y : Int) * 2 ^ (7 * 9)) / 2 ^ (7 * 9) == (y : Int)) = false) := shl_over (by omega) hy1
          have HF : Hid (getNum xs = none) := HN.out.great HX.out.1 (by have := HX.out.2; omega)
          have e1 : ∀ n : Out w1, n.u.cell? ⟨g, 1, none⟩ = some (.int .i64 code) := fun n => (n.out.cell (p := ⟨g, 1, none⟩) glt).trans c1
          clear hfit hy1 c1
          refine wp_region_demand 29 24 (.tmp 28) code [(24, .bool false), (28, .int .i64 code)] rfl (fun m => by kernel_rfl) (by kernel_rfl) (fun a' h => ⟨h (24, _) (by simp), h (28, _) (by simp)⟩) ?q ?_
          case q => exact fun a' w' hb hd => ⟨hd, HC1.out.trans (Chg.of_below hb), .inr ⟨HF.out, rfl⟩⟩
          intro m
          dsimp only [List.dropLast, fk, List.cons_append, List.nil_append]
          repeat (go_big_quiet_step (rfl))
          refine wpQuiet_nil ?_
          exact ⟨rfl, slots2 (congrArg Value.bool HT.out) rfl⟩
      · have HF : Hid (getNum xs = none) := HN.out.none (by omega)
        go_upto_region 5 with fail
        go_wp2_with (go_at_call 147; refine (take_bad base g b off cap 1 (xs.drop k) code _ HA.out (by rw [List.length_drop]; omega) (by omega)).mono ?_; rintro e w1 ⟨rfl, hB1⟩)
        exact ⟨rfl, HC.out.trans (Chg.of_below hB1), .inr ⟨HF.out, rfl⟩⟩
end Go.Proofs.YtlgeffinhbodeaeGreatDoor

/-
  impl.sharedBytes.
-/
namespace Go.Proofs.YtlgeffinhbodeaeGreatDoor
open Go.ChangeShapes Go.WideShapes Go.ChangeAt Go.RowKit Go.Deep
set_option linter.unusedVariables false
set_option linter.unusedSimpArgs false
set_option maxRecDepth 100000

set_option maxHeartbeats 1000000 in
theorem implShared_core (s t : ByteArray) (w : World) (hs : s.size ≤ maxLen) (ht : t.size ≤ maxLen) :
    Calls Tryz.prog 95 #[.string s, .string t] w fun e w' => e = .returned (.int .i64 (shared (bl s) (bl t) : Int)) ∧ Below w.heap.size w w' := by
  unfold maxLen at hs ht
  go_enter Tryz.func95, Tryz.ntmps95
  go_wp2_with fail
  go_loopw [5] (fun i wr => ∃ (k : Nat), k ≤ s.size ∧ k ≤ t.size ∧ i = .int .i64 k ∧ (bl s).take k = (bl t).take k ∧ Below w.heap.size w wr) (fun i _ => s.size - (intOf i).toNat)
  case atStart => exact ⟨0, Nat.zero_le _, Nat.zero_le _, rfl, rfl, Below.refl _ _⟩
  case round =>
    obtain ⟨k, hk1, hk2, rfl, htk, hb⟩ := hrel
    have HT : Hid ((bl s).take k = (bl t).take k) := htk
    clear htk
    by_cases h1 : k < s.size
    · by_cases h2 : k < t.size
      · obtain ⟨x, hx⟩ : ∃ x, (bl s)[k]? = some x := ⟨_, List.getElem?_eq_getElem (by rw [bl_len]; exact h1)⟩
        obtain ⟨y, hy⟩ : ∃ y, (bl t)[k]? = some y := ⟨_, List.getElem?_eq_getElem (by rw [bl_len]; exact h2)⟩
        have gx : s[k] = x := by
          have := hx
          rw [List.getElem?_eq_getElem (by rw [bl_len]; exact h1)] at this
          exact Option.some.inj this
        have gy : t[k] = y := by
          have := hy
          rw [List.getElem?_eq_getElem (by rw [bl_len]; exact h2)] at this
          exact Option.some.inj this
        have z1 : (k : Int) < (s.size : Int) := by omega
        have z2 : (k : Int) < (t.size : Int) := by omega
        have HX : Hid ((bl s)[k]? = some x ∧ (bl t)[k]? = some y) := ⟨hx, hy⟩
        clear hx hy
        by_cases hxy : x = y
        · subst hxy
          have HS : Hid ((bl s).take (k + 1) = (bl t).take (k + 1)) := by
            show (bl s).take (k + 1) = (bl t).take (k + 1)
            rw [List.take_add_one, List.take_add_one, HT.out, HX.out.1, HX.out.2]
          go_upto_region 2 with fail
          go_cut [24] (fun v wx => v = .bool true ∧ Below w.heap.size w wx)
          case first =>
            go_region
            all_goals go_wp2_with fail
            all_goals go_meet
            all_goals exact ⟨by simp, hb.drew⟩
          case rest =>
          obtain ⟨rfl, hbc⟩ := hcut
          go_wp2_with fail
          go_roundw
          case rel => exact ⟨k + 1, by omega, by omega, by go_num, HS.out, hbc⟩
          case measure => simp [intOf]; omega
        · have HS : Hid (shared (bl s) (bl t) = k) := by
            refine shared_iff _ _ k (by rw [bl_len]; exact hk1) (by rw [bl_len]; exact hk2) HT.out (.inr (.inr ?_))
            rw [HX.out.1, HX.out.2]
            exact fun q => hxy (Option.some.inj q)
          have hne : ¬ x.toNat = y.toNat := fun q => hxy (UInt8.toNat_inj.1 q)
          go_upto_region 2 with fail
          go_cut [24] (fun v wx => v = .bool false ∧ Below w.heap.size w wx)
          case first =>
            go_region
            all_goals go_wp2_with fail
            all_goals go_meet
            all_goals exact ⟨by simp; omega, hb.drew⟩
          case rest =>
          obtain ⟨rfl, hbc⟩ := hcut
          go_wp2_with fail
          go_ret
          exact ⟨by rw [HS.out]; rfl, hbc⟩
      · have HS : Hid (shared (bl s) (bl t) = k) := shared_iff _ _ k (by rw [bl_len]; exact hk1) (by rw [bl_len]; exact hk2) HT.out (.inr (.inl (by rw [bl_len]; omega)))
        have z1 : (k : Int) < (s.size : Int) := by omega
        have z2 : ¬ (k : Int) < (t.size : Int) := by omega
        go_upto_region 2 with fail
        go_cut [24] (fun v wx => v = .bool false ∧ Below w.heap.size w wx)
        case first =>
          go_region
          all_goals go_wp2_with fail
          all_goals go_meet
          all_goals exact ⟨rfl, hb.drew⟩
        case rest =>
        obtain ⟨rfl, hbc⟩ := hcut
        go_wp2_with fail
        go_ret
        exact ⟨by rw [HS.out]; rfl, hbc⟩
    · have HS : Hid (shared (bl s) (bl t) = k) := shared_iff _ _ k (by rw [bl_len]; exact hk1) (by rw [bl_len]; exact hk2) HT.out (.inl (by rw [bl_len]; omega))
      have z1 : ¬ (k : Int) < (s.size : Int) := by omega
      go_upto_region 2 with fail
      go_cut [24] (fun v wx => v = .bool false ∧ Below w.heap.size w wx)
      case first =>
        go_region
        all_goals go_wp2_with fail
        all_goals go_meet
        all_goals exact ⟨rfl, hb.drew⟩
      case rest =>
      obtain ⟨rfl, hbc⟩ := hcut
      go_wp2_with fail
      go_ret
      exact ⟨by rw [HS.out]; rfl, hbc⟩
end Go.Proofs.YtlgeffinhbodeaeGreatDoor

/-
  (*impl.byteReader).text, row.
-/
namespace Go.Proofs.YtlgeffinhbodeaeGreatDoor
open Go.ChangeShapes Go.WideShapes Go.ChangeAt Go.RowKit Go.Deep
set_option linter.unusedVariables false
set_option linter.unusedSimpArgs false
set_option maxRecDepth 100000

/-- What reading a text leaves. -/
def StrP (w : World) (base g b : Nat) (xs : List UInt8) (code : Int) (e : Ending) (w' : World) : Prop :=
  Chg (fun k => k = g) w w' ∧ ((∃ (s : ByteArray) (t : List UInt8), getStr xs = some (bl s, t) ∧ e = .returned (.string s) ∧ s.size + t.length ≤ xs.length ∧ RdE w' base g b t code) ∨ (getStr xs = none ∧ e = Corr code))
set_option maxHeartbeats 2000000 in
theorem text_core (base g b : Nat) (xs : List UInt8) (code : Int) (w : World) (h : RdE w base g b xs code) :
    Calls Tryz.prog 148 #[.pointer (some ⟨g, 0, none⟩)] w fun e w' => StrP w base g b xs code e w' := by
  have HR : Hid (RdE w base g b xs code) := h
  clear h
  go_enter Tryz.func148, Tryz.ntmps148
  go_wp2_with fail
  refine (number_core base g b xs code _ HR.out).mono ?_
  rintro e w1 ⟨hC1, (⟨n, t, hn, rfl, hn2, ht, hR1⟩ | ⟨hn, rfl⟩)⟩
  · obtain ⟨off, cap, hA⟩ := hR1
    have HA : Hid (RdAt w1 base g b off cap t code) := hA
    have HG : Hid (getNum xs = some (n, t) ∧ t.length ≤ xs.length ∧ n < 2 ^ 64) := ⟨hn, ht, hn2⟩
    have HC1 : Hid (Chg (fun k => k = g) w w1) := hC1
    clear hn hA hC1 hn2 ht
    by_cases hle : n ≤ t.length
    · obtain ⟨s, hsd⟩ : ∃ s : ByteArray, s = (⟨t.toArray⟩ : ByteArray).extract 0 (0 + n) := ⟨_, rfl⟩
      have hbs : bl s = t.take n := by
        rw [hsd]
        show ((⟨t.toArray⟩ : ByteArray).extract 0 (0 + n)).data.toList = _
        rw [Lib.extract_data, Nat.add_sub_cancel_left]
        rfl
      have HG2 : Hid (getStr xs = some (bl s, t.drop n) ∧ s.size + (t.drop n).length ≤ xs.length) := by
        have h1 : s.size = (t.take n).length := by rw [← hbs, bl_len]
        refine ⟨?_, ?_⟩
        · show getStr xs = _
          unfold getStr
          rw [HG.out.1, hbs]
          simp only []
          rw [if_pos hle]
        · rw [h1, List.length_take, List.length_drop]; have := HG.out.2.1; omega
      have hsz : (⟨t.toArray⟩ : ByteArray).size = t.length := by show t.toArray.size = _; simp
      go_wp2_with fail
      refine (take_ok base g b off cap n t code _ HA.out hle).mono ?_
      rintro e w2 ⟨rfl, hA2, hC2⟩
      have hcv := Lib.run_convert_window (P := Tryz.prog) w2 22 5 9 Tryz.underlying22 Tryz.underlying5 Tryz.underlying9 b off ⟨t.toArray⟩ (bytes_of_bys (HA.out.bys.chgR hC2 HA.out.lt HA.out.ne)) 0 n cap (by omega)
      rw [← hsd, Nat.add_zero] at hcv
      have HW : Hid (Chg (fun k => k = g) w w2 ∧ RdAt w2 base g b (off + n) (cap - n) (t.drop n) code) := ⟨HC1.out.trans hC2, hA2⟩
      clear hsd hbs hsz hA2 hC2
      go_wp2_with fail
      go_ret
      exact ⟨HW.out.1, .inl ⟨s, t.drop n, HG2.out.1, rfl, HG2.out.2, ⟨_, _, HW.out.2⟩⟩⟩
    · have HG2 : Hid (getStr xs = none) := by
        show getStr xs = _
        unfold getStr
        rw [HG.out.1]
        simp only []
        rw [if_neg hle]
      go_wp2_with fail
      refine (take_bad base g b off cap n t code _ HA.out (by omega) HG.out.2.2).mono ?_
      rintro e w2 ⟨rfl, hB2⟩
      exact ⟨rfl, HC1.out.trans (Chg.of_below hB2), .inr ⟨HG2.out, rfl⟩⟩
  · have HG2 : Hid (getStr xs = none) := by
      show getStr xs = _
      unfold getStr
      rw [hn]
    exact ⟨rfl, hC1, .inr ⟨HG2.out, rfl⟩⟩

theorem text_ok (base g b : Nat) (xs : List UInt8) (code : Int) (w : World) (h : RdE w base g b xs code) (s : ByteArray) (t : List UInt8) (hs : getStr xs = some (bl s, t)) :
    Calls Tryz.prog 148 #[.pointer (some ⟨g, 0, none⟩)] w fun e w' => e = .returned (.string s) ∧ s.size + t.length ≤ xs.length ∧ RdE w' base g b t code ∧ Chg (fun k => k = g) w w' := by
  refine (text_core base g b xs code w h).mono ?_
  rintro e w' ⟨hC, (⟨s', t', h1, rfl, h2, h3⟩ | ⟨h1, _⟩)⟩
  · rw [hs] at h1
    simp only [Option.some.injEq, Prod.mk.injEq] at h1
    obtain ⟨h4, rfl⟩ := h1
    have : s = s' := by rw [← ba_bl s, ← ba_bl s', h4]
    subst this
    exact ⟨rfl, h2, h3, hC⟩
  · rw [hs] at h1; cases h1
theorem text_bad (base g b : Nat) (xs : List UInt8) (code : Int) (w : World) (h : RdE w base g b xs code) (hs : getStr xs = none) :
    Calls Tryz.prog 148 #[.pointer (some ⟨g, 0, none⟩)] w fun e w' => e = Corr code ∧ Chg (fun k => k = g) w w' := by
  refine (text_core base g b xs code w h).mono ?_
  rintro e w' ⟨hC, (⟨s', t', h1, rfl, h2, h3⟩ | ⟨_, h1⟩)⟩
  · rw [hs] at h1; cases h1
  · exact ⟨h1, hC⟩
/-- A region in which a text cannot be read. -/
theorem wp_region_text {id : Nat} {Q : Exit → Act → World → Prop} {a : Act} {w : World} {l : List Oper} (n : Nat) (d s : Tmp) (g : Nat) (code : Int) {tys : Array TypeId} {ty : TypeId} {pos : String} {aft : Array Edge}
    (ho : l = l.take n ++ ⟨some d, .call { callee := .value (.func 148), args := #[.tmp s], argTypes := tys }, ty, pos, aft, none⟩ :: l.drop (n + 1))
    (hB : ∀ m, Region.lexB .any (l.take n ++ (⟨some d, .call { callee := .value (.func 148), args := #[.tmp s], argTypes := tys }, ty, pos, aft, none⟩ :: l.drop (n + 1)).map (fk m)).toArray = true)
    (hB2 : waitsB (l.take n) ⟨some d, .call { callee := .value (.func 148), args := #[.tmp s], argTypes := tys }, ty, pos, aft, none⟩ (l.drop (n + 1)) d [s] = true)
    (hc : ∀ w', Below w.heap.size w w' → Calls Tryz.prog 148 #[.pointer (some ⟨g, 0, none⟩)] w' fun e w'' => e = Corr code ∧ ∀ a' : Act, a'.defers = a.defers → Q (.panic [{ v := corrV code, recovered := false }]) a' w'')
    (h : ∀ m, wpQuiet Tryz.prog (l.take n ++ (⟨some d, .call { callee := .value (.func 148), args := #[.tmp s], argTypes := tys }, ty, pos, aft, none⟩ :: l.drop (n + 1)).map (fk m)).toArray (fun w' => ∃ n : Out w, w' = n.u) (fun a' => a'.tmps.getD d undef = m ∧ ∀ p ∈ [(s, Value.pointer (some ⟨g, 0, none⟩))], a'.tmps.getD p.1 undef = p.2) (l.take n ++ (⟨some d, .call { callee := .value (.func 148), args := #[.tmp s], argTypes := tys }, ty, pos, aft, none⟩ :: l.drop (n + 1)).map (fk m)) a) :
    (Code.region id l.toArray true).wp Tryz.prog Q a w := by
  refine wp_region_dies (C := fun w' => ∃ n : Out w, w' = n.u) (l.take n) _ (l.drop (n + 1)) d [(s, .pointer (some ⟨g, 0, none⟩))] l ho (by kernel_rfl) hB hB2 rfl rfl ⟨⟨_, (Below.refl _ _).drew⟩, rfl⟩ h ?_
  rintro a' w' K ⟨n, rfl⟩ hd hp
  have h1 : a'.tmps.getD s undef = .pointer (some ⟨g, 0, none⟩) := hp (s, _) (by simp)
  unfold Oper.wp
  have hrun : (execOp a'.eval ⟨some d, .call { callee := .value (.func 148), args := #[.tmp s], argTypes := tys }, ty, pos, aft, none⟩).run Tryz.prog n.u = .ok (.enter 148 #[.pointer (some ⟨g, 0, none⟩)]) n.u := by
    have h2 : a'.tmps[s]?.getD undef = .pointer (some ⟨g, 0, none⟩) := by rw [← Array.getD_eq_getD_getElem?]; exact h1
    simp [execOp, h2, go_sem, Act.eval, Tryz.func148]
  rw [hrun, Oper.upon_enter]
  refine (hc n.u n.out).mono ?_
  rintro e w'' ⟨rfl, hq⟩
  exact hq a' hd

/-- A Row read. -/
def getRow (before xs : List UInt8) : Option (List UInt8 × List UInt8) :=
  match getNum xs with
  | none => none
  | some (n, t1) =>
    if before.length < n then none else
    match getStr t1 with
    | none => none
    | some (rest, t2) => if shared before (before.take n ++ rest) = n then some (before.take n ++ rest, t2) else none
def RowP (w : World) (base g b : Nat) (bf : ByteArray) (xs : List UInt8) (code : Int) (e : Ending) (w' : World) : Prop :=
  Chg (fun k => k = g) w w' ∧ ((∃ (s : ByteArray) (t : List UInt8), getRow (bl bf) xs = some (bl s, t) ∧ e = .returned (.string s) ∧ s.size + t.length ≤ bf.size + xs.length ∧ t.length ≤ xs.length ∧ RdE w' base g b t code) ∨ (getRow (bl bf) xs = none ∧ e = Corr code))
set_option maxHeartbeats 2000000 in
theorem rdRow_core (base g b : Nat) (bf : ByteArray) (xs : List UInt8) (code : Int) (w : World) (h : RdE w base g b xs code) (hbf : bf.size ≤ 2 ^ 31) (hxs : xs.length ≤ 2 ^ 30) :
    Calls Tryz.prog 149 #[.pointer (some ⟨g, 0, none⟩), .string bf] w fun e w' => RowP w base g b bf xs code e w' := by
  have HR : Hid (RdE w base g b xs code) := h
  clear h
  go_enter Tryz.func149, Tryz.ntmps149
  go_wp2_with fail
  refine (number_core base g b xs code _ HR.out).mono ?_
  rintro e w1 ⟨hC1, (⟨n, t, hn, rfl, hn2, ht, hR1⟩ | ⟨hn, rfl⟩)⟩
  · have HG : Hid (getNum xs = some (n, t) ∧ t.length ≤ xs.length ∧ n < 2 ^ 64) := ⟨hn, ht, hn2⟩
    have HC1 : Hid (Chg (fun k => k = g) w w1) := hC1
    obtain ⟨off, cap, hA⟩ := hR1
    have HA : Hid (RdAt w1 base g b off cap t code) := hA
    have c1 := hA.box.cell (j := 1) rfl
    clear hn hA hC1 hn2 ht
    by_cases hle : n ≤ bf.size
    · have z1 : (n : Int) ≤ (bf.size : Int) := by omega
      have z2 : (bf.size : Int) ≤ 2147483648 := by omega
      go_wp2_with (go_at_call 106; refine (demand_yes _ _).mono ?_; rintro e w3 ⟨rfl, rfl⟩)
      clear c1
      cases hg : getStr t with
      | none =>
        have HG2 : Hid (getRow (bl bf) xs = none ∧ getStr t = none) := by
          refine ⟨?_, hg⟩
          show getRow (bl bf) xs = none
          unfold getRow
          rw [HG.out.1]
          simp only []
          rw [if_neg (by rw [bl_len]; omega), hg]
        clear hg
        refine wp_region_text 4 23 22 g code rfl (fun m => by kernel_rfl) (by kernel_rfl) ?q ?_
        case q =>
          intro w' hb
          refine (text_bad base g b t code w' ⟨_, _, HA.out.chg (S := fun _ => False) (Chg.of_below hb) (fun q => q) (fun q => q)⟩ HG2.out.2).mono ?_
          rintro e w'' ⟨rfl, hC⟩
          exact ⟨rfl, fun a' hd => ⟨hd, HC1.out.trans ((Chg.of_below hb).trans hC), .inr ⟨HG2.out.1, rfl⟩⟩⟩
        intro m
        dsimp only [List.take, List.drop, List.map, fk, List.cons_append, List.nil_append]
        repeat (go_big_quiet_step (rfl))
        refine wpQuiet_nil ?_
        exact ⟨rfl, slots1 rfl⟩
      | some p =>
        obtain ⟨rl, t2⟩ := p
        obtain ⟨rest, hrest⟩ : ∃ rest : ByteArray, rest = ba rl := ⟨_, rfl⟩
        have HG2 : Hid (getStr t = some (bl rest, t2)) := by rw [hrest, bl_ba]; exact hg
        clear hg hrest
        have HE : Hid (∀ w', w' = w3.drew → RdE w' base g b t code) := fun w' hw' => by
          rw [hw']
          exact ⟨_, _, HA.out.chg (S := fun _ => False) (Chg.of_below (Below.refl _ _).drew) (fun q => q) (fun q => q)⟩
        have hrs : rest.size ≤ 1073741824 := by
          obtain ⟨_, h2⟩ := getStr_iff.1 HG2.out
          have h3 : (bl rest).length ≤ t.length := by rw [h2]; unfold strB; simp; omega
          rw [bl_len] at h3
          have := HG.out.2.1
          omega
        have hbs : bf.size ≤ 2147483648 := by omega
        go_region_with (go_at_call 148; refine (text_ok base g b t code _ (HE.out _ rfl) rest t2 HG2.out).mono ?_; rintro e w4 ⟨rfl, hsz, hR4, hC4⟩)
        obtain ⟨rw', hrw⟩ : ∃ s : ByteArray, s = bf.extract 0 n ++ rest := ⟨_, rfl⟩
        have hRow : bl rw' = (bl bf).take n ++ bl rest := by
          rw [hrw]
          show (bf.extract 0 n ++ rest).data.toList = _
          rw [ByteArray.data_append, Array.toList_append, Lib.extract_data]
          simp
        have hrsz : rw'.size = n + rest.size := by
          rw [← bl_len, hRow, List.length_append, bl_len, List.length_take, bl_len]
          omega
        obtain ⟨sh, hsh⟩ : ∃ sh, sh = shared (bl bf) (bl rw') := ⟨_, rfl⟩
        have HG3 : Hid (getRow (bl bf) xs = if sh = n then some (bl rw', t2) else none) := by
          show getRow (bl bf) xs = _
          unfold getRow
          rw [HG.out.1]
          simp only []
          rw [if_neg (by rw [bl_len]; omega), HG2.out]
          simp only []
          rw [← hRow, hsh]
        have HS : Hid (∀ w', Calls Tryz.prog 95 #[.string bf, .string rw'] w' fun e w'' => e = .returned (.int .i64 (sh : Int)) ∧ Below w'.heap.size w' w'') := fun w' => by
          rw [hsh]
          exact implShared_core bf rw' w' (by unfold maxLen; omega) (by unfold maxLen; omega)
        obtain ⟨off4, cap4, hA4⟩ := hR4
        have HA4 : Hid (RdAt w4 base g b off4 cap4 t2 code ∧ Chg (fun k => k = g) w w4 ∧ rw'.size + t2.length ≤ bf.size + xs.length ∧ t2.length ≤ xs.length) := by
          have := HG.out.2.1
          exact ⟨hA4, (HC1.out.trans (Chg.of_below (Below.refl _ _).drew)).trans hC4, by omega, by omega⟩
        have c1 := hA4.box.cell (j := 1) rfl
        have glt := hA4.box.lt.2
        have e1 : ∀ n : Out w4, n.u.cell? ⟨g, 1, none⟩ = some (.int .i64 code) := fun n => (n.out.cell (p := ⟨g, 1, none⟩) glt).trans c1
        have hn9 : (n : Int) ≤ 2147483648 := by omega
        rw [← hrw]
        clear hrw hRow hsh hA4 hC4 hsz c1 glt hrsz hrs hbs HE HG2
        simp only [List.getElem_toArray, List.getElem_cons_succ, List.getElem_cons_zero, Act.put, List.setIfInBounds_toArray, List.set_cons_succ, List.set_cons_zero]
        go_upto_region 4 with fail
        by_cases hsn : sh = n
        · subst hsn
          refine wp_region_out (by kernel_rfl) (by kernel_rfl) ?_
          repeat (go_big_quiet_step ((first | rfl | (go_at_call 95; exact Calls.out_of (HS.out _)) | (go_at_call 106; exact Calls.out_of ((demand_yes _ _).mono fun e w' ⟨he, hw⟩ => ⟨he, hw ▸ Below.refl _ _⟩)))))
          refine wpQuiet_nil ?_
          rintro wy ⟨⟨wx, hby⟩, rfl⟩
          go_wp2_with fail
          go_ret
          have h3 := HG3.out
          rw [if_pos trivial] at h3
          have hc := HA4.out.2.1.trans (Chg.of_below hby)
          exact ⟨hc, .inl ⟨rw', t2, h3, rfl, HA4.out.2.2.1, HA4.out.2.2.2, ⟨_, _, HA4.out.1.chg (S := fun _ => False) (Chg.of_below hby) (fun q => q) (fun q => q)⟩⟩⟩
        · have h3 := HG3.out
          rw [if_neg hsn] at h3
          have HF : Hid (getRow (bl bf) xs = none) := h3
          have z9 : ¬ (sh : Int) = (n : Int) := by omega
          clear h3 HG3 hsn
          refine wp_region_demand 35 30 (.tmp 34) code [(30, .bool false), (34, .int .i64 code)] rfl (fun m => by kernel_rfl) (by kernel_rfl) (fun a' h => ⟨h (30, _) (by simp), h (34, _) (by simp)⟩) ?q ?_
          case q => exact fun a' w' hb hd => ⟨hd, HA4.out.2.1.trans (Chg.of_below hb), .inr ⟨HF.out, rfl⟩⟩
          intro m
          dsimp only [List.dropLast, fk, List.cons_append, List.nil_append]
          repeat (go_big_quiet_step ((first | rfl | (go_at_call 95; exact Calls.out_of (HS.out _)))))
          refine wpQuiet_nil ?_
          exact ⟨rfl, slots2 (congrArg Value.bool (beq_eq_false_iff_ne.2 z9)) rfl⟩
    · have z1 : ¬ (n : Int) ≤ (bf.size : Int) := by omega
      have z2 : (bf.size : Int) ≤ 2147483648 := by omega
      have HG2 : Hid (getRow (bl bf) xs = none) := by
        show getRow (bl bf) xs = none
        unfold getRow
        rw [HG.out.1]
        simp only []
        rw [if_pos (by rw [bl_len]; omega)]
      go_wp2_with (go_at_call 106; refine (demand_no _ _).mono ?_; rintro e w3 ⟨rfl, rfl⟩)
      exact ⟨rfl, HC1.out, .inr ⟨HG2.out, rfl⟩⟩
  · have HG2 : Hid (getRow (bl bf) xs = none) := by
      show getRow (bl bf) xs = none
      unfold getRow
      rw [hn]
    exact ⟨rfl, hC1, .inr ⟨HG2.out, rfl⟩⟩
end Go.Proofs.YtlgeffinhbodeaeGreatDoor

/-
  An entry read in the program's order (mathematics).
-/
namespace Go.Proofs.YtlgeffinhbodeaeGreatDoor
set_option linter.unusedVariables false
set_option linter.unusedSimpArgs false

def eT5 (row fam qual : List UInt8) (ts kind : Nat) (t6 : List UInt8) : Option (Ent × List UInt8) :=
  match getStr t6 with
  | none => none
  | some (val, t7) => if 2 < kind ∨ (⟨ba row, ba fam, ba qual, (ts : Int), (kind : Int), ba val⟩ : Ent).vld = false then none else some (⟨ba row, ba fam, ba qual, (ts : Int), (kind : Int), ba val⟩, t7)
def eT4 (row fam qual : List UInt8) (ts : Nat) (t5 : List UInt8) : Option (Ent × List UInt8) :=
  match getNum t5 with
  | none => none
  | some (kind, t6) => eT5 row fam qual ts kind t6
def eT3 (row fam qual t4 : List UInt8) : Option (Ent × List UInt8) :=
  match getNum t4 with
  | none => none
  | some (ts, t5) => eT4 row fam qual ts t5
def eT2 (row fam t3 : List UInt8) : Option (Ent × List UInt8) :=
  match getStr t3 with
  | none => none
  | some (qual, t4) => eT3 row fam qual t4
def eT1 (row t2 : List UInt8) : Option (Ent × List UInt8) :=
  match getStr t2 with
  | none => none
  | some (fam, t3) => eT2 row fam t3
theorem getEnt_row (b xs : List UInt8) : getEnt b xs = match getRow b xs with | none => none | some (row, t) => eT1 row t := by
  unfold getRow getEnt
  cases getNum xs with
  | none => rfl
  | some p =>
    obtain ⟨n, t1⟩ := p
    simp only []
    cases getStr t1 with
    | none =>
      simp only []
      by_cases h : b.length < n
      · rw [if_pos h]
      · rw [if_neg h]
    | some q =>
      obtain ⟨rest, t2⟩ := q
      simp only []
      by_cases h : b.length < n
      · rw [if_pos h, if_pos h]
      · rw [if_neg h, if_neg h]
        by_cases hs : shared b (b.take n ++ rest) = n
        · rw [if_pos hs]
          simp only [hs, not_true_eq_false, false_or]
          unfold eT1
          cases getStr t2 with
          | none => rfl
          | some q1 =>
            obtain ⟨fam, t3⟩ := q1
            simp only [eT2]
            cases getStr t3 with
            | none => rfl
            | some q2 =>
              obtain ⟨qual, t4⟩ := q2
              simp only [eT3]
              cases getNum t4 with
              | none => rfl
              | some q3 =>
                obtain ⟨ts, t5⟩ := q3
                simp only [eT4]
                cases getNum t5 with
                | none => rfl
                | some q4 =>
                  obtain ⟨kind, t6⟩ := q4
                  simp only [eT5]
                  all_goals (cases getStr t6 <;> rfl)
        · rw [if_neg hs]
          simp only [hs, not_false_eq_true, true_or, or_true, if_true]
          cases getStr t2 with
          | none => rfl
          | some q1 =>
            simp only []
            cases getStr q1.2 with
            | none => rfl
            | some q2 =>
              simp only []
              cases getNum q2.2 with
              | none => rfl
              | some q3 =>
                simp only []
                cases getNum q3.2 with
                | none => rfl
                | some q4 =>
                  simp only []
                  cases getStr q4.2 <;> rfl
theorem vE_kind {r f q v : ByteArray} {k : Int} (h : k < 0 ∨ 2 < k) : vE r f q k v = false := by
  unfold vE
  simp
  omega
end Go.Proofs.YtlgeffinhbodeaeGreatDoor

