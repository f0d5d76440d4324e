import Derived.Deep.QuietTactic
import Derived.BigQuiet
import Derived.WalkLawsBesides
import Derived.LaidEql
import Derived.Stop.Asserts
import Derived.RowKitTokens
import Derived.Recover
import Derived.Deep.WholeRow
import Derived.Laws.Rows
import Derived.Laws.Tables
import Derived.Lib.SlBytesRow
import Derived.Test.YtnncedndlhfdkacDoorPkAA
/-
  laws' eqFileRes, markFileRes, heldFileRes, markByteS.
-/
namespace Go.Proofs.YtnncedndlhfdkacDoor
open Go.ChangeShapes Go.WideShapes Go.ChangeAt Go.RowKit Go.Deep
set_option linter.unusedVariables false
set_option linter.unusedSimpArgs false
set_option maxRecDepth 100000

theorem OwnU.slice {w : World} {base : Nat} {u : Value} {R : List Ent} (h : OwnU w base u R) : ∃ a n c, u = .slice a n c := by
  rcases h with ⟨rfl, _⟩ | ⟨g, cp, rfl, _⟩
  · exact ⟨_, _, _, rfl⟩
  · exact ⟨_, _, _, rfl⟩
theorem OwnU.below {w w' : World} {base : Nat} {u : Value} {R : List Ent} (h : OwnU w base u R) (hb : Below w.heap.size w w') : OwnU w' base u R := h.kept (grown_of_below hb none) (fun g q => by cases q)
set_option maxHeartbeats 1000000 in
theorem eqFileRes_same (err : Int) (a : Option Addr) (n c : Nat) (a' : Option Addr) (n' c' : Nat) (es : List Ent) (base base' : Nat) (w : World) (h : OwnU w base (.slice a n c) es) (h' : OwnU w base' (.slice a' n' c') es) :
    Calls Tryd.prog 7 #[.agg #[.int .i64 err, .slice a n c], .agg #[.int .i64 err, .slice a' n' c']] w fun e w' => e = .returned (.bool true) ∧ Below w.heap.size w w' := by
  obtain ⟨W, hW⟩ : ∃ W : World, W = (w.alloc (Obj.cells #[.int .i64 err, .slice a n c] 27)).alloc (Obj.cells #[.int .i64 err, .slice a' n' c'] 27) := ⟨_, rfl⟩
  have hb : Below w.heap.size w W := by rw [hW]; exact ((Below.refl _ _).alloc (Nat.le_refl _) _).alloc (by simp) _
  have HU : Hid (OwnU W base (.slice a n c) es ∧ OwnU W base' (.slice a' n' c') es) := ⟨h.below hb, h'.below hb⟩
  clear h h'
  go_enter Tryd.func7, Tryd.ntmps7
  go_wp2_with fail
  rw [← hW]
  refine (eqRun_any (.slice a n c) (.slice a' n' c') es _ HU.out.1.ins HU.out.2.ins).mono ?_
  rintro e w1 ⟨rfl, hb1⟩
  clear hW
  go_wp2_with fail
  go_ret
  exact ⟨rfl, hb.trans (hb1.mono hb.size)⟩
set_option maxHeartbeats 1000000 in
theorem markFileRes_own (err : Int) (a : Option Addr) (n c : Nat) (base : Nat) (R : List Ent) (w : World) (h : OwnU w base (.slice a n c) R) (hn : R.length ≤ 1048576) (hbase : base ≤ w.heap.size) :
    Calls Tryd.prog 10 #[.agg #[.int .i64 err, .slice a n c], .int .i64 1] w fun e w' =>
      ∃ R', e = .returned (.int .i64 (1 + R.length * 6)) ∧ OwnU w' base (.slice a n c) R' ∧ R'.length = R.length ∧ marked 1 R' R'.length ∧ w.grownBy w' (Value.slice a n c).ownBlock := by
  obtain ⟨W, hW⟩ : ∃ W : World, W = w.alloc (Obj.cells #[.int .i64 err, .slice a n c] 27) := ⟨_, rfl⟩
  have hb : Below w.heap.size w W := by rw [hW]; exact (Below.refl _ _).alloc (Nat.le_refl _) _
  have HU : Hid (OwnU W base (.slice a n c) R) := h.below hb
  clear h
  go_enter Tryd.func10, Tryd.ntmps10
  go_wp2_with fail
  rw [← hW]
  refine (markRun_own base (.slice a n c) R 1 _ HU.out (by omega) (by omega) hn (Nat.le_trans hbase hb.size)).mono ?_
  rintro e w1 ⟨R', rfl, hU', hl, hm, hg1⟩
  have HF : Hid (OwnU w1 base (.slice a n c) R' ∧ R'.length = R.length ∧ marked 1 R' R'.length ∧ w.grownBy w1 (Value.slice a n c).ownBlock) := ⟨hU', hl, hm, (grown_of_below hb _).trans hg1⟩
  clear hU' hl hm hg1 hW
  go_wp2_with fail
  go_ret
  exact ⟨R', rfl, HF.out.1, HF.out.2.1, HF.out.2.2.1, HF.out.2.2.2⟩
set_option maxHeartbeats 1000000 in
theorem heldFileRes_own (err : Int) (a : Option Addr) (n c : Nat) (base : Nat) (R : List Ent) (w : World) (h : OwnU w base (.slice a n c) R) (hm : marked 1 R R.length) (hn : R.length ≤ 1048576) :
    Calls Tryd.prog 11 #[.agg #[.int .i64 err, .slice a n c], .int .i64 1] w fun e w' => e = .returned (.int .i64 (1 + R.length * 6)) ∧ Below w.heap.size w w' := by
  obtain ⟨W, hW⟩ : ∃ W : World, W = w.alloc (Obj.cells #[.int .i64 err, .slice a n c] 27) := ⟨_, rfl⟩
  have hb : Below w.heap.size w W := by rw [hW]; exact (Below.refl _ _).alloc (Nat.le_refl _) _
  have HU : Hid (OwnU W base (.slice a n c) R ∧ marked 1 R R.length) := ⟨h.below hb, hm⟩
  clear h hm
  go_enter Tryd.func11, Tryd.ntmps11
  go_wp2_with fail
  rw [← hW]
  refine (heldRun_own base (.slice a n c) R 1 _ HU.out.1 HU.out.2 (by omega) (by omega) hn).mono ?_
  rintro e w1 ⟨rfl, hb1⟩
  clear hW
  have hge : 0 ≤ 1 + (R.length : Int) * 6 := by omega
  go_wp2_with fail
  go_ret
  exact ⟨rfl, hb.trans (hb1.mono hb.size)⟩
set_option maxHeartbeats 1000000 in
theorem markByteS_own (base g cp : Nat) (xs : List UInt8) (w : World) (h : OwnY w base g cp xs) (hn : xs.length ≤ 1048576) :
    Calls Tryd.prog 9 #[.slice (some ⟨g, 0, none⟩) xs.length cp, .int .i64 1] w fun e w' => e = .returned (.int .i64 (1 + xs.length)) ∧ w.grownBy w' (some g) := by
  have HO : Hid (OwnY w base g cp xs) := h
  clear h
  go_enter Tryd.func9, Tryd.ntmps9
  go_wp2_with fail
  go_loopw [1, 5] (fun c i wr => ∃ (k : Nat) (ys : List UInt8), k ≤ xs.length ∧ c = .int .i64 (1 + (k : Int)) ∧ i = .int .i64 k ∧ ys.length = xs.length ∧ OwnY wr base g cp ys ∧ w.grownBy wr (some g)) (fun _ i _ => xs.length - (intOf i).toNat)
  case atStart => exact ⟨0, xs, Nat.zero_le _, rfl, rfl, rfl, HO.out, grown_of_below (Below.refl _ _) _⟩
  case round =>
    obtain ⟨k, ys, hk, rfl, rfl, hyl, hY, hG⟩ := hrel
    have HY : Hid (OwnY wr base g cp ys ∧ w.grownBy wr (some g) ∧ ys.length = xs.length) := ⟨hY, hG, hyl⟩
    clear hY hG hyl
    by_cases hlt : k < xs.length
    · obtain ⟨y, hy⟩ : ∃ y, ys[k]? = some y := ⟨_, List.getElem?_eq_getElem (by rw [HY.out.2.2]; exact hlt)⟩
      have d0 := HY.out.1.at k y hy
      rw [Nat.zero_add] at d0
      have fz : wr.frozen? ⟨g, k, none⟩ = false := World.ownsRow.frozenAt HY.out.1 k
      have z : (k : Int) < (xs.length : Int) := by omega
      obtain ⟨x, hx⟩ : ∃ x : UInt8, x = UInt8.ofNat (1 + k) := ⟨_, rfl⟩
      have hv : IntKind.u8.wrap (1 + (k : Int)) = (x.toNat : Int) := by
        rw [hx, UInt8.toNat_ofNat']
        simp only [IntKind.wrap, IntKind.bits, IntKind.signed, Bool.false_and, Bool.false_eq_true, if_false]
        omega
      have HN : Hid (OwnY (wr.setCell ⟨g, k, none⟩ (ub x)) base g cp (ys.set k x) ∧ w.grownBy (wr.setCell ⟨g, k, none⟩ (ub x)) (some g)) := ⟨HY.out.1.set k x, HY.out.2.1.trans (grown_set wr g k (ub x))⟩
      clear hy hx
      go_wp2_with fail
      exact ⟨⟨k + 1, ys.set k x, by omega, by (first | rfl | (congr 1 <;> omega)), by go_num, by rw [List.length_set]; exact HY.out.2.2, HN.out.1, HN.out.2⟩, by simp [intOf]; omega⟩
    · have z : ¬ (k : Int) < (xs.length : Int) := by omega
      obtain rfl : k = xs.length := by omega
      go_wp2_with fail
      go_ret
      exact ⟨rfl, HY.out.2.1⟩
end Go.Proofs.YtnncedndlhfdkacDoor

/-
  Variables of a struct's type that lie in memory, as rows of one element.
-/
namespace Go.Proofs.YtnncedndlhfdkacDoor
open Go.ChangeShapes Go.WideShapes Go.ChangeAt Go.RowKit Go.Deep
set_option linter.unusedVariables false

def BoxAt (w : World) (base t sz g : Nat) (vs : List Value) : Prop := w.ownsRow base t sz (.slice (some ⟨g, 0, none⟩) 1 1) 1 vs
theorem BoxAt.len {w : World} {base t sz g : Nat} {vs : List Value} (h : BoxAt w base t sz g vs) : vs.length = sz := by have := h.1; omega
theorem BoxAt.lt {w : World} {base t sz g : Nat} {vs : List Value} (h : BoxAt w base t sz g vs) : base ≤ g ∧ g < w.heap.size := World.ownsRow.lt h g rfl
theorem BoxAt.chg {S : Nat → Prop} {w w' : World} {base t sz g : Nat} {vs : List Value} (h : BoxAt w base t sz g vs) (hc : Chg S w w') (hn : ¬ S g) : BoxAt w' base t sz g vs := own_chg h hc (fun k q => by simp [Value.ownBlock] at q; subst q; exact hn)
theorem BoxAt.below {w w' : World} {base t sz g : Nat} {vs : List Value} (h : BoxAt w base t sz g vs) (hb : Below w.heap.size w w') : BoxAt w' base t sz g vs := h.chg (Chg.of_below hb) (S := fun _ => False) (fun q => q)
theorem BoxAt.cell {w : World} {base t sz g : Nat} {vs : List Value} (h : BoxAt w base t sz g vs) {j : Nat} {v : Value} (hv : vs[j]? = some v) : w.cell? ⟨g, j, none⟩ = some v := by
  have hj := (List.getElem?_eq_some_iff.1 hv).1
  rw [World.ownsRow.cellAt h j (by have := h.len; omega), hv]
theorem BoxAt.frozen {w : World} {base t sz g : Nat} {vs : List Value} (h : BoxAt w base t sz g vs) (j : Nat) : w.frozen? ⟨g, j, none⟩ = false := World.ownsRow.frozenAt h j
theorem BoxAt.set {w : World} {base t sz g : Nat} {vs : List Value} (h : BoxAt w base t sz g vs) (j : Nat) (u : Value) : BoxAt (w.setCell ⟨g, j, none⟩ u) base t sz g (vs.set j u) := (World.ownsRow.stored h j u).1
theorem BoxAt.beside {w : World} {base t sz g : Nat} {vs : List Value} (h : BoxAt w base t sz g vs) {k : Nat} (hk : ¬ g = k) (j : Nat) (u : Value) : BoxAt (w.setCell ⟨k, j, none⟩ u) base t sz g vs := h.chg (Chg.of_set w k j u (S := fun q => q = k) rfl) hk
theorem boxAt_new (w : World) {base t sz : Nat} (cs : Array Value) (hb : base ≤ w.heap.size) (hs : cs.size = sz) : BoxAt (w.alloc (.cells cs t)) base t sz w.heap.size cs.toList :=
  World.ownsRow_lit w cs 1 hb (by decide) (by omega)
/-- Three cells stored. -/
def set3 (w : World) (g : Nat) (a b c : Value) : World := ((w.setCell ⟨g, 0, none⟩ a).setCell ⟨g, 1, none⟩ b).setCell ⟨g, 2, none⟩ c
theorem BoxAt.set3 {w : World} {base t g : Nat} {vs : List Value} (h : BoxAt w base t 3 g vs) (a b c : Value) : BoxAt (set3 w g a b c) base t 3 g [a, b, c] := by
  have h1 := ((h.set 0 a).set 1 b).set 2 c
  have hl := h.len
  match vs, hl with
  | [x, y, z], _ => exact h1
theorem BoxAt.beside3 {w : World} {base t sz g : Nat} {vs : List Value} (h : BoxAt w base t sz g vs) {k : Nat} (hk : ¬ g = k) (a b c : Value) : BoxAt (Go.Proofs.YtnncedndlhfdkacDoor.set3 w k a b c) base t sz g vs :=
  ((h.beside hk 0 a).beside hk 1 b).beside hk 2 c
theorem below_set {B : Nat} {a w : World} (h : Below B a w) {k : Nat} (hk : B ≤ k) (j : Nat) (u : Value) : Below B a (w.setCell ⟨k, j, none⟩ u) := h.setCell (p := ⟨k, j, none⟩) hk u
theorem below_set3 {B : Nat} {a w : World} (h : Below B a w) {k : Nat} (hk : B ≤ k) (x y z : Value) : Below B a (set3 w k x y z) := below_set (below_set (below_set h hk 0 x) hk 1 y) hk 2 z
theorem size_set (w : World) (k j : Nat) (u : Value) : (w.setCell ⟨k, j, none⟩ u).heap.size = w.heap.size := by
  simp [World.setCell]
end Go.Proofs.YtnncedndlhfdkacDoor

/-
  Reading a number byte by byte (mathematics).
-/
namespace Go.Proofs.YtnncedndlhfdkacDoor
set_option linter.unusedVariables false
set_option linter.unusedSimpArgs false

/-- What 'k' bytes read, of the value 'acc', make of the number that follows. -/
def cont (k acc : Nat) (o : Option (Nat × List UInt8)) : Option (Nat × List UInt8) :=
  match o with
  | none => none
  | some (m, t) => if 0 < k ∧ m = 0 then none else some (acc + 128 ^ k * m, t)
theorem cont_zero (o : Option (Nat × List UInt8)) : cont 0 0 o = o := by
  cases o with
  | none => rfl
  | some p => obtain ⟨m, t⟩ := p; simp [cont]
theorem cont_more {k acc : Nat} {x : UInt8} {t : List UInt8} (hx : ¬ x.toNat < 128) : cont k acc (getAny (x :: t)) = cont (k + 1) (acc + x.toNat % 128 * 128 ^ k) (getAny t) := by
  rw [getAny, if_neg hx]
  cases hg : getAny t with
  | none => rfl
  | some p =>
    obtain ⟨m, u⟩ := p
    have h2 := u8lt x
    by_cases hm : m = 0
    · subst hm
      simp [cont]
    · simp only [cont]
      rw [if_neg hm]
      simp only []
      rw [if_neg (by omega), if_neg (by omega)]
      have h1 : x.toNat % 128 = x.toNat - 128 := by omega
      rw [h1, Nat.mul_add, Nat.pow_succ, Nat.mul_comm (x.toNat - 128), Nat.mul_assoc]
      simp [Nat.add_assoc]
/-- The number read so far and what follows. -/
structure NumTo (ys : List UInt8) (k acc : Nat) : Prop where
  eq : getAny ys = cont k acc (getAny (ys.drop k))
  lt : acc < 128 ^ k
  len : k ≤ ys.length
theorem numTo_zero (ys : List UInt8) : NumTo ys 0 0 := ⟨by rw [cont_zero]; rfl, by simp, Nat.zero_le _⟩
theorem NumTo.more {ys : List UInt8} {k acc : Nat} {x : UInt8} (h : NumTo ys k acc) (hx : ys[k]? = some x) (h8 : ¬ x.toNat < 128) : NumTo ys (k + 1) (acc + x.toNat % 128 * 128 ^ k) := by
  have hk := (List.getElem?_eq_some_iff.1 hx).1
  have hd : ys.drop k = x :: ys.drop (k + 1) := by rw [List.drop_eq_getElem_cons hk, (List.getElem?_eq_some_iff.1 hx).2]
  have h1 := h.lt
  refine ⟨?_, ?_, hk⟩
  · rw [h.eq, hd, cont_more h8]
  · have h2 : x.toNat % 128 ≤ 127 := by omega
    have h3 : x.toNat % 128 * 128 ^ k ≤ 127 * 128 ^ k := Nat.mul_le_mul_right _ h2
    rw [Nat.pow_succ]
    omega
theorem pow9 {k : Nat} (h : k ≤ 9) : 128 ^ k ≤ 9223372036854775808 := by
  have := Nat.pow_le_pow_right (n := 128) (by omega) h
  exact Nat.le_trans this (by decide)
theorem pow8 {k : Nat} (h : k ≤ 8) : 128 ^ k ≤ 72057594037927936 := by
  have := Nat.pow_le_pow_right (n := 128) (by omega) h
  exact Nat.le_trans this (by decide)
/-- Nothing follows. -/
theorem NumTo.none {ys : List UInt8} {k acc : Nat} (h : NumTo ys k acc) (hk : ys.length ≤ k) : getNum ys = Option.none := by
  unfold getNum
  rw [h.eq, List.drop_of_length_le hk]
  rfl
/-- The tenth byte is too great. -/
theorem NumTo.great {ys : List UInt8} {acc : Nat} {x : UInt8} (h : NumTo ys 9 acc) (hx : ys[9]? = some x) (h1 : 1 < x.toNat) : getNum ys = Option.none := by
  have hk := (List.getElem?_eq_some_iff.1 hx).1
  have hd : ys.drop 9 = x :: ys.drop (9 + 1) := by rw [List.drop_eq_getElem_cons hk, (List.getElem?_eq_some_iff.1 hx).2]
  unfold getNum
  rw [h.eq, hd]
  by_cases h8 : x.toNat < 128
  · rw [getAny, if_pos h8]
    simp only [cont]
    rw [if_neg (by omega)]
    simp only []
    rw [if_neg (by omega)]
  · rw [cont_more h8]
    cases hg : getAny (ys.drop (9 + 1)) with
    | none => rfl
    | some p =>
      obtain ⟨m, u⟩ := p
      simp only [cont]
      by_cases hm : m = 0
      · rw [if_pos ⟨by omega, hm⟩]
      · rw [if_neg (by omega)]
        simp only []
        rw [if_neg (by omega)]
theorem NumTo.bound {ys : List UInt8} {k acc y : Nat} (h : NumTo ys k acc) (hk9 : k ≤ 9) (h9 : k = 9 → y ≤ 1) : acc + y % 128 * 128 ^ k < 2 ^ 64 := by
  have hlt := h.lt
  by_cases q : k = 9
  · subst q
    have := h9 rfl
    have : y % 128 * 128 ^ 9 ≤ 1 * 128 ^ 9 := Nat.mul_le_mul_right _ (by omega)
    omega
  · have h1 := pow8 (k := k) (by omega)
    have h2 : y % 128 * 128 ^ k ≤ 127 * 72057594037927936 := Nat.mul_le_mul (by omega) h1
    omega
/-- The last byte. -/
theorem NumTo.last {ys : List UInt8} {k acc : Nat} {x : UInt8} (h : NumTo ys k acc) (hx : ys[k]? = some x) (h8 : x.toNat < 128) (hk9 : k ≤ 9) (h9 : k = 9 → x.toNat ≤ 1) :
    (0 < k ∧ x.toNat = 0 → getNum ys = Option.none) ∧ (¬ (0 < k ∧ x.toNat = 0) → getNum ys = some (acc + x.toNat % 128 * 128 ^ k, ys.drop (k + 1)) ∧ acc + x.toNat % 128 * 128 ^ k < 2 ^ 64) := by
  have hk := (List.getElem?_eq_some_iff.1 hx).1
  have hd : ys.drop k = x :: ys.drop (k + 1) := by rw [List.drop_eq_getElem_cons hk, (List.getElem?_eq_some_iff.1 hx).2]
  have he : getAny ys = cont k acc (some (x.toNat, ys.drop (k + 1))) := by rw [h.eq, hd, getAny, if_pos h8]
  have hlt := h.lt
  have hb : acc + x.toNat % 128 * 128 ^ k < 2 ^ 64 := by
    by_cases q : k = 9
    · subst q
      have := h9 rfl
      have : x.toNat % 128 * 128 ^ 9 ≤ 1 * 128 ^ 9 := Nat.mul_le_mul_right _ (by omega)
      omega
    · have h1 := pow8 (k := k) (by omega)
      have h2 : x.toNat % 128 * 128 ^ k ≤ 127 * 72057594037927936 := Nat.mul_le_mul (by omega) h1
      omega
  unfold getNum
  rw [he]
  simp only [cont]
  constructor
  · intro q
    rw [if_pos q]
  · intro q
    rw [if_neg q]
    simp only []
    rw [Nat.mod_eq_of_lt h8, Nat.mul_comm] at hb
    rw [if_pos hb, Nat.mod_eq_of_lt h8, Nat.mul_comm x.toNat]
    exact ⟨rfl, hb⟩
end Go.Proofs.YtnncedndlhfdkacDoor

/-
  A region that draws its order and in which an operation, a call, ends in a panic: one walk in the order of the text. That operation and those behind it are taken out by
  stand-ins that leave a mark; the values of its operands, as they are when all has come up, are those that it finds.
-/
namespace Go.Proofs.YtnncedndlhfdkacDoor
open Go.ChangeShapes Go.WideShapes Go.ChangeAt Go.RowKit Go.Deep
set_option linter.unusedVariables false
set_option linter.unusedSimpArgs false

variable {P : Program} {C : World → Prop}
/-- The stand-in. -/
def fk (m : Value) (o : Oper) : Oper := { o with op := .move (.const m) }
/-- Every operation that lays a slot that 'o' reads is waited for by it; its own slot is nobody else's; what stands behind it waits for it. -/
def waitsB (pre : List Oper) (o : Oper) (tl : List Oper) (d : Tmp) (sl : List Tmp) : Bool :=
  sl.all (fun s => s != d && ((List.range pre.length).all (fun i => match pre[i]? with
    | some oi => oi.dst != some s || o.after.any (fun e => Region.binds .any e && e.on == i)
    | none => true) && tl.all (fun oi => oi.dst != some s))) && pre.all (fun oi => oi.dst != some d) && tl.all (fun oi => oi.dst != some d && oi.after.any (fun e => Region.binds .any e && Nat.ble pre.length e.on))
theorem get_part (pre tl : List Oper) (i : Nat) : (pre ++ tl).toArray[i]? = if i < pre.length then pre[i]? else tl[i - pre.length]? := by
  rw [List.getElem?_toArray]
  by_cases h : i < pre.length
  · rw [if_pos h, List.getElem?_append_left h]
  · rw [if_neg h, List.getElem?_append_right (by omega)]
theorem ready_fk (m : Value) (pre tl : List Oper) (listed : Array Bool) : Region.ready .any (pre ++ tl.map (fk m)).toArray listed = Region.ready .any (pre ++ tl).toArray listed := by
  unfold Region.ready
  have hz : (pre ++ tl.map (fk m)).toArray.size = (pre ++ tl).toArray.size := by simp
  rw [hz]
  congr 1
  funext i
  rw [get_part, get_part]
  by_cases h : i < pre.length
  · rw [if_pos h, if_pos h]
  · rw [if_neg h, if_neg h, List.getElem?_map]
    cases tl[i - pre.length]? <;> rfl
theorem yielded_fk (m : Value) (pre tl : List Oper) (tmps : Array Value) : yielded (pre ++ tl.map (fk m)).toArray tmps = yielded (pre ++ tl).toArray tmps := by
  funext j
  unfold yielded
  rw [get_part, get_part]
  by_cases h : j < pre.length
  · rw [if_pos h, if_pos h]
  · rw [if_neg h, if_neg h, List.getElem?_map]
    cases tl[j - pre.length]? <;> rfl
theorem put_getD (a : Act) (dst : Option Tmp) (v : Value) (s : Tmp) (h : dst ≠ some s) : (a.put dst v).tmps.getD s undef = a.tmps.getD s undef := by
  cases dst with
  | none => rfl
  | some t =>
    have hts : t ≠ s := fun q => h (by rw [q])
    show (a.tmps.setIfInBounds t v).getD s undef = _
    rw [Array.getD_eq_getD_getElem?, Array.getD_eq_getD_getElem?, Array.getElem?_setIfInBounds_ne hts]
theorem put_defers (a : Act) (dst : Option Tmp) (v : Value) : (a.put dst v).defers = a.defers := by cases dst <;> rfl
theorem listed_set (listed : Array Bool) (i j : Nat) (d : Bool) (h : listed.getD j d = true) : (listed.setIfInBounds i true).getD j d = true := by
  rw [Array.getD_eq_getD_getElem?] at h ⊢
  by_cases q : i = j
  · subst q
    rw [Array.getElem?_setIfInBounds_self]
    split
    · rfl
    · next hl => rw [Array.getElem?_eq_none (by omega)] at h; exact h
  · rw [Array.getElem?_setIfInBounds_ne q]; exact h
/-- A slot that nobody lays any more holds what it holds at the end. -/
theorem slot_end {ops : Array Oper} {Q : Act → Prop} (s : Tmp) (x : Value) (hQ : ∀ a, Q a → a.tmps.getD s undef = x) : ∀ (fuel : Nat) (listed : Array Bool) (a : Act), wpAnyQ P .any ops C Q fuel listed a →
    (∀ i oi, ops[i]? = some oi → oi.dst = some s → listed.getD i true = true) → a.tmps.getD s undef = x
  | 0, listed, a, h, _ => hQ a h.2
  | fuel + 1, listed, a, h, hl => by
    cases hr : Region.ready .any ops listed with
    | nil => exact hQ a (h.1 hr)
    | cons i rest =>
      have hi : i ∈ Region.ready .any ops listed := by rw [hr]; simp
      have hq := h.2 i hi
      obtain ⟨hun, oi, hoi, _⟩ := mem_ready.1 hi
      have hd : oi.dst ≠ some s := fun e => by
        have := hl i oi hoi e
        rw [hun] at this; cases this
      have hl' : ∀ j oj, ops[j]? = some oj → oj.dst = some s → (listed.setIfInBounds i true).getD j true = true := fun j oj hj e => listed_set _ _ _ _ (hl j oj hj e)
      unfold qOp at hq
      simp only [hoi] at hq
      split at hq
      · obtain ⟨v, _, h2⟩ := hq
        have := slot_end s x hQ fuel _ _ h2 hl'
        rwa [put_getD _ _ _ _ hd] at this
      · have := slot_end s x hQ fuel _ _ hq hl'
        rwa [put_getD _ _ _ _ hd] at this
theorem any_of_fk {m : Value} {Q : Exit → Act → World → Prop} {pre tl : List Oper} {o : Oper} {D : List Deferred} (d : Tmp) (sl : List (Tmp × Value)) (hB2 : waitsB pre o tl d (sl.map (·.1)) = true) (hdst : o.dst = some d) (hg : o.guard = none)
    (hop : ∀ (a' : Act) (w' : World) (K : Act → World → Prop), C w' → a'.defers = D → (∀ p ∈ sl, a'.tmps.getD p.1 undef = p.2) → o.wp P a' w' K Q) :
    ∀ (fuel : Nat) (listed : Array Bool) (a : Act) (w : World), wpAnyQ P .any (pre ++ (o :: tl).map (fk m)).toArray C (fun a' => a'.tmps.getD d undef = m ∧ ∀ p ∈ sl, a'.tmps.getD p.1 undef = p.2) fuel listed a → C w →
      a.tmps.getD d undef ≠ m → a.defers = D → (∀ j, pre.length ≤ j → listed.getD j false = false) → wpAny P .any (pre ++ o :: tl).toArray Q fuel listed a w
  | 0, listed, a, w, h, _, hm, _, _ => absurd h.2.1 hm
  | fuel + 1, listed, a, w, h, hw, hm, hD, hJ => by
    have hB3 := hB2
    simp only [waitsB, Bool.and_eq_true, List.all_eq_true] at hB2
    obtain ⟨⟨hS, hP⟩, hT⟩ := hB2
    refine ⟨fun hr => absurd (h.1 (by rw [ready_fk]; exact hr)).1 hm, fun i hi => ?_⟩
    have hq := h.2 i (by rw [ready_fk]; exact hi)
    obtain ⟨hun, oi, hoi, hdep⟩ := mem_ready.1 hi
    rw [get_part] at hoi
    unfold wpOp
    unfold qOp at hq
    rw [get_part] at hq ⊢
    by_cases hlt : i < pre.length
    · rw [if_pos hlt] at hoi hq ⊢
      have hne : oi.dst ≠ some d := by
        have := hP oi (List.mem_of_getElem? hoi)
        simpa using this
      have hJ' : ∀ j, pre.length ≤ j → (listed.setIfInBounds i true).getD j false = false := by
        intro j hj
        have := hJ j hj
        rw [Array.getD_eq_getD_getElem?] at this ⊢
        rw [Array.getElem?_setIfInBounds_ne (by omega)]
        exact this
      simp only [hoi] at hq ⊢
      rw [yielded_fk] at hq
      split
      · next hwt =>
        rw [if_pos hwt] at hq
        obtain ⟨v, h1, h2⟩ := hq
        refine .inl (Oper.wp_of_quiet (K := fun a' => wpAnyQ P .any (pre ++ (o :: tl).map (fk m)).toArray C (fun a' => a'.tmps.getD d undef = m ∧ ∀ p ∈ sl, a'.tmps.getD p.1 undef = p.2) fuel (listed.setIfInBounds i true) a' ∧ a'.tmps.getD d undef ≠ m ∧ a'.defers = D) hw ?_ ⟨v, h1, h2, by rw [put_getD _ _ _ _ hne]; exact hm, by rw [put_defers]; exact hD⟩)
        intro a' w' hw' hk
        exact any_of_fk d sl hB3 hdst hg hop fuel _ a' w' hk.1 hw' hk.2.1 hk.2.2 hJ'
      · next hwt =>
        rw [if_neg hwt] at hq
        exact any_of_fk d sl hB3 hdst hg hop fuel _ _ w hq hw (by rw [put_getD _ _ _ _ hne]; exact hm) (by rw [put_defers]; exact hD) hJ'
    · rw [if_neg hlt] at hoi hq ⊢
      by_cases hn : i = pre.length
      · rw [hn, Nat.sub_self] at hoi hq ⊢
        simp only [List.getElem?_cons_zero, List.map_cons, Option.some.injEq] at hoi hq ⊢
        have hw1 : ∀ y, Region.wanted o y = true := fun y => by unfold Region.wanted; rw [hg]
        have hw2 : ∀ y, Region.wanted (fk m o) y = true := fun y => by unfold Region.wanted; show (match o.guard with | none => true | some (j, want) => y j == some want) = true; rw [hg]
        simp only [hw1, hw2, if_true] at hq ⊢
        obtain ⟨v, _, h2⟩ := hq
        refine .inl (hop a w _ hw hD fun p hp => ?_)
        have hps := hS p.1 (List.mem_map.2 ⟨p, hp, rfl⟩)
        have hpd : (some d : Option Tmp) ≠ some p.1 := by
          have := hps.1
          intro q
          cases q
          simp at this
        have h3 := slot_end (C := C) p.1 p.2 (fun a' h => h.2 p hp) fuel _ _ h2 (by
          intro j oj hj e
          rw [get_part] at hj
          by_cases hjl : j < pre.length
          · rw [if_pos hjl] at hj
            have h4 := hps.2.1 j (List.mem_range.2 hjl)
            simp only [hj, Bool.or_eq_true] at h4
            rcases h4 with h4 | h4
            · rw [e] at h4; simp at h4
            · rw [Array.any_eq_true'] at h4
              obtain ⟨ed, hed, h5⟩ := h4
              simp only [Bool.and_eq_true, beq_iff_eq] at h5
              have h6 := hdep ed (by rw [← hoi]; exact hed) h5.1
              rw [h5.2] at h6
              refine listed_set _ _ _ _ ?_
              rw [Array.getD_eq_getD_getElem?] at h6 ⊢
              cases hx : listed[j]? with
              | none => rfl
              | some y => rw [hx] at h6; exact h6
          · rw [if_neg hjl] at hj
            obtain ⟨k, hk⟩ : ∃ k, j - pre.length = k := ⟨_, rfl⟩
            rw [hk, ← List.map_cons, List.getElem?_map] at hj
            cases k with
            | zero =>
              simp only [List.getElem?_cons_zero, Option.map_some, Option.some.injEq] at hj
              rw [← hj] at e
              exact absurd (hdst.symm.trans e) hpd
            | succ k =>
              simp only [List.getElem?_cons_succ] at hj
              cases ht : tl[k]? with
              | none => rw [ht] at hj; cases hj
              | some ot =>
                rw [ht] at hj
                simp only [Option.map_some, Option.some.injEq] at hj
                have h7 := hps.2.2 ot (List.mem_of_getElem? ht)
                rw [← hj] at e
                have e2 : ot.dst = some p.1 := e
                rw [e2] at h7
                simp at h7)
        have hfd : (fk m o).dst = some d := hdst
        rwa [hfd, put_getD _ _ _ _ hpd] at h3
      · exfalso
        obtain ⟨k, hk⟩ : ∃ k, i - pre.length = k + 1 := ⟨i - pre.length - 1, by omega⟩
        rw [hk] at hoi
        simp only [List.getElem?_cons_succ] at hoi
        have h8 := hT oi (List.mem_of_getElem? hoi)
        rw [Array.any_eq_true'] at h8
        obtain ⟨ed, hed, h9⟩ := h8.2
        simp only [Bool.and_eq_true] at h9
        have h10 := hdep ed hed h9.1
        rw [hJ ed.on (Nat.le_of_ble_eq_true h9.2)] at h10
        cases h10
/-- The region. -/
theorem wp_region_dies {id : Nat} {Q : Exit → Act → World → Prop} {a : Act} {w : World} (pre : List Oper) (o : Oper) (tl : List Oper) (d : Tmp) (sl : List (Tmp × Value)) (l : List Oper) (hl : l = pre ++ o :: tl) (hm : P.follows .mixedOrders = true) (hB : ∀ m, Region.lexB .any (pre ++ (o :: tl).map (fk m)).toArray = true)
    (hB2 : waitsB pre o tl d (sl.map (·.1)) = true) (hdst : o.dst = some d) (hg : o.guard = none) (hC : C { w with drawn := w.drawn + 1 })
    (h : ∀ m, wpQuiet P (pre ++ (o :: tl).map (fk m)).toArray C (fun a' => a'.tmps.getD d undef = m ∧ ∀ p ∈ sl, a'.tmps.getD p.1 undef = p.2) (pre ++ (o :: tl).map (fk m)) a)
    (hop : ∀ (a' : Act) (w' : World) (K : Act → World → Prop), C w' → a'.defers = a.defers → (∀ p ∈ sl, a'.tmps.getD p.1 undef = p.2) → o.wp P a' w' K Q) : (Code.region id l.toArray true).wp P Q a w := by
  subst hl
  obtain ⟨m, h0⟩ : ∃ m, a.tmps.getD d undef ≠ m := by
    by_cases q : a.tmps.getD d undef = .bool true
    · exact ⟨.bool false, by rw [q]; intro e; cases e⟩
    · exact ⟨.bool true, q⟩
  have hBm := hB m
  simp only [Region.lexB, Bool.and_eq_true] at hBm
  refine wp_region_any hm ?_
  have h1 := wpAnyQ_lex (C := C) (md := .any) hBm.1 (pre ++ (o :: tl).map (fk m)) 0 (Array.replicate (pre ++ (o :: tl).map (fk m)).toArray.size false) a (by simp) (by simpa using hBm.2) (h m)
  have hz : (pre ++ o :: tl).toArray.size = (pre ++ (o :: tl).map (fk m)).length := by simp
  rw [hz]
  have hz2 : (pre ++ (o :: tl).map (fk m)).toArray.size = (pre ++ (o :: tl).map (fk m)).length := by simp
  rw [hz2] at h1
  refine any_of_fk d sl hB2 hdst hg hop _ _ _ _ h1 hC h0 rfl ?_
  intro j _
  rw [Array.getD_eq_getD_getElem?, Array.getElem?_replicate]
  split <;> rfl
end Go.Proofs.YtnncedndlhfdkacDoor

/-
  A region that draws its order, whose operations read and whose callees leave alone what lay there: one walk.
-/
namespace Go.Proofs.YtnncedndlhfdkacDoor
open Go.ChangeShapes Go.WideShapes Go.ChangeAt Go.RowKit Go.Deep
set_option linter.unusedVariables false

/-- A world that has grown out of 'w'. -/
structure Out (w : World) where
  u : World
  out : Below w.heap.size w u

theorem wp_region_out {id : Nat} {Q : Exit → Act → World → Prop} {a : Act} {w : World} {l : List Oper} (hm : Tryd.prog.follows .mixedOrders = true) (hB : Region.lexB .any l.toArray = true)
    (h : wpQuiet Tryd.prog l.toArray (fun w' => ∃ n : Out w, w' = n.u) (fun a' => ∀ w', (∃ n : Out w, w' = n.u) → Q .normal a' w') l a) : (Code.region id l.toArray true).wp Tryd.prog Q a w :=
  wp_region_quiet (C := fun w' => ∃ n : Out w, w' = n.u) hm hB ⟨⟨_, (Below.refl _ _).drew⟩, rfl⟩ (by simpa using h)
theorem Calls.out_of {f : FuncId} {args : Array Value} {w : World} {n : Out w} {v : Value}
    (h : Calls Tryd.prog f args n.u fun e w' => e = .returned v ∧ Below n.u.heap.size n.u w') : Calls Tryd.prog f args n.u fun e w'' => e = .returned v ∧ ∃ m : Out w, w'' = m.u :=
  h.mono fun _ w' ⟨he, hb⟩ => ⟨he, ⟨w', n.out.trans (hb.mono n.out.size)⟩, rfl⟩
theorem ents_out {w : World} {b off j : Nat} {L : List Ent} {x : Ent} (h : EntsAt w b off L) (hb : b < w.heap.size) (hx : L[j]? = some x) :
    (∀ n : Out w, n.u.cell? ⟨b, off + j * 6, none⟩ = some (.string x.row)) ∧ (∀ n : Out w, n.u.cell? ⟨b, off + j * 6 + 1, none⟩ = some (.string x.fam)) ∧ (∀ n : Out w, n.u.cell? ⟨b, off + j * 6 + 2, none⟩ = some (.string x.qual)) ∧
    (∀ n : Out w, n.u.cell? ⟨b, off + j * 6 + 3, none⟩ = some (.int .u64 x.ts)) ∧ (∀ n : Out w, n.u.cell? ⟨b, off + j * 6 + 4, none⟩ = some (.int .i64 x.kind)) ∧ (∀ n : Out w, n.u.cell? ⟨b, off + j * 6 + 5, none⟩ = some (.string x.val)) :=
  ⟨fun n => (h.below n.out hb j x hx).1, fun n => (h.below n.out hb j x hx).2.1, fun n => (h.below n.out hb j x hx).2.2.1, fun n => (h.below n.out hb j x hx).2.2.2.1, fun n => (h.below n.out hb j x hx).2.2.2.2.1, fun n => (h.below n.out hb j x hx).2.2.2.2.2⟩
end Go.Proofs.YtnncedndlhfdkacDoor

/-
  impl.demand, (*impl.byteReader).take, end.
-/
namespace Go.Proofs.YtnncedndlhfdkacDoor
open Go.ChangeShapes Go.WideShapes Go.ChangeAt Go.RowKit Go.Deep
set_option linter.unusedVariables false
set_option linter.unusedSimpArgs false
set_option maxRecDepth 100000

/-- A panic with a corruption. -/
abbrev corrV (c : Int) : Value := .iface 75 (.agg #[.int .i64 c])
abbrev Corr (c : Int) : Ending := .panicked [{ v := corrV c, recovered := false }]

set_option maxHeartbeats 1000000 in
theorem demand_yes (c : Int) (w : World) : Calls Tryd.prog 19 #[.bool true, .int .i64 c] w fun e w' => e = .returned (.tuple #[]) ∧ w' = w := by
  go_enter Tryd.func19, Tryd.ntmps19
  go_wp2_with fail
  go_end0
  exact ⟨rfl, rfl⟩
set_option maxHeartbeats 1000000 in
theorem demand_no (c : Int) (w : World) : Calls Tryd.prog 19 #[.bool false, .int .i64 c] w fun e w' => e = Corr c ∧ w' = w := by
  go_enter Tryd.func19, Tryd.ntmps19
  go_wp2_with fail
  exact ⟨rfl, rfl, rfl⟩

theorem demand_core (c : Bool) (code : Int) (w : World) : Calls Tryd.prog 19 #[.bool c, .int .i64 code] w fun e w' => w' = w ∧ ((c = true ∧ e = .returned (.tuple #[])) ∨ (c = false ∧ e = Corr code)) := by
  cases c with
  | true => exact (demand_yes code w).mono fun e w' ⟨he, hw⟩ => ⟨hw, .inl ⟨rfl, he⟩⟩
  | false => exact (demand_no code w).mono fun e w' ⟨he, hw⟩ => ⟨hw, .inr ⟨rfl, he⟩⟩

/-- A region whose last operation is a demand that does not hold. -/
theorem wp_region_demand {id : Nat} {Q : Exit → Act → World → Prop} {a : Act} {w : World} {l : List Oper} (d s : Tmp) (c : Operand) (code : Int) (sl : List (Tmp × Value)) {tys : Array TypeId} {ty : TypeId} {pos : String} {aft : Array Edge}
    (ho : l.getLast? = some ⟨some d, .call { callee := .value (.func 19), args := #[.tmp s, c], argTypes := tys }, ty, pos, aft, none⟩)
    (hB : ∀ m, Region.lexB .any (l.dropLast ++ [fk m ⟨some d, .call { callee := .value (.func 19), args := #[.tmp s, c], argTypes := tys }, ty, pos, aft, none⟩]).toArray = true)
    (hB2 : waitsB l.dropLast ⟨some d, .call { callee := .value (.func 19), args := #[.tmp s, c], argTypes := tys }, ty, pos, aft, none⟩ [] d (sl.map (·.1)) = true)
    (hs : ∀ a' : Act, (∀ p ∈ sl, a'.tmps.getD p.1 undef = p.2) → a'.eval (.tmp s) = .bool false ∧ a'.eval c = .int .i64 code)
    (hQ : ∀ (a' : Act) (w' : World), Below w.heap.size w w' → a'.defers = a.defers → Q (.panic [{ v := corrV code, recovered := false }]) a' w')
    (h : ∀ m, wpQuiet Tryd.prog (l.dropLast ++ [fk m ⟨some d, .call { callee := .value (.func 19), args := #[.tmp s, c], argTypes := tys }, ty, pos, aft, none⟩]).toArray (fun w' => ∃ n : Out w, w' = n.u) (fun a' => a'.tmps.getD d undef = m ∧ ∀ p ∈ sl, a'.tmps.getD p.1 undef = p.2) (l.dropLast ++ [fk m ⟨some d, .call { callee := .value (.func 19), args := #[.tmp s, c], argTypes := tys }, ty, pos, aft, none⟩]) a) :
    (Code.region id l.toArray true).wp Tryd.prog Q a w := by
  have hl : l = l.dropLast ++ [⟨some d, .call { callee := .value (.func 19), args := #[.tmp s, c], argTypes := tys }, ty, pos, aft, none⟩] := by
    obtain ⟨l', hl'⟩ := List.getLast?_eq_some_iff.1 ho
    rw [hl']; simp
  refine wp_region_dies (C := fun w' => ∃ n : Out w, w' = n.u) l.dropLast _ [] d sl l hl (by kernel_rfl) hB hB2 rfl rfl ⟨⟨_, (Below.refl _ _).drew⟩, rfl⟩ h ?_
  rintro a' w' K ⟨n, rfl⟩ hd hp
  obtain ⟨h1, h2⟩ := hs a' hp
  unfold Oper.wp
  have hrun : (execOp a'.eval ⟨some d, .call { callee := .value (.func 19), args := #[.tmp s, c], argTypes := tys }, ty, pos, aft, none⟩).run Tryd.prog n.u = .ok (.enter 19 #[.bool false, .int .i64 code]) n.u := by
    simp [execOp, h1, h2, go_sem, Act.eval, Tryd.func19]
    exact ⟨by have := h1; simpa [Act.eval] using this, by have h3 := h2; cases c <;> simp [Act.eval] at h3 ⊢ <;> exact h3⟩
  rw [hrun, Oper.upon_enter]
  refine (demand_no code n.u).mono ?_
  rintro e w'' ⟨rfl, rfl⟩
  exact hQ a' n.u n.out hd

theorem slots1 {a' : Act} {s : Tmp} {x : Value} (h : a'.tmps.getD s undef = x) : ∀ p ∈ [(s, x)], a'.tmps.getD p.1 undef = p.2 := by
  intro p hp
  rcases List.mem_cons.1 hp with rfl | hp
  · exact h
  · cases hp
theorem slots2 {a' : Act} {s t : Tmp} {x y : Value} (h : a'.tmps.getD s undef = x) (h2 : a'.tmps.getD t undef = y) : ∀ p ∈ [(s, x), (t, y)], a'.tmps.getD p.1 undef = p.2 := by
  intro p hp
  rcases List.mem_cons.1 hp with rfl | hp
  · exact h
  · exact slots1 h2 p hp

/-- A reader in memory, before the bytes 'xs'. -/
structure RdAt (w : World) (base g b off cap : Nat) (xs : List UInt8) (code : Int) : Prop where
  box : BoxAt w base 82 2 g [.slice (some ⟨b, off, none⟩) xs.length cap, .int .i64 code]
  bys : BysAt w b off xs
  lt : b < w.heap.size
  ne : ¬ b = g
  room : xs.length < cap
  len : xs.length ≤ 2 ^ 30
  capm : cap ≤ maxLen
theorem BysAt.chgR {S : Nat → Prop} {w w' : World} {b off : Nat} {xs : List UInt8} (h : BysAt w b off xs) (hc : Chg S w w') (hlt : b < w.heap.size) (hn : ¬ S b) : BysAt w' b off xs := by
  intro i x hx
  rw [hc.cell (p := ⟨b, off + i, none⟩) hlt hn]
  exact h i x hx
theorem BysAt.drop {w : World} {b off : Nat} {xs : List UInt8} (h : BysAt w b off xs) (n : Nat) : BysAt w b (off + n) (xs.drop n) := by
  intro i x hx
  rw [List.getElem?_drop] at hx
  have := h (n + i) x hx
  rw [Nat.add_assoc]; exact this
theorem BysAt.take {w : World} {b off : Nat} {xs : List UInt8} (h : BysAt w b off xs) (n : Nat) : BysAt w b off (xs.take n) := by
  intro i x hx
  have hi := (List.getElem?_eq_some_iff.1 hx).1
  rw [List.length_take] at hi
  rw [List.getElem?_take_of_lt (by omega)] at hx
  exact h i x hx
theorem RdAt.chg {S : Nat → Prop} {w w' : World} {base g b off cap : Nat} {xs : List UInt8} {code : Int} (h : RdAt w base g b off cap xs code) (hc : Chg S w w') (hg : ¬ S g) (hb : ¬ S b) : RdAt w' base g b off cap xs code :=
  ⟨h.box.chg hc hg, h.bys.chgR hc h.lt hb, Nat.lt_of_lt_of_le h.lt hc.size, h.ne, h.room, h.len, h.capm⟩
theorem Chg.drew {S : Nat → Prop} {a w : World} (h : Chg S a w) : Chg S a w.drew := h.trans ⟨rfl, rfl, rfl, Nat.le_refl _, fun _ _ _ => rfl⟩

set_option maxHeartbeats 400000 in
theorem take_ok (base g b off cap n : Nat) (xs : List UInt8) (code : Int) (w : World) (h : RdAt w base g b off cap xs code) (hn : n ≤ xs.length) :
    Calls Tryd.prog 51 #[.pointer (some ⟨g, 0, none⟩), .int .u64 (n : Int)] w fun e w' =>
      e = .returned (.slice (some ⟨b, off, none⟩) n cap) ∧ RdAt w' base g b (off + n) (cap - n) (xs.drop n) code ∧ Chg (fun k => k = g) w w' := by
  have HR : Hid (RdAt w base g b off cap xs code) := h
  have c0 := h.box.cell (j := 0) rfl
  have c1 := h.box.cell (j := 1) rfl
  have f0 := h.box.frozen 0
  have hr := h.room
  have hl := h.len
  have hm := h.capm
  unfold maxLen at hm
  clear h
  go_enter Tryd.func51, Tryd.ntmps51
  go_upto_region 1 with fail
  have HN : Hid (cap ≤ 2 ^ 63 - 1 ∧ xs.length < cap ∧ xs.length ≤ 2 ^ 30) := ⟨hm, hr, hl⟩
  have z1 : (n : Int) ≤ (xs.length : Int) := by omega
  have z2 : (xs.length : Int) ≤ 1073741824 := by omega
  clear hm hr hl hn
  go_quiet ((go_at_call 19; exact Calls.quiet_of_same (demand_yes _ _)))
  have z3 : (n : Int) < (cap : Int) := by have := HN.out; omega
  have z4 : ¬ cap = n := by have := HN.out; omega
  go_wp2_with fail
  go_ret
  have HR2 : RdAt (w.drewN nq) base g b off cap xs code := HR.out.chg (S := fun _ => False) (Chg.of_below (below_drewN (Below.refl _ _) _)) (fun q => q) (fun q => q)
  have hc : Chg (fun k => k = g) w ((w.drewN nq).setCell ⟨g, 0, none⟩ (.slice (some ⟨b, off + n, none⟩) (xs.length - n) (cap - n))) := (Chg.of_below (below_drewN (Below.refl _ _) _)).trans (Chg.of_set _ g 0 _ rfl)
  refine ⟨rfl, ⟨?_, ?_, ?_, HR2.ne, ?_, ?_, ?_⟩, hc⟩
  · have := HR2.box.set 0 (.slice (some ⟨b, off + n, none⟩) (xs.length - n) (cap - n))
    rw [List.length_drop]
    exact this
  · exact (HR.out.bys.chgR hc HR.out.lt HR.out.ne).drop n
  · exact Nat.lt_of_lt_of_le HR.out.lt hc.size
  · have := HR.out.room; rw [List.length_drop]; omega
  · have := HR.out.len; rw [List.length_drop]; omega
  · have := HR.out.capm; omega

theorem wrap_u64 {n : Nat} (h : n < 2 ^ 64) : IntKind.u64.wrap (n : Int) = (n : Int) := by
  simp only [IntKind.wrap, IntKind.bits, IntKind.signed, Bool.false_and, Bool.false_eq_true, if_false]
  omega
set_option maxHeartbeats 400000 in
theorem take_bad (base g b off cap n : Nat) (xs : List UInt8) (code : Int) (w : World) (h : RdAt w base g b off cap xs code) (hn : xs.length < n) (hn2 : n < 2 ^ 64) :
    Calls Tryd.prog 51 #[.pointer (some ⟨g, 0, none⟩), .int .u64 (n : Int)] w fun e w' => e = Corr code ∧ Below w.heap.size w w' := by
  have c0 := h.box.cell (j := 0) rfl
  have c1 := h.box.cell (j := 1) rfl
  have hl := h.len
  have z1 : ¬ (n : Int) ≤ (xs.length : Int) := by omega
  have z2 : (xs.length : Int) ≤ 1073741824 := by omega
  have hlt := h.box.lt.2
  have e0 : ∀ n : Out w, n.u.cell? ⟨g, 0, none⟩ = some (.slice (some ⟨b, off, none⟩) xs.length cap) := fun n => (n.out.cell (p := ⟨g, 0, none⟩) hlt).trans c0
  have e1 : ∀ n : Out w, n.u.cell? ⟨g, 1, none⟩ = some (.int .i64 code) := fun n => (n.out.cell (p := ⟨g, 1, none⟩) hlt).trans c1
  clear h hl hn hn2 c0 c1 hlt
  go_enter Tryd.func51, Tryd.ntmps51
  go_upto_region 1 with fail
  refine wp_region_demand 18 13 (.tmp 17) code [(13, .bool false), (17, .int .i64 code)] rfl (fun m => by kernel_rfl) (by kernel_rfl) (fun a' h => ⟨h (13, _) (by simp), h (17, _) (by simp)⟩) ?q ?_
  case q => exact fun a' w' hb hd => ⟨hd, rfl, hb⟩
  intro m
  dsimp only [List.dropLast, fk, List.cons_append, List.nil_append]
  repeat (go_big_quiet_step (rfl))
  refine wpQuiet_nil ?_
  exact ⟨rfl, slots2 rfl rfl⟩

set_option maxHeartbeats 400000 in
theorem end_ok (base g b off cap : Nat) (code : Int) (w : World) (h : RdAt w base g b off cap [] code) :
    Calls Tryd.prog 38 #[.pointer (some ⟨g, 0, none⟩)] w fun e w' => e = .returned (.tuple #[]) ∧ Below w.heap.size w w' := by
  have c0 := h.box.cell (j := 0) rfl
  have c1 := h.box.cell (j := 1) rfl
  simp only [List.length_nil] at c0
  clear h
  go_enter Tryd.func38, Tryd.ntmps38
  go_upto_region 0 with fail
  go_quiet ((go_at_call 19; exact Calls.quiet_of_same (demand_yes _ _)))
  go_wp2_with fail
  go_end0
  exact ⟨rfl, below_drewN (Below.refl _ _) _⟩
set_option maxHeartbeats 400000 in
theorem end_bad (base g b off cap : Nat) (xs : List UInt8) (code : Int) (w : World) (h : RdAt w base g b off cap xs code) (hx : ¬ xs = []) :
    Calls Tryd.prog 38 #[.pointer (some ⟨g, 0, none⟩)] w fun e w' => e = Corr code ∧ Below w.heap.size w w' := by
  have c0 := h.box.cell (j := 0) rfl
  have c1 := h.box.cell (j := 1) rfl
  have z1 : ¬ (xs.length : Int) = 0 := by
    have : xs.length ≠ 0 := fun q => hx (List.length_eq_zero_iff.1 q)
    omega
  have hlt := h.box.lt.2
  have e0 : ∀ n : Out w, n.u.cell? ⟨g, 0, none⟩ = some (.slice (some ⟨b, off, none⟩) xs.length cap) := fun n => (n.out.cell (p := ⟨g, 0, none⟩) hlt).trans c0
  have e1 : ∀ n : Out w, n.u.cell? ⟨g, 1, none⟩ = some (.int .i64 code) := fun n => (n.out.cell (p := ⟨g, 1, none⟩) hlt).trans c1
  clear h hx c0 c1 hlt
  go_enter Tryd.func38, Tryd.ntmps38
  go_upto_region 0 with fail
  refine wp_region_demand 12 7 (.tmp 11) code [(7, .bool false), (11, .int .i64 code)] rfl (fun m => by kernel_rfl) (by kernel_rfl) (fun a' h => ⟨h (7, _) (by simp), h (11, _) (by simp)⟩) ?q ?_
  case q => exact fun a' w' hb hd => ⟨hd, rfl, hb⟩
  intro m
  dsimp only [List.dropLast, fk, List.cons_append, List.nil_append]
  repeat (go_big_quiet_step (rfl))
  refine wpQuiet_nil ?_
  exact ⟨rfl, slots2 (congrArg Value.bool (beq_eq_false_iff_ne.2 z1)) rfl⟩
end Go.Proofs.YtnncedndlhfdkacDoor

/-
  errors.As at a corruption and a variable of that type; impl.faultCode.
-/
namespace Go.Proofs.YtnncedndlhfdkacDoor
open Go.ChangeShapes Go.WideShapes Go.ChangeAt Go.RowKit Go.Deep
open Go.Extern.Stop Go.Stop Go.Extern
set_option linter.unusedVariables false
set_option linter.unusedSimpArgs false
set_option maxRecDepth 100000

/-- The handle of the type 'error' in its variable. -/
def HandleAt (w : World) : Prop := w.cell? ⟨0, 0, none⟩ = some (.iface 115 (.agg #[.pointer (some ⟨2, 73, none⟩)]))
theorem HandleAt.lt {w : World} (h : HandleAt w) : 0 < w.heap.size := by
  rcases Nat.lt_or_ge 0 w.heap.size with h1 | h1
  · exact h1
  · simp [HandleAt, World.cell?, Array.getElem?_eq_none h1] at h
theorem HandleAt.below {B : Nat} {w w' : World} (h : HandleAt w) (hb : Below B w w') (h0 : 0 < B) : HandleAt w' := by
  unfold HandleAt at h ⊢
  rw [hb.cell (p := ⟨0, 0, none⟩) h0]
  exact h

theorem as_value (t : Addr) (w : World) : (ReflectliteValue.unpack (.iface 77 (.pointer (some t)))).run Tryd.prog w
    = .ok (.agg #[.pointer (some ⟨2, 77, none⟩), .pointer (some ⟨w.heap.size, 0, none⟩), .int .u64 150]) (w.alloc (.cells #[.pointer (some t)] 77)) := by kernel_rfl
theorem as_type (a : Addr) (w : World) : (ReflectliteValue.methodAny (ReflectliteValue.valueError "reflectlite.Value.Type" 0) (fun t _ _ _ => ReflectliteType.toType t) #[.agg #[.pointer (some ⟨2, 77, none⟩), .pointer (some a), .int .u64 150]]).run Tryd.prog w
    = .ok (.iface 115 (.agg #[.pointer (some ⟨2, 77, none⟩)])) w := by kernel_rfl
theorem as_mKind (h : Value) (w : World) : (Go.method 263 115 (.agg #[h]) "Kind").run Tryd.prog w = .ok (83, h) w := by kernel_rfl
theorem as_mElem (h : Value) (w : World) : (Go.method 263 115 (.agg #[h]) "Elem").run Tryd.prog w = .ok (95, .agg #[h]) w := by kernel_rfl
theorem as_mImpl (h : Value) (w : World) : (Go.method 263 115 (.agg #[h]) "Implements").run Tryd.prog w = .ok (96, .agg #[h]) w := by kernel_rfl
theorem as_mAssign (h : Value) (w : World) : (Go.method 263 115 (.agg #[h]) "AssignableTo").run Tryd.prog w = .ok (93, .agg #[h]) w := by kernel_rfl
theorem as_kindP (w : World) : ((ReflectliteType.abiMethod fun t => (fun a : Nat => Value.int IntKind.u8 (a : Int)) <$> Rtype.kind t) #[.pointer (some ⟨2, 77, none⟩)]).run Tryd.prog w = .ok (.int .u8 22) w := by kernel_rfl
theorem as_kindX (w : World) : ((ReflectliteType.abiMethod fun t => (fun a : Nat => Value.int IntKind.u8 (a : Int)) <$> Rtype.kind t) #[.pointer (some ⟨2, 75, none⟩)]).run Tryd.prog w = .ok (.int .u8 25) w := by kernel_rfl
theorem as_elem (w : World) : (ReflectliteType.method ReflectliteType.elem #[.agg #[.pointer (some ⟨2, 77, none⟩)]]).run Tryd.prog w = .ok (.iface 115 (.agg #[.pointer (some ⟨2, 75, none⟩)])) w := by kernel_rfl
theorem as_impl (w : World) : (ReflectliteType.relation "Implements" ReflectliteType.implements_ #[.agg #[.pointer (some ⟨2, 75, none⟩)], .iface 115 (.agg #[.pointer (some ⟨2, 73, none⟩)])]).run Tryd.prog w = .ok (.bool true) w := by kernel_rfl
theorem as_typeOf (v : Value) (w : World) : (ReflectliteType.typeOf #[.iface 75 v]).run Tryd.prog w = .ok (.iface 115 (.agg #[.pointer (some ⟨2, 75, none⟩)])) w := by kernel_rfl
theorem as_assign (w : World) : (ReflectliteType.relation "AssignableTo" ReflectliteType.assignableTo #[.agg #[.pointer (some ⟨2, 75, none⟩)], .iface 115 (.agg #[.pointer (some ⟨2, 75, none⟩)])]).run Tryd.prog w = .ok (.bool true) w := by kernel_rfl
theorem as_valueX (c : Int) (w : World) : (ReflectliteValue.unpack (.iface 75 (.agg #[.int .i64 c]))).run Tryd.prog w
    = .ok (.agg #[.pointer (some ⟨2, 75, none⟩), .pointer (some ⟨w.heap.size, 0, none⟩), .int .u64 153]) (w.alloc (.cells #[.int .i64 c] 75)) := by kernel_rfl
theorem as_m1 (z : Sem Value) (f : TypeId → Addr → Nat → Nat → Sem Value) (v : Value) :
    ReflectliteValue.method z f #[v] = (do match ← ReflectliteValue.parts v with | none => z | some (t, a, fl) => f t a fl (fl % 32)) := rfl
theorem as_partsP (a : Addr) (w : World) : (ReflectliteValue.parts (.agg #[.pointer (some ⟨2, 77, none⟩), .pointer (some a), .int .u64 150])).run Tryd.prog w = .ok (some (77, a, 150)) w := by kernel_rfl
theorem as_isNil (a p : Addr) (W : World) (ha : W.cell? a = some (.pointer (some p))) :
    (ReflectliteValue.method (ReflectliteValue.valueError "reflectlite.Value.IsNil" 0) ReflectliteValue.isNil #[.agg #[.pointer (some ⟨2, 77, none⟩), .pointer (some a), .int .u64 150]]).run Tryd.prog W = .ok (.bool false) W := by
  rw [as_m1]
  simp only [Sem.run_bind, as_partsP, Result.andThen]
  simp [ReflectliteValue.isNil, loadVar, isAgg, underlying, Tryd.underlying77, ha, Result.andThen]
theorem as_elemOf (w : World) : (Rtype.elem? 77).run Tryd.prog w = .ok (some 75) w := by kernel_rfl
theorem as_mk (p : Addr) (w : World) : (ReflectliteValue.mk 75 p ReflectliteValue.flagAddr).run Tryd.prog w = .ok (.agg #[.pointer (some ⟨2, 75, none⟩), .pointer (some p), .int .u64 409]) w := by kernel_rfl
theorem as_elemV (a p : Addr) (W : World) (ha : W.cell? a = some (.pointer (some p))) :
    (ReflectliteValue.method (ReflectliteValue.valueError "reflectlite.Value.Elem" 0) ReflectliteValue.elem #[.agg #[.pointer (some ⟨2, 77, none⟩), .pointer (some a), .int .u64 150]]).run Tryd.prog W
      = .ok (.agg #[.pointer (some ⟨2, 75, none⟩), .pointer (some p), .int .u64 409]) W := by
  rw [as_m1]
  simp only [Sem.run_bind, as_partsP, Result.andThen]
  simp [ReflectliteValue.elem, loadVar, isAgg, underlying, Tryd.underlying77, ha, Result.andThen, as_elemOf, as_mk]
theorem as_set1 (v x : Value) : ReflectliteValue.set #[v, x] = (do
    let (some (dst, a, fl), some (src, b, _)) := (← ReflectliteValue.parts v, ← ReflectliteValue.parts x)
      | unsupported (.noEntry "extern/(internal/reflectlite.Value).Set.zeroValue")
    if fl / ReflectliteValue.flagAddr % 2 == 0 then unsupported (.noEntry "extern/(internal/reflectlite.Value).Set.unaddressable")
    let val ← loadVar src b
    if ← Rtype.directlyAssignable dst src then storeVar dst a val
    else if ← Rtype.implements dst src then
      if (← Rtype.kind src) == 20 then
        match val with
        | .nilIface => unsupported (.noEntry "extern/reflectlite: a nil value of one interface type handed on as a value of another")
        | _ => storeVar dst a val
      else storeVar dst a (.iface src val)
    else panicString ("reflectlite.Set: value of type " ++ (← Rtype.spelt src) ++ " is not assignable to type " ++ (← Rtype.spelt dst))
    pure (.tuple #[])) := rfl
theorem as_partsA (a : Addr) (w : World) : (ReflectliteValue.parts (.agg #[.pointer (some ⟨2, 75, none⟩), .pointer (some a), .int .u64 409])).run Tryd.prog w = .ok (some (75, a, 409)) w := by kernel_rfl
theorem as_partsX (a : Addr) (w : World) : (ReflectliteValue.parts (.agg #[.pointer (some ⟨2, 75, none⟩), .pointer (some a), .int .u64 153])).run Tryd.prog w = .ok (some (75, a, 153)) w := by kernel_rfl
theorem as_direct (w : World) : (Rtype.directlyAssignable 75 75).run Tryd.prog w = .ok true w := by kernel_rfl
theorem as_size (w : World) : (sizeOf 75).run Tryd.prog w = .ok 1 w := by kernel_rfl
theorem as_set (tb bb : Nat) (c : Int) (old : Value) (W : World) (hb : W.cell? ⟨bb, 0, none⟩ = some (.int .i64 c)) (ht : W.cell? ⟨tb, 0, none⟩ = some old) (hf : W.frozen? ⟨tb, 0, none⟩ = false) :
    (ReflectliteValue.set #[.agg #[.pointer (some ⟨2, 75, none⟩), .pointer (some ⟨tb, 0, none⟩), .int .u64 409], .agg #[.pointer (some ⟨2, 75, none⟩), .pointer (some ⟨bb, 0, none⟩), .int .u64 153]]).run Tryd.prog W
      = .ok (.tuple #[]) (W.setCell ⟨tb, 0, none⟩ (.int .i64 c)) := by
  rw [as_set1]
  simp only [Sem.run_bind, as_partsA, as_partsX, Result.andThen]
  simp [ReflectliteValue.flagAddr, loadVar, isAgg, underlying, Tryd.underlying75, hb, Result.andThen, as_direct, storeVar, Value.cells, storeCells, Addr.add, as_size, loadCells, loadCellsFrom]
  rw [run_store Tryd.prog W ⟨tb, 0, none⟩ _ _ (by rfl)]
  simp [ht, hf]
end Go.Proofs.YtnncedndlhfdkacDoor

/-
  errors.As at a corruption; impl.faultCode.
-/
namespace Go.Proofs.YtnncedndlhfdkacDoor
open Go.ChangeShapes Go.WideShapes Go.ChangeAt Go.RowKit Go.Deep
open Go.Extern.Stop Go.Stop Go.Extern
set_option linter.unusedVariables false
set_option linter.unusedSimpArgs false
set_option maxRecDepth 100000

set_option maxHeartbeats 4000000 in
theorem as_hit (tb : Nat) (c : Int) (old : Value) (w : World) (hg : HandleAt w) (ht0 : w.cell? ⟨tb, 0, none⟩ = some old) (hf0 : w.frozen? ⟨tb, 0, none⟩ = false) :
    Calls Tryd.prog 32 #[.iface 75 (.agg #[.int .i64 c]), .iface 77 (.pointer (some ⟨tb, 0, none⟩))] w fun ev w' => ev = .returned (.bool true) ∧ ∃ w4 : World, Below w.heap.size w w4 ∧ w' = w4.setCell ⟨tb, 0, none⟩ (.int .i64 c) := by
  have h6 := @run_callFunc_extern Tryd.prog 46 _ (fun args => ReflectliteValue.unpack (args.getD 0 (.tuple #[]))) Tryd.func46 (by kernel_rfl) (by kernel_rfl) (by kernel_rfl) (by kernel_rfl)
  have h7 := @run_callFunc_extern Tryd.prog 47 _ (ReflectliteValue.methodAny (ReflectliteValue.valueError "reflectlite.Value.Type" 0) (fun t _ _ _ => ReflectliteType.toType t)) Tryd.func47 (by kernel_rfl) (by kernel_rfl) (by kernel_rfl) (by kernel_rfl)
  have h8 := @run_callFunc_extern Tryd.prog 48 _ (ReflectliteValue.method (ReflectliteValue.valueError "reflectlite.Value.IsNil" 0) ReflectliteValue.isNil) Tryd.func48 (by kernel_rfl) (by kernel_rfl) (by kernel_rfl) (by kernel_rfl)
  have h27 := @run_callFunc_extern Tryd.prog 83 _ (ReflectliteType.abiMethod fun t => do pure (.int .u8 (← Rtype.kind t))) Tryd.func83 (by kernel_rfl) (by kernel_rfl) (by kernel_rfl) (by kernel_rfl)
  have h37 := @run_callFunc_extern Tryd.prog 95 _ (ReflectliteType.method ReflectliteType.elem) Tryd.func95 (by kernel_rfl) (by kernel_rfl) (by kernel_rfl) (by kernel_rfl)
  have h38 := @run_callFunc_extern Tryd.prog 96 _ (ReflectliteType.relation "Implements" ReflectliteType.implements_) Tryd.func96 (by kernel_rfl) (by kernel_rfl) (by kernel_rfl) (by kernel_rfl)
  have h10 := @run_callFunc_extern Tryd.prog 59 _ ReflectliteType.typeOf Tryd.func59 (by kernel_rfl) (by kernel_rfl) (by kernel_rfl) (by kernel_rfl)
  have h35 := @run_callFunc_extern Tryd.prog 93 _ (ReflectliteType.relation "AssignableTo" ReflectliteType.assignableTo) Tryd.func93 (by kernel_rfl) (by kernel_rfl) (by kernel_rfl) (by kernel_rfl)
  have h11 := @run_callFunc_extern Tryd.prog 60 _ (ReflectliteValue.method (ReflectliteValue.valueError "reflectlite.Value.Elem" 0) ReflectliteValue.elem) Tryd.func60 (by kernel_rfl) (by kernel_rfl) (by kernel_rfl) (by kernel_rfl)
  have h12 := @run_callFunc_extern Tryd.prog 61 _ ReflectliteValue.set Tryd.func61 (by kernel_rfl) (by kernel_rfl) (by kernel_rfl) (by kernel_rfl)
  have tO := as_typeOf
  have mA := as_mAssign
  have a25 := as_assign
  have v25 := as_valueX
  have f6 := as_value
  have f7 := as_type
  have mK := as_mKind
  have mE := as_mElem
  have mI := as_mImpl
  have k27 := as_kindP
  have k25 := as_kindX
  have e27 := as_elem
  have i25 := as_impl
  obtain ⟨A1, hA1⟩ : ∃ A1 : Obj, A1 = .cells #[.pointer (some ⟨tb, 0, none⟩)] 77 := ⟨_, rfl⟩
  obtain ⟨A2, hA2⟩ : ∃ A2 : Obj, A2 = .cells #[.pointer (some ⟨2, 77, none⟩), .pointer (some ⟨w.heap.size, 0, none⟩), .int .u64 150] 92 := ⟨_, rfl⟩
  obtain ⟨A3, hA3⟩ : ∃ A3 : Obj, A3 = .cells #[.int .i64 c] 75 := ⟨_, rfl⟩
  have hlt := hg.lt
  have htl : tb < w.heap.size := by
    rcases Nat.lt_or_ge tb w.heap.size with h | h
    · exact h
    · simp [World.cell?, Array.getElem?_eq_none h] at ht0
  have b1 : Below w.heap.size w (w.alloc A1) := (Below.refl _ _).alloc (Nat.le_refl _) _
  have b2 : Below w.heap.size w ((w.alloc A1).alloc A2) := b1.alloc (by simp) _
  have b3 : Below w.heap.size w (((w.alloc A1).alloc A2).alloc A2) := b2.alloc (by simp; omega) _
  have b4 : Below w.heap.size w ((((w.alloc A1).alloc A2).alloc A2).alloc A3) := b3.alloc (by simp; omega) _
  have n8 := as_isNil ⟨w.heap.size, 0, none⟩ ⟨tb, 0, none⟩ ((w.alloc A1).alloc A2) (by rw [World.cell?_alloc_lt _ _ ⟨w.heap.size, 0, none⟩ (by simp), hA1]; simp)
  have hg2 : ((w.alloc A1).alloc A2).cell? ⟨0, 0, none⟩ = some (.iface 115 (.agg #[.pointer (some ⟨2, 73, none⟩)])) := (b2.cell (p := ⟨0, 0, none⟩) hlt).trans hg
  have el := as_elemV ⟨w.heap.size, 0, none⟩ ⟨tb, 0, none⟩ (((w.alloc A1).alloc A2).alloc A2) (by rw [World.cell?_alloc_lt _ _ ⟨w.heap.size, 0, none⟩ (by simp; omega), World.cell?_alloc_lt _ _ ⟨w.heap.size, 0, none⟩ (by simp), hA1]; simp)
  have st := as_set tb (w.heap.size + 1 + 1 + 1) c old ((((w.alloc A1).alloc A2).alloc A2).alloc A3)
    (by rw [hA3, World.cell?_alloc_at _ _ _ _ (by simp)]; rfl)
    ((b4.cell (p := ⟨tb, 0, none⟩) htl).trans ht0)
    ((b4.frozen (p := ⟨tb, 0, none⟩) htl).trans hf0)
  have HB : Hid (Below w.heap.size w ((((w.alloc A1).alloc A2).alloc A2).alloc A3)) := b4
  clear b1 b2 b3 b4
  subst hA1 hA2 hA3
  go_enter Tryd.func32, Tryd.ntmps32
  go_wp2
  refine wp_loop_rounds 1 ?_
  rw [rounds_succ]
  go_wp2
  go_ret
  exact ⟨rfl, _, HB.out, rfl⟩

end Go.Proofs.YtnncedndlhfdkacDoor

/-
  impl.faultCode; the deferred closures of DecodeRun.
-/
namespace Go.Proofs.YtnncedndlhfdkacDoor
open Go.ChangeShapes Go.WideShapes Go.ChangeAt Go.RowKit Go.Deep
set_option linter.unusedVariables false
set_option linter.unusedSimpArgs false
set_option maxRecDepth 100000

theorem as_assert (c : Int) (w : World) : (Instr.typeAssert (corrV c) 20 73 true).run Tryd.prog w = .ok (.tuple #[corrV c, .bool true]) w := by kernel_rfl
set_option maxHeartbeats 2000000 in
theorem faultCode_nil (w : World) : Calls Tryd.prog 16 #[.nilIface] w fun e w' => e = .returned (.int .i64 0) ∧ w' = w := by
  go_enter Tryd.func16, Tryd.ntmps16
  go_wp2_with fail
  go_ret
  exact ⟨rfl, rfl⟩
set_option maxHeartbeats 2000000 in
theorem faultCode_corr (c : Int) (w : World) (hg : HandleAt w) : Calls Tryd.prog 16 #[corrV c] w fun e w' => e = .returned (.int .i64 c) ∧ Below w.heap.size w w' := by
  have hta := as_assert
  have HG : Hid (HandleAt (w.alloc (.cells #[.int .i64 0] 75))) := hg.below ((Below.refl _ _).alloc (Nat.le_refl _) _) hg.lt
  clear hg
  go_enter Tryd.func16, Tryd.ntmps16
  go_wp2_with fail
  refine (as_hit w.heap.size c (.int .i64 0) _ HG.out (by simp) (by simp)).mono ?_
  rintro e w' ⟨rfl, w4, hb4, hw'⟩
  have hb5 : Below w.heap.size w w' := by
    rw [hw']
    exact (((Below.refl _ w).alloc (Nat.le_refl _) _).trans (hb4.mono (by simp))).setCell (p := ⟨w.heap.size, 0, none⟩) (Nat.le_refl _) _
  have hc : w'.cell? ⟨w.heap.size, 0, none⟩ = some (.int .i64 c) := by
    rw [hw']
    have h4 : w4.cell? ⟨w.heap.size, 0, none⟩ = some (.int .i64 0) := (hb4.cell (p := ⟨w.heap.size, 0, none⟩) (by simp)).trans (by simp)
    exact World.cell?_setCell_same' _ _ _ (by rw [h4]; rfl)
  clear hw' hb4
  go_wp2_with fail
  go_ret
  exact ⟨rfl, hb5⟩
end Go.Proofs.YtnncedndlhfdkacDoor

/-
  The deferred closure of impl.DecodeRun.
-/
namespace Go.Proofs.YtnncedndlhfdkacDoor
open Go.ChangeShapes Go.WideShapes Go.ChangeAt Go.RowKit Go.Deep
set_option linter.unusedVariables false
set_option linter.unusedSimpArgs false
set_option maxRecDepth 100000

set_option maxHeartbeats 2000000 in
theorem dec_catch (rb : Nat) (c : Int) (older : List PanicEntry) (w : World) (hg : HandleAt w) (hc : ¬ c = 0) (x y : Value) (h0 : w.cell? ⟨rb, 0, none⟩ = some x) (h1 : w.cell? ⟨rb, 1, none⟩ = some y) (f0 : w.frozen? ⟨rb, 0, none⟩ = false) (f1 : w.frozen? ⟨rb, 1, none⟩ = false) (hrb : rb < w.heap.size) :
    CallsD Tryd.prog 15 #[.pointer (some ⟨rb, 0, none⟩)] (.panicking ({ v := corrV c, recovered := false } :: older)) w fun e u' w' =>
      e = .returned (.tuple #[]) ∧ u' = .panicking ({ v := corrV c, recovered := true } :: older) ∧ ∃ w1, Below w.heap.size w w1 ∧ w' = (w1.setCell ⟨rb, 0, none⟩ (.int .i64 c)).setCell ⟨rb, 1, none⟩ (.slice none 0 0) := by
  refine callsD_of_wpS Tryd.func15 rfl fun c₀ cs hu => ?_
  apply wpS_seq
  apply wpS_region
  simp [wpOpsS, go_sem, recoverD, hu, Tryd.ntmps15, Exit.thenS]
  refine (faultCode_corr c w hg).mono ?_
  rintro e w1 ⟨rfl, hb1⟩
  have ht : #[Value.pointer (some ⟨rb, 0, none⟩)] ++ (((Array.replicate 7 undef).setIfInBounds 1 (corrV c)).setIfInBounds 2 (.int .i64 c)).setIfInBounds 0 (.int .i64 c) = #[.pointer (some ⟨rb, 0, none⟩), .int .i64 c, corrV c, .int .i64 c, undef, undef, undef, undef] := by rfl
  simp only []
  rw [ht]
  have d0 : w1.cell? ⟨rb, 0, none⟩ = some x := (hb1.cell (p := ⟨rb, 0, none⟩) hrb).trans h0
  have d1 : w1.cell? ⟨rb, 1, none⟩ = some y := (hb1.cell (p := ⟨rb, 1, none⟩) hrb).trans h1
  have g0 : w1.frozen? ⟨rb, 0, none⟩ = false := (hb1.frozen (p := ⟨rb, 0, none⟩) hrb).trans f0
  have g1 : w1.frozen? ⟨rb, 1, none⟩ = false := (hb1.frozen (p := ⟨rb, 1, none⟩) hrb).trans f1
  have HB : Hid (Below w.heap.size w w1) := hb1
  clear ht h0 h1 f0 f1 hb1 hg
  refine wpS_of_wp ?_
  go_wp2_with fail
  exact ⟨rfl, _, rfl, _, by simp [results, Tryd.results15], rfl, rfl, w1, HB.out, rfl⟩

set_option maxHeartbeats 2000000 in
theorem dec_idle (rb : Nat) (w : World) :
    CallsD Tryd.prog 15 #[.pointer (some ⟨rb, 0, none⟩)] .returning w fun e u' w' => e = .returned (.tuple #[]) ∧ u' = .returning ∧ w' = w := by
  refine callsD_of_wpS Tryd.func15 rfl fun c₀ cs hu => ?_
  apply wpS_seq
  apply wpS_region
  simp [wpOpsS, go_sem, recoverD, hu, Tryd.ntmps15, Exit.thenS]
  refine (faultCode_nil w).mono ?_
  rintro e w1 ⟨rfl, rfl⟩
  have ht : #[Value.pointer (some ⟨rb, 0, none⟩)] ++ (((Array.replicate 7 undef).setIfInBounds 1 .nilIface).setIfInBounds 2 (.int .i64 0)).setIfInBounds 0 (.int .i64 0) = #[.pointer (some ⟨rb, 0, none⟩), .int .i64 0, .nilIface, .int .i64 0, undef, undef, undef, undef] := by rfl
  simp only []
  rw [ht]
  clear ht
  refine wpS_of_wp ?_
  go_wp2_with fail
  refine ⟨rfl, .returning, ?_, _, by simp [results, Tryd.results15], rfl, rfl, rfl⟩
  cases c₀
  simp_all
end Go.Proofs.YtnncedndlhfdkacDoor

/-
  The checksum by a table (mathematics): eight steps of a byte at once.
-/
namespace Go.Proofs.YtnncedndlhfdkacDoor
set_option linter.unusedVariables false
set_option linter.unusedSimpArgs false

/-- One bit, as an exclusive or. -/
theorem sh_eq (c : BitVec 32) : sh c = (c >>> 1) ^^^ (if c.getLsbD 0 then 3988292384#32 else 0#32) := by
  unfold sh
  rw [bit0]
  by_cases h : c.toNat % 2 = 1 <;> simp [h]
theorem sh_xor (a b : BitVec 32) : sh (a ^^^ b) = sh a ^^^ sh b := by
  rw [sh_eq, sh_eq, sh_eq, BitVec.ushiftRight_xor_distrib, BitVec.getLsbD_xor]
  have h4 : ∀ x y p q : BitVec 32, (x ^^^ p) ^^^ (y ^^^ q) = (x ^^^ y) ^^^ (p ^^^ q) := by
    intro x y p q
    rw [BitVec.xor_assoc, BitVec.xor_assoc, ← BitVec.xor_assoc p y q, BitVec.xor_comm p y, BitVec.xor_assoc y p q]
  rw [h4]
  congr 1
  cases a.getLsbD 0 <;> cases b.getLsbD 0 <;> simp
theorem shN_xor (k : Nat) (a b : BitVec 32) : shN k (a ^^^ b) = shN k a ^^^ shN k b := by
  induction k with
  | zero => rfl
  | succ k ih => show sh (shN k (a ^^^ b)) = sh (shN k a) ^^^ sh (shN k b); rw [ih, sh_xor]
/-- Steps over zero bits are a shift. -/
theorem shN_zero : ∀ (k : Nat) (y : BitVec 32), (∀ i, i < k → y.getLsbD i = false) → shN k y = y >>> k
  | 0, y, _ => by simp [shN]
  | k + 1, y, h => by
    show sh (shN k y) = _
    rw [shN_zero k y (fun i hi => h i (by omega)), sh_eq, BitVec.getLsbD_ushiftRight, h (k + 0) (by omega), BitVec.shiftRight_add y k 1]
    simp
/-- The table's entry. -/
def tabE (i : Nat) : BitVec 32 := shN 8 (BitVec.ofNat 32 i)
theorem split8 (c : BitVec 32) (x : UInt8) : c ^^^ BitVec.ofNat 32 x.toNat = BitVec.ofNat 32 ((c.toNat % 256) ^^^ x.toNat) ^^^ ((c >>> 8) <<< 8) := by
  have hx := u8lt x
  apply BitVec.eq_of_getLsbD_eq
  intro i hi
  simp only [BitVec.getLsbD_xor, BitVec.getLsbD_ofNat, BitVec.getLsbD_shiftLeft, BitVec.getLsbD_ushiftRight, Nat.testBit_xor, hi, decide_true, Bool.true_and]
  rw [show (256 : Nat) = 2 ^ 8 from rfl, Nat.testBit_mod_two_pow]
  by_cases h8 : i < 8
  · simp [h8, BitVec.getLsbD]
  · have : x.toNat.testBit i = false := Nat.testBit_lt_two_pow (Nat.lt_of_lt_of_le hx (by
      have : 2 ^ 8 ≤ 2 ^ i := Nat.pow_le_pow_right (by omega) (by omega)
      omega))
    rw [this]
    simp [h8, show 8 + (i - 8) = i from by omega]
/-- One byte by the table. -/
theorem crcB_tab (c : BitVec 32) (x : UInt8) : crcB c x = tabE ((c.toNat % 256) ^^^ x.toNat) ^^^ (c >>> 8) := by
  have h : shN 8 ((c >>> 8) <<< 8) = c >>> 8 := by
    rw [shN_zero 8 _ (fun i hi => by simp [BitVec.getLsbD_shiftLeft, hi])]
    apply BitVec.eq_of_getLsbD_eq
    intro i hi
    simp only [BitVec.getLsbD_ushiftRight, BitVec.getLsbD_shiftLeft]
    by_cases h : 8 + i < 32
    · simp [h]
    · simp [h]
      rw [BitVec.getLsbD_of_ge c _ (by omega)]
  unfold crcB tabE
  rw [split8, shN_xor, h]
theorem tab_lt (c : BitVec 32) (x : UInt8) : (c.toNat % 256) ^^^ x.toNat < 256 := Nat.xor_lt_two_pow (n := 8) (by omega) (u8lt x)
end Go.Proofs.YtnncedndlhfdkacDoor

/-
  impl.makeSumTable, (*impl.sumTable).of, impl.Crc32.
-/
namespace Go.Proofs.YtnncedndlhfdkacDoor
open Go.ChangeShapes Go.WideShapes Go.ChangeAt Go.RowKit Go.Deep
set_option linter.unusedVariables false
set_option linter.unusedSimpArgs false
set_option maxRecDepth 100000

/-- The table with its first k entries. -/
def tabA (k : Nat) : Array Value := Array.ofFn (n := 256) fun i => if i.val < k then .int .u32 ((tabE i.val).toNat : Int) else .int .u32 0
theorem tabA_size (k : Nat) : (tabA k).size = 256 := by simp [tabA]
theorem tabA_zero : tabA 0 = Array.replicate 256 (.int .u32 0) := by
  apply Array.ext
  · simp [tabA]
  · intro i h1 h2; simp [tabA]
theorem tabA_at (k i : Nat) (hi : i < k) (h : i < 256) : (tabA k)[i]? = some (.int .u32 ((tabE i).toNat : Int)) := by
  rw [Array.getElem?_eq_getElem (by rw [tabA_size]; exact h)]
  simp [tabA, hi]
theorem tabA_next (k : Nat) (h : k < 256) : (tabA k).setIfInBounds k (.int .u32 ((tabE k).toNat : Int)) = tabA (k + 1) := by
  apply Array.ext
  · simp [tabA]
  · intro i h1 h2
    have h3 : i < 256 := by rw [tabA_size] at h2; exact h2
    simp only [tabA, Array.getElem_setIfInBounds, Array.getElem_ofFn]
    by_cases e : k = i
    · subst e; simp
    · rw [Array.getElem_setIfInBounds_ne (by simpa using h3) e]
      simp only [Array.getElem_ofFn]
      by_cases q : i < k
      · simp [q, show i < k + 1 from by omega]
      · simp [q, show ¬ i < k + 1 from by omega]
/-- The table lies there. -/
def TabAt (w : World) (b off : Nat) : Prop := ∀ i, i < 256 → w.cell? ⟨b, off + i, none⟩ = some (.int .u32 ((tabE i).toNat : Int))
theorem TabAt.below {B : Nat} {w w' : World} {b off : Nat} (h : TabAt w b off) (hb : Below B w w') (hlt : b < B) : TabAt w' b off := by
  intro i hi
  rw [hb.cell (p := ⟨b, off + i, none⟩) hlt]
  exact h i hi

theorem shr32 (s : BitVec 32) (k : Nat) (z : Int) (hz : z = ((2 ^ k : Nat) : Int)) : (s.toNat : Int) / z = ((s >>> k).toNat : Int) := by
  subst hz
  rw [BitVec.toNat_ushiftRight, Nat.shiftRight_eq_div_pow]; exact (Int.natCast_ediv _ _).symm
theorem xor8 (a b : Nat) (ha : a < 256) (hb : b < 256) : bits .xor .u8 (a : Int) (b : Int) = ((a ^^^ b : Nat) : Int) := by
  have h1 : BitVec.ofInt 8 (a : Int) = BitVec.ofNat 8 a := by simp
  have h2 : BitVec.ofInt 8 (b : Int) = BitVec.ofNat 8 b := by simp
  show IntKind.wrap .u8 ((BitVec.ofInt 8 (a : Int) ^^^ BitVec.ofInt 8 (b : Int)).toNat : Int) = _
  rw [h1, h2, BitVec.toNat_xor, BitVec.toNat_ofNat, BitVec.toNat_ofNat, Nat.mod_eq_of_lt ha, Nat.mod_eq_of_lt hb]
  have : a ^^^ b < 256 := Nat.xor_lt_two_pow (n := 8) ha hb
  simp only [IntKind.wrap, IntKind.bits, IntKind.signed, Bool.false_and, Bool.false_eq_true, if_false]
  omega

set_option maxHeartbeats 2000000 in
theorem tableOf_core (tb toff b off cap : Nat) (xs : List UInt8) (w : World) (hT : TabAt w tb toff) (hE : BysAt w b off xs) (hlen : xs.length ≤ maxLen) :
    Calls Tryd.prog 35 #[.pointer (some ⟨tb, toff, none⟩), .slice (some ⟨b, off, none⟩) xs.length cap] w fun e w' => e = .returned (.int .u32 ((crc xs).toNat : Int)) ∧ w' = w := by
  have HE : Hid (BysAt w b off xs ∧ TabAt w tb toff) := ⟨hE, hT⟩
  clear hE hT
  unfold maxLen at hlen
  go_enter Tryd.func35, Tryd.ntmps35
  go_wp2_with fail
  go_loopw [5, 10] (fun c i wr => ∃ (k : Nat), k ≤ xs.length ∧ c = .int .u32 ((crcTo 4294967295#32 (xs.take k)).toNat : Int) ∧ i = .int .i64 k ∧ wr = w) (fun _ i _ => xs.length - (intOf i).toNat)
  case atStart => exact ⟨0, Nat.zero_le _, rfl, rfl, rfl⟩
  case round =>
    obtain ⟨k, hk, rfl, rfl, rfl⟩ := hrel
    by_cases hlt : k < xs.length
    · obtain ⟨x, hx⟩ : ∃ x, xs[k]? = some x := ⟨_, List.getElem?_eq_getElem hlt⟩
      have c0 := HE.out.1 k x hx
      obtain ⟨s, hs⟩ : ∃ s, s = crcTo 4294967295#32 (xs.take k) := ⟨_, rfl⟩
      rw [← hs]
      obtain ⟨m, hm⟩ : ∃ m, m = (s.toNat % 256) ^^^ x.toNat := ⟨_, rfl⟩
      have HS : Hid (crcTo 4294967295#32 (xs.take (k + 1)) = tabE m ^^^ (s >>> 8)) := by
        show crcTo 4294967295#32 (xs.take (k + 1)) = tabE m ^^^ (s >>> 8)
        rw [List.take_add_one, hx, hs, hm]
        exact (crcTo_snoc _ _ _).trans (by rw [crcB_tab, hs])
      have hbx : bits BinOp.xor .u8 ((s.toNat : Int) % 256) (x.toNat : Int) = (m : Int) := by
        rw [hm]; exact xor8 (s.toNat % 256) x.toNat (by omega) (u8lt x)
      have hm2 : m < 256 := by rw [hm]; exact tab_lt s x
      have hmz : (0 : Int) ≤ (m : Int) ∧ (m : Int) < 256 := by omega
      have ct := HE.out.2 m hm2
      clear hx hs hm hm2
      go_wp2_with fail
      have hn : bits BinOp.xor .u32 ((tabE m).toNat : Int) ((s.toNat : Int) / 256) = ((crcTo 4294967295#32 (xs.take (k + 1))).toNat : Int) := by
        rw [HS.out]
        exact xor32 (tabE m) (s >>> 8) (shr32 s 8 256 rfl)
      exact ⟨⟨k + 1, by omega, by rw [hn], by go_num, trivial⟩, by simp [intOf]; omega⟩
    · obtain rfl : k = xs.length := by omega
      rw [List.take_of_length_le (Nat.le_refl _)]
      go_wp2_with fail
      go_ret
      refine ⟨?_, rfl⟩
      have hx : bits BinOp.xor .u32 IntKind.u32.max ((crcTo 4294967295#32 xs).toNat : Int) = ((crc xs).toNat : Int) := by
        unfold crc
        rw [BitVec.xor_comm]
        exact xor32 4294967295#32 (crcTo 4294967295#32 xs) rfl
      show Ending.returned (Value.int .u32 (bits BinOp.xor .u32 IntKind.u32.max ((crcTo 4294967295#32 xs).toNat : Int))) = _
      rw [hx]

theorem and1 (c : BitVec 32) : bits .and .u32 (c.toNat : Int) 1 = ((c.toNat % 2 : Nat) : Int) := by
  have h1 : BitVec.ofInt 32 (c.toNat : Int) = c := by simp
  show IntKind.wrap .u32 ((BitVec.ofInt 32 (c.toNat : Int) &&& BitVec.ofInt 32 1).toNat : Int) = _
  rw [h1, BitVec.toNat_and]
  have : (BitVec.ofInt 32 1).toNat = 1 := by decide
  rw [this, Nat.and_one_is_mod]
  simp only [IntKind.wrap, IntKind.bits, IntKind.signed, Bool.false_and, Bool.false_eq_true, if_false]
  omega

theorem Below.setRow {B : Nat} {a w : World} (h : Below B a w) {g : Nat} (hg : B ≤ g) (cs : Array Value) : Below B a (w.setRow g cs) :=
  h.trans ⟨rfl, rfl, rfl, by simp, fun k hk => setRow_other w g k cs (by omega)⟩
theorem tabA_one (k : Nat) : (tabA k).all (·.oneCell') = true := by
  rw [Array.all_eq_true_iff_forall_mem]
  intro v hv
  obtain ⟨i, hi, rfl⟩ := Array.getElem_of_mem hv
  simp only [tabA, Array.getElem_ofFn]
  split <;> rfl
theorem info_table : (Tryd.prog.info? 46).map (fun i => (i.zero, i.size)) = some (some (.agg (Array.replicate 256 (.int .u32 0))), 256) := by kernel_rfl

set_option maxHeartbeats 2000000 in
theorem makeTable_core (w : World) :
    Calls Tryd.prog 34 #[] w fun e w' => e = .returned (.agg (tabA 256)) ∧ Below w.heap.size w w' := by
  have hzv := (zero_of_info info_table).1
  go_enter Tryd.func34, Tryd.ntmps34
  go_wp2_with fail
  clear hzv
  rw [← tabA_zero]
  obtain ⟨W, hW⟩ : ∃ W, W = w.alloc (.cells (tabA 0) 46) := ⟨_, rfl⟩
  have hs : W.heap.size = w.heap.size + 1 := by rw [hW]; simp
  rw [← hW, ← hs]
  have HW : Hid (W = w.alloc (.cells (tabA 0) 46) ∧ W.heap.size = w.heap.size + 1) := ⟨hW, hs⟩
  clear hW hs
  go_loopw [4] (fun i wr => ∃ (k : Nat), k ≤ 256 ∧ i = .int .i64 k ∧ wr = W.alloc (.cells (tabA k) 46)) (fun i _ => 256 - (intOf i).toNat)
  case atStart => exact ⟨0, Nat.zero_le _, rfl, rfl⟩
  case round =>
    obtain ⟨k, hk, rfl, hwr⟩ := hrel
    by_cases hlt : k < 256
    · have z : (k : Int) < 256 := by omega
      have HB : Hid ((k : Int) = ((BitVec.ofNat 32 k).toNat : Int) ∧ k < 256) := by
        refine ⟨?_, hlt⟩
        rw [BitVec.toNat_ofNat]; omega
      have Hwr : Hid (wr = W.alloc (.cells (tabA k) 46)) := hwr
      clear hwr
      go_wp2_with fail
      go_loopw [3, 9] (fun c j wq => ∃ (q : Nat), q ≤ 8 ∧ c = .int .u32 ((shN q (BitVec.ofNat 32 k)).toNat : Int) ∧ j = .int .i64 q ∧ wq = W.alloc (.cells (tabA k) 46)) (fun _ j _ => 8 - (intOf j).toNat)
      case atStart => exact ⟨0, Nat.zero_le _, congrArg (Value.int .u32) HB.out.1, rfl, Hwr.out⟩
      case round =>
        clear Hwr
        obtain ⟨q, hq, rfl, rfl, hwr⟩ := hrel
        obtain ⟨c, hc⟩ : ∃ c, c = shN q (BitVec.ofNat 32 k) := ⟨_, rfl⟩
        have HQ : Hid (shN (q + 1) (BitVec.ofNat 32 k) = sh c) := by rw [hc]; exact rfl
        rw [← hc]
        by_cases h8 : q < 8
        · have Hwr : Hid (wr = W.alloc (.cells (tabA k) 46)) := hwr
          have z8 : (q : Int) < 8 := by omega
          have ha := and1 c
          clear hwr hc
          by_cases hp : c.toNat % 2 = 1
          · rw [hp] at ha
            have HP : Hid (c.toNat % 2 = 1) := hp
            clear hp
            go_wp2_with fail
            have hx : bits .xor .u32 ((c.toNat : Int) / 2) 3988292384 = ((sh c).toNat : Int) := by
              unfold sh
              rw [if_pos HP.out]
              rw [shr32 c 1 2 rfl]
              exact xor32 (c >>> 1) 3988292384#32 (by rfl)
            exact ⟨⟨q + 1, by omega, by rw [hx, HQ.out], by go_num, Hwr.out⟩, by simp [intOf]; omega⟩
          · rw [show c.toNat % 2 = 0 from by omega] at ha
            have HP : Hid (¬ c.toNat % 2 = 1) := hp
            clear hp
            go_wp2_with fail
            have hx : ((c.toNat : Int) / 2) = ((sh c).toNat : Int) := by
              unfold sh
              rw [if_neg HP.out]
              exact shr32 c 1 2 rfl
            exact ⟨⟨q + 1, by omega, by rw [hx, HQ.out], by go_num, Hwr.out⟩, by simp [intOf]; omega⟩
        · obtain rfl : q = 8 := by omega
          have HC : Hid (c = tabE k) := hc
          have hk2 : k < (tabA k).size := by rw [tabA_size]; exact HB.out.2
          obtain ⟨v, hv⟩ : ∃ v, (tabA k)[k]? = some v := ⟨_, Array.getElem?_eq_getElem hk2⟩
          rw [hwr]
          clear hwr hc hk2
          go_wp2_with fail
          refine ⟨⟨k + 1, by have := HB.out.2; omega, by go_num, ?_⟩, by have := HB.out.2; simp [intOf]; omega⟩
          rw [HC.out, tabA_next k HB.out.2]
    · obtain rfl : k = 256 := by omega
      rw [hwr]
      clear hwr
      go_upto_region 14 with fail
      have hw0 : W.heap[w.heap.size]? = some (.cells (tabA 0) 46 (0, 0)) := by rw [HW.out.1]; exact heap_alloc_new _ _
      have hw1 : (W.alloc (.cells (tabA 256) 46)).heap[w.heap.size]? = some (.cells (tabA 0) 46 (0, 0)) := by
        rw [Below.heap_alloc W _ w.heap.size (by rw [HW.out.2]; omega)]; exact hw0
      have hi : (Tryd.prog.info? 46).map (·.size) = some 256 := (zero_of_info info_table).2
      have hB : Below w.heap.size w ((W.alloc (.cells (tabA 256) 46)).setRow w.heap.size (tabA 256)) := by
        refine Below.setRow ?_ (Nat.le_refl _) _
        rw [HW.out.1]
        exact (((Below.refl _ w).alloc (Nat.le_refl _) _).alloc (by simp) _)
      apply wp_region_list
      refine wpList_load_row rfl 46 _ rfl W.heap.size rfl 46 (tabA 256) (0, 0) _ (heap_alloc_new W _) Tryd.underlying46 rfl (by rw [tabA_size]; exact hi) ?_
      refine wpList_store_row rfl 46 _ _ rfl w.heap.size (tabA 256) rfl rfl 46 (tabA 0) hw1 (by rw [tabA_size]; exact hi) (by rw [tabA_size, tabA_size]) (tabA_one _) ?_
      have hr := setRow_heap _ _ _ (tabA 256) _ _ hw1
      obtain ⟨W2, hW2⟩ : ∃ W2, W2 = (W.alloc (.cells (tabA 256) 46)).setRow w.heap.size (tabA 256) := ⟨_, rfl⟩
      rw [← hW2] at hB hr ⊢
      clear hW2 hw0 hw1
      apply wpList_nil
      go_wp2_with fail
      refine bodyPost_ret (v := .agg (tabA 256)) (results_cell_row rfl _ _ w.heap.size _ _ _ _ rfl hr Tryd.underlying46 rfl (by rw [tabA_size]; exact hi)) rfl ⟨rfl, hB⟩

end Go.Proofs.YtnncedndlhfdkacDoor

/-
  (*impl.byteReader).number, text.
-/
namespace Go.Proofs.YtnncedndlhfdkacDoor
open Go.ChangeShapes Go.WideShapes Go.ChangeAt Go.RowKit Go.Deep
set_option linter.unusedVariables false
set_option linter.unusedSimpArgs false
set_option maxRecDepth 100000

def RdE (w : World) (base g b : Nat) (xs : List UInt8) (code : Int) : Prop := ∃ off cap, RdAt w base g b off cap xs code
theorem RdE.chg {S : Nat → Prop} {w w' : World} {base g b : Nat} {xs : List UInt8} {code : Int} (h : RdE w base g b xs code) (hc : Chg S w w') (hg : ¬ S g) (hb : ¬ S b) : RdE w' base g b xs code := by
  obtain ⟨off, cap, h⟩ := h
  exact ⟨off, cap, h.chg hc hg hb⟩
/-- What a reading leaves: the value and the reader behind it, or the corruption. -/
def NumP (w : World) (base g b : Nat) (xs : List UInt8) (code : Int) (e : Ending) (w' : World) : Prop :=
  Chg (fun k => k = g) w w' ∧ ((∃ (n : Nat) (t : List UInt8), getNum xs = some (n, t) ∧ e = .returned (.int .u64 (n : Int)) ∧ n < 2 ^ 64 ∧ t.length ≤ xs.length ∧ RdE w' base g b t code) ∨ (getNum xs = none ∧ e = Corr code))
theorem and127 (x : UInt8) : bits .and .u8 (x.toNat : Int) 127 = ((x.toNat % 128 : Nat) : Int) := by
  have h1 : BitVec.ofInt 8 (x.toNat : Int) = BitVec.ofNat 8 x.toNat := by simp
  show IntKind.wrap .u8 ((BitVec.ofInt 8 (x.toNat : Int) &&& BitVec.ofInt 8 127).toNat : Int) = _
  rw [h1, BitVec.toNat_and]
  have h2 : (BitVec.ofInt 8 127).toNat = 127 := by decide
  have h3 := u8lt x
  rw [h2, BitVec.toNat_ofNat, Nat.mod_eq_of_lt h3]
  have h4 : x.toNat &&& 127 = x.toNat % 128 := Nat.and_two_pow_sub_one_eq_mod x.toNat 7
  rw [h4]
  simp only [IntKind.wrap, IntKind.bits, IntKind.signed, Bool.false_and, Bool.false_eq_true, if_false]
  omega

theorem pow7 (k : Nat) : 2 ^ (7 * k) = 128 ^ k := by rw [Nat.pow_mul]
theorem pow7i (k : Nat) : (2 : Int) ^ (7 * k) = ((128 ^ k : Nat) : Int) := by rw [← pow7]; norm_cast
theorem shl_fit {k y : Nat} (hk : k ≤ 9) (hy : y < 128) (h9 : k = 9 → y ≤ 1) : IntKind.u64.wrap ((y : Int) * 2 ^ (7 * k)) = ((y * 128 ^ k : Nat) : Int) := by
  rw [pow7i, ← Int.natCast_mul]
  refine wrap_u64 ?_
  by_cases q : k = 9
  · subst q
    have := h9 rfl
    have : y * 128 ^ 9 ≤ 1 * 128 ^ 9 := Nat.mul_le_mul_right _ this
    omega
  · have h1 := pow8 (k := k) (by omega)
    have h2 : y * 128 ^ k ≤ 127 * 72057594037927936 := Nat.mul_le_mul (by omega) h1
    omega
theorem shl_back {k y : Nat} (hk : k ≤ 9) (hy : y < 128) (h9 : k = 9 → y ≤ 1) : (IntKind.u64.wrap ((y : Int) * 2 ^ (7 * k)) / 2 ^ (7 * k) == (y : Int)) = true := by
  rw [shl_fit hk hy h9, pow7i, ← Int.natCast_ediv, Nat.mul_div_cancel _ (Nat.pow_pos (by omega))]
  simp
theorem shl_over {y : Nat} (hy : y < 128) (h9 : ¬ y ≤ 1) : (IntKind.u64.wrap ((y : Int) * 2 ^ (7 * 9)) / 2 ^ (7 * 9) == (y : Int)) = false := by
  rw [beq_eq_false_iff_ne]
  simp only [IntKind.wrap, IntKind.bits, IntKind.signed, Bool.false_and, Bool.false_eq_true, if_false]
  omega
theorem or_add {a y k : Nat} (ha : a < 128 ^ k) (hs : a + y * 128 ^ k < 2 ^ 64) : bits .or .u64 (a : Int) ((y * 128 ^ k : Nat) : Int) = ((a + y * 128 ^ k : Nat) : Int) := by
  have h1 : BitVec.ofInt 64 (a : Int) = BitVec.ofNat 64 a := by simp
  have h2 : BitVec.ofInt 64 ((y * 128 ^ k : Nat) : Int) = BitVec.ofNat 64 (y * 128 ^ k) := BitVec.ofInt_natCast _ _
  show IntKind.wrap .u64 ((BitVec.ofInt 64 (a : Int) ||| BitVec.ofInt 64 ((y * 128 ^ k : Nat) : Int)).toNat : Int) = _
  rw [h1, h2, BitVec.toNat_or, BitVec.toNat_ofNat, BitVec.toNat_ofNat, Nat.mod_eq_of_lt (by omega), Nat.mod_eq_of_lt (by omega)]
  have h3 : a ||| y * 128 ^ k = a + y * 128 ^ k := by
    rw [Nat.or_comm, ← pow7, ← Nat.shiftLeft_eq, ← Nat.shiftLeft_add_eq_or_of_lt (by rw [pow7]; exact ha), Nat.add_comm]
  rw [h3]
  exact wrap_u64 hs

set_option maxHeartbeats 2000000 in
theorem number_core (base g b : Nat) (xs : List UInt8) (code : Int) (w : World) (h : RdE w base g b xs code) :
    Calls Tryd.prog 50 #[.pointer (some ⟨g, 0, none⟩)] w fun e w' => NumP w base g b xs code e w' := by
  have HR : Hid (RdE w base g b xs code) := h
  clear h
  go_enter Tryd.func50, Tryd.ntmps50
  go_wp2_with fail
  go_loopw [3, 4] (fun n s wr => ∃ (k acc : Nat), k ≤ 10 ∧ NumTo xs k acc ∧ (k = 10 → getNum xs = none) ∧ n = .int .u64 (acc : Int) ∧ s = .int .i64 ((7 * k : Nat) : Int) ∧ RdE wr base g b (xs.drop k) code ∧ Chg (fun k => k = g) w wr) (fun _ s _ => 70 - (intOf s).toNat)
  case atStart => exact ⟨0, 0, by omega, numTo_zero xs, by omega, rfl, rfl, HR.out, Chg.refl _ _⟩
  case round =>
    obtain ⟨k, acc, hk, hN, hT, rfl, rfl, hR, hC⟩ := hrel
    have HN : Hid (NumTo xs k acc) := hN
    have HC : Hid (Chg (fun k => k = g) w wr) := hC
    obtain ⟨off, cap, hA⟩ := hR
    have HA : Hid (RdAt wr base g b off cap (xs.drop k) code) := hA
    have c1 := hA.box.cell (j := 1) rfl
    clear hN hC hA
    by_cases h10 : k = 10
    · have z10 : ¬ ((7 * k : Nat) : Int) < 64 := by omega
      have HF : Hid (getNum xs = none) := hT h10
      clear hT h10
      go_wp2_with fail
      exact ⟨rfl, HC.out, .inr ⟨HF.out, rfl⟩⟩
    · have z10 : ((7 * k : Nat) : Int) < 64 := by omega
      clear hT
      by_cases hlt : k < xs.length
      · obtain ⟨x, hx⟩ : ∃ x, xs[k]? = some x := ⟨_, List.getElem?_eq_getElem hlt⟩
        clear c1
        go_upto_region 5 with fail
        go_wp2_with (go_at_call 51; refine (take_ok base g b off cap 1 (xs.drop k) code _ HA.out (by rw [List.length_drop]; omega)).mono ?_; rintro e w1 ⟨rfl, hA1, hC1⟩; have c0 : w1.cell? ⟨b, off, none⟩ = some (ub x) := (by have := ((HA.out.bys.chgR hC1 HA.out.lt HA.out.ne) 0 x (by rw [List.getElem?_drop]; exact hx)); exact this))
        obtain ⟨y, hy⟩ : ∃ y, y = x.toNat % 128 := ⟨_, rfl⟩
        have hg1 : IntKind.u64.wrap (bits BinOp.and IntKind.u8 (x.toNat : Int) 127) = (y : Int) := by
          rw [and127, hy]; exact wrap_u64 (by omega)
        have hg2 : bits BinOp.and IntKind.u8 (x.toNat : Int) 127 = (y : Int) := by rw [and127, hy]
        rw [hg1, hg2]
        have HX : Hid (xs[k]? = some x ∧ y = x.toNat % 128) := ⟨hx, hy⟩
        have HA1 : Hid (RdAt w1 base g b (off + 1) (cap - 1) (xs.drop (k + 1)) code) := by
          have := hA1
          rw [List.drop_drop] at this
          exact this
        have HC1 : Hid (Chg (fun k => k = g) w w1) := HC.out.trans hC1
        have c1 := hA1.box.cell (j := 1) rfl
        have glt := hA1.box.lt.2
        have zy : (y : Int) < 128 := by omega
        clear hx hy hg1 hg2 hA1 hC1 c0 hlt
        by_cases hfit : k = 9 → y ≤ 1
        · have HT : Hid ((IntKind.u64.wrap ((y : Int) * 2 ^ (7 * k)) / 2 ^ (7 * k) == (y : Int)) = true) := shl_back (by omega) (by omega) hfit
          have HS : Hid (IntKind.u64.wrap ((y : Int) * 2 ^ (7 * k)) = ((y * 128 ^ k : Nat) : Int)) := shl_fit (by omega) (by omega) hfit
          have HO : Hid (acc < 128 ^ k ∧ acc + y * 128 ^ k < 2 ^ 64) := by
            refine ⟨HN.out.lt, ?_⟩
            have := HN.out.bound (y := y) (by omega) hfit
            rw [Nat.mod_eq_of_lt (by omega : y < 128)] at this
            exact this
          have HFit : Hid (k = 9 → y ≤ 1) := hfit
          clear hfit
          go_quiet ((rw [HT.out]; go_at_call 19; exact Calls.quiet_of_same (demand_yes _ _)))
          have HW : Hid (Chg (fun k => k = g) w (w1.drewN nq) ∧ RdAt (w1.drewN nq) base g b (off + 1) (cap - 1) (xs.drop (k + 1)) code) := ⟨HC1.out.trans (Chg.of_below (below_drewN (Below.refl _ _) _)), HA1.out.chg (S := fun _ => False) (Chg.of_below (below_drewN (Below.refl _ _) _)) (fun q => q) (fun q => q)⟩
          have c1' := HW.out.2.box.cell (j := 1) rfl
          obtain ⟨w2, hw2⟩ : ∃ w2, w2 = w1.drewN nq := ⟨_, rfl⟩
          rw [← hw2] at HW c1' ⊢
          clear hw2 c1 HC1 HA1 glt
          by_cases hx8 : x.toNat < 128
          · have zx : (x.toNat : Int) < 128 := by omega
            have hlast := HN.out.last HX.out.1 hx8 (by omega) (fun q => by have := HFit.out q; have := HX.out.2; omega)
            have HL : Hid ((0 < k ∧ x.toNat = 0 → getNum xs = none) ∧ (¬ (0 < k ∧ x.toNat = 0) → getNum xs = some (acc + y * 128 ^ k, xs.drop (k + 1)) ∧ acc + y * 128 ^ k < 2 ^ 64)) := by
              refine ⟨hlast.1, fun q => ?_⟩
              have := hlast.2 q
              rw [← HX.out.2] at this
              exact this
            clear hlast hx8
            by_cases hx0 : x.toNat = 0
            · have z0 : (x.toNat : Int) = 0 := by omega
              have HX0 : Hid (x.toNat = 0) := hx0
              clear hx0
              go_wp2_with (go_at_call 19; refine (demand_core _ _ _).mono ?_; rintro e w3 ⟨rfl, (⟨hc, rfl⟩ | ⟨hc, rfl⟩)⟩)
              · have hk0 : k = 0 := by simp at hc; omega
                have HF : Hid (getNum xs = some (acc + y * 128 ^ k, xs.drop (k + 1)) ∧ acc + y * 128 ^ k < 2 ^ 64) := HL.out.2 (fun q => by omega)
                go_ret
                refine ⟨HW.out.1, .inl ⟨acc + y * 128 ^ k, xs.drop (k + 1), HF.out.1, ?_, HF.out.2, by simp, ⟨_, _, HW.out.2⟩⟩⟩
                show Ending.returned (Value.int .u64 (bits BinOp.or .u64 (acc : Int) (IntKind.u64.wrap ((y : Int) * 2 ^ (7 * k))))) = _
                rw [HS.out, or_add HO.out.1 HO.out.2]
              · have hk0 : 0 < k := by
                  by_cases q : k = 0
                  · subst q; simp at hc
                  · omega
                exact ⟨rfl, HW.out.1, .inr ⟨HL.out.1 ⟨hk0, HX0.out⟩, rfl⟩⟩
            · have z0 : ¬ (x.toNat : Int) = 0 := by omega
              have HF : Hid (getNum xs = some (acc + y * 128 ^ k, xs.drop (k + 1)) ∧ acc + y * 128 ^ k < 2 ^ 64) := HL.out.2 (fun q => hx0 q.2)
              clear hx0
              go_wp2_with (go_at_call 19; refine (demand_yes _ _).mono ?_; rintro e w3 ⟨rfl, rfl⟩)
              go_ret
              refine ⟨HW.out.1, .inl ⟨acc + y * 128 ^ k, xs.drop (k + 1), HF.out.1, ?_, HF.out.2, by simp, ⟨_, _, HW.out.2⟩⟩⟩
              show Ending.returned (Value.int .u64 (bits BinOp.or .u64 (acc : Int) (IntKind.u64.wrap ((y : Int) * 2 ^ (7 * k))))) = _
              rw [HS.out, or_add HO.out.1 HO.out.2]
          · have zx : ¬ (x.toNat : Int) < 128 := by omega
            have HM : Hid (NumTo xs (k + 1) (acc + y * 128 ^ k) ∧ (k + 1 = 10 → getNum xs = none)) := by
              refine ⟨?_, fun q => ?_⟩
              · have := HN.out.more HX.out.1 hx8
                rw [← HX.out.2] at this
                exact this
              · obtain rfl : k = 9 := by omega
                exact HN.out.great HX.out.1 (by omega)
            clear hx8
            go_wp2_with fail
            rw [HS.out, or_add HO.out.1 HO.out.2]
            refine ⟨⟨k + 1, acc + y * 128 ^ k, by omega, HM.out.1, HM.out.2, rfl, ?_, ⟨_, _, HW.out.2⟩, HW.out.1⟩, by simp [intOf]; omega⟩
            go_num
        · obtain ⟨rfl, hy1⟩ : k = 9 ∧ ¬ y ≤ 1 := by
            by_cases q : k = 9
            · exact ⟨q, fun q2 => hfit (fun _ => q2)⟩
            · exact absurd (fun q2 => absurd q2 q) hfit
          have HT : Hid ((IntKind.u64.wrap ((y : Int) * 2 ^ (7 * 9)) / 2 ^ (7 * 9) == (y : Int)) = false) := shl_over (by omega) hy1
          have HF : Hid (getNum xs = none) := HN.out.great HX.out.1 (by have := HX.out.2; omega)
          have e1 : ∀ n : Out w1, n.u.cell? ⟨g, 1, none⟩ = some (.int .i64 code) := fun n => (n.out.cell (p := ⟨g, 1, none⟩) glt).trans c1
          clear hfit hy1 c1
          refine wp_region_demand 29 24 (.tmp 28) code [(24, .bool false), (28, .int .i64 code)] rfl (fun m => by kernel_rfl) (by kernel_rfl) (fun a' h => ⟨h (24, _) (by simp), h (28, _) (by simp)⟩) ?q ?_
          case q => exact fun a' w' hb hd => ⟨hd, HC1.out.trans (Chg.of_below hb), .inr ⟨HF.out, rfl⟩⟩
          intro m
          dsimp only [List.dropLast, fk, List.cons_append, List.nil_append]
          repeat (go_big_quiet_step (rfl))
          refine wpQuiet_nil ?_
          exact ⟨rfl, slots2 (congrArg Value.bool HT.out) rfl⟩
      · have HF : Hid (getNum xs = none) := HN.out.none (by omega)
        go_upto_region 5 with fail
        go_wp2_with (go_at_call 51; refine (take_bad base g b off cap 1 (xs.drop k) code _ HA.out (by rw [List.length_drop]; omega) (by omega)).mono ?_; rintro e w1 ⟨rfl, hB1⟩)
        exact ⟨rfl, HC.out.trans (Chg.of_below hB1), .inr ⟨HF.out, rfl⟩⟩
end Go.Proofs.YtnncedndlhfdkacDoor

