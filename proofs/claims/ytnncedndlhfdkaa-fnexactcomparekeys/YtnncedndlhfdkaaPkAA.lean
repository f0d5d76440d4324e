import Derived.Test.YtnncedndlhfdkaaRows
import Derived.WalkKit
import Derived.ProofKit
import Derived.OpenShut
import Derived.ShutString
import Derived.ChangeOld
import Derived.Below
import Derived.WalkSpells
import Derived.WalkLawsBesides
import Derived.Outline
import Derived.Deep.Light
import Derived.Lib.SmallJoins
import Derived.Lib.Bytealg
import Derived.Lib.Slices
import Derived.Lib.Walk
import Derived.Deep.QuietTactic
import Derived.BigQuiet
import Derived.Deep.DeepCutAuto
import Derived.Deep.RegionWith
import Derived.Deep.DeepMust

/-
  Entries by value: the contracts of szEntry, toEntry, spec.ValidEntry, impl.ValidEntry.
-/
namespace Go.Proofs.Ytnncedndlhfdkaa
open Go.ChangeShapes Go.WideShapes Go.ChangeAt Go.RowKit
open Go.ChangeMaps (open_string shut_string)

/-- An entry as Lean has it. -/
structure Ent where
  row : ByteArray
  fam : ByteArray
  qual : ByteArray
  ts : Int
  kind : Int
  val : ByteArray

abbrev Ent.v (e : Ent) : Value := .agg #[.string e.row, .string e.fam, .string e.qual, .int .u64 e.ts, .int .i64 e.kind, .string e.val]
/-- It fits its types. -/
structure Ent.ok (e : Ent) : Prop where
  row : e.row.size ≤ maxLen
  fam : e.fam.size ≤ maxLen
  qual : e.qual.size ≤ maxLen
  val : e.val.size ≤ maxLen
  ts : (Lit.int .u64 e.ts).wf = true
  kind : (Lit.int .i64 e.kind).wf = true

def Ent.bulk (e : Ent) : Int := e.row.size + e.fam.size + e.qual.size + e.val.size

set_option maxHeartbeats 400000 in
theorem szEntry_core (r f q v : ByteArray) (t k left : Int) (w : World) (hr : r.size ≤ maxLen) (hf : f.size ≤ maxLen) (hq : q.size ≤ maxLen) (hv : v.size ≤ maxLen) (h0 : 0 ≤ left) (h1 : left ≤ 2 ^ 40) :
    Calls Try.prog 9 #[.agg #[.string r, .string f, .string q, .int .u64 t, .int .i64 k, .string v], .int .i64 left] w fun e w' =>
      ∃ x, e = .returned (.int .i64 x) ∧ (x = -1 ∨ (0 ≤ x ∧ x + r.size + f.size + q.size + v.size = left)) ∧ Below w.heap.size w w' := by
  unfold maxLen at hr hf hq hv
  go_enter Try.func9, Try.ntmps9
  go_wp2
  · go_ret
    exact ⟨_, rfl, .inl rfl, (Below.refl _ _).alloc (Nat.le_refl _) _⟩
  · go_ret
    exact ⟨_, rfl, .inl rfl, (Below.refl _ _).alloc (Nat.le_refl _) _⟩
  · go_ret
    exact ⟨_, rfl, .inl rfl, (Below.refl _ _).alloc (Nat.le_refl _) _⟩
  · go_ret
    exact ⟨_, rfl, .inl rfl, (Below.refl _ _).alloc (Nat.le_refl _) _⟩
  · go_ret
    exact ⟨_, rfl, .inr ⟨by assumption, by omega⟩, (Below.refl _ _).alloc (Nat.le_refl _) _⟩

set_option maxHeartbeats 400000 in
theorem toEntry_core (r f q v : ByteArray) (t k : Int) (w : World) :
    Calls Try.prog 11 #[.agg #[.string r, .string f, .string q, .int .u64 t, .int .i64 k, .string v]] w fun e w' =>
      e = .returned (.agg #[.string r, .string f, .string q, .int .u64 t, .int .i64 k, .string v]) ∧ Below w.heap.size w w' := by
  go_enter Try.func11, Try.ntmps11
  go_wp2
  refine bodyPost_ret (v := .agg #[.string r, .string f, .string q, .int .u64 t, .int .i64 k, .string v]) (by simp [results, Try.results11, go_sem]) rfl ⟨rfl, ?_⟩
  exact (((Below.refl _ _).alloc (Nat.le_refl _) _).alloc (by simp) _).alloc (by simp; omega) _

theorem ret_bool {a b : Bool} (h : a = b) : Ending.returned (.bool a) = .returned (.bool b) := by rw [h]

theorem isE (v : ByteArray) : v.toList.isEmpty = decide (v.size = 0) := by
  rw [ByteArray.toList_eq, Bool.eq_iff_iff]
  simp [← ByteArray.size_data]

theorem orE (k : Int) (v : ByteArray) (h : ¬ k = 0) : (k == 0 || v.toList.isEmpty) = decide (v.size = 0) := by
  rw [isE]; simp [h]

def vE (r f q : ByteArray) (k : Int) (v : ByteArray) : Bool :=
  decide (1 ≤ r.size ∧ r.size ≤ 64 ∧ 1 ≤ f.size ∧ f.size ≤ 16 ∧ q.size ≤ 64 ∧ v.size ≤ 200 ∧ 0 ≤ k ∧ k ≤ 2 ∧ (k = 0 ∨ v.size = 0))

set_option maxHeartbeats 400000 in
theorem specValid_core (r f q v : ByteArray) (t k : Int) (w : World) (hr : r.size ≤ maxLen) (hf : f.size ≤ maxLen) (hq : q.size ≤ maxLen) (hv : v.size ≤ maxLen) :
    Calls Try.prog 10 #[.agg #[.string r, .string f, .string q, .int .u64 t, .int .i64 k, .string v]] w fun e w' =>
      e = .returned (.bool (vE r f q k v)) ∧ Below w.heap.size w w' := by
  unfold maxLen at hr hf hq hv
  go_enter Try.func10, Try.ntmps10
  go_wp2
  all_goals go_ret
  all_goals refine ⟨ret_bool ?_, (Below.refl _ _).alloc (Nat.le_refl _) _⟩
  all_goals unfold vE
  all_goals go_light
  all_goals first
    | (refine (decide_eq_true ?_).symm; omega)
    | (refine (decide_eq_false ?_).symm; omega)
    | (rw [orE _ _ ‹¬ k = 0›]; refine decide_eq_decide.2 ⟨fun h => ?_, fun h => ?_⟩ <;> omega)

set_option maxHeartbeats 400000 in
theorem implValid_core (r f q v : ByteArray) (t k : Int) (w : World) (hr : r.size ≤ maxLen) (hf : f.size ≤ maxLen) (hq : q.size ≤ maxLen) (hv : v.size ≤ maxLen) :
    Calls Try.prog 12 #[.agg #[.string r, .string f, .string q, .int .u64 t, .int .i64 k, .string v]] w fun e w' =>
      e = .returned (.bool (vE r f q k v)) ∧ Below w.heap.size w w' := by
  unfold maxLen at hr hf hq hv
  go_enter Try.func12, Try.ntmps12
  go_wp2
  all_goals go_ret
  all_goals refine ⟨ret_bool ?_, (Below.refl _ _).alloc (Nat.le_refl _) _⟩
  all_goals unfold vE
  all_goals go_light
  all_goals (try simp only [beq_iff_eq, beq_eq_false_iff_ne, ne_eq] at *)
  all_goals first
    | (refine (decide_eq_true ?_).symm; omega)
    | (refine (decide_eq_false ?_).symm; omega)
    | (rw [isE]; refine decide_eq_decide.2 ⟨fun h => ?_, fun h => ?_⟩ <;> omega)
end Go.Proofs.Ytnncedndlhfdkaa

/-
  Arguments opened: an entry that can be read is six plain values.
-/
namespace Go.Proofs.Ytnncedndlhfdkaa
open Go.ChangeShapes Go.WideShapes Go.ChangeAt Go.RowKit Go.Deep

theorem Try.cellsEnt : Try.prog.cellsOf 24 = 6 := by kernel_rfl
theorem Try.cellsStr : Try.prog.cellsOf 9 = 1 := by kernel_rfl
theorem Try.cellsU64 : Try.prog.cellsOf 22 = 1 := by kernel_rfl
theorem Try.cellsI64 : Try.prog.cellsOf 2 = 1 := by kernel_rfl
theorem Try.cellsBool : Try.prog.cellsOf 4 = 1 := by kernel_rfl

theorem bcell {W w1 : World} (hb : Below W.heap.size W w1) : (∀ b o, b < W.heap.size → w1.cell? ⟨b, o, none⟩ = W.cell? ⟨b, o, none⟩) ∧ (∀ b o, b < W.heap.size → w1.frozen? ⟨b, o, none⟩ = W.frozen? ⟨b, o, none⟩) :=
  ⟨fun b o h => hb.cell (p := ⟨b, o, none⟩) h, fun b o h => hb.frozen (p := ⟨b, o, none⟩) h⟩

theorem list6 {α : Type} {cs : List α} (h : cs.length = 6) : ∃ c0 c1 c2 c3 c4 c5, cs = [c0, c1, c2, c3, c4, c5] := by
  match cs, h with
  | [c0, c1, c2, c3, c4, c5], _ => exact ⟨c0, c1, c2, c3, c4, c5, rfl⟩
theorem array6 {α : Type} {cs : Array α} (h : cs.size = 6) : ∃ c0 c1 c2 c3 c4 c5, cs = #[c0, c1, c2, c3, c4, c5] := by
  obtain ⟨l⟩ := cs
  obtain ⟨c0, c1, c2, c3, c4, c5, rfl⟩ := list6 h
  exact ⟨c0, c1, c2, c3, c4, c5, rfl⟩

set_option maxRecDepth 100000 in
theorem ent_of_trod {H : Type} {enc : TypeId × Value → H} {w : World} {base : Nat} {spare : Nat → Bool} {held : Bool} {fuel : Nat} {cs : List Value} {x : DataW H × List MemPlace}
    (h : DataW.trod enc Try.prog w base spare held fuel 24 cs = some x) :
    ∃ e : Ent, e.ok ∧ cs = [.string e.row, .string e.fam, .string e.qual, .int .u64 e.ts, .int .i64 e.kind, .string e.val] := by
  obtain ⟨xs, n, _, _, hl, hlen, hf⟩ := DataW.trod_struct Try.underlying24 h
  rw [Try.cellsEnt] at hl
  obtain ⟨c0, c1, c2, c3, c4, c5, rfl⟩ := list6 hl
  obtain ⟨x0, x1, x2, x3, x4, x5, rfl⟩ := list6 (cs := xs) hlen
  have h0 := hf 0 _ rfl
  have h1 := hf 1 _ rfl
  have h2 := hf 2 _ rfl
  have h3 := hf 3 _ rfl
  have h4 := hf 4 _ rfl
  have h5 := hf 5 _ rfl
  simp [Try.cellsStr, Try.cellsU64, Try.cellsI64] at h0 h1 h2 h3 h4 h5
  obtain ⟨a0, e0, _, b0⟩ := DataW.trod_string Try.underlying9 h0
  obtain ⟨a1, e1, _, b1⟩ := DataW.trod_string Try.underlying9 h1
  obtain ⟨a2, e2, _, b2⟩ := DataW.trod_string Try.underlying9 h2
  obtain ⟨a3, e3, _, b3⟩ := DataW.trod_int Try.underlying22 h3
  obtain ⟨a4, e4, _, b4⟩ := DataW.trod_int Try.underlying2 h4
  obtain ⟨a5, e5, _, b5⟩ := DataW.trod_string Try.underlying9 h5
  simp only [List.cons.injEq, and_true] at e0 e1 e2 e3 e4 e5
  exact ⟨⟨a0, a1, a2, a3, a4, a5⟩, ⟨b0, b1, b2, b5, b3, b4⟩, by rw [e0, e1, e2, e3, e4, e5]⟩

set_option maxRecDepth 100000 in
theorem open_ent {H : Type} {enc : TypeId × Value → H} {w : World} {base b0 : Nat} {spare : Nat → Bool} {held : Bool} {r : Reach} {v : Value} {d : DataW H} {p : List MemPlace}
    (hv : Value.okWide Try.prog w r b0 24 v) (h : DataW.Trod enc Try.prog w base spare held 24 v d p) : ∃ e : Ent, e.ok ∧ v = e.v := by
  obtain ⟨cs, rfl, hsz⟩ := okWide_struct Try.underlying24 hv
  obtain ⟨fuel, hf⟩ := h
  obtain ⟨e, he, hc⟩ := ent_of_trod hf
  refine ⟨e, he, ?_⟩
  simp only [Value.cells] at hc
  rw [show cs = ⟨cs.toList⟩ from rfl, hc]
end Go.Proofs.Ytnncedndlhfdkaa

/-
  The order of keys: spec.CompareKeys and impl.CompareKeys come to one Lean function.
-/
namespace Go.Proofs.Ytnncedndlhfdkaa
open Go.ChangeShapes Go.WideShapes Go.ChangeAt Go.RowKit Go.Deep

/-- Two strings against each other. -/
def cB (a b : ByteArray) : Int := Lib.compareBytes a.data.toList b.data.toList

theorem compareBytes_less : ∀ a b : List UInt8, Op.bytesLess a b = true → Lib.compareBytes a b = -1
  | [], [] => by simp [Op.bytesLess]
  | [], _ :: _ => by simp [Lib.compareBytes]
  | _ :: _, [] => by simp [Op.bytesLess]
  | a :: x, b :: y => by
    intro h
    simp only [Op.bytesLess, Bool.or_eq_true, decide_eq_true_eq, Bool.and_eq_true, beq_iff_eq] at h
    unfold Lib.compareBytes
    rcases h with h | ⟨rfl, h⟩
    · rw [if_pos h]
    · have hn : ¬ a < a := by simp
      rw [if_neg hn, if_neg hn]; exact compareBytes_less x y h
theorem compareBytes_self : ∀ a : List UInt8, Lib.compareBytes a a = 0
  | [] => rfl
  | a :: x => by
    unfold Lib.compareBytes
    have hn : ¬ a < a := by simp
    rw [if_neg hn, if_neg hn]; exact compareBytes_self x
theorem compareBytes_more : ∀ a b : List UInt8, Op.bytesLess a b = false → (a == b) = false → Lib.compareBytes a b = 1
  | [], [] => by simp
  | [], _ :: _ => by simp [Op.bytesLess]
  | _ :: _, [] => by simp [Lib.compareBytes]
  | a :: x, b :: y => by
    intro h h2
    simp only [Op.bytesLess, Bool.or_eq_false_iff, decide_eq_false_iff_not] at h
    unfold Lib.compareBytes
    rw [if_neg h.1]
    by_cases hb : b < a
    · rw [if_pos hb]
    · rw [if_neg hb]
      have hab : a = b := by
        have h1 := h.1
        rw [UInt8.lt_iff_toNat_lt] at h1 hb
        exact UInt8.toNat_inj.1 (by omega)
      subst hab
      refine compareBytes_more x y ?_ ?_
      · simpa using h.2
      · simpa using h2
theorem compareBytes_vals (a b : List UInt8) : Lib.compareBytes a b = -1 ∨ Lib.compareBytes a b = 0 ∨ Lib.compareBytes a b = 1 := by
  cases h : Op.bytesLess a b
  · cases h2 : (a == b)
    · exact .inr (.inr (compareBytes_more a b h h2))
    · rw [beq_iff_eq] at h2; subst h2; exact .inr (.inl (compareBytes_self a))
  · exact .inl (compareBytes_less a b h)
theorem cB_vals (a b : ByteArray) : cB a b = -1 ∨ cB a b = 0 ∨ cB a b = 1 := compareBytes_vals _ _
theorem cB_less {a b : ByteArray} (h : Op.bytesLess a.toList b.toList = true) : cB a b = -1 := by
  rw [ByteArray.toList_eq, ByteArray.toList_eq] at h; exact compareBytes_less _ _ h
theorem cB_more {a b : ByteArray} (h : Op.bytesLess a.toList b.toList = false) (h2 : (a.toList == b.toList) = false) : cB a b = 1 := by
  rw [ByteArray.toList_eq, ByteArray.toList_eq] at h h2; exact compareBytes_more _ _ h h2
theorem cB_same {a b : ByteArray} (h2 : (a.toList == b.toList) = true) : cB a b = 0 := by
  rw [ByteArray.toList_eq, ByteArray.toList_eq, beq_iff_eq] at h2; unfold cB; rw [h2]; exact compareBytes_self _

def firstOf (a b : Int) : Int := if a = 0 then b else a
def kindCmp (k l : Int) : Int := if k = 2 then (if l = 2 then 0 else -1) else (if l = 2 then 1 else 0)
def tsCmp (t u : Int) : Int := if u < t then -1 else if t < u then 1 else 0
/-- The order of keys. -/
def keyCmp (a b : Ent) : Int := firstOf (cB a.row b.row) (firstOf (cB a.fam b.fam) (firstOf (cB a.qual b.qual) (firstOf (kindCmp a.kind b.kind) (tsCmp a.ts b.ts))))

theorem ret_int {k : IntKind} {a b : Int} (h : a = b) : Ending.returned (.int k a) = .returned (.int k b) := by rw [h]

set_option maxHeartbeats 400000 in
theorem l1Str_any (a b : ByteArray) (w : World) :
    Calls Try.prog 32 #[.string a, .string b] w fun e w' => e = .returned (.int .i64 (cB a b)) ∧ w' = w := by
  cases h : Op.bytesLess a.toList b.toList
  · cases h2 : (a.toList == b.toList)
    · have H : Hid (cB a b = 1) := cB_more h h2
      go_enter Try.func32, Try.ntmps32
      go_wp2
      go_ret
      exact ⟨ret_int H.out.symm, rfl⟩
    · have H : Hid (cB a b = 0) := cB_same h2
      go_enter Try.func32, Try.ntmps32
      go_wp2
      go_ret
      exact ⟨ret_int H.out.symm, rfl⟩
  · have H : Hid (cB a b = -1) := cB_less h
    go_enter Try.func32, Try.ntmps32
    go_wp2
    go_ret
    exact ⟨ret_int H.out.symm, rfl⟩

set_option maxHeartbeats 400000 in
theorem l1First_any (a b : Int) (w : World) :
    Calls Try.prog 31 #[.int .i64 a, .int .i64 b] w fun e w' => e = .returned (.int .i64 (firstOf a b)) ∧ w' = w := by
  unfold firstOf
  by_cases h : a = 0
  · have h' : (a != 0) = false := by simp [h]
    rw [if_pos h]
    clear h
    go_enter Try.func31, Try.ntmps31
    go_wp2
    go_ret
    exact ⟨rfl, rfl⟩
  · have h' : (a != 0) = true := by simp [h]
    rw [if_neg h]
    clear h
    go_enter Try.func31, Try.ntmps31
    go_wp2
    go_ret
    exact ⟨rfl, rfl⟩

set_option maxHeartbeats 1000000 in
set_option maxRecDepth 100000 in
theorem compareString_any (a b : ByteArray) (w : World) :
    Calls Try.prog 52 #[.string a, .string b] w fun e w' => e = .returned (.int .i64 (cB a b)) ∧ w' = w := by
  go_enter Try.func52, Try.ntmps52
  go_wp2
  rw [run_callFunc_extern Try.func55 (by kernel_rfl) (by kernel_rfl) (by kernel_rfl) (e := Extern.BytealgCompare.compare) (by kernel_rfl), Lib.run_compareString]
  simp only [Result.andThen]
  rw [Oper.upon_value]
  go_wp2
  go_ret
  exact ⟨rfl, rfl⟩

set_option maxHeartbeats 400000 in
theorem stringsCompare_any (a b : ByteArray) (w : World) :
    Calls Try.prog 48 #[.string a, .string b] w fun e w' => e = .returned (.int .i64 (cB a b)) ∧ w' = w := by
  go_enter Try.func48, Try.ntmps48
  go_wp2_with (go_at_call 52; refine (compareString_any _ _ _).mono ?_; rintro e w' ⟨rfl, rfl⟩)
  go_ret
  exact ⟨rfl, rfl⟩

set_option maxHeartbeats 400000 in
theorem cmpU64_any (a b : Int) (w : World) :
    Calls Try.prog 42 #[.int .u64 a, .int .u64 b] w fun e w' => e = .returned (.int .i64 (tsCmp b a)) ∧ w' = w := by
  unfold tsCmp
  by_cases h : a < b
  · rw [if_pos h]
    go_enter Try.func42, Try.ntmps42
    go_wp2
    go_ret
    exact ⟨rfl, rfl⟩
  · rw [if_neg h]
    by_cases h2 : b < a
    · rw [if_pos h2]
      go_enter Try.func42, Try.ntmps42
      go_wp2
      go_ret
      exact ⟨rfl, rfl⟩
    · rw [if_neg h2]
      go_enter Try.func42, Try.ntmps42
      go_wp2
      go_ret
      exact ⟨rfl, rfl⟩
end Go.Proofs.Ytnncedndlhfdkaa

/-
  The order of keys: spec.CompareKeys and impl.CompareKeys come to 'keyCmp'.
-/
namespace Go.Proofs.Ytnncedndlhfdkaa
open Go.ChangeShapes Go.WideShapes Go.ChangeAt Go.RowKit Go.Deep

def tri (x : Int) : Prop := x = -1 ∨ x = 0 ∨ x = 1
theorem tri_first {a b : Int} (h : tri a) (k : tri b) : tri (firstOf a b) := by
  unfold firstOf; split
  · exact k
  · exact h
theorem tri_kind (k l : Int) : tri (kindCmp k l) := by
  unfold kindCmp tri; repeat' split
  all_goals omega
theorem tri_ts (k l : Int) : tri (tsCmp k l) := by
  unfold tsCmp tri; repeat' split
  all_goals omega
theorem keyCmp_vals (a b : Ent) : keyCmp a b = -1 ∨ keyCmp a b = 0 ∨ keyCmp a b = 1 :=
  tri_first (cB_vals _ _) (tri_first (cB_vals _ _) (tri_first (cB_vals _ _) (tri_first (tri_kind _ _) (tri_ts _ _))))

def colCmp (a b : Ent) : Int := firstOf (cB a.row b.row) (firstOf (cB a.fam b.fam) (cB a.qual b.qual))

set_option maxHeartbeats 400000 in
theorem compareColumns_any (a b : Ent) (w : World) :
    Calls Try.prog 41 #[a.v, b.v] w fun e w' => e = .returned (.int .i64 (colCmp a b)) ∧ Below w.heap.size w w' := by
  unfold colCmp firstOf Ent.v
  by_cases h1 : cB a.row b.row = 0
  · have g1 : (cB a.row b.row != 0) = false := by simp [h1]
    rw [if_pos h1]
    clear h1
    by_cases h2 : cB a.fam b.fam = 0
    · have g2 : (cB a.fam b.fam != 0) = false := by simp [h2]
      rw [if_pos h2]
      clear h2
      go_enter Try.func41, Try.ntmps41
      go_wp2_with (go_at_call 48; refine (stringsCompare_any _ _ _).mono ?_; rintro e w' ⟨rfl, rfl⟩)
      go_ret
      exact ⟨rfl, ((Below.refl _ _).alloc (Nat.le_refl _) _).alloc (by simp) _⟩
    · have g2 : (cB a.fam b.fam != 0) = true := by simp [h2]
      rw [if_neg h2]
      clear h2
      go_enter Try.func41, Try.ntmps41
      go_wp2_with (go_at_call 48; refine (stringsCompare_any _ _ _).mono ?_; rintro e w' ⟨rfl, rfl⟩)
      go_ret
      exact ⟨rfl, ((Below.refl _ _).alloc (Nat.le_refl _) _).alloc (by simp) _⟩
  · have g1 : (cB a.row b.row != 0) = true := by simp [h1]
    rw [if_neg h1]
    clear h1
    go_enter Try.func41, Try.ntmps41
    go_wp2_with (go_at_call 48; refine (stringsCompare_any _ _ _).mono ?_; rintro e w' ⟨rfl, rfl⟩)
    go_ret
    exact ⟨rfl, ((Below.refl _ _).alloc (Nat.le_refl _) _).alloc (by simp) _⟩

theorem firstOf_assoc (a b c : Int) : firstOf (firstOf a b) c = firstOf a (firstOf b c) := by
  unfold firstOf
  by_cases h : a = 0
  · simp [h]
  · simp [h]
theorem keyCmp_col (a b : Ent) : keyCmp a b = firstOf (colCmp a b) (firstOf (kindCmp a.kind b.kind) (tsCmp a.ts b.ts)) := by
  unfold keyCmp colCmp
  rw [firstOf_assoc, firstOf_assoc]
theorem keyCmp_ne {a b : Ent} (h : ¬ colCmp a b = 0) : keyCmp a b = colCmp a b := by
  rw [keyCmp_col]; unfold firstOf; rw [if_neg h]
theorem keyCmp_del1 {a b : Ent} (h : colCmp a b = 0) (h1 : a.kind = 2) (h2 : ¬ b.kind = 2) : keyCmp a b = -1 := by
  rw [keyCmp_col]; unfold firstOf kindCmp; simp [h, h1, h2]
theorem keyCmp_del2 {a b : Ent} (h : colCmp a b = 0) (h1 : ¬ a.kind = 2) (h2 : b.kind = 2) : keyCmp a b = 1 := by
  rw [keyCmp_col]; unfold firstOf kindCmp; simp [h, h1, h2]
theorem keyCmp_ts {a b : Ent} (h : colCmp a b = 0) (h1 : (a.kind = 2) ↔ (b.kind = 2)) : keyCmp a b = tsCmp a.ts b.ts := by
  rw [keyCmp_col]; unfold firstOf kindCmp
  by_cases h2 : a.kind = 2
  · simp [h, h2, h1.1 h2]
  · have h3 : ¬ b.kind = 2 := fun x => h2 (h1.2 x)
    simp [h, h2, h3]

set_option maxHeartbeats 400000 in
theorem compare_any (a b : Ent) (w : World) :
    Calls Try.prog 33 #[a.v, b.v] w fun e w' => e = .returned (.int .i64 (keyCmp a b)) ∧ Below w.heap.size w w' := by
  by_cases h1 : colCmp a b = 0
  · have g1 : (colCmp a b != 0) = false := by simp [h1]
    by_cases ha : a.kind = 2
    · have ga : (a.kind == 2) = true := by simp [ha]
      by_cases hb : b.kind = 2
      · have gb : (b.kind == 2) = true := by simp [hb]
        have H : Hid (keyCmp a b = tsCmp a.ts b.ts) := keyCmp_ts h1 (by simp [ha, hb])
        clear h1 ha hb
        go_enter Try.func33, Try.ntmps33
        go_wp2_with fail
        refine (compareColumns_any a b _).mono ?_
        rintro e w1 ⟨rfl, hb1⟩
        obtain ⟨hc1, hf1⟩ := bcell hb1
        have hz1 : w.heap.size + 1 < w1.heap.size := by have := hb1.size; simp at this; omega
        go_wp2_with fail
        refine (cmpU64_any _ _ _).mono ?_
        rintro e w2 ⟨rfl, rfl⟩
        go_wp2_with fail
        go_ret
        exact ⟨ret_int H.out.symm, (((Below.refl _ _).alloc (Nat.le_refl _) _).alloc (by simp) _).trans (hb1.mono (by simp; omega))⟩
      · have gb : (b.kind == 2) = false := by simp [hb]
        have H : Hid (keyCmp a b = -1) := keyCmp_del1 h1 ha hb
        clear h1 ha hb
        go_enter Try.func33, Try.ntmps33
        go_wp2_with fail
        refine (compareColumns_any a b _).mono ?_
        rintro e w1 ⟨rfl, hb1⟩
        obtain ⟨hc1, hf1⟩ := bcell hb1
        have hz1 : w.heap.size + 1 < w1.heap.size := by have := hb1.size; simp at this; omega
        go_wp2_with fail
        go_ret
        exact ⟨ret_int H.out.symm, (((Below.refl _ _).alloc (Nat.le_refl _) _).alloc (by simp) _).trans (hb1.mono (by simp; omega))⟩
    · have ga : (a.kind == 2) = false := by simp [ha]
      by_cases hb : b.kind = 2
      · have gb : (b.kind == 2) = true := by simp [hb]
        have H : Hid (keyCmp a b = 1) := keyCmp_del2 h1 ha hb
        clear h1 ha hb
        go_enter Try.func33, Try.ntmps33
        go_wp2_with fail
        refine (compareColumns_any a b _).mono ?_
        rintro e w1 ⟨rfl, hb1⟩
        obtain ⟨hc1, hf1⟩ := bcell hb1
        have hz1 : w.heap.size + 1 < w1.heap.size := by have := hb1.size; simp at this; omega
        go_wp2_with fail
        go_ret
        exact ⟨ret_int H.out.symm, (((Below.refl _ _).alloc (Nat.le_refl _) _).alloc (by simp) _).trans (hb1.mono (by simp; omega))⟩
      · have gb : (b.kind == 2) = false := by simp [hb]
        have H : Hid (keyCmp a b = tsCmp a.ts b.ts) := keyCmp_ts h1 (by simp [ha, hb])
        clear h1 ha hb
        go_enter Try.func33, Try.ntmps33
        go_wp2_with fail
        refine (compareColumns_any a b _).mono ?_
        rintro e w1 ⟨rfl, hb1⟩
        obtain ⟨hc1, hf1⟩ := bcell hb1
        have hz1 : w.heap.size + 1 < w1.heap.size := by have := hb1.size; simp at this; omega
        go_wp2_with fail
        refine (cmpU64_any _ _ _).mono ?_
        rintro e w2 ⟨rfl, rfl⟩
        go_wp2_with fail
        go_ret
        exact ⟨ret_int H.out.symm, (((Below.refl _ _).alloc (Nat.le_refl _) _).alloc (by simp) _).trans (hb1.mono (by simp; omega))⟩
  · have g1 : (colCmp a b != 0) = true := by simp [h1]
    have H : Hid (keyCmp a b = colCmp a b) := keyCmp_ne h1
    clear h1
    go_enter Try.func33, Try.ntmps33
    go_wp2_with fail
    refine (compareColumns_any a b _).mono ?_
    rintro e w1 ⟨rfl, hb1⟩
    go_wp2_with fail
    go_ret
    exact ⟨ret_int H.out.symm, (((Below.refl _ _).alloc (Nat.le_refl _) _).alloc (by simp) _).trans (hb1.mono (by simp; omega))⟩

def kt (a b : Ent) (K T : Int) : Prop := keyCmp a b = firstOf (cB a.row b.row) (firstOf (cB a.fam b.fam) (firstOf (cB a.qual b.qual) (firstOf K T)))
theorem kt_of {a b : Ent} {K T : Int} (hk : kindCmp a.kind b.kind = K) (ht : tsCmp a.ts b.ts = T) : kt a b K T := by
  unfold kt keyCmp; rw [hk, ht]
theorem kinds (a b : Ent) :
    ((a.kind == 2) = true ∧ (a.kind != 2) = false ∧ (b.kind == 2) = true ∧ (b.kind != 2) = false ∧ kindCmp a.kind b.kind = 0) ∨
    ((a.kind == 2) = true ∧ (a.kind != 2) = false ∧ (b.kind == 2) = false ∧ (b.kind != 2) = true ∧ kindCmp a.kind b.kind = -1) ∨
    ((a.kind == 2) = false ∧ (a.kind != 2) = true ∧ (b.kind == 2) = true ∧ (b.kind != 2) = false ∧ kindCmp a.kind b.kind = 1) ∨
    ((a.kind == 2) = false ∧ (a.kind != 2) = true ∧ (b.kind == 2) = false ∧ (b.kind != 2) = true ∧ kindCmp a.kind b.kind = 0) := by
  unfold kindCmp
  by_cases ha : a.kind = 2 <;> by_cases hb : b.kind = 2 <;> simp [ha, hb]
theorem tss (a b : Ent) :
    (b.ts < a.ts ∧ ¬ a.ts < b.ts ∧ tsCmp a.ts b.ts = -1) ∨ (¬ b.ts < a.ts ∧ a.ts < b.ts ∧ tsCmp a.ts b.ts = 1) ∨ (¬ b.ts < a.ts ∧ ¬ a.ts < b.ts ∧ tsCmp a.ts b.ts = 0) := by
  unfold tsCmp
  by_cases h1 : b.ts < a.ts
  · exact .inl ⟨h1, by omega, by simp [h1]⟩
  · by_cases h2 : a.ts < b.ts
    · exact .inr (.inl ⟨h1, h2, by simp [h1, h2]⟩)
    · exact .inr (.inr ⟨h1, h2, by simp [h1, h2]⟩)

set_option maxHeartbeats 4000000 in
theorem specCompareKeys_any (a b : Ent) (w : World) :
    Calls Try.prog 21 #[a.v, b.v] w fun e w' => e = .returned (.int .i64 (keyCmp a b)) ∧ Below w.heap.size w w' := by
  unfold Ent.v
  rcases kinds a b with ⟨ga, ga', gb, gb', hk⟩ | ⟨ga, ga', gb, gb', hk⟩ | ⟨ga, ga', gb, gb', hk⟩ | ⟨ga, ga', gb, gb', hk⟩
  all_goals rcases tss a b with ⟨h1, h2, ht⟩ | ⟨h1, h2, ht⟩ | ⟨h1, h2, ht⟩
  all_goals
    have H := kt_of hk ht
    clear hk ht
    go_enter Try.func21, Try.ntmps21
    go_wp2
    go_quiet ((first | (go_at_call 32; exact Calls.quiet_of_same (l1Str_any _ _ _)) | (go_at_call 31; exact Calls.quiet_of_same (l1First_any _ _ _))))
    go_wp2
    go_ret
    exact ⟨ret_int H.symm, below_drewN (((Below.refl _ _).alloc (Nat.le_refl _) _).alloc (by simp) _) _⟩
end Go.Proofs.Ytnncedndlhfdkaa

/-
  impl.CompareKeys comes to 'keyCmp'.
-/
namespace Go.Proofs.Ytnncedndlhfdkaa
open Go.ChangeShapes Go.WideShapes Go.ChangeAt Go.RowKit Go.Deep

set_option maxHeartbeats 400000 in
theorem implCompareKeys_any (a b : Ent) (w : World) :
    Calls Try.prog 22 #[a.v, b.v] w fun e w' => e = .returned (.int .i64 (keyCmp a b)) ∧ Below w.heap.size w w' := by
  go_enter Try.func22, Try.ntmps22
  go_wp2_with fail
  refine (compare_any a b _).mono ?_
  rintro e w1 ⟨rfl, hb1⟩
  go_wp2_with fail
  go_ret
  exact ⟨rfl, (((Below.refl _ _).alloc (Nat.le_refl _) _).alloc (by simp) _).trans (hb1.mono (by simp; omega))⟩

end Go.Proofs.Ytnncedndlhfdkaa

/-
  The law FnExactCompareKeys.
-/
namespace Go.Proofs.Ytnncedndlhfdkaa.exCompareKeys
open Go.ChangeShapes Go.WideShapes Go.ChangeAt Go.RowKit
open Go.ChangeMaps (open_string shut_string)
set_option linter.unusedVariables false

theorem own : ownKnob Try.prog.godebug = none := by kernel_rfl
theorem laidOut : laidOutB Try.prog = true := by kernel_rfl

theorem lift_in {P : Program} {f : Nat} {args : Array Value} {w : World} {v : Value} (W0 : World) (h : Below W0.heap.size W0 w) (c : Calls P f args w fun e w' => e = .returned v ∧ Below w.heap.size w w') :
    Calls P f args w fun e w' => e = .returned v ∧ Below W0.heap.size W0 w' ∧ (∀ b o, b < W0.heap.size → w'.cell? ⟨b, o, none⟩ = W0.cell? ⟨b, o, none⟩) := by
  refine c.mono ?_
  rintro e w' ⟨he, hb⟩
  have k := h.trans (hb.mono h.size)
  exact ⟨he, k, fun b o hlt => k.cell (p := ⟨b, o, none⟩) hlt⟩

set_option maxHeartbeats 1000000 in
theorem walk (a b : Ent) (w : World) (ha : a.ok) (hb : b.ok) :
    Calls Try.prog 6 #[a.v, b.v] w fun e w' => e = .returned (.bool true) ∧ Below w.heap.size w w' := by
  have HA : Hid a.ok := ha
  have HB : Hid b.ok := hb
  clear ha hb
  unfold Ent.v
  go_enter Try.func6, Try.ntmps6
  go_wp2_with fail
  refine (szEntry_core a.row a.fam a.qual a.val a.ts a.kind _ _ HA.out.row HA.out.fam HA.out.qual HA.out.val (by omega) (by omega)).mono ?_
  rintro e w1 ⟨x, rfl, hx, hb1⟩
  obtain ⟨hc1, hf1⟩ := bcell hb1
  have hz1 : w.heap.size + 1 < w1.heap.size := by have := hb1.size; simp at this; omega
  have k1 := (((Below.refl w.heap.size w).alloc (Nat.le_refl _) (Obj.cells #[.string a.row, .string a.fam, .string a.qual, .int .u64 a.ts, .int .i64 a.kind, .string a.val] 24)).alloc (by simp) (Obj.cells #[.string b.row, .string b.fam, .string b.qual, .int .u64 b.ts, .int .i64 b.kind, .string b.val] 24)).trans (hb1.mono (by simp; omega))
  have hx2 : x ≤ 1048576 := by omega
  clear hx
  go_wp2_with fail
  · go_ret
    exact ⟨rfl, k1⟩
  rename_i hx0
  refine (szEntry_core b.row b.fam b.qual b.val b.ts b.kind _ _ HB.out.row HB.out.fam HB.out.qual HB.out.val (by omega) (by omega)).mono ?_
  rintro e w2 ⟨y, rfl, hy, hb2⟩
  obtain ⟨hc2, hf2⟩ := bcell hb2
  have hz2 : w.heap.size + 1 < w2.heap.size := by have := hb2.size; omega
  have k2 := k1.trans (hb2.mono (by omega))
  have ca : ∀ o, w2.cell? ⟨w.heap.size, o, none⟩ = ((w.alloc (Obj.cells #[.string a.row, .string a.fam, .string a.qual, .int .u64 a.ts, .int .i64 a.kind, .string a.val] 24)).alloc (Obj.cells #[.string b.row, .string b.fam, .string b.qual, .int .u64 b.ts, .int .i64 b.kind, .string b.val] 24)).cell? ⟨w.heap.size, o, none⟩ := fun o => by rw [hc2 _ _ (by omega), hc1 _ _ (by simp; omega)]
  have cb : ∀ o, w2.cell? ⟨w.heap.size + 1, o, none⟩ = ((w.alloc (Obj.cells #[.string a.row, .string a.fam, .string a.qual, .int .u64 a.ts, .int .i64 a.kind, .string a.val] 24)).alloc (Obj.cells #[.string b.row, .string b.fam, .string b.qual, .int .u64 b.ts, .int .i64 b.kind, .string b.val] 24)).cell? ⟨w.heap.size + 1, o, none⟩ := fun o => by rw [hc2 _ _ (by omega), hc1 _ _ (by simp)]
  clear hy hc1 hf1 hc2 hf2 hb1 hb2 k1 hz1
  go_upto_region 8 with fail
  · go_ret
    exact ⟨rfl, k2⟩
  go_cut [6] (fun s wx => s = .int .i64 (keyCmp a b) ∧ Below w2.heap.size w2 wx)
  case first =>
    go_region_with (first
      | (go_at_call_of 11 (a.row); refine (lift_in w2 ?hB (toEntry_core a.row a.fam a.qual a.val a.ts a.kind _)).mono ?_; (case hB => (repeat (first | assumption | exact Below.refl _ _ | refine Below.drew ?_))); rintro e w' ⟨rfl, hbb, hcc⟩)
      | (go_at_call_of 11 (b.row); refine (lift_in w2 ?hB (toEntry_core b.row b.fam b.qual b.val b.ts b.kind _)).mono ?_; (case hB => (repeat (first | assumption | exact Below.refl _ _ | refine Below.drew ?_))); rintro e w' ⟨rfl, hbb, hcc⟩)
      | (go_at_call 21; refine (lift_in w2 ?hB (specCompareKeys_any a b _)).mono ?_; (case hB => (repeat (first | assumption | exact Below.refl _ _ | refine Below.drew ?_))); rintro e w' ⟨rfl, hbb, hcc⟩))
    all_goals go_wp2_with fail
    all_goals go_meet
    all_goals exact ⟨rfl, by assumption⟩
  case rest =>
  obtain ⟨rfl, h3⟩ := hcut
  have ca3 : ∀ o, wc.cell? ⟨w.heap.size, o, none⟩ = w2.cell? ⟨w.heap.size, o, none⟩ := fun o => h3.cell (p := ⟨w.heap.size, o, none⟩) (by show w.heap.size < _; omega)
  have cb3 : ∀ o, wc.cell? ⟨w.heap.size + 1, o, none⟩ = w2.cell? ⟨w.heap.size + 1, o, none⟩ := fun o => h3.cell (p := ⟨w.heap.size + 1, o, none⟩) hz2
  have hz3 : w.heap.size + 1 < wc.heap.size := by have := h3.size; omega
  go_upto_region 9 with fail
  go_cut [7] (fun s wx => s = .int .i64 (keyCmp a b) ∧ Below wc.heap.size wc wx)
  case first =>
    go_region_with (first
      | (go_at_call_of 11 (a.row); refine (lift_in wc ?hB (toEntry_core a.row a.fam a.qual a.val a.ts a.kind _)).mono ?_; (case hB => (repeat (first | assumption | exact Below.refl _ _ | refine Below.drew ?_))); rintro e w' ⟨rfl, hbb, hcc⟩)
      | (go_at_call_of 11 (b.row); refine (lift_in wc ?hB (toEntry_core b.row b.fam b.qual b.val b.ts b.kind _)).mono ?_; (case hB => (repeat (first | assumption | exact Below.refl _ _ | refine Below.drew ?_))); rintro e w' ⟨rfl, hbb, hcc⟩)
      | (go_at_call 22; refine (lift_in wc ?hB (implCompareKeys_any a b _)).mono ?_; (case hB => (repeat (first | assumption | exact Below.refl _ _ | refine Below.drew ?_))); rintro e w' ⟨rfl, hbb, hcc⟩))
    all_goals go_wp2_with fail
    all_goals go_meet
    all_goals exact ⟨rfl, by assumption⟩
  case rest =>
  obtain ⟨rfl, h4⟩ := hcut
  go_wp2_with fail
  go_ret
  exact ⟨rfl, (k2.trans (h3.mono (by omega))).trans (h4.mono (by have := h3.size; omega))⟩

set_option maxRecDepth 100000 in
theorem lifted (os : Os) (started : os.Started) (H : Type) (enc : TypeId × Value → H) :
    ReturnsInHanded {} Try.checked os 6 .any (Rows.fnExactCompareKeysSpec.pre6 enc Try.prog Try.f6 Rows.fnExactCompareKeysRow.domain false) (Rows.fnExactCompareKeysSpec.post enc Try.prog Try.f6 false true false false) := by
  refine returnsInHanded_of_change (C := Try.checked) own started (by kernel_rfl) Try.func6
    (ChangeSpec.witness6 (enc := enc) (C := Try.checked) false ⟨#[], #[.agg #[.string ⟨#[]⟩, .string ⟨#[]⟩, .string ⟨#[]⟩, .int .u64 0, .int .i64 0, .string ⟨#[]⟩], .agg #[.string ⟨#[]⟩, .string ⟨#[]⟩, .string ⟨#[]⟩, .int .u64 0, .int .i64 0, .string ⟨#[]⟩]], []⟩ 8 (by kernel_rfl) (by kernel_rfl) (by kernel_rfl) (by kernel_rfl)) ?_
  intro W base args ds gs before hval0 hW hcnd _
  have hval : ∀ (j : Nat) t v, Try.f6.params[j]? = some t → args[j]? = some v → Value.okWide Try.prog W .any base t v := hval0
  have hW' := hW
  obtain ⟨p, q, hA0, hV, rfl, hfz, hnd⟩ := hW
  have hA : DataW.TrodAll enc Try.prog W 0 (fun _ => true) true Try.f6.params.toList args.toList ds p := hA0
  rw [Try.params6] at hA hval
  obtain ⟨v0, vs0, d0, ds0, p0, q0, hargs, rfl, rfl, h0, r0⟩ := trodAll_cons hA
  obtain ⟨v1, vs1, d1, ds1, p1, q1, rfl, rfl, rfl, h1, r1⟩ := trodAll_cons r0
  obtain ⟨rfl, rfl, rfl⟩ := trodAll_nil r1
  obtain rfl : args = #[v0, v1] := by cases args; simp_all
  obtain ⟨rfl, rfl⟩ := trodVars_none hV
  have k0 := h0
  have lt0 : ∀ x ∈ p0, x.block < W.heap.size := by obtain ⟨m, hm⟩ := k0; exact DataW.trod_lt m _ _ _ hm
  obtain ⟨e0, ok0, rfl⟩ := open_ent (hval 0 24 v0 rfl rfl) h0
  have k1 := h1
  have lt1 : ∀ x ∈ p1, x.block < W.heap.size := by obtain ⟨m, hm⟩ := k1; exact DataW.trod_lt m _ _ _ hm
  obtain ⟨e1, ok1, rfl⟩ := open_ent (hval 1 24 v1 rfl rfl) h1
  clear hA0 hval0
  refine (walk e0 e1 W ok0 ok1).mono fun e W' ⟨he, bel⟩ => ?_
  subst he
  exact ⟨_, rfl, _, _, _, [], _, [], hW', trodAll_mk1 (shut_bool Try.underlying4 _), (trodAll_cons_mk (Below.trod laidOut (by kernel_rfl) (of_decide_eq_true (by kernel_rfl)) k0 bel lt0) (trodAll_cons_mk (Below.trod laidOut (by kernel_rfl) (of_decide_eq_true (by kernel_rfl)) k1 bel lt1) trodAll_mk0)), rfl, bel.frame _, fun h => by cases h⟩

theorem over : Rows.fnExactCompareKeysRow.holds Try.pinned (OpenSpec.ofChange Rows.fnExactCompareKeysSpec) :=
  OpenClaim.holds_of_wide 6 Try.f6 rfl rfl rfl rfl rfl rfl rfl ⟨rfl, rfl, rfl, rfl, rfl⟩ rfl rfl rfl rfl rfl (by kernel_rfl) Try.func6 (by kernel_rfl)
    (of_decide_eq_true (by kernel_rfl)) (by unfold Func.isWrapper; first | (rw [if_pos (by decide +kernel)]; kernel_rfl) | (rw [if_neg (by decide +kernel)]; exact ⟨rfl, rfl⟩))
    (fun os started H enc _ => lifted os started H enc)

end Go.Proofs.Ytnncedndlhfdkaa.exCompareKeys
namespace Go.Proofs.Ytnncedndlhfdkaa
theorem exactCompareKeys_holds : Rows.FnExactCompareKeysSaid := exCompareKeys.over
#print axioms exactCompareKeys_holds
end Go.Proofs.Ytnncedndlhfdkaa

