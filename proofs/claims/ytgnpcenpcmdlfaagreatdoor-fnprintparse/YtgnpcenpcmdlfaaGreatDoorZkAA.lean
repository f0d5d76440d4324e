import Derived.Test.YtgnpcenpcmdlfaaGreatDoorRows
import Derived.WalkKit
import Derived.ProofKit
import Derived.OpenShut
import Derived.ShutString
import Derived.ChangeOld
import Derived.Below
import Derived.WalkSpells
import Derived.WalkLawsBesides
import Derived.Outline
import Derived.Deep.Light
import Derived.Lib.SmallJoins
import Derived.OwnWalk
import Derived.Deep.MidRow
import Derived.Deep.DeepCutAuto
import Derived.Deep.RegionWith
import Derived.Deep.QuietTactic
import Derived.BigQuiet
import Derived.Deep.AppendLies

/-
  Entries by value: the contracts of szEntry, toEntry, spec.ValidEntry, impl.ValidEntry.
-/
namespace Go.Proofs.YtgnpcenpcmdlfaaGreatDoor
open Go.ChangeShapes Go.WideShapes Go.ChangeAt Go.RowKit
open Go.ChangeMaps (open_string shut_string)

/-- An entry as Lean has it. -/
structure Ent where
  row : ByteArray
  fam : ByteArray
  qual : ByteArray
  ts : Int
  kind : Int
  val : ByteArray

abbrev Ent.v (e : Ent) : Value := .agg #[.string e.row, .string e.fam, .string e.qual, .int .u64 e.ts, .int .i64 e.kind, .string e.val]
/-- It fits its types. -/
structure Ent.ok (e : Ent) : Prop where
  row : e.row.size ≤ maxLen
  fam : e.fam.size ≤ maxLen
  qual : e.qual.size ≤ maxLen
  val : e.val.size ≤ maxLen
  ts : (Lit.int .u64 e.ts).wf = true
  kind : (Lit.int .i64 e.kind).wf = true

def Ent.bulk (e : Ent) : Int := e.row.size + e.fam.size + e.qual.size + e.val.size

theorem ret_bool {a b : Bool} (h : a = b) : Ending.returned (.bool a) = .returned (.bool b) := by rw [h]

theorem isE (v : ByteArray) : v.toList.isEmpty = decide (v.size = 0) := by
  rw [ByteArray.toList_eq, Bool.eq_iff_iff]
  simp [← ByteArray.size_data]

theorem orE (k : Int) (v : ByteArray) (h : ¬ k = 0) : (k == 0 || v.toList.isEmpty) = decide (v.size = 0) := by
  rw [isE]; simp [h]

def vE (r f q : ByteArray) (k : Int) (v : ByteArray) : Bool :=
  decide (1 ≤ r.size ∧ r.size ≤ 64 ∧ 1 ≤ f.size ∧ f.size ≤ 16 ∧ q.size ≤ 64 ∧ v.size ≤ 200 ∧ 0 ≤ k ∧ k ≤ 2 ∧ (k = 0 ∨ v.size = 0))

end Go.Proofs.YtgnpcenpcmdlfaaGreatDoor

/-
  Arguments opened: an entry that can be read is six plain values.
-/
namespace Go.Proofs.YtgnpcenpcmdlfaaGreatDoor
open Go.ChangeShapes Go.WideShapes Go.ChangeAt Go.RowKit Go.Deep

theorem Tryz.cellsStr : Tryz.prog.cellsOf 9 = 1 := by kernel_rfl
theorem Tryz.cellsU64 : Tryz.prog.cellsOf 50 = 1 := by kernel_rfl
theorem Tryz.cellsI64 : Tryz.prog.cellsOf 2 = 1 := by kernel_rfl
theorem Tryz.cellsBool : Tryz.prog.cellsOf 4 = 1 := by kernel_rfl

theorem bcell {W w1 : World} (hb : Below W.heap.size W w1) : (∀ b o, b < W.heap.size → w1.cell? ⟨b, o, none⟩ = W.cell? ⟨b, o, none⟩) ∧ (∀ b o, b < W.heap.size → w1.frozen? ⟨b, o, none⟩ = W.frozen? ⟨b, o, none⟩) :=
  ⟨fun b o h => hb.cell (p := ⟨b, o, none⟩) h, fun b o h => hb.frozen (p := ⟨b, o, none⟩) h⟩

theorem list6 {α : Type} {cs : List α} (h : cs.length = 6) : ∃ c0 c1 c2 c3 c4 c5, cs = [c0, c1, c2, c3, c4, c5] := by
  match cs, h with
  | [c0, c1, c2, c3, c4, c5], _ => exact ⟨c0, c1, c2, c3, c4, c5, rfl⟩
theorem array6 {α : Type} {cs : Array α} (h : cs.size = 6) : ∃ c0 c1 c2 c3 c4 c5, cs = #[c0, c1, c2, c3, c4, c5] := by
  obtain ⟨l⟩ := cs
  obtain ⟨c0, c1, c2, c3, c4, c5, rfl⟩ := list6 h
  exact ⟨c0, c1, c2, c3, c4, c5, rfl⟩

end Go.Proofs.YtgnpcenpcmdlfaaGreatDoor

/-
  Entries in memory, one behind another.
-/
namespace Go.Proofs.YtgnpcenpcmdlfaaGreatDoor
open Go.ChangeShapes Go.WideShapes Go.ChangeAt Go.RowKit Go.Deep
set_option linter.unusedVariables false

abbrev Ent.cells (e : Ent) : List Value := [.string e.row, .string e.fam, .string e.qual, .int .u64 e.ts, .int .i64 e.kind, .string e.val]
def cellsE (es : List Ent) : List Value := es.flatMap Ent.cells
theorem cellsE_nil : cellsE [] = [] := rfl
theorem cellsE_cons (e : Ent) (es : List Ent) : cellsE (e :: es) = e.cells ++ cellsE es := by simp [cellsE]
theorem cellsE_append (es fs : List Ent) : cellsE (es ++ fs) = cellsE es ++ cellsE fs := by simp [cellsE]
theorem length_cellsE (es : List Ent) : (cellsE es).length = es.length * 6 := by
  induction es with
  | nil => rfl
  | cons e es ih => rw [cellsE_cons, List.length_append, ih]; simp; omega
theorem cellsE_get (es : List Ent) : ∀ (k : Nat) (e : Ent), es[k]? = some e → ∀ j, j < 6 → (cellsE es)[k * 6 + j]? = e.cells[j]? := by
  induction es with
  | nil => intro k e h; simp at h
  | cons f es ih =>
    intro k e h j hj
    rw [cellsE_cons]
    cases k with
    | zero =>
      simp at h; subst h
      rw [List.getElem?_append_left (by show 0 * 6 + j < 6; omega)]
      simp
    | succ k =>
      simp at h
      rw [List.getElem?_append_right (by show 6 ≤ (k + 1) * 6 + j; omega)]
      have : (k + 1) * 6 + j - f.cells.length = k * 6 + j := by show (k + 1) * 6 + j - 6 = _; omega
      rw [this]; exact ih k e h j hj
theorem cellsE_set (es : List Ent) : ∀ (k : Nat) (e e' : Ent) (u : Value) (j : Nat), es[k]? = some e → j < 6 → e'.cells = e.cells.set j u → (cellsE es).set (k * 6 + j) u = cellsE (es.set k e') := by
  induction es with
  | nil => intro k e e' u j h; simp at h
  | cons f es ih =>
    intro k e e' u j h hj hc
    rw [cellsE_cons]
    cases k with
    | zero =>
      simp at h; subst h
      rw [List.set_append_left _ _ (by show 0 * 6 + j < 6; omega), List.set_cons_zero, cellsE_cons, hc]
      simp
    | succ k =>
      simp at h
      rw [List.set_append_right _ _ (by show 6 ≤ (k + 1) * 6 + j; omega), List.set_cons_succ, cellsE_cons]
      have : (k + 1) * 6 + j - f.cells.length = k * 6 + j := by show (k + 1) * 6 + j - 6 = _; omega
      rw [this, ih k e e' u j h hj hc]

/-- The entries 'es' lie at ⟨b, off⟩, six cells each. -/
def EntsAt (w : World) (b off : Nat) (es : List Ent) : Prop :=
  ∀ i e, es[i]? = some e → w.cell? ⟨b, off + i * 6, none⟩ = some (.string e.row) ∧ w.cell? ⟨b, off + i * 6 + 1, none⟩ = some (.string e.fam) ∧ w.cell? ⟨b, off + i * 6 + 2, none⟩ = some (.string e.qual) ∧
    w.cell? ⟨b, off + i * 6 + 3, none⟩ = some (.int .u64 e.ts) ∧ w.cell? ⟨b, off + i * 6 + 4, none⟩ = some (.int .i64 e.kind) ∧ w.cell? ⟨b, off + i * 6 + 5, none⟩ = some (.string e.val)

theorem EntsAt.below {B : Nat} {w w' : World} {b off : Nat} {es : List Ent} (h : EntsAt w b off es) (hb : Below B w w') (hlt : b < B) : EntsAt w' b off es := by
  intro i e he
  have := h i e he
  refine ⟨?_, ?_, ?_, ?_, ?_, ?_⟩
  all_goals rw [hb.cell (by exact hlt)]
  · exact this.1
  · exact this.2.1
  · exact this.2.2.1
  · exact this.2.2.2.1
  · exact this.2.2.2.2.1
  · exact this.2.2.2.2.2

theorem below_put {B : Nat} {a w : World} (h : Below B a w) {g : Nat} (hg : B ≤ g) (o0 o1 o2 o3 o4 o5 : Nat) (v0 v1 v2 v3 v4 v5 : Value) :
    Below B a ((((((w.setCell ⟨g, o0, none⟩ v0).setCell ⟨g, o1, none⟩ v1).setCell ⟨g, o2, none⟩ v2).setCell ⟨g, o3, none⟩ v3).setCell ⟨g, o4, none⟩ v4).setCell ⟨g, o5, none⟩ v5) :=
  (((((h.setCell hg _).setCell hg _).setCell hg _).setCell hg _).setCell hg _).setCell hg _
theorem take_set_succ {es fs : List Ent} {k : Nat} {e : Ent} (h : fs.take k = es.take k) (hl : fs.length = es.length) (he : es[k]? = some e) : (fs.set k e).take (k + 1) = es.take (k + 1) := by
  have hlt : k < es.length := (List.getElem?_eq_some_iff.1 he).1
  apply List.ext_getElem?
  intro j
  have hj := congrArg (fun l => l[j]?) h
  simp only [List.getElem?_take] at hj ⊢
  rw [List.getElem?_set]
  by_cases h1 : j < k
  · have h2 : j < k + 1 := by omega
    have h3 : ¬ k = j := by omega
    simp only [h1, h2, h3, if_true, if_false] at hj ⊢
    exact hj
  · by_cases h2 : k = j
    · subst h2
      have h3 : k < k + 1 := by omega
      have h4 : k < fs.length := by omega
      simp only [h3, h4, if_true, he]
    · have h3 : ¬ j < k + 1 := by omega
      simp only [h3, if_false]

def zeroE : Ent := ⟨⟨#[]⟩, ⟨#[]⟩, ⟨#[]⟩, 0, 0, ⟨#[]⟩⟩
theorem made_zero (n : Nat) : (madeCells #[.string ⟨#[]⟩, .string ⟨#[]⟩, .string ⟨#[]⟩, .int .u64 0, .int .i64 0, .string ⟨#[]⟩] (n * 6)).toList = cellsE (List.replicate n zeroE) := by
  apply List.ext_getElem?
  intro j
  by_cases hj : j < n * 6
  · have h := cellsE_get (List.replicate n zeroE) (j / 6) zeroE (by rw [List.getElem?_replicate, if_pos (by omega)]) (j % 6) (Nat.mod_lt _ (by omega))
    rw [show j / 6 * 6 + j % 6 = j by omega] at h
    rw [h]
    have h6 : j % 6 < 6 := Nat.mod_lt _ (by omega)
    simp [madeCells, hj]
    generalize j % 6 = m at *
    match m, h6 with
    | 0, _ => rfl
    | 1, _ => rfl
    | 2, _ => rfl
    | 3, _ => rfl
    | 4, _ => rfl
    | 5, _ => rfl
  · have h1 : (cellsE (List.replicate n zeroE)).length ≤ j := by rw [length_cellsE, List.length_replicate]; omega
    rw [List.getElem?_eq_none h1]
    simp [madeCells, hj]

end Go.Proofs.YtgnpcenpcmdlfaaGreatDoor

/-
  Rows held against each other; rows of no entries; runs by value.
-/
namespace Go.Proofs.YtgnpcenpcmdlfaaGreatDoor
open Go.ChangeShapes Go.WideShapes Go.ChangeAt Go.RowKit Go.Deep
set_option linter.unusedVariables false

/-! ### Rows of no entries -/

/-! ### A slice of entries, whatever its make -/

/-- What is read of a slice of entries that came in. -/
def InEnts (w : World) (v : Value) (es : List Ent) : Prop :=
  (∃ a cap, v = .slice a 0 cap ∧ es = []) ∨
  ∃ b off cap, v = .slice (some ⟨b, off, none⟩) es.length cap ∧ EntsAt w b off es ∧ b < w.heap.size ∧ es.length ≤ cap ∧ cap ≤ maxLen
theorem InEnts.below {B : Nat} {w w' : World} {v : Value} {es : List Ent} (h : InEnts w v es) (hb : Below B w w') (hB : w.heap.size ≤ B) : InEnts w' v es := by
  rcases h with h | ⟨b, off, cap, hv, hE, hlt, h1, h2⟩
  · exact .inl h
  · exact .inr ⟨b, off, cap, hv, hE.below hb (by omega), by have := hb.size; omega, h1, h2⟩
end Go.Proofs.YtgnpcenpcmdlfaaGreatDoor

/-
  Slices of entries and runs that come in, opened.
-/
namespace Go.Proofs.YtgnpcenpcmdlfaaGreatDoor
open Go.ChangeShapes Go.WideShapes Go.ChangeAt Go.RowKit Go.Deep
set_option linter.unusedVariables false

theorem list_of_forall {α : Type} {P : Nat → α → Prop} : ∀ n, (∀ i, i < n → ∃ x, P i x) → ∃ l : List α, l.length = n ∧ ∀ i x, l[i]? = some x → P i x
  | 0, _ => ⟨[], rfl, fun i x h => by simp at h⟩
  | n + 1, h => by
    obtain ⟨l, hl, hp⟩ := list_of_forall n (fun i hi => h i (by omega))
    obtain ⟨x, hx⟩ := h n (by omega)
    refine ⟨l ++ [x], by simp [hl], fun i y hy => ?_⟩
    by_cases hi : i < l.length
    · rw [List.getElem?_append_left hi] at hy; exact hp i y hy
    · rw [List.getElem?_append_right (by omega)] at hy
      have : i - l.length = 0 := by
        have := (List.getElem?_eq_some_iff.1 hy).1
        simp at this; omega
      rw [this] at hy
      simp at hy
      subst hy
      rw [show i = n by omega]; exact hx

/-! ### Runs by value -/

end Go.Proofs.YtgnpcenpcmdlfaaGreatDoor

/-
  The marks that a law lays into rows and looks for.
-/
namespace Go.Proofs.YtgnpcenpcmdlfaaGreatDoor
open Go.ChangeShapes Go.WideShapes Go.ChangeAt Go.RowKit Go.Deep
set_option linter.unusedVariables false

def digF : Nat → Nat → List UInt8
  | 0, _ => []
  | f + 1, k => if k = 0 then [] else digF f (k / 10) ++ [UInt8.ofNat (48 + k % 10)]
theorem digF_zero (f : Nat) : digF f 0 = [] := by cases f <;> simp [digF]
theorem digF_more : ∀ (f k : Nat), k ≤ f → digF f k = digF k k
  | 0, k, h => by rw [show k = 0 by omega]
  | f + 1, k, h => by
    by_cases h0 : k = 0
    · subst h0; rw [digF_zero, digF_zero]
    · obtain ⟨j, rfl⟩ : ∃ j, k = j + 1 := ⟨k - 1, by omega⟩
      have h1 : (j + 1) / 10 ≤ j := by omega
      unfold digF
      rw [if_neg h0, if_neg h0, digF_more f _ (by omega), digF_more j _ h1]
def dig (k : Nat) : List UInt8 := digF k k
theorem dig_step {k : Nat} (h : 0 < k) : dig k = dig (k / 10) ++ [UInt8.ofNat (48 + k % 10)] := by
  obtain ⟨j, rfl⟩ : ∃ j, k = j + 1 := ⟨k - 1, by omega⟩
  show digF (j + 1) (j + 1) = _
  rw [digF, if_neg (by omega), digF_more j _ (by omega)]; rfl
/-- The mark's text. -/
def mText (k : Nat) : ByteArray := ⟨(109 :: dig k).toArray⟩

theorem mText_eq {k : Nat} {out : ByteArray} (h : dig k = out.data.toList) : mText k = ⟨#[109]⟩ ++ out := by
  obtain ⟨a⟩ := out
  unfold mText
  rw [ByteArray.mk_append_mk, h]
  simp

set_option maxHeartbeats 400000 in
set_option maxRecDepth 100000 in
theorem markText_nat (k : Nat) (w : World) (h0 : 0 < k) (h1 : k ≤ 2 ^ 40) :
    Calls Tryz.prog 98 #[.int .i64 k] w fun e w' => e = .returned (.string (mText k)) ∧ Below w.heap.size w w' := by
  go_enter Tryz.func98, Tryz.ntmps98
  go_wp2
  go_loopw [0, 3] (fun c o wr => ∃ (j : Nat) (out : ByteArray), c = .int .i64 j ∧ j + out.size ≤ k ∧ o = .string out ∧ dig k = dig j ++ out.data.toList ∧ Below w.heap.size w wr) (fun c _ _ => (intOf c).toNat)
  case atStart => exact ⟨k, ⟨#[]⟩, rfl, Nat.le_refl _, rfl, by simp, Below.refl _ _⟩
  case round =>
    obtain ⟨j, out, rfl, hj, rfl, hd, hb⟩ := hrel
    have HD : Hid (dig k = dig j ++ out.data.toList) := hd
    clear hd
    by_cases hp : 0 < j
    · obtain ⟨d, hd⟩ : ∃ d : UInt8, d = UInt8.ofNat (48 + j % 10) := ⟨_, rfl⟩
      have hdn : (d.toNat : Int) = 48 + (j : Int) % 10 := by
        rw [hd, UInt8.toNat_ofNat']
        omega
      have hcv : ((convert 22 9 (.slice (some ⟨wr.heap.size, 0, none⟩) 1 1)).run Tryz.prog (wr.alloc (Obj.cells #[.int .u8 (48 + (j : Int) % 10)] 5))) = .ok (.string ⟨#[d]⟩) (wr.alloc (Obj.cells #[.int .u8 (48 + (j : Int) % 10)] 5)) := by
        refine run_convert_bytes_back (P := Tryz.prog) (wr.alloc (Obj.cells #[.int .u8 (48 + (j : Int) % 10)] 5)) 22 9 5 ⟨wr.heap.size, 0, none⟩ 1 [d] Tryz.underlying22 Tryz.underlying5 Tryz.underlying9 ?_
        intro i hi
        obtain rfl : i = 0 := by simpa using hi
        simp [Addr.add, hdn]
      have HN : Hid (d = UInt8.ofNat (48 + j % 10)) := hd
      clear hd hdn
      go_wp2_with fail
      refine ⟨⟨j / 10, ⟨#[d]⟩ ++ out, by go_num, ?_, rfl, ?_, hb.alloc hb.size _⟩, ?_⟩
      · go_light
        rw [ByteArray.size_append]
        show j / 10 + (1 + out.size) ≤ k
        omega
      · go_light
        rw [HD.out, dig_step hp, HN.out]
        simp
      · go_light
        simp [intOf]; omega
    · go_wp2_with fail
      go_ret
      refine ⟨?_, hb⟩
      have e : mText k = ⟨#[109]⟩ ++ out := mText_eq (by rw [HD.out, show j = 0 by omega]; rfl)
      rw [e]; rfl

theorem markText_any (a : Int) (w : World) (h0 : 0 < a) (h1 : a ≤ 2 ^ 40) :
    Calls Tryz.prog 98 #[.int .i64 a] w fun e w' => e = .returned (.string (mText a.toNat)) ∧ Below w.heap.size w w' := by
  obtain ⟨k, rfl⟩ := Int.eq_ofNat_of_zero_le (by omega : 0 ≤ a)
  rw [Int.toNat_natCast]
  exact markText_nat k w (by omega) (by omega)

/-- The entry that the marks from 'k' on make. -/
def mEnt (k : Int) : Ent := ⟨mText k.toNat, mText (k + 1).toNat, mText (k + 1 + 1).toNat, k + 1 + 1 + 1, k + 1 + 1 + 1 + 1, mText (k + 1 + 1 + 1 + 1 + 1).toNat⟩
/-- The first 'i' of the entries are marked, from 'k' on. -/
def marked (k : Int) (es : List Ent) (i : Nat) : Prop := ∀ j : Nat, j < i → es[j]? = some (mEnt (k + j * 6))

theorem grown_of_below {w w' : World} (h : Below w.heap.size w w') (r : Option Nat) : w.grownBy w' r := ⟨h.os, h.tape, h.output, h.size, fun k hk _ => h.block k hk⟩
theorem grown_set (w : World) (g o : Nat) (u : Value) : w.grownBy (w.setCell ⟨g, o, none⟩ u) (some g) := by
  have h : Below g w (w.setCell ⟨g, o, none⟩ u) := (Below.refl g w).setCell (Nat.le_refl _) u
  exact ⟨h.os, h.tape, h.output, h.size, fun k hk hne => Below.heap_setCell w ⟨g, o, none⟩ u k (fun e => hne (by rw [e]))⟩
theorem marked_set {k : Int} {fs : List Ent} {m : Nat} (h : marked k fs m) (hm : m < fs.length) : marked k (fs.set m (mEnt (k + m * 6))) (m + 1) := by
  intro j hj
  by_cases e : j = m
  · subst e; simp [hm]
  · rw [List.getElem?_set_ne (by omega)]; exact h j (by omega)

end Go.Proofs.YtgnpcenpcmdlfaaGreatDoor

/-
  What has turned between two worlds.
-/
namespace Go.Proofs.YtgnpcenpcmdlfaaGreatDoor
open Go.ChangeShapes Go.WideShapes Go.ChangeAt Go.RowKit Go.Deep
set_option linter.unusedVariables false
set_option linter.unusedSimpArgs false

/-- From 'w' to 'w'': only what lies in blocks of 'S' has turned, and new blocks came. -/
structure Chg (S : Nat → Prop) (w w' : World) : Prop where
  os : w'.os = w.os
  tape : w'.tape = w.tape
  output : w'.output = w.output
  size : w.heap.size ≤ w'.heap.size
  block : ∀ k, k < w.heap.size → ¬ S k → w'.heap[k]? = w.heap[k]?
theorem Chg.refl (S : Nat → Prop) (w : World) : Chg S w w := ⟨rfl, rfl, rfl, Nat.le_refl _, fun _ _ _ => rfl⟩
theorem Chg.trans {S : Nat → Prop} {a b c : World} (h : Chg S a b) (k : Chg S b c) : Chg S a c :=
  ⟨k.os.trans h.os, k.tape.trans h.tape, k.output.trans h.output, Nat.le_trans h.size k.size, fun i hi hn => (k.block i (Nat.lt_of_lt_of_le hi h.size) hn).trans (h.block i hi hn)⟩
theorem Chg.mono {S T : Nat → Prop} {w w' : World} (h : Chg S w w') (hs : ∀ k, S k → T k) : Chg T w w' := ⟨h.os, h.tape, h.output, h.size, fun k hk hn => h.block k hk (fun q => hn (hs k q))⟩
theorem Chg.of_below {S : Nat → Prop} {w w' : World} (h : Below w.heap.size w w') : Chg S w w' := ⟨h.os, h.tape, h.output, h.size, fun k hk _ => h.block k hk⟩
theorem Chg.of_grown {S : Nat → Prop} {w w' : World} {row : Option Nat} (h : w.grownBy w' row) (hs : ∀ k, row = some k → S k) : Chg S w w' :=
  ⟨h.os, h.tape, h.output, h.size, fun k hk hn => h.block k hk (fun q => hn (hs k q.symm))⟩
theorem Chg.of_set {S : Nat → Prop} (w : World) (g o : Nat) (u : Value) (hs : S g) : Chg S w (w.setCell ⟨g, o, none⟩ u) := Chg.of_grown (grown_set w g o u) (fun k hk => by cases hk; exact hs)
theorem Chg.below {S : Nat → Prop} {B : Nat} {a w w' : World} (h : Below B a w) (k : Chg S w w') (hB : B ≤ w.heap.size) (hs : ∀ k, S k → B ≤ k) : Below B a w' :=
  h.trans ⟨k.os, k.tape, k.output, k.size, fun i hi => k.block i (by omega) (fun q => by have := hs i q; omega)⟩
theorem Chg.cell {S : Nat → Prop} {w w' : World} (h : Chg S w w') {p : Addr} (hp : p.block < w.heap.size) (hn : ¬ S p.block) : w'.cell? p = w.cell? p := World.cell?_of_block (w := w) (h.block p.block hp hn)
theorem Chg.frozen {S : Nat → Prop} {w w' : World} (h : Chg S w w') {p : Addr} (hp : p.block < w.heap.size) (hn : ¬ S p.block) : w'.frozen? p = w.frozen? p := World.frozen?_of_block (w := w) (h.block p.block hp hn)
theorem EntsAt.chg {S : Nat → Prop} {w w' : World} {b off : Nat} {es : List Ent} (h : EntsAt w b off es) (hb : Chg S w w') (hlt : b < w.heap.size) (hn : ¬ S b) : EntsAt w' b off es := by
  intro i e he
  have := h i e he
  refine ⟨?_, ?_, ?_, ?_, ?_, ?_⟩
  all_goals rw [hb.cell (by exact hlt) (by exact hn)]
  · exact this.1
  · exact this.2.1
  · exact this.2.2.1
  · exact this.2.2.2.1
  · exact this.2.2.2.2.1
  · exact this.2.2.2.2.2
theorem own_apart {w : World} {base e size : Nat} {v : Value} {n : Nat} {xs : List Value} {base' e' size' : Nat} {v' : Value} {n' : Nat} {xs' : List Value} (h : w.ownsRow base e size v n xs) (h' : w.ownsRow base' e' size' v' n' xs') (hne : e ≠ e') : ∀ k, v.ownBlock = some k → v'.ownBlock ≠ some k := by
  intro k hk hk'
  rcases h.2 with ⟨rfl, _⟩ | ⟨g1, cap1, cur, rfl, _, hc, _⟩
  · simp [Value.ownBlock] at hk
  · rcases h'.2 with ⟨rfl, _⟩ | ⟨g2, cap2, cur2, rfl, _, hc2, _⟩
    · simp [Value.ownBlock] at hk'
    · simp [Value.ownBlock] at hk hk'
      subst hk hk'
      rw [hc] at hc2
      simp at hc2
      exact hne hc2.2
theorem own_chg {S : Nat → Prop} {w w' : World} {base e size : Nat} {v : Value} {n : Nat} {xs : List Value} (h : w.ownsRow base e size v n xs) (hb : Chg S w w') (hn : ∀ k, v.ownBlock = some k → ¬ S k) : w'.ownsRow base e size v n xs := by
  refine ⟨h.1, ?_⟩
  rcases h.2 with hz | ⟨g, cap, cur, rfl, h1, hg, rest⟩
  · exact .inl hz
  · refine .inr ⟨g, cap, cur, rfl, h1, ?_, rest⟩
    have hlt : g < w.heap.size := by
      rcases Nat.lt_or_ge g w.heap.size with q | q
      · exact q
      · rw [Array.getElem?_eq_none q] at hg; cases hg
    rw [hb.block g hlt (hn g rfl)]; exact hg

end Go.Proofs.YtgnpcenpcmdlfaaGreatDoor

/-
  Ranges by value: the contracts of szRange, toRange, spec.InRange, impl.InRange.
-/
namespace Go.Proofs.YtgnpcenpcmdlfaaGreatDoor
open Go.ChangeShapes Go.WideShapes Go.ChangeAt Go.RowKit Go.Deep

/-- Whether a row is in a range. -/
def inR (lo : ByteArray) (hh : Bool) (hi row : ByteArray) : Bool := !Op.bytesLess row.toList lo.toList && (!hh || Op.bytesLess row.toList hi.toList)

end Go.Proofs.YtgnpcenpcmdlfaaGreatDoor

/-
  The draws: what they may hand back.
-/
namespace Go.Proofs.YtgnpcenpcmdlfaaGreatDoor
open Go.ChangeShapes Go.WideShapes Go.ChangeAt Go.RowKit Go.Deep
set_option linter.unusedVariables false
set_option linter.unusedSimpArgs false
set_option maxRecDepth 100000

/-- The letters that are drawn from. -/
def CodeAt (w : World) (base : Nat) (bv : Value) (n : Nat) : Prop :=
  n ≤ 1048576 ∧ ((∃ a cap, bv = .slice a 0 cap ∧ n = 0) ∨ ∃ b off cap, bv = .slice (some ⟨b, off, none⟩) n cap ∧ b < base ∧ ∀ k, k < n → ∃ x : Int, w.cell? ⟨b, off + k, none⟩ = some (.int .u8 x) ∧ 0 ≤ x ∧ x < 256)
/-- The drawing's own variable. -/
def OwnL (w : World) (base cb : Nat) (vs : List Value) : Prop := w.ownsRow base 109 3 (.slice (some ⟨cb, 0, none⟩) 1 1) 1 vs
structure DrawAt (base cb : Nat) (bv : Value) (n : Nat) (w : World) : Prop where
  own : ∃ (i : Nat) (h : Int), i ≤ n ∧ OwnL w base cb [bv, .int .i64 i, .int .i64 h]
  code : CodeAt w base bv n
  base : base ≤ w.heap.size

theorem and255 (x : Int) : 0 ≤ bits .and .i64 x 255 ∧ bits .and .i64 x 255 < 256 := by
  have h : (BitVec.ofInt 64 x &&& BitVec.ofInt 64 255).toNat ≤ 255 := by
    rw [BitVec.toNat_and]
    exact Nat.le_trans Nat.and_le_right (by decide)
  have e : bits .and .i64 x 255 = IntKind.i64.wrap ((BitVec.ofInt 64 x &&& BitVec.ofInt 64 255).toNat : Int) := rfl
  rw [e, IntKind.wrap_i64]
  omega
theorem CodeAt.chg {T : Nat → Prop} {w w' : World} {base : Nat} {bv : Value} {n : Nat} (h : CodeAt w base bv n) (hc : Chg T w w') (hb : base ≤ w.heap.size) (hT : ∀ k, T k → base ≤ k) : CodeAt w' base bv n := by
  refine ⟨h.1, ?_⟩
  rcases h.2 with h | ⟨b, off, cap, hv, hlt, hx⟩
  · exact .inl h
  · refine .inr ⟨b, off, cap, hv, hlt, fun k hk => ?_⟩
    obtain ⟨x, h1, h2⟩ := hx k hk
    exact ⟨x, by rw [hc.cell (p := ⟨b, off + k, none⟩) (by show b < w.heap.size; omega) (fun q => by have q1 : base ≤ b := hT _ q; omega)]; exact h1, h2⟩
theorem DrawAt.chg {T : Nat → Prop} {base cb : Nat} {bv : Value} {n : Nat} {w w' : World} (h : DrawAt base cb bv n w) (hc : Chg T w w') (hn : ¬ T cb) (hT : ∀ k, T k → base ≤ k) : DrawAt base cb bv n w' := by
  obtain ⟨i, hh, h1, h2⟩ := h.own
  exact ⟨⟨i, hh, h1, own_chg h2 hc (fun k q => by simp [Value.ownBlock] at q; subst q; exact hn)⟩, h.code.chg hc h.base hT, by have := hc.size; have := h.base; omega⟩
theorem DrawAt.below {base cb : Nat} {bv : Value} {n : Nat} {w w' : World} (h : DrawAt base cb bv n w) (hb : Below w.heap.size w w') : DrawAt base cb bv n w' :=
  h.chg (T := fun _ => False) (Chg.of_below hb) (fun q => q) (fun k q => q.elim)
theorem DrawAt.lt {base cb : Nat} {bv : Value} {n : Nat} {w : World} (h : DrawAt base cb bv n w) : base ≤ cb ∧ cb < w.heap.size := by
  obtain ⟨i, hh, h1, h2⟩ := h.own
  exact World.ownsRow.lt h2 cb rfl
theorem DrawAt.setH {base cb : Nat} {bv : Value} {n i : Nat} {hh : Int} {w : World} (hi : i ≤ n) (h : OwnL w base cb [bv, .int .i64 i, .int .i64 hh]) (hc : CodeAt w base bv n) (hb : base ≤ w.heap.size) (h' : Int) : DrawAt base cb bv n (w.setCell ⟨cb, 2, none⟩ (.int .i64 h')) := by
  have hl := World.ownsRow.lt h cb rfl
  refine ⟨⟨i, h', hi, (World.ownsRow.stored h 2 _).1⟩, hc.chg (Chg.of_set (S := fun k => k = cb) w cb 2 _ rfl) hb (fun k q => by omega), ?_⟩
  have := (Chg.of_set (S := fun k => k = cb) w cb 2 (.int .i64 h') rfl).size
  omega
theorem DrawAt.setI {base cb : Nat} {bv : Value} {n i : Nat} {hh : Int} {w : World} (hi : i + 1 ≤ n) (h : OwnL w base cb [bv, .int .i64 i, .int .i64 hh]) (hc : CodeAt w base bv n) (hb : base ≤ w.heap.size) : DrawAt base cb bv n (w.setCell ⟨cb, 1, none⟩ (.int .i64 (i + 1 : Nat))) := by
  have hl := World.ownsRow.lt h cb rfl
  refine ⟨⟨i + 1, hh, hi, (World.ownsRow.stored h 1 _).1⟩, hc.chg (Chg.of_set (S := fun k => k = cb) w cb 1 _ rfl) hb (fun k q => by omega), ?_⟩
  have := (Chg.of_set (S := fun k => k = cb) w cb 1 (.int .i64 (i + 1 : Nat)) rfl).size
  omega

set_option maxHeartbeats 1000000 in
theorem byte_core (base cb : Nat) (bv : Value) (n : Nat) (w : World) (h : DrawAt base cb bv n w) :
    Calls Tryz.prog 84 #[.pointer (some ⟨cb, 0, none⟩)] w fun e w' => ∃ x : Int, e = .returned (.int .i64 x) ∧ 0 ≤ x ∧ x < 256 ∧ DrawAt base cb bv n w' ∧ Chg (fun k => k = cb) w w' := by
  obtain ⟨i, hh, hin, hO⟩ := h.own
  have c0 : w.cell? ⟨cb, 0, none⟩ = some bv := World.ownsRow.cellAt hO 0 (by decide)
  have c1 : w.cell? ⟨cb, 1, none⟩ = some (.int .i64 i) := World.ownsRow.cellAt hO 1 (by decide)
  have c2 : w.cell? ⟨cb, 2, none⟩ = some (.int .i64 hh) := World.ownsRow.cellAt hO 2 (by decide)
  have f1 := World.ownsRow.frozenAt hO 1
  have f2 := World.ownsRow.frozenAt hO 2
  obtain ⟨h1, hh1⟩ : ∃ h1, h1 = wrap64 (wrap64 (hh * 6364136223846793005) + 1442695040888963407) := ⟨_, rfl⟩
  obtain ⟨W1, hW1⟩ : ∃ W1 : World, W1 = w.setCell ⟨cb, 2, none⟩ (.int .i64 h1) := ⟨_, rfl⟩
  have hC1 : Chg (fun k => k = cb) w W1 := by rw [hW1]; exact Chg.of_set _ _ _ _ rfl
  have HO1 : Hid (OwnL W1 base cb [bv, .int .i64 i, .int .i64 h1]) := by show OwnL W1 _ _ _; rw [hW1]; exact (World.ownsRow.stored hO 2 _).1
  have hD1 : DrawAt base cb bv n W1 := by rw [hW1]; exact DrawAt.setH hin hO h.code h.base h1
  have HD : Hid (DrawAt base cb bv n W1 ∧ Chg (fun k => k = cb) w W1) := ⟨hD1, hC1⟩
  clear hD1 hC1
  have hcode := h.code
  have hn := hcode.1
  clear h hO
  go_enter Tryz.func84, Tryz.ntmps84
  go_upto_region 2 with fail
  rw [← hh1, ← hW1]
  have d0 : W1.cell? ⟨cb, 0, none⟩ = some bv := World.ownsRow.cellAt HO1.out 0 (by decide)
  have d1 : W1.cell? ⟨cb, 1, none⟩ = some (.int .i64 i) := World.ownsRow.cellAt HO1.out 1 (by decide)
  have d2 : W1.cell? ⟨cb, 2, none⟩ = some (.int .i64 h1) := World.ownsRow.cellAt HO1.out 2 (by decide)
  have e1 := World.ownsRow.frozenAt HO1.out 1
  clear hh1 hW1 c0 c1 c2 f1 f2
  go_quiet (fail)
  obtain ⟨x0, hx0⟩ : ∃ x0, x0 = bits BinOp.and IntKind.i64 (bits BinOp.xor IntKind.i64 (h1 / 8589934592) (h1 / 35184372088832)) 255 := ⟨_, rfl⟩
  have hx1 : 0 ≤ x0 ∧ x0 < 256 := by rw [hx0]; exact and255 _
  rw [← hx0]
  clear hx0
  rcases HD.out.1.code.2 with ⟨a, cap, rfl, rfl⟩ | ⟨b, off, cap, rfl, hlt, hx⟩
  · have z : ¬ (i : Int) < 0 := by omega
    go_upto_region 3 with fail
    go_quiet (fail)
    go_wp2_with fail
    go_ret
    exact ⟨x0, rfl, hx1.1, hx1.2, HD.out.1.below (below_drewN (Below.refl _ _) _), HD.out.2.trans (Chg.of_below (below_drewN (Below.refl _ _) _))⟩
  · by_cases hi : i < n
    · obtain ⟨x, hc, hxa, hxb⟩ := hx i hi
      have z : (i : Int) < (n : Int) := by omega
      go_upto_region 3 with fail
      go_quiet (fail)
      go_upto_region 4 with fail
      go_quiet (fail)
      obtain ⟨x2, hx2⟩ : ∃ x2, x2 = bits BinOp.and IntKind.i64 (x0 + x) 255 := ⟨_, rfl⟩
      have hx3 : 0 ≤ x2 ∧ x2 < 256 := by rw [hx2]; exact and255 _
      rw [← hx2]
      clear hx2
      go_wp2_with fail
      go_ret
      refine ⟨x2, rfl, hx3.1, hx3.2, ?_, ?_⟩
      · have hb := fun q => below_drewN (Below.refl W1.heap.size W1) q
        exact DrawAt.setI (by omega) (own_chg (S := fun _ => False) HO1.out (Chg.of_below (hb _)) (fun k _ q => q)) (HD.out.1.below (hb _)).code (HD.out.1.below (hb _)).base
      · exact (HD.out.2.trans (Chg.of_below (below_drewN (Below.refl _ _) _))).trans (Chg.of_set (S := fun k => k = cb) _ _ _ _ rfl)
    · have z : ¬ (i : Int) < (n : Int) := by omega
      go_upto_region 3 with fail
      go_quiet (fail)
      go_wp2_with fail
      go_ret
      exact ⟨x0, rfl, hx1.1, hx1.2, HD.out.1.below (below_drewN (Below.refl _ _) _), HD.out.2.trans (Chg.of_below (below_drewN (Below.refl _ _) _))⟩

/-- What a draw leaves. -/
abbrev Drew (base cb : Nat) (bv : Value) (n : Nat) (w w' : World) : Prop := DrawAt base cb bv n w' ∧ Chg (fun k => k = cb) w w'

set_option maxHeartbeats 1000000 in
theorem below_core (base cb : Nat) (bv : Value) (n : Nat) (m : Int) (w : World) (h : DrawAt base cb bv n w) (hm : 1 ≤ m) (hm2 : m ≤ 1048576) :
    Calls Tryz.prog 43 #[.pointer (some ⟨cb, 0, none⟩), .int .i64 m] w fun e w' => ∃ x : Int, e = .returned (.int .i64 x) ∧ 0 ≤ x ∧ x < m ∧ Drew base cb bv n w w' := by
  have HD : Hid (DrawAt base cb bv n w) := h
  clear h
  by_cases hs : m ≤ 256
  · go_enter Tryz.func43, Tryz.ntmps43
    go_wp2_with fail
    refine (byte_core base cb bv n _ HD.out).mono ?_
    rintro e w1 ⟨x, rfl, hx0, hx1, hD1, hC1⟩
    have H1 : Hid (DrawAt base cb bv n w1 ∧ Chg (fun k => k = cb) w w1) := ⟨hD1, hC1⟩
    clear hD1 hC1
    go_wp2
    go_ret
    exact ⟨x % m, rfl, Int.emod_nonneg _ (by omega), Int.emod_lt_of_pos _ (by omega), H1.out.1, H1.out.2⟩
  · go_enter Tryz.func43, Tryz.ntmps43
    go_wp2_with fail
    refine (byte_core base cb bv n _ HD.out).mono ?_
    rintro e w1 ⟨x, rfl, hx0, hx1, hD1, hC1⟩
    have H1 : Hid (DrawAt base cb bv n w1 ∧ Chg (fun k => k = cb) w w1) := ⟨hD1, hC1⟩
    clear hD1 hC1
    go_wp2_with fail
    refine (byte_core base cb bv n _ H1.out.1).mono ?_
    rintro e w2 ⟨y, rfl, hy0, hy1, hD2, hC2⟩
    have H2 : Hid (DrawAt base cb bv n w2 ∧ Chg (fun k => k = cb) w w2) := ⟨hD2, H1.out.2.trans hC2⟩
    clear hD2 hC2
    go_wp2_with fail
    refine (byte_core base cb bv n _ H2.out.1).mono ?_
    rintro e w3 ⟨z, rfl, hz0, hz1, hD3, hC3⟩
    have H3 : Hid (DrawAt base cb bv n w3 ∧ Chg (fun k => k = cb) w w3) := ⟨hD3, H2.out.2.trans hC3⟩
    clear hD3 hC3
    go_wp2
    go_ret
    exact ⟨(x * 65536 + y * 256 + z) % m, rfl, Int.emod_nonneg _ (by omega), Int.emod_lt_of_pos _ (by omega), H3.out.1, H3.out.2⟩

set_option maxHeartbeats 400000 in
theorem once_core (base cb : Nat) (bv : Value) (n : Nat) (m : Int) (w : World) (h : DrawAt base cb bv n w) (hm : 1 ≤ m) (hm2 : m ≤ 1048576) :
    Calls Tryz.prog 33 #[.pointer (some ⟨cb, 0, none⟩), .int .i64 m] w fun e w' => ∃ v : Value, e = .returned v ∧ (v = .bool true ∨ v = .bool false) ∧ Drew base cb bv n w w' := by
  have HD : Hid (DrawAt base cb bv n w) := h
  clear h
  go_enter Tryz.func33, Tryz.ntmps33
  go_wp2_with fail
  refine (below_core base cb bv n m _ HD.out hm hm2).mono ?_
  rintro e w1 ⟨x, rfl, hx0, hx1, hD1, hC1⟩
  have H1 : Hid (DrawAt base cb bv n w1 ∧ Chg (fun k => k = cb) w w1) := ⟨hD1, hC1⟩
  clear hD1 hC1
  cases hx : (x == 0)
  · go_wp2_with fail
    go_ret
    exact ⟨_, rfl, .inr rfl, H1.out.1, H1.out.2⟩
  · go_wp2_with fail
    go_ret
    exact ⟨_, rfl, .inl rfl, H1.out.1, H1.out.2⟩

theorem Chg.grown_new {T : Nat → Prop} {w wr w' : World} {row : Option Nat} (h : Chg T w wr) (hg : wr.grownBy w' row) (hr : ∀ k, row = some k → w.heap.size ≤ k) : Chg T w w' :=
  ⟨hg.os.trans h.os, hg.tape.trans h.tape, hg.output.trans h.output, Nat.le_trans h.size hg.size, fun k hk hn => (hg.block k (Nat.lt_of_lt_of_le hk h.size) (fun q => by have := hr k q.symm; omega)).trans (h.block k hk hn)⟩
theorem Chg.alloc_new {T : Nat → Prop} {w wr : World} (h : Chg T w wr) (o : Obj) : Chg T w (wr.alloc o) := h.trans (Chg.of_below ((Below.refl _ _).alloc (Nat.le_refl _) _))

/-- A row of bytes of the call's own. -/
abbrev u8v (z : UInt8) : Value := .int .u8 (z.toNat : Int)
def OwnB (w : World) (base g cap : Nat) (zs : List UInt8) : Prop := w.ownsRow base 5 1 (.slice (some ⟨g, 0, none⟩) zs.length cap) zs.length (zs.map u8v)
theorem Tryz.infoU8 : (Tryz.prog.info? 5).map (fun i => (i.zero, i.size, i.bytes)) = some (some (.int .u8 0), 1, 1) := by kernel_rfl
theorem wpList_append_byte {ops : Array Oper} {rest : List Oper} {o : Oper} {a : Act} {Q : Exit → Act → World → Prop} (w : World) (hgd : o.guard = none) (s x : Operand)
    (ho : o.op = .call { callee := .builtin .append, args := #[s, x], argTypes := #[22, 22] })
    (base g cp n blk : Nat) (zs : List UInt8) (z : UInt8) (hs : a.eval s = .slice (some ⟨g, 0, none⟩) n cp) (cx : Nat) (hx : a.eval x = .slice (some ⟨blk, 0, none⟩) 1 cx) (hn : n = zs.length) (hO : OwnB w base g cp zs)
    (hc : w.cell? ⟨blk, 0, none⟩ = some (.int .u8 (z.toNat : Int))) (hlen : zs.length ≤ 2 ^ 30) (hbase : base ≤ w.heap.size)
    (h : ∀ g' cp' w', OwnB w' base g' cp' (zs ++ [z]) → w.grownBy w' (some g) → wpList Tryz.prog ops Q rest (a.put o.dst (.slice (some ⟨g', 0, none⟩) (n + 1) cp')) w') : wpList Tryz.prog ops Q (o :: rest) a w := by
  obtain ⟨i, hi, hz0, hz1, hz2⟩ := info_parts Tryz.infoU8
  subst hn
  refine wpList_append_lies w hgd s x 22 ho base 5 i _ 1 1 Tryz.underlying22 hi hz0 hz1 hz2 rfl (by decide) (.slice (some ⟨g, 0, none⟩) zs.length cp) zs.length (zs.map u8v) hs hO ⟨blk, 0, none⟩ 1 cx [u8v z] hx rfl ?_ ?_ (by decide) ?_ ?_ hbase w.heap.size rfl ?_
  · intro j u hu
    have hj : j < 1 := by simpa using (List.getElem?_eq_some_iff.1 hu).1
    obtain rfl : j = 0 := by omega
    simp at hu
    rw [← hu]
    simpa [Addr.add] using hc
  · intro u hu
    simp at hu
    subst hu
    rfl
  · unfold maxLen; omega
  · omega
  · intro g' cp' w' hO' hgr hat hlt
    refine h g' cp' w' ?_ hgr
    unfold OwnB
    rw [List.length_append, List.map_append]
    exact hO'
theorem ownB_new (w : World) (base : Nat) (hb : base ≤ w.heap.size) : OwnB (w.alloc (Obj.cells #[] 5)) base w.heap.size 0 [] := World.ownsRow_made w #[] 0 hb (Nat.zero_le _) (by simp)
theorem conv_own {w : World} {base g cap : Nat} {zs : List UInt8} (h : OwnB w base g cap zs) : (convert 22 9 (.slice (some ⟨g, 0, none⟩) zs.length cap)).run Tryz.prog w = .ok (.string ⟨zs.toArray⟩) w := by
  refine run_convert_bytes_back (P := Tryz.prog) w 22 9 5 ⟨g, 0, none⟩ cap zs Tryz.underlying22 Tryz.underlying5 Tryz.underlying9 ?_
  intro i hi
  have := World.ownsRow.cellAt h i (by omega)
  rw [Addr.add_mid, Nat.zero_add, this, List.getElem?_map, List.getElem?_eq_getElem hi]
  rfl

set_option maxHeartbeats 2000000 in
theorem letters_core (base cb : Nat) (bv : Value) (n : Nat) (a b : Int) (w : World) (h : DrawAt base cb bv n w) (ha : 0 ≤ a) (hab : a ≤ b) (hb : b ≤ 100) :
    Calls Tryz.prog 131 #[.pointer (some ⟨cb, 0, none⟩), .int .i64 a, .int .i64 b] w fun e w' => ∃ s : ByteArray, e = .returned (.string s) ∧ s.size ≤ 100 ∧ Drew base cb bv n w w' := by
  have HD : Hid (DrawAt base cb bv n w) := h
  have hbase := h.base
  have hcb := h.lt
  clear h
  go_enter Tryz.func131, Tryz.ntmps131
  go_wp2_with fail
  refine (below_core base cb bv n (b - a + 1) _ HD.out (by omega) (by omega)).mono ?_
  rintro e w1 ⟨x, rfl, hx0, hx1, hD1, hC1⟩
  have s1 := hC1.size
  have H1 : Hid (DrawAt base cb bv n w1 ∧ Chg (fun k => k = cb) w w1) := ⟨hD1, hC1⟩
  clear hD1 hC1
  obtain ⟨W2, hW2⟩ : ∃ W2 : World, W2 = w1.alloc (Obj.cells #[] 5) := ⟨_, rfl⟩
  have hb2 : Below w1.heap.size w1 W2 := by rw [hW2]; exact (Below.refl _ _).alloc (Nat.le_refl _) _
  have HB2 : Hid (OwnB W2 w.heap.size w1.heap.size 0 [] ∧ DrawAt base cb bv n W2 ∧ Chg (fun k => k = cb) w W2) := by
    refine ⟨?_, H1.out.1.below hb2, H1.out.2.trans (Chg.of_below hb2)⟩
    rw [hW2]; exact ownB_new w1 w.heap.size s1
  obtain ⟨m, hm⟩ : ∃ m : Nat, a + x = (m : Int) := ⟨(a + x).toNat, by omega⟩
  have hm2 : m ≤ 100 := by omega
  go_wp2_with fail
  rw [← hW2]
  clear hW2 hm hb2
  go_loopw [8, 9] (fun o i wr => ∃ (k g cp : Nat) (zs : List UInt8), k ≤ m ∧ i = .int .i64 k ∧ o = .slice (some ⟨g, 0, none⟩) k cp ∧ zs.length = k ∧ OwnB wr w.heap.size g cp zs ∧ DrawAt base cb bv n wr ∧ Chg (fun k => k = cb) w wr) (fun _ i _ => m - (intOf i).toNat)
  case atStart => exact ⟨0, _, 0, [], Nat.zero_le _, rfl, rfl, rfl, HB2.out.1, HB2.out.2.1, HB2.out.2.2⟩
  case round =>
    obtain ⟨k, g, cp, zs, hk, rfl, rfl, hzl, hO, hD, hC⟩ := hrel
    have HI : Hid (zs.length = k ∧ OwnB wr w.heap.size g cp zs ∧ DrawAt base cb bv n wr ∧ Chg (fun k => k = cb) w wr) := ⟨hzl, hO, hD, hC⟩
    have hgl := World.ownsRow.lt hO g rfl
    clear hzl hO hD hC
    by_cases hlt : k < m
    · have zk : (k : Int) < (m : Int) := by omega
      go_wp2_with fail
      refine (below_core base cb bv n 3 _ HI.out.2.2.1 (by omega) (by omega)).mono ?_
      rintro e w3 ⟨y, rfl, hy0, hy1, hD3, hC3⟩
      have s3 := hC3.size
      have HO3 : Hid (OwnB w3 w.heap.size g cp zs ∧ DrawAt base cb bv n w3 ∧ Chg (fun k => k = cb) w w3) := ⟨own_chg HI.out.2.1 hC3 (fun k q => by simp [Value.ownBlock] at q; subst q; omega), hD3, HI.out.2.2.2.trans hC3⟩
      clear hD3 hC3
      obtain ⟨z, hz⟩ : ∃ z : UInt8, (97 : Int) + y = (z.toNat : Int) := ⟨UInt8.ofNat (97 + y.toNat), by rw [UInt8.toNat_ofNat']; omega⟩
      have HZ : Hid ((97 : Int) + y = (z.toNat : Int)) := hz
      have HKl : Hid (k = zs.length) := HI.out.1.symm
      have s4 := HO3.out.2.2.size
      clear hz
      go_wp2_with (at_builtin; refine wpList_append_byte _ rfl _ _ rfl w.heap.size g cp _ _ zs z rfl _ rfl HKl.out ?hO ?hc ?hl ?hb ?_)
      case hO => exact own_chg (S := fun _ => False) HO3.out.1 (Chg.of_below ((Below.refl _ _).alloc (Nat.le_refl _) _)) (fun k _ q => q)
      case hc => rw [← HZ.out]; simp
      case hl => rw [← HKl.out]; omega
      case hb => simp; omega
      intro g' cp' w' hO' hgr
      have HN : Hid ((zs ++ [z]).length = k + 1 ∧ OwnB w' w.heap.size g' cp' (zs ++ [z]) ∧ DrawAt base cb bv n w' ∧ Chg (fun k => k = cb) w w') := by
        refine ⟨by simp [HI.out.1], hO', ?_, ?_⟩
        · have hd := HO3.out.2.1.below ((Below.refl w3.heap.size w3).alloc (Nat.le_refl _) (Obj.cells #[.int .u8 (97 + y)] 5))
          exact hd.chg (Chg.of_grown (S := fun k => k = g) hgr (fun k hk => by cases hk; rfl)) (by omega) (fun k q => by omega)
        · exact Chg.grown_new (HO3.out.2.2.alloc_new _) hgr (fun k hk => by cases hk; omega)
      clear hO' hgr
      go_wp2_with fail
      go_roundw
      case rel => exact ⟨k + 1, g', cp', zs ++ [z], by omega, by go_num, rfl, HN.out.1, HN.out.2.1, HN.out.2.2.1, HN.out.2.2.2⟩
      case measure => go_light; simp [intOf]; omega
    · have zk : ¬ (k : Int) < (m : Int) := by omega
      have hcv := conv_own HI.out.2.1
      rw [HI.out.1] at hcv
      have HS : Hid ((⟨zs.toArray⟩ : ByteArray).size ≤ 100) := by
        show (⟨zs.toArray⟩ : ByteArray).size ≤ 100
        have := HI.out.1
        simp [ByteArray.size]; omega
      go_wp2_with fail
      go_ret
      exact ⟨_, rfl, HS.out, HI.out.2.2.1, HI.out.2.2.2⟩
end Go.Proofs.YtgnpcenpcmdlfaaGreatDoor

/-
  The draws: rows, families, qualifiers, timestamps.
-/
namespace Go.Proofs.YtgnpcenpcmdlfaaGreatDoor
open Go.ChangeShapes Go.WideShapes Go.ChangeAt Go.RowKit Go.Deep
set_option linter.unusedVariables false
set_option linter.unusedSimpArgs false
set_option maxRecDepth 100000

theorem conv_str (c : UInt8) (w : World) : ∃ cx w', (convert 9 22 (.string ⟨#[c]⟩)).run Tryz.prog w = .ok (.slice (some ⟨w.heap.size, 0, none⟩) 1 cx) w' ∧ Below w.heap.size w w' ∧ w'.cell? ⟨w.heap.size, 0, none⟩ = some (.int .u8 (c.toNat : Int)) := by
  refine ⟨_, _, run_bytes_of_string (P := Tryz.prog) w 9 22 5 ⟨#[c]⟩ Tryz.underlying9 Tryz.underlying22 Tryz.underlying5, ((Below.refl _ _).drew).alloc (Nat.le_refl _) _, ?_⟩
  have hb : ∀ O : Obj, (w.drew.alloc O).heap[w.heap.size]? = some O := fun O => by
    show (w.heap.push O)[w.heap.size]? = _
    simp
  unfold World.cell?
  rw [hb]
  simp [bytesRow]
  rw [Array.getElem?_append_left (by simp)]
  rfl

set_option maxHeartbeats 2000000 in
theorem many_core (c : UInt8) (m : Nat) (w : World) (hm : m ≤ 1000) :
    Calls Tryz.prog 42 #[.string ⟨#[c]⟩, .int .i64 m] w fun e w' => ∃ s : ByteArray, e = .returned (.string s) ∧ s.size ≤ 1000 ∧ Below w.heap.size w w' := by
  obtain ⟨W2, hW2⟩ : ∃ W2 : World, W2 = w.alloc (Obj.cells #[] 5) := ⟨_, rfl⟩
  have hb2 : Below w.heap.size w W2 := by rw [hW2]; exact (Below.refl _ _).alloc (Nat.le_refl _) _
  have HB2 : Hid (OwnB W2 w.heap.size w.heap.size 0 []) := by show OwnB W2 _ _ _ _; rw [hW2]; exact ownB_new w w.heap.size (Nat.le_refl _)
  go_enter Tryz.func42, Tryz.ntmps42
  go_wp2_with fail
  rw [← hW2]
  clear hW2
  go_loopw [5, 6] (fun o i wr => ∃ (k g cp : Nat) (zs : List UInt8), k ≤ m ∧ i = .int .i64 k ∧ o = .slice (some ⟨g, 0, none⟩) k cp ∧ zs.length = k ∧ OwnB wr w.heap.size g cp zs ∧ Below w.heap.size w wr) (fun _ i _ => m - (intOf i).toNat)
  case atStart => exact ⟨0, _, 0, [], Nat.zero_le _, rfl, rfl, rfl, HB2.out, hb2⟩
  case round =>
    obtain ⟨k, g, cp, zs, hk, rfl, rfl, hzl, hO, hb⟩ := hrel
    have HI : Hid (zs.length = k ∧ OwnB wr w.heap.size g cp zs) := ⟨hzl, hO⟩
    have hgl := World.ownsRow.lt hO g rfl
    have hs := hb.size
    clear hzl hO
    by_cases hlt : k < m
    · have zk : (k : Int) < (m : Int) := by omega
      have HKl : Hid (k = zs.length) := HI.out.1.symm
      obtain ⟨cx, W3, hrun, hb3, hc3⟩ := conv_str c wr
      have hs3 := hb3.size
      go_wp2_with (at_builtin; refine wpList_append_byte _ rfl _ _ rfl w.heap.size g cp _ wr.heap.size zs c rfl cx rfl HKl.out ?hO ?hc ?hl ?hb ?_)
      case hO => exact own_chg (S := fun _ => False) HI.out.2 (Chg.of_below hb3) (fun k _ q => q)
      case hc => exact hc3
      case hl => rw [← HKl.out]; omega
      case hb => omega
      intro g' cp' w' hO' hgr
      have HN : Hid ((zs ++ [c]).length = k + 1 ∧ OwnB w' w.heap.size g' cp' (zs ++ [c])) := ⟨by simp [HI.out.1], hO'⟩
      have hb' : Below w.heap.size w w' := (hb.trans (hb3.mono hs)).grown hgr (by omega) (fun j hj => by cases hj; omega)
      clear hO' hgr hrun
      go_wp2_with fail
      go_roundw
      case rel => exact ⟨k + 1, g', cp', zs ++ [c], by omega, by go_num, rfl, HN.out.1, HN.out.2, hb'⟩
      case measure => go_light; simp [intOf]; omega
    · have zk : ¬ (k : Int) < (m : Int) := by omega
      have hcv := conv_own HI.out.2
      rw [HI.out.1] at hcv
      have HS : Hid ((⟨zs.toArray⟩ : ByteArray).size ≤ 1000) := by
        show (⟨zs.toArray⟩ : ByteArray).size ≤ 1000
        have := HI.out.1
        simp [ByteArray.size]; omega
      go_wp2_with fail
      go_ret
      exact ⟨_, rfl, HS.out, hb⟩

set_option maxHeartbeats 1000000 in
theorem pick_core (base cb : Nat) (bv : Value) (n blk nw : Nat) (w : World) (h : DrawAt base cb bv n w) (h1 : 1 ≤ nw) (h2 : nw ≤ 100) (hne : ¬ blk = cb) (hlt : blk < w.heap.size) (hw : ∀ k, k < nw → ∃ s : ByteArray, w.cell? ⟨blk, k, none⟩ = some (.string s) ∧ s.size ≤ 1000) :
    Calls Tryz.prog 34 #[.pointer (some ⟨cb, 0, none⟩), .slice (some ⟨blk, 0, none⟩) nw nw] w fun e w' => ∃ s : ByteArray, e = .returned (.string s) ∧ s.size ≤ 1000 ∧ Drew base cb bv n w w' := by
  have HD : Hid (DrawAt base cb bv n w ∧ ∀ k, k < nw → ∃ s : ByteArray, w.cell? ⟨blk, k, none⟩ = some (.string s) ∧ s.size ≤ 1000) := ⟨h, hw⟩
  clear h hw
  go_enter Tryz.func34, Tryz.ntmps34
  go_wp2_with fail
  refine (below_core base cb bv n (nw : Int) _ HD.out.1 (by omega) (by omega)).mono ?_
  rintro e w1 ⟨x, rfl, hx0, hx1, hD1, hC1⟩
  obtain ⟨k, rfl⟩ := Int.eq_ofNat_of_zero_le hx0
  obtain ⟨s, hs, hsz⟩ := HD.out.2 k (by omega)
  have c1 : w1.cell? ⟨blk, k, none⟩ = some (.string s) := by rw [hC1.cell (p := ⟨blk, k, none⟩) hlt hne]; exact hs
  have H1 : Hid (DrawAt base cb bv n w1 ∧ Chg (fun k => k = cb) w w1) := ⟨hD1, hC1⟩
  clear hD1 hC1 hs
  go_wp2_with fail
  go_ret
  exact ⟨s, rfl, hsz, H1.out.1, H1.out.2⟩

end Go.Proofs.YtgnpcenpcmdlfaaGreatDoor

/-
  The draws: their beginning.
-/
namespace Go.Proofs.YtgnpcenpcmdlfaaGreatDoor
open Go.ChangeShapes Go.WideShapes Go.ChangeAt Go.RowKit Go.Deep
set_option linter.unusedVariables false
set_option linter.unusedSimpArgs false
set_option maxRecDepth 100000

set_option maxHeartbeats 1000000 in
theorem new_core (bv : Value) (n : Nat) (w : World) (h : CodeAt w w.heap.size bv n) :
    Calls Tryz.prog 31 #[bv] w fun e w' => e = .returned (.pointer (some ⟨w.heap.size, 0, none⟩)) ∧ DrawAt w.heap.size w.heap.size bv n w' ∧ Below w.heap.size w w' := by
  have HC : Hid (CodeAt w w.heap.size bv n) := h
  have hn := h.1
  have fin : ∀ x : Int, DrawAt w.heap.size w.heap.size bv n (w.alloc (Obj.cells #[bv, .int .i64 0, .int .i64 x] 109)) ∧ Below w.heap.size w (w.alloc (Obj.cells #[bv, .int .i64 0, .int .i64 x] 109)) := fun x => by
    have hb : Below w.heap.size w (w.alloc (Obj.cells #[bv, .int .i64 0, .int .i64 x] 109)) := (Below.refl _ _).alloc (Nat.le_refl _) _
    refine ⟨⟨⟨0, x, Nat.zero_le _, ?_⟩, HC.out.chg (T := fun _ => False) (Chg.of_below hb) (Nat.le_refl _) (fun k q => q.elim), hb.size⟩, hb⟩
    exact World.ownsRow_lit (base := w.heap.size) (e := 109) (size := 3) w #[bv, .int .i64 0, .int .i64 x] 1 (Nat.le_refl _) (by decide) rfl
  have HF : Hid (∀ x : Int, DrawAt w.heap.size w.heap.size bv n (w.alloc (Obj.cells #[bv, .int .i64 0, .int .i64 x] 109)) ∧ Below w.heap.size w (w.alloc (Obj.cells #[bv, .int .i64 0, .int .i64 x] 109))) := fin
  clear fin
  rcases h.2 with ⟨a, cap, rfl, rfl⟩ | ⟨b, off, cap, rfl, hlt, hx⟩
  · go_enter Tryz.func31, Tryz.ntmps31
    go_wp2_with fail
    go_loopw [3, 4] (fun h i wr => (∃ x : Int, h = .int .i64 x) ∧ i = .int .i64 0 ∧ wr = w) (fun _ _ _ => 0)
    case atStart => exact ⟨⟨_, rfl⟩, rfl, rfl⟩
    case round =>
      obtain ⟨⟨x, rfl⟩, rfl, rfl⟩ := hrel
      go_wp2_with fail
      go_ret
      exact ⟨rfl, (HF.out x).1, (HF.out x).2⟩
  · have HX : Hid (∀ k, k < n → ∃ x : Int, w.cell? ⟨b, off + k, none⟩ = some (.int .u8 x) ∧ 0 ≤ x ∧ x < 256) := hx
    clear hx h
    go_enter Tryz.func31, Tryz.ntmps31
    go_wp2_with fail
    go_loopw [3, 4] (fun h i wr => ∃ (k : Nat) (x : Int), k ≤ n ∧ h = .int .i64 x ∧ i = .int .i64 k ∧ wr = w) (fun _ i _ => n - (intOf i).toNat)
    case atStart => exact ⟨0, _, Nat.zero_le _, rfl, rfl, rfl⟩
    case round =>
      obtain ⟨k, x, hk, rfl, rfl, rfl⟩ := hrel
      by_cases hkn : k < n
      · obtain ⟨y, hc, hy0, hy1⟩ := HX.out k hkn
        have zk : (k : Int) < (n : Int) := by omega
        go_wp2_with fail
        go_roundw
        case rel => exact ⟨k + 1, _, by omega, rfl, by go_num, trivial⟩
        case measure => go_light; simp [intOf]; omega
      · have zk : ¬ (k : Int) < (n : Int) := by omega
        go_wp2_with fail
        go_ret
        exact ⟨rfl, (HF.out x).1, (HF.out x).2⟩
end Go.Proofs.YtgnpcenpcmdlfaaGreatDoor

/-
  The draws: pieces of patterns and texts of patterns.
-/
namespace Go.Proofs.YtgnpcenpcmdlfaaGreatDoor
open Go.ChangeShapes Go.WideShapes Go.ChangeAt Go.RowKit Go.Deep
set_option linter.unusedVariables false
set_option linter.unusedSimpArgs false
set_option maxRecDepth 100000

/-- What a drawing of a text hands back. -/
def TxtP (base cb : Nat) (bv : Value) (n m : Nat) (w : World) (e : Ending) (w' : World) : Prop := ∃ s : ByteArray, e = .returned (.string s) ∧ s.size ≤ m ∧ Drew base cb bv n w w'
def TextC (base cb : Nat) (bv : Value) (n d m : Nat) : Prop := ∀ w, DrawAt base cb bv n w → Calls Tryz.prog 140 #[.pointer (some ⟨cb, 0, none⟩), .int .i64 d] w (TxtP base cb bv n m w)
def PieceC (base cb : Nat) (bv : Value) (n d m : Nat) : Prop := ∀ w, DrawAt base cb bv n w → Calls Tryz.prog 151 #[.pointer (some ⟨cb, 0, none⟩), .int .i64 d] w (TxtP base cb bv n m w)
theorem size_app (a b : ByteArray) : (a ++ b).size = a.size + b.size := ByteArray.size_append

set_option maxHeartbeats 2000000 in
theorem piece_of (base cb : Nat) (bv : Value) (n d m : Nat) (hm : m ≤ 100000) (hd : d ≤ 5) (HT0 : 0 < d → TextC base cb bv n (d - 1) m) : PieceC base cb bv n d (m + 1002) := by
  intro w h
  have HT : Hid (0 < d → TextC base cb bv n (d - 1) m) := HT0
  have HD : Hid (DrawAt base cb bv n w) := h
  have hcl0 := h.lt.2
  clear h HT0
  go_enter Tryz.func151, Tryz.ntmps151
  go_wp2_with fail
  refine (below_core base cb bv n 14 _ HD.out (by omega) (by omega)).mono ?_
  rintro e w1 ⟨x, rfl, hx0, hx1, hD1, hC1⟩
  have H1 : Hid (DrawAt base cb bv n w1 ∧ Chg (fun k => k = cb) w w1) := ⟨hD1, hC1⟩
  have hcl := hD1.lt.2
  clear hD1 hC1
  by_cases hk : x < 6 ∨ d = 0
  · have hq : Hid (x < 6 ∨ d = 0) := hk
    by_cases h6 : x < 6
    · go_wp2_with fail
      refine (letters_core base cb bv n 1 1 _ H1.out.1 (by omega) (by omega) (by omega)).mono ?_
      rintro e w3 ⟨s, rfl, hs, hD3, hC3⟩
      have H3 : Hid (DrawAt base cb bv n w3 ∧ Chg (fun k => k = cb) w w3) := ⟨hD3, H1.out.2.trans hC3⟩
      clear hD3 hC3
      go_wp2_with fail
      go_ret
      exact ⟨s, rfl, by omega, H3.out.1, H3.out.2⟩
    · obtain rfl : d = 0 := by omega
      go_wp2_with fail
      refine (letters_core base cb bv n 1 1 _ H1.out.1 (by omega) (by omega) (by omega)).mono ?_
      rintro e w3 ⟨s, rfl, hs, hD3, hC3⟩
      have H3 : Hid (DrawAt base cb bv n w3 ∧ Chg (fun k => k = cb) w w3) := ⟨hD3, H1.out.2.trans hC3⟩
      clear hD3 hC3
      go_wp2_with fail
      go_ret
      exact ⟨s, rfl, by omega, H3.out.1, H3.out.2⟩
  have h6 : ¬ x < 6 := fun q => hk (.inl q)
  have hd0 : 0 < d := Nat.pos_of_ne_zero fun q => hk (.inr q)
  have hdz : ((d : Int) == 0) = false := by rw [beq_eq_false_iff_ne]; omega
  clear hk
  by_cases h7 : x = 6
  · subst h7
    go_wp2_with fail
    go_ret
    exact ⟨_, rfl, by show 1 ≤ _; omega, H1.out.1, H1.out.2⟩
  have b6 : (x == 6) = false := by rw [beq_eq_false_iff_ne]; exact h7
  by_cases h8 : x = 7
  · subst h8
    go_wp2_with fail
    refine (pick_core base cb bv n _ 6 _ ((H1.out.1).below ((Below.refl _ _).alloc (Nat.le_refl _) _)) (by omega) (by omega) (by omega) (by simp) ?_).mono ?_
    · intro k hk
      match k, hk with
      | 0, _ => exact ⟨_, by simp; rfl, by decide⟩
      | 1, _ => exact ⟨_, by simp; rfl, by decide⟩
      | 2, _ => exact ⟨_, by simp; rfl, by decide⟩
      | 3, _ => exact ⟨_, by simp; rfl, by decide⟩
      | 4, _ => exact ⟨_, by simp; rfl, by decide⟩
      | 5, _ => exact ⟨_, by simp; rfl, by decide⟩
    · rintro e w3 ⟨s, rfl, hs, hD3, hC3⟩
      have H3 : Hid (DrawAt base cb bv n w3 ∧ Chg (fun k => k = cb) w w3) := ⟨hD3, (H1.out.2.alloc_new _).trans hC3⟩
      clear hD3 hC3
      go_wp2_with fail
      go_ret
      exact ⟨s, rfl, by omega, H3.out.1, H3.out.2⟩
  have b7 : (x == 7) = false := by rw [beq_eq_false_iff_ne]; exact h8
  by_cases h9 : x = 8
  · subst h9
    go_wp2_with fail
    refine (pick_core base cb bv n _ 4 _ ((H1.out.1).below ((Below.refl _ _).alloc (Nat.le_refl _) _)) (by omega) (by omega) (by omega) (by simp) ?_).mono ?_
    · intro k hk
      match k, hk with
      | 0, _ => exact ⟨_, by simp; rfl, by decide⟩
      | 1, _ => exact ⟨_, by simp; rfl, by decide⟩
      | 2, _ => exact ⟨_, by simp; rfl, by decide⟩
      | 3, _ => exact ⟨_, by simp; rfl, by decide⟩
    · rintro e w3 ⟨s, rfl, hs, hD3, hC3⟩
      have H3 : Hid (DrawAt base cb bv n w3 ∧ Chg (fun k => k = cb) w w3) := ⟨hD3, (H1.out.2.alloc_new _).trans hC3⟩
      clear hD3 hC3
      go_wp2_with fail
      go_ret
      exact ⟨s, rfl, by omega, H3.out.1, H3.out.2⟩
  have b8 : (x == 8) = false := by rw [beq_eq_false_iff_ne]; exact h9
  have ed : Hid (((d : Int) - 1) = ((d - 1 : Nat) : Int)) := by show (d : Int) - 1 = _; omega
  go_wp2_with fail
  rw [ed.out]
  refine (HT.out hd0 w1 H1.out.1).mono ?_
  rintro e w3 ⟨s, rfl, hs, hD3, hC3⟩
  have H3 : Hid (DrawAt base cb bv n w3 ∧ Chg (fun k => k = cb) w w3) := ⟨hD3, H1.out.2.trans hC3⟩
  clear hD3 hC3
  go_wp2_with fail
  go_ret
  exact ⟨_, rfl, by simp only [size_app]; show 1 + s.size + 1 ≤ _; omega, H3.out.1, H3.out.2⟩
end Go.Proofs.YtgnpcenpcmdlfaaGreatDoor

/-
  The draws: a text of a pattern.
-/
namespace Go.Proofs.YtgnpcenpcmdlfaaGreatDoor
open Go.ChangeShapes Go.WideShapes Go.ChangeAt Go.RowKit Go.Deep
set_option linter.unusedVariables false
set_option linter.unusedSimpArgs false
set_option maxRecDepth 100000

set_option maxHeartbeats 4000000 in
theorem ptext_of (base cb : Nat) (bv : Value) (n d m : Nat) (hm : m ≤ 100000) (hd : d ≤ 5) (HP0 : PieceC base cb bv n d m) : TextC base cb bv n d (3 * m + 10) := by
  intro w h
  have HP : Hid (PieceC base cb bv n d m) := HP0
  have HD : Hid (DrawAt base cb bv n w) := h
  clear h HP0
  go_enter Tryz.func140, Tryz.ntmps140
  go_wp2_with fail
  refine (below_core base cb bv n 4 _ HD.out (by omega) (by omega)).mono ?_
  rintro e w1 ⟨y, rfl, hy0, hy1, hD1, hC1⟩
  have H1 : Hid (DrawAt base cb bv n w1 ∧ Chg (fun k => k = cb) w w1) := ⟨hD1, hC1⟩
  clear hD1 hC1
  obtain ⟨q, rfl⟩ := Int.eq_ofNat_of_zero_le hy0
  go_wp2_with fail
  go_loopw [5, 7] (fun o i wr => ∃ (k : Nat) (s : ByteArray), k ≤ q ∧ i = .int .i64 k ∧ o = .string s ∧ Hid (s.size ≤ k * (m + 2)) ∧ Hid (DrawAt base cb bv n wr ∧ Chg (fun k => k = cb) w wr)) (fun _ i _ => q - (intOf i).toNat)
  case atStart => exact ⟨0, _, Nat.zero_le _, rfl, rfl, Nat.le_of_eq (by simp [ByteArray.size]), H1.out⟩
  case round =>
    obtain ⟨k, s, hk, rfl, rfl, HS, HI⟩ := hrel
    have hsz : s.size ≤ 400000 := by
      have a1 := HS.out
      have a2 : k * (m + 2) ≤ 3 * (m + 2) := Nat.mul_le_mul_right _ (by omega)
      omega
    by_cases hlt : k < q
    · have zk : (k : Int) < (q : Int) := by omega
      go_wp2_with fail
      refine (HP.out _ HI.out.1).mono ?_
      rintro e w2 ⟨t, rfl, ht, hD2, hC2⟩
      have H2 : Hid (DrawAt base cb bv n w2 ∧ Chg (fun k => k = cb) w w2) := ⟨hD2, HI.out.2.trans hC2⟩
      have HTZ : Hid (t.size ≤ m) := ht
      have htz : t.size ≤ 100000 := by omega
      have hst : (s ++ t).size ≤ 500000 := by rw [size_app]; omega
      clear hD2 hC2 ht
      go_wp2_with fail
      refine (below_core base cb bv n 9 _ H2.out.1 (by omega) (by omega)).mono ?_
      rintro e w3 ⟨x, rfl, hx0, hx1, hD3, hC3⟩
      have H3 : Hid (DrawAt base cb bv n w3 ∧ Chg (fun k => k = cb) w w3) := ⟨hD3, H2.out.2.trans hC3⟩
      clear hD3 hC3
      have e1 : Hid ((s ++ t).size ≤ (k + 1) * (m + 2)) := by
        show _ ≤ _
        have a1 := HS.out
        have a2 := HTZ.out
        rw [size_app, Nat.add_mul]; omega
      have e2 : Hid (∀ c : UInt8, (s ++ t ++ (⟨#[c]⟩ : ByteArray)).size ≤ (k + 1) * (m + 2)) := by
        intro c
        have a1 := HS.out
        have a2 := HTZ.out
        rw [size_app, size_app, Nat.add_mul]
        show s.size + t.size + 1 ≤ _
        omega
      by_cases h0 : x = 0
      · subst h0
        go_wp2_with fail
        go_roundw
        case rel => exact ⟨k + 1, _, by omega, by go_num, rfl, e2.out 42, H3.out⟩
        case measure => go_light; simp [intOf]; omega
      have b0 : (x == 0) = false := by rw [beq_eq_false_iff_ne]; exact h0
      by_cases h1 : x = 1
      · subst h1
        go_wp2_with fail
        go_roundw
        case rel => exact ⟨k + 1, _, by omega, by go_num, rfl, e2.out 43, H3.out⟩
        case measure => go_light; simp [intOf]; omega
      have b1 : (x == 1) = false := by rw [beq_eq_false_iff_ne]; exact h1
      by_cases h2 : x = 2
      · subst h2
        go_wp2_with fail
        go_roundw
        case rel => exact ⟨k + 1, _, by omega, by go_num, rfl, e2.out 63, H3.out⟩
        case measure => go_light; simp [intOf]; omega
      have b2 : (x == 2) = false := by rw [beq_eq_false_iff_ne]; exact h2
      by_cases h3 : x = 3
      · subst h3
        by_cases hn : k + 1 < q
        · have hn2 : ((k : Int) + 1 < (q : Int)) := by omega
          go_wp2_with fail
          go_roundw
          case rel => exact ⟨k + 1, _, by omega, by go_num, rfl, e2.out 124, H3.out⟩
          case measure => go_light; simp [intOf]; omega
        · have hn2 : ¬ ((k : Int) + 1 < (q : Int)) := by omega
          go_wp2_with fail
          go_roundw
          case rel => exact ⟨k + 1, _, by omega, by go_num, rfl, e1.out, H3.out⟩
          case measure => go_light; simp [intOf]; omega
      have b3 : (x == 3) = false := by rw [beq_eq_false_iff_ne]; exact h3
      go_wp2_with fail
      go_roundw
      case rel => exact ⟨k + 1, _, by omega, by go_num, rfl, e1.out, H3.out⟩
      case measure => go_light; simp [intOf]; omega
    · have zk : ¬ (k : Int) < (q : Int) := by omega
      have HS2 : Hid (s.size ≤ 3 * m + 6) := by
        show _ ≤ _
        have a1 := HS.out
        have a2 : k * (m + 2) ≤ 3 * (m + 2) := Nat.mul_le_mul_right _ (by omega)
        omega
      go_wp2_with fail
      refine (once_core base cb bv n 14 _ HI.out.1 (by omega) (by omega)).mono ?_
      rintro e w2 ⟨v, rfl, hv, hD2, hC2⟩
      have H2 : Hid (DrawAt base cb bv n w2 ∧ Chg (fun k => k = cb) w w2) := ⟨hD2, HI.out.2.trans hC2⟩
      clear hD2 hC2
      rcases hv with rfl | rfl
      · go_wp2_with fail
        go_ret
        exact ⟨_, rfl, by rw [size_app]; have := HS2.out; show s.size + 1 ≤ _; omega, H2.out⟩
      · go_wp2_with fail
        go_ret
        exact ⟨_, rfl, by have := HS2.out; omega, H2.out⟩
theorem ptext_zero (base cb : Nat) (bv : Value) (n : Nat) : TextC base cb bv n 0 3016 := ptext_of base cb bv n 0 1002 (by omega) (by omega) (piece_of base cb bv n 0 0 (by omega) (by omega) (fun q => absurd q (by omega)))
theorem ptext_one (base cb : Nat) (bv : Value) (n : Nat) : TextC base cb bv n 1 12064 := ptext_of base cb bv n 1 4018 (by omega) (by omega) (piece_of base cb bv n 1 3016 (by omega) (by omega) (fun _ => ptext_zero base cb bv n))
theorem ptext_two (base cb : Nat) (bv : Value) (n : Nat) : TextC base cb bv n 2 39208 := ptext_of base cb bv n 2 13066 (by omega) (by omega) (piece_of base cb bv n 2 12064 (by omega) (by omega) (fun _ => ptext_one base cb bv n))
end Go.Proofs.YtgnpcenpcmdlfaaGreatDoor

/-
  Variables of a struct's type that lie in memory, as rows of one element.
-/
namespace Go.Proofs.YtgnpcenpcmdlfaaGreatDoor
open Go.ChangeShapes Go.WideShapes Go.ChangeAt Go.RowKit Go.Deep
set_option linter.unusedVariables false

def BoxAt (w : World) (base t sz g : Nat) (vs : List Value) : Prop := w.ownsRow base t sz (.slice (some ⟨g, 0, none⟩) 1 1) 1 vs
theorem BoxAt.len {w : World} {base t sz g : Nat} {vs : List Value} (h : BoxAt w base t sz g vs) : vs.length = sz := by have := h.1; omega
theorem BoxAt.lt {w : World} {base t sz g : Nat} {vs : List Value} (h : BoxAt w base t sz g vs) : base ≤ g ∧ g < w.heap.size := World.ownsRow.lt h g rfl
theorem BoxAt.chg {S : Nat → Prop} {w w' : World} {base t sz g : Nat} {vs : List Value} (h : BoxAt w base t sz g vs) (hc : Chg S w w') (hn : ¬ S g) : BoxAt w' base t sz g vs := own_chg h hc (fun k q => by simp [Value.ownBlock] at q; subst q; exact hn)
theorem BoxAt.below {w w' : World} {base t sz g : Nat} {vs : List Value} (h : BoxAt w base t sz g vs) (hb : Below w.heap.size w w') : BoxAt w' base t sz g vs := h.chg (Chg.of_below hb) (S := fun _ => False) (fun q => q)
theorem BoxAt.cell {w : World} {base t sz g : Nat} {vs : List Value} (h : BoxAt w base t sz g vs) {j : Nat} {v : Value} (hv : vs[j]? = some v) : w.cell? ⟨g, j, none⟩ = some v := by
  have hj := (List.getElem?_eq_some_iff.1 hv).1
  rw [World.ownsRow.cellAt h j (by have := h.len; omega), hv]
theorem BoxAt.frozen {w : World} {base t sz g : Nat} {vs : List Value} (h : BoxAt w base t sz g vs) (j : Nat) : w.frozen? ⟨g, j, none⟩ = false := World.ownsRow.frozenAt h j
theorem BoxAt.set {w : World} {base t sz g : Nat} {vs : List Value} (h : BoxAt w base t sz g vs) (j : Nat) (u : Value) : BoxAt (w.setCell ⟨g, j, none⟩ u) base t sz g (vs.set j u) := (World.ownsRow.stored h j u).1
theorem BoxAt.beside {w : World} {base t sz g : Nat} {vs : List Value} (h : BoxAt w base t sz g vs) {k : Nat} (hk : ¬ g = k) (j : Nat) (u : Value) : BoxAt (w.setCell ⟨k, j, none⟩ u) base t sz g vs := h.chg (Chg.of_set w k j u (S := fun q => q = k) rfl) hk
theorem boxAt_new (w : World) {base t sz : Nat} (cs : Array Value) (hb : base ≤ w.heap.size) (hs : cs.size = sz) : BoxAt (w.alloc (.cells cs t)) base t sz w.heap.size cs.toList :=
  World.ownsRow_lit w cs 1 hb (by decide) (by omega)
/-- Three cells stored. -/
def set3 (w : World) (g : Nat) (a b c : Value) : World := ((w.setCell ⟨g, 0, none⟩ a).setCell ⟨g, 1, none⟩ b).setCell ⟨g, 2, none⟩ c
theorem BoxAt.set3 {w : World} {base t g : Nat} {vs : List Value} (h : BoxAt w base t 3 g vs) (a b c : Value) : BoxAt (set3 w g a b c) base t 3 g [a, b, c] := by
  have h1 := ((h.set 0 a).set 1 b).set 2 c
  have hl := h.len
  match vs, hl with
  | [x, y, z], _ => exact h1
theorem BoxAt.beside3 {w : World} {base t sz g : Nat} {vs : List Value} (h : BoxAt w base t sz g vs) {k : Nat} (hk : ¬ g = k) (a b c : Value) : BoxAt (Go.Proofs.YtgnpcenpcmdlfaaGreatDoor.set3 w k a b c) base t sz g vs :=
  ((h.beside hk 0 a).beside hk 1 b).beside hk 2 c
theorem below_set {B : Nat} {a w : World} (h : Below B a w) {k : Nat} (hk : B ≤ k) (j : Nat) (u : Value) : Below B a (w.setCell ⟨k, j, none⟩ u) := h.setCell (p := ⟨k, j, none⟩) hk u
theorem below_set3 {B : Nat} {a w : World} (h : Below B a w) {k : Nat} (hk : B ≤ k) (x y z : Value) : Below B a (set3 w k x y z) := below_set (below_set (below_set h hk 0 x) hk 1 y) hk 2 z
theorem size_set (w : World) (k j : Nat) (u : Value) : (w.setCell ⟨k, j, none⟩ u).heap.size = w.heap.size := by
  simp [World.setCell]
end Go.Proofs.YtgnpcenpcmdlfaaGreatDoor

/-
  A region that draws its order and in which an operation, a call, ends in a panic: one walk in the order of the text. That operation and those behind it are taken out by
  stand-ins that leave a mark; the values of its operands, as they are when all has come up, are those that it finds.
-/
namespace Go.Proofs.YtgnpcenpcmdlfaaGreatDoor
open Go.ChangeShapes Go.WideShapes Go.ChangeAt Go.RowKit Go.Deep
set_option linter.unusedVariables false
set_option linter.unusedSimpArgs false

variable {P : Program} {C : World → Prop}
/-- The stand-in. -/
def fk (m : Value) (o : Oper) : Oper := { o with op := .move (.const m) }
/-- Every operation that lays a slot that 'o' reads is waited for by it; its own slot is nobody else's; what stands behind it waits for it. -/
def waitsB (pre : List Oper) (o : Oper) (tl : List Oper) (d : Tmp) (sl : List Tmp) : Bool :=
  sl.all (fun s => s != d && ((List.range pre.length).all (fun i => match pre[i]? with
    | some oi => oi.dst != some s || o.after.any (fun e => Region.binds .any e && e.on == i)
    | none => true) && tl.all (fun oi => oi.dst != some s))) && pre.all (fun oi => oi.dst != some d) && tl.all (fun oi => oi.dst != some d && oi.after.any (fun e => Region.binds .any e && Nat.ble pre.length e.on))
theorem get_part (pre tl : List Oper) (i : Nat) : (pre ++ tl).toArray[i]? = if i < pre.length then pre[i]? else tl[i - pre.length]? := by
  rw [List.getElem?_toArray]
  by_cases h : i < pre.length
  · rw [if_pos h, List.getElem?_append_left h]
  · rw [if_neg h, List.getElem?_append_right (by omega)]
theorem ready_fk (m : Value) (pre tl : List Oper) (listed : Array Bool) : Region.ready .any (pre ++ tl.map (fk m)).toArray listed = Region.ready .any (pre ++ tl).toArray listed := by
  unfold Region.ready
  have hz : (pre ++ tl.map (fk m)).toArray.size = (pre ++ tl).toArray.size := by simp
  rw [hz]
  congr 1
  funext i
  rw [get_part, get_part]
  by_cases h : i < pre.length
  · rw [if_pos h, if_pos h]
  · rw [if_neg h, if_neg h, List.getElem?_map]
    cases tl[i - pre.length]? <;> rfl
theorem yielded_fk (m : Value) (pre tl : List Oper) (tmps : Array Value) : yielded (pre ++ tl.map (fk m)).toArray tmps = yielded (pre ++ tl).toArray tmps := by
  funext j
  unfold yielded
  rw [get_part, get_part]
  by_cases h : j < pre.length
  · rw [if_pos h, if_pos h]
  · rw [if_neg h, if_neg h, List.getElem?_map]
    cases tl[j - pre.length]? <;> rfl
theorem put_getD (a : Act) (dst : Option Tmp) (v : Value) (s : Tmp) (h : dst ≠ some s) : (a.put dst v).tmps.getD s undef = a.tmps.getD s undef := by
  cases dst with
  | none => rfl
  | some t =>
    have hts : t ≠ s := fun q => h (by rw [q])
    show (a.tmps.setIfInBounds t v).getD s undef = _
    rw [Array.getD_eq_getD_getElem?, Array.getD_eq_getD_getElem?, Array.getElem?_setIfInBounds_ne hts]
theorem put_defers (a : Act) (dst : Option Tmp) (v : Value) : (a.put dst v).defers = a.defers := by cases dst <;> rfl
theorem listed_set (listed : Array Bool) (i j : Nat) (d : Bool) (h : listed.getD j d = true) : (listed.setIfInBounds i true).getD j d = true := by
  rw [Array.getD_eq_getD_getElem?] at h ⊢
  by_cases q : i = j
  · subst q
    rw [Array.getElem?_setIfInBounds_self]
    split
    · rfl
    · next hl => rw [Array.getElem?_eq_none (by omega)] at h; exact h
  · rw [Array.getElem?_setIfInBounds_ne q]; exact h
/-- A slot that nobody lays any more holds what it holds at the end. -/
theorem slot_end {ops : Array Oper} {Q : Act → Prop} (s : Tmp) (x : Value) (hQ : ∀ a, Q a → a.tmps.getD s undef = x) : ∀ (fuel : Nat) (listed : Array Bool) (a : Act), wpAnyQ P .any ops C Q fuel listed a →
    (∀ i oi, ops[i]? = some oi → oi.dst = some s → listed.getD i true = true) → a.tmps.getD s undef = x
  | 0, listed, a, h, _ => hQ a h.2
  | fuel + 1, listed, a, h, hl => by
    cases hr : Region.ready .any ops listed with
    | nil => exact hQ a (h.1 hr)
    | cons i rest =>
      have hi : i ∈ Region.ready .any ops listed := by rw [hr]; simp
      have hq := h.2 i hi
      obtain ⟨hun, oi, hoi, _⟩ := mem_ready.1 hi
      have hd : oi.dst ≠ some s := fun e => by
        have := hl i oi hoi e
        rw [hun] at this; cases this
      have hl' : ∀ j oj, ops[j]? = some oj → oj.dst = some s → (listed.setIfInBounds i true).getD j true = true := fun j oj hj e => listed_set _ _ _ _ (hl j oj hj e)
      unfold qOp at hq
      simp only [hoi] at hq
      split at hq
      · obtain ⟨v, _, h2⟩ := hq
        have := slot_end s x hQ fuel _ _ h2 hl'
        rwa [put_getD _ _ _ _ hd] at this
      · have := slot_end s x hQ fuel _ _ hq hl'
        rwa [put_getD _ _ _ _ hd] at this
theorem any_of_fk {m : Value} {Q : Exit → Act → World → Prop} {pre tl : List Oper} {o : Oper} {D : List Deferred} (d : Tmp) (sl : List (Tmp × Value)) (hB2 : waitsB pre o tl d (sl.map (·.1)) = true) (hdst : o.dst = some d) (hg : o.guard = none)
    (hop : ∀ (a' : Act) (w' : World) (K : Act → World → Prop), C w' → a'.defers = D → (∀ p ∈ sl, a'.tmps.getD p.1 undef = p.2) → o.wp P a' w' K Q) :
    ∀ (fuel : Nat) (listed : Array Bool) (a : Act) (w : World), wpAnyQ P .any (pre ++ (o :: tl).map (fk m)).toArray C (fun a' => a'.tmps.getD d undef = m ∧ ∀ p ∈ sl, a'.tmps.getD p.1 undef = p.2) fuel listed a → C w →
      a.tmps.getD d undef ≠ m → a.defers = D → (∀ j, pre.length ≤ j → listed.getD j false = false) → wpAny P .any (pre ++ o :: tl).toArray Q fuel listed a w
  | 0, listed, a, w, h, _, hm, _, _ => absurd h.2.1 hm
  | fuel + 1, listed, a, w, h, hw, hm, hD, hJ => by
    have hB3 := hB2
    simp only [waitsB, Bool.and_eq_true, List.all_eq_true] at hB2
    obtain ⟨⟨hS, hP⟩, hT⟩ := hB2
    refine ⟨fun hr => absurd (h.1 (by rw [ready_fk]; exact hr)).1 hm, fun i hi => ?_⟩
    have hq := h.2 i (by rw [ready_fk]; exact hi)
    obtain ⟨hun, oi, hoi, hdep⟩ := mem_ready.1 hi
    rw [get_part] at hoi
    unfold wpOp
    unfold qOp at hq
    rw [get_part] at hq ⊢
    by_cases hlt : i < pre.length
    · rw [if_pos hlt] at hoi hq ⊢
      have hne : oi.dst ≠ some d := by
        have := hP oi (List.mem_of_getElem? hoi)
        simpa using this
      have hJ' : ∀ j, pre.length ≤ j → (listed.setIfInBounds i true).getD j false = false := by
        intro j hj
        have := hJ j hj
        rw [Array.getD_eq_getD_getElem?] at this ⊢
        rw [Array.getElem?_setIfInBounds_ne (by omega)]
        exact this
      simp only [hoi] at hq ⊢
      rw [yielded_fk] at hq
      split
      · next hwt =>
        rw [if_pos hwt] at hq
        obtain ⟨v, h1, h2⟩ := hq
        refine .inl (Oper.wp_of_quiet (K := fun a' => wpAnyQ P .any (pre ++ (o :: tl).map (fk m)).toArray C (fun a' => a'.tmps.getD d undef = m ∧ ∀ p ∈ sl, a'.tmps.getD p.1 undef = p.2) fuel (listed.setIfInBounds i true) a' ∧ a'.tmps.getD d undef ≠ m ∧ a'.defers = D) hw ?_ ⟨v, h1, h2, by rw [put_getD _ _ _ _ hne]; exact hm, by rw [put_defers]; exact hD⟩)
        intro a' w' hw' hk
        exact any_of_fk d sl hB3 hdst hg hop fuel _ a' w' hk.1 hw' hk.2.1 hk.2.2 hJ'
      · next hwt =>
        rw [if_neg hwt] at hq
        exact any_of_fk d sl hB3 hdst hg hop fuel _ _ w hq hw (by rw [put_getD _ _ _ _ hne]; exact hm) (by rw [put_defers]; exact hD) hJ'
    · rw [if_neg hlt] at hoi hq ⊢
      by_cases hn : i = pre.length
      · rw [hn, Nat.sub_self] at hoi hq ⊢
        simp only [List.getElem?_cons_zero, List.map_cons, Option.some.injEq] at hoi hq ⊢
        have hw1 : ∀ y, Region.wanted o y = true := fun y => by unfold Region.wanted; rw [hg]
        have hw2 : ∀ y, Region.wanted (fk m o) y = true := fun y => by unfold Region.wanted; show (match o.guard with | none => true | some (j, want) => y j == some want) = true; rw [hg]
        simp only [hw1, hw2, if_true] at hq ⊢
        obtain ⟨v, _, h2⟩ := hq
        refine .inl (hop a w _ hw hD fun p hp => ?_)
        have hps := hS p.1 (List.mem_map.2 ⟨p, hp, rfl⟩)
        have hpd : (some d : Option Tmp) ≠ some p.1 := by
          have := hps.1
          intro q
          cases q
          simp at this
        have h3 := slot_end (C := C) p.1 p.2 (fun a' h => h.2 p hp) fuel _ _ h2 (by
          intro j oj hj e
          rw [get_part] at hj
          by_cases hjl : j < pre.length
          · rw [if_pos hjl] at hj
            have h4 := hps.2.1 j (List.mem_range.2 hjl)
            simp only [hj, Bool.or_eq_true] at h4
            rcases h4 with h4 | h4
            · rw [e] at h4; simp at h4
            · rw [Array.any_eq_true'] at h4
              obtain ⟨ed, hed, h5⟩ := h4
              simp only [Bool.and_eq_true, beq_iff_eq] at h5
              have h6 := hdep ed (by rw [← hoi]; exact hed) h5.1
              rw [h5.2] at h6
              refine listed_set _ _ _ _ ?_
              rw [Array.getD_eq_getD_getElem?] at h6 ⊢
              cases hx : listed[j]? with
              | none => rfl
              | some y => rw [hx] at h6; exact h6
          · rw [if_neg hjl] at hj
            obtain ⟨k, hk⟩ : ∃ k, j - pre.length = k := ⟨_, rfl⟩
            rw [hk, ← List.map_cons, List.getElem?_map] at hj
            cases k with
            | zero =>
              simp only [List.getElem?_cons_zero, Option.map_some, Option.some.injEq] at hj
              rw [← hj] at e
              exact absurd (hdst.symm.trans e) hpd
            | succ k =>
              simp only [List.getElem?_cons_succ] at hj
              cases ht : tl[k]? with
              | none => rw [ht] at hj; cases hj
              | some ot =>
                rw [ht] at hj
                simp only [Option.map_some, Option.some.injEq] at hj
                have h7 := hps.2.2 ot (List.mem_of_getElem? ht)
                rw [← hj] at e
                have e2 : ot.dst = some p.1 := e
                rw [e2] at h7
                simp at h7)
        have hfd : (fk m o).dst = some d := hdst
        rwa [hfd, put_getD _ _ _ _ hpd] at h3
      · exfalso
        obtain ⟨k, hk⟩ : ∃ k, i - pre.length = k + 1 := ⟨i - pre.length - 1, by omega⟩
        rw [hk] at hoi
        simp only [List.getElem?_cons_succ] at hoi
        have h8 := hT oi (List.mem_of_getElem? hoi)
        rw [Array.any_eq_true'] at h8
        obtain ⟨ed, hed, h9⟩ := h8.2
        simp only [Bool.and_eq_true] at h9
        have h10 := hdep ed hed h9.1
        rw [hJ ed.on (Nat.le_of_ble_eq_true h9.2)] at h10
        cases h10
/-- The region. -/
theorem wp_region_dies {id : Nat} {Q : Exit → Act → World → Prop} {a : Act} {w : World} (pre : List Oper) (o : Oper) (tl : List Oper) (d : Tmp) (sl : List (Tmp × Value)) (l : List Oper) (hl : l = pre ++ o :: tl) (hm : P.follows .mixedOrders = true) (hB : ∀ m, Region.lexB .any (pre ++ (o :: tl).map (fk m)).toArray = true)
    (hB2 : waitsB pre o tl d (sl.map (·.1)) = true) (hdst : o.dst = some d) (hg : o.guard = none) (hC : C { w with drawn := w.drawn + 1 })
    (h : ∀ m, wpQuiet P (pre ++ (o :: tl).map (fk m)).toArray C (fun a' => a'.tmps.getD d undef = m ∧ ∀ p ∈ sl, a'.tmps.getD p.1 undef = p.2) (pre ++ (o :: tl).map (fk m)) a)
    (hop : ∀ (a' : Act) (w' : World) (K : Act → World → Prop), C w' → a'.defers = a.defers → (∀ p ∈ sl, a'.tmps.getD p.1 undef = p.2) → o.wp P a' w' K Q) : (Code.region id l.toArray true).wp P Q a w := by
  subst hl
  obtain ⟨m, h0⟩ : ∃ m, a.tmps.getD d undef ≠ m := by
    by_cases q : a.tmps.getD d undef = .bool true
    · exact ⟨.bool false, by rw [q]; intro e; cases e⟩
    · exact ⟨.bool true, q⟩
  have hBm := hB m
  simp only [Region.lexB, Bool.and_eq_true] at hBm
  refine wp_region_any hm ?_
  have h1 := wpAnyQ_lex (C := C) (md := .any) hBm.1 (pre ++ (o :: tl).map (fk m)) 0 (Array.replicate (pre ++ (o :: tl).map (fk m)).toArray.size false) a (by simp) (by simpa using hBm.2) (h m)
  have hz : (pre ++ o :: tl).toArray.size = (pre ++ (o :: tl).map (fk m)).length := by simp
  rw [hz]
  have hz2 : (pre ++ (o :: tl).map (fk m)).toArray.size = (pre ++ (o :: tl).map (fk m)).length := by simp
  rw [hz2] at h1
  refine any_of_fk d sl hB2 hdst hg hop _ _ _ _ h1 hC h0 rfl ?_
  intro j _
  rw [Array.getD_eq_getD_getElem?, Array.getElem?_replicate]
  split <;> rfl
end Go.Proofs.YtgnpcenpcmdlfaaGreatDoor

/-
  A region that draws its order, whose operations read and whose callees leave alone what lay there: one walk.
-/
namespace Go.Proofs.YtgnpcenpcmdlfaaGreatDoor
open Go.ChangeShapes Go.WideShapes Go.ChangeAt Go.RowKit Go.Deep
set_option linter.unusedVariables false

/-- A world that has grown out of 'w'. -/
structure Out (w : World) where
  u : World
  out : Below w.heap.size w u

theorem wp_region_out {id : Nat} {Q : Exit → Act → World → Prop} {a : Act} {w : World} {l : List Oper} (hm : Tryz.prog.follows .mixedOrders = true) (hB : Region.lexB .any l.toArray = true)
    (h : wpQuiet Tryz.prog l.toArray (fun w' => ∃ n : Out w, w' = n.u) (fun a' => ∀ w', (∃ n : Out w, w' = n.u) → Q .normal a' w') l a) : (Code.region id l.toArray true).wp Tryz.prog Q a w :=
  wp_region_quiet (C := fun w' => ∃ n : Out w, w' = n.u) hm hB ⟨⟨_, (Below.refl _ _).drew⟩, rfl⟩ (by simpa using h)
theorem Calls.out_of {f : FuncId} {args : Array Value} {w : World} {n : Out w} {v : Value}
    (h : Calls Tryz.prog f args n.u fun e w' => e = .returned v ∧ Below n.u.heap.size n.u w') : Calls Tryz.prog f args n.u fun e w'' => e = .returned v ∧ ∃ m : Out w, w'' = m.u :=
  h.mono fun _ w' ⟨he, hb⟩ => ⟨he, ⟨w', n.out.trans (hb.mono n.out.size)⟩, rfl⟩
theorem ents_out {w : World} {b off j : Nat} {L : List Ent} {x : Ent} (h : EntsAt w b off L) (hb : b < w.heap.size) (hx : L[j]? = some x) :
    (∀ n : Out w, n.u.cell? ⟨b, off + j * 6, none⟩ = some (.string x.row)) ∧ (∀ n : Out w, n.u.cell? ⟨b, off + j * 6 + 1, none⟩ = some (.string x.fam)) ∧ (∀ n : Out w, n.u.cell? ⟨b, off + j * 6 + 2, none⟩ = some (.string x.qual)) ∧
    (∀ n : Out w, n.u.cell? ⟨b, off + j * 6 + 3, none⟩ = some (.int .u64 x.ts)) ∧ (∀ n : Out w, n.u.cell? ⟨b, off + j * 6 + 4, none⟩ = some (.int .i64 x.kind)) ∧ (∀ n : Out w, n.u.cell? ⟨b, off + j * 6 + 5, none⟩ = some (.string x.val)) :=
  ⟨fun n => (h.below n.out hb j x hx).1, fun n => (h.below n.out hb j x hx).2.1, fun n => (h.below n.out hb j x hx).2.2.1, fun n => (h.below n.out hb j x hx).2.2.2.1, fun n => (h.below n.out hb j x hx).2.2.2.2.1, fun n => (h.below n.out hb j x hx).2.2.2.2.2⟩
end Go.Proofs.YtgnpcenpcmdlfaaGreatDoor

