import Derived.Maps.RangeWalk
import Derived.Maps.OwnSet
import Derived.Maps.OwnOps
import Derived.DeepKeys4
import Derived.Maps.AppendAt
import Derived.Laws.IdiomRangeMap
import Derived.Deep.RegionLaw
import Derived.Deep.AppendLies
import Derived.Test.YtnncedndlhfdkacPkAF
import Derived.Test.YtnncedndlhfdkacPkAA
import Derived.Test.YtnncedndlhfdkacPkAD
import Derived.Test.YtnncedndlhfdkacPkAC
/-
  The maps of impl.gatherColumns: by column (a struct of three texts), and by timestamp.
-/
namespace Go.Proofs.Ytnncedndlhfdkac
open Go.ChangeShapes Go.WideShapes Go.ChangeAt Go.RowKit Go.Deep Go.Maps
set_option linter.unusedVariables false
set_option maxRecDepth 100000

theorem mapLaid : laidOutB Try.prog = true := by kernel_rfl
theorem rowCol : (73 : TypeId) < Try.prog.types.size := of_decide_eq_true (by kernel_rfl)
theorem wideCol : (match Try.prog.underlying 73 with | some (.array _ _) | some (.struct _) => true | _ => false) = true := by kernel_rfl
theorem lawCol : Keyed Try.prog 73 := Keyed.of_law (deep_law_laid mapLaid (m := 2) (by omega) rowCol (by kernel_rfl) wideCol)
theorem lawTs : Keyed Try.prog 61 := int_keyed Try.underlying61

abbrev colV (r f q : ByteArray) : Value := .agg #[.string r, .string f, .string q]
/-- What a column reads as. -/
def colL (r f q : ByteArray) : Lit := .string (keyBytes [.string r.data.toList, .string f.data.toList, .string q.data.toList])
theorem typesSome : ∃ n, Try.prog.types.size = n + 1 := ⟨Try.prog.types.size - 1, by have h : (73 : Nat) < Try.prog.types.size := rowCol; omega⟩
theorem keyCol {r f q : ByteArray} (hr : r.size ≤ maxLen) (hf : f.size ≤ maxLen) (hq : q.size ≤ maxLen) : keyOf Try.prog 73 (colV r f q) = some (colL r f q) := by
  have h1 : Try.prog.keyType 73 = true := by kernel_rfl
  have h2 : Try.prog.cellsOf 73 = 3 := by kernel_rfl
  obtain ⟨n, hn⟩ := typesSome
  unfold keyOf
  rw [Try.underlying73]
  simp only [h1, Value.formed, Try.underlying73, h2, hn]
  simp [Program.keyLits, Try.underlying73, Try.underlying9, h2, Try.cellsStr, Value.cells, hr, hf, hq, colL]
theorem keyTs {t : Int} (h : (Lit.int .u64 t).wf = true) : keyOf Try.prog 61 (.int .u64 t) = some (.int .u64 t) := keyOf_int_mk Try.underlying61 h

/-- An element reads as its own value. -/
def Rh : Value → Option (DataW Value × List MemPlace) := fun v => some (.held v, [])
theorem Rh_eq {v : Value} {x : DataW Value} {ps : List MemPlace} (h : Rh v = some (x, ps)) : x = .held v ∧ ps = [] := by
  unfold Rh at h
  simp at h
  exact ⟨h.1.symm, h.2⟩

/-- Block 'b' is a map from timestamps to entries: the function 'f'. -/
def Inn (w : World) (b n : Nat) (f : Int → Option Ent) : Prop :=
  ∃ D, w.ownsMap Try.prog 61 Rh b n D ∧ ∀ t, (Lit.int .u64 t).wf = true → (f t = none ∧ Maps.has D (.int .u64 t) = false) ∨ ∃ e, f t = some e ∧ Maps.has D (.int .u64 t) = true ∧ ∀ z, D.atKey (.int .u64 t) z = .held e.v
theorem Inn.lt {w : World} {b n : Nat} {f : Int → Option Ent} (h : Inn w b n f) : b < w.heap.size := by
  obtain ⟨D, h, _⟩ := h
  exact h.lt
theorem Inn.kept {w w' : World} {b n : Nat} {f : Int → Option Ent} {row : Option Nat} (h : Inn w b n f) (hg : w.grownBy w' row) (hne : some b ≠ row) : Inn w' b n f := by
  obtain ⟨D, h, k⟩ := h
  exact ⟨D, h.kept hg hne, k⟩
theorem Inn.mono {w : World} {b n n' : Nat} {f : Int → Option Ent} (h : Inn w b n f) (hn : n ≤ n') : Inn w b n' f := by
  obtain ⟨D, h, k⟩ := h
  exact ⟨D, h.mono hn, k⟩
theorem Inn.setCell {w : World} {b n : Nat} {f : Int → Option Ent} (h : Inn w b n f) {a : Addr} (ha : b ≠ a.block) (u : Value) : Inn (w.setCell a u) b n f := by
  obtain ⟨D, h, k⟩ := h
  exact ⟨D, h.setCell ha u, k⟩
theorem grown_setNew {w w' : World} {row : Option Nat} (h : w.grownBy w' row) {a : Addr} (ha : w.heap.size ≤ a.block) (u : Value) : w.grownBy (w'.setCell a u) row := by
  have k := (Below.refl a.block w').setCell (Nat.le_refl _) (p := a) u
  exact ⟨k.os.trans h.os, k.tape.trans h.tape, k.output.trans h.output, Nat.le_trans h.size k.size, fun j hj hne => (Below.heap_setCell w' a u j (by omega)).trans (h.block j hj hne)⟩
theorem below4 (w : World) (a b c d : Obj) : Below w.heap.size w ((((w.alloc a).alloc b).alloc c).alloc d) := ((((Below.refl _ _).alloc (Nat.le_refl _) _).alloc (by simp) _).alloc (by simp; omega) _).alloc (by simp; omega) _
theorem Inn.made (w : World) : Inn (w.alloc (.map #[] 0)) w.heap.size 0 (fun _ => none) :=
  ⟨.map [], World.ownsMap_made w Try.prog 61 Rh, fun t _ => .inl ⟨rfl, rfl⟩⟩

set_option maxHeartbeats 1000000 in
theorem withEarlier_del (d : Bool) (u : Int) (m : Option Nat) (e : Ent) (w : World) (hk : e.kind = 2) :
    Calls Try.prog 90 #[.agg #[.bool d, .int .u64 u, .map m], e.v] w fun r w' =>
      r = .returned (.agg #[.bool true, .int .u64 (max u e.ts), .map m]) ∧ Below w.heap.size w w' := by
  have g2 : (e.kind == 2) = true := by simp [hk]
  clear hk
  unfold Ent.v
  go_enter Try.func90, Try.ntmps90
  go_wp2
  refine bodyPost_ret (v := .agg #[.bool true, .int .u64 (max u e.ts), .map m]) (by simp [results, Try.results90, go_sem]) rfl ⟨rfl, ?_⟩
  exact (((Below.refl _ _).alloc (Nat.le_refl _) _).alloc (by simp) _).alloc (by simp; omega) _

set_option maxHeartbeats 1000000 in
theorem withEarlier_gone (u : Int) (m : Option Nat) (e : Ent) (w : World) (hk : ¬ e.kind = 2) (hu : e.ts ≤ u) :
    Calls Try.prog 90 #[.agg #[.bool true, .int .u64 u, .map m], e.v] w fun r w' =>
      r = .returned (.agg #[.bool true, .int .u64 u, .map m]) ∧ Below w.heap.size w w' := by
  have g2 : (e.kind == 2) = false := by simp [hk]
  clear hk
  unfold Ent.v
  go_enter Try.func90, Try.ntmps90
  go_wp2
  refine bodyPost_ret (v := .agg #[.bool true, .int .u64 u, .map m]) (by simp [results, Try.results90, go_sem]) rfl ⟨rfl, ?_⟩
  exact (((Below.refl _ _).alloc (Nat.le_refl _) _).alloc (by simp) _).alloc (by simp; omega) _

theorem zeroE6 (w : World) : (zeroValue 63).run Try.prog w = .ok (.agg #[.string ⟨#[]⟩, .string ⟨#[]⟩, .string ⟨#[]⟩, .int .u64 0, .int .i64 0, .string ⟨#[]⟩]) w := by kernel_rfl
/-- 'v, ok := m[t]' in a map of entries. -/
theorem Inn.look {w : World} {b n : Nat} {f : Int → Option Ent} (h : Inn w b n f) {t : Int} (ht : (Lit.int .u64 t).wf = true) :
    ∃ v : Ent, (Instr.lookup 107 (.map (some b)) (.int .u64 t) true).run Try.prog w = .ok (.tuple #[v.v, .bool (f t).isSome]) w := by
  obtain ⟨D, hD, hv⟩ := h
  obtain ⟨v, ps, hrun, hR⟩ := hD.look_ok lawTs Try.underlying107 (zeroE6 w) (zd := .held zeroE.v) (zp := []) rfl (keyTs ht)
  have hR' := (Rh_eq hR).1
  rcases hv t ht with ⟨h1, h2⟩ | ⟨e, h1, h2, h3⟩
  · rw [Maps.atKey_of_not_has h2] at hR'
    simp only [DataW.held.injEq] at hR'
    rw [← hR', h2] at hrun
    exact ⟨zeroE, by rw [h1]; exact hrun⟩
  · rw [h3] at hR'
    simp only [DataW.held.injEq] at hR'
    rw [← hR', h2] at hrun
    exact ⟨e, by rw [h1]; exact hrun⟩
theorem Inn.put {w : World} {b n : Nat} {f : Int → Option Ent} (h : Inn w b n f) (hn : n < maxLen) (e : Ent) (ht : (Lit.int .u64 e.ts).wf = true) :
    ∃ w', (Instr.mapUpdate 107 (.map (some b)) (.int .u64 e.ts) e.v).run Try.prog w = .ok () w' ∧ Inn w' b (n + 1) (fun t => if t = e.ts then some e else f t) ∧ w.grownBy w' (some b) := by
  obtain ⟨D, hD, hv⟩ := h
  obtain ⟨w', hrun, ho, hg⟩ := hD.update lawTs Try.underlying107 hn (keyTs ht) (val := e.v) (d := .held e.v) (ps := []) rfl
  refine ⟨w', hrun, ⟨_, ho, fun t hw => ?_⟩, hg⟩
  by_cases he : t = e.ts
  · subst he
    refine .inr ⟨e, by simp, Maps.has_put_same hD.isMap (lawTs.key (keyTs ht)) _, fun z => Maps.atKey_put_same hD.isMap (lawTs.key (keyTs ht)) _ z⟩
  · have hne : (Lit.int .u64 t) ≠ (Lit.int .u64 e.ts) := fun q => he (by injection q)
    rcases hv t hw with ⟨h1, h2⟩ | ⟨e', h1, h2, h3⟩
    · exact .inl ⟨by simp [he, h1], by rw [Maps.has_put_other hne]; exact h2⟩
    · exact .inr ⟨e', by simp [he, h1], by rw [Maps.has_put_other hne]; exact h2, fun z => by rw [Maps.atKey_put_other hne]; exact h3 z⟩

set_option maxHeartbeats 1000000 in
set_option maxRecDepth 100000 in
theorem withEarlier_old (d : Bool) (u : Int) (b n : Nat) (f : Int → Option Ent) (e : Ent) (w : World) (hk : ¬ e.kind = 2) (hu : d = true → ¬ e.ts ≤ u) (hI : Inn w b n f) (hn : n < maxLen) (hw : (Lit.int .u64 e.ts).wf = true) :
    Calls Try.prog 90 #[.agg #[.bool d, .int .u64 u, .map (some b)], e.v] w fun r w' =>
      r = .returned (.agg #[.bool d, .int .u64 u, .map (some b)]) ∧ Inn w' b (n + 1) (fun t => if t = e.ts then (if (f t).isSome then f t else some e) else f t) ∧ w.grownBy w' (some b) := by
  have g2 : (e.kind == 2) = false := by simp [hk]
  have hb := hI.lt
  have HI : Hid (Inn w b n f ∧ n < maxLen ∧ (Lit.int .u64 e.ts).wf = true) := ⟨hI, hn, hw⟩
  clear hk hI hn hw
  have hnil : ∀ wx, (binOp .eql 107 (.map (some b)) (.map none)).run Try.prog wx = .ok (.bool false) wx :=
    fun wx => run_eql_map_nil wx _ _ _ (some b) Try.underlying107
  have hbox : Below w.heap.size w (((w.alloc (Obj.cells #[.bool d, .int .u64 u, .map (some b)] 109)).alloc (Obj.cells #[.string e.row, .string e.fam, .string e.qual, .int .u64 e.ts, .int .i64 e.kind, .string e.val] 63)).alloc (Obj.cells #[.bool false, .int .u64 0, .map none] 109)) :=
    (((Below.refl _ _).alloc (Nat.le_refl _) _).alloc (by simp) _).alloc (by simp; omega) _
  have hIb := HI.out.1.kept (row := none) ⟨hbox.os, hbox.tape, hbox.output, hbox.size, fun k hk _ => hbox.block k hk⟩ (by simp)
  obtain ⟨v, hlook⟩ := hIb.look HI.out.2.2
  have HIb : Hid (Inn (((w.alloc (Obj.cells #[.bool d, .int .u64 u, .map (some b)] 109)).alloc (Obj.cells #[.string e.row, .string e.fam, .string e.qual, .int .u64 e.ts, .int .i64 e.kind, .string e.val] 63)).alloc (Obj.cells #[.bool false, .int .u64 0, .map none] 109)) b n f) := hIb
  clear hIb hbox
  have hIc := HIb.out.kept (row := none) (World.grownBy_alloc _ (Obj.cells #[.string v.row, .string v.fam, .string v.qual, .int .u64 v.ts, .int .i64 v.kind, .string v.val] 63) none) (by simp)
  obtain ⟨w4, hput, hI4, hg4⟩ := hIc.put HI.out.2.1 e HI.out.2.2
  have hbx : Below w.heap.size w ((((w.alloc (Obj.cells #[.bool d, .int .u64 u, .map (some b)] 109)).alloc (Obj.cells #[.string e.row, .string e.fam, .string e.qual, .int .u64 e.ts, .int .i64 e.kind, .string e.val] 63)).alloc (Obj.cells #[.bool false, .int .u64 0, .map none] 109)).alloc (Obj.cells #[.string v.row, .string v.fam, .string v.qual, .int .u64 v.ts, .int .i64 v.kind, .string v.val] 63)) := ((((Below.refl _ _).alloc (Nat.le_refl _) _).alloc (by simp) _).alloc (by simp; omega) _).alloc (by simp; omega) _
  have hs4 := hg4.size
  simp at hs4
  have hbl : ∀ j, j ≠ b → j < w.heap.size + 4 → w4.heap[j]? = ((((w.alloc (Obj.cells #[.bool d, .int .u64 u, .map (some b)] 109)).alloc (Obj.cells #[.string e.row, .string e.fam, .string e.qual, .int .u64 e.ts, .int .i64 e.kind, .string e.val] 63)).alloc (Obj.cells #[.bool false, .int .u64 0, .map none] 109)).alloc (Obj.cells #[.string v.row, .string v.fam, .string v.qual, .int .u64 v.ts, .int .i64 v.kind, .string v.val] 63)).heap[j]? := fun j h1 h2 => hg4.block j (by simp; omega) (fun q => h1 (by injection q))
  have c40 : ∀ o, w4.cell? ⟨w.heap.size, o, none⟩ = ((((w.alloc (Obj.cells #[.bool d, .int .u64 u, .map (some b)] 109)).alloc (Obj.cells #[.string e.row, .string e.fam, .string e.qual, .int .u64 e.ts, .int .i64 e.kind, .string e.val] 63)).alloc (Obj.cells #[.bool false, .int .u64 0, .map none] 109)).alloc (Obj.cells #[.string v.row, .string v.fam, .string v.qual, .int .u64 v.ts, .int .i64 v.kind, .string v.val] 63)).cell? ⟨w.heap.size, o, none⟩ := fun o => World.cell?_of_block (hbl _ (by show w.heap.size ≠ b; omega) (by show w.heap.size < _; omega))
  have c42 : ∀ o, w4.cell? ⟨w.heap.size + 1 + 1, o, none⟩ = ((((w.alloc (Obj.cells #[.bool d, .int .u64 u, .map (some b)] 109)).alloc (Obj.cells #[.string e.row, .string e.fam, .string e.qual, .int .u64 e.ts, .int .i64 e.kind, .string e.val] 63)).alloc (Obj.cells #[.bool false, .int .u64 0, .map none] 109)).alloc (Obj.cells #[.string v.row, .string v.fam, .string v.qual, .int .u64 v.ts, .int .i64 v.kind, .string v.val] 63)).cell? ⟨w.heap.size + 1 + 1, o, none⟩ := fun o => World.cell?_of_block (hbl _ (by show w.heap.size + 1 + 1 ≠ b; omega) (by show w.heap.size + 1 + 1 < _; omega))
  have f42 : ∀ o, w4.frozen? ⟨w.heap.size + 1 + 1, o, none⟩ = ((((w.alloc (Obj.cells #[.bool d, .int .u64 u, .map (some b)] 109)).alloc (Obj.cells #[.string e.row, .string e.fam, .string e.qual, .int .u64 e.ts, .int .i64 e.kind, .string e.val] 63)).alloc (Obj.cells #[.bool false, .int .u64 0, .map none] 109)).alloc (Obj.cells #[.string v.row, .string v.fam, .string v.qual, .int .u64 v.ts, .int .i64 v.kind, .string v.val] 63)).frozen? ⟨w.heap.size + 1 + 1, o, none⟩ := fun o => World.frozen?_of_block (hbl _ (by show w.heap.size + 1 + 1 ≠ b; omega) (by show w.heap.size + 1 + 1 < _; omega))
  have H4 : Hid (Inn w4 b (n + 1) (fun t => if t = e.ts then some e else f t) ∧ w.grownBy w4 (some b)) :=
    ⟨hI4, ⟨hg4.os.trans hbx.os, hg4.tape.trans hbx.tape, hg4.output.trans hbx.output, by omega, fun j hj hne => (hg4.block j (by simp; omega) hne).trans (hbx.block j hj)⟩⟩
  clear hIc hI4 hg4 hbl hbx
  unfold Ent.v at *
  cases hf : (f e.ts).isSome
  · rw [hf] at hlook
    have HF : Hid ((f e.ts).isSome = false) := hf
    clear hf
    cases d
    · clear hu
      go_enter Try.func90, Try.ntmps90
      go_wp2_with fail
      refine bodyPost_ret (v := .agg #[.bool false, .int .u64 u, .map (some b)]) (by simp [results, Try.results90, go_sem, c42]) rfl ⟨rfl, ?_, ?_⟩
      · rw [show (fun t => if t = e.ts then (if (f t).isSome then f t else some e) else f t) = (fun t => if t = e.ts then some e else f t) from funext fun t => by
          by_cases q : t = e.ts
          · subst q; simp [HF.out]
          · simp [q]]
        exact ((H4.out.1.setCell (by show b ≠ w.heap.size + 1 + 1; omega) _).setCell (by show b ≠ w.heap.size + 1 + 1; omega) _).setCell (by show b ≠ w.heap.size + 1 + 1; omega) _
      · exact grown_setNew (grown_setNew (grown_setNew H4.out.2 (by show w.heap.size ≤ w.heap.size + 1 + 1; omega) _) (by show w.heap.size ≤ w.heap.size + 1 + 1; omega) _) (by show w.heap.size ≤ w.heap.size + 1 + 1; omega) _
    · have hu' : ¬ e.ts ≤ u := hu rfl
      clear hu
      go_enter Try.func90, Try.ntmps90
      go_wp2_with fail
      refine bodyPost_ret (v := .agg #[.bool true, .int .u64 u, .map (some b)]) (by simp [results, Try.results90, go_sem, c42]) rfl ⟨rfl, ?_, ?_⟩
      · rw [show (fun t => if t = e.ts then (if (f t).isSome then f t else some e) else f t) = (fun t => if t = e.ts then some e else f t) from funext fun t => by
          by_cases q : t = e.ts
          · subst q; simp [HF.out]
          · simp [q]]
        exact ((H4.out.1.setCell (by show b ≠ w.heap.size + 1 + 1; omega) _).setCell (by show b ≠ w.heap.size + 1 + 1; omega) _).setCell (by show b ≠ w.heap.size + 1 + 1; omega) _
      · exact grown_setNew (grown_setNew (grown_setNew H4.out.2 (by show w.heap.size ≤ w.heap.size + 1 + 1; omega) _) (by show w.heap.size ≤ w.heap.size + 1 + 1; omega) _) (by show w.heap.size ≤ w.heap.size + 1 + 1; omega) _
  · rw [hf] at hlook
    have HF : Hid ((f e.ts).isSome = true) := hf
    clear hf hput c40 c42 f42
    cases d
    · clear hu
      go_enter Try.func90, Try.ntmps90
      go_wp2_with fail
      refine bodyPost_ret (v := .agg #[.bool false, .int .u64 u, .map (some b)]) (by simp [results, Try.results90, go_sem]) rfl ⟨rfl, ?_, ?_⟩
      · rw [show (fun t => if t = e.ts then (if (f t).isSome then f t else some e) else f t) = f from funext fun t => by
          by_cases q : t = e.ts
          · subst q; simp [HF.out]
          · simp [q]]
        exact (HI.out.1.kept (row := none) (grown_of_below (below4 w _ _ _ _) none) (by simp)).mono (by omega)
      · exact grown_of_below (below4 w _ _ _ _) _
    · have hu' : ¬ e.ts ≤ u := hu rfl
      clear hu
      go_enter Try.func90, Try.ntmps90
      go_wp2_with fail
      refine bodyPost_ret (v := .agg #[.bool true, .int .u64 u, .map (some b)]) (by simp [results, Try.results90, go_sem]) rfl ⟨rfl, ?_, ?_⟩
      · rw [show (fun t => if t = e.ts then (if (f t).isSome then f t else some e) else f t) = f from funext fun t => by
          by_cases q : t = e.ts
          · subst q; simp [HF.out]
          · simp [q]]
        exact (HI.out.1.kept (row := none) (grown_of_below (below4 w _ _ _ _) none) (by simp)).mono (by omega)
      · exact grown_of_below (below4 w _ _ _ _) _

set_option maxHeartbeats 1000000 in
set_option maxRecDepth 100000 in
theorem withEarlier_new (d : Bool) (u : Int) (e : Ent) (w : World) (hk : ¬ e.kind = 2) (hu : d = true → ¬ e.ts ≤ u) (hw : (Lit.int .u64 e.ts).wf = true) :
    Calls Try.prog 90 #[.agg #[.bool d, .int .u64 u, .map none], e.v] w fun r w' =>
      ∃ b, r = .returned (.agg #[.bool d, .int .u64 u, .map (some b)]) ∧ w.heap.size ≤ b ∧ Inn w' b 1 (fun t => if t = e.ts then some e else none) ∧ Below w.heap.size w w' := by
  have g2 : (e.kind == 2) = false := by simp [hk]
  have HI : Hid ((Lit.int .u64 e.ts).wf = true) := hw
  clear hk hw
  have hnil : ∀ wx, (binOp .eql 107 (.map none) (.map none)).run Try.prog wx = .ok (.bool true) wx :=
    fun wx => run_eql_map_nil wx _ _ _ none Try.underlying107
  have hmm := @run_makeMap Try.prog
  have hI4 : Inn ((((w.alloc (Obj.cells #[.bool d, .int .u64 u, .map (some (w.heap.size + 1 + 1 + 1))] 109)).alloc (Obj.cells #[.string e.row, .string e.fam, .string e.qual, .int .u64 e.ts, .int .i64 e.kind, .string e.val] 63)).alloc (Obj.cells #[.bool false, .int .u64 0, .map none] 109)).alloc (Obj.map #[] 0)) (w.heap.size + 1 + 1 + 1) 0 (fun _ => none) := by
    have h := Inn.made (((w.alloc (Obj.cells #[.bool d, .int .u64 u, .map (some (w.heap.size + 1 + 1 + 1))] 109)).alloc (Obj.cells #[.string e.row, .string e.fam, .string e.qual, .int .u64 e.ts, .int .i64 e.kind, .string e.val] 63)).alloc (Obj.cells #[.bool false, .int .u64 0, .map none] 109))
    have hz : (((w.alloc (Obj.cells #[.bool d, .int .u64 u, .map (some (w.heap.size + 1 + 1 + 1))] 109)).alloc (Obj.cells #[.string e.row, .string e.fam, .string e.qual, .int .u64 e.ts, .int .i64 e.kind, .string e.val] 63)).alloc (Obj.cells #[.bool false, .int .u64 0, .map none] 109)).heap.size = w.heap.size + 1 + 1 + 1 := by simp
    rw [hz] at h
    exact h
  obtain ⟨v, hlook⟩ := hI4.look HI.out
  have hI5 := hI4.kept (row := none) (World.grownBy_alloc _ (Obj.cells #[.string v.row, .string v.fam, .string v.qual, .int .u64 v.ts, .int .i64 v.kind, .string v.val] 63) none) (by simp)
  obtain ⟨w6, hput, hI6, hg6⟩ := hI5.put (by unfold maxLen; omega) e HI.out
  have hbx : Below w.heap.size w (((((w.alloc (Obj.cells #[.bool d, .int .u64 u, .map (some (w.heap.size + 1 + 1 + 1))] 109)).alloc (Obj.cells #[.string e.row, .string e.fam, .string e.qual, .int .u64 e.ts, .int .i64 e.kind, .string e.val] 63)).alloc (Obj.cells #[.bool false, .int .u64 0, .map none] 109)).alloc (Obj.map #[] 0)).alloc (Obj.cells #[.string v.row, .string v.fam, .string v.qual, .int .u64 v.ts, .int .i64 v.kind, .string v.val] 63)) := (below4 w _ _ _ _).alloc (by simp; omega) _
  have hs6 := hg6.size
  simp at hs6
  have hbl : ∀ j, j ≠ w.heap.size + 1 + 1 + 1 → j < w.heap.size + 5 → w6.heap[j]? = (((((w.alloc (Obj.cells #[.bool d, .int .u64 u, .map (some (w.heap.size + 1 + 1 + 1))] 109)).alloc (Obj.cells #[.string e.row, .string e.fam, .string e.qual, .int .u64 e.ts, .int .i64 e.kind, .string e.val] 63)).alloc (Obj.cells #[.bool false, .int .u64 0, .map none] 109)).alloc (Obj.map #[] 0)).alloc (Obj.cells #[.string v.row, .string v.fam, .string v.qual, .int .u64 v.ts, .int .i64 v.kind, .string v.val] 63)).heap[j]? := fun j h1 h2 => hg6.block j (by simp; omega) (fun q => h1 (by injection q))
  have c60 : ∀ o, w6.cell? ⟨w.heap.size, o, none⟩ = (((((w.alloc (Obj.cells #[.bool d, .int .u64 u, .map (some (w.heap.size + 1 + 1 + 1))] 109)).alloc (Obj.cells #[.string e.row, .string e.fam, .string e.qual, .int .u64 e.ts, .int .i64 e.kind, .string e.val] 63)).alloc (Obj.cells #[.bool false, .int .u64 0, .map none] 109)).alloc (Obj.map #[] 0)).alloc (Obj.cells #[.string v.row, .string v.fam, .string v.qual, .int .u64 v.ts, .int .i64 v.kind, .string v.val] 63)).cell? ⟨w.heap.size, o, none⟩ := fun o => World.cell?_of_block (hbl _ (by show w.heap.size ≠ _; omega) (by show w.heap.size < _; omega))
  have c62 : ∀ o, w6.cell? ⟨w.heap.size + 1 + 1, o, none⟩ = (((((w.alloc (Obj.cells #[.bool d, .int .u64 u, .map (some (w.heap.size + 1 + 1 + 1))] 109)).alloc (Obj.cells #[.string e.row, .string e.fam, .string e.qual, .int .u64 e.ts, .int .i64 e.kind, .string e.val] 63)).alloc (Obj.cells #[.bool false, .int .u64 0, .map none] 109)).alloc (Obj.map #[] 0)).alloc (Obj.cells #[.string v.row, .string v.fam, .string v.qual, .int .u64 v.ts, .int .i64 v.kind, .string v.val] 63)).cell? ⟨w.heap.size + 1 + 1, o, none⟩ := fun o => World.cell?_of_block (hbl _ (by show w.heap.size + 1 + 1 ≠ _; omega) (by show w.heap.size + 1 + 1 < _; omega))
  have f62 : ∀ o, w6.frozen? ⟨w.heap.size + 1 + 1, o, none⟩ = (((((w.alloc (Obj.cells #[.bool d, .int .u64 u, .map (some (w.heap.size + 1 + 1 + 1))] 109)).alloc (Obj.cells #[.string e.row, .string e.fam, .string e.qual, .int .u64 e.ts, .int .i64 e.kind, .string e.val] 63)).alloc (Obj.cells #[.bool false, .int .u64 0, .map none] 109)).alloc (Obj.map #[] 0)).alloc (Obj.cells #[.string v.row, .string v.fam, .string v.qual, .int .u64 v.ts, .int .i64 v.kind, .string v.val] 63)).frozen? ⟨w.heap.size + 1 + 1, o, none⟩ := fun o => World.frozen?_of_block (hbl _ (by show w.heap.size + 1 + 1 ≠ _; omega) (by show w.heap.size + 1 + 1 < _; omega))
  have H6 : Hid (Inn w6 (w.heap.size + 1 + 1 + 1) 1 (fun t => if t = e.ts then some e else none) ∧ Below w.heap.size w w6) :=
    ⟨hI6, ⟨hg6.os.trans hbx.os, hg6.tape.trans hbx.tape, hg6.output.trans hbx.output, by omega, fun j hj => (hg6.block j (by simp; omega) (fun q => by injection q; omega)).trans (hbx.block j hj)⟩⟩
  clear hI4 hI5 hI6 hg6 hbl hbx
  unfold Ent.v at *
  cases d
  · clear hu
    go_enter Try.func90, Try.ntmps90
    go_wp2_with fail
    refine bodyPost_ret (v := .agg #[.bool false, .int .u64 u, .map (some (w.heap.size + 1 + 1 + 1))]) (by simp [results, Try.results90, go_sem, c62]) rfl ⟨_, rfl, by omega, ?_, ?_⟩
    · exact ((H6.out.1.setCell (by show w.heap.size + 1 + 1 + 1 ≠ w.heap.size + 1 + 1; omega) _).setCell (by show w.heap.size + 1 + 1 + 1 ≠ w.heap.size + 1 + 1; omega) _).setCell (by show w.heap.size + 1 + 1 + 1 ≠ w.heap.size + 1 + 1; omega) _
    · exact ((H6.out.2.setCell (by show w.heap.size ≤ w.heap.size + 1 + 1; omega) _).setCell (by show w.heap.size ≤ w.heap.size + 1 + 1; omega) _).setCell (by show w.heap.size ≤ w.heap.size + 1 + 1; omega) _
  · have hu' : ¬ e.ts ≤ u := hu rfl
    clear hu
    go_enter Try.func90, Try.ntmps90
    go_wp2_with fail
    refine bodyPost_ret (v := .agg #[.bool true, .int .u64 u, .map (some (w.heap.size + 1 + 1 + 1))]) (by simp [results, Try.results90, go_sem, c62]) rfl ⟨_, rfl, by omega, ?_, ?_⟩
    · exact ((H6.out.1.setCell (by show w.heap.size + 1 + 1 + 1 ≠ w.heap.size + 1 + 1; omega) _).setCell (by show w.heap.size + 1 + 1 + 1 ≠ w.heap.size + 1 + 1; omega) _).setCell (by show w.heap.size + 1 + 1 + 1 ≠ w.heap.size + 1 + 1; omega) _
    · exact ((H6.out.2.setCell (by show w.heap.size ≤ w.heap.size + 1 + 1; omega) _).setCell (by show w.heap.size ≤ w.heap.size + 1 + 1; omega) _).setCell (by show w.heap.size ≤ w.heap.size + 1 + 1; omega) _
end Go.Proofs.Ytnncedndlhfdkac

/-
  The columns of a list of writes: the model, and the map that holds them.
-/
namespace Go.Proofs.Ytnncedndlhfdkac
open Go.ChangeShapes Go.WideShapes Go.ChangeAt Go.RowKit Go.Deep Go.Maps
set_option linter.unusedVariables false
set_option maxRecDepth 100000

/-- What a list of writes leaves of one column. -/
structure CW where
  d : Bool
  u : Int
  f : Int → Option Ent
def cw0 : CW := ⟨false, 0, fun _ => none⟩
def cwAdd (c : CW) (e : Ent) : CW :=
  if e.kind = 2 then ⟨true, max c.u e.ts, c.f⟩
  else if c.d = true ∧ e.ts ≤ c.u then c
  else ⟨c.d, c.u, fun t => if t = e.ts then (if (c.f t).isSome then c.f t else some e) else c.f t⟩
/-- A column's name. -/
abbrev Col := ByteArray × ByteArray × ByteArray
def Ent.wcol (e : Ent) : Col := (e.row, e.fam, e.qual)
def colsOf : List Ent → Col → Option CW
  | [], _ => none
  | w :: rest, c => if c = w.wcol then some (cwAdd ((colsOf rest c).getD cw0) w) else colsOf rest c

def Col.okc (c : Col) : Prop := c.1.size ≤ maxLen ∧ c.2.1.size ≤ maxLen ∧ c.2.2.size ≤ maxLen
abbrev Col.v (c : Col) : Value := colV c.1 c.2.1 c.2.2
def Col.l (c : Col) : Lit := colL c.1 c.2.1 c.2.2
theorem Col.key {c : Col} (h : c.okc) : keyOf Try.prog 73 c.v = some c.l := keyCol h.1 h.2.1 h.2.2
theorem Col.inj {c c' : Col} (h : c.okc) (h' : c'.okc) (e : c.l = c'.l) : c = c' := by
  have h1 := Col.key h
  have h2 := Col.key h'
  rw [← e] at h2
  have := lawCol.inj h1 h2
  obtain ⟨a, b, d⟩ := c
  obtain ⟨a', b', d'⟩ := c'
  simp at this
  obtain ⟨rfl, rfl, rfl⟩ := this
  rfl

/-- The inner map of a column. -/
def Inner (w : World) (base N : Nat) (m : Option Nat) (f : Int → Option Ent) : Prop :=
  (m = none ∧ f = fun _ => none) ∨ ∃ b n, m = some b ∧ Inn w b n f ∧ n ≤ N ∧ base ≤ b
theorem Inner.kept {w w' : World} {base N : Nat} {m : Option Nat} {f : Int → Option Ent} {row : Option Nat} (h : Inner w base N m f) (hg : w.grownBy w' row) (hne : m = none ∨ m ≠ row) : Inner w' base N m f := by
  rcases h with h | ⟨b, n, rfl, h, hn, hb⟩
  · exact .inl h
  · refine .inr ⟨b, n, rfl, h.kept hg ?_, hn, hb⟩
    rcases hne with e | e
    · cases e
    · exact e
theorem Inner.mono {w : World} {base N N' : Nat} {m : Option Nat} {f : Int → Option Ent} (h : Inner w base N m f) (hn : N ≤ N') : Inner w base N' m f := by
  rcases h with h | ⟨b, n, rfl, h, h1, hb⟩
  · exact .inl h
  · exact .inr ⟨b, n, rfl, h, by omega, hb⟩

/-- Block 'B' is the map of the columns 'G'; 'M' says where their inner maps lie. -/
structure Outer (w : World) (base B N : Nat) (G : Col → Option CW) (M : Col → Option Nat) : Prop where
  map : ∃ D, w.ownsMap Try.prog 73 Rh B N D ∧ ∀ c, Col.okc c → (G c = none ∧ Maps.has D c.l = false) ∨ ∃ k, G c = some k ∧ Maps.has D c.l = true ∧ ∀ z, D.atKey c.l z = .held (.agg #[.bool k.d, .int .u64 k.u, .map (M c)])
  inner : ∀ c k, G c = some k → Inner w base N (M c) k.f
  nom : ∀ c, G c = none → M c = none
  apart : ∀ c c' b, M c = some b → M c' = some b → c = c'
  off : ∀ c b, M c = some b → b ≠ B
  ok : ∀ c k, G c = some k → Col.okc c

theorem zeroCW (w : World) : (zeroValue 109).run Try.prog w = .ok (.agg #[.bool false, .int .u64 0, .map none]) w := by kernel_rfl

theorem Outer.look {w : World} {base B N : Nat} {G : Col → Option CW} {M : Col → Option Nat} (h : Outer w base B N G M) {c : Col} (hc : Col.okc c) :
    (Instr.lookup 105 (.map (some B)) c.v false).run Try.prog w = .ok (.agg #[.bool ((G c).getD cw0).d, .int .u64 ((G c).getD cw0).u, .map (M c)]) w := by
  obtain ⟨D, hD, hv⟩ := h.map
  obtain ⟨v, ps, hrun, hR⟩ := hD.lookup lawCol Try.underlying105 (zeroCW w) (zd := .held (.agg #[.bool false, .int .u64 0, .map none])) (zp := []) rfl (Col.key hc)
  have hR' := (Rh_eq hR).1
  rcases hv c hc with ⟨h1, h2⟩ | ⟨k, h1, h2, h3⟩
  · rw [Maps.atKey_of_not_has h2] at hR'
    simp only [DataW.held.injEq] at hR'
    rw [h1, h.nom c h1, hrun, ← hR']; rfl
  · rw [h3] at hR'
    simp only [DataW.held.injEq] at hR'
    rw [h1, hrun, ← hR']; rfl

theorem Outer.lt {w : World} {base B N : Nat} {G : Col → Option CW} {M : Col → Option Nat} (h : Outer w base B N G M) : B < w.heap.size := by
  obtain ⟨D, hD, _⟩ := h.map
  exact hD.lt
theorem Outer.inLt {w : World} {base B N : Nat} {G : Col → Option CW} {M : Col → Option Nat} (h : Outer w base B N G M) {c : Col} {b : Nat} (hb : M c = some b) : b < w.heap.size ∧ base ≤ b := by
  cases hg : G c with
  | none => rw [h.nom c hg] at hb; cases hb
  | some k =>
    rcases h.inner c k hg with ⟨e, _⟩ | ⟨b', n, e, hi, _, hbb⟩
    · rw [e] at hb; cases hb
    · rw [e] at hb
      injection hb with hb
      subst hb
      exact ⟨hi.lt, hbb⟩
theorem Outer.kept {w w' : World} {base B N : Nat} {G : Col → Option CW} {M : Col → Option Nat} (h : Outer w base B N G M) (hg : w.grownBy w' none) : Outer w' base B N G M := by
  obtain ⟨D, hD, hv⟩ := h.map
  exact ⟨⟨D, hD.kept hg (by simp), hv⟩, fun c k hk => (h.inner c k hk).kept hg (by cases M c <;> simp), h.nom, h.apart, h.off, h.ok⟩
theorem Outer.made (w : World) (base : Nat) : Outer (w.alloc (.map #[] 0)) base w.heap.size 0 (fun _ => none) (fun _ => none) :=
  ⟨⟨.map [], World.ownsMap_made w Try.prog 73 Rh, fun c _ => .inl ⟨rfl, rfl⟩⟩, fun c k h => (by cases h), fun _ _ => rfl, fun _ _ _ h => (by cases h), fun _ _ h => (by cases h), fun _ _ h => (by cases h)⟩

theorem Outer.put {w w' : World} {base B N : Nat} {G : Col → Option CW} {M : Col → Option Nat} (h : Outer w base B N G M) {c : Col} (hc : Col.okc c) (hN : N < maxLen) (hg : w.grownBy w' (M c)) (k : CW) (m : Option Nat)
    (hi : Inner w' base (N + 1) m k.f) (hm : m = M c ∨ (M c = none ∧ ∃ b, m = some b ∧ w.heap.size ≤ b)) :
    ∃ w'', (Instr.mapUpdate 105 (.map (some B)) c.v (.agg #[.bool k.d, .int .u64 k.u, .map m])).run Try.prog w' = .ok () w'' ∧
      Outer w'' base B (N + 1) (fun x => if x = c then some k else G x) (fun x => if x = c then m else M x) ∧ w'.grownBy w'' (some B) := by
  obtain ⟨D, hD, hv⟩ := h.map
  have hne : some B ≠ M c := fun q => h.off c B q.symm rfl
  obtain ⟨w'', hrun, ho, hg2⟩ := (hD.kept hg hne).update lawCol Try.underlying105 hN (Col.key hc) (val := .agg #[.bool k.d, .int .u64 k.u, .map m]) (d := .held (.agg #[.bool k.d, .int .u64 k.u, .map m])) (ps := []) rfl
  clear hN
  have hmB : ∀ b, m = some b → b ≠ B := fun b hb => by
    rcases hm with e | ⟨_, b', e, hlt⟩
    · rw [e] at hb; exact h.off c b hb
    · rw [e] at hb
      injection hb with hb
      have := h.lt
      omega
  refine ⟨w'', hrun, ⟨⟨_, ho, fun x hx => ?_⟩, fun x kx hk => ?_, fun x hx => ?_, fun x y b hx hy => ?_, fun x b hx => ?_, fun x kx hk => ?_⟩, hg2⟩
  · by_cases e : x = c
    · subst e
      exact .inr ⟨k, by simp, Maps.has_put_same (hD.kept hg hne).isMap (lawCol.key (Col.key hc)) _, fun z => by rw [if_pos rfl]; exact Maps.atKey_put_same (hD.kept hg hne).isMap (lawCol.key (Col.key hc)) _ z⟩
    · have hl : x.l ≠ c.l := fun q => e (Col.inj hx hc q)
      rcases hv x hx with ⟨h1, h2⟩ | ⟨kk, h1, h2, h3⟩
      · exact .inl ⟨by simp [e, h1], by rw [Maps.has_put_other hl]; exact h2⟩
      · exact .inr ⟨kk, by simp [e, h1], by rw [Maps.has_put_other hl]; exact h2, fun z => by rw [Maps.atKey_put_other hl, if_neg e]; exact h3 z⟩
  · by_cases e : x = c
    · subst e
      simp at hk
      subst hk
      simp only [if_true]
      refine hi.kept hg2 ?_
      cases hq : m with
      | none => exact .inl rfl
      | some b => exact .inr (fun q => hmB b hq (by injection q))
    · simp [e] at hk
      simp only [e, if_false]
      have h0 := h.inner x kx hk
      have h1 : Inner w' base N (M x) kx.f := h0.kept hg (by
        cases hq : M x with
        | none => exact .inl rfl
        | some b => exact .inr (fun q => e (h.apart x c b hq q.symm)))
      refine (h1.kept hg2 ?_).mono (by omega)
      cases hq : M x with
      | none => exact .inl rfl
      | some b => exact .inr (fun q => h.off x b hq (by injection q))
  · by_cases e : x = c
    · simp [e] at hx
    · simp [e] at hx ⊢
      exact h.nom x hx
  · by_cases e : x = c
    · by_cases e' : y = c
      · rw [e, e']
      · simp [e] at hx
        simp [e'] at hy
        rcases hm with q | ⟨_, b', q, hlt⟩
        · rw [q] at hx; rw [e]; exact h.apart c y b hx hy
        · rw [q] at hx
          have hx' : b' = b := Option.some.inj hx
          exact absurd (h.inLt hy).1 (by rw [← hx']; exact Nat.not_lt.2 hlt)
    · by_cases e' : y = c
      · simp [e] at hx
        simp [e'] at hy
        rcases hm with q | ⟨_, b', q, hlt⟩
        · rw [q] at hy; rw [e']; exact h.apart x c b hx hy
        · rw [q] at hy
          have hy' : b' = b := Option.some.inj hy
          exact absurd (h.inLt hx).1 (by rw [← hy']; exact Nat.not_lt.2 hlt)
      · simp [e] at hx
        simp [e'] at hy
        exact h.apart x y b hx hy
  · by_cases e : x = c
    · simp [e] at hx; exact hmB b hx
    · simp [e] at hx; exact h.off x b hx
  · by_cases e : x = c
    · rw [e]; exact hc
    · simp [e] at hk; exact h.ok x kx hk
end Go.Proofs.Ytnncedndlhfdkac

/-
  impl.appendEntries: what a column leaves, appended.
-/
namespace Go.Proofs.Ytnncedndlhfdkac
open Go.ChangeShapes Go.WideShapes Go.ChangeAt Go.RowKit Go.Deep Go.Maps
set_option linter.unusedVariables false
set_option maxRecDepth 100000

/-- One entry appended to a row of the call's own: and where the row then lies. -/
theorem wpList_append_entAt {ops : Array Oper} {rest : List Oper} {o : Oper} {a : Act} {Q : Exit → Act → World → Prop} (w : World) (hgd : o.guard = none) (s x : Operand)
    (ho : o.op = .call { callee := .builtin .append, args := #[s, x], argTypes := #[38, 38] })
    (base g cp n blk : Nat) (fs : List Ent) (e : Ent) (hs : a.eval s = .slice (some ⟨g, 0, none⟩) n cp) (hx : a.eval x = .slice (some ⟨blk, 0, none⟩) 1 1) (hn : n = fs.length) (hO : OwnE w base g cp fs)
    (hc : EntsAt w blk 0 [e]) (hlen : fs.length ≤ 2 ^ 30) (hbase : base ≤ w.heap.size)
    (h : ∀ g' cp' w', OwnE w' base g' cp' (fs ++ [e]) → w.grownBy w' (some g) → (g' = g ∨ g' = w.heap.size) → wpList Try.prog ops Q rest (a.put o.dst (.slice (some ⟨g', 0, none⟩) (n + 1) cp')) w') : wpList Try.prog ops Q (o :: rest) a w := by
  obtain ⟨i, hi, hz0, hz1, hz2⟩ := info_parts Try.infoEnt
  subst hn
  obtain ⟨c0, c1, c2, c3, c4, c5⟩ := hc 0 e rfl
  refine wpList_append_own_at w hgd s x 38 ho base 63 i _ 6 80 Try.underlying38 hi hz0 hz1 hz2 rfl (by decide) (.slice (some ⟨g, 0, none⟩) fs.length cp) fs.length (cellsE fs) hs hO ⟨blk, 0, none⟩ 1 1 (cellsE [e]) hx rfl ?_ ?_ ?_ ?_ hbase ?_
  · intro j u hu
    have hj : j < 6 := by
      have := (List.getElem?_eq_some_iff.1 hu).1
      rw [length_cellsE] at this
      simpa using this
    rw [Addr.add_mid, Nat.zero_add]
    simp only [Nat.zero_mul, Nat.zero_add] at c0 c1 c2 c3 c4 c5
    match j, hj, hu with
    | 0, _, hu => simp [cellsE] at hu; rw [← hu]; exact c0
    | 1, _, hu => simp [cellsE] at hu; rw [← hu]; exact c1
    | 2, _, hu => simp [cellsE] at hu; rw [← hu]; exact c2
    | 3, _, hu => simp [cellsE] at hu; rw [← hu]; exact c3
    | 4, _, hu => simp [cellsE] at hu; rw [← hu]; exact c4
    | 5, _, hu => simp [cellsE] at hu; rw [← hu]; exact c5
  · intro u hu
    simp [cellsE] at hu
    rcases hu with rfl | rfl | rfl | rfl | rfl | rfl <;> rfl
  · unfold maxLen; omega
  · omega
  · intro v' w' hown hgr hnil hloc
    rw [← cellsE_append] at hown
    have hlen' : (fs ++ [e]).length = fs.length + 1 := by simp
    rcases hown.2 with ⟨hv, _⟩ | ⟨g', cap', cur, hv, h1, h2, h3⟩
    · have := (hnil.1 hv).1
      simp at this
    · subst hv
      refine h g' cap' w' (by unfold OwnE; rw [hlen']; exact hown) hgr ?_
      rcases hloc with q | q
      · exact .inl (Option.some.inj q)
      · exact .inr (Option.some.inj q)

theorem OwnE.kept {w w' : World} {base g cp : Nat} {fs : List Ent} {row : Option Nat} (h : OwnE w base g cp fs) (hg : w.grownBy w' row) (hne : some g ≠ row) : OwnE w' base g cp fs :=
  World.ownsRow.kept h hg (.inr hne)
theorem OwnE.ne_map {w : World} {base g cp b : Nat} {fs : List Ent} {es : Array MapEntry} {ck : Nat} (h : OwnE w base g cp fs) (hb : w.heap[b]? = some (.map es ck)) : g ≠ b := by
  rcases h.2 with ⟨h0, _⟩ | ⟨g', cap', cur, hv, _, hc, _⟩
  · cases h0
  · simp only [Value.slice.injEq, Option.some.injEq, Addr.mk.injEq, and_true, true_and] at hv
    obtain ⟨rfl, rfl⟩ := hv
    intro q
    rw [q, hb] at hc
    cases hc

/-- The delete that a column's state tells. -/
def delE (c : Col) (u : Int) : Ent := ⟨c.1, c.2.1, c.2.2, u, 2, ⟨#[]⟩⟩
def del0 (d : Bool) (c : Col) (u : Int) : List Ent := if d = true then [delE c u] else []

set_option maxHeartbeats 4000000 in
set_option maxRecDepth 100000 in
theorem appendE_none (d : Bool) (u : Int) (c : Col) (base g cp : Nat) (fs : List Ent) (w : World) (hO : OwnE w base g cp fs) (hlen : fs.length ≤ 2 ^ 28) (hbase : base ≤ w.heap.size) :
    Calls Try.prog 69 #[.agg #[.bool d, .int .u64 u, .map none], .slice (some ⟨g, 0, none⟩) fs.length cp, c.v] w fun r w' =>
      ∃ g' cp', r = .returned (.slice (some ⟨g', 0, none⟩) (fs ++ del0 d c u).length cp') ∧ OwnE w' base g' cp' (fs ++ del0 d c u) ∧ w.grownBy w' (some g) ∧ (g' = g ∨ w.heap.size ≤ g') := by
  have hg := hO.lt
  have HO : Hid (OwnE w base g cp fs) := hO
  clear hO
  obtain ⟨r, f, q⟩ := c
  unfold Col.v colV
  simp only
  cases d
  · have hrg := run_range_nilMap (P := Try.prog) ((w.alloc (Obj.cells #[.bool false, .int .u64 u, .map none] 109)).alloc (Obj.cells #[.string r, .string f, .string q] 73)) 107 _ _ Try.underlying107
    have hnx : ∀ ty, (Instr.next (.pointer (some ⟨((w.alloc (Obj.cells #[.bool false, .int .u64 u, .map none] 109)).alloc (Obj.cells #[.string r, .string f, .string q] 73)).heap.size, 0, none⟩)) false ty).run Try.prog (((w.alloc (Obj.cells #[.bool false, .int .u64 u, .map none] 109)).alloc (Obj.cells #[.string r, .string f, .string q] 73)).alloc (.mapIter none 0 #[] 0)) = _ := fun ty => run_next_nilMap _ ty 0 0 #[]
    have e1 : ((w.alloc (Obj.cells #[.bool false, .int .u64 u, .map none] 109)).alloc (Obj.cells #[.string r, .string f, .string q] 73)).heap.size = w.heap.size + 1 + 1 := by simp
    rw [e1] at hrg hnx
    clear e1
    go_enter Try.func69, Try.ntmps69
    go_wp2_with fail
    go_loopw [1] (fun s wr => s = .slice (some ⟨g, 0, none⟩) fs.length cp ∧ wr = (((w.alloc (Obj.cells #[.bool false, .int .u64 u, .map none] 109)).alloc (Obj.cells #[.string r, .string f, .string q] 73)).alloc (.mapIter none 0 #[] 0))) (fun _ _ => 0)
    case atStart => exact ⟨rfl, rfl⟩
    case round =>
      obtain ⟨rfl, rfl⟩ := hrel
      go_wp2_with fail
      go_ret
      have hb : Below w.heap.size w (((w.alloc (Obj.cells #[.bool false, .int .u64 u, .map none] 109)).alloc (Obj.cells #[.string r, .string f, .string q] 73)).alloc (.mapIter none 0 #[] 0)) := (((Below.refl _ _).alloc (Nat.le_refl _) _).alloc (by simp) _).alloc (by simp; omega) _
      refine ⟨g, cp, by simp [del0], ?_, grown_of_below hb _, .inl rfl⟩
      simp only [del0, List.append_nil, Bool.false_eq_true, if_false]
      exact HO.out.below hb hg.2
  · have hrg : ∀ W : World, (Instr.range 107 (.map none)).run Try.prog W = .ok (.pointer (some ⟨W.heap.size, 0, none⟩)) (W.alloc (.mapIter none 0 #[] 0)) := fun W => run_range_nilMap (P := Try.prog) W 107 _ _ Try.underlying107
    have hnx : ∀ (W : World) ty, (Instr.next (.pointer (some ⟨W.heap.size, 0, none⟩)) false ty).run Try.prog (W.alloc (.mapIter none 0 #[] 0)) = .ok (.tuple #[.bool false]) (W.alloc (.mapIter none 0 #[] 0)) := fun W ty => run_next_nilMap W ty 0 0 #[]
    go_enter Try.func69, Try.ntmps69
    go_wp2_with (at_builtin; refine wpList_append_entAt _ rfl _ _ rfl base g cp _ _ fs (delE (r, f, q) u) rfl rfl rfl ?hO ?hc ?hl ?hb ?_)
    case hO => exact HO.out.below ((((Below.refl _ _).alloc (Nat.le_refl _) _).alloc (by simp) _).alloc (by simp; omega) _) hg.2
    case hc =>
      have h := ent_new ((w.alloc (Obj.cells #[.bool true, .int .u64 u, .map none] 109)).alloc (Obj.cells #[.string r, .string f, .string q] 73)) (delE (r, f, q) u)
      simpa [delE] using h
    case hl => omega
    case hb => simp; omega
    intro g' cp' w' hO' hgr hloc
    have hb3 : Below w.heap.size w (((w.alloc (Obj.cells #[.bool true, .int .u64 u, .map none] 109)).alloc (Obj.cells #[.string r, .string f, .string q] 73)).alloc (Obj.cells #[.string r, .string f, .string q, .int .u64 u, .int .i64 2, .string ⟨#[]⟩] 63)) := (((Below.refl _ _).alloc (Nat.le_refl _) _).alloc (by simp) _).alloc (by simp; omega) _
    have c2 : w'.cell? ⟨w.heap.size, 2, none⟩ = some (.map none) := by
      have hk := hgr.block w.heap.size (by simp; omega) (fun q => by injection q; omega)
      rw [World.cell?_of_block (a := ⟨w.heap.size, 2, none⟩) hk]
      go_simp
    have hgw : w.grownBy w' (some g) := ⟨hgr.os.trans hb3.os, hgr.tape.trans hb3.tape, hgr.output.trans hb3.output, Nat.le_trans hb3.size hgr.size, fun j hj hne => (hgr.block j (by simp; omega) hne).trans (hb3.block j hj)⟩
    have HO' : Hid (OwnE w' base g' cp' (fs ++ [delE (r, f, q) u]) ∧ w.grownBy w' (some g) ∧ (g' = g ∨ w.heap.size ≤ g')) := ⟨hO', hgw, hloc.imp id (fun q => by first | omega | (rw [q]; omega) | (rw [q]; simp; omega))⟩
    clear hO' hgr hloc hb3 hgw
    go_wp2_with fail
    go_loopw [1] (fun s wr => s = .slice (some ⟨g', 0, none⟩) (fs.length + 1) cp' ∧ wr = w'.alloc (.mapIter none 0 #[] 0)) (fun _ _ => 0)
    case atStart => exact ⟨rfl, rfl⟩
    case round =>
      obtain ⟨rfl, rfl⟩ := hrel
      go_wp2_with fail
      go_ret
      have hb : Below w'.heap.size w' (w'.alloc (.mapIter none 0 #[] 0)) := (Below.refl _ _).alloc (Nat.le_refl _) _
      refine ⟨g', cp', by simp [del0], ?_, HO'.out.2.1.trans (grown_of_below hb _), HO'.out.2.2⟩
      simp only [del0, if_true]
      exact HO'.out.1.below hb HO'.out.1.lt.2

/-- The entries that a map from timestamps holds. -/
def Holds6 (F : Int → Option Ent) (S : List Ent) : Prop := (∀ x, x ∈ S ↔ ∃ t, (Lit.int .u64 t).wf = true ∧ F t = some x) ∧ S.Nodup
def HoldsTo (F : Int → Option Ent) (left : Lit → Bool) (S : List Ent) : Prop := (∀ x, x ∈ S ↔ ∃ t, (Lit.int .u64 t).wf = true ∧ F t = some x ∧ left (.int .u64 t) = false) ∧ S.Nodup
theorem holdsTo_step {F : Int → Option Ent} {left : Lit → Bool} {S : List Ent} {t : Int} {e : Ent} (h : HoldsTo F left S) (hts : ∀ t e, F t = some e → e.ts = t) (hw : (Lit.int .u64 t).wf = true) (he : F t = some e) (hl : left (.int .u64 t) = true) :
    HoldsTo F (fun z => left z && !z.sameKey (.int .u64 t)) (S ++ [e]) := by
  have hkey : WideAt.IsKeyLit (.int .u64 t) := lawTs.key (keyTs hw)
  have hne : e ∉ S := fun hm => by
    obtain ⟨t', h1, h2, h3⟩ := (h.1 e).1 hm
    have : t' = t := (hts t' e h2).symm.trans (hts t e he)
    subst this
    rw [hl] at h3
    cases h3
  refine ⟨fun x => ?_, ?_⟩
  · rw [List.mem_append, h.1 x]
    constructor
    · rintro (⟨t', h1, h2, h3⟩ | hx)
      · exact ⟨t', h1, h2, by simp [h3]⟩
      · simp at hx
        subst hx
        exact ⟨t, hw, he, by simp [Lit.sameKey]⟩
    · rintro ⟨t', h1, h2, h3⟩
      by_cases q : t' = t
      · subst q
        rw [he] at h2
        simp at h2
        right; simp [h2]
      · left
        have hs : (Lit.int .u64 t').sameKey (.int .u64 t) = false := Maps.sameKey_ne (fun e => q (by injection e))
        refine ⟨t', h1, h2, ?_⟩
        simpa [hs] using h3
  · rw [List.nodup_append]
    exact ⟨h.2, by simp, fun a ha b hb => by simp at hb; subst hb; exact fun q => hne (q ▸ ha)⟩

set_option maxHeartbeats 4000000 in
set_option maxRecDepth 100000 in
theorem appendE_some (d : Bool) (u : Int) (c : Col) (b n base g cp : Nat) (F : Int → Option Ent) (fs : List Ent) (w : World) (hI : Inn w b n F) (hts : ∀ t e, F t = some e → e.ts = t) (hO : OwnE w base g cp fs) (hlen : fs.length ≤ 2 ^ 28) (hn : n ≤ 2 ^ 20) (hbase : base ≤ w.heap.size) :
    Calls Try.prog 69 #[.agg #[.bool d, .int .u64 u, .map (some b)], .slice (some ⟨g, 0, none⟩) fs.length cp, c.v] w fun r w' =>
      ∃ g' cp' S, r = .returned (.slice (some ⟨g', 0, none⟩) (fs ++ del0 d c u ++ S).length cp') ∧ OwnE w' base g' cp' (fs ++ del0 d c u ++ S) ∧ Holds6 F S ∧ w.grownBy w' (some g) ∧ (g' = g ∨ w.heap.size ≤ g') ∧ S.length ≤ n := by
  have hg := hO.lt
  have hbl := hI.lt
  have HO : Hid (OwnE w base g cp fs ∧ Inn w b n F ∧ ∀ t e, F t = some e → e.ts = t) := ⟨hO, hI, hts⟩
  have hgb : g ≠ b := by
    obtain ⟨D, ⟨es, ck, hh, _⟩, _⟩ := hI
    exact hO.ne_map hh
  clear hO hI hts
  obtain ⟨r, f, q⟩ := c
  unfold Col.v colV
  simp only
  go_enter Try.func69, Try.ntmps69
  go_upto_if 10 with fail
  go_cut [1] (fun s wx => ∃ g1 cp1, s = .slice (some ⟨g1, 0, none⟩) (fs ++ del0 d (r, f, q) u).length cp1 ∧ OwnE wx base g1 cp1 (fs ++ del0 d (r, f, q) u) ∧ w.grownBy wx (some g) ∧ (g1 = g ∨ w.heap.size ≤ g1) ∧ wx.cell? ⟨w.heap.size, 2, none⟩ = some (.map (some b)) ∧ w.heap.size + 2 ≤ wx.heap.size)
  case first =>
    cases d
    · go_wp2_with fail
      go_meet
      have hb2 : Below w.heap.size w ((w.alloc (Obj.cells #[.bool false, .int .u64 u, .map (some b)] 109)).alloc (Obj.cells #[.string r, .string f, .string q] 73)) := ((Below.refl _ _).alloc (Nat.le_refl _) _).alloc (by simp) _
      refine ⟨g, cp, by simp [del0], ?_, grown_of_below hb2 _, .inl rfl, by go_simp, by simp⟩
      simp only [del0, List.append_nil, Bool.false_eq_true, if_false]
      exact HO.out.1.below hb2 hg.2
    · go_wp2_with (at_builtin; refine wpList_append_entAt _ rfl _ _ rfl base g cp _ _ fs (delE (r, f, q) u) rfl rfl rfl ?hO ?hc ?hl ?hb ?_)
      case hO => exact HO.out.1.below ((((Below.refl _ _).alloc (Nat.le_refl _) _).alloc (by simp) _).alloc (by simp; omega) _) hg.2
      case hc =>
        have h := ent_new ((w.alloc (Obj.cells #[.bool true, .int .u64 u, .map (some b)] 109)).alloc (Obj.cells #[.string r, .string f, .string q] 73)) (delE (r, f, q) u)
        simpa [delE] using h
      case hl => omega
      case hb => simp; omega
      intro g' cp' w' hO' hgr hloc
      have hb3 : Below w.heap.size w (((w.alloc (Obj.cells #[.bool true, .int .u64 u, .map (some b)] 109)).alloc (Obj.cells #[.string r, .string f, .string q] 73)).alloc (Obj.cells #[.string r, .string f, .string q, .int .u64 u, .int .i64 2, .string ⟨#[]⟩] 63)) := (((Below.refl _ _).alloc (Nat.le_refl _) _).alloc (by simp) _).alloc (by simp; omega) _
      have c2 : w'.cell? ⟨w.heap.size, 2, none⟩ = some (.map (some b)) := by
        have hk := hgr.block w.heap.size (by simp; omega) (fun q => by injection q; omega)
        rw [World.cell?_of_block (a := ⟨w.heap.size, 2, none⟩) hk]
        go_simp
      have hgw : w.grownBy w' (some g) := ⟨hgr.os.trans hb3.os, hgr.tape.trans hb3.tape, hgr.output.trans hb3.output, Nat.le_trans hb3.size hgr.size, fun j hj hne => (hgr.block j (by simp; omega) hne).trans (hb3.block j hj)⟩
      have HO' : Hid (OwnE w' base g' cp' (fs ++ [delE (r, f, q) u]) ∧ w.grownBy w' (some g) ∧ (g' = g ∨ w.heap.size ≤ g') ∧ w.heap.size + 2 ≤ w'.heap.size) := ⟨hO', hgw, hloc.imp id (fun q => by first | omega | (rw [q]; omega) | (rw [q]; simp; omega)), by have := hgr.size; simp at this; omega⟩
      clear hO' hgr hloc hb3 hgw
      go_wp2_with fail
      go_meet
      refine ⟨g', cp', by simp [del0], ?_, HO'.out.2.1, HO'.out.2.2.1, c2, HO'.out.2.2.2⟩
      simp only [del0, if_true]
      exact HO'.out.1
  case rest =>
  obtain ⟨g1, cp1, rfl, hO1, hgw, hloc, c2, hsz⟩ := hcut
  obtain ⟨D, hD, hv⟩ := HO.out.2.1.kept hgw (fun q => hgb (Option.some.inj q).symm)
  obtain ⟨fs1, hfs1⟩ : ∃ fs1 : List Ent, fs1 = fs ++ del0 d (r, f, q) u := ⟨_, rfl⟩
  rw [← hfs1] at hO1 ⊢
  have hfl : fs1.length ≤ 2 ^ 28 + 1 := by
    rw [hfs1]; unfold del0; split <;> simp <;> omega
  have HO1 : Hid (OwnE wc base g1 cp1 fs1 ∧ w.grownBy wc (some g) ∧ (g1 = g ∨ w.heap.size ≤ g1)) := ⟨hO1, hgw, hloc⟩
  have HV : Hid (∀ t, (Lit.int .u64 t).wf = true → (F t = none ∧ Maps.has D (.int .u64 t) = false) ∨ ∃ e, F t = some e ∧ Maps.has D (.int .u64 t) = true ∧ ∀ z, D.atKey (.int .u64 t) z = .held e.v) := hv
  have hsd := hD.size_le
  have hbw := hD.lt
  have HFS : Hid (fs1 = fs ++ del0 d (r, f, q) u) := hfs1
  have hg1 := hO1.lt
  have hgs := hgw.size
  clear hv hfs1 hO1 hgw hloc
  go_wp2_with (at_range; refine wpList_range_own _ rfl _ 107 rfl 61 63 lawTs Try.underlying107 Rh b n D rfl hD ?_; intro w0 hrg0 hg0 hs0)
  go_frame
  have HS0 : Hid (HoldsTo F (Maps.has D) []) := by
    refine ⟨fun x => ⟨fun h => by simp at h, ?_⟩, List.nodup_nil⟩
    rintro ⟨t, h1, h2, h3⟩
    rcases HV.out t h1 with ⟨q1, _⟩ | ⟨e, _, q2, _⟩
    · rw [q1] at h2; cases h2
    · rw [q2] at h3; cases h3
  have hgb1 : g1 ≠ b := by
    obtain ⟨es, ck, hh, _⟩ := hD
    exact HO1.out.1.ne_map hh
  go_loopw [1] (fun s wr => ∃ (left : Lit → Bool) (cnt : Nat) (S : List Ent) (g2 cp2 : Nat), s = .slice (some ⟨g2, 0, none⟩) (fs1.length + S.length) cp2 ∧ OwnE wr base g2 cp2 (fs1 ++ S) ∧ wr.ranges Try.prog 61 Rh b wc.heap.size n D left cnt ∧ HoldsTo F left S ∧ S.length + cnt ≤ n ∧ w.grownBy wr (some g) ∧ (g2 = g ∨ w.heap.size ≤ g2) ∧ g2 ≠ b ∧ g2 ≠ wc.heap.size) (fun _ wr => wr.rangeLeft b wc.heap.size)
  case atStart =>
    exact ⟨Maps.has D, Maps.size D, [], g1, cp1, by simp, by rw [List.append_nil]; exact HO1.out.1.kept hg0 (by simp), hrg0, HS0.out, by simpa using hsd, HO1.out.2.1.trans (hg0.but _), HO1.out.2.2, hgb1, by omega⟩
  case round =>
    obtain ⟨left, cnt, S, g2, cp2, rfl, hO2, hrg, hH, hcn, hgr2, hloc2, hne1, hne2⟩ := hrel
    have HR : Hid (OwnE wr base g2 cp2 (fs1 ++ S) ∧ HoldsTo F left S ∧ w.grownBy wr (some g) ∧ (g2 = g ∨ w.heap.size ≤ g2)) := ⟨hO2, hH, hgr2, hloc2⟩
    have hg2 := hO2.lt
    have hs2 := hgr2.size
    have hrl := hrg.lt
    clear hO2 hH hgr2 hloc2
    go_wp2_with (at_next; refine wpList_next_ranges _ rfl _ rfl 61 lawTs Rh (fun t : Int => Value.int .u64 t) (fun v : Value => v) (fun key kl h => by obtain ⟨x, h1, _⟩ := Maps.keyOf_int_inv Try.underlying61 h; exact ⟨x, h1⟩) (fun v y _ => ⟨v, rfl⟩) b wc.heap.size n D left cnt rfl hrg ?_ ?_)
    · intro h0 hl
      have HL : Hid (∀ kl, left kl = false) := hl
      clear hl
      go_wp2_with fail
      go_ret
      refine ⟨g2, cp2, S, ?_, ?_, ?_, HR.out.2.2.1, HR.out.2.2.2, by omega⟩
      · rw [← HFS.out, List.length_append]; rfl
      · rw [← HFS.out]; exact HR.out.1
      · refine ⟨fun x => (HR.out.2.1.1 x).trans ⟨fun ⟨t, a1, a2, _⟩ => ⟨t, a1, a2⟩, fun ⟨t, a1, a2⟩ => ⟨t, a1, a2, HL.out _⟩⟩, HR.out.2.1.2⟩
    · intro x c kl y1 y2 w1 cnt1 hkey hlk hvv hat hrg1 hlt1 hg1' hs1 hen
      obtain ⟨x', q1, q2, q3⟩ := Maps.keyOf_int_inv Try.underlying61 hkey
      have q4 : x' = x := by injection q1 with _ q; exact q.symm
      subst q4
      subst q2
      obtain ⟨e, he, hce⟩ : ∃ e, F x' = some e ∧ c = e.v := by
        rcases HV.out x' q3 with ⟨_, h2⟩ | ⟨e, h1, h2, h3⟩
        · have := hat (.held (.bool true))
          rw [Maps.atKey_of_not_has h2] at this
          have h5 := hat (.held (.bool false))
          rw [Maps.atKey_of_not_has h2] at h5
          rw [← h5] at this
          cases this
        · refine ⟨e, h1, ?_⟩
          have h4 := hat (.held (.bool true))
          rw [h3] at h4
          have h5 := (Rh_eq hvv).1
          rw [h5] at h4
          injection h4 with h4
          exact h4.symm
      subst hce
      have HE : Hid (F x' = some e ∧ (Lit.int .u64 x').wf = true ∧ left (.int .u64 x') = true) := ⟨he, q3, hlk⟩
      clear he q3 hlk hat hvv hkey q1
      unfold Ent.v at *
      have HO3 : Hid (OwnE w1 base g2 cp2 (fs1 ++ S)) := HR.out.1.kept hg1' (fun q => hne2 (Option.some.inj q))
      have hs1' : w1.heap.size = wr.heap.size := hs1
      have HS1 : Hid (w1.heap.size = wr.heap.size) := hs1'
      have hle1 : wr.heap.size ≤ w1.heap.size := by omega
      have hle2 : w1.heap.size ≤ wr.heap.size := by omega
      have HG1 : Hid (wr.grownBy w1 (some wc.heap.size)) := hg1'
      clear hs1 hs1' hg1'
      go_wp2_with (at_builtin; refine wpList_append_entAt _ rfl _ _ rfl base g2 cp2 _ _ (fs1 ++ S) e rfl rfl (by simp) ?hO ?hc ?hl ?hb ?_)
      case hO => exact HO3.out.below (((Below.refl _ _).alloc (Nat.le_refl _) _).alloc (by simp) _) (by omega)
      case hc =>
        have h := ent_new (w1.alloc (Obj.cells #[.string e.row, .string e.fam, .string e.qual, .int .u64 e.ts, .int .i64 e.kind, .string e.val] 63)) e
        simpa using h
      case hl => simp; omega
      case hb => simp; omega
      intro g' cp' w' hO' hgr hloc
      have hbx : Below w1.heap.size w1 ((w1.alloc (Obj.cells #[.string e.row, .string e.fam, .string e.qual, .int .u64 e.ts, .int .i64 e.kind, .string e.val] 63)).alloc (Obj.cells #[.string e.row, .string e.fam, .string e.qual, .int .u64 e.ts, .int .i64 e.kind, .string e.val] 63)) := ((Below.refl _ _).alloc (Nat.le_refl _) _).alloc (by simp) _
      have hg4 : w1.grownBy w' (some g2) := ⟨hgr.os.trans hbx.os, hgr.tape.trans hbx.tape, hgr.output.trans hbx.output, Nat.le_trans hbx.size hgr.size, fun j hj hne => (hgr.block j (by simp; omega) hne).trans (hbx.block j hj)⟩
      have hrg4 := hrg1.kept hg4 (fun q => hne1 (Option.some.inj q).symm) (fun q => hne2 (Option.some.inj q).symm)
      have hgw' : w.grownBy w' (some g) := by
        have a1 := HR.out.2.2.1.andThen HG1.out (fun j hj => by cases hj; left; omega)
        exact a1.andThen hg4 (fun j hj => by
          cases hj
          rcases HR.out.2.2.2 with q | q
          · right; rw [q]
          · left; exact q)
      have hloc' : g' = g ∨ w.heap.size ≤ g' := by
        rcases hloc with q | q
        · rw [q]; exact HR.out.2.2.2
        · right
          first
            | omega
            | (rw [q]; simp; omega)
      have hne1' : g' ≠ b := by
        obtain ⟨es, ck, hh, _⟩ := hrg4.owns
        exact hO'.ne_map hh
      have hne2' : g' ≠ wc.heap.size := by
        rcases hloc with q | q
        · rw [q]; exact hne2
        · intro q2
          have h5 := q.symm.trans q2
          first
            | omega
            | (simp at h5; omega)
      have HF : Hid (OwnE w' base g' cp' (fs1 ++ (S ++ [e])) ∧ HoldsTo F (fun z => left z && !z.sameKey (.int .u64 x')) (S ++ [e]) ∧ w.grownBy w' (some g) ∧ (g' = g ∨ w.heap.size ≤ g')) := ⟨hO', holdsTo_step HR.out.2.1 HO.out.2.2 HE.out.2.1 HE.out.1 HE.out.2.2, hgw', hloc'⟩
      clear hO' hgr hloc hbx hg4 hgw' hloc' hrg1 hen
      go_wp2_with fail
      go_roundw
      case rel =>
        refine ⟨_, cnt1, S ++ [e], g', cp', ?_, ?_, hrg4, HF.out.2.1, ?_, HF.out.2.2.1, HF.out.2.2.2, hne1', hne2'⟩
        · simp; omega
        · exact HF.out.1
        · simp; omega
      case measure => rw [hrg4.left_eq, hrg.left_eq]; exact hlt1
end Go.Proofs.Ytnncedndlhfdkac

/-
  The put of a cell; spec.l3Puts.
-/
namespace Go.Proofs.Ytnncedndlhfdkac
open Go.ChangeShapes Go.WideShapes Go.ChangeAt Go.RowKit Go.Deep
set_option linter.unusedVariables false
set_option linter.unusedSimpArgs false
set_option maxRecDepth 100000

theorem ent_boxP (w : World) (e : Ent) : EntsAt (w.alloc (Obj.cells #[.string e.row, .string e.fam, .string e.qual, .int .u64 e.ts, .int .i64 e.kind, .string e.val] 63)) w.heap.size 0 [e] := by
  intro j y hy
  obtain rfl : j = 0 := by
    have := (List.getElem?_eq_some_iff.1 hy).1
    simpa using this
  simp at hy
  subst hy
  simp
/-- The put of a cell. -/
def putE (x : Ent) : Ent := { x with kind := 0 }
set_option maxHeartbeats 400000 in
theorem specPut_any (e : Ent) (w : World) :
    Calls Try.prog 81 #[.agg #[.string e.row, .string e.fam, .string e.qual, .int .u64 e.ts, .string e.val]] w fun r w' => r = .returned (putE e).v ∧ Below w.heap.size w w' := by
  go_enter Try.func81, Try.ntmps81
  go_wp2
  refine bodyPost_ret (v := (putE e).v) (by simp [results, Try.results81, go_sem, putE]) rfl ⟨rfl, ?_⟩
  exact ((Below.refl _ _).alloc (Nat.le_refl _) _).alloc (by simp) _
set_option maxHeartbeats 400000 in
theorem implPut_any (e : Ent) (w : World) :
    Calls Try.prog 49 #[.agg #[.string e.row, .string e.fam, .string e.qual, .int .u64 e.ts, .string e.val]] w fun r w' => r = .returned (putE e).v ∧ Below w.heap.size w w' := by
  go_enter Try.func49, Try.ntmps49
  go_wp2
  refine bodyPost_ret (v := (putE e).v) (by simp [results, Try.results49, go_sem, putE]) rfl ⟨rfl, ?_⟩
  exact ((Below.refl _ _).alloc (Nat.le_refl _) _).alloc (by simp) _

/-- One entry appended, at a step of a region that draws. -/
theorem step_append_ent {ops : Array Oper} {o : Oper} {a : Act} {K : Act → World → Prop} {Q : Exit → Act → World → Prop} {E : Prop} (w : World) (hgd : o.guard = none) (s x : Operand)
    (ho : o.op = .call { callee := .builtin .append, args := #[s, x], argTypes := #[38, 38] })
    (base g cp n blk : Nat) (fs : List Ent) (e : Ent) (hn : n = fs.length) (hs : a.eval s = .slice (some ⟨g, 0, none⟩) n cp) (hx : a.eval x = .slice (some ⟨blk, 0, none⟩) 1 1) (hO : OwnE w base g cp fs)
    (hc : EntsAt w blk 0 [e]) (hlen : fs.length ≤ 2 ^ 30) (hbase : base ≤ w.heap.size)
    (h : ∀ g' cp' w', OwnE w' base g' cp' (fs ++ [e]) → w.grownBy w' (some g) → (g = g' ∨ g' = w.heap.size) → K (a.put o.dst (.slice (some ⟨g', 0, none⟩) (n + 1) cp')) w') : if Region.wanted o (yielded ops a.tmps) = true then Oper.wp Try.prog o a w K Q else E := by
  subst hn
  obtain ⟨i, hi, hz0, hz1, hz2⟩ := info_parts Try.infoEnt
  obtain ⟨c0, c1, c2, c3, c4, c5⟩ := hc 0 e rfl
  refine step_append_lies w hgd s x 38 ho base 63 i _ 6 80 Try.underlying38 hi hz0 hz1 hz2 rfl (by decide) (.slice (some ⟨g, 0, none⟩) fs.length cp) fs.length (cellsE fs) hs hO ⟨blk, 0, none⟩ 1 1 (cellsE [e]) hx rfl ?_ ?_ (by decide) ?_ ?_ hbase w.heap.size rfl ?_
  · intro j u hu
    have hj : j < 6 := by
      have := (List.getElem?_eq_some_iff.1 hu).1
      rw [length_cellsE] at this
      simpa using this
    rw [Addr.add_mid, Nat.zero_add]
    simp only [Nat.zero_mul, Nat.zero_add] at c0 c1 c2 c3 c4 c5
    match j, hj, hu with
    | 0, _, hu => simp [cellsE] at hu; rw [← hu]; exact c0
    | 1, _, hu => simp [cellsE] at hu; rw [← hu]; exact c1
    | 2, _, hu => simp [cellsE] at hu; rw [← hu]; exact c2
    | 3, _, hu => simp [cellsE] at hu; rw [← hu]; exact c3
    | 4, _, hu => simp [cellsE] at hu; rw [← hu]; exact c4
    | 5, _, hu => simp [cellsE] at hu; rw [← hu]; exact c5
  · intro u hu
    simp [cellsE] at hu
    rcases hu with rfl | rfl | rfl | rfl | rfl | rfl <;> rfl
  · unfold maxLen; omega
  · omega
  · intro g' cp' w' hO' hgr hat hlt
    refine h g' cp' w' ?_ hgr ?_
    · unfold OwnE
      rw [List.length_append, cellsE_append]
      exact hO'
    · rcases hat with q | q
      · exact .inl (by simpa [Value.ownBlock] using q)
      · exact .inr q
def putsTo (L : List Ent) (m : Nat) : List Ent := (L.take m).map putE
theorem putsTo_succ {L : List Ent} {m : Nat} {x : Ent} (h : L[m]? = some x) : putsTo L (m + 1) = putsTo L m ++ [putE x] := by
  unfold putsTo; rw [List.take_add_one, h]; simp
theorem putsTo_len {L : List Ent} {m : Nat} (h : m ≤ L.length) : (putsTo L m).length = m := by simp [putsTo]; omega
theorem putsTo_all {L : List Ent} {m : Nat} (h : L.length ≤ m) : putsTo L m = L.map putE := by unfold putsTo; rw [List.take_of_length_le h]

/-- How the putting stands. -/
structure PInv (w : World) (ov : Nat) (L : List Ent) (m g5 cp5 : Nat) (wr : World) : Prop where
  hdr : wr.cell? ⟨ov, 0, none⟩ = some (.slice (some ⟨g5, 0, none⟩) m cp5)
  free : wr.frozen? ⟨ov, 0, none⟩ = false
  lt : ov < wr.heap.size
  own : w.heap.size < ov
  row : OwnE wr w.heap.size g5 cp5 (putsTo L m)
  ne : ¬ g5 = ov
  new : w.heap.size < g5
  res : wr.cell? ⟨w.heap.size, 0, none⟩ = some (.slice none 0 0)
  rfree : wr.frozen? ⟨w.heap.size, 0, none⟩ = false
  below : Below w.heap.size w wr
theorem PInv.step {w : World} {ov : Nat} {L : List Ent} {m g5 cp5 : Nat} {wr w' : World} (h : PInv w ov L m g5 cp5 wr) (hb : Below wr.heap.size wr w') : PInv w ov L m g5 cp5 w' where
  hdr := by rw [hb.cell (p := ⟨ov, 0, none⟩) h.lt]; exact h.hdr
  free := by rw [hb.frozen (p := ⟨ov, 0, none⟩) h.lt]; exact h.free
  lt := by have := hb.size; have := h.lt; omega
  own := h.own
  row := h.row.below hb h.row.lt.2
  ne := h.ne
  new := h.new
  res := by rw [hb.cell (p := ⟨w.heap.size, 0, none⟩) (by have := h.own; have := h.lt; show w.heap.size < wr.heap.size; omega)]; exact h.res
  rfree := by rw [hb.frozen (p := ⟨w.heap.size, 0, none⟩) (by have := h.own; have := h.lt; show w.heap.size < wr.heap.size; omega)]; exact h.rfree
  below := h.below.trans (hb.mono h.below.size)
theorem PInv.push {w : World} {ov : Nat} {L : List Ent} {m g5 cp5 : Nat} {wA w7 : World} (h : PInv w ov L m g5 cp5 wA) {x : Ent} (hx : L[m]? = some x) {g7 cp7 : Nat} (hO : OwnE w7 w.heap.size g7 cp7 (putsTo L m ++ [putE x])) (hgr : wA.grownBy w7 (some g5)) (hgg : g5 = g7 ∨ g7 = wA.heap.size) :
    PInv w ov L (m + 1) g7 cp7 (w7.setCell ⟨ov, 0, none⟩ (.slice (some ⟨g7, 0, none⟩) (m + 1) cp7)) ∧ w7.cell? ⟨ov, 0, none⟩ = some (.slice (some ⟨g5, 0, none⟩) m cp5) ∧ w7.frozen? ⟨ov, 0, none⟩ = false := by
  have hc7 : Chg (fun k => k = g5) wA w7 := Chg.of_grown hgr (fun k hk => by cases hk; rfl)
  have hc8 : Chg (fun k => k = ov) w7 (w7.setCell ⟨ov, 0, none⟩ (.slice (some ⟨g7, 0, none⟩) (m + 1) cp7)) := Chg.of_set _ _ _ _ rfl
  have s7 := hc7.size
  have s8 := hc8.size
  have hl := h.lt
  have ho := h.own
  have hn := h.new
  have c7 : w7.cell? ⟨ov, 0, none⟩ = some (.slice (some ⟨g5, 0, none⟩) m cp5) := by rw [hc7.cell (p := ⟨ov, 0, none⟩) hl (fun q => h.ne q.symm)]; exact h.hdr
  have f7 : w7.frozen? ⟨ov, 0, none⟩ = false := by rw [hc7.frozen (p := ⟨ov, 0, none⟩) hl (fun q => h.ne q.symm)]; exact h.free
  have hne7 : ¬ g7 = ov := by
    rcases hgg with q | q
    · rw [← q]; exact h.ne
    · omega
  refine ⟨?_, c7, f7⟩
  exact {
    hdr := World.cell?_setCell_same _ _ _ c7
    free := by rw [World.frozen?_setCell]; exact f7
    lt := by omega
    own := ho
    row := by
      rw [putsTo_succ hx]
      exact World.ownsRow.kept hO (grown_set w7 ov 0 _) (.inr (fun q => hne7 (Option.some.inj q)))
    ne := hne7
    new := by
      rcases hgg with q | q
      · rw [← q]; exact hn
      · omega
    res := by
      rw [hc8.cell (p := ⟨w.heap.size, 0, none⟩) (by show w.heap.size < w7.heap.size; omega) (by show ¬ w.heap.size = ov; omega), hc7.cell (p := ⟨w.heap.size, 0, none⟩) (by show w.heap.size < wA.heap.size; omega) (by show ¬ w.heap.size = g5; omega)]
      exact h.res
    rfree := by
      rw [hc8.frozen (p := ⟨w.heap.size, 0, none⟩) (by show w.heap.size < w7.heap.size; omega) (by show ¬ w.heap.size = ov; omega), hc7.frozen (p := ⟨w.heap.size, 0, none⟩) (by show w.heap.size < wA.heap.size; omega) (by show ¬ w.heap.size = g5; omega)]
      exact h.rfree
    below := Chg.below (Chg.below h.below hc7 h.below.size (fun k q => by omega)) hc8 (by omega) (fun k q => by omega) }

set_option maxHeartbeats 4000000 in
theorem puts_core (g cap : Nat) (L : List Ent) (base : Nat) (w : World) (hC : OwnC w base g cap L) (hn : L.length ≤ 1048576) :
    Calls Try.prog 48 #[.slice (some ⟨g, 0, none⟩) L.length cap] w fun r w' =>
      ∃ g' cp, r = .returned (.agg #[.slice (some ⟨g', 0, none⟩) L.length cp]) ∧ OwnE w' w.heap.size g' cp (L.map putE) ∧ Below w.heap.size w w' := by
  have HC : Hid (OwnC w base g cap L) := hC
  have hgl := hC.lt.2
  clear hC
  obtain ⟨Wa, hWa⟩ : ∃ Wa : World, Wa = w.alloc (Obj.cells #[.slice none 0 0] 40) := ⟨_, rfl⟩
  have hba : Below w.heap.size w Wa := by rw [hWa]; exact (Below.refl _ _).alloc (Nat.le_refl _) _
  have hza : Wa.heap.size = w.heap.size + 1 := by rw [hWa]; simp
  obtain ⟨Wb, hWb⟩ : ∃ Wb : World, Wb = Wa.alloc (Obj.cells #[] 63) := ⟨_, rfl⟩
  have hbb : Below Wa.heap.size Wa Wb := by rw [hWb]; exact (Below.refl _ _).alloc (Nat.le_refl _) _
  have hzb : Wb.heap.size = w.heap.size + 1 + 1 := by rw [hWb]; simp [hza]
  obtain ⟨Wc, hWc⟩ : ∃ Wc : World, Wc = Wb.alloc (Obj.cells #[.slice (some ⟨w.heap.size + 1, 0, none⟩) 0 0] 40) := ⟨_, rfl⟩
  have hbc : Below Wb.heap.size Wb Wc := by rw [hWc]; exact (Below.refl _ _).alloc (Nat.le_refl _) _
  have hzc : Wc.heap.size = w.heap.size + 1 + 1 + 1 := by rw [hWc]; simp [hzb]
  have HP : Hid (PInv w (w.heap.size + 1 + 1) L 0 (w.heap.size + 1) 0 Wc) := by
    have k1 : Below Wa.heap.size Wa Wc := hbb.trans (hbc.mono (by omega))
    exact {
      hdr := by rw [hWc, ← hzb]; simp
      free := by
        rw [hWc, ← hzb]
        exact World.ownsRow.frozenAt (World.ownsRow_lit (base := 0) (e := 40) (size := 1) Wb #[.slice (some ⟨w.heap.size + 1, 0, none⟩) 0 0] 1 (Nat.zero_le _) (by decide) rfl) 0
      lt := by omega
      own := by omega
      row := by
        have h0 : OwnE Wb w.heap.size (w.heap.size + 1) 0 [] := by
          rw [hWb, ← hza]
          exact World.ownsRow_made Wa #[] 0 (by omega) (Nat.zero_le _) (by simp)
        exact h0.below hbc (by omega)
      ne := by omega
      new := by omega
      res := by
        rw [k1.cell (p := ⟨w.heap.size, 0, none⟩) (by show w.heap.size < Wa.heap.size; omega), hWa]; simp
      rfree := by
        rw [k1.frozen (p := ⟨w.heap.size, 0, none⟩) (by show w.heap.size < Wa.heap.size; omega), hWa]
        exact World.ownsRow.frozenAt (World.ownsRow_lit (base := 0) (e := 40) (size := 1) w #[.slice none 0 0] 1 (Nat.zero_le _) (by decide) rfl) 0
      below := hba.trans (k1.mono (by omega)) }
  go_enter Try.func48, Try.ntmps48
  go_wp2_with fail
  rw [← hWa, ← hWb, ← hWc]
  clear hWa hWb hWc hba hbb hbc
  generalize w.heap.size + 1 + 1 = ov at *
  generalize w.heap.size + 1 = g0 at *
  go_loopw [4] (fun i wr => ∃ (m g5 cp5 : Nat), m ≤ L.length ∧ i = .int .i64 m ∧ PInv w ov L m g5 cp5 wr) (fun i _ => L.length - (intOf i).toNat)
  case atStart => exact ⟨0, _, _, Nat.zero_le _, rfl, HP.out⟩
  case round =>
    obtain ⟨m, g5, cp5, hm, rfl, hI⟩ := hrel
    have HI : Hid (PInv w ov L m g5 cp5 wr) := hI
    have hbw := hI.below
    have hsw := hbw.size
    have h0 := hI.hdr
    have hf0 := hI.free
    have hgl5 := hI.row.lt.2
    have hlo := hI.lt
    clear hI HP
    by_cases hlt : m < L.length
    · obtain ⟨x, hx⟩ : ∃ x, L[m]? = some x := ⟨_, List.getElem?_eq_getElem hlt⟩
      obtain ⟨c0, c1, c2, c3, c4⟩ := (HC.out.below hbw hgl).at m x hx
      simp only [Nat.zero_add, Nat.zero_mul] at c0 c1 c2 c3 c4
      have HX : Hid (L[m]? = some x ∧ CelsAt wr g 0 L) := ⟨hx, (HC.out.below hbw hgl).at⟩
      have HTM : Hid (m = (putsTo L m).length) := (putsTo_len hm).symm
      have hpl : (putsTo L m).length ≤ 2 ^ 30 := by rw [← HTM.out]; omega
      clear hx
      have zm : (m : Int) < (L.length : Int) := by omega
      have ngo : g ≠ ov := by have := HI.out.own; omega
      have hgr0 : g < wr.heap.size := by omega
      go_upto_region 5 with fail
      go_region_law ((first
                | (go_simp; go_at_call 81; refine (specPut_any x _).mono ?_; rintro e' w6 ⟨rfl, hb6⟩; have hq6 : Below wr.heap.size wr w6 := ((Below.refl wr.heap.size wr).drew).trans hb6; have m6 := (HI.out.step hq6).hdr; have m6a : ∀ o, (w6.alloc o).cell? ⟨ov, 0, none⟩ = some (.slice (some ⟨g5, 0, none⟩) m cp5) := fun o => by { rw [((Below.refl w6.heap.size w6).alloc (Nat.le_refl _) o).cell (p := ⟨ov, 0, none⟩) (Nat.lt_of_lt_of_le hlo hq6.size)]; exact m6 })
                | (refine step_append_ent _ (by rfl) _ _ (by rfl) w.heap.size g5 cp5 m w6.heap.size (putsTo L m) (putE x) HTM.out (by rfl) (by rfl) ?hO ?hc hpl ?hb ?_
                   case hO => exact (HI.out.step hq6).row.below ((Below.refl _ _).alloc (Nat.le_refl _) _) (Nat.lt_of_lt_of_le hgl5 hq6.size)
                   case hc => exact ent_boxP w6 (putE x)
                   case hb => exact Nat.le_trans hsw (Nat.le_trans hq6.size (by simp))
                   intro g7 cp7 w7 hO7 hgr7 hgg7
                   have hpp := ((HI.out.step hq6).step ((Below.refl w6.heap.size w6).alloc (Nat.le_refl _) (Obj.cells #[.string (putE x).row, .string (putE x).fam, .string (putE x).qual, .int .u64 (putE x).ts, .int .i64 (putE x).kind, .string (putE x).val] 63))).push HX.out.1 hO7 hgr7 (by simpa using hgg7)
                   have fin7 : Hid (PInv w ov L (m + 1) g7 cp7 (w7.setCell ⟨ov, 0, none⟩ (.slice (some ⟨g7, 0, none⟩) (m + 1) cp7))) := hpp.1
                   have m7 := hpp.2.1
                   have f7 := hpp.2.2
                   clear hpp hO7 hgr7 hgg7)))
      all_goals go_wp2_with fail
      all_goals go_roundw
      all_goals first
        | exact ⟨m + 1, g7, cp7, by omega, by go_num, fin7.out⟩
        | (go_light; simp [intOf]; omega)
    · have hml : m = L.length := by omega
      have HF : Hid (OwnE wr w.heap.size g5 cp5 (L.map putE)) := by have := HI.out.row; rw [putsTo_all (by omega)] at this; exact this
      have r0 := HI.out.res
      have rf := HI.out.rfree
      have HM : Hid (m = L.length) := hml
      have zm : ¬ (m : Int) < (L.length : Int) := by omega
      have hnew := HI.out.new
      clear hml
      go_wp2_with fail
      refine bodyPost_ret (v := .agg #[.slice (some ⟨g5, 0, none⟩) m cp5]) (by simp [results, Try.results48, go_sem, World.cell?_setCell_same _ _ _ r0]) rfl ⟨g5, cp5, by rw [HM.out], ?_, ?_⟩
      · exact World.ownsRow.kept HF.out (grown_set wr w.heap.size 0 _) (.inr (fun q => by have h2 : g5 = w.heap.size := Option.some.inj q; omega))
      · exact hbw.setCell (Nat.le_refl _) _

end Go.Proofs.Ytnncedndlhfdkac

/-
  spec.CompactRuns, impl.CompactRuns.
-/
namespace Go.Proofs.Ytnncedndlhfdkac
open Go.ChangeShapes Go.WideShapes Go.ChangeAt Go.RowKit Go.Deep
set_option linter.unusedVariables false
set_option linter.unusedSimpArgs false
set_option maxRecDepth 100000

/-- What a compacted run may be. -/
def CmpOf (rs : List (List Ent)) (R : List Ent) : Prop := ∃ L, MrgOf rs (inR ⟨#[]⟩ false ⟨#[]⟩) L ∧ ((10000 < L.length ∧ R = []) ∨ (L.length ≤ 10000 ∧ R = L.map putE))
theorem cmpOf_uniq {rs : List (List Ent)} {R R' : List Ent} (h : CmpOf rs R) (k : CmpOf rs R') : R = R' := by
  obtain ⟨L, h1, h2⟩ := h
  obtain ⟨M, k1, k2⟩ := k
  have := mrgOf_uniq h1 k1
  subst this
  rcases h2 with ⟨a, b⟩ | ⟨a, b⟩ <;> rcases k2 with ⟨c, d⟩ | ⟨c, d⟩
  · rw [b, d]
  · omega
  · omega
  · rw [b, d]
theorem cmpOf_len {rs : List (List Ent)} {R : List Ent} (h : CmpOf rs R) : R.length ≤ 10000 := by
  obtain ⟨L, h1, h2⟩ := h
  rcases h2 with ⟨a, b⟩ | ⟨a, b⟩
  · rw [b]; simp
  · rw [b]; simpa using a

set_option maxHeartbeats 2000000 in
theorem specCompact_own (base g : Nat) (l : List (Nat × List Ent)) (w : World) (h : OwnRuns w base g l) (ho : okL l) (hn : l.length ≤ 1048576) :
    Calls Try.prog 18 #[.slice (some ⟨g, 0, none⟩) l.length l.length] w fun r w' =>
      ∃ (a : Option Addr) (n c : Nat) (R : List Ent), r = .returned (.agg #[.slice a n c]) ∧ OwnU w' w.heap.size (.slice a n c) R ∧ CmpOf (l.map Prod.snd) R ∧ Below w.heap.size w w' := by
  obtain ⟨Wa, hWa⟩ : ∃ Wa : World, Wa = w.alloc (Obj.cells #[.slice none 0 0] 40) := ⟨_, rfl⟩
  have hba : Below w.heap.size w Wa := by rw [hWa]; exact (Below.refl _ _).alloc (Nat.le_refl _) _
  have hza : Wa.heap.size = w.heap.size + 1 := by rw [hWa]; simp
  have HRes : Hid (Wa.cell? ⟨w.heap.size, 0, none⟩ = some (.slice none 0 0) ∧ Wa.frozen? ⟨w.heap.size, 0, none⟩ = false) := by
    rw [hWa]
    exact ⟨by simp, World.ownsRow.frozenAt (World.ownsRow_lit (base := 0) (e := 40) (size := 1) w #[.slice none 0 0] 1 (Nat.zero_le _) (by decide) rfl) 0⟩
  have HO : Hid (OwnRuns Wa base g l ∧ okL l) := ⟨h.below hba, ho⟩
  clear h ho
  go_enter Try.func18, Try.ntmps18
  go_wp2_with fail
  rw [← hWa]
  clear hWa
  refine (specMerge_own base g l ⟨#[]⟩ ⟨#[]⟩ false _ HO.out.1 HO.out.2 hn).mono ?_
  rintro e w1 ⟨gc, cc, L, rfl, hC1, hb1, hLl, hM⟩
  have s1 := hb1.size
  have k1 : Below w.heap.size w w1 := hba.trans (hb1.mono (by omega))
  have HC1 : Hid (OwnC w1 Wa.heap.size gc cc L ∧ MrgOf (l.map Prod.snd) (inR ⟨#[]⟩ false ⟨#[]⟩) L) := ⟨hC1, hM⟩
  clear hC1 hM
  have r1 : w1.cell? ⟨w.heap.size, 0, none⟩ = some (.slice none 0 0) := by rw [hb1.cell (p := ⟨w.heap.size, 0, none⟩) (by show w.heap.size < Wa.heap.size; omega)]; exact HRes.out.1
  have f1 : w1.frozen? ⟨w.heap.size, 0, none⟩ = false := by rw [hb1.frozen (p := ⟨w.heap.size, 0, none⟩) (by show w.heap.size < Wa.heap.size; omega)]; exact HRes.out.2
  by_cases hbig : 10000 < L.length
  · have zb : (10000 : Int) < (L.length : Int) := by omega
    go_wp2_with fail
    refine bodyPost_ret (v := .agg #[.slice none 0 0]) (by simp [results, Try.results18, go_sem, World.cell?_setCell_same _ _ _ r1]) rfl ⟨none, 0, 0, [], rfl, .inl ⟨rfl, rfl⟩, ⟨L, HC1.out.2, .inl ⟨hbig, rfl⟩⟩, ?_⟩
    exact k1.setCell (Nat.le_refl _) _
  · have zb : ¬ (10000 : Int) < (L.length : Int) := by omega
    go_wp2_with fail
    refine (puts_core gc cc L Wa.heap.size _ HC1.out.1 (by omega)).mono ?_
    rintro e w2 ⟨g2, cp2, rfl, hE2, hb2⟩
    have s2 := hb2.size
    have hg2 := hE2.lt
    have HE2 : Hid (OwnE w2 w1.heap.size g2 cp2 (L.map putE)) := hE2
    have k2 : Below w.heap.size w w2 := k1.trans (hb2.mono (by omega))
    have r2 : w2.cell? ⟨w.heap.size, 0, none⟩ = some (.slice none 0 0) := by rw [hb2.cell (p := ⟨w.heap.size, 0, none⟩) (by show w.heap.size < w1.heap.size; omega)]; exact r1
    have f2 : w2.frozen? ⟨w.heap.size, 0, none⟩ = false := by rw [hb2.frozen (p := ⟨w.heap.size, 0, none⟩) (by show w.heap.size < w1.heap.size; omega)]; exact f1
    clear hE2 r1 f1
    go_wp2_with fail
    refine bodyPost_ret (v := .agg #[.slice (some ⟨g2, 0, none⟩) L.length cp2]) (by simp [results, Try.results18, go_sem, World.cell?_setCell_same _ _ _ r2]) rfl ⟨some ⟨g2, 0, none⟩, L.length, cp2, L.map putE, rfl, .inr ⟨g2, cp2, by simp, ?_⟩, ⟨L, HC1.out.2, .inr ⟨by omega, rfl⟩⟩, ?_⟩
    · exact OwnE.mono (World.ownsRow.kept HE2.out (grown_set w2 w.heap.size 0 _) (.inr (fun q => by have h2 : g2 = w.heap.size := Option.some.inj q; omega))) (by omega)
    · exact k2.setCell (Nat.le_refl _) _
end Go.Proofs.Ytnncedndlhfdkac

/-
  impl.CompactRuns.
-/
namespace Go.Proofs.Ytnncedndlhfdkac
open Go.ChangeShapes Go.WideShapes Go.ChangeAt Go.RowKit Go.Deep
set_option linter.unusedVariables false
set_option linter.unusedSimpArgs false
set_option maxRecDepth 100000

set_option maxHeartbeats 4000000 in
theorem implCompact_core (b off cap : Nat) (l : List Rm) (w : World) (h : RmsAt w b off l) (ho : okM l) (hB : b < w.heap.size) (hn : l.length ≤ 1048576) :
    Calls Try.prog 19 #[.slice (some ⟨b, off, none⟩) l.length cap] w fun r w' =>
      ∃ (a : Option Addr) (n c : Nat) (R : List Ent), r = .returned (.agg #[.slice a n c]) ∧ OwnU w' w.heap.size (.slice a n c) R ∧ CmpOf (esM l) R ∧ Below w.heap.size w w' ∧ (a = none → ∃ L, MrgOf (esM l) (inR ⟨#[]⟩ false ⟨#[]⟩) L ∧ 10000 < L.length) := by
  obtain ⟨i, hi0, hz0, hz1, hz2⟩ := info_parts Try.infoEnt
  have HI : Hid (Try.prog.info? 63 = some i ∧ i.zero = some (.agg #[.string ⟨#[]⟩, .string ⟨#[]⟩, .string ⟨#[]⟩, .int .u64 0, .int .i64 0, .string ⟨#[]⟩]) ∧ i.size = 6 ∧ i.bytes = 80) := ⟨hi0, hz0, hz1, hz2⟩
  clear hi0 hz0 hz1 hz2
  obtain ⟨Wa, hWa⟩ : ∃ Wa : World, Wa = w.alloc (Obj.cells #[.slice none 0 0] 40) := ⟨_, rfl⟩
  have hba : Below w.heap.size w Wa := by rw [hWa]; exact (Below.refl _ _).alloc (Nat.le_refl _) _
  have hza : Wa.heap.size = w.heap.size + 1 := by rw [hWa]; simp
  have HRes : Hid (Wa.cell? ⟨w.heap.size, 0, none⟩ = some (.slice none 0 0) ∧ Wa.frozen? ⟨w.heap.size, 0, none⟩ = false) := by
    rw [hWa]
    exact ⟨by simp, World.ownsRow.frozenAt (World.ownsRow_lit (base := 0) (e := 40) (size := 1) w #[.slice none 0 0] 1 (Nat.zero_le _) (by decide) rfl) 0⟩
  have HO : Hid (RmsAt Wa b off l ∧ okM l) := ⟨h.below hba hB, ho⟩
  have hBa : b < Wa.heap.size := by omega
  clear h ho
  go_enter Try.func19, Try.ntmps19
  go_wp2_with fail
  rw [← hWa]
  clear hWa
  refine (implMerge_core b off cap l ⟨#[]⟩ ⟨#[]⟩ false _ HO.out.1 HO.out.2 hBa hn).mono ?_
  rintro e w1 ⟨gc, cc, L, rfl, hC1, hb1, hM⟩
  have s1 := hb1.size
  have k1 : Below w.heap.size w w1 := hba.trans (hb1.mono (by omega))
  have HC1 : Hid (OwnC w1 Wa.heap.size gc cc L ∧ MrgOf (esM l) (inR ⟨#[]⟩ false ⟨#[]⟩) L) := ⟨hC1, hM⟩
  have hgc := hC1.lt.2
  clear hC1 hM
  have r1 : w1.cell? ⟨w.heap.size, 0, none⟩ = some (.slice none 0 0) := by rw [hb1.cell (p := ⟨w.heap.size, 0, none⟩) (by show w.heap.size < Wa.heap.size; omega)]; exact HRes.out.1
  have f1 : w1.frozen? ⟨w.heap.size, 0, none⟩ = false := by rw [hb1.frozen (p := ⟨w.heap.size, 0, none⟩) (by show w.heap.size < Wa.heap.size; omega)]; exact HRes.out.2
  by_cases hbig : 10000 < L.length
  · have zb : (10000 : Int) < (L.length : Int) := by omega
    go_wp2_with fail
    refine bodyPost_ret (v := .agg #[.slice none 0 0]) (by simp [results, Try.results19, go_sem, World.cell?_setCell_same _ _ _ r1]) rfl ⟨none, 0, 0, [], rfl, .inl ⟨rfl, rfl⟩, ⟨L, HC1.out.2, .inl ⟨hbig, rfl⟩⟩, ?_, fun _ => ⟨L, HC1.out.2, hbig⟩⟩
    exact k1.setCell (Nat.le_refl _) _
  · have zb : ¬ (10000 : Int) < (L.length : Int) := by omega
    have HRs : Hid (w1.cell? ⟨w.heap.size, 0, none⟩ = some (.slice none 0 0) ∧ w1.frozen? ⟨w.heap.size, 0, none⟩ = false) := ⟨r1, f1⟩
    clear r1 f1
    go_wp2_with (at_make; refine wpList_make_own _ rfl _ _ 38 rfl w1.heap.size 63 i _ 6 Try.underlying38 HI.out.1 HI.out.2.1 HI.out.2.2.1 _ _ _ L.length rfl rfl ?_ ?hb ?hm ?hs ?_)
    case hb => rw [HI.out.2.2.2]; omega
    case hm => unfold maxLen; omega
    case hs => exact Nat.le_refl _
    · rfl
    intro w2 hown hgr
    have hb2 : Below w1.heap.size w1 w2 := (Below.refl _ _).grown hgr (Nat.le_refl _) (fun k hk => by cases hk)
    have HE2 : Hid (OwnE w2 w1.heap.size w1.heap.size L.length []) := hown
    clear hown hgr
    go_wp2_with fail
    go_loopw [4, 19] (fun o c wr => ∃ (m g5 cp5 : Nat), m ≤ L.length ∧ c = .int .i64 m ∧ o = .slice (some ⟨g5, 0, none⟩) m cp5 ∧ OwnE wr w1.heap.size g5 cp5 (putsTo L m) ∧ Below w1.heap.size w1 wr) (fun _ c _ => L.length - (intOf c).toNat)
    case atStart => exact ⟨0, _, _, Nat.zero_le _, rfl, rfl, HE2.out, hb2⟩
    case round =>
      obtain ⟨m, g5, cp5, hm, rfl, rfl, hE, hb⟩ := hrel
      have HE : Hid (OwnE wr w1.heap.size g5 cp5 (putsTo L m)) := hE
      have hg5 := hE.lt
      have hs := hb.size
      clear hE
      by_cases hlt : m < L.length
      · obtain ⟨x, hx⟩ : ∃ x, L[m]? = some x := ⟨_, List.getElem?_eq_getElem hlt⟩
        obtain ⟨c0, c1, c2, c3, c4⟩ := (HC1.out.1.below hb hgc).at m x hx
        simp only [Nat.zero_add, Nat.zero_mul] at c0 c1 c2 c3 c4
        have HX : Hid (putsTo L (m + 1) = putsTo L m ++ [putE x]) := putsTo_succ hx
        have HTM : Hid (m = (putsTo L m).length) := (putsTo_len hm).symm
        clear hx
        have zm : (m : Int) < (L.length : Int) := by omega
        obtain ⟨W3, hW3⟩ : ∃ W3 : World, W3 = wr.alloc (Obj.cells #[.string x.row, .string x.fam, .string x.qual, .int .u64 x.ts, .string x.val] 69) := ⟨_, rfl⟩
        have hb3 : Below wr.heap.size wr W3 := by rw [hW3]; exact (Below.refl _ _).alloc (Nat.le_refl _) _
        have hs3 := hb3.size
        go_wp2_with fail
        rw [← hW3]
        clear hW3 c0 c1 c2 c3 c4
        refine (implPut_any x _).mono ?_
        rintro e' w4 ⟨rfl, hb4⟩
        have hs4 := hb4.size
        have k4 : Below wr.heap.size wr w4 := hb3.trans (hb4.mono hs3)
        have HE4 : Hid (OwnE w4 w1.heap.size g5 cp5 (putsTo L m)) := HE.out.below k4 hg5.2
        have kb4 : Below w1.heap.size w1 w4 := hb.trans (k4.mono hs)
        clear hb3 hb4
        go_wp2_with (at_builtin; refine wpList_append_ent _ rfl _ _ rfl w1.heap.size g5 cp5 _ _ (putsTo L m) (putE x) rfl rfl HTM.out ?hO ?hc ?hl ?hb ?_)
        case hO => exact HE4.out.below ((Below.refl _ _).alloc (Nat.le_refl _) _) (by omega)
        case hc => exact ent_box w4 (putE x)
        case hl => rw [← HTM.out]; omega
        case hb => simp; omega
        intro g' cp' w' hO' hgr
        have HO' : Hid (OwnE w' w1.heap.size g' cp' (putsTo L (m + 1))) := by show OwnE w' w1.heap.size g' cp' (putsTo L (m + 1)); rw [HX.out]; exact hO'
        have hb' : Below w1.heap.size w1 w' := (kb4.alloc kb4.size _).grown hgr (by simp; omega) (fun j hj => by cases hj; omega)
        clear hO' hgr
        go_wp2_with fail
        go_roundw
        case rel => exact ⟨m + 1, g', cp', by omega, by go_num, rfl, HO'.out, hb'⟩
        case measure => go_light; simp [intOf]; omega
      · have HF : Hid (OwnE wr w1.heap.size g5 cp5 (L.map putE)) := by have := HE.out; rw [putsTo_all (by omega)] at this; exact this
        have HM : Hid (m = L.length) := by show m = L.length; omega
        have zm : ¬ (m : Int) < (L.length : Int) := by omega
        have r2 : wr.cell? ⟨w.heap.size, 0, none⟩ = some (.slice none 0 0) := by rw [hb.cell (p := ⟨w.heap.size, 0, none⟩) (by show w.heap.size < w1.heap.size; omega)]; exact HRs.out.1
        have f2 : wr.frozen? ⟨w.heap.size, 0, none⟩ = false := by rw [hb.frozen (p := ⟨w.heap.size, 0, none⟩) (by show w.heap.size < w1.heap.size; omega)]; exact HRs.out.2
        go_wp2_with fail
        refine bodyPost_ret (v := .agg #[.slice (some ⟨g5, 0, none⟩) m cp5]) (by simp [results, Try.results19, go_sem, World.cell?_setCell_same _ _ _ r2]) rfl ⟨some ⟨g5, 0, none⟩, m, cp5, rfl, L.map putE, .inr ⟨g5, cp5, by rw [HM.out]; simp, ?_⟩, ⟨L, HC1.out.2, .inr ⟨by omega, rfl⟩⟩, ?_, (fun q => by cases q)⟩
        · exact OwnE.mono (World.ownsRow.kept HF.out (grown_set wr w.heap.size 0 _) (.inr (fun q => by have h2 : g5 = w.heap.size := Option.some.inj q; omega))) (by omega)
        · exact (k1.trans (hb.mono (by omega))).setCell (Nat.le_refl _) _
theorem implCompact_own (base g : Nat) (l : List (Nat × List Ent)) (w : World) (h : OwnRuns w base g l) (ho : okL l) (hn : l.length ≤ 1048576) :
    Calls Try.prog 19 #[.slice (some ⟨g, 0, none⟩) l.length l.length] w fun r w' =>
      ∃ (a : Option Addr) (n c : Nat) (R : List Ent), r = .returned (.agg #[.slice a n c]) ∧ OwnU w' w.heap.size (.slice a n c) R ∧ CmpOf (l.map Prod.snd) R ∧ Below w.heap.size w w' := by
  have := implCompact_core g 0 l.length (rmsOf l) w h.at (okM_of ho) h.lt.2 (by rw [rmsOf_len]; exact hn)
  rw [rmsOf_len, esM_rms] at this
  refine this.mono ?_
  rintro e w' ⟨a, n, c, R, h1, h2, h3, h4, _⟩
  exact ⟨a, n, c, R, h1, h2, h3, h4⟩
end Go.Proofs.Ytnncedndlhfdkac

