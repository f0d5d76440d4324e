/-
  The maps of impl.gatherColumns: by column (a struct of three texts), and by timestamp.
-/
import Derived.Test.YtodaanmbbgdclabSpecB
import Derived.Test.YtodaanmbbgdclabMark
import Derived.Maps.RangeWalk
import Derived.Maps.OwnSet
import Derived.Maps.OwnOps
import Derived.DeepKeys4
namespace Go.Proofs.Ytodaanmbbgdclab
open Go.ChangeShapes Go.WideShapes Go.ChangeAt Go.RowKit Go.Deep Go.Maps
set_option linter.unusedVariables false
set_option maxRecDepth 100000

theorem mapLaid : laidOutB Try.prog = true := by kernel_rfl
theorem rowCol : (71 : TypeId) < Try.prog.types.size := of_decide_eq_true (by kernel_rfl)
theorem wideCol : (match Try.prog.underlying 71 with | some (.array _ _) | some (.struct _) => true | _ => false) = true := by kernel_rfl
theorem lawCol : Keyed Try.prog 71 := Keyed.of_law (deep_law_laid mapLaid (m := 2) (by omega) rowCol (by kernel_rfl) wideCol)
theorem lawTs : Keyed Try.prog 47 := int_keyed Try.underlying47

abbrev colV (r f q : ByteArray) : Value := .agg #[.string r, .string f, .string q]
/-- What a column reads as. -/
def colL (r f q : ByteArray) : Lit := .string (keyBytes [.string r.data.toList, .string f.data.toList, .string q.data.toList])
theorem typesSome : ∃ n, Try.prog.types.size = n + 1 := ⟨Try.prog.types.size - 1, by have h : (71 : Nat) < Try.prog.types.size := rowCol; omega⟩
theorem keyCol {r f q : ByteArray} (hr : r.size ≤ maxLen) (hf : f.size ≤ maxLen) (hq : q.size ≤ maxLen) : keyOf Try.prog 71 (colV r f q) = some (colL r f q) := by
  have h1 : Try.prog.keyType 71 = true := by kernel_rfl
  have h2 : Try.prog.cellsOf 71 = 3 := by kernel_rfl
  obtain ⟨n, hn⟩ := typesSome
  unfold keyOf
  rw [Try.underlying71]
  simp only [h1, Value.formed, Try.underlying71, h2, hn]
  simp [Program.keyLits, Try.underlying71, Try.underlying9, h2, Try.cellsStr, Value.cells, hr, hf, hq, colL]
theorem keyTs {t : Int} (h : (Lit.int .u64 t).wf = true) : keyOf Try.prog 47 (.int .u64 t) = some (.int .u64 t) := keyOf_int_mk Try.underlying47 h

/-- An element reads as its own value. -/
def Rh : Value → Option (DataW Value × List MemPlace) := fun v => some (.held v, [])
theorem Rh_eq {v : Value} {x : DataW Value} {ps : List MemPlace} (h : Rh v = some (x, ps)) : x = .held v ∧ ps = [] := by
  unfold Rh at h
  simp at h
  exact ⟨h.1.symm, h.2⟩

/-- Block 'b' is a map from timestamps to entries: the function 'f'. -/
def Inn (w : World) (b n : Nat) (f : Int → Option Ent) : Prop :=
  ∃ D, w.ownsMap Try.prog 47 Rh b n D ∧ ∀ t, (Lit.int .u64 t).wf = true → (f t = none ∧ Maps.has D (.int .u64 t) = false) ∨ ∃ e, f t = some e ∧ Maps.has D (.int .u64 t) = true ∧ ∀ z, D.atKey (.int .u64 t) z = .held e.v
theorem Inn.lt {w : World} {b n : Nat} {f : Int → Option Ent} (h : Inn w b n f) : b < w.heap.size := by
  obtain ⟨D, h, _⟩ := h
  exact h.lt
theorem Inn.kept {w w' : World} {b n : Nat} {f : Int → Option Ent} {row : Option Nat} (h : Inn w b n f) (hg : w.grownBy w' row) (hne : some b ≠ row) : Inn w' b n f := by
  obtain ⟨D, h, k⟩ := h
  exact ⟨D, h.kept hg hne, k⟩
theorem Inn.mono {w : World} {b n n' : Nat} {f : Int → Option Ent} (h : Inn w b n f) (hn : n ≤ n') : Inn w b n' f := by
  obtain ⟨D, h, k⟩ := h
  exact ⟨D, h.mono hn, k⟩
theorem Inn.setCell {w : World} {b n : Nat} {f : Int → Option Ent} (h : Inn w b n f) {a : Addr} (ha : b ≠ a.block) (u : Value) : Inn (w.setCell a u) b n f := by
  obtain ⟨D, h, k⟩ := h
  exact ⟨D, h.setCell ha u, k⟩
theorem grown_setNew {w w' : World} {row : Option Nat} (h : w.grownBy w' row) {a : Addr} (ha : w.heap.size ≤ a.block) (u : Value) : w.grownBy (w'.setCell a u) row := by
  have k := (Below.refl a.block w').setCell (Nat.le_refl _) (p := a) u
  exact ⟨k.os.trans h.os, k.tape.trans h.tape, k.output.trans h.output, Nat.le_trans h.size k.size, fun j hj hne => (Below.heap_setCell w' a u j (by omega)).trans (h.block j hj hne)⟩
theorem below4 (w : World) (a b c d : Obj) : Below w.heap.size w ((((w.alloc a).alloc b).alloc c).alloc d) := ((((Below.refl _ _).alloc (Nat.le_refl _) _).alloc (by simp) _).alloc (by simp; omega) _).alloc (by simp; omega) _
theorem Inn.made (w : World) : Inn (w.alloc (.map #[] 0)) w.heap.size 0 (fun _ => none) :=
  ⟨.map [], World.ownsMap_made w Try.prog 47 Rh, fun t _ => .inl ⟨rfl, rfl⟩⟩

set_option maxHeartbeats 1000000 in
theorem withEarlier_del (d : Bool) (u : Int) (m : Option Nat) (e : Ent) (w : World) (hk : e.kind = 2) :
    Calls Try.prog 52 #[.agg #[.bool d, .int .u64 u, .map m], e.v] w fun r w' =>
      r = .returned (.agg #[.bool true, .int .u64 (max u e.ts), .map m]) ∧ Below w.heap.size w w' := by
  have g2 : (e.kind == 2) = true := by simp [hk]
  clear hk
  unfold Ent.v
  go_enter Try.func52, Try.ntmps52
  go_wp2
  refine bodyPost_ret (v := .agg #[.bool true, .int .u64 (max u e.ts), .map m]) (by simp [results, Try.results52, go_sem]) rfl ⟨rfl, ?_⟩
  exact (((Below.refl _ _).alloc (Nat.le_refl _) _).alloc (by simp) _).alloc (by simp; omega) _

set_option maxHeartbeats 1000000 in
theorem withEarlier_gone (u : Int) (m : Option Nat) (e : Ent) (w : World) (hk : ¬ e.kind = 2) (hu : e.ts ≤ u) :
    Calls Try.prog 52 #[.agg #[.bool true, .int .u64 u, .map m], e.v] w fun r w' =>
      r = .returned (.agg #[.bool true, .int .u64 u, .map m]) ∧ Below w.heap.size w w' := by
  have g2 : (e.kind == 2) = false := by simp [hk]
  clear hk
  unfold Ent.v
  go_enter Try.func52, Try.ntmps52
  go_wp2
  refine bodyPost_ret (v := .agg #[.bool true, .int .u64 u, .map m]) (by simp [results, Try.results52, go_sem]) rfl ⟨rfl, ?_⟩
  exact (((Below.refl _ _).alloc (Nat.le_refl _) _).alloc (by simp) _).alloc (by simp; omega) _

theorem zeroE6 (w : World) : (zeroValue 49).run Try.prog w = .ok (.agg #[.string ⟨#[]⟩, .string ⟨#[]⟩, .string ⟨#[]⟩, .int .u64 0, .int .i64 0, .string ⟨#[]⟩]) w := by kernel_rfl
/-- 'v, ok := m[t]' in a map of entries. -/
theorem Inn.look {w : World} {b n : Nat} {f : Int → Option Ent} (h : Inn w b n f) {t : Int} (ht : (Lit.int .u64 t).wf = true) :
    ∃ v : Ent, (Instr.lookup 72 (.map (some b)) (.int .u64 t) true).run Try.prog w = .ok (.tuple #[v.v, .bool (f t).isSome]) w := by
  obtain ⟨D, hD, hv⟩ := h
  obtain ⟨v, ps, hrun, hR⟩ := hD.look_ok lawTs Try.underlying72 (zeroE6 w) (zd := .held zeroE.v) (zp := []) rfl (keyTs ht)
  have hR' := (Rh_eq hR).1
  rcases hv t ht with ⟨h1, h2⟩ | ⟨e, h1, h2, h3⟩
  · rw [Maps.atKey_of_not_has h2] at hR'
    simp only [DataW.held.injEq] at hR'
    rw [← hR', h2] at hrun
    exact ⟨zeroE, by rw [h1]; exact hrun⟩
  · rw [h3] at hR'
    simp only [DataW.held.injEq] at hR'
    rw [← hR', h2] at hrun
    exact ⟨e, by rw [h1]; exact hrun⟩
theorem Inn.put {w : World} {b n : Nat} {f : Int → Option Ent} (h : Inn w b n f) (hn : n < maxLen) (e : Ent) (ht : (Lit.int .u64 e.ts).wf = true) :
    ∃ w', (Instr.mapUpdate 72 (.map (some b)) (.int .u64 e.ts) e.v).run Try.prog w = .ok () w' ∧ Inn w' b (n + 1) (fun t => if t = e.ts then some e else f t) ∧ w.grownBy w' (some b) := by
  obtain ⟨D, hD, hv⟩ := h
  obtain ⟨w', hrun, ho, hg⟩ := hD.update lawTs Try.underlying72 hn (keyTs ht) (val := e.v) (d := .held e.v) (ps := []) rfl
  refine ⟨w', hrun, ⟨_, ho, fun t hw => ?_⟩, hg⟩
  by_cases he : t = e.ts
  · subst he
    refine .inr ⟨e, by simp, Maps.has_put_same hD.isMap (lawTs.key (keyTs ht)) _, fun z => Maps.atKey_put_same hD.isMap (lawTs.key (keyTs ht)) _ z⟩
  · have hne : (Lit.int .u64 t) ≠ (Lit.int .u64 e.ts) := fun q => he (by injection q)
    rcases hv t hw with ⟨h1, h2⟩ | ⟨e', h1, h2, h3⟩
    · exact .inl ⟨by simp [he, h1], by rw [Maps.has_put_other hne]; exact h2⟩
    · exact .inr ⟨e', by simp [he, h1], by rw [Maps.has_put_other hne]; exact h2, fun z => by rw [Maps.atKey_put_other hne]; exact h3 z⟩

set_option maxHeartbeats 1000000 in
set_option maxRecDepth 100000 in
theorem withEarlier_old (d : Bool) (u : Int) (b n : Nat) (f : Int → Option Ent) (e : Ent) (w : World) (hk : ¬ e.kind = 2) (hu : d = true → ¬ e.ts ≤ u) (hI : Inn w b n f) (hn : n < maxLen) (hw : (Lit.int .u64 e.ts).wf = true) :
    Calls Try.prog 52 #[.agg #[.bool d, .int .u64 u, .map (some b)], e.v] w fun r w' =>
      r = .returned (.agg #[.bool d, .int .u64 u, .map (some b)]) ∧ Inn w' b (n + 1) (fun t => if t = e.ts then (if (f t).isSome then f t else some e) else f t) ∧ w.grownBy w' (some b) := by
  have g2 : (e.kind == 2) = false := by simp [hk]
  have hb := hI.lt
  have HI : Hid (Inn w b n f ∧ n < maxLen ∧ (Lit.int .u64 e.ts).wf = true) := ⟨hI, hn, hw⟩
  clear hk hI hn hw
  have hnil : ∀ wx, (binOp .eql 72 (.map (some b)) (.map none)).run Try.prog wx = .ok (.bool false) wx :=
    fun wx => run_eql_map_nil wx _ _ _ (some b) Try.underlying72
  have hbox : Below w.heap.size w (((w.alloc (Obj.cells #[.bool d, .int .u64 u, .map (some b)] 74)).alloc (Obj.cells #[.string e.row, .string e.fam, .string e.qual, .int .u64 e.ts, .int .i64 e.kind, .string e.val] 49)).alloc (Obj.cells #[.bool false, .int .u64 0, .map none] 74)) :=
    (((Below.refl _ _).alloc (Nat.le_refl _) _).alloc (by simp) _).alloc (by simp; omega) _
  have hIb := HI.out.1.kept (row := none) ⟨hbox.os, hbox.tape, hbox.output, hbox.size, fun k hk _ => hbox.block k hk⟩ (by simp)
  obtain ⟨v, hlook⟩ := hIb.look HI.out.2.2
  have HIb : Hid (Inn (((w.alloc (Obj.cells #[.bool d, .int .u64 u, .map (some b)] 74)).alloc (Obj.cells #[.string e.row, .string e.fam, .string e.qual, .int .u64 e.ts, .int .i64 e.kind, .string e.val] 49)).alloc (Obj.cells #[.bool false, .int .u64 0, .map none] 74)) b n f) := hIb
  clear hIb hbox
  have hIc := HIb.out.kept (row := none) (World.grownBy_alloc _ (Obj.cells #[.string v.row, .string v.fam, .string v.qual, .int .u64 v.ts, .int .i64 v.kind, .string v.val] 49) none) (by simp)
  obtain ⟨w4, hput, hI4, hg4⟩ := hIc.put HI.out.2.1 e HI.out.2.2
  have hbx : Below w.heap.size w ((((w.alloc (Obj.cells #[.bool d, .int .u64 u, .map (some b)] 74)).alloc (Obj.cells #[.string e.row, .string e.fam, .string e.qual, .int .u64 e.ts, .int .i64 e.kind, .string e.val] 49)).alloc (Obj.cells #[.bool false, .int .u64 0, .map none] 74)).alloc (Obj.cells #[.string v.row, .string v.fam, .string v.qual, .int .u64 v.ts, .int .i64 v.kind, .string v.val] 49)) := ((((Below.refl _ _).alloc (Nat.le_refl _) _).alloc (by simp) _).alloc (by simp; omega) _).alloc (by simp; omega) _
  have hs4 := hg4.size
  simp at hs4
  have hbl : ∀ j, j ≠ b → j < w.heap.size + 4 → w4.heap[j]? = ((((w.alloc (Obj.cells #[.bool d, .int .u64 u, .map (some b)] 74)).alloc (Obj.cells #[.string e.row, .string e.fam, .string e.qual, .int .u64 e.ts, .int .i64 e.kind, .string e.val] 49)).alloc (Obj.cells #[.bool false, .int .u64 0, .map none] 74)).alloc (Obj.cells #[.string v.row, .string v.fam, .string v.qual, .int .u64 v.ts, .int .i64 v.kind, .string v.val] 49)).heap[j]? := fun j h1 h2 => hg4.block j (by simp; omega) (fun q => h1 (by injection q))
  have c40 : ∀ o, w4.cell? ⟨w.heap.size, o, none⟩ = ((((w.alloc (Obj.cells #[.bool d, .int .u64 u, .map (some b)] 74)).alloc (Obj.cells #[.string e.row, .string e.fam, .string e.qual, .int .u64 e.ts, .int .i64 e.kind, .string e.val] 49)).alloc (Obj.cells #[.bool false, .int .u64 0, .map none] 74)).alloc (Obj.cells #[.string v.row, .string v.fam, .string v.qual, .int .u64 v.ts, .int .i64 v.kind, .string v.val] 49)).cell? ⟨w.heap.size, o, none⟩ := fun o => World.cell?_of_block (hbl _ (by show w.heap.size ≠ b; omega) (by show w.heap.size < _; omega))
  have c42 : ∀ o, w4.cell? ⟨w.heap.size + 1 + 1, o, none⟩ = ((((w.alloc (Obj.cells #[.bool d, .int .u64 u, .map (some b)] 74)).alloc (Obj.cells #[.string e.row, .string e.fam, .string e.qual, .int .u64 e.ts, .int .i64 e.kind, .string e.val] 49)).alloc (Obj.cells #[.bool false, .int .u64 0, .map none] 74)).alloc (Obj.cells #[.string v.row, .string v.fam, .string v.qual, .int .u64 v.ts, .int .i64 v.kind, .string v.val] 49)).cell? ⟨w.heap.size + 1 + 1, o, none⟩ := fun o => World.cell?_of_block (hbl _ (by show w.heap.size + 1 + 1 ≠ b; omega) (by show w.heap.size + 1 + 1 < _; omega))
  have f42 : ∀ o, w4.frozen? ⟨w.heap.size + 1 + 1, o, none⟩ = ((((w.alloc (Obj.cells #[.bool d, .int .u64 u, .map (some b)] 74)).alloc (Obj.cells #[.string e.row, .string e.fam, .string e.qual, .int .u64 e.ts, .int .i64 e.kind, .string e.val] 49)).alloc (Obj.cells #[.bool false, .int .u64 0, .map none] 74)).alloc (Obj.cells #[.string v.row, .string v.fam, .string v.qual, .int .u64 v.ts, .int .i64 v.kind, .string v.val] 49)).frozen? ⟨w.heap.size + 1 + 1, o, none⟩ := fun o => World.frozen?_of_block (hbl _ (by show w.heap.size + 1 + 1 ≠ b; omega) (by show w.heap.size + 1 + 1 < _; omega))
  have H4 : Hid (Inn w4 b (n + 1) (fun t => if t = e.ts then some e else f t) ∧ w.grownBy w4 (some b)) :=
    ⟨hI4, ⟨hg4.os.trans hbx.os, hg4.tape.trans hbx.tape, hg4.output.trans hbx.output, by omega, fun j hj hne => (hg4.block j (by simp; omega) hne).trans (hbx.block j hj)⟩⟩
  clear hIc hI4 hg4 hbl hbx
  unfold Ent.v at *
  cases hf : (f e.ts).isSome
  · rw [hf] at hlook
    have HF : Hid ((f e.ts).isSome = false) := hf
    clear hf
    cases d
    · clear hu
      go_enter Try.func52, Try.ntmps52
      go_wp2_with fail
      refine bodyPost_ret (v := .agg #[.bool false, .int .u64 u, .map (some b)]) (by simp [results, Try.results52, go_sem, c42]) rfl ⟨rfl, ?_, ?_⟩
      · rw [show (fun t => if t = e.ts then (if (f t).isSome then f t else some e) else f t) = (fun t => if t = e.ts then some e else f t) from funext fun t => by
          by_cases q : t = e.ts
          · subst q; simp [HF.out]
          · simp [q]]
        exact ((H4.out.1.setCell (by show b ≠ w.heap.size + 1 + 1; omega) _).setCell (by show b ≠ w.heap.size + 1 + 1; omega) _).setCell (by show b ≠ w.heap.size + 1 + 1; omega) _
      · exact grown_setNew (grown_setNew (grown_setNew H4.out.2 (by show w.heap.size ≤ w.heap.size + 1 + 1; omega) _) (by show w.heap.size ≤ w.heap.size + 1 + 1; omega) _) (by show w.heap.size ≤ w.heap.size + 1 + 1; omega) _
    · have hu' : ¬ e.ts ≤ u := hu rfl
      clear hu
      go_enter Try.func52, Try.ntmps52
      go_wp2_with fail
      refine bodyPost_ret (v := .agg #[.bool true, .int .u64 u, .map (some b)]) (by simp [results, Try.results52, go_sem, c42]) rfl ⟨rfl, ?_, ?_⟩
      · rw [show (fun t => if t = e.ts then (if (f t).isSome then f t else some e) else f t) = (fun t => if t = e.ts then some e else f t) from funext fun t => by
          by_cases q : t = e.ts
          · subst q; simp [HF.out]
          · simp [q]]
        exact ((H4.out.1.setCell (by show b ≠ w.heap.size + 1 + 1; omega) _).setCell (by show b ≠ w.heap.size + 1 + 1; omega) _).setCell (by show b ≠ w.heap.size + 1 + 1; omega) _
      · exact grown_setNew (grown_setNew (grown_setNew H4.out.2 (by show w.heap.size ≤ w.heap.size + 1 + 1; omega) _) (by show w.heap.size ≤ w.heap.size + 1 + 1; omega) _) (by show w.heap.size ≤ w.heap.size + 1 + 1; omega) _
  · rw [hf] at hlook
    have HF : Hid ((f e.ts).isSome = true) := hf
    clear hf hput c40 c42 f42
    cases d
    · clear hu
      go_enter Try.func52, Try.ntmps52
      go_wp2_with fail
      refine bodyPost_ret (v := .agg #[.bool false, .int .u64 u, .map (some b)]) (by simp [results, Try.results52, go_sem]) rfl ⟨rfl, ?_, ?_⟩
      · rw [show (fun t => if t = e.ts then (if (f t).isSome then f t else some e) else f t) = f from funext fun t => by
          by_cases q : t = e.ts
          · subst q; simp [HF.out]
          · simp [q]]
        exact (HI.out.1.kept (row := none) (grown_of_below (below4 w _ _ _ _) none) (by simp)).mono (by omega)
      · exact grown_of_below (below4 w _ _ _ _) _
    · have hu' : ¬ e.ts ≤ u := hu rfl
      clear hu
      go_enter Try.func52, Try.ntmps52
      go_wp2_with fail
      refine bodyPost_ret (v := .agg #[.bool true, .int .u64 u, .map (some b)]) (by simp [results, Try.results52, go_sem]) rfl ⟨rfl, ?_, ?_⟩
      · rw [show (fun t => if t = e.ts then (if (f t).isSome then f t else some e) else f t) = f from funext fun t => by
          by_cases q : t = e.ts
          · subst q; simp [HF.out]
          · simp [q]]
        exact (HI.out.1.kept (row := none) (grown_of_below (below4 w _ _ _ _) none) (by simp)).mono (by omega)
      · exact grown_of_below (below4 w _ _ _ _) _

set_option maxHeartbeats 1000000 in
set_option maxRecDepth 100000 in
theorem withEarlier_new (d : Bool) (u : Int) (e : Ent) (w : World) (hk : ¬ e.kind = 2) (hu : d = true → ¬ e.ts ≤ u) (hw : (Lit.int .u64 e.ts).wf = true) :
    Calls Try.prog 52 #[.agg #[.bool d, .int .u64 u, .map none], e.v] w fun r w' =>
      ∃ b, r = .returned (.agg #[.bool d, .int .u64 u, .map (some b)]) ∧ w.heap.size ≤ b ∧ Inn w' b 1 (fun t => if t = e.ts then some e else none) ∧ Below w.heap.size w w' := by
  have g2 : (e.kind == 2) = false := by simp [hk]
  have HI : Hid ((Lit.int .u64 e.ts).wf = true) := hw
  clear hk hw
  have hnil : ∀ wx, (binOp .eql 72 (.map none) (.map none)).run Try.prog wx = .ok (.bool true) wx :=
    fun wx => run_eql_map_nil wx _ _ _ none Try.underlying72
  have hmm := @run_makeMap Try.prog
  have hI4 : Inn ((((w.alloc (Obj.cells #[.bool d, .int .u64 u, .map (some (w.heap.size + 1 + 1 + 1))] 74)).alloc (Obj.cells #[.string e.row, .string e.fam, .string e.qual, .int .u64 e.ts, .int .i64 e.kind, .string e.val] 49)).alloc (Obj.cells #[.bool false, .int .u64 0, .map none] 74)).alloc (Obj.map #[] 0)) (w.heap.size + 1 + 1 + 1) 0 (fun _ => none) := by
    have h := Inn.made (((w.alloc (Obj.cells #[.bool d, .int .u64 u, .map (some (w.heap.size + 1 + 1 + 1))] 74)).alloc (Obj.cells #[.string e.row, .string e.fam, .string e.qual, .int .u64 e.ts, .int .i64 e.kind, .string e.val] 49)).alloc (Obj.cells #[.bool false, .int .u64 0, .map none] 74))
    have hz : (((w.alloc (Obj.cells #[.bool d, .int .u64 u, .map (some (w.heap.size + 1 + 1 + 1))] 74)).alloc (Obj.cells #[.string e.row, .string e.fam, .string e.qual, .int .u64 e.ts, .int .i64 e.kind, .string e.val] 49)).alloc (Obj.cells #[.bool false, .int .u64 0, .map none] 74)).heap.size = w.heap.size + 1 + 1 + 1 := by simp
    rw [hz] at h
    exact h
  obtain ⟨v, hlook⟩ := hI4.look HI.out
  have hI5 := hI4.kept (row := none) (World.grownBy_alloc _ (Obj.cells #[.string v.row, .string v.fam, .string v.qual, .int .u64 v.ts, .int .i64 v.kind, .string v.val] 49) none) (by simp)
  obtain ⟨w6, hput, hI6, hg6⟩ := hI5.put (by unfold maxLen; omega) e HI.out
  have hbx : Below w.heap.size w (((((w.alloc (Obj.cells #[.bool d, .int .u64 u, .map (some (w.heap.size + 1 + 1 + 1))] 74)).alloc (Obj.cells #[.string e.row, .string e.fam, .string e.qual, .int .u64 e.ts, .int .i64 e.kind, .string e.val] 49)).alloc (Obj.cells #[.bool false, .int .u64 0, .map none] 74)).alloc (Obj.map #[] 0)).alloc (Obj.cells #[.string v.row, .string v.fam, .string v.qual, .int .u64 v.ts, .int .i64 v.kind, .string v.val] 49)) := (below4 w _ _ _ _).alloc (by simp; omega) _
  have hs6 := hg6.size
  simp at hs6
  have hbl : ∀ j, j ≠ w.heap.size + 1 + 1 + 1 → j < w.heap.size + 5 → w6.heap[j]? = (((((w.alloc (Obj.cells #[.bool d, .int .u64 u, .map (some (w.heap.size + 1 + 1 + 1))] 74)).alloc (Obj.cells #[.string e.row, .string e.fam, .string e.qual, .int .u64 e.ts, .int .i64 e.kind, .string e.val] 49)).alloc (Obj.cells #[.bool false, .int .u64 0, .map none] 74)).alloc (Obj.map #[] 0)).alloc (Obj.cells #[.string v.row, .string v.fam, .string v.qual, .int .u64 v.ts, .int .i64 v.kind, .string v.val] 49)).heap[j]? := fun j h1 h2 => hg6.block j (by simp; omega) (fun q => h1 (by injection q))
  have c60 : ∀ o, w6.cell? ⟨w.heap.size, o, none⟩ = (((((w.alloc (Obj.cells #[.bool d, .int .u64 u, .map (some (w.heap.size + 1 + 1 + 1))] 74)).alloc (Obj.cells #[.string e.row, .string e.fam, .string e.qual, .int .u64 e.ts, .int .i64 e.kind, .string e.val] 49)).alloc (Obj.cells #[.bool false, .int .u64 0, .map none] 74)).alloc (Obj.map #[] 0)).alloc (Obj.cells #[.string v.row, .string v.fam, .string v.qual, .int .u64 v.ts, .int .i64 v.kind, .string v.val] 49)).cell? ⟨w.heap.size, o, none⟩ := fun o => World.cell?_of_block (hbl _ (by show w.heap.size ≠ _; omega) (by show w.heap.size < _; omega))
  have c62 : ∀ o, w6.cell? ⟨w.heap.size + 1 + 1, o, none⟩ = (((((w.alloc (Obj.cells #[.bool d, .int .u64 u, .map (some (w.heap.size + 1 + 1 + 1))] 74)).alloc (Obj.cells #[.string e.row, .string e.fam, .string e.qual, .int .u64 e.ts, .int .i64 e.kind, .string e.val] 49)).alloc (Obj.cells #[.bool false, .int .u64 0, .map none] 74)).alloc (Obj.map #[] 0)).alloc (Obj.cells #[.string v.row, .string v.fam, .string v.qual, .int .u64 v.ts, .int .i64 v.kind, .string v.val] 49)).cell? ⟨w.heap.size + 1 + 1, o, none⟩ := fun o => World.cell?_of_block (hbl _ (by show w.heap.size + 1 + 1 ≠ _; omega) (by show w.heap.size + 1 + 1 < _; omega))
  have f62 : ∀ o, w6.frozen? ⟨w.heap.size + 1 + 1, o, none⟩ = (((((w.alloc (Obj.cells #[.bool d, .int .u64 u, .map (some (w.heap.size + 1 + 1 + 1))] 74)).alloc (Obj.cells #[.string e.row, .string e.fam, .string e.qual, .int .u64 e.ts, .int .i64 e.kind, .string e.val] 49)).alloc (Obj.cells #[.bool false, .int .u64 0, .map none] 74)).alloc (Obj.map #[] 0)).alloc (Obj.cells #[.string v.row, .string v.fam, .string v.qual, .int .u64 v.ts, .int .i64 v.kind, .string v.val] 49)).frozen? ⟨w.heap.size + 1 + 1, o, none⟩ := fun o => World.frozen?_of_block (hbl _ (by show w.heap.size + 1 + 1 ≠ _; omega) (by show w.heap.size + 1 + 1 < _; omega))
  have H6 : Hid (Inn w6 (w.heap.size + 1 + 1 + 1) 1 (fun t => if t = e.ts then some e else none) ∧ Below w.heap.size w w6) :=
    ⟨hI6, ⟨hg6.os.trans hbx.os, hg6.tape.trans hbx.tape, hg6.output.trans hbx.output, by omega, fun j hj => (hg6.block j (by simp; omega) (fun q => by injection q; omega)).trans (hbx.block j hj)⟩⟩
  clear hI4 hI5 hI6 hg6 hbl hbx
  unfold Ent.v at *
  cases d
  · clear hu
    go_enter Try.func52, Try.ntmps52
    go_wp2_with fail
    refine bodyPost_ret (v := .agg #[.bool false, .int .u64 u, .map (some (w.heap.size + 1 + 1 + 1))]) (by simp [results, Try.results52, go_sem, c62]) rfl ⟨_, rfl, by omega, ?_, ?_⟩
    · exact ((H6.out.1.setCell (by show w.heap.size + 1 + 1 + 1 ≠ w.heap.size + 1 + 1; omega) _).setCell (by show w.heap.size + 1 + 1 + 1 ≠ w.heap.size + 1 + 1; omega) _).setCell (by show w.heap.size + 1 + 1 + 1 ≠ w.heap.size + 1 + 1; omega) _
    · exact ((H6.out.2.setCell (by show w.heap.size ≤ w.heap.size + 1 + 1; omega) _).setCell (by show w.heap.size ≤ w.heap.size + 1 + 1; omega) _).setCell (by show w.heap.size ≤ w.heap.size + 1 + 1; omega) _
  · have hu' : ¬ e.ts ≤ u := hu rfl
    clear hu
    go_enter Try.func52, Try.ntmps52
    go_wp2_with fail
    refine bodyPost_ret (v := .agg #[.bool true, .int .u64 u, .map (some (w.heap.size + 1 + 1 + 1))]) (by simp [results, Try.results52, go_sem, c62]) rfl ⟨_, rfl, by omega, ?_, ?_⟩
    · exact ((H6.out.1.setCell (by show w.heap.size + 1 + 1 + 1 ≠ w.heap.size + 1 + 1; omega) _).setCell (by show w.heap.size + 1 + 1 + 1 ≠ w.heap.size + 1 + 1; omega) _).setCell (by show w.heap.size + 1 + 1 + 1 ≠ w.heap.size + 1 + 1; omega) _
    · exact ((H6.out.2.setCell (by show w.heap.size ≤ w.heap.size + 1 + 1; omega) _).setCell (by show w.heap.size ≤ w.heap.size + 1 + 1; omega) _).setCell (by show w.heap.size ≤ w.heap.size + 1 + 1; omega) _
end Go.Proofs.Ytodaanmbbgdclab
