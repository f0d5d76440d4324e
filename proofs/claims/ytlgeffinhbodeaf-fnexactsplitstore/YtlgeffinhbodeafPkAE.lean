import Derived.Maps.AppendAt
import Derived.Lib.SliceRun
import Derived.BigQuiet
import Derived.Deep.DeepCutAuto
import Derived.Deep.RegionWith
import Derived.Test.YtlgeffinhbodeafPkAB
import Derived.Test.YtlgeffinhbodeafPkAC
import Derived.Test.YtlgeffinhbodeafPkAA
/-
  Appends to rows of entries, runs and tablets; slices.Clone over entries.
-/
namespace Go.Proofs.Ytlgeffinhbodeaf
open Go.ChangeShapes Go.WideShapes Go.ChangeAt Go.RowKit Go.Deep
set_option linter.unusedVariables false
set_option linter.unusedSimpArgs false
set_option maxRecDepth 100000

theorem ents_cells {w : World} {b off : Nat} {es : List Ent} (h : EntsAt w b off es) : ∀ j u, (cellsE es)[j]? = some u → w.cell? ((⟨b, off, none⟩ : Addr).add j) = some u := by
  intro j u hu
  have hj : j < es.length * 6 := by rw [← length_cellsE]; exact (List.getElem?_eq_some_iff.1 hu).1
  obtain ⟨e, he⟩ : ∃ e, es[j / 6]? = some e := ⟨_, List.getElem?_eq_getElem (by omega)⟩
  have hg := cellsE_get es (j / 6) e he (j % 6) (Nat.mod_lt _ (by omega))
  rw [show j / 6 * 6 + j % 6 = j by omega, hu] at hg
  obtain ⟨c0, c1, c2, c3, c4, c5⟩ := h (j / 6) e he
  rw [Addr.add_mid, show off + j = off + j / 6 * 6 + j % 6 by omega]
  have hm : j % 6 < 6 := Nat.mod_lt _ (by omega)
  generalize j % 6 = m at *
  match m, hm, hg with
  | 0, _, hg => rw [Nat.add_zero, c0, hg]; rfl
  | 1, _, hg => rw [c1, hg]; rfl
  | 2, _, hg => rw [c2, hg]; rfl
  | 3, _, hg => rw [c3, hg]; rfl
  | 4, _, hg => rw [c4, hg]; rfl
  | 5, _, hg => rw [c5, hg]; rfl
theorem ents_one (es : List Ent) : ∀ u ∈ cellsE es, u.oneCell' = true := by
  intro u hu
  unfold cellsE at hu
  obtain ⟨e, _, he⟩ := List.mem_flatMap.1 hu
  simp at he
  rcases he with rfl | rfl | rfl | rfl | rfl | rfl <;> rfl

/-- Entries appended to a row of the call's own. -/
theorem wpList_append_entO {ops : Array Oper} {rest : List Oper} {o : Oper} {a : Act} {Q : Exit → Act → World → Prop} (w : World) (hgd : o.guard = none) (s x : Operand)
    (ho : o.op = .call { callee := .builtin .append, args := #[s, x], argTypes := #[99, 99] })
    (base g cp n b off m cx : Nat) (fs es : List Ent) (hs : a.eval s = .slice (some ⟨g, 0, none⟩) n cp) (hx : a.eval x = .slice (some ⟨b, off, none⟩) m cx) (hn : n = fs.length) (hm : m = es.length) (hO : OwnE w base g cp fs)
    (hc : EntsAt w b off es) (hlen : fs.length + es.length ≤ 2 ^ 30) (hbase : base ≤ w.heap.size)
    (h : ∀ g' cp' w', OwnE w' base g' cp' (fs ++ es) → w.grownBy w' (some g) → (g' = g ∨ g' = w.heap.size) → wpList Try.prog ops Q rest (a.put o.dst (.slice (some ⟨g', 0, none⟩) (n + m) cp')) w') : wpList Try.prog ops Q (o :: rest) a w := by
  subst hn hm
  obtain ⟨i, hi, hz0, hz1, hz2⟩ := info_parts Try.infoEnt
  refine wpList_append_own_at w hgd s x 99 ho base 106 i _ 6 80 Try.underlying99 hi hz0 hz1 hz2 rfl (by decide) (.slice (some ⟨g, 0, none⟩) fs.length cp) fs.length (cellsE fs) hs hO ⟨b, off, none⟩ es.length cx (cellsE es) hx (length_cellsE es) (ents_cells hc) (ents_one es) ?_ ?_ hbase ?_
  · unfold maxLen; omega
  · omega
  · intro v' w' hO' hgr hnil hat
    rcases hO'.2 with ⟨h0, _⟩ | ⟨g', cap', cur, hv, _, _, hn, hcap, _, _⟩
    · have := (hnil.1 h0).1
      cases this
    · subst hv
      refine h g' cap' w' ?_ hgr ?_
      · unfold OwnE
        rw [List.length_append, cellsE_append]
        exact hO'
      · simpa [Value.ownBlock] using hat

/-- What an append to a row of runs leaves behind. -/
structure AppR (w w' : World) (base : Nat) (v v' : Value) (us ns : List Value) : Prop where
  row : w'.ownsRow base 101 1 v' (us ++ ns).length (us ++ ns)
  grown : w.grownBy w' v.ownBlock
  nil : v' = .slice none 0 0 ↔ v = .slice none 0 0 ∧ ns.length = 0
  blk : v'.ownBlock = v.ownBlock ∨ v'.ownBlock = some w.heap.size
theorem AppR.form {w w' : World} {base : Nat} {v v' : Value} {us ns : List Value} (h : AppR w w' base v v' us ns) (hv : v ≠ .slice none 0 0) : ∃ g cp, v' = .slice (some ⟨g, 0, none⟩) (us ++ ns).length cp := by
  rcases h.row.2 with ⟨h0, _⟩ | ⟨g3, cap', cur, hv', _⟩
  · exact absurd (h.nil.1 h0).1 hv
  · exact ⟨g3, cap', hv'⟩
/-- Slices appended to a row of runs (nil too). -/
theorem wpList_append_runO {ops : Array Oper} {rest : List Oper} {o : Oper} {a : Act} {Q : Exit → Act → World → Prop} (w : World) (hgd : o.guard = none) (s x : Operand)
    (ho : o.op = .call { callee := .builtin .append, args := #[s, x], argTypes := #[58, 58] })
    (base : Nat) (v : Value) (us : List Value) (b off m cx : Nat) (ns : List Value) (hs : a.eval s = v) (hx : a.eval x = .slice (some ⟨b, off, none⟩) m cx) (hm : m = ns.length) (hO : w.ownsRow base 101 1 v us.length us)
    (hc : ∀ j u, ns[j]? = some u → w.cell? ⟨b, off + j, none⟩ = some u) (h1 : ∀ u ∈ ns, u.oneCell' = true) (hlen : us.length + ns.length ≤ 2 ^ 30) (hbase : base ≤ w.heap.size)
    (h : ∀ v' w', AppR w w' base v v' us ns → wpList Try.prog ops Q rest (a.put o.dst v') w') : wpList Try.prog ops Q (o :: rest) a w := by
  subst hm
  obtain ⟨i, hi, hz0, hz1, hz2⟩ := info_parts Try.infoRun
  refine wpList_append_own_at w hgd s x 58 ho base 101 i _ 1 24 Try.underlying58 hi hz0 hz1 hz2 rfl (by decide) v us.length us hs hO ⟨b, off, none⟩ ns.length cx ns hx (by omega) (fun j u hu => by rw [Addr.add_mid]; exact hc j u hu) h1 ?_ ?_ hbase ?_
  · unfold maxLen; omega
  · omega
  · intro v' w' hO' hgr hnil hat
    exact h v' w' ⟨by rw [List.length_append]; exact hO', hgr, hnil, hat⟩
/-- What an append to a row of tablets leaves behind. -/
structure AppT (w w' : World) (base : Nat) (v v' : Value) (us ns : List Pr) : Prop where
  row : w'.ownsRow base 60 2 v' (us ++ ns).length (cellsP (us ++ ns))
  grown : w.grownBy w' v.ownBlock
  nil : v' = .slice none 0 0 ↔ v = .slice none 0 0 ∧ ns.length = 0
  blk : v'.ownBlock = v.ownBlock ∨ v'.ownBlock = some w.heap.size
theorem AppT.form {w w' : World} {base : Nat} {v v' : Value} {us ns : List Pr} (h : AppT w w' base v v' us ns) (hv : v ≠ .slice none 0 0 ∨ 0 < ns.length) : ∃ g cp, v' = .slice (some ⟨g, 0, none⟩) (us ++ ns).length cp := by
  rcases h.row.2 with ⟨h0, _⟩ | ⟨g3, cap', cur, hv', _⟩
  · have := h.nil.1 h0
    rcases hv with hv | hv
    · exact absurd this.1 hv
    · omega
  · exact ⟨g3, cap', hv'⟩
theorem pcells {w : World} {b off : Nat} {ps : List Pr} (h : ∀ i p, ps[i]? = some p → w.cell? ⟨b, off + i * 2, none⟩ = some (.string p.1) ∧ w.cell? ⟨b, off + i * 2 + 1, none⟩ = some p.2) : ∀ j u, (cellsP ps)[j]? = some u → w.cell? ((⟨b, off, none⟩ : Addr).add j) = some u := by
  intro j u hu
  have hj : j < ps.length * 2 := by rw [← length_cellsP]; exact (List.getElem?_eq_some_iff.1 hu).1
  obtain ⟨e, he⟩ : ∃ e, ps[j / 2]? = some e := ⟨_, List.getElem?_eq_getElem (by omega)⟩
  have hg := cellsP_get ps (j / 2) e he (j % 2) (Nat.mod_lt _ (by omega))
  rw [show j / 2 * 2 + j % 2 = j by omega, hu] at hg
  obtain ⟨c0, c1⟩ := h (j / 2) e he
  rw [Addr.add_mid, show off + j = off + j / 2 * 2 + j % 2 by omega]
  have hm : j % 2 < 2 := Nat.mod_lt _ (by omega)
  generalize j % 2 = m at *
  match m, hm, hg with
  | 0, _, hg => rw [Nat.add_zero, c0, hg]; rfl
  | 1, _, hg => rw [c1, hg]; rfl
/-- Tablets appended to a row of tablets (nil too). -/
theorem wpList_append_tabO {ops : Array Oper} {rest : List Oper} {o : Oper} {a : Act} {Q : Exit → Act → World → Prop} (w : World) (hgd : o.guard = none) (s x : Operand)
    (ho : o.op = .call { callee := .builtin .append, args := #[s, x], argTypes := #[26, 26] })
    (base : Nat) (v : Value) (us : List Pr) (b off m cx : Nat) (ns : List Pr) (hs : a.eval s = v) (hx : a.eval x = .slice (some ⟨b, off, none⟩) m cx) (hm : m = ns.length) (hO : w.ownsRow base 60 2 v us.length (cellsP us))
    (hc : ∀ i p, ns[i]? = some p → w.cell? ⟨b, off + i * 2, none⟩ = some (.string p.1) ∧ w.cell? ⟨b, off + i * 2 + 1, none⟩ = some p.2) (h1 : ∀ p ∈ ns, p.2.oneCell' = true) (hlen : us.length + ns.length ≤ 2 ^ 30) (hbase : base ≤ w.heap.size)
    (h : ∀ v' w', AppT w w' base v v' us ns → wpList Try.prog ops Q rest (a.put o.dst v') w') : wpList Try.prog ops Q (o :: rest) a w := by
  subst hm
  obtain ⟨i, hi, hz0, hz1, hz2⟩ := info_parts Try.infoTab
  refine wpList_append_own_at w hgd s x 26 ho base 60 i _ 2 40 Try.underlying26 hi hz0 hz1 hz2 rfl (by decide) v us.length (cellsP us) hs hO ⟨b, off, none⟩ ns.length cx (cellsP ns) hx (length_cellsP ns) (pcells hc) (fun u hu => ?_) ?_ ?_ hbase ?_
  · unfold cellsP at hu
    obtain ⟨p, hp, he⟩ := List.mem_flatMap.1 hu
    simp at he
    rcases he with rfl | rfl
    · rfl
    · exact h1 p hp
  · unfold maxLen; omega
  · omega
  · intro v' w' hO' hgr hnil hat
    exact h v' w' ⟨by rw [List.length_append, cellsP_append]; exact hO', hgr, hnil, hat⟩

theorem step_append_tabO {ops : Array Oper} {oo : Oper} {a : Act} {K : Act → World → Prop} {Q : Exit → Act → World → Prop} {E : Prop} (w : World) (hgd : oo.guard = none) (s x : Operand)
    (ho : oo.op = .call { callee := .builtin .append, args := #[s, x], argTypes := #[26, 26] })
    (base : Nat) (v : Value) (us : List Pr) (b off m cx : Nat) (ns : List Pr) (hs : a.eval s = v) (hx : a.eval x = .slice (some ⟨b, off, none⟩) m cx) (hm : m = ns.length) (hO : w.ownsRow base 60 2 v us.length (cellsP us))
    (hc : ∀ i p, ns[i]? = some p → w.cell? ⟨b, off + i * 2, none⟩ = some (.string p.1) ∧ w.cell? ⟨b, off + i * 2 + 1, none⟩ = some p.2) (h1 : ∀ p ∈ ns, p.2.oneCell' = true) (hlen : us.length + ns.length ≤ 2 ^ 30) (hbase : base ≤ w.heap.size)
    (h : ∀ v' w', AppT w w' base v v' us ns → K (a.put oo.dst v') w') : if Region.wanted oo (yielded ops a.tmps) = true then Oper.wp Try.prog oo a w K Q else E := by
  have hw : Region.wanted oo (yielded ops a.tmps) = true := by simp [Region.wanted, hgd]
  rw [if_pos hw]
  subst hm
  obtain ⟨i, hi, hz0, hz1, hz2⟩ := info_parts Try.infoTab
  obtain ⟨v', w', hr, hO', hgr, hnil, hat⟩ := run_append_own_at (P := Try.prog) w base 26 oo.type 60 i _ 2 40 Try.underlying26 hi hz0 hz1 hz2 rfl (by decide) v us.length (cellsP us) hO ⟨b, off, none⟩ ns.length cx (cellsP ns) (length_cellsP ns) (pcells hc) (fun u hu => by
    unfold cellsP at hu
    obtain ⟨p, hp, he⟩ := List.mem_flatMap.1 hu
    simp at he
    rcases he with rfl | rfl
    · rfl
    · exact h1 p hp) (by unfold maxLen; omega) (by omega) hbase
  have hfin := h v' w' ⟨by rw [List.length_append, cellsP_append]; exact hO', hgr, hnil, hat⟩
  unfold Oper.wp
  simp [execOp, ho, resolve, invoke, builtin, hs, hx, hr, Result.andThen]
  exact hfin
theorem step_append_runO {ops : Array Oper} {oo : Oper} {a : Act} {K : Act → World → Prop} {Q : Exit → Act → World → Prop} {E : Prop} (w : World) (hgd : oo.guard = none) (s x : Operand)
    (ho : oo.op = .call { callee := .builtin .append, args := #[s, x], argTypes := #[58, 58] })
    (base : Nat) (v : Value) (us : List Value) (b off m cx : Nat) (ns : List Value) (hs : a.eval s = v) (hx : a.eval x = .slice (some ⟨b, off, none⟩) m cx) (hm : m = ns.length) (hO : w.ownsRow base 101 1 v us.length us)
    (hc : ∀ j u, ns[j]? = some u → w.cell? ⟨b, off + j, none⟩ = some u) (h1 : ∀ u ∈ ns, u.oneCell' = true) (hlen : us.length + ns.length ≤ 2 ^ 30) (hbase : base ≤ w.heap.size)
    (h : ∀ v' w', AppR w w' base v v' us ns → K (a.put oo.dst v') w') : if Region.wanted oo (yielded ops a.tmps) = true then Oper.wp Try.prog oo a w K Q else E := by
  have hw : Region.wanted oo (yielded ops a.tmps) = true := by simp [Region.wanted, hgd]
  rw [if_pos hw]
  subst hm
  obtain ⟨i, hi, hz0, hz1, hz2⟩ := info_parts Try.infoRun
  obtain ⟨v', w', hr, hO', hgr, hnil, hat⟩ := run_append_own_at (P := Try.prog) w base 58 oo.type 101 i _ 1 24 Try.underlying58 hi hz0 hz1 hz2 rfl (by decide) v us.length us hO ⟨b, off, none⟩ ns.length cx ns (by omega) (fun j u hu => by rw [Addr.add_mid]; exact hc j u hu) h1 (by unfold maxLen; omega) (by omega) hbase
  have hfin := h v' w' ⟨by rw [List.length_append]; exact hO', hgr, hnil, hat⟩
  unfold Oper.wp
  simp [execOp, ho, resolve, invoke, builtin, hs, hx, hr, Result.andThen]
  exact hfin

theorem ownE_empty (w : World) (base : Nat) (hb : base ≤ w.heap.size) : OwnE (w.alloc (Obj.cells #[] 106)) base w.heap.size 0 [] :=
  World.ownsRow_lit w #[] 0 hb (by decide) (by decide)
theorem ownR_empty (w : World) (base : Nat) (hb : base ≤ w.heap.size) : (w.alloc (Obj.cells #[] 101)).ownsRow base 101 1 (.slice (some ⟨w.heap.size, 0, none⟩) 0 0) 0 [] :=
  World.ownsRow_lit w #[] 0 hb (by decide) (by decide)

set_option maxHeartbeats 1000000 in
theorem clone_core (r : Rm) (w : World) (hr : r.at w) (hl : r.es.length ≤ 1048576) :
    Calls Try.prog 65 #[.slice (some ⟨r.b, r.off, none⟩) r.es.length r.cap] w fun e w' =>
      ∃ g cp, e = .returned (.slice (some ⟨g, 0, none⟩) r.es.length cp) ∧ OwnE w' w.heap.size g cp r.es ∧ Below w.heap.size w w' := by
  have HR : Hid (r.at w) := hr
  clear hr
  have HE : Hid (OwnE (w.alloc (Obj.cells #[] 106)) w.heap.size w.heap.size 0 []) := ownE_empty w _ (Nat.le_refl _)
  have hba : Below w.heap.size w (w.alloc (Obj.cells #[] 106)) := (Below.refl _ _).alloc (Nat.le_refl _) _
  go_enter Try.func65, Try.ntmps65
  have hnil : ∀ wx : World, (binOp .eql 99 (.slice (some ⟨r.b, r.off, none⟩) r.es.length r.cap) (.slice none 0 0)).run Try.prog wx = .ok (.bool false) wx := fun wx => Go.Lib.run_eql_slice_nil wx _ _ _ _ _ _ _ Try.underlying99
  go_wp2_with (at_builtin; refine wpList_append_entO _ rfl _ _ rfl w.heap.size w.heap.size 0 0 r.b r.off r.es.length r.cap [] r.es rfl rfl rfl rfl HE.out ?hc ?hl ?hb ?_)
  case hc => exact (HR.out.below hba).ents
  case hl => simp; omega
  case hb => simp
  intro g' cp' w' hO' hgr hat
  have hb' : Below w.heap.size w w' := hba.grown hgr (by simp) (fun j hj => by cases hj; exact Nat.le_refl _)
  have HO : Hid (OwnE w' w.heap.size g' cp' r.es) := hO'
  clear hO' hgr
  go_wp2_with fail
  go_ret
  exact ⟨g', cp', rfl, HO.out, hb'⟩
end Go.Proofs.Ytlgeffinhbodeaf

/-
  spec.l7Part: the entries of a run whose rows are in a range.
-/
namespace Go.Proofs.Ytlgeffinhbodeaf
open Go.ChangeShapes Go.WideShapes Go.ChangeAt Go.RowKit Go.Deep
set_option linter.unusedVariables false
set_option linter.unusedSimpArgs false
set_option maxRecDepth 100000

abbrev inP (lo : ByteArray) (hh : Bool) (hi : ByteArray) (es : List Ent) : List Ent := es.filter fun x => inR lo hh hi x.row
theorem inP_yes {lo hi : ByteArray} {hh : Bool} {es : List Ent} {k : Nat} {x : Ent} (h : es[k]? = some x) (hx : inR lo hh hi x.row = true) : inP lo hh hi (es.take (k + 1)) = inP lo hh hi (es.take k) ++ [x] := by
  unfold inP
  rw [List.take_add_one, h, List.filter_append]
  simp [hx]
theorem inP_no {lo hi : ByteArray} {hh : Bool} {es : List Ent} {k : Nat} {x : Ent} (h : es[k]? = some x) (hx : inR lo hh hi x.row = false) : inP lo hh hi (es.take (k + 1)) = inP lo hh hi (es.take k) := by
  unfold inP
  rw [List.take_add_one, h, List.filter_append]
  simp [hx]
theorem inP_len (lo hi : ByteArray) (hh : Bool) (es : List Ent) (k : Nat) : (inP lo hh hi (es.take k)).length ≤ es.length := by
  have h1 : (inP lo hh hi (es.take k)).length ≤ (es.take k).length := List.length_filter_le ..
  have := List.length_take_le k es
  have := List.length_take (i := k) (l := es)
  omega
def SpPPost (w : World) (fs : List Ent) (e : Ending) (w' : World) : Prop := ∃ g cp, e = .returned (.slice (some ⟨g, 0, none⟩) fs.length cp) ∧ OwnE w' w.heap.size g cp fs ∧ Below w.heap.size w w'

set_option maxHeartbeats 4000000 in
theorem specPart_core (r : Rm) (lo hi : ByteArray) (hh : Bool) (w : World) (h : r.at w) (hn : r.es.length ≤ 1048576) :
    Calls Try.prog 61 #[.slice (some ⟨r.b, r.off, none⟩) r.es.length r.cap, .agg #[.string lo, .bool hh, .string hi]] w fun e w' => SpPPost w (inP lo hh hi r.es) e w' := by
  obtain ⟨Wa, hWa⟩ : ∃ Wa : World, Wa = (w.alloc (Obj.cells #[.string lo, .bool hh, .string hi] 63)).alloc (Obj.cells #[] 106) := ⟨_, rfl⟩
  have hba : Below w.heap.size w Wa := by rw [hWa]; exact ((Below.refl _ _).alloc (Nat.le_refl _) _).alloc (by simp) _
  have hza : Wa.heap.size = w.heap.size + 1 + 1 := by rw [hWa]; simp
  have HO0 : Hid (OwnE Wa (w.heap.size + 1) (w.heap.size + 1) 0 []) := by
    rw [hWa]
    have := ownE_empty (w.alloc (Obj.cells #[.string lo, .bool hh, .string hi] 63)) (w.heap.size + 1) (by simp)
    have h2 : OwnE ((w.alloc (Obj.cells #[.string lo, .bool hh, .string hi] 63)).alloc (Obj.cells #[] 106)) (w.heap.size + 1) (w.heap.size + 1) 0 [] := by simpa using this
    exact h2
  have HC : Hid (∀ wx, Below (w.heap.size + 1) Wa wx → wx.cell? ⟨w.heap.size, 0, none⟩ = some (.string lo) ∧ wx.cell? ⟨w.heap.size, 1, none⟩ = some (.bool hh) ∧ wx.cell? ⟨w.heap.size, 2, none⟩ = some (.string hi) ∧ r.at wx) := by
    intro wx hx
    refine ⟨?_, ?_, ?_, ?_⟩
    · rw [hx.cell (p := ⟨w.heap.size, 0, none⟩) (by show w.heap.size < w.heap.size + 1; omega), hWa]; simp [go_sem]
    · rw [hx.cell (p := ⟨w.heap.size, 1, none⟩) (by show w.heap.size < w.heap.size + 1; omega), hWa]; simp [go_sem]
    · rw [hx.cell (p := ⟨w.heap.size, 2, none⟩) (by show w.heap.size < w.heap.size + 1; omega), hWa]; simp [go_sem]
    · have hbx : Below w.heap.size w wx := hba.trans (hx.mono (by omega))
      exact h.below hbx
  clear h
  go_enter Try.func61, Try.ntmps61
  go_wp2_with fail
  rw [← hWa]
  clear hWa
  go_loopw [5, 6] (fun o i wr => ∃ (k g cp : Nat) (fs : List Ent), k ≤ r.es.length ∧ i = .int .i64 k ∧ o = .slice (some ⟨g, 0, none⟩) fs.length cp ∧ fs = inP lo hh hi (r.es.take k) ∧ OwnE wr (w.heap.size + 1) g cp fs ∧ Below (w.heap.size + 1) Wa wr) (fun _ i _ => r.es.length - (intOf i).toNat)
  case atStart => exact ⟨0, w.heap.size + 1, 0, [], Nat.zero_le _, rfl, rfl, rfl, HO0.out, Below.refl _ _⟩
  case round =>
    obtain ⟨k, g, cp, fs, hk, rfl, rfl, hfs, hO, hb⟩ := hrel
    have HR : Hid (fs = inP lo hh hi (r.es.take k) ∧ OwnE wr (w.heap.size + 1) g cp fs) := ⟨hfs, hO⟩
    have hfl : fs.length ≤ 1048576 := by rw [hfs]; exact Nat.le_trans (inP_len ..) hn
    have hgl := hO.lt
    have hsz := hb.size
    clear hfs hO
    by_cases hlt : k < r.es.length
    · obtain ⟨x, hx⟩ : ∃ x, r.es[k]? = some x := ⟨_, List.getElem?_eq_getElem hlt⟩
      have HX : Hid (r.es[k]? = some x) := hx
      clear hx
      have zk : (k : Int) < (r.es.length : Int) := by omega
      have HCo : Hid (∀ n : Out wr, Below (w.heap.size + 1) Wa n.u) := fun n => hb.trans (n.out.mono (by omega))
      have q1 : ∀ n : Out wr, n.u.cell? ⟨w.heap.size, 0, none⟩ = some (.string lo) := fun n => (HC.out n.u (HCo.out n)).1
      have q2 : ∀ n : Out wr, n.u.cell? ⟨w.heap.size, 1, none⟩ = some (.bool hh) := fun n => (HC.out n.u (HCo.out n)).2.1
      have q3 : ∀ n : Out wr, n.u.cell? ⟨w.heap.size, 2, none⟩ = some (.string hi) := fun n => (HC.out n.u (HCo.out n)).2.2.1
      have q4 : ∀ n : Out wr, n.u.cell? ⟨r.b, r.off + k * 6, none⟩ = some (.string x.row) := fun n => ((HC.out n.u (HCo.out n)).2.2.2.ents k x HX.out).1
      have inh2 : Nonempty (Out wr) := ⟨⟨wr, Below.refl _ _⟩⟩
      go_upto_region 5 with fail
      refine wp_region_out (by kernel_rfl) (by kernel_rfl) ?_
      repeat (go_big_quiet_step ((go_at_call 58; exact Calls.out_of (specInRange_core lo hi x.row hh _))))
      refine wpQuiet_nil ?_
      rintro wz ⟨⟨wx', hbz⟩, rfl⟩
      have hbz2 : Below (w.heap.size + 1) Wa wz := hb.trans (hbz.mono (by omega))
      have sz := hbz.size
      obtain ⟨d0, d1, d2, d3, d4, d5⟩ := (HC.out wz hbz2).2.2.2.ents k x HX.out
      clear q1 q2 q3 q4 inh2
      cases hin : inR lo hh hi x.row
      · have H : Hid (fs = inP lo hh hi (r.es.take (k + 1)) ∧ OwnE wz (w.heap.size + 1) g cp fs) := ⟨by rw [inP_no HX.out hin]; exact HR.out.1, HR.out.2.below hbz HR.out.2.lt.2⟩
        go_wp2_with fail
        go_roundw
        case rel => go_light; exact ⟨k + 1, g, cp, fs, by omega, by go_num, rfl, H.out.1, H.out.2, hbz2⟩
        case measure => go_light; simp [intOf]; omega
      · obtain ⟨W2, hW2⟩ : ∃ W2 : World, W2 = wz.alloc (Obj.cells #[.string x.row, .string x.fam, .string x.qual, .int .u64 x.ts, .int .i64 x.kind, .string x.val] 106) := ⟨_, rfl⟩
        have hb2 : Below wz.heap.size wz W2 := by rw [hW2]; exact (Below.refl _ _).alloc (Nat.le_refl _) _
        have HO2 : Hid (OwnE W2 (w.heap.size + 1) g cp fs) := (HR.out.2.below hbz HR.out.2.lt.2).below hb2 (by have := HR.out.2.lt.2; omega)
        have HE2 : Hid (EntsAt W2 wz.heap.size 0 [x]) := by rw [hW2]; exact ent_box wz x
        have s2 := hb2.size
        go_wp2_with (at_builtin; rw [← hW2]; refine wpList_append_entO _ rfl _ _ rfl (w.heap.size + 1) g cp fs.length wz.heap.size 0 1 1 fs [x] rfl rfl rfl rfl HO2.out HE2.out ?hl ?hb ?_)
        case hl => simp; omega
        case hb => omega
        intro g' cp' w3 hO3 hgr3 hat3
        have hgr4 : W2.grownBy w3 (some g) := by rw [hW2]; exact hgr3
        have hb3 : Below (w.heap.size + 1) Wa w3 := (hbz2.trans (hb2.mono (by omega))).grown hgr4 (by omega) (fun j hj => by cases hj; exact hgl.1)
        have H : Hid (fs ++ [x] = inP lo hh hi (r.es.take (k + 1)) ∧ OwnE w3 (w.heap.size + 1) g' cp' (fs ++ [x])) := ⟨by rw [inP_yes HX.out hin]; rw [← HR.out.1], hO3⟩
        clear hO3 hgr3 hgr4 hW2
        go_wp2_with fail
        go_roundw
        case rel => go_light; exact ⟨k + 1, g', cp', fs ++ [x], by omega, by go_num, by simp, H.out.1, H.out.2, hb3⟩
        case measure => go_light; simp [intOf]; omega
    · have zk : ¬ (k : Int) < (r.es.length : Int) := by omega
      have H : Hid (fs = inP lo hh hi r.es) := by
        have h1 := HR.out.1
        rw [List.take_of_length_le (by omega)] at h1
        exact h1
      go_wp2_with fail
      go_ret
      refine ⟨g, cp, (by rw [← H.out]; rfl), ?_, hba.trans (hb.mono (by omega))⟩
      rw [← H.out]
      exact HR.out.2.mono (by omega)
end Go.Proofs.Ytlgeffinhbodeaf

/-
  eqRunS, eqTablet, eqTabletS, eqStore over what reads alike.
-/
namespace Go.Proofs.Ytlgeffinhbodeaf
open Go.ChangeShapes Go.WideShapes Go.ChangeAt Go.RowKit Go.Deep
set_option linter.unusedVariables false
set_option linter.unusedSimpArgs false
set_option maxRecDepth 100000

theorem runsAt_out {w : World} {b off m : Nat} {l : List Rn} {r : Rn} (h : RunsAt w b off l) (hb : b < w.heap.size) (hr : l[m]? = some r) : (∀ n : Out w, n.u.cell? ⟨b, off + m, none⟩ = some r.u) ∧ ∀ n : Out w, InEnts n.u r.u r.es :=
  ⟨fun n => (h.below n.out hb m r hr).1, fun n => (h.below n.out hb m r hr).2⟩

set_option maxHeartbeats 2000000 in
theorem eqRunS_zero (a a' : Option Addr) (cap cap' : Nat) (w : World) :
    Calls Try.prog 105 #[.slice a 0 cap, .slice a' 0 cap'] w fun e w' => e = .returned (.bool true) ∧ Below w.heap.size w w' := by
  go_enter Try.func105, Try.ntmps105
  go_wp2_with fail
  go_loopw [5] (fun i wr => i = .int .i64 0 ∧ wr = w) (fun i _ => 0)
  case atStart => exact ⟨rfl, rfl⟩
  case round =>
    obtain ⟨rfl, rfl⟩ := hrel
    go_wp2_with fail
    go_ret
    exact ⟨rfl, Below.refl _ _⟩

set_option maxHeartbeats 2000000 in
theorem eqRunS_in (b off cap b' off' cap' : Nat) (l l' : List Rn) (w : World) (h : RunsAt w b off l) (h' : RunsAt w b' off' l') (hB : b < w.heap.size) (hB' : b' < w.heap.size) (he : esOf l = esOf l') (hn : l.length ≤ maxLen) :
    Calls Try.prog 105 #[.slice (some ⟨b, off, none⟩) l.length cap, .slice (some ⟨b', off', none⟩) l'.length cap'] w fun e w' => e = .returned (.bool true) ∧ Below w.heap.size w w' := by
  unfold maxLen at hn
  have hll : l'.length = l.length := by have := congrArg List.length he; simpa [esOf] using this.symm
  rw [hll]
  have HE : Hid (RunsAt w b off l ∧ RunsAt w b' off' l' ∧ esOf l = esOf l' ∧ l'.length = l.length) := ⟨h, h', he, hll⟩
  clear h h' he hll
  go_enter Try.func105, Try.ntmps105
  go_wp2_with fail
  go_loopw [5] (fun i wr => ∃ k : Nat, k ≤ l.length ∧ i = .int .i64 k ∧ Below w.heap.size w wr) (fun i _ => l.length - (intOf i).toNat)
  case atStart => exact ⟨0, Nat.zero_le _, rfl, Below.refl _ _⟩
  case round =>
    obtain ⟨k, hk, rfl, hb⟩ := hrel
    have hs := hb.size
    by_cases hlt : k < l.length
    · obtain ⟨r, hr⟩ : ∃ r, l[k]? = some r := ⟨_, List.getElem?_eq_getElem hlt⟩
      obtain ⟨r', hr'⟩ : ∃ r', l'[k]? = some r' := ⟨_, List.getElem?_eq_getElem (by have := HE.out.2.2.2; omega)⟩
      have hes : r'.es = r.es := by
        have h1 := congrArg (fun x => x[k]?) HE.out.2.2.1
        simp only [esOf, List.getElem?_map, hr, hr'] at h1
        simpa using h1.symm
      obtain ⟨y0, y1⟩ := runsAt_out (HE.out.1.below hb hB) (by omega) hr
      obtain ⟨z0, z1⟩ := runsAt_out (HE.out.2.1.below hb hB') (by omega) hr'
      have HY : Hid (∀ n : Out wr, InEnts n.u r.u r.es ∧ InEnts n.u r'.u r.es) := fun n => ⟨y1 n, by
        have h := z1 n
        rw [hes] at h
        exact h⟩
      clear y1 z1 hr hr' hes
      have zk : (k : Int) < (l.length : Int) := by omega
      have inh : Nonempty (Out wr) := ⟨⟨wr, Below.refl _ _⟩⟩
      go_upto_region 6 with fail
      refine wp_region_out (by kernel_rfl) (by kernel_rfl) ?_
      repeat (go_big_quiet_step ((go_at_call 128; exact Calls.out_of (eqRun_any _ _ r.es _ (HY.out _).1 (HY.out _).2))))
      refine wpQuiet_nil ?_
      rintro wy ⟨⟨wx, hby⟩, rfl⟩
      have hb2 := hb.trans (hby.mono hs)
      clear y0 z0
      go_wp2_with fail
      go_roundw
      case rel => exact ⟨k + 1, by omega, by go_num, hb2⟩
      case measure => go_light; simp [intOf]; omega
    · have zk : ¬ (k : Int) < (l.length : Int) := by omega
      go_wp2_with fail
      go_ret
      exact ⟨rfl, hb⟩

theorem InRuns.len_le {w : World} {v : Value} {rs : List Rn} (h : InRuns w v rs) : rs.length ≤ maxLen := by
  rcases h with ⟨_, _, _, rfl⟩ | ⟨b, off, cap, _, _, _, h1, h2⟩
  · simp
  · omega
theorem esOf_len {l l' : List Rn} (h : esOf l = esOf l') : l.length = l'.length := by have := congrArg List.length h; simpa [esOf] using this
theorem eqRunS_any (v v' : Value) (l l' : List Rn) (w : World) (h : InRuns w v l) (h' : InRuns w v' l') (he : esOf l = esOf l') :
    Calls Try.prog 105 #[v, v'] w fun e w' => e = .returned (.bool true) ∧ Below w.heap.size w w' := by
  have hm := h.len_le
  have hll := esOf_len he
  rcases h with ⟨a, cap, rfl, rfl⟩ | ⟨b, off, cap, rfl, hE, hB, hlen, hcap⟩
  · rcases h' with ⟨a', cap', rfl, _⟩ | ⟨b', off', cap', rfl, _, _, _, _⟩
    · exact eqRunS_zero _ _ _ _ w
    · rw [← hll]; exact eqRunS_zero _ _ _ _ w
  · rcases h' with ⟨a', cap', rfl, rfl⟩ | ⟨b', off', cap', rfl, hE', hB', hlen', hcap'⟩
    · rw [hll]; exact eqRunS_zero _ _ _ _ w
    · exact eqRunS_in b off cap b' off' cap' l l' w hE hE' hB hB' he hm

set_option maxHeartbeats 2000000 in
theorem eqTablet_any (lo : ByteArray) (v v' : Value) (l l' : List Rn) (w : World) (h : InRuns w v l) (h' : InRuns w v' l') (he : esOf l = esOf l') :
    Calls Try.prog 70 #[.agg #[.string lo, v], .agg #[.string lo, v']] w fun e w' => e = .returned (.bool true) ∧ Below w.heap.size w w' := by
  have HE : Hid (InRuns w v l ∧ InRuns w v' l' ∧ esOf l = esOf l') := ⟨h, h', he⟩
  have hu := h.ucells
  have hu' := h'.ucells
  clear h h' he
  go_enter Try.func70, Try.ntmps70
  go_wp2_with fail
  have k0 : Below w.heap.size w ((w.alloc (Obj.cells #[.string lo, v] 60)).alloc (Obj.cells #[.string lo, v'] 60)) := ((Below.refl _ _).alloc (Nat.le_refl _) _).alloc (by simp) _
  refine (eqRunS_any v v' l l' _ (HE.out.1.below k0) (HE.out.2.1.below k0) HE.out.2.2).mono ?_
  rintro e w1 ⟨rfl, hb1⟩
  go_wp2_with fail
  go_ret
  exact ⟨rfl, k0.trans (hb1.mono (by simp; omega))⟩

theorem tabsAt_out {w : World} {b off m : Nat} {l : List Tn} {r : Tn} (h : TabsAt w b off l) (hb : b < w.heap.size) (hr : l[m]? = some r) : (∀ n : Out w, n.u.cell? ⟨b, off + m * 2, none⟩ = some (.string r.lo)) ∧ (∀ n : Out w, n.u.cell? ⟨b, off + m * 2 + 1, none⟩ = some r.u) ∧ ∀ n : Out w, InRuns n.u r.u r.rs :=
  ⟨fun n => (h.below n.out hb m r hr).1, fun n => (h.below n.out hb m r hr).2.1, fun n => (h.below n.out hb m r hr).2.2⟩
/-- What tablets read as. -/
def vwT (ts : List Tn) : List (ByteArray × List (List Ent)) := ts.map fun t => (t.lo, esOf t.rs)
theorem vwT_len {l l' : List Tn} (h : vwT l = vwT l') : l.length = l'.length := by have := congrArg List.length h; simpa [vwT] using this

set_option maxHeartbeats 2000000 in
theorem eqTabletS_zero (a a' : Option Addr) (cap cap' : Nat) (w : World) :
    Calls Try.prog 33 #[.slice a 0 cap, .slice a' 0 cap'] w fun e w' => e = .returned (.bool true) ∧ Below w.heap.size w w' := by
  go_enter Try.func33, Try.ntmps33
  go_wp2_with fail
  go_loopw [5] (fun i wr => i = .int .i64 0 ∧ wr = w) (fun i _ => 0)
  case atStart => exact ⟨rfl, rfl⟩
  case round =>
    obtain ⟨rfl, rfl⟩ := hrel
    go_wp2_with fail
    go_ret
    exact ⟨rfl, Below.refl _ _⟩

set_option maxHeartbeats 2000000 in
theorem eqTabletS_in (b off cap b' off' cap' : Nat) (l l' : List Tn) (w : World) (h : TabsAt w b off l) (h' : TabsAt w b' off' l') (hB : b < w.heap.size) (hB' : b' < w.heap.size) (he : vwT l = vwT l') (hn : l.length ≤ maxLen) :
    Calls Try.prog 33 #[.slice (some ⟨b, off, none⟩) l.length cap, .slice (some ⟨b', off', none⟩) l'.length cap'] w fun e w' => e = .returned (.bool true) ∧ Below w.heap.size w w' := by
  unfold maxLen at hn
  have hll : l'.length = l.length := (vwT_len he).symm
  rw [hll]
  have HE : Hid (TabsAt w b off l ∧ TabsAt w b' off' l' ∧ vwT l = vwT l' ∧ l'.length = l.length) := ⟨h, h', he, hll⟩
  clear h h' he hll
  go_enter Try.func33, Try.ntmps33
  go_wp2_with fail
  go_loopw [5] (fun i wr => ∃ k : Nat, k ≤ l.length ∧ i = .int .i64 k ∧ Below w.heap.size w wr) (fun i _ => l.length - (intOf i).toNat)
  case atStart => exact ⟨0, Nat.zero_le _, rfl, Below.refl _ _⟩
  case round =>
    obtain ⟨k, hk, rfl, hb⟩ := hrel
    have hs := hb.size
    by_cases hlt : k < l.length
    · obtain ⟨r, hr⟩ : ∃ r, l[k]? = some r := ⟨_, List.getElem?_eq_getElem hlt⟩
      obtain ⟨r', hr'⟩ : ∃ r', l'[k]? = some r' := ⟨_, List.getElem?_eq_getElem (by have := HE.out.2.2.2; omega)⟩
      obtain ⟨hlo, hes⟩ : r'.lo = r.lo ∧ esOf r.rs = esOf r'.rs := by
        have h1 := congrArg (fun x => x[k]?) HE.out.2.2.1
        simp only [vwT, List.getElem?_map, hr, hr'] at h1
        simp at h1
        exact ⟨h1.1.symm, h1.2⟩
      obtain ⟨y0, y0', y1⟩ := tabsAt_out (HE.out.1.below hb hB) (by omega) hr
      obtain ⟨z0, z0', z1⟩ := tabsAt_out (HE.out.2.1.below hb hB') (by omega) hr'
      rw [hlo] at z0
      have HY : Hid (esOf r.rs = esOf r'.rs ∧ ∀ n : Out wr, InRuns n.u r.u r.rs ∧ InRuns n.u r'.u r'.rs) := ⟨hes, fun n => ⟨y1 n, z1 n⟩⟩
      clear y1 z1 hr hr' hes hlo
      have zk : (k : Int) < (l.length : Int) := by omega
      have inh : Nonempty (Out wr) := ⟨⟨wr, Below.refl _ _⟩⟩
      go_upto_region 6 with fail
      refine wp_region_out (by kernel_rfl) (by kernel_rfl) ?_
      repeat (go_big_quiet_step ((go_at_call 70; exact Calls.out_of (eqTablet_any r.lo _ _ r.rs r'.rs _ (HY.out.2 _).1 (HY.out.2 _).2 HY.out.1))))
      refine wpQuiet_nil ?_
      rintro wy ⟨⟨wx, hby⟩, rfl⟩
      have hb2 := hb.trans (hby.mono hs)
      clear y0 y0' z0 z0'
      go_wp2_with fail
      go_roundw
      case rel => exact ⟨k + 1, by omega, by go_num, hb2⟩
      case measure => go_light; simp [intOf]; omega
    · have zk : ¬ (k : Int) < (l.length : Int) := by omega
      go_wp2_with fail
      go_ret
      exact ⟨rfl, hb⟩

theorem eqTabletS_any (v v' : Value) (l l' : List Tn) (w : World) (h : InTabs w v l) (h' : InTabs w v' l') (he : vwT l = vwT l') :
    Calls Try.prog 33 #[v, v'] w fun e w' => e = .returned (.bool true) ∧ Below w.heap.size w w' := by
  have hll := vwT_len he
  rcases h with ⟨a, cap, rfl, rfl⟩ | ⟨b, off, cap, rfl, hE, hB, hlen, hcap⟩
  · rcases h' with ⟨a', cap', rfl, _⟩ | ⟨b', off', cap', rfl, _, _, _, _⟩
    · exact eqTabletS_zero _ _ _ _ w
    · rw [← hll]; exact eqTabletS_zero _ _ _ _ w
  · rcases h' with ⟨a', cap', rfl, rfl⟩ | ⟨b', off', cap', rfl, hE', hB', hlen', hcap'⟩
    · rw [hll]; exact eqTabletS_zero _ _ _ _ w
    · exact eqTabletS_in b off cap b' off' cap' l l' w hE hE' hB hB' he (by omega)

set_option maxHeartbeats 2000000 in
theorem eqStore_any (v v' : Value) (l l' : List Tn) (w : World) (h : InTabs w v l) (h' : InTabs w v' l') (he : vwT l = vwT l') :
    Calls Try.prog 9 #[.agg #[v], .agg #[v']] w fun e w' => e = .returned (.bool true) ∧ Below w.heap.size w w' := by
  have HE : Hid (InTabs w v l ∧ InTabs w v' l' ∧ vwT l = vwT l') := ⟨h, h', he⟩
  have hu := h.ucells
  have hu' := h'.ucells
  clear h h' he
  go_enter Try.func9, Try.ntmps9
  go_wp2_with fail
  have k0 : Below w.heap.size w ((w.alloc (Obj.cells #[v] 28)).alloc (Obj.cells #[v'] 28)) := ((Below.refl _ _).alloc (Nat.le_refl _) _).alloc (by simp) _
  refine (eqTabletS_any v v' l l' _ (HE.out.1.below k0) (HE.out.2.1.below k0) HE.out.2.2).mono ?_
  rintro e w1 ⟨rfl, hb1⟩
  go_wp2_with fail
  go_ret
  exact ⟨rfl, k0.trans (hb1.mono (by simp; omega))⟩
end Go.Proofs.Ytlgeffinhbodeaf

/-
  The marks, looked for.
-/
namespace Go.Proofs.Ytlgeffinhbodeaf
open Go.ChangeShapes Go.WideShapes Go.ChangeAt Go.RowKit Go.Deep
set_option linter.unusedVariables false

theorem markText_in (W0 : World) (a : Int) (w : World) (hb : Below W0.heap.size W0 w) (h0 : 0 < a) (h1 : a ≤ 2 ^ 40) :
    Calls Try.prog 71 #[.int .i64 a] w fun e w' => e = .returned (.string (mText a.toNat)) ∧ Below W0.heap.size W0 w' := by
  refine (markText_any a w h0 h1).mono ?_
  rintro e w' ⟨he, hb'⟩
  exact ⟨he, hb.trans (hb'.mono hb.size)⟩

set_option maxHeartbeats 2000000 in
theorem heldEntryS_core (b off cap : Nat) (es : List Ent) (k : Int) (w : World) (hE : EntsAt w b off es) (hmk : marked k es es.length) (hB : b < w.heap.size) (h0 : 0 < k) (h1 : k ≤ 2 ^ 30) (hn : es.length ≤ 1048576) :
    Calls Try.prog 107 #[.slice (some ⟨b, off, none⟩) es.length cap, .int .i64 k] w fun e w' =>
      e = .returned (.int .i64 (k + es.length * 6)) ∧ Below w.heap.size w w' := by
  have HE : Hid (EntsAt w b off es ∧ marked k es es.length) := ⟨hE, hmk⟩
  clear hE hmk
  go_enter Try.func107, Try.ntmps107
  go_wp2
  go_loopw [1, 5] (fun c i wr => ∃ (m : Nat) (a : Int), m ≤ es.length ∧ i = .int .i64 m ∧ c = .int .i64 a ∧ a = k + m * 6 ∧ Below w.heap.size w wr) (fun _ i _ => es.length - (intOf i).toNat)
  case atStart => exact ⟨0, k, Nat.zero_le _, rfl, rfl, by simp, Below.refl _ _⟩
  case round =>
    obtain ⟨m, a, hm, rfl, rfl, ha, hb⟩ := hrel
    have ha0 : 0 < a := by omega
    have ha1 : a ≤ 2 ^ 31 := by omega
    have HA : Hid (a = k + m * 6) := ha
    clear ha
    have hs := hb.size
    by_cases hlt : m < es.length
    · have he : es[m]? = some (mEnt a) := by rw [HA.out]; exact HE.out.2 m hlt
      have HM : Hid (es[m]? = some (mEnt a)) := he
      clear he
      have z2 : (m : Int) < (es.length : Int) := by omega
      have hce : ∀ wx, Below w.heap.size w wx → wx.cell? ⟨b, off + m * 6, none⟩ = some (.string (mText a.toNat)) ∧ wx.cell? ⟨b, off + m * 6 + 1, none⟩ = some (.string (mText (a + 1).toNat)) ∧ wx.cell? ⟨b, off + m * 6 + 2, none⟩ = some (.string (mText (a + 1 + 1).toNat)) ∧
          wx.cell? ⟨b, off + m * 6 + 3, none⟩ = some (.int .u64 (a + 1 + 1 + 1)) ∧ wx.cell? ⟨b, off + m * 6 + 4, none⟩ = some (.int .i64 (a + 1 + 1 + 1 + 1)) ∧ wx.cell? ⟨b, off + m * 6 + 5, none⟩ = some (.string (mText (a + 1 + 1 + 1 + 1 + 1).toNat)) :=
        fun wx hx => (HE.out.1.below hx hB) m _ HM.out
      have HC : Hid (∀ wx, Below w.heap.size w wx → wx.cell? ⟨b, off + m * 6, none⟩ = some (.string (mText a.toNat)) ∧ wx.cell? ⟨b, off + m * 6 + 1, none⟩ = some (.string (mText (a + 1).toNat)) ∧ wx.cell? ⟨b, off + m * 6 + 2, none⟩ = some (.string (mText (a + 1 + 1).toNat)) ∧
          wx.cell? ⟨b, off + m * 6 + 3, none⟩ = some (.int .u64 (a + 1 + 1 + 1)) ∧ wx.cell? ⟨b, off + m * 6 + 4, none⟩ = some (.int .i64 (a + 1 + 1 + 1 + 1)) ∧ wx.cell? ⟨b, off + m * 6 + 5, none⟩ = some (.string (mText (a + 1 + 1 + 1 + 1 + 1).toNat))) := hce
      clear hce
      have c1 := (HC.out wr hb).1
      go_upto_region 4 with fail
      go_cut [19] (fun s wx => s = .bool false ∧ Below w.heap.size w wx)
      case first =>
        go_region_with (go_at_call 71; refine (markText_in w _ _ ?hB (by omega) (by omega)).mono ?_; (case hB => (repeat (first | assumption | refine Below.drew ?_))); rintro e' w' ⟨rfl, hbb⟩; have cx := (HC.out w' hbb).1)
        all_goals go_wp2_with fail
        all_goals go_meet
        all_goals exact ⟨rfl, by assumption⟩
      case rest =>
      obtain ⟨rfl, h2⟩ := hcut
      clear c1
      obtain ⟨wa, rfl⟩ : ∃ wa : World, wa = wc := ⟨_, rfl⟩
      have c2 := (HC.out wa h2).2.1
      go_upto_region 7 with fail
      go_cut [29] (fun s wx => s = .bool false ∧ Below w.heap.size w wx)
      case first =>
        go_region_with (go_at_call 71; refine (markText_in w _ _ ?hB (by omega) (by omega)).mono ?_; (case hB => (repeat (first | assumption | refine Below.drew ?_))); rintro e' w' ⟨rfl, hbb⟩; have cx := (HC.out w' hbb).2.1)
        all_goals go_wp2_with fail
        all_goals go_meet
        all_goals exact ⟨rfl, by assumption⟩
      case rest =>
      obtain ⟨rfl, h3⟩ := hcut
      clear c2
      obtain ⟨wb, rfl⟩ : ∃ wb : World, wb = wc := ⟨_, rfl⟩
      have c3 := (HC.out wb h3).2.2.1
      go_upto_region 10 with fail
      go_cut [39] (fun s wx => s = .bool false ∧ Below w.heap.size w wx)
      case first =>
        go_region_with (go_at_call 71; refine (markText_in w _ _ ?hB (by omega) (by omega)).mono ?_; (case hB => (repeat (first | assumption | refine Below.drew ?_))); rintro e' w' ⟨rfl, hbb⟩; have cx := (HC.out w' hbb).2.2.1)
        all_goals go_wp2_with fail
        all_goals go_meet
        all_goals exact ⟨rfl, by assumption⟩
      case rest =>
      obtain ⟨rfl, h4⟩ := hcut
      clear c3
      obtain ⟨wd, rfl⟩ : ∃ wd : World, wd = wc := ⟨_, rfl⟩
      have c4 := (HC.out wd h4).2.2.2.1
      have c5 := (HC.out wd h4).2.2.2.2.1
      have c6 := (HC.out wd h4).2.2.2.2.2
      go_upto_region 19 with fail
      go_cut [68] (fun s wx => s = .bool false ∧ Below w.heap.size w wx)
      case first =>
        go_region_with (go_at_call 71; refine (markText_in w _ _ ?hB (by omega) (by omega)).mono ?_; (case hB => (repeat (first | assumption | refine Below.drew ?_))); rintro e' w' ⟨rfl, hbb⟩; have cx := (HC.out w' hbb).2.2.2.2.2)
        all_goals go_wp2_with fail
        all_goals go_meet
        all_goals exact ⟨rfl, by assumption⟩
      case rest =>
      obtain ⟨rfl, h5⟩ := hcut
      clear c4 c5 c6
      go_wp2_with fail
      refine ⟨⟨m + 1, a + 1 + 1 + 1 + 1 + 1 + 1, by omega, by go_num, rfl, ?_, h5⟩, ?_⟩
      · go_light
        have := HA.out
        omega
      · go_light
        simp [intOf]; omega
    · go_wp2_with fail
      go_ret
      have e1 : m = es.length := by omega
      refine ⟨?_, hb⟩
      rw [HA.out, e1]; rfl
end Go.Proofs.Ytlgeffinhbodeaf

/-
  A run that came back: of the call's own, or nil; its marks.
-/
namespace Go.Proofs.Ytlgeffinhbodeaf
open Go.ChangeShapes Go.WideShapes Go.ChangeAt Go.RowKit Go.Deep
set_option linter.unusedVariables false
set_option maxRecDepth 100000

/-- A slice of the call's own, or nil. -/
def OwnU (w : World) (base : Nat) (u : Value) (R : List Ent) : Prop := (u = .slice none 0 0 ∧ R = []) ∨ ∃ g cp, u = .slice (some ⟨g, 0, none⟩) R.length cp ∧ OwnE w base g cp R
theorem OwnE.caps {w : World} {base g cp : Nat} {R : List Ent} (h : OwnE w base g cp R) : R.length ≤ cp ∧ cp ≤ maxLen := by
  rcases h.2 with ⟨h0, _⟩ | ⟨g', cap', cur, hv, _, _, hn, hcap, _, _⟩
  · cases h0
  · simp only [Value.slice.injEq, Option.some.injEq, Addr.mk.injEq, and_true, true_and] at hv
    obtain ⟨rfl, rfl⟩ := hv
    exact ⟨hn, hcap⟩
theorem OwnU.ins {w : World} {base : Nat} {u : Value} {R : List Ent} (h : OwnU w base u R) : InEnts w u R := by
  rcases h with ⟨rfl, rfl⟩ | ⟨g, cp, rfl, hO⟩
  · exact .inl ⟨_, _, rfl, rfl⟩
  · exact InEnts.own hO hO.caps.1 hO.caps.2
theorem OwnU.kept {w w' : World} {base : Nat} {u : Value} {R : List Ent} {row : Option Nat} (h : OwnU w base u R) (hg : w.grownBy w' row) (hne : ∀ g, row = some g → g < base) : OwnU w' base u R := by
  rcases h with h | ⟨g, cp, rfl, hO⟩
  · exact .inl h
  · exact .inr ⟨g, cp, rfl, World.ownsRow.kept hO hg (.inr (fun q => by have := hne g q.symm; have := hO.lt.1; omega))⟩
theorem OwnU.row {w : World} {base : Nat} {u : Value} {R : List Ent} (h : OwnU w base u R) : ∀ g, u.ownBlock = some g → base ≤ g ∧ g < w.heap.size := by
  intro g hg
  rcases h with ⟨rfl, _⟩ | ⟨g', cp, rfl, hO⟩
  · cases hg
  · have : g' = g := Option.some.inj hg
    subst this
    exact hO.lt
theorem OwnU.keptNe {w w' : World} {base : Nat} {u : Value} {R : List Ent} {row : Option Nat} (h : OwnU w base u R) (hg : w.grownBy w' row) (hne : ∀ g, u.ownBlock = some g → row ≠ some g) : OwnU w' base u R := by
  rcases h with h | ⟨g, cp, rfl, hO⟩
  · exact .inl h
  · exact .inr ⟨g, cp, rfl, World.ownsRow.kept hO hg (.inr (fun q => hne g rfl q.symm))⟩
theorem OwnU.ownCells {w : World} {base : Nat} {u : Value} {R : List Ent} (h : OwnU w base u R) : u.cells = #[u] := by
  rcases h with ⟨rfl, _⟩ | ⟨g, cp, rfl, _⟩ <;> rfl

set_option maxHeartbeats 400000 in
theorem markEntryS_zero (a : Option Addr) (cap : Nat) (k : Int) (w : World) :
    Calls Try.prog 106 #[.slice a 0 cap, .int .i64 k] w fun e w' => e = .returned (.int .i64 k) ∧ Below w.heap.size w w' := by
  go_enter Try.func106, Try.ntmps106
  go_wp2
  go_loopw [1, 5] (fun c i wr => c = .int .i64 k ∧ i = .int .i64 0 ∧ wr = w) (fun _ i _ => 0)
  case atStart => exact ⟨rfl, rfl, rfl⟩
  case round =>
    obtain ⟨rfl, rfl, rfl⟩ := hrel
    go_wp2_with fail
    go_ret
    exact ⟨rfl, Below.refl _ _⟩
set_option maxHeartbeats 400000 in
theorem heldEntryS_zero (a : Option Addr) (cap : Nat) (k : Int) (w : World) :
    Calls Try.prog 107 #[.slice a 0 cap, .int .i64 k] w fun e w' => e = .returned (.int .i64 k) ∧ Below w.heap.size w w' := by
  go_enter Try.func107, Try.ntmps107
  go_wp2
  go_loopw [1, 5] (fun c i wr => c = .int .i64 k ∧ i = .int .i64 0 ∧ wr = w) (fun _ i _ => 0)
  case atStart => exact ⟨rfl, rfl, rfl⟩
  case round =>
    obtain ⟨rfl, rfl, rfl⟩ := hrel
    go_wp2_with fail
    go_ret
    exact ⟨rfl, Below.refl _ _⟩

/-- Marks laid: only blocks from 'base' on have turned. -/
theorem markEntryS_own (base : Nat) (u : Value) (R : List Ent) (k : Int) (w : World) (h : OwnU w base u R) (h0 : 0 < k) (h1 : k ≤ 2 ^ 30) (hn : R.length ≤ 1048576) (hbase : base ≤ w.heap.size) :
    Calls Try.prog 106 #[u, .int .i64 k] w fun e w' =>
      ∃ R', e = .returned (.int .i64 (k + R.length * 6)) ∧ OwnU w' base u R' ∧ R'.length = R.length ∧ marked k R' R'.length ∧ w.grownBy w' u.ownBlock := by
  rcases h with ⟨rfl, rfl⟩ | ⟨g, cp, rfl, hO⟩
  · refine (markEntryS_zero none 0 k w).mono ?_
    rintro e w' ⟨rfl, hb⟩
    exact ⟨[], by simp, .inl ⟨rfl, rfl⟩, rfl, fun j hj => by simp at hj, grown_of_below hb _⟩
  · refine (markEntryS_core base g cp R k w hO h0 h1 hn).mono ?_
    rintro e w' ⟨fs, rfl, hO', hl, hm, hg⟩
    exact ⟨fs, rfl, .inr ⟨g, cp, by rw [hl], hO'⟩, hl, by rw [hl]; exact hm, hg⟩
theorem heldEntryS_own (base : Nat) (u : Value) (R : List Ent) (k : Int) (w : World) (h : OwnU w base u R) (hm : marked k R R.length) (h0 : 0 < k) (h1 : k ≤ 2 ^ 30) (hn : R.length ≤ 1048576) :
    Calls Try.prog 107 #[u, .int .i64 k] w fun e w' => e = .returned (.int .i64 (k + R.length * 6)) ∧ Below w.heap.size w w' := by
  rcases h with ⟨rfl, rfl⟩ | ⟨g, cp, rfl, hO⟩
  · refine (heldEntryS_zero none 0 k w).mono ?_
    rintro e w' ⟨rfl, hb⟩
    exact ⟨by simp, hb⟩
  · exact heldEntryS_core g 0 cp R k w hO.at hm hO.lt.2 h0 h1 hn

end Go.Proofs.Ytlgeffinhbodeaf

/-
  What has turned between two worlds.
-/
namespace Go.Proofs.Ytlgeffinhbodeaf
open Go.ChangeShapes Go.WideShapes Go.ChangeAt Go.RowKit Go.Deep
set_option linter.unusedVariables false
set_option linter.unusedSimpArgs false

/-- From 'w' to 'w'': only what lies in blocks of 'S' has turned, and new blocks came. -/
structure Chg (S : Nat → Prop) (w w' : World) : Prop where
  os : w'.os = w.os
  tape : w'.tape = w.tape
  output : w'.output = w.output
  size : w.heap.size ≤ w'.heap.size
  block : ∀ k, k < w.heap.size → ¬ S k → w'.heap[k]? = w.heap[k]?
theorem Chg.refl (S : Nat → Prop) (w : World) : Chg S w w := ⟨rfl, rfl, rfl, Nat.le_refl _, fun _ _ _ => rfl⟩
theorem Chg.trans {S : Nat → Prop} {a b c : World} (h : Chg S a b) (k : Chg S b c) : Chg S a c :=
  ⟨k.os.trans h.os, k.tape.trans h.tape, k.output.trans h.output, Nat.le_trans h.size k.size, fun i hi hn => (k.block i (Nat.lt_of_lt_of_le hi h.size) hn).trans (h.block i hi hn)⟩
theorem Chg.mono {S T : Nat → Prop} {w w' : World} (h : Chg S w w') (hs : ∀ k, S k → T k) : Chg T w w' := ⟨h.os, h.tape, h.output, h.size, fun k hk hn => h.block k hk (fun q => hn (hs k q))⟩
theorem Chg.of_below {S : Nat → Prop} {w w' : World} (h : Below w.heap.size w w') : Chg S w w' := ⟨h.os, h.tape, h.output, h.size, fun k hk _ => h.block k hk⟩
theorem Chg.of_grown {S : Nat → Prop} {w w' : World} {row : Option Nat} (h : w.grownBy w' row) (hs : ∀ k, row = some k → S k) : Chg S w w' :=
  ⟨h.os, h.tape, h.output, h.size, fun k hk hn => h.block k hk (fun q => hn (hs k q.symm))⟩
theorem Chg.of_set {S : Nat → Prop} (w : World) (g o : Nat) (u : Value) (hs : S g) : Chg S w (w.setCell ⟨g, o, none⟩ u) := Chg.of_grown (grown_set w g o u) (fun k hk => by cases hk; exact hs)
theorem Chg.below {S : Nat → Prop} {B : Nat} {a w w' : World} (h : Below B a w) (k : Chg S w w') (hB : B ≤ w.heap.size) (hs : ∀ k, S k → B ≤ k) : Below B a w' :=
  h.trans ⟨k.os, k.tape, k.output, k.size, fun i hi => k.block i (by omega) (fun q => by have := hs i q; omega)⟩
theorem Chg.cell {S : Nat → Prop} {w w' : World} (h : Chg S w w') {p : Addr} (hp : p.block < w.heap.size) (hn : ¬ S p.block) : w'.cell? p = w.cell? p := World.cell?_of_block (w := w) (h.block p.block hp hn)
theorem Chg.frozen {S : Nat → Prop} {w w' : World} (h : Chg S w w') {p : Addr} (hp : p.block < w.heap.size) (hn : ¬ S p.block) : w'.frozen? p = w.frozen? p := World.frozen?_of_block (w := w) (h.block p.block hp hn)
theorem EntsAt.chg {S : Nat → Prop} {w w' : World} {b off : Nat} {es : List Ent} (h : EntsAt w b off es) (hb : Chg S w w') (hlt : b < w.heap.size) (hn : ¬ S b) : EntsAt w' b off es := by
  intro i e he
  have := h i e he
  refine ⟨?_, ?_, ?_, ?_, ?_, ?_⟩
  all_goals rw [hb.cell (by exact hlt) (by exact hn)]
  · exact this.1
  · exact this.2.1
  · exact this.2.2.1
  · exact this.2.2.2.1
  · exact this.2.2.2.2.1
  · exact this.2.2.2.2.2
theorem own_apart {w : World} {base e size : Nat} {v : Value} {n : Nat} {xs : List Value} {base' e' size' : Nat} {v' : Value} {n' : Nat} {xs' : List Value} (h : w.ownsRow base e size v n xs) (h' : w.ownsRow base' e' size' v' n' xs') (hne : e ≠ e') : ∀ k, v.ownBlock = some k → v'.ownBlock ≠ some k := by
  intro k hk hk'
  rcases h.2 with ⟨rfl, _⟩ | ⟨g1, cap1, cur, rfl, _, hc, _⟩
  · simp [Value.ownBlock] at hk
  · rcases h'.2 with ⟨rfl, _⟩ | ⟨g2, cap2, cur2, rfl, _, hc2, _⟩
    · simp [Value.ownBlock] at hk'
    · simp [Value.ownBlock] at hk hk'
      subst hk hk'
      rw [hc] at hc2
      simp at hc2
      exact hne hc2.2
theorem own_chg {S : Nat → Prop} {w w' : World} {base e size : Nat} {v : Value} {n : Nat} {xs : List Value} (h : w.ownsRow base e size v n xs) (hb : Chg S w w') (hn : ∀ k, v.ownBlock = some k → ¬ S k) : w'.ownsRow base e size v n xs := by
  refine ⟨h.1, ?_⟩
  rcases h.2 with hz | ⟨g, cap, cur, rfl, h1, hg, rest⟩
  · exact .inl hz
  · refine .inr ⟨g, cap, cur, rfl, h1, ?_, rest⟩
    have hlt : g < w.heap.size := by
      rcases Nat.lt_or_ge g w.heap.size with q | q
      · exact q
      · rw [Array.getElem?_eq_none q] at hg; cases hg
    rw [hb.block g hlt (hn g rfl)]; exact hg

end Go.Proofs.Ytlgeffinhbodeaf

/-
  Stores that came back: of the call's own all through; marks laid.
-/
namespace Go.Proofs.Ytlgeffinhbodeaf
open Go.ChangeShapes Go.WideShapes Go.ChangeAt Go.RowKit Go.Deep
set_option linter.unusedVariables false
set_option linter.unusedSimpArgs false
set_option maxRecDepth 100000

/-- A run: its slice, its entries, and the block that they lie in, if there are any. -/
structure Rw where
  u : Value
  es : List Ent
  k : Option Nat
def OwnK (w : World) (base : Nat) (r : Rw) : Prop :=
  (r.k = none ∧ r.es = [] ∧ ∃ a c, r.u = .slice a 0 c) ∨ ∃ g cp, r.k = some g ∧ r.u = .slice (some ⟨g, 0, none⟩) r.es.length cp ∧ OwnE w base g cp r.es
theorem OwnK.ucells {w : World} {base : Nat} {r : Rw} (h : OwnK w base r) : r.u.cells = #[r.u] := by
  rcases h with ⟨_, _, a, c, h⟩ | ⟨g, cp, _, h, _⟩ <;> rw [h] <;> rfl
theorem OwnK.ins {w : World} {base : Nat} {r : Rw} (h : OwnK w base r) : InEnts w r.u r.es := by
  rcases h with ⟨_, h1, a, c, h⟩ | ⟨g, cp, _, h, hO⟩
  · exact .inl ⟨a, c, h, h1⟩
  · rw [h]; exact InEnts.own hO hO.caps.1 hO.caps.2
theorem OwnK.kept {w w' : World} {base : Nat} {r : Rw} {row : Option Nat} (h : OwnK w base r) (hg : w.grownBy w' row) (hne : ∀ g, r.k = some g → row ≠ some g) : OwnK w' base r := by
  rcases h with h | ⟨g, cp, hk, hu, hO⟩
  · exact .inl h
  · exact .inr ⟨g, cp, hk, hu, World.ownsRow.kept hO hg (.inr (fun q => hne g hk q.symm))⟩
theorem OwnK.below {w w' : World} {base : Nat} {r : Rw} (h : OwnK w base r) (hb : Below w.heap.size w w') : OwnK w' base r := by
  rcases h with h | ⟨g, cp, hk, hu, hO⟩
  · exact .inl h
  · exact .inr ⟨g, cp, hk, hu, hO.below hb hO.lt.2⟩
theorem OwnK.key {w : World} {base : Nat} {r : Rw} (h : OwnK w base r) {g : Nat} (hg : r.k = some g) : base ≤ g ∧ g < w.heap.size := by
  rcases h with ⟨h, _⟩ | ⟨g', cp, hk, hu, hO⟩
  · rw [h] at hg; cases hg
  · rw [hk] at hg; cases hg; exact hO.lt
theorem OwnK.chg {S : Nat → Prop} {w w' : World} {base : Nat} {r : Rw} (h : OwnK w base r) (hb : Chg S w w') (hne : ∀ g, r.k = some g → ¬ S g) : OwnK w' base r := by
  rcases h with h | ⟨g, cp, hk, hu, hO⟩
  · exact .inl h
  · exact .inr ⟨g, cp, hk, hu, own_chg hO hb (fun k q => by have : g = k := Option.some.inj q; subst this; exact hne g hk)⟩

theorem markK (base : Nat) (r : Rw) (a : Int) (w : World) (h : OwnK w base r) (h0 : 0 < a) (h1 : a ≤ 2 ^ 30) (hn : r.es.length ≤ 1048576) :
    Calls Try.prog 106 #[r.u, .int .i64 a] w fun e w' =>
      ∃ R', e = .returned (.int .i64 (a + r.es.length * 6)) ∧ OwnK w' base ⟨r.u, R', r.k⟩ ∧ R'.length = r.es.length ∧ marked a R' R'.length ∧ w.grownBy w' r.k := by
  obtain ⟨u, es, k⟩ := r
  rcases h with ⟨hk, he, x, c, hu⟩ | ⟨g, cp, hk, hu, hO⟩
  · simp only at hk he hu ⊢
    subst hk he hu
    refine (markEntryS_zero x c a w).mono ?_
    rintro e w' ⟨rfl, hb⟩
    exact ⟨[], by simp, .inl ⟨rfl, rfl, x, c, rfl⟩, rfl, fun j hj => by simp at hj, grown_of_below hb _⟩
  · simp only at hk hu hO hn ⊢
    subst hk hu
    refine (markEntryS_core base g cp es a w hO h0 h1 hn).mono ?_
    rintro e w' ⟨fs, rfl, hO', hl, hm, hg⟩
    exact ⟨fs, rfl, .inr ⟨g, cp, rfl, by simp only; rw [hl], hO'⟩, hl, by rw [hl]; exact hm, hg⟩
theorem heldK (base : Nat) (r : Rw) (a : Int) (w : World) (h : OwnK w base r) (hm : marked a r.es r.es.length) (h0 : 0 < a) (h1 : a ≤ 2 ^ 30) (hn : r.es.length ≤ 1048576) :
    Calls Try.prog 107 #[r.u, .int .i64 a] w fun e w' => e = .returned (.int .i64 (a + r.es.length * 6)) ∧ Below w.heap.size w w' := by
  obtain ⟨u, es, k⟩ := r
  rcases h with ⟨hk, he, x, c, hu⟩ | ⟨g, cp, hk, hu, hO⟩
  · simp only at hk he hu ⊢
    subst hk he hu
    refine (heldEntryS_zero x c a w).mono ?_
    rintro e w' ⟨rfl, hb⟩
    exact ⟨by simp, hb⟩
  · simp only at hk hu hO hm hn ⊢
    subst hk hu
    exact heldEntryS_core g 0 cp es a w hO.at hm hO.lt.2 h0 h1 hn

/-- The row of a tablet's runs. -/
def OwnRow (w : World) (base : Nat) (v : Value) (rs : List Rw) : Prop :=
  (rs = [] ∧ ∃ a c, v = .slice a 0 c) ∨ ∃ g cp, v = .slice (some ⟨g, 0, none⟩) rs.length cp ∧ w.ownsRow base 101 1 (.slice (some ⟨g, 0, none⟩) rs.length cp) rs.length (rs.map Rw.u)
theorem OwnRow.ucells {w : World} {base : Nat} {v : Value} {rs : List Rw} (h : OwnRow w base v rs) : v.cells = #[v] := by
  rcases h with ⟨_, a, c, h⟩ | ⟨g, cp, h, _⟩ <;> rw [h] <;> rfl
theorem OwnRow.caps {w : World} {base : Nat} {e s : Nat} {g n cp : Nat} {xs : List Value} (h : w.ownsRow base e s (.slice (some ⟨g, 0, none⟩) n cp) n xs) : n ≤ cp ∧ cp ≤ maxLen := by
  rcases h.2 with ⟨h0, _⟩ | ⟨g', cap', cur, hv, _, _, hn, hcap, _, _⟩
  · cases h0
  · simp only [Value.slice.injEq, Option.some.injEq, Addr.mk.injEq, and_true, true_and] at hv
    obtain ⟨rfl, rfl⟩ := hv
    exact ⟨hn, hcap⟩
def Rw.rn (r : Rw) : Rn := ⟨r.u, r.es⟩
theorem OwnRow.ins {w : World} {base : Nat} {v : Value} {rs : List Rw} (h : OwnRow w base v rs) (hk : ∀ r ∈ rs, OwnK w base r) : InRuns w v (rs.map Rw.rn) := by
  rcases h with ⟨rfl, a, c, h⟩ | ⟨g, cp, rfl, hO⟩
  · exact .inl ⟨a, c, h, rfl⟩
  · have hc := OwnRow.caps hO
    refine .inr ⟨g, 0, cp, by simp, fun i r hi => ?_, (World.ownsRow.lt hO g rfl).2, by simpa using hc.1, hc.2⟩
    rw [List.getElem?_map] at hi
    cases hp : rs[i]? with
    | none => rw [hp] at hi; cases hi
    | some p =>
      rw [hp] at hi
      simp at hi
      subst hi
      refine ⟨?_, (hk p (List.mem_of_getElem? hp)).ins⟩
      have hl := (List.getElem?_eq_some_iff.1 hp).1
      have := World.ownsRow.cellAt hO i (by omega)
      rw [List.getElem?_map, hp] at this
      rw [Nat.zero_add]
      exact this
theorem OwnRow.kept {w w' : World} {base : Nat} {v : Value} {rs : List Rw} {row : Option Nat} (h : OwnRow w base v rs) (hg : w.grownBy w' row) (hne : ∀ g, v.ownBlock = some g → rs ≠ [] → row ≠ some g) : OwnRow w' base v rs := by
  rcases h with h | ⟨g, cp, hv, hO⟩
  · exact .inl h
  · by_cases hr : rs = []
    · subst hr; exact .inl ⟨rfl, _, _, hv⟩
    · exact .inr ⟨g, cp, hv, World.ownsRow.kept hO hg (.inr (fun q => hne g (by rw [hv]; rfl) hr q.symm))⟩
theorem OwnRow.below {w w' : World} {base : Nat} {v : Value} {rs : List Rw} (h : OwnRow w base v rs) (hb : Below w.heap.size w w') : OwnRow w' base v rs := by
  rcases h with h | ⟨g, cp, hv, hO⟩
  · exact .inl h
  · refine .inr ⟨g, cp, hv, World.ownsRow.kept hO (grown_of_below hb none) (.inr (fun q => by cases q))⟩
theorem OwnRow.same {w : World} {base : Nat} {v : Value} {rs rs' : List Rw} (h : OwnRow w base v rs) (hu : rs'.map Rw.u = rs.map Rw.u) : OwnRow w base v rs' := by
  have hl : rs'.length = rs.length := by have := congrArg List.length hu; simpa using this
  rcases h with ⟨rfl, h⟩ | ⟨g, cp, hv, hO⟩
  · refine .inl ⟨List.eq_nil_of_length_eq_zero (by simpa using hl), h⟩
  · exact .inr ⟨g, cp, by rw [hl]; exact hv, by rw [hl, hu]; exact hO⟩

def totW : List Rw → Nat
  | [] => 0
  | r :: rs => r.es.length + totW rs
theorem totW_append : ∀ (a b : List Rw), totW (a ++ b) = totW a + totW b
  | [], b => by simp [totW]
  | r :: a, b => by simp [totW, totW_append a b]; omega
theorem totW_take {rs : List Rw} {k : Nat} {r : Rw} (h : rs[k]? = some r) : totW (rs.take (k + 1)) = totW (rs.take k) + r.es.length := by
  rw [List.take_add_one, h, totW_append]; simp [totW]
theorem totW_le (rs : List Rw) (k : Nat) : totW (rs.take k) ≤ totW rs := by
  have h := totW_append (rs.take k) (rs.drop k)
  rw [List.take_append_drop] at h
  omega
theorem totW_mem {rs : List Rw} {k : Nat} {r : Rw} (h : rs[k]? = some r) : r.es.length ≤ totW rs := by
  have h1 := totW_take h
  have h2 := totW_le rs (k + 1)
  omega
/-- The shape of runs: their slices, blocks and lengths. -/
def shp (r : Rw) : Value × Option Nat × Nat := (r.u, r.k, r.es.length)
theorem shp_u {a b : List Rw} (h : a.map shp = b.map shp) : a.map Rw.u = b.map Rw.u := by
  have := congrArg (List.map Prod.fst) h
  simpa [List.map_map, Function.comp_def, shp] using this
theorem shp_tot : ∀ {a b : List Rw}, a.map shp = b.map shp → totW a = totW b
  | [], [], _ => rfl
  | [], _ :: _, h => by simp at h
  | _ :: _, [], h => by simp at h
  | x :: a, y :: b, h => by
    simp [shp] at h
    have := shp_tot (a := a) (b := b) (by simpa [shp] using h.2)
    simp [totW, this, h.1.2.2]
/-- Runs marked, from 'a' on. -/
def MarkedR (a : Int) (rs : List Rw) : Prop := ∀ i r, rs[i]? = some r → marked (a + totW (rs.take i) * 6) r.es r.es.length
def Apart (rs : List Rw) : Prop := rs.Pairwise fun a b => ∀ k, a.k = some k → b.k ≠ some k
def KeysOf (rs : List Rw) (k : Nat) : Prop := ∃ r ∈ rs, r.k = some k

theorem row_ne {w : World} {base : Nat} {v : Value} {rs : List Rw} {r : Rw} {base' : Nat} (h : OwnRow w base v rs) (hk : OwnK w base' r) : ∀ g, v.ownBlock = some g → rs ≠ [] → r.k ≠ some g := by
  intro g hg hr hkg
  rcases h with ⟨h, _⟩ | ⟨g', cp, rfl, hO⟩
  · exact hr h
  · rcases hk with ⟨h, _⟩ | ⟨g2, cp2, h1, h2, hE⟩
    · rw [h] at hkg; cases hkg
    · rw [h1] at hkg
      have := own_apart hO hE (by decide) g' rfl
      have e1 : g' = g := Option.some.inj hg
      have e2 : g2 = g := Option.some.inj hkg
      subst e1 e2
      exact this rfl

set_option maxHeartbeats 2000000 in
theorem markRunS_gen (base : Nat) (v : Value) (rs : List Rw) (a : Int) (w : World) (hrow : OwnRow w base v rs) (hks : ∀ r ∈ rs, OwnK w base r) (hap : Apart rs) (h0 : 0 < a) (h1 : a + totW rs * 6 ≤ 2 ^ 30) (hn : totW rs ≤ 1048576) (hl : rs.length ≤ 1048576) :
    Calls Try.prog 72 #[v, .int .i64 a] w fun e w' =>
      ∃ rs' : List Rw, e = .returned (.int .i64 (a + totW rs * 6)) ∧ rs'.map shp = rs.map shp ∧ OwnRow w' base v rs' ∧ (∀ r ∈ rs', OwnK w' base r) ∧ MarkedR a rs' ∧ Chg (KeysOf rs) w w' := by
  have HA : Hid (OwnRow w base v rs ∧ (∀ r ∈ rs, OwnK w base r) ∧ Apart rs) := ⟨hrow, hks, hap⟩
  have hvl : ∃ ad c, v = .slice ad rs.length c := by
    rcases hrow with ⟨rfl, a, c, h⟩ | ⟨g, cp, h, _⟩
    · exact ⟨a, c, h⟩
    · exact ⟨_, cp, h⟩
  obtain ⟨ad, vc, rfl⟩ := hvl
  clear hrow hks hap
  go_enter Try.func72, Try.ntmps72
  go_wp2_with fail
  go_loopw [1, 5] (fun c i wr => ∃ (m : Nat) (b : Int) (done : List Rw), m ≤ rs.length ∧ i = .int .i64 m ∧ c = .int .i64 b ∧ b = a + totW (rs.take m) * 6 ∧ done.length = m ∧ done.map shp = (rs.take m).map shp ∧ MarkedR a done ∧ OwnRow wr base (.slice ad rs.length vc) (done ++ rs.drop m) ∧ (∀ r ∈ done ++ rs.drop m, OwnK wr base r) ∧ Chg (KeysOf rs) w wr) (fun _ i _ => rs.length - (intOf i).toNat)
  case atStart => exact ⟨0, a, [], Nat.zero_le _, rfl, rfl, by simp [totW], rfl, rfl, fun i r h => by simp at h, HA.out.1, HA.out.2.1, Chg.refl _ _⟩
  case round =>
    obtain ⟨m, b, done, hm, rfl, rfl, hb, hdl, hds, hmk, hR, hK, hC⟩ := hrel
    have HR : Hid (b = a + totW (rs.take m) * 6 ∧ done.length = m ∧ done.map shp = (rs.take m).map shp ∧ MarkedR a done ∧ OwnRow wr base (.slice ad rs.length vc) (done ++ rs.drop m) ∧ (∀ r ∈ done ++ rs.drop m, OwnK wr base r) ∧ Chg (KeysOf rs) w wr) := ⟨hb, hdl, hds, hmk, hR, hK, hC⟩
    have hb0 : 0 < b := by omega
    have hb1 : b ≤ 2 ^ 30 := by have := totW_le rs m; omega
    clear hb hdl hds hmk hR hK hC
    by_cases hlt : m < rs.length
    · obtain ⟨r, hr⟩ : ∃ r, rs[m]? = some r := ⟨_, List.getElem?_eq_getElem hlt⟩
      have hdr : rs.drop m = r :: rs.drop (m + 1) := by
        obtain ⟨h1, h2⟩ := List.getElem?_eq_some_iff.1 hr
        rw [← h2]; exact List.drop_eq_getElem_cons h1
      obtain ⟨g, hg, c0⟩ : ∃ g, ad = some ⟨g, 0, none⟩ ∧ wr.cell? ⟨g, m, none⟩ = some r.u := by
        rcases HR.out.2.2.2.2.1 with ⟨h, _⟩ | ⟨g, cp, hv, hO⟩
        · rw [hdr] at h; simp at h
        · simp only [Value.slice.injEq] at hv
          refine ⟨g, hv.1, ?_⟩
          have := World.ownsRow.cellAt hO m (by have := HR.out.2.1; simp; omega)
          rw [List.getElem?_map, List.getElem?_append_right (by rw [HR.out.2.1]; exact Nat.le_refl _), HR.out.2.1, Nat.sub_self, hdr] at this
          exact this
      subst hg
      have hru : r.u.cells = #[r.u] := (HR.out.2.2.2.2.2.1 r (by rw [hdr]; simp)).ucells
      have HD : Hid (rs[m]? = some r ∧ rs.drop m = r :: rs.drop (m + 1)) := ⟨hr, hdr⟩
      have hrl : r.es.length ≤ 1048576 := by have := totW_mem hr; omega
      clear hr hdr
      have zm : (m : Int) < (rs.length : Int) := by omega
      go_wp2_with fail
      refine (markK base r b _ (HR.out.2.2.2.2.2.1 r (by rw [HD.out.2]; simp)) hb0 hb1 hrl).mono ?_
      rintro e w1 ⟨R', rfl, hK1, hl1, hm1, hg1⟩
      have HN : Hid (∃ done' : List Rw, done'.length = m + 1 ∧ done'.map shp = (rs.take (m + 1)).map shp ∧ MarkedR a done' ∧ OwnRow w1 base (.slice (some ⟨g, 0, none⟩) rs.length vc) (done' ++ rs.drop (m + 1)) ∧ (∀ r ∈ done' ++ rs.drop (m + 1), OwnK w1 base r) ∧ Chg (KeysOf rs) w w1) := by
        obtain ⟨q1, q2, q3, q4, q5, q6, q7⟩ := HR.out
        have hrm := List.mem_of_getElem? HD.out.1
        have hap : ∀ x ∈ done ++ rs.drop (m + 1), ∀ k, x.k = some k → r.k ≠ some k := by
          intro x hx k hxk hrk
          have hps : (rs.take m ++ r :: rs.drop (m + 1)).Pairwise fun a b => ∀ k, a.k = some k → b.k ≠ some k := by
            have h3 : rs.take m ++ rs.drop m = rs := List.take_append_drop m rs
            rw [HD.out.2] at h3
            rw [h3]; exact HA.out.2.2
          rcases List.mem_append.1 hx with hx | hx
          · obtain ⟨i, hi⟩ := List.getElem?_of_mem hx
            have e1 := congrArg (fun l => l[i]?) q3
            simp only [List.getElem?_map, hi] at e1
            cases h2 : (rs.take m)[i]? with
            | none => rw [h2] at e1; simp at e1
            | some y =>
              rw [h2] at e1
              simp [shp] at e1
              have h4 := (List.pairwise_append.1 hps).2.2 y (List.mem_of_getElem? h2) r (by simp)
              exact h4 k (by rw [← e1.2.1]; exact hxk) hrk
          · have h4 := (List.pairwise_cons.1 (List.pairwise_append.1 hps).2.1).1 x hx
            exact h4 k hrk hxk
        refine ⟨done ++ [⟨r.u, R', r.k⟩], by simp [q2], ?_, ?_, ?_, ?_, ?_⟩
        · rw [List.take_add_one, HD.out.1, List.map_append, List.map_append, q3]
          simp [shp, hl1]
        · intro i x hx
          by_cases hi : i < done.length
          · rw [List.getElem?_append_left hi] at hx
            have := q4 i x hx
            rw [List.take_append_of_le_length (by omega)]
            exact this
          · rw [List.getElem?_append_right (by omega)] at hx
            have h5 : i - done.length = 0 := by
              have := (List.getElem?_eq_some_iff.1 hx).1
              simp at this; omega
            rw [h5] at hx
            simp at hx
            subst hx
            have h6 : i = done.length := by omega
            subst h6
            rw [List.take_append_of_le_length (Nat.le_refl _), List.take_of_length_le (Nat.le_refl _), shp_tot q3, ← q1]
            exact hm1
        · have hsame : (done ++ [Rw.mk r.u R' r.k] ++ rs.drop (m + 1)).map Rw.u = (done ++ rs.drop m).map Rw.u := by rw [HD.out.2]; simp
          refine (q5.kept hg1 (fun g' hg' hne hk' => ?_)).same hsame
          exact row_ne q5 (q6 r (by rw [HD.out.2]; simp)) g' hg' hne hk'
        · intro x hx
          rw [List.append_assoc] at hx
          rcases List.mem_append.1 hx with hx | hx
          · exact (q6 x (List.mem_append_left _ hx)).kept hg1 (fun k hk q => hap x (List.mem_append_left _ hx) k hk q)
          · rcases List.mem_append.1 hx with hx | hx
            · simp at hx
              subst hx
              exact hK1
            · exact (q6 x (by rw [HD.out.2]; exact List.mem_append_right _ (List.mem_cons_of_mem _ hx))).kept hg1 (fun k hk q => hap x (List.mem_append_right _ hx) k hk q)
        · exact q7.trans (Chg.of_grown hg1 (fun k hk => ⟨r, hrm, hk⟩))
      have HB : Hid (b + (r.es.length : Int) * 6 = a + totW (rs.take (m + 1)) * 6) := by
        have h2 := totW_take HD.out.1
        have h3 := HR.out.1
        show b + (r.es.length : Int) * 6 = a + totW (rs.take (m + 1)) * 6
        omega
      clear hK1 hl1 hm1 hg1 c0
      go_wp2_with fail
      go_roundw
      case rel =>
        go_light
        obtain ⟨d', a1, a2, a3, a4, a5, a6⟩ := HN.out
        exact ⟨m + 1, b + r.es.length * 6, d', by omega, by go_num, rfl, HB.out, a1, a2, a3, a4, a5, a6⟩
      case measure => go_light; simp [intOf]; omega
    · have zm : ¬ (m : Int) < (rs.length : Int) := by omega
      have HF : Hid (b = a + totW rs * 6 ∧ done.map shp = rs.map shp ∧ MarkedR a done ∧ OwnRow wr base (.slice ad rs.length vc) done ∧ (∀ r ∈ done, OwnK wr base r) ∧ Chg (KeysOf rs) w wr) := by
        obtain ⟨q1, q2, q3, q4, q5, q6, q7⟩ := HR.out
        rw [List.take_of_length_le (by omega)] at q1 q3
        rw [List.drop_eq_nil_of_le (by omega), List.append_nil] at q5 q6
        exact ⟨q1, q3, q4, q5, q6, q7⟩
      go_wp2_with fail
      go_ret
      exact ⟨by rw [HF.out.1]; rfl, done, HF.out.2.1, HF.out.2.2.2.1, HF.out.2.2.2.2.1, HF.out.2.2.1, HF.out.2.2.2.2.2⟩
end Go.Proofs.Ytlgeffinhbodeaf

