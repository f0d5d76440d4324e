/-
  Appends to rows of entries, runs and tablets; slices.Clone over entries.
-/
import Derived.Test.YtlgeffinhbodeaeQTabP
import Derived.Test.YtlgeffinhbodeaeQRms
import Derived.Maps.AppendAt
import Derived.Lib.SliceRun
namespace Go.Proofs.Ytlgeffinhbodeae
open Go.ChangeShapes Go.WideShapes Go.ChangeAt Go.RowKit Go.Deep
set_option linter.unusedVariables false
set_option linter.unusedSimpArgs false
set_option maxRecDepth 100000

theorem ents_cells {w : World} {b off : Nat} {es : List Ent} (h : EntsAt w b off es) : ∀ j u, (cellsE es)[j]? = some u → w.cell? ((⟨b, off, none⟩ : Addr).add j) = some u := by
  intro j u hu
  have hj : j < es.length * 6 := by rw [← length_cellsE]; exact (List.getElem?_eq_some_iff.1 hu).1
  obtain ⟨e, he⟩ : ∃ e, es[j / 6]? = some e := ⟨_, List.getElem?_eq_getElem (by omega)⟩
  have hg := cellsE_get es (j / 6) e he (j % 6) (Nat.mod_lt _ (by omega))
  rw [show j / 6 * 6 + j % 6 = j by omega, hu] at hg
  obtain ⟨c0, c1, c2, c3, c4, c5⟩ := h (j / 6) e he
  rw [Addr.add_mid, show off + j = off + j / 6 * 6 + j % 6 by omega]
  have hm : j % 6 < 6 := Nat.mod_lt _ (by omega)
  generalize j % 6 = m at *
  match m, hm, hg with
  | 0, _, hg => rw [Nat.add_zero, c0, hg]; rfl
  | 1, _, hg => rw [c1, hg]; rfl
  | 2, _, hg => rw [c2, hg]; rfl
  | 3, _, hg => rw [c3, hg]; rfl
  | 4, _, hg => rw [c4, hg]; rfl
  | 5, _, hg => rw [c5, hg]; rfl
theorem ents_one (es : List Ent) : ∀ u ∈ cellsE es, u.oneCell' = true := by
  intro u hu
  unfold cellsE at hu
  obtain ⟨e, _, he⟩ := List.mem_flatMap.1 hu
  simp at he
  rcases he with rfl | rfl | rfl | rfl | rfl | rfl <;> rfl

/-- Entries appended to a row of the call's own. -/
theorem wpList_append_entO {ops : Array Oper} {rest : List Oper} {o : Oper} {a : Act} {Q : Exit → Act → World → Prop} (w : World) (hgd : o.guard = none) (s x : Operand)
    (ho : o.op = .call { callee := .builtin .append, args := #[s, x], argTypes := #[28, 28] })
    (base g cp n b off m cx : Nat) (fs es : List Ent) (hs : a.eval s = .slice (some ⟨g, 0, none⟩) n cp) (hx : a.eval x = .slice (some ⟨b, off, none⟩) m cx) (hn : n = fs.length) (hm : m = es.length) (hO : OwnE w base g cp fs)
    (hc : EntsAt w b off es) (hlen : fs.length + es.length ≤ 2 ^ 30) (hbase : base ≤ w.heap.size)
    (h : ∀ g' cp' w', OwnE w' base g' cp' (fs ++ es) → w.grownBy w' (some g) → (g' = g ∨ g' = w.heap.size) → wpList Try.prog ops Q rest (a.put o.dst (.slice (some ⟨g', 0, none⟩) (n + m) cp')) w') : wpList Try.prog ops Q (o :: rest) a w := by
  subst hn hm
  obtain ⟨i, hi, hz0, hz1, hz2⟩ := info_parts Try.infoEnt
  refine wpList_append_own_at w hgd s x 28 ho base 85 i _ 6 80 Try.underlying28 hi hz0 hz1 hz2 rfl (by decide) (.slice (some ⟨g, 0, none⟩) fs.length cp) fs.length (cellsE fs) hs hO ⟨b, off, none⟩ es.length cx (cellsE es) hx (length_cellsE es) (ents_cells hc) (ents_one es) ?_ ?_ hbase ?_
  · unfold maxLen; omega
  · omega
  · intro v' w' hO' hgr hnil hat
    rcases hO'.2 with ⟨h0, _⟩ | ⟨g', cap', cur, hv, _, _, hn, hcap, _, _⟩
    · have := (hnil.1 h0).1
      cases this
    · subst hv
      refine h g' cap' w' ?_ hgr ?_
      · unfold OwnE
        rw [List.length_append, cellsE_append]
        exact hO'
      · simpa [Value.ownBlock] using hat

/-- What an append to a row of runs leaves behind. -/
structure AppR (w w' : World) (base : Nat) (v v' : Value) (us ns : List Value) : Prop where
  row : w'.ownsRow base 30 1 v' (us ++ ns).length (us ++ ns)
  grown : w.grownBy w' v.ownBlock
  nil : v' = .slice none 0 0 ↔ v = .slice none 0 0 ∧ ns.length = 0
  blk : v'.ownBlock = v.ownBlock ∨ v'.ownBlock = some w.heap.size
theorem AppR.form {w w' : World} {base : Nat} {v v' : Value} {us ns : List Value} (h : AppR w w' base v v' us ns) (hv : v ≠ .slice none 0 0) : ∃ g cp, v' = .slice (some ⟨g, 0, none⟩) (us ++ ns).length cp := by
  rcases h.row.2 with ⟨h0, _⟩ | ⟨g3, cap', cur, hv', _⟩
  · exact absurd (h.nil.1 h0).1 hv
  · exact ⟨g3, cap', hv'⟩
/-- Slices appended to a row of runs (nil too). -/
theorem wpList_append_runO {ops : Array Oper} {rest : List Oper} {o : Oper} {a : Act} {Q : Exit → Act → World → Prop} (w : World) (hgd : o.guard = none) (s x : Operand)
    (ho : o.op = .call { callee := .builtin .append, args := #[s, x], argTypes := #[23, 23] })
    (base : Nat) (v : Value) (us : List Value) (b off m cx : Nat) (ns : List Value) (hs : a.eval s = v) (hx : a.eval x = .slice (some ⟨b, off, none⟩) m cx) (hm : m = ns.length) (hO : w.ownsRow base 30 1 v us.length us)
    (hc : ∀ j u, ns[j]? = some u → w.cell? ⟨b, off + j, none⟩ = some u) (h1 : ∀ u ∈ ns, u.oneCell' = true) (hlen : us.length + ns.length ≤ 2 ^ 30) (hbase : base ≤ w.heap.size)
    (h : ∀ v' w', AppR w w' base v v' us ns → wpList Try.prog ops Q rest (a.put o.dst v') w') : wpList Try.prog ops Q (o :: rest) a w := by
  subst hm
  obtain ⟨i, hi, hz0, hz1, hz2⟩ := info_parts Try.infoRun
  refine wpList_append_own_at w hgd s x 23 ho base 30 i _ 1 24 Try.underlying23 hi hz0 hz1 hz2 rfl (by decide) v us.length us hs hO ⟨b, off, none⟩ ns.length cx ns hx (by omega) (fun j u hu => by rw [Addr.add_mid]; exact hc j u hu) h1 ?_ ?_ hbase ?_
  · unfold maxLen; omega
  · omega
  · intro v' w' hO' hgr hnil hat
    exact h v' w' ⟨by rw [List.length_append]; exact hO', hgr, hnil, hat⟩
/-- What an append to a row of tablets leaves behind. -/
structure AppT (w w' : World) (base : Nat) (v v' : Value) (us ns : List Pr) : Prop where
  row : w'.ownsRow base 133 2 v' (us ++ ns).length (cellsP (us ++ ns))
  grown : w.grownBy w' v.ownBlock
  nil : v' = .slice none 0 0 ↔ v = .slice none 0 0 ∧ ns.length = 0
  blk : v'.ownBlock = v.ownBlock ∨ v'.ownBlock = some w.heap.size
theorem AppT.form {w w' : World} {base : Nat} {v v' : Value} {us ns : List Pr} (h : AppT w w' base v v' us ns) (hv : v ≠ .slice none 0 0 ∨ 0 < ns.length) : ∃ g cp, v' = .slice (some ⟨g, 0, none⟩) (us ++ ns).length cp := by
  rcases h.row.2 with ⟨h0, _⟩ | ⟨g3, cap', cur, hv', _⟩
  · have := h.nil.1 h0
    rcases hv with hv | hv
    · exact absurd this.1 hv
    · omega
  · exact ⟨g3, cap', hv'⟩
theorem pcells {w : World} {b off : Nat} {ps : List Pr} (h : ∀ i p, ps[i]? = some p → w.cell? ⟨b, off + i * 2, none⟩ = some (.string p.1) ∧ w.cell? ⟨b, off + i * 2 + 1, none⟩ = some p.2) : ∀ j u, (cellsP ps)[j]? = some u → w.cell? ((⟨b, off, none⟩ : Addr).add j) = some u := by
  intro j u hu
  have hj : j < ps.length * 2 := by rw [← length_cellsP]; exact (List.getElem?_eq_some_iff.1 hu).1
  obtain ⟨e, he⟩ : ∃ e, ps[j / 2]? = some e := ⟨_, List.getElem?_eq_getElem (by omega)⟩
  have hg := cellsP_get ps (j / 2) e he (j % 2) (Nat.mod_lt _ (by omega))
  rw [show j / 2 * 2 + j % 2 = j by omega, hu] at hg
  obtain ⟨c0, c1⟩ := h (j / 2) e he
  rw [Addr.add_mid, show off + j = off + j / 2 * 2 + j % 2 by omega]
  have hm : j % 2 < 2 := Nat.mod_lt _ (by omega)
  generalize j % 2 = m at *
  match m, hm, hg with
  | 0, _, hg => rw [Nat.add_zero, c0, hg]; rfl
  | 1, _, hg => rw [c1, hg]; rfl
/-- Tablets appended to a row of tablets (nil too). -/
theorem wpList_append_tabO {ops : Array Oper} {rest : List Oper} {o : Oper} {a : Act} {Q : Exit → Act → World → Prop} (w : World) (hgd : o.guard = none) (s x : Operand)
    (ho : o.op = .call { callee := .builtin .append, args := #[s, x], argTypes := #[64, 64] })
    (base : Nat) (v : Value) (us : List Pr) (b off m cx : Nat) (ns : List Pr) (hs : a.eval s = v) (hx : a.eval x = .slice (some ⟨b, off, none⟩) m cx) (hm : m = ns.length) (hO : w.ownsRow base 133 2 v us.length (cellsP us))
    (hc : ∀ i p, ns[i]? = some p → w.cell? ⟨b, off + i * 2, none⟩ = some (.string p.1) ∧ w.cell? ⟨b, off + i * 2 + 1, none⟩ = some p.2) (h1 : ∀ p ∈ ns, p.2.oneCell' = true) (hlen : us.length + ns.length ≤ 2 ^ 30) (hbase : base ≤ w.heap.size)
    (h : ∀ v' w', AppT w w' base v v' us ns → wpList Try.prog ops Q rest (a.put o.dst v') w') : wpList Try.prog ops Q (o :: rest) a w := by
  subst hm
  obtain ⟨i, hi, hz0, hz1, hz2⟩ := info_parts Try.infoTab
  refine wpList_append_own_at w hgd s x 64 ho base 133 i _ 2 40 Try.underlying64 hi hz0 hz1 hz2 rfl (by decide) v us.length (cellsP us) hs hO ⟨b, off, none⟩ ns.length cx (cellsP ns) hx (length_cellsP ns) (pcells hc) (fun u hu => ?_) ?_ ?_ hbase ?_
  · unfold cellsP at hu
    obtain ⟨p, hp, he⟩ := List.mem_flatMap.1 hu
    simp at he
    rcases he with rfl | rfl
    · rfl
    · exact h1 p hp
  · unfold maxLen; omega
  · omega
  · intro v' w' hO' hgr hnil hat
    exact h v' w' ⟨by rw [List.length_append, cellsP_append]; exact hO', hgr, hnil, hat⟩

theorem step_append_tabO {ops : Array Oper} {oo : Oper} {a : Act} {K : Act → World → Prop} {Q : Exit → Act → World → Prop} {E : Prop} (w : World) (hgd : oo.guard = none) (s x : Operand)
    (ho : oo.op = .call { callee := .builtin .append, args := #[s, x], argTypes := #[64, 64] })
    (base : Nat) (v : Value) (us : List Pr) (b off m cx : Nat) (ns : List Pr) (hs : a.eval s = v) (hx : a.eval x = .slice (some ⟨b, off, none⟩) m cx) (hm : m = ns.length) (hO : w.ownsRow base 133 2 v us.length (cellsP us))
    (hc : ∀ i p, ns[i]? = some p → w.cell? ⟨b, off + i * 2, none⟩ = some (.string p.1) ∧ w.cell? ⟨b, off + i * 2 + 1, none⟩ = some p.2) (h1 : ∀ p ∈ ns, p.2.oneCell' = true) (hlen : us.length + ns.length ≤ 2 ^ 30) (hbase : base ≤ w.heap.size)
    (h : ∀ v' w', AppT w w' base v v' us ns → K (a.put oo.dst v') w') : if Region.wanted oo (yielded ops a.tmps) = true then Oper.wp Try.prog oo a w K Q else E := by
  have hw : Region.wanted oo (yielded ops a.tmps) = true := by simp [Region.wanted, hgd]
  rw [if_pos hw]
  subst hm
  obtain ⟨i, hi, hz0, hz1, hz2⟩ := info_parts Try.infoTab
  obtain ⟨v', w', hr, hO', hgr, hnil, hat⟩ := run_append_own_at (P := Try.prog) w base 64 oo.type 133 i _ 2 40 Try.underlying64 hi hz0 hz1 hz2 rfl (by decide) v us.length (cellsP us) hO ⟨b, off, none⟩ ns.length cx (cellsP ns) (length_cellsP ns) (pcells hc) (fun u hu => by
    unfold cellsP at hu
    obtain ⟨p, hp, he⟩ := List.mem_flatMap.1 hu
    simp at he
    rcases he with rfl | rfl
    · rfl
    · exact h1 p hp) (by unfold maxLen; omega) (by omega) hbase
  have hfin := h v' w' ⟨by rw [List.length_append, cellsP_append]; exact hO', hgr, hnil, hat⟩
  unfold Oper.wp
  simp [execOp, ho, resolve, invoke, builtin, hs, hx, hr, Result.andThen]
  exact hfin
theorem step_append_runO {ops : Array Oper} {oo : Oper} {a : Act} {K : Act → World → Prop} {Q : Exit → Act → World → Prop} {E : Prop} (w : World) (hgd : oo.guard = none) (s x : Operand)
    (ho : oo.op = .call { callee := .builtin .append, args := #[s, x], argTypes := #[23, 23] })
    (base : Nat) (v : Value) (us : List Value) (b off m cx : Nat) (ns : List Value) (hs : a.eval s = v) (hx : a.eval x = .slice (some ⟨b, off, none⟩) m cx) (hm : m = ns.length) (hO : w.ownsRow base 30 1 v us.length us)
    (hc : ∀ j u, ns[j]? = some u → w.cell? ⟨b, off + j, none⟩ = some u) (h1 : ∀ u ∈ ns, u.oneCell' = true) (hlen : us.length + ns.length ≤ 2 ^ 30) (hbase : base ≤ w.heap.size)
    (h : ∀ v' w', AppR w w' base v v' us ns → K (a.put oo.dst v') w') : if Region.wanted oo (yielded ops a.tmps) = true then Oper.wp Try.prog oo a w K Q else E := by
  have hw : Region.wanted oo (yielded ops a.tmps) = true := by simp [Region.wanted, hgd]
  rw [if_pos hw]
  subst hm
  obtain ⟨i, hi, hz0, hz1, hz2⟩ := info_parts Try.infoRun
  obtain ⟨v', w', hr, hO', hgr, hnil, hat⟩ := run_append_own_at (P := Try.prog) w base 23 oo.type 30 i _ 1 24 Try.underlying23 hi hz0 hz1 hz2 rfl (by decide) v us.length us hO ⟨b, off, none⟩ ns.length cx ns (by omega) (fun j u hu => by rw [Addr.add_mid]; exact hc j u hu) h1 (by unfold maxLen; omega) (by omega) hbase
  have hfin := h v' w' ⟨by rw [List.length_append]; exact hO', hgr, hnil, hat⟩
  unfold Oper.wp
  simp [execOp, ho, resolve, invoke, builtin, hs, hx, hr, Result.andThen]
  exact hfin

theorem ownE_empty (w : World) (base : Nat) (hb : base ≤ w.heap.size) : OwnE (w.alloc (Obj.cells #[] 85)) base w.heap.size 0 [] :=
  World.ownsRow_lit w #[] 0 hb (by decide) (by decide)
theorem ownR_empty (w : World) (base : Nat) (hb : base ≤ w.heap.size) : (w.alloc (Obj.cells #[] 30)).ownsRow base 30 1 (.slice (some ⟨w.heap.size, 0, none⟩) 0 0) 0 [] :=
  World.ownsRow_lit w #[] 0 hb (by decide) (by decide)

set_option maxHeartbeats 1000000 in
theorem clone_core (r : Rm) (w : World) (hr : r.at w) (hl : r.es.length ≤ 1048576) :
    Calls Try.prog 118 #[.slice (some ⟨r.b, r.off, none⟩) r.es.length r.cap] w fun e w' =>
      ∃ g cp, e = .returned (.slice (some ⟨g, 0, none⟩) r.es.length cp) ∧ OwnE w' w.heap.size g cp r.es ∧ Below w.heap.size w w' := by
  have HR : Hid (r.at w) := hr
  clear hr
  have HE : Hid (OwnE (w.alloc (Obj.cells #[] 85)) w.heap.size w.heap.size 0 []) := ownE_empty w _ (Nat.le_refl _)
  have hba : Below w.heap.size w (w.alloc (Obj.cells #[] 85)) := (Below.refl _ _).alloc (Nat.le_refl _) _
  go_enter Try.func118, Try.ntmps118
  have hnil : ∀ wx : World, (binOp .eql 28 (.slice (some ⟨r.b, r.off, none⟩) r.es.length r.cap) (.slice none 0 0)).run Try.prog wx = .ok (.bool false) wx := fun wx => Go.Lib.run_eql_slice_nil wx _ _ _ _ _ _ _ Try.underlying28
  go_wp2_with (at_builtin; refine wpList_append_entO _ rfl _ _ rfl w.heap.size w.heap.size 0 0 r.b r.off r.es.length r.cap [] r.es rfl rfl rfl rfl HE.out ?hc ?hl ?hb ?_)
  case hc => exact (HR.out.below hba).ents
  case hl => simp; omega
  case hb => simp
  intro g' cp' w' hO' hgr hat
  have hb' : Below w.heap.size w w' := hba.grown hgr (by simp) (fun j hj => by cases hj; exact Nat.le_refl _)
  have HO : Hid (OwnE w' w.heap.size g' cp' r.es) := hO'
  clear hO' hgr
  go_wp2_with fail
  go_ret
  exact ⟨g', cp', rfl, HO.out, hb'⟩
end Go.Proofs.Ytlgeffinhbodeae
