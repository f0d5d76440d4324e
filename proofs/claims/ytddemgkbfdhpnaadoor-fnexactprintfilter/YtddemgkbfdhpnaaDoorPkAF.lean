import Derived.ArgAppend
import Derived.Lib.SlBytesConst
import Derived.Deep.RegionHeld3
import Derived.Test.YtddemgkbfdhpnaaDoorPkAE
import Derived.Test.YtddemgkbfdhpnaaDoorPkAA
/-
  Bytes that are written on, wherever they came from.
-/
namespace Go.Proofs.YtddemgkbfdhpnaaDoor
open Go.ChangeShapes Go.WideShapes Go.ChangeAt Go.RowKit Go.Deep
set_option linter.unusedVariables false
set_option linter.unusedSimpArgs false
set_option maxRecDepth 100000

/-- Bytes in a block of the call's own; what lies behind them up to the capacity may be written. -/
structure WrB (w : World) (base g cp : Nat) (xs : List UInt8) : Prop where
  le : base ≤ g
  lt : g < w.heap.size
  at_ : BysAt w g 0 xs
  len : xs.length ≤ cp
  cap : cp ≤ maxLen
  room : ∀ j, xs.length ≤ j → j < cp → (w.cell? ⟨g, j, none⟩).isSome = true ∧ w.frozen? ⟨g, j, none⟩ = false
theorem WrB.chg {S : Nat → Prop} {w w' : World} {base g cp : Nat} {xs : List UInt8} (h : WrB w base g cp xs) (hc : Chg S w w') (hn : ¬ S g) : WrB w' base g cp xs := by
  refine ⟨h.le, by have := hc.size; have := h.lt; omega, ?_, h.len, h.cap, fun j h1 h2 => ?_⟩
  · intro i x hx
    rw [hc.cell (p := ⟨g, 0 + i, none⟩) h.lt hn]; exact h.at_ i x hx
  · rw [hc.cell (p := ⟨g, j, none⟩) h.lt hn, hc.frozen (p := ⟨g, j, none⟩) h.lt hn]; exact h.room j h1 h2
theorem WrB.below {w w' : World} {base g cp : Nat} {xs : List UInt8} (h : WrB w base g cp xs) (hb : Below w.heap.size w w') : WrB w' base g cp xs := h.chg (Chg.of_below hb) (S := fun _ => False) (fun q => q)
theorem WrB.mono {w : World} {base base' g cp : Nat} {xs : List UInt8} (h : WrB w base g cp xs) (hb : base' ≤ base) : WrB w base' g cp xs := ⟨Nat.le_trans hb h.le, h.lt, h.at_, h.len, h.cap, h.room⟩
theorem OwnY.wr {w : World} {base g cp : Nat} {xs : List UInt8} (h : OwnY w base g cp xs) : WrB w base g cp xs := by
  refine ⟨h.lt.1, h.lt.2, h.at, h.caps.1, h.caps.2, fun j h1 h2 => ⟨?_, World.ownsRow.frozenAt h j⟩⟩
  rcases h.2 with ⟨h0, _⟩ | ⟨g', cap', cur, hv, _, hg, hn, hcap, hcs, _⟩
  · cases h0
  · simp only [Value.slice.injEq, Option.some.injEq, Addr.mk.injEq, and_true, true_and] at hv
    obtain ⟨rfl, rfl⟩ := hv
    rw [cell_of_row w g j cur _ _ hg]
    have hj : j < cur.size := by rw [hcs]; omega
    simp [hj]
theorem wrB_bytes (w : World) (s : ByteArray) (hs : s.size ≤ 2 ^ 30) : WrB (Lib.bytesWorld w 5 s) w.heap.size w.heap.size (grownCap w s.size 0 5) (bl s) := by
  have hge := grownCap_ge w s.size 0 5
  have hsz : (Lib.bytesCells w 5 s).size = grownCap w s.size 0 5 := by
    simp only [Lib.bytesCells, Array.size_append, Array.size_map, Array.size_replicate]
    show s.size + _ = _
    omega
  refine ⟨Nat.le_refl _, by rw [Lib.bytesWorld_size]; omega, bys_bytes w s, by rw [bl_len]; exact hge, grownCap_le_maxLen w s.size 0 _ (by unfold maxLen; omega), fun j h1 h2 => ?_⟩
  have hn := Lib.bytesWorld_at_new w 5 s
  constructor
  · rw [cell_of_row _ _ _ _ _ _ hn]
    have hj : j < (Lib.bytesCells w 5 s).size := by omega
    simp [hj]
  · simp only [World.frozen?, hn, Bool.and_eq_false_iff, decide_eq_false_iff_not]
    left
    omega
/-- A literal's row: full. -/
theorem WrB.full {w : World} {base g : Nat} {xs : List UInt8} (h1 : base ≤ g) (h2 : g < w.heap.size) (h3 : BysAt w g 0 xs) (h4 : xs.length ≤ 2 ^ 30) : WrB w base g xs.length xs :=
  ⟨h1, h2, h3, Nat.le_refl _, by unfold maxLen; omega, fun j a b => by omega⟩
theorem setCells_heap (b : Nat) : ∀ (vs : List Value) (o : Nat) (w : World), w.grownBy (w.setCells b o vs) (some b)
  | [], _, w => grown_of_below (Below.refl _ _) _
  | v :: r, o, w => (grown_set w b o v).trans (setCells_heap b r (o + 1) _)
/-- What an append onto such bytes does. -/
theorem run_append_wr (w : World) (ty : TypeId) (base g cp b off cx : Nat) (l k : List UInt8) (hO : WrB w base g cp l)
    (hc : BysAt w b off k) (hlen : l.length + k.length ≤ 2 ^ 30) (hbase : base ≤ w.heap.size) :
    ∃ g' cp' w', (Builtin.append_ #[26, 26] ty #[.slice (some ⟨g, 0, none⟩) l.length cp, .slice (some ⟨b, off, none⟩) k.length cx]).run Tryd.prog w = .ok (.slice (some ⟨g', 0, none⟩) (l.length + k.length) cp') w' ∧ WrB w' base g' cp' (l ++ k) ∧ w.grownBy w' (some g) ∧ (g' = g ∨ w.heap.size ≤ g') := by
  obtain ⟨i, hi, hz0, hz1, hz2⟩ := info_parts Tryd.infoByte
  have hcc : ∀ (j : Nat) (u : Value), (k.map ub)[j]? = some u → w.cell? ((⟨b, off, none⟩ : Addr).add j) = some u := by
    intro j u hu
    rw [List.getElem?_map] at hu
    cases hk : k[j]? with
    | none => rw [hk] at hu; cases hu
    | some r =>
      rw [hk] at hu
      simp at hu
      rw [Addr.add_mid, hc j r hk, ← hu]
  have hll : (l ++ k).length = l.length + k.length := List.length_append
  by_cases hroom : l.length + k.length ≤ cp
  · have hr := run_append_room_cells (P := Tryd.prog) w 26 ty 5 i Tryd.underlying26 hi g 0 l.length cp ⟨b, off, none⟩ k.length cx (k.map ub) (by rw [List.length_map, hz1, Nat.mul_one]) hcc (ub_one k) hroom
      (fun j hj => by rw [hz1, Nat.mul_one, Nat.zero_add]; rw [List.length_map] at hj; exact (hO.room _ (by omega) (by omega)).1)
      (fun j hj => by rw [hz1, Nat.mul_one, Nat.zero_add]; rw [List.length_map] at hj; exact (hO.room _ (by omega) (by omega)).2)
    rw [hz1, Nat.mul_one, Nat.zero_add] at hr
    have hgr := setCells_heap g (k.map ub) l.length w
    have hW : WrB (w.setCells g l.length (k.map ub)) base g cp (l ++ k) := by
      refine ⟨hO.le, by have := hgr.size; have := hO.lt; omega, ?_, by rw [hll]; exact hroom, hO.cap, fun j h1 h2 => ?_⟩
      · intro j x hx
        rw [Nat.zero_add]
        by_cases hj : j < l.length
        · rw [List.getElem?_append_left hj] at hx
          rw [World.cell?_setCells_out g _ _ _ _ (fun _ _ => .inl hj)]
          have := hO.at_ j x hx
          rwa [Nat.zero_add] at this
        · rw [List.getElem?_append_right (by omega)] at hx
          have hjk := (List.getElem?_eq_some_iff.1 hx).1
          have h9 := World.cell?_setCells_in g (k.map ub) l.length w (fun j hj => by rw [List.length_map] at hj; exact (hO.room _ (by omega) (by omega)).1) (j - l.length) (by rw [List.length_map]; exact hjk)
          rw [show l.length + (j - l.length) = j by omega] at h9
          rw [h9, List.getElem_map]
          congr 1
          rw [List.getElem?_eq_getElem hjk] at hx
          rw [Option.some.inj hx]
      · rw [hll] at h1
        rw [World.cell?_setCells_out g _ _ _ _ (fun _ _ => .inr (by rw [List.length_map]; exact h1)), World.frozen?_setCells]
        exact hO.room j (by omega) h2
    exact ⟨g, cp, _, hr, hW, hgr, .inl rfl⟩
  · obtain ⟨v', w', hr, hO', hgr⟩ := run_append_arg_grows (P := Tryd.prog) w 26 ty 5 i _ 1 1 Tryd.underlying26 hi hz0 hz1 hz2 rfl (by decide) ⟨g, 0, none⟩ l.length cp (l.map ub) (by simp) (fun j u hu => by
        rw [List.getElem?_map] at hu
        cases hk : l[j]? with
        | none => rw [hk] at hu; cases hu
        | some r =>
          rw [hk] at hu
          simp at hu
          rw [Addr.add_mid, hO.at_ j r hk, ← hu]) ⟨b, off, none⟩ k.length cx (k.map ub) (by simp) hcc (by omega) (by unfold maxLen; omega) (by omega)
    rcases hO'.2 with ⟨h0, h00⟩ | ⟨g', cap', cur, hv, hb', hrest⟩
    · have h1 := hO.len
      omega
    · subst hv
      have hW : WrB w' base g' cap' (l ++ k) := by
        refine (OwnY.wr (base := w.heap.size) ?_).mono hbase
        unfold OwnY
        rw [hll, List.map_append]
        exact hO'
      exact ⟨g', cap', w', hr, hW, ⟨hgr.os, hgr.tape, hgr.output, hgr.size, fun k hk _ => hgr.block k hk (fun q => by cases q)⟩, .inr hb'⟩
theorem wpList_append_wr {ops : Array Oper} {rest : List Oper} {o : Oper} {a : Act} {Q : Exit → Act → World → Prop} (w : World) (hgd : o.guard = none) (s x : Operand)
    (ho : o.op = .call { callee := .builtin .append, args := #[s, x], argTypes := #[26, 26] })
    (base g cp n b off m cx : Nat) (l k : List UInt8) (hs : a.eval s = .slice (some ⟨g, 0, none⟩) n cp) (hx : a.eval x = .slice (some ⟨b, off, none⟩) m cx) (hn : n = l.length) (hm : m = k.length) (hO : WrB w base g cp l)
    (hc : BysAt w b off k) (hlen : l.length + k.length ≤ 2 ^ 30) (hbase : base ≤ w.heap.size)
    (h : ∀ g' cp' w', WrB w' base g' cp' (l ++ k) → w.grownBy w' (some g) → (g' = g ∨ w.heap.size ≤ g') → wpList Tryd.prog ops Q rest (a.put o.dst (.slice (some ⟨g', 0, none⟩) (n + m) cp')) w') : wpList Tryd.prog ops Q (o :: rest) a w := by
  subst hn hm
  refine wpList_plain hgd fun K hK => ?_
  obtain ⟨g', cp', w', hr, h1, h2, h3⟩ := run_append_wr w o.type base g cp b off cx l k hO hc hlen hbase
  unfold Oper.wp execOp
  simp only [ho, resolve, invoke, builtin, Sem.run_bind, Sem.run_pure, Result.andThen_ok, List.map_toArray, List.map_cons, List.map_nil, hs, hx, hr]
  exact hK _ _ (h g' cp' w' h1 h2 h3)
/-- The same, at a step of a region that draws. -/
theorem step_append_wr {ops : Array Oper} {oo : Oper} {a : Act} {K : Act → World → Prop} {Q : Exit → Act → World → Prop} {E : Prop} (w : World) (hgd : oo.guard = none) (s x : Operand)
    (ho : oo.op = .call { callee := .builtin .append, args := #[s, x], argTypes := #[26, 26] })
    (base g cp n b off m cx : Nat) (l k : List UInt8) (hs : a.eval s = .slice (some ⟨g, 0, none⟩) n cp) (hx : a.eval x = .slice (some ⟨b, off, none⟩) m cx) (hn : n = l.length) (hm : m = k.length) (hO : WrB w base g cp l)
    (hc : BysAt w b off k) (hlen : l.length + k.length ≤ 2 ^ 30) (hbase : base ≤ w.heap.size)
    (h : ∀ g' cp' w', WrB w' base g' cp' (l ++ k) → w.grownBy w' (some g) → (g' = g ∨ w.heap.size ≤ g') → K (a.put oo.dst (.slice (some ⟨g', 0, none⟩) (n + m) cp')) w') : if Region.wanted oo (yielded ops a.tmps) = true then Oper.wp Tryd.prog oo a w K Q else E := by
  subst hn hm
  obtain ⟨g', cp', w', hr, h1, h2, h3⟩ := run_append_wr w oo.type base g cp b off cx l k hO hc hlen hbase
  rw [if_pos (by simp [Region.wanted, hgd])]
  unfold Oper.wp execOp
  simp only [ho, resolve, invoke, builtin, Sem.run_bind, Sem.run_pure, Result.andThen_ok, List.map_toArray, List.map_cons, List.map_nil, hs, hx, hr]
  exact h g' cp' w' h1 h2 h3
/-- The same, with the row's place forgotten: what lies below the base has not turned. -/
theorem WrB.next {w0 w w' : World} {base g : Nat} (h : Below base w0 w) (hb : base ≤ w.heap.size) (hg : base ≤ g) (hgr : w.grownBy w' (some g)) : Below base w0 w' := h.grown hgr hb (fun j hj => by cases hj; exact hg)
end Go.Proofs.YtddemgkbfdhpnaaDoor

/-
  A region that draws its order and whose last operation stores: what is read ahead of it is taken first.
-/
namespace Go.Proofs.YtddemgkbfdhpnaaDoor
open Go.ChangeShapes Go.WideShapes Go.ChangeAt Go.RowKit Go.Deep
set_option linter.unusedVariables false

section
variable {P : Program} {ops : Array Oper} {Q : Exit → Act → World → Prop} {md : Region.Mode} {S : World → Prop} {L : Nat}

/-- Whatever order is picked: 'S' holds behind every operation but number 'L'. -/
def AnyT (P : Program) (md : Region.Mode) (ops : Array Oper) (Q : Exit → Act → World → Prop) (S : World → Prop) (L : Nat) : Nat → Array Bool → Act → World → Prop
  | 0, listed, a, w => Region.ready md ops listed = [] ∧ Q .normal a w
  | fuel + 1, listed, a, w =>
    (Region.ready md ops listed = [] → Q .normal a w) ∧
    ∀ i ∈ Region.ready md ops listed, wpOp P ops Q i (fun a' w' => (i = L ∨ S w') ∧ AnyT P md ops Q S L fuel (listed.setIfInBounds i true) a' w') a w
theorem any_of_T : ∀ (fuel : Nat) (listed : Array Bool) (a : Act) (w : World), AnyT P md ops Q S L fuel listed a w → wpAny P md ops Q fuel listed a w
  | 0, _, _, _, h => h
  | fuel + 1, _, _, _, h => ⟨h.1, fun i hi => wpOp_mono (fun a' w' h' => any_of_T fuel _ a' w' h'.2) (h.2 i hi)⟩
/-- Operation 'L' waits for number 'i'. -/
def waitsT (md : Region.Mode) (ops : Array Oper) (L i : Nat) : Bool := ((ops[L]?).map (fun o => o.after.any fun e => Region.binds md e && e.on == i)).getD false
theorem anyT_first {i : Nat} {oi : Oper} {v : Value} (hi : ops[i]? = some oi) (hsel : ∀ (j : Nat) (o : Oper) cs b, ops[j]? = some o → o.op ≠ .select cs b)
    (hQ : ∀ c a w, Q (.panic c) (a.put oi.dst v) w → Q (.panic c) a w) (hL : waitsT md ops L i = true) (hne : i ≠ L) :
    ∀ (fuel : Nat) (listed : Array Bool) (a : Act) (w : World),
      (∀ j oj, ops[j]? = some oj → j ≠ i → listed.getD j true = false → (∀ e ∈ oj.after, Region.binds md e = true → e.on ≠ i) → oi.apart ops oj = true) →
      i ∈ Region.ready md ops listed → YieldsIf P ops S oi v a → S w →
      AnyT P md ops Q S L fuel (listed.setIfInBounds i true) (a.put oi.dst v) w → AnyT P md ops Q S L (fuel + 1) listed a w := by
  intro fuel
  induction fuel with
  | zero =>
    intro listed a w _ hr hy hS H
    refine ⟨fun h => (by rw [h] at hr; cases hr), fun j hj => ?_⟩
    by_cases hji : j = i
    · subst hji; exact hy.wpOp hi hS ⟨.inr hS, H⟩
    · have := ready_mono hj hji
      rw [H.1] at this
      cases this
  | succ fuel ih =>
    intro listed a w hfree hr hy hS H
    refine ⟨fun h => (by rw [h] at hr; cases hr), fun j hj => ?_⟩
    by_cases hji : j = i
    · subst hji; exact hy.wpOp hi hS ⟨.inr hS, H⟩
    · have h1 := H.2 j (ready_mono hj hji)
      obtain ⟨hjun, oj, hoj, hall⟩ := mem_ready.1 hj
      have hnot : ∀ e ∈ oj.after, Region.binds md e = true → e.on ≠ i := fun e he hb heq => by
        have h1 := hall e he hb
        have h0 := (mem_ready.1 hr).1
        rw [heq] at h1
        rcases Nat.lt_or_ge i listed.size with h' | h'
        · simp [h'] at h0 h1; rw [h0] at h1; cases h1
        · simp [Array.getElem?_eq_none h'] at h1
      have hjL : j ≠ L := fun q => by
        subst q
        unfold waitsT at hL
        rw [hoj] at hL
        simp only [Option.map_some, Option.getD_some, Array.any_eq_true] at hL
        obtain ⟨k, hk, hb⟩ := hL
        rw [Bool.and_eq_true, beq_iff_eq] at hb
        exact hnot _ (Array.getElem_mem hk) hb.1 hb.2
      have h2 := wpOp_putIf hoj (hfree j oj hoj hji hjun hnot) (fun cs b => hsel i oi cs b hi) (fun cs b => hsel j oj cs b hoj) hQ hy h1
      have hfree' : ∀ k ok, ops[k]? = some ok → k ≠ i → (listed.setIfInBounds j true).getD k true = false →
          (∀ e ∈ ok.after, Region.binds md e = true → e.on ≠ i) → oi.apart ops ok = true := fun k ok hk hki hun hno => by
        refine hfree k ok hk hki ?_ hno
        by_cases hjk : j = k
        · subst hjk; exact hjun
        · rw [getD_set_ne true hjk] at hun; exact hun
      refine wpOp_mono (fun a' w' h3 => ⟨h3.2.1, ih (listed.setIfInBounds j true) a' w' hfree' (ready_mono hr (Ne.symm hji)) h3.1 (h3.2.1.resolve_left hjL) ?_⟩) h2
      rw [Array.setIfInBounds_comm _ _ hji]
      exact h3.2.2
theorem anyT_take {i : Nat} {oi : Oper} {v : Value} {fuel : Nat} {listed : Array Bool} {a : Act} {w : World} (hi : ops[i]? = some oi)
    (hs : Region.noSelect ops = true) (hf : Region.free md ops listed i = true) (hr : (Region.ready md ops listed).contains i = true) (hL : waitsT md ops L i = true) (hne : i ≠ L)
    (hQ : ∀ c a w, Q (.panic c) (a.put oi.dst v) w → Q (.panic c) a w) (hy : YieldsIf P ops S oi v a) (hS : S w)
    (h : AnyT P md ops Q S L fuel (listed.setIfInBounds i true) (a.put oi.dst v) w) : AnyT P md ops Q S L (fuel + 1) listed a w :=
  anyT_first hi (Region.noSelect_spec hs) hQ hL hne fuel listed a w (Region.free_spec hi hf) (by simpa using hr) hy hS h
/-- One operation alone may come up. -/
theorem anyT_one {i : Nat} {o : Oper} {fuel : Nat} {listed : Array Bool} {a : Act} {w : World} (hr : Region.ready md ops listed = [i]) (ho : ops[i]? = some o)
    (h : ∀ K' : Act → World → Prop, Shut (∀ a w, (i = L ∨ S w) → AnyT P md ops Q S L fuel (listed.setIfInBounds i true) a w → K' a w) → if Region.wanted o (yielded ops a.tmps) = true then Oper.wp P o a w K' Q else K' (a.put o.dst undef) w) :
    AnyT P md ops Q S L (fuel + 1) listed a w := by
  refine ⟨fun h0 => (by rw [hr] at h0; cases h0), fun j hj => ?_⟩
  rw [hr] at hj
  simp at hj
  subst hj
  exact wpOp_step ho (fun K' hK => h K' (fun a w hS hW => hK a w ⟨hS, hW⟩))
/-- Either of two may come up. -/
theorem anyT_two {i j : Nat} {o q : Oper} {fuel : Nat} {listed : Array Bool} {a : Act} {w : World} (hr : Region.ready md ops listed = [i, j]) (ho : ops[i]? = some o) (hq : ops[j]? = some q)
    (h : ∀ K' : Act → World → Prop, Shut (∀ a w, (i = L ∨ S w) → AnyT P md ops Q S L fuel (listed.setIfInBounds i true) a w → K' a w) → if Region.wanted o (yielded ops a.tmps) = true then Oper.wp P o a w K' Q else K' (a.put o.dst undef) w)
    (h' : ∀ K' : Act → World → Prop, Shut (∀ a w, (j = L ∨ S w) → AnyT P md ops Q S L fuel (listed.setIfInBounds j true) a w → K' a w) → if Region.wanted q (yielded ops a.tmps) = true then Oper.wp P q a w K' Q else K' (a.put q.dst undef) w) :
    AnyT P md ops Q S L (fuel + 1) listed a w := by
  refine ⟨fun h0 => (by rw [hr] at h0; cases h0), fun k hk => ?_⟩
  rw [hr] at hk
  simp at hk
  rcases hk with rfl | rfl
  · exact wpOp_step ho (fun K' hK => h K' (fun a w hS hW => hK a w ⟨hS, hW⟩))
  · exact wpOp_step hq (fun K' hK => h' K' (fun a w hS hW => hK a w ⟨hS, hW⟩))
theorem anyT_done {fuel : Nat} {listed : Array Bool} {a : Act} {w : World} (hr : Region.ready md ops listed = []) (h : Q .normal a w) : AnyT P md ops Q S L fuel listed a w := by
  cases fuel with
  | zero => exact ⟨hr, h⟩
  | succ n => exact ⟨fun _ => h, by rw [hr]; simp⟩
theorem wp_region_T {id : Nat} {a : Act} {w : World} (L : Nat) (S : World → Prop) (hm : P.follows .mixedOrders = true)
    (h : AnyT P .any ops Q S L ops.size (Array.replicate ops.size false) a w.drew) : (Code.region id ops true).wp P Q a w :=
  wp_region_any hm (any_of_T _ _ _ _ h)
end
end Go.Proofs.YtddemgkbfdhpnaaDoor

/-
  spec.l5Digits, l5Quote.
-/
namespace Go.Proofs.YtddemgkbfdhpnaaDoor
open Go.ChangeShapes Go.WideShapes Go.ChangeAt Go.RowKit Go.Deep
set_option linter.unusedVariables false
set_option linter.unusedSimpArgs false
set_option maxRecDepth 100000

set_option maxHeartbeats 2000000 in
theorem l5Digits_core : ∀ (f n : Nat) (w : World), n < 10 ^ (f + 1) → n < 2 ^ 64 →
    Calls Tryd.prog 45 #[.int .u64 (n : Int)] w fun e w' => ∃ g cp, e = .returned (.slice (some ⟨g, 0, none⟩) (Lib.decDigits n).length cp) ∧ OwnY w' w.heap.size g cp (Lib.decDigits n) ∧ Below w.heap.size w w' := by
  intro f
  induction f with
  | zero =>
    intro n w h1 h2
    have hs : (n : Int) < 10 := by simp at h1; omega
    have hD : Hid (Lib.decDigits n = [UInt8.ofNat (48 + n)]) := by show Lib.decDigits n = _; rw [Lib.decDigits, dif_pos (by omega)]
    go_enter Tryd.func45, Tryd.ntmps45
    go_wp2_with fail
    go_ret
    refine ⟨w.heap.size, 1, ?_, ?_, (Below.refl _ _).alloc (Nat.le_refl _) _⟩
    · rw [hD.out]; rfl
    · rw [hD.out]
      exact ownY_one w (Nat.le_refl _) _ (by rw [UInt8.toNat_ofNat']; omega)
  | succ f ih =>
    intro n w h1 h2
    by_cases hs : (n : Int) < 10
    · have hD : Hid (Lib.decDigits n = [UInt8.ofNat (48 + n)]) := by show Lib.decDigits n = _; rw [Lib.decDigits, dif_pos (by omega)]
      go_enter Tryd.func45, Tryd.ntmps45
      go_wp2_with fail
      go_ret
      refine ⟨w.heap.size, 1, ?_, ?_, (Below.refl _ _).alloc (Nat.le_refl _) _⟩
      · rw [hD.out]; rfl
      · rw [hD.out]
        exact ownY_one w (Nat.le_refl _) _ (by rw [UInt8.toNat_ofNat']; omega)
    · obtain ⟨d, hd⟩ : ∃ d : UInt8, d = UInt8.ofNat (48 + n % 10) := ⟨_, rfl⟩
      have hdn : Hid (48 + (n : Int) % 10 = (d.toNat : Int)) := by show _ = _; rw [hd, UInt8.toNat_ofNat']; omega
      have hD : Hid (Lib.decDigits n = Lib.decDigits (n / 10) ++ [d]) := by show Lib.decDigits n = _; rw [Lib.decDigits, dif_neg (by omega), hd]
      clear hd
      have hc := ih (n / 10) w (by rw [Nat.div_lt_iff_lt_mul (by omega), ← Nat.pow_succ]; exact h1) (by omega)
      rw [show ((n / 10 : Nat) : Int) = (n : Int) / 10 by omega] at hc
      have hl := dec64_len (n := n / 10) (by omega)
      go_enter Tryd.func45, Tryd.ntmps45
      go_wp2_with fail
      refine hc.mono ?_
      rintro e w2 ⟨g, cp, rfl, hO2, hb2⟩
      obtain ⟨W1, hW1⟩ : ∃ W1 : World, W1 = w2.alloc (Obj.cells #[.int .u8 (48 + (n : Int) % 10)] 5) := ⟨_, rfl⟩
      have hb1 : Below w2.heap.size w2 W1 := by rw [hW1]; exact (Below.refl _ _).alloc (Nat.le_refl _) _
      have s2 := hb2.size
      have s1 := hb1.size
      have HO1 : Hid (OwnY W1 w2.heap.size w2.heap.size 1 [d] ∧ OwnY W1 w.heap.size g cp (Lib.decDigits (n / 10))) := by
        refine ⟨?_, hO2.below hb1⟩
        rw [hW1]
        exact ownY_one w2 (Nat.le_refl _) _ hdn.out
      have HB : Hid (Below w.heap.size w W1) := hb2.trans (hb1.mono s2)
      clear hc hO2 hb1 hb2
      go_wp2_with (at_builtin; (try rw [← hW1]); refine wpList_append_bys _ rfl _ _ rfl w.heap.size g cp _ w2.heap.size 0 1 1 (Lib.decDigits (n / 10)) [d] rfl rfl rfl rfl ?hO ?hc ?hl ?hb ?_)
      case hO => exact HO1.out.2
      case hc => exact HO1.out.1.at
      case hl => simp; omega
      case hb => omega
      intro g' cp' w3 hO' hgr hat
      have hgr2 : W1.grownBy w3 (some g) := by first | exact hgr | (rw [hW1]; exact hgr)
      clear hgr hW1
      go_wp2_with fail
      go_ret
      refine ⟨g', cp', ?_, ?_, HB.out.grown hgr2 (by omega) (fun j hj => by cases hj; exact HO1.out.2.lt.1)⟩
      · rw [hD.out, List.length_append]; rfl
      · rw [hD.out]; exact hO'
theorem l5Digits_all (n : Nat) (w : World) (h : n < 2 ^ 64) :
    Calls Tryd.prog 45 #[.int .u64 (n : Int)] w fun e w' => ∃ g cp, e = .returned (.slice (some ⟨g, 0, none⟩) (Lib.decDigits n).length cp) ∧ OwnY w' w.heap.size g cp (Lib.decDigits n) ∧ Below w.heap.size w w' :=
  l5Digits_core 19 n w (Nat.lt_trans h (by decide)) h
theorem bl_get {s : ByteArray} {k : Nat} (h : k < s.size) {x : UInt8} (hx : (bl s)[k]? = some x) : s[k] = x := by
  have := hx
  rw [List.getElem?_eq_getElem (by rw [bl_len]; exact h)] at this
  exact Option.some.inj this
/-- The bytes of a row that has just been made. -/
theorem bys_new (w : World) (cs : Array Value) (xs : List UInt8) (h : cs.toList = xs.map ub) : BysAt (w.alloc (Obj.cells cs 5)) w.heap.size 0 xs := by
  intro i x hx
  rw [cell_of_row _ _ _ _ _ _ (heap_alloc_last w _), Nat.zero_add]
  rw [← Array.getElem?_toList, h, List.getElem?_map, hx]
  rfl
theorem bys_mark (w : World) (cs : Array Value) (xs : List UInt8) (fz : Nat × Nat) (h : cs.toList = xs.map ub) : BysAt (w.alloc (Obj.cells cs 5 fz)) w.heap.size 0 xs := by
  intro i x hx
  rw [cell_of_row _ _ _ _ _ _ (heap_alloc_last w _), Nat.zero_add]
  rw [← Array.getElem?_toList, h, List.getElem?_map, hx]
  rfl
/-- A digit of sixteen, off the constant. -/
theorem hex_at : ∀ (d : Nat) (h : d < 16), (⟨#[48, 49, 50, 51, 52, 53, 54, 55, 56, 57, 97, 98, 99, 100, 101, 102]⟩ : ByteArray)[d]'h = hexB d := by
  intro d h
  have : ∀ d : Fin 16, (⟨#[48, 49, 50, 51, 52, 53, 54, 55, 56, 57, 97, 98, 99, 100, 101, 102]⟩ : ByteArray)[d.val]'d.isLt = hexB d.val := by decide
  exact this ⟨d, h⟩
theorem wrap_div16 (x : UInt8) : IntKind.u8.wrap ((x.toNat : Int) / 16) = ((x.toNat / 16 : Nat) : Int) := by
  have := x.toNat_lt
  simp only [IntKind.wrap, IntKind.bits, IntKind.signed, Bool.false_and, Bool.false_eq_true, if_false]
  omega
theorem tmod16 (x : UInt8) : (x.toNat : Int).tmod 16 = ((x.toNat % 16 : Nat) : Int) := by
  rw [Int.tmod_eq_emod_of_nonneg (by omega)]; omega
set_option maxHeartbeats 4000000 in
theorem l5Quote_core (s : ByteArray) (w : World) (hs : s.size ≤ 1000000) :
    Calls Tryd.prog 44 #[.string s] w fun e w' => ∃ g cp, e = .returned (.slice (some ⟨g, 0, none⟩) (quoM (bl s)).length cp) ∧ WrB w' w.heap.size g cp (quoM (bl s)) ∧ Below w.heap.size w w' := by
  have kc := fun (w : World) (C : Array Value) (n c : Nat) => Lib.run_convert_bytes_const (P := Tryd.prog) w 26 5 C n c Tryd.underlying26 Tryd.underlying5
  obtain ⟨W1, hW1⟩ : ∃ W1 : World, W1 = w.alloc (Obj.cells #[.int .u8 34] 5 (1, 2)) := ⟨_, rfl⟩
  have hb1 : Below w.heap.size w W1 := by rw [hW1]; exact (Below.refl _ _).alloc (Nat.le_refl _) _
  have z1 : w.heap.size < W1.heap.size := by rw [hW1]; simp
  have HO1 : Hid (WrB W1 w.heap.size w.heap.size 1 [34] ∧ Below w.heap.size w W1) := by
    refine ⟨WrB.full (xs := [34]) (Nat.le_refl _) z1 ?_ (by simp), hb1⟩
    rw [hW1]
    exact bys_mark w _ [34] _ rfl
  clear hb1
  go_enter Tryd.func44, Tryd.ntmps44
  go_upto_region 2 with fail
  rw [← hW1]
  clear hW1 kc
  go_wp2_with fail
  go_loopw [3, 4] (fun o iv wr => ∃ (k g cp n : Nat) (X : List UInt8), k ≤ s.size ∧ iv = .int .i64 k ∧ o = .slice (some ⟨g, 0, none⟩) n cp ∧ n = X.length ∧ n ≤ 4 * k + 1 ∧ Hid (X = [34] ++ quoL ((bl s).take k)) ∧ WrB wr w.heap.size g cp X ∧ Below w.heap.size w wr) (fun _ iv _ => s.size - (intOf iv).toNat)
  case atStart => exact ⟨0, _, 1, 1, [34], Nat.zero_le _, rfl, rfl, rfl, by omega, rfl, HO1.out.1, HO1.out.2⟩
  case round =>
    clear HO1
    obtain ⟨k, g, cp, n, X, hk, rfl, rfl, hn, hn4, HX, hW, hb⟩ := hrel
    have HW : Hid (WrB wr w.heap.size g cp X ∧ Below w.heap.size w wr ∧ n = X.length) := ⟨hW, hb, hn⟩
    have hgl := hW.lt
    have hge := hW.le
    have sr := hb.size
    clear hW hb hn
    by_cases hlt : k < s.size
    · have z : (k : Int) < (s.size : Int) := by omega
      obtain ⟨x, hx⟩ : ∃ x, (bl s)[k]? = some x := ⟨_, List.getElem?_eq_getElem (by rw [bl_len]; exact hlt)⟩
      have gx := bl_get hlt hx
      have HX2 : Hid ([34] ++ quoL ((bl s).take (k + 1)) = X ++ qByte x) := by
        show _ = _
        rw [List.take_add_one, hx, HX.out, Option.toList, quoL_snoc, List.append_assoc]
      have hx8 : x.toNat < 256 := x.toNat_lt
      clear hx
      by_cases h34 : x.toNat = 34
      · obtain rfl : x = 34 := UInt8.toNat_inj.1 h34
        have HQ : Hid (qByte 34 = [92, 34]) := by show _ = _; decide
        obtain ⟨W2, hW2⟩ : ∃ W2 : World, W2 = wr.alloc (Obj.cells #[.int .u8 92, .int .u8 34] 5) := ⟨_, rfl⟩
        have hb2 : Below wr.heap.size wr W2 := by rw [hW2]; exact (Below.refl _ _).alloc (Nat.le_refl _) _
        have s2 := hb2.size
        have HW2 : Hid (WrB W2 w.heap.size g cp X ∧ Below w.heap.size w W2 ∧ BysAt W2 wr.heap.size 0 [92, 34]) := by
          refine ⟨HW.out.1.below hb2, HW.out.2.1.trans (hb2.mono sr), ?_⟩
          rw [hW2]; exact bys_new wr _ [92, 34] rfl
        clear hb2
        go_wp2_with (at_builtin; (try rw [← hW2]); refine wpList_append_wr _ rfl _ _ rfl w.heap.size g cp n wr.heap.size 0 2 2 X [92, 34] rfl rfl HW.out.2.2 rfl HW2.out.1 HW2.out.2.2 ?hl ?hb ?_)
        case hl => rw [← HW.out.2.2]; show n + 2 ≤ _; omega
        case hb => omega
        intro g' cp' w' hW' hgr hat
        have hgr2 : W2.grownBy w' (some g) := by first | exact hgr | (rw [hW2]; exact hgr)
        have HR : Hid (WrB w' w.heap.size g' cp' (X ++ [92, 34]) ∧ Below w.heap.size w w' ∧ n + 2 = (X ++ [92, 34]).length ∧ X ++ [92, 34] = [34] ++ quoL ((bl s).take (k + 1))) := ⟨hW', WrB.next HW2.out.2.1 (by omega) hge hgr2, by rw [List.length_append, ← HW.out.2.2]; rfl, by rw [HX2.out, HQ.out]⟩
        clear hW' hgr hgr2 hat hW2
        go_wp2_with fail
        go_roundw
        case rel => exact ⟨k + 1, g', cp', n + 2, X ++ [92, 34], by omega, by go_num, rfl, HR.out.2.2.1, by omega, HR.out.2.2.2, HR.out.1, HR.out.2.1⟩
        case measure => simp [intOf]; omega
      by_cases h92 : x.toNat = 92
      · obtain rfl : x = 92 := UInt8.toNat_inj.1 h92
        have HQ : Hid (qByte 92 = [92, 92]) := by show _ = _; decide
        obtain ⟨W2, hW2⟩ : ∃ W2 : World, W2 = wr.alloc (Obj.cells #[.int .u8 92, .int .u8 92] 5) := ⟨_, rfl⟩
        have hb2 : Below wr.heap.size wr W2 := by rw [hW2]; exact (Below.refl _ _).alloc (Nat.le_refl _) _
        have s2 := hb2.size
        have HW2 : Hid (WrB W2 w.heap.size g cp X ∧ Below w.heap.size w W2 ∧ BysAt W2 wr.heap.size 0 [92, 92]) := by
          refine ⟨HW.out.1.below hb2, HW.out.2.1.trans (hb2.mono sr), ?_⟩
          rw [hW2]; exact bys_new wr _ [92, 92] rfl
        clear hb2
        go_wp2_with (at_builtin; (try rw [← hW2]); refine wpList_append_wr _ rfl _ _ rfl w.heap.size g cp n wr.heap.size 0 2 2 X [92, 92] rfl rfl HW.out.2.2 rfl HW2.out.1 HW2.out.2.2 ?hl ?hb ?_)
        case hl => rw [← HW.out.2.2]; show n + 2 ≤ _; omega
        case hb => omega
        intro g' cp' w' hW' hgr hat
        have hgr2 : W2.grownBy w' (some g) := by first | exact hgr | (rw [hW2]; exact hgr)
        have HR : Hid (WrB w' w.heap.size g' cp' (X ++ [92, 92]) ∧ Below w.heap.size w w' ∧ n + 2 = (X ++ [92, 92]).length ∧ X ++ [92, 92] = [34] ++ quoL ((bl s).take (k + 1))) := ⟨hW', WrB.next HW2.out.2.1 (by omega) hge hgr2, by rw [List.length_append, ← HW.out.2.2]; rfl, by rw [HX2.out, HQ.out]⟩
        clear hW' hgr hgr2 hat hW2
        go_wp2_with fail
        go_roundw
        case rel => exact ⟨k + 1, g', cp', n + 2, X ++ [92, 92], by omega, by go_num, rfl, HR.out.2.2.1, by omega, HR.out.2.2.2, HR.out.1, HR.out.2.1⟩
        case measure => simp [intOf]; omega
      have z34 : ((x.toNat : Int) == 34) = false := by rw [beq_eq_false_iff_ne]; omega
      have z92 : ((x.toNat : Int) == 92) = false := by rw [beq_eq_false_iff_ne]; omega
      by_cases h2 : 32 ≤ x.toNat ∧ x.toNat ≤ 126
      · have z32 : (32 : Int) ≤ (x.toNat : Int) := by omega
        have z126 : (x.toNat : Int) ≤ 126 := by omega
        have HQ : Hid (qByte x = [x]) := by show _ = _; unfold qByte; rw [if_neg (by omega), if_pos h2]
        obtain ⟨W2, hW2⟩ : ∃ W2 : World, W2 = wr.alloc (Obj.cells #[.int .u8 (x.toNat : Int)] 5) := ⟨_, rfl⟩
        have hb2 : Below wr.heap.size wr W2 := by rw [hW2]; exact (Below.refl _ _).alloc (Nat.le_refl _) _
        have s2 := hb2.size
        have HW2 : Hid (WrB W2 w.heap.size g cp X ∧ Below w.heap.size w W2 ∧ BysAt W2 wr.heap.size 0 [x]) := by
          refine ⟨HW.out.1.below hb2, HW.out.2.1.trans (hb2.mono sr), ?_⟩
          rw [hW2]; exact bys_new wr _ [x] rfl
        clear hb2
        go_wp2_with (at_builtin; (try rw [← hW2]); refine wpList_append_wr _ rfl _ _ rfl w.heap.size g cp n wr.heap.size 0 1 1 X [x] rfl rfl HW.out.2.2 rfl HW2.out.1 HW2.out.2.2 ?hl ?hb ?_)
        case hl => first | omega | (rw [← HW.out.2.2]; first | (show n + 1 ≤ _; omega) | omega)
        case hb => omega
        intro g' cp' w' hW' hgr hat
        have hgr2 : W2.grownBy w' (some g) := by first | exact hgr | (rw [hW2]; exact hgr)
        have HR : Hid (WrB w' w.heap.size g' cp' (X ++ [x]) ∧ Below w.heap.size w w' ∧ n + 1 = (X ++ [x]).length ∧ X ++ [x] = [34] ++ quoL ((bl s).take (k + 1))) := ⟨hW', WrB.next HW2.out.2.1 (by omega) hge hgr2, by rw [List.length_append, ← HW.out.2.2]; rfl, by rw [HX2.out, HQ.out]⟩
        clear hW' hgr hgr2 hat hW2
        go_wp2_with fail
        go_roundw
        case rel => exact ⟨k + 1, g', cp', n + 1, X ++ [x], by omega, by go_num, rfl, HR.out.2.2.1, by omega, HR.out.2.2.2, HR.out.1, HR.out.2.1⟩
        case measure => simp [intOf]; omega
      obtain ⟨d, hd⟩ : ∃ d, d = x.toNat / 16 := ⟨_, rfl⟩
      obtain ⟨f, hf⟩ : ∃ f, f = x.toNat % 16 := ⟨_, rfl⟩
      have hdl : d < 16 := by omega
      have hfl : f < 16 := by omega
      have zdl : (d : Int) < 16 := by omega
      have zfl : (f : Int) < 16 := by omega
      obtain ⟨d1, hd1⟩ : ∃ d1, d1 = hexB d := ⟨_, rfl⟩
      obtain ⟨d2, hd2⟩ : ∃ d2, d2 = hexB f := ⟨_, rfl⟩
      have HD : Hid (IntKind.u8.wrap ((x.toNat : Int) / 16) = (d : Int) ∧ (x.toNat : Int).tmod 16 = (f : Int) ∧ (⟨#[48, 49, 50, 51, 52, 53, 54, 55, 56, 57, 97, 98, 99, 100, 101, 102]⟩ : ByteArray)[d]'hdl = d1 ∧ (⟨#[48, 49, 50, 51, 52, 53, 54, 55, 56, 57, 97, 98, 99, 100, 101, 102]⟩ : ByteArray)[f]'hfl = d2) := ⟨by rw [wrap_div16, hd], by rw [tmod16, hf], by rw [hex_at, hd1], by rw [hex_at, hd2]⟩
      have HQ : Hid (qByte x = [92, 120, d1, d2]) := by show _ = _; unfold qByte; rw [if_neg (by omega), if_neg h2, ← hd, ← hf, hd1, hd2]
      obtain ⟨W2, hW2⟩ : ∃ W2 : World, W2 = (wr.alloc (Obj.cells #[.int .u8 92, .int .u8 120, .int .u8 (d1.toNat : Int), .int .u8 (d2.toNat : Int)] 5)).drew := ⟨_, rfl⟩
      have hb2 : Below wr.heap.size wr W2 := by rw [hW2]; exact ((Below.refl _ _).alloc (Nat.le_refl _) _).drew
      have s2 := hb2.size
      have HW2 : Hid (WrB W2 w.heap.size g cp X ∧ Below w.heap.size w W2 ∧ BysAt W2 wr.heap.size 0 [92, 120, d1, d2]) := by
        refine ⟨HW.out.1.below hb2, HW.out.2.1.trans (hb2.mono sr), ?_⟩
        rw [hW2]; exact fun i y hy => bys_new wr _ [92, 120, d1, d2] rfl i y hy
      clear hb2 hd hf hd1 hd2
      by_cases h3 : 32 ≤ x.toNat
      · have z3 : (32 : Int) ≤ (x.toNat : Int) := by omega
        have z4 : ¬ (x.toNat : Int) ≤ 126 := by omega
        clear h2
        go_upto_region 11 with fail
        refine wp_region_T 11 (fun _ => True) (by kernel_rfl) ?_
        refine anyT_take (i := 0) (v := ?vp0) rfl (by kernel_rfl) (by kernel_rfl) (by kernel_rfl) (by kernel_rfl) (by decide) (fun _ _ _ h => h) (Or.inl ⟨by rfl, ?yp0⟩) trivial ?_
        case yp0 => (intro wz _; go_simp; (try with_reducible rfl))
        try simp only [Act.put, List.setIfInBounds_toArray, List.set_cons_zero, List.set_cons_succ]
        refine anyT_take (i := 1) (v := ?vp1) rfl (by kernel_rfl) (by kernel_rfl) (by kernel_rfl) (by kernel_rfl) (by decide) (fun _ _ _ h => h) (Or.inl ⟨by rfl, ?yp1⟩) trivial ?_
        case yp1 => (intro wz _; go_simp; (try with_reducible rfl))
        try simp only [Act.put, List.setIfInBounds_toArray, List.set_cons_zero, List.set_cons_succ]
        refine anyT_take (i := 2) (v := ?vp2) rfl (by kernel_rfl) (by kernel_rfl) (by kernel_rfl) (by kernel_rfl) (by decide) (fun _ _ _ h => h) (Or.inl ⟨by rfl, ?yp2⟩) trivial ?_
        case yp2 => (intro wz _; go_simp; (try with_reducible rfl))
        try simp only [Act.put, List.setIfInBounds_toArray, List.set_cons_zero, List.set_cons_succ]
        refine anyT_take (i := 3) (v := .int .u8 (d : Int)) rfl (by kernel_rfl) (by kernel_rfl) (by kernel_rfl) (by kernel_rfl) (by decide) (fun _ _ _ h => h) (Or.inl ⟨by rfl, ?yp3⟩) trivial ?_
        case yp3 => (intro wz _; go_simp; first | exact HD.out.1 | rw [HD.out.1])
        try simp only [Act.put, List.setIfInBounds_toArray, List.set_cons_zero, List.set_cons_succ]
        refine anyT_take (i := 4) (v := .int .u8 (d1.toNat : Int)) rfl (by kernel_rfl) (by kernel_rfl) (by kernel_rfl) (by kernel_rfl) (by decide) (fun _ _ _ h => h) (Or.inl ⟨by rfl, ?yp4⟩) trivial ?_
        case yp4 => (intro wz _; go_simp; simp only [HD.out.2.2.1])
        try simp only [Act.put, List.setIfInBounds_toArray, List.set_cons_zero, List.set_cons_succ]
        refine anyT_take (i := 5) (v := ?vp5) rfl (by kernel_rfl) (by kernel_rfl) (by kernel_rfl) (by kernel_rfl) (by decide) (fun _ _ _ h => h) (Or.inl ⟨by rfl, ?yp5⟩) trivial ?_
        case yp5 => (intro wz _; go_simp; (try with_reducible rfl))
        try simp only [Act.put, List.setIfInBounds_toArray, List.set_cons_zero, List.set_cons_succ]
        refine anyT_take (i := 6) (v := ?vp6) rfl (by kernel_rfl) (by kernel_rfl) (by kernel_rfl) (by kernel_rfl) (by decide) (fun _ _ _ h => h) (Or.inl ⟨by rfl, ?yp6⟩) trivial ?_
        case yp6 => (intro wz _; go_simp; (try with_reducible rfl))
        try simp only [Act.put, List.setIfInBounds_toArray, List.set_cons_zero, List.set_cons_succ]
        refine anyT_take (i := 7) (v := .int .u8 (f : Int)) rfl (by kernel_rfl) (by kernel_rfl) (by kernel_rfl) (by kernel_rfl) (by decide) (fun _ _ _ h => h) (Or.inl ⟨by rfl, ?yp7⟩) trivial ?_
        case yp7 => (intro wz _; go_simp; first | exact HD.out.2.1 | rw [HD.out.2.1])
        try simp only [Act.put, List.setIfInBounds_toArray, List.set_cons_zero, List.set_cons_succ]
        refine anyT_take (i := 8) (v := .int .u8 (d2.toNat : Int)) rfl (by kernel_rfl) (by kernel_rfl) (by kernel_rfl) (by kernel_rfl) (by decide) (fun _ _ _ h => h) (Or.inl ⟨by rfl, ?yp8⟩) trivial ?_
        case yp8 => (intro wz _; go_simp; simp only [HD.out.2.2.2])
        try simp only [Act.put, List.setIfInBounds_toArray, List.set_cons_zero, List.set_cons_succ]
        refine anyT_one (i := 9) (by kernel_rfl) rfl (fun K hK => ?_)
        go_simp
        try rw [← hW2]
        refine hK.out _ _ (.inr trivial) ?_
        clear hK
        try simp only [Act.put, List.setIfInBounds_toArray, List.set_cons_zero, List.set_cons_succ]
        refine anyT_one (i := 10) (by kernel_rfl) rfl (fun K hK => ?_)
        refine step_append_wr _ rfl _ _ rfl w.heap.size g cp n wr.heap.size 0 4 4 X [92, 120, d1, d2] rfl rfl HW.out.2.2 rfl HW2.out.1 HW2.out.2.2 ?hl ?hb ?_
        case hl => rw [← HW.out.2.2]; show n + 4 ≤ _; omega
        case hb => omega
        intro g' cp' w' hW' hgr hat
        have HR : Hid (WrB w' w.heap.size g' cp' (X ++ [92, 120, d1, d2]) ∧ Below w.heap.size w w' ∧ n + 4 = (X ++ [92, 120, d1, d2]).length ∧ X ++ [92, 120, d1, d2] = [34] ++ quoL ((bl s).take (k + 1))) := ⟨hW', WrB.next HW2.out.2.1 (by omega) hge hgr, by rw [List.length_append, ← HW.out.2.2]; rfl, by rw [HX2.out, HQ.out]⟩
        refine hK.out _ _ (.inr trivial) ?_
        clear hK hW' hgr hat hW2
        try simp only [Act.put, List.setIfInBounds_toArray, List.set_cons_zero, List.set_cons_succ]
        refine anyT_one (i := 11) (by kernel_rfl) rfl (fun K hK => ?_)
        go_simp
        refine hK.out _ _ (.inl rfl) ?_
        clear hK
        try simp only [Act.put, List.setIfInBounds_toArray, List.set_cons_zero, List.set_cons_succ]
        refine anyT_done (by kernel_rfl) ?_
        go_wp2_with fail
        go_roundw
        case rel => exact ⟨k + 1, g', cp', n + 4, X ++ [92, 120, d1, d2], by omega, by go_num, rfl, HR.out.2.2.1, by omega, HR.out.2.2.2, HR.out.1, HR.out.2.1⟩
        case measure => simp [intOf]; omega
      · have z3 : ¬ (32 : Int) ≤ (x.toNat : Int) := by omega
        clear h2
        go_upto_region 11 with fail
        refine wp_region_T 11 (fun _ => True) (by kernel_rfl) ?_
        refine anyT_take (i := 0) (v := ?vq0) rfl (by kernel_rfl) (by kernel_rfl) (by kernel_rfl) (by kernel_rfl) (by decide) (fun _ _ _ h => h) (Or.inl ⟨by rfl, ?yq0⟩) trivial ?_
        case yq0 => (intro wz _; go_simp; (try with_reducible rfl))
        try simp only [Act.put, List.setIfInBounds_toArray, List.set_cons_zero, List.set_cons_succ]
        refine anyT_take (i := 1) (v := ?vq1) rfl (by kernel_rfl) (by kernel_rfl) (by kernel_rfl) (by kernel_rfl) (by decide) (fun _ _ _ h => h) (Or.inl ⟨by rfl, ?yq1⟩) trivial ?_
        case yq1 => (intro wz _; go_simp; (try with_reducible rfl))
        try simp only [Act.put, List.setIfInBounds_toArray, List.set_cons_zero, List.set_cons_succ]
        refine anyT_take (i := 2) (v := ?vq2) rfl (by kernel_rfl) (by kernel_rfl) (by kernel_rfl) (by kernel_rfl) (by decide) (fun _ _ _ h => h) (Or.inl ⟨by rfl, ?yq2⟩) trivial ?_
        case yq2 => (intro wz _; go_simp; (try with_reducible rfl))
        try simp only [Act.put, List.setIfInBounds_toArray, List.set_cons_zero, List.set_cons_succ]
        refine anyT_take (i := 3) (v := .int .u8 (d : Int)) rfl (by kernel_rfl) (by kernel_rfl) (by kernel_rfl) (by kernel_rfl) (by decide) (fun _ _ _ h => h) (Or.inl ⟨by rfl, ?yq3⟩) trivial ?_
        case yq3 => (intro wz _; go_simp; first | exact HD.out.1 | rw [HD.out.1])
        try simp only [Act.put, List.setIfInBounds_toArray, List.set_cons_zero, List.set_cons_succ]
        refine anyT_take (i := 4) (v := .int .u8 (d1.toNat : Int)) rfl (by kernel_rfl) (by kernel_rfl) (by kernel_rfl) (by kernel_rfl) (by decide) (fun _ _ _ h => h) (Or.inl ⟨by rfl, ?yq4⟩) trivial ?_
        case yq4 => (intro wz _; go_simp; simp only [HD.out.2.2.1])
        try simp only [Act.put, List.setIfInBounds_toArray, List.set_cons_zero, List.set_cons_succ]
        refine anyT_take (i := 5) (v := ?vq5) rfl (by kernel_rfl) (by kernel_rfl) (by kernel_rfl) (by kernel_rfl) (by decide) (fun _ _ _ h => h) (Or.inl ⟨by rfl, ?yq5⟩) trivial ?_
        case yq5 => (intro wz _; go_simp; (try with_reducible rfl))
        try simp only [Act.put, List.setIfInBounds_toArray, List.set_cons_zero, List.set_cons_succ]
        refine anyT_take (i := 6) (v := ?vq6) rfl (by kernel_rfl) (by kernel_rfl) (by kernel_rfl) (by kernel_rfl) (by decide) (fun _ _ _ h => h) (Or.inl ⟨by rfl, ?yq6⟩) trivial ?_
        case yq6 => (intro wz _; go_simp; (try with_reducible rfl))
        try simp only [Act.put, List.setIfInBounds_toArray, List.set_cons_zero, List.set_cons_succ]
        refine anyT_take (i := 7) (v := .int .u8 (f : Int)) rfl (by kernel_rfl) (by kernel_rfl) (by kernel_rfl) (by kernel_rfl) (by decide) (fun _ _ _ h => h) (Or.inl ⟨by rfl, ?yq7⟩) trivial ?_
        case yq7 => (intro wz _; go_simp; first | exact HD.out.2.1 | rw [HD.out.2.1])
        try simp only [Act.put, List.setIfInBounds_toArray, List.set_cons_zero, List.set_cons_succ]
        refine anyT_take (i := 8) (v := .int .u8 (d2.toNat : Int)) rfl (by kernel_rfl) (by kernel_rfl) (by kernel_rfl) (by kernel_rfl) (by decide) (fun _ _ _ h => h) (Or.inl ⟨by rfl, ?yq8⟩) trivial ?_
        case yq8 => (intro wz _; go_simp; simp only [HD.out.2.2.2])
        try simp only [Act.put, List.setIfInBounds_toArray, List.set_cons_zero, List.set_cons_succ]
        refine anyT_one (i := 9) (by kernel_rfl) rfl (fun K hK => ?_)
        go_simp
        try rw [← hW2]
        refine hK.out _ _ (.inr trivial) ?_
        clear hK
        try simp only [Act.put, List.setIfInBounds_toArray, List.set_cons_zero, List.set_cons_succ]
        refine anyT_one (i := 10) (by kernel_rfl) rfl (fun K hK => ?_)
        refine step_append_wr _ rfl _ _ rfl w.heap.size g cp n wr.heap.size 0 4 4 X [92, 120, d1, d2] rfl rfl HW.out.2.2 rfl HW2.out.1 HW2.out.2.2 ?hl ?hb ?_
        case hl => rw [← HW.out.2.2]; show n + 4 ≤ _; omega
        case hb => omega
        intro g' cp' w' hW' hgr hat
        have HR : Hid (WrB w' w.heap.size g' cp' (X ++ [92, 120, d1, d2]) ∧ Below w.heap.size w w' ∧ n + 4 = (X ++ [92, 120, d1, d2]).length ∧ X ++ [92, 120, d1, d2] = [34] ++ quoL ((bl s).take (k + 1))) := ⟨hW', WrB.next HW2.out.2.1 (by omega) hge hgr, by rw [List.length_append, ← HW.out.2.2]; rfl, by rw [HX2.out, HQ.out]⟩
        refine hK.out _ _ (.inr trivial) ?_
        clear hK hW' hgr hat hW2
        try simp only [Act.put, List.setIfInBounds_toArray, List.set_cons_zero, List.set_cons_succ]
        refine anyT_one (i := 11) (by kernel_rfl) rfl (fun K hK => ?_)
        go_simp
        refine hK.out _ _ (.inl rfl) ?_
        clear hK
        try simp only [Act.put, List.setIfInBounds_toArray, List.set_cons_zero, List.set_cons_succ]
        refine anyT_done (by kernel_rfl) ?_
        go_wp2_with fail
        go_roundw
        case rel => exact ⟨k + 1, g', cp', n + 4, X ++ [92, 120, d1, d2], by omega, by go_num, rfl, HR.out.2.2.1, by omega, HR.out.2.2.2, HR.out.1, HR.out.2.1⟩
        case measure => simp [intOf]; omega
    · have z : ¬ (k : Int) < (s.size : Int) := by omega
      have HX2 : Hid (quoM (bl s) = X ++ [34]) := by
        show _ = _
        have := HX.out
        rw [List.take_of_length_le (by rw [bl_len]; omega)] at this
        rw [quoM, this]
      obtain ⟨W2, hW2⟩ : ∃ W2 : World, W2 = wr.alloc (Obj.cells #[.int .u8 34] 5) := ⟨_, rfl⟩
      have hb2 : Below wr.heap.size wr W2 := by rw [hW2]; exact (Below.refl _ _).alloc (Nat.le_refl _) _
      have s2 := hb2.size
      have HW2 : Hid (WrB W2 w.heap.size g cp X ∧ Below w.heap.size w W2 ∧ BysAt W2 wr.heap.size 0 [34]) := by
        refine ⟨HW.out.1.below hb2, HW.out.2.1.trans (hb2.mono sr), ?_⟩
        rw [hW2]; exact bys_new wr _ [34] rfl
      clear hb2
      go_wp2_with (at_builtin; (try rw [← hW2]); refine wpList_append_wr _ rfl _ _ rfl w.heap.size g cp n wr.heap.size 0 1 1 X [34] rfl rfl HW.out.2.2 rfl HW2.out.1 HW2.out.2.2 ?hl ?hb ?_)
      case hl => first | omega | (rw [← HW.out.2.2]; first | (show n + 1 ≤ _; omega) | omega)
      case hb => omega
      intro g' cp' w' hW' hgr hat
      have hgr2 : W2.grownBy w' (some g) := by first | exact hgr | (rw [hW2]; exact hgr)
      have HR : Hid (WrB w' w.heap.size g' cp' (quoM (bl s)) ∧ Below w.heap.size w w' ∧ n + 1 = (quoM (bl s)).length) := ⟨by rw [HX2.out]; exact hW', WrB.next HW2.out.2.1 (by omega) hge hgr2, by rw [HX2.out, List.length_append, ← HW.out.2.2]; rfl⟩
      clear hW' hgr hgr2 hat hW2
      go_wp2_with fail
      go_ret
      exact ⟨g', cp', by rw [← HR.out.2.2]; rfl, HR.out.1, HR.out.2.1⟩
end Go.Proofs.YtddemgkbfdhpnaaDoor

