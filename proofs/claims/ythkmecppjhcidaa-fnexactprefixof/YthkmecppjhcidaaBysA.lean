/-
  Bytes of the call's own; append; l2Num, l2Cat, l2Str, l2Fixed, l2Shared.
-/
import Derived.Test.YthkmecppjhcidaaBys
import Derived.Test.YthkmecppjhcidaaChg
import Derived.Maps.AppendAt
import Derived.Lib.ConvBytes
namespace Go.Proofs.Ythkmecppjhcidaa
open Go.ChangeShapes Go.WideShapes Go.ChangeAt Go.RowKit Go.Deep
set_option linter.unusedVariables false
set_option linter.unusedSimpArgs false
set_option maxRecDepth 100000

/-- A row of bytes of the call's own. -/
def OwnY (w : World) (base g cp : Nat) (xs : List UInt8) : Prop := w.ownsRow base 5 1 (.slice (some ⟨g, 0, none⟩) xs.length cp) xs.length (xs.map ub)
theorem OwnY.lt {w : World} {base g cp : Nat} {xs : List UInt8} (h : OwnY w base g cp xs) : base ≤ g ∧ g < w.heap.size := World.ownsRow.lt h g rfl
theorem OwnY.chg {S : Nat → Prop} {w w' : World} {base g cp : Nat} {xs : List UInt8} (h : OwnY w base g cp xs) (hc : Chg S w w') (hn : ¬ S g) : OwnY w' base g cp xs := own_chg h hc (fun k q => by simp [Value.ownBlock] at q; subst q; exact hn)
theorem OwnY.below {w w' : World} {base g cp : Nat} {xs : List UInt8} (h : OwnY w base g cp xs) (hb : Below w.heap.size w w') : OwnY w' base g cp xs := h.chg (Chg.of_below hb) (S := fun _ => False) (fun q => q)
theorem OwnY.at {w : World} {base g cp : Nat} {xs : List UInt8} (h : OwnY w base g cp xs) : BysAt w g 0 xs := by
  intro k x hx
  have hk := (List.getElem?_eq_some_iff.1 hx).1
  rw [Nat.zero_add, World.ownsRow.cellAt h k (by omega), List.getElem?_map, hx]; rfl
theorem OwnY.caps {w : World} {base g cp : Nat} {xs : List UInt8} (h : OwnY w base g cp xs) : xs.length ≤ cp ∧ cp ≤ maxLen := by
  rcases h.2 with ⟨h0, _⟩ | ⟨g', cap', cur, hv, _, _, hn, hcap, _, _⟩
  · cases h0
  · simp only [Value.slice.injEq, Option.some.injEq, Addr.mk.injEq, and_true, true_and] at hv
    obtain ⟨rfl, rfl⟩ := hv
    exact ⟨hn, hcap⟩
theorem OwnY.mono {w : World} {base base' g cp : Nat} {xs : List UInt8} (h : OwnY w base g cp xs) (hb : base' ≤ base) : OwnY w base' g cp xs := by
  refine ⟨h.1, ?_⟩
  rcases h.2 with hn | ⟨g', cap', cur, hv, h1, rest⟩
  · exact .inl hn
  · exact .inr ⟨g', cap', cur, hv, Nat.le_trans hb h1, rest⟩
theorem ub_one (xs : List UInt8) : ∀ u ∈ xs.map ub, u.oneCell' = true := by
  intro u hu
  obtain ⟨r, _, rfl⟩ := List.mem_map.1 hu
  rfl
theorem Try.infoByte : (Try.prog.info? 5).map (fun i => (i.zero, i.size, i.bytes)) = some (some (.int .u8 0), 1, 1) := by kernel_rfl
/-- Bytes appended to a row of the call's own. -/
theorem wpList_append_bys {ops : Array Oper} {rest : List Oper} {o : Oper} {a : Act} {Q : Exit → Act → World → Prop} (w : World) (hgd : o.guard = none) (s x : Operand)
    (ho : o.op = .call { callee := .builtin .append, args := #[s, x], argTypes := #[30, 30] })
    (base g cp n b off m cx : Nat) (l k : List UInt8) (hs : a.eval s = .slice (some ⟨g, 0, none⟩) n cp) (hx : a.eval x = .slice (some ⟨b, off, none⟩) m cx) (hn : n = l.length) (hm : m = k.length) (hO : OwnY w base g cp l)
    (hc : BysAt w b off k) (hlen : l.length + k.length ≤ 2 ^ 30) (hbase : base ≤ w.heap.size)
    (h : ∀ g' cp' w', OwnY w' base g' cp' (l ++ k) → w.grownBy w' (some g) → (g' = g ∨ g' = w.heap.size) → wpList Try.prog ops Q rest (a.put o.dst (.slice (some ⟨g', 0, none⟩) (n + m) cp')) w') : wpList Try.prog ops Q (o :: rest) a w := by
  subst hn hm
  obtain ⟨i, hi, hz0, hz1, hz2⟩ := info_parts Try.infoByte
  refine wpList_append_own_at w hgd s x 30 ho base 5 i _ 1 1 Try.underlying30 hi hz0 hz1 hz2 rfl (by decide) (.slice (some ⟨g, 0, none⟩) l.length cp) l.length (l.map ub) hs hO ⟨b, off, none⟩ k.length cx (k.map ub) hx (by simp) ?_ (ub_one k) ?_ ?_ hbase ?_
  · intro j u hu
    rw [List.getElem?_map] at hu
    cases hk : k[j]? with
    | none => rw [hk] at hu; cases hu
    | some r =>
      rw [hk] at hu
      simp at hu
      rw [Addr.add_mid, hc j r hk, ← hu]
  · unfold maxLen; omega
  · omega
  · intro v' w' hO' hgr hnil hat
    rcases hO'.2 with ⟨h0, _⟩ | ⟨g', cap', cur, hv, _, _, hn, hcap, _, _⟩
    · have := (hnil.1 h0).1
      cases this
    · subst hv
      refine h g' cap' w' ?_ hgr ?_
      · unfold OwnY
        rw [List.length_append, List.map_append]
        exact hO'
      · simp [Value.ownBlock] at hat
        exact hat
theorem ownY_new (w : World) {base : Nat} (hb : base ≤ w.heap.size) : OwnY (w.alloc (Obj.cells #[] 5)) base w.heap.size 0 [] :=
  World.ownsRow_made w #[] 0 hb (Nat.zero_le _) (by simp)
theorem ownY_one (w : World) {base : Nat} (hb : base ≤ w.heap.size) (x : UInt8) {v : Int} (hv : v = (x.toNat : Int)) : OwnY (w.alloc (Obj.cells #[.int .u8 v] 5)) base w.heap.size 1 [x] := by
  subst hv
  exact World.ownsRow_lit w #[ub x] 1 hb (by decide) rfl

end Go.Proofs.Ythkmecppjhcidaa
