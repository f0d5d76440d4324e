/-
  append to bytes of the call's own, at a step of a region that draws.
-/
import Derived.Test.YtlgeffinhbodeacQEnL
import Derived.Test.YtlgeffinhbodeacQInA
import Derived.Deep.RegionLaw
import Derived.Deep.AppendLies
namespace Go.Proofs.Ytlgeffinhbodeac
open Go.ChangeShapes Go.WideShapes Go.ChangeAt Go.RowKit Go.Deep
set_option linter.unusedVariables false
set_option linter.unusedSimpArgs false
set_option maxRecDepth 100000

theorem step_append_y {ops : Array Oper} {oo : Oper} {a : Act} {K : Act → World → Prop} {Q : Exit → Act → World → Prop} {E : Prop} (w : World) (hgd : oo.guard = none) (s x : Operand)
    (ho : oo.op = .call { callee := .builtin .append, args := #[s, x], argTypes := #[47, 47] })
    (base g cp n b off m cx : Nat) (l k : List UInt8) (hs : a.eval s = .slice (some ⟨g, 0, none⟩) n cp) (hx : a.eval x = .slice (some ⟨b, off, none⟩) m cx) (hn : n = l.length) (hm : m = k.length) (hO : OwnY w base g cp l)
    (hc : BysAt w b off k) (hl : 0 < l.length) (hlen : l.length + k.length ≤ 2 ^ 30) (hbase : base ≤ w.heap.size)
    (h : ∀ g' cp' w', OwnY w' base g' cp' (l ++ k) → w.grownBy w' (some g) → (g' = g ∨ w.heap.size ≤ g') → K (a.put oo.dst (.slice (some ⟨g', 0, none⟩) (n + m) cp')) w') : if Region.wanted oo (yielded ops a.tmps) = true then Oper.wp Try.prog oo a w K Q else E := by
  have hw : Region.wanted oo (yielded ops a.tmps) = true := by simp [Region.wanted, hgd]
  rw [if_pos hw]
  subst hn hm
  obtain ⟨i, hi, hz0, hz1, hz2⟩ := info_parts Try.infoByte
  have hnews : ∀ (j : Nat) u, (k.map ub)[j]? = some u → w.cell? ((⟨b, off, none⟩ : Addr).add j) = some u := by
    intro j u hu
    rw [List.getElem?_map] at hu
    cases hk : k[j]? with
    | none => rw [hk] at hu; cases hu
    | some r =>
      rw [hk] at hu
      simp at hu
      rw [Addr.add_mid, hc j r hk, ← hu]
  obtain ⟨v', w', hr, hO', hgr, hnil, hat⟩ := run_append_own_at (P := Try.prog) w base 47 oo.type 5 i _ 1 1 Try.underlying47 hi hz0 hz1 hz2 rfl (by decide) (.slice (some ⟨g, 0, none⟩) l.length cp) l.length (l.map ub) hO ⟨b, off, none⟩ k.length cx (k.map ub) (by simp) hnews (ub_one k) (by unfold maxLen; omega) (by omega) hbase
  rcases hO'.2 with ⟨h0, hz⟩ | ⟨g', cap', cur, hv, hb', _, hn, hcap, _, _⟩
  · omega
  · subst hv
    have hfin := h g' cap' w' (by unfold OwnY; rw [List.length_append, List.map_append]; exact hO') hgr (by
      simp [Value.ownBlock] at hat
      rcases hat with q | q
      · exact .inl q
      · exact .inr (Nat.le_of_eq q.symm))
    unfold Oper.wp
    simp [execOp, ho, resolve, invoke, builtin, hs, hx, hr, Result.andThen]
    exact hfin
theorem en_last {w Wst : World} {SS : Nat → Prop} {T B6 B7 B8 : Nat} {F M : List UInt8} {c mf gf cpf mm gm cpm : Nat} {W : World} (h : EnS w Wst SS T B6 B7 B8 F M c mf gf cpf mm gm cpm W) (hO0 : OwnY W w.heap.size gf cpf F) (x : Nat) (hx : x < 2 ^ 32) (hl : mf ≤ 2 ^ 27) :
    Calls Try.prog 60 #[.slice (some ⟨gf, 0, none⟩) mf cpf, .int .u32 (x : Int)] W fun e w' => ∃ g cp m, e = .returned (.slice (some ⟨g, 0, none⟩) m cp) ∧ Hid (m = (F ++ fixed x).length ∧ OwnY w' w.heap.size g cp (F ++ fixed x) ∧ Below w.heap.size w w' ∧ Chg SS Wst w') := by
  have hm := h.mfl
  have hr := OwnS.of hO0
  rw [← hm] at hr
  refine (appendFixed_core w.heap.size _ F x W hr hx (by omega) h.below.size).mono ?_
  rintro e w' ⟨g, cp, rfl, hO, hC, hat⟩
  have hC2 := own_block (S := fun _ => False) hC
  exact ⟨g, cp, _, rfl, rfl, hO, Chg.below h.below hC2 h.below.size (fun k q => by subst q; exact hO0.lt.1), h.ch.takeIn hC2 (fun k q => by subst q; exact h.ss.2.2.2.1)⟩
end Go.Proofs.Ytlgeffinhbodeac
