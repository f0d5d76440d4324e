/-
  append to bytes, within a fence.
-/
import Derived.Test.YtlgeffinhbodeacQFileS
import Derived.Maps.OwnIn
namespace Go.Proofs.Ytlgeffinhbodeac
open Go.ChangeShapes Go.WideShapes Go.ChangeAt Go.RowKit Go.Deep
set_option linter.unusedVariables false
set_option linter.unusedSimpArgs false
set_option maxRecDepth 100000

theorem run_append_out (w : World) (ty : TypeId) (base g cp n b off m cx : Nat) (l k : List UInt8) (hn : n = l.length) (hm : m = k.length) (hO : OutB w base g cp l)
    (hc : BysAt w b off k) (hk : 0 < k.length) (hlen : l.length + k.length ≤ 2 ^ 30) (hbase : base ≤ w.heap.size) :
    ∃ g' cp' w', (Builtin.append_ #[47, 47] ty #[.slice (some ⟨g, 0, none⟩) n cp, .slice (some ⟨b, off, none⟩) m cx]).run Try.prog w = .ok (.slice (some ⟨g', 0, none⟩) (n + m) cp') w' ∧ OwnY w' base g' cp' (l ++ k) ∧ w.grownBy w' (some g) ∧ (g' = g ∨ w.heap.size ≤ g') := by
  subst hn hm
  obtain ⟨i, hi, hz0, hz1, hz2⟩ := info_parts Try.infoByte
  have hnews : ∀ (j : Nat) u, (k.map ub)[j]? = some u → w.cell? ((⟨b, off, none⟩ : Addr).add j) = some u := by
    intro j u hu
    rw [List.getElem?_map] at hu
    cases hk : k[j]? with
    | none => rw [hk] at hu; cases hu
    | some r =>
      rw [hk] at hu
      simp at hu
      rw [Addr.add_mid, hc j r hk, ← hu]
  rcases hO with hO | ⟨h1, h2, h3, h4⟩
  · obtain ⟨v', w', hr, hO', hgr, hnil, hat⟩ := run_append_own_at (P := Try.prog) w base 47 ty 5 i _ 1 1 Try.underlying47 hi hz0 hz1 hz2 rfl (by decide) (.slice (some ⟨g, 0, none⟩) l.length cp) l.length (l.map ub) hO ⟨b, off, none⟩ k.length cx (k.map ub) (by simp) hnews (ub_one k) (by unfold maxLen; omega) (by omega) hbase
    rcases hO'.2 with ⟨h0, hz⟩ | ⟨g', cap', cur, hv, hb', _, hn, hcap, _, _⟩
    · omega
    · subst hv
      refine ⟨g', cap', w', hr, ?_, hgr, ?_⟩
      · unfold OwnY
        rw [List.length_append, List.map_append]
        exact hO'
      · simp [Value.ownBlock] at hat
        rcases hat with q | q
        · exact .inl q
        · exact .inr (Nat.le_of_eq q.symm)
  · obtain ⟨v', w', hr, hO', hgr⟩ := run_append_arg_grows (P := Try.prog) w 47 ty 5 i _ 1 1 Try.underlying47 hi hz0 hz1 hz2 rfl (by decide) ⟨g, 0, none⟩ l.length cp (l.map ub) (by simp) (by
        intro j u hu
        rw [List.getElem?_map] at hu
        cases hk : l[j]? with
        | none => rw [hk] at hu; cases hu
        | some r =>
          rw [hk] at hu
          simp at hu
          rw [Addr.add_mid, h3 j r hk, ← hu]) ⟨b, off, none⟩ k.length cx (k.map ub) (by simp) hnews (by omega) (by unfold maxLen; omega) (by omega)
    rcases hO'.2 with ⟨h0, hz⟩ | ⟨g', cap', cur, hv, hb', _, hn, hcap, _, _⟩
    · omega
    · subst hv
      refine ⟨g', cap', w', hr, ?_, ⟨hgr.os, hgr.tape, hgr.output, hgr.size, fun k hk _ => hgr.block k hk (fun q => by cases q)⟩, .inr hb'⟩
      refine OwnY.mono (base := w.heap.size) ?_ hbase
      unfold OwnY
      rw [List.length_append, List.map_append]
      exact hO'
theorem wpListIn_append_out {F : Fence} {nF : Nat} {ops : Array Oper} {rest : List Oper} {o : Oper} {a : Act} {Q : Exit → Act → World → Prop} (w : World) (hgd : o.guard = none) (s x : Operand)
    (ho : o.op = .call { callee := .builtin .append, args := #[s, x], argTypes := #[47, 47] })
    (base g cp n b off m cx : Nat) (l k : List UInt8) (hs : a.eval s = .slice (some ⟨g, 0, none⟩) n cp) (hx : a.eval x = .slice (some ⟨b, off, none⟩) m cx) (hn : n = l.length) (hm : m = k.length) (hO : OutB w base g cp l)
    (hc : BysAt w b off k) (hk : 0 < k.length) (hlen : l.length + k.length ≤ 2 ^ 30) (hbase : base ≤ w.heap.size)
    (h : ∀ g' cp' w', OwnY w' base g' cp' (l ++ k) → w.grownBy w' (some g) → (g' = g ∨ w.heap.size ≤ g') → wpListIn F nF Try.prog ops Q rest (a.put o.dst (.slice (some ⟨g', 0, none⟩) (n + m) cp')) w') : wpListIn F nF Try.prog ops Q (o :: rest) a w := by
  refine wpListIn_plain hgd fun K hK => ?_
  obtain ⟨g', cp', w', hr, h2, h3, h4⟩ := run_append_out w o.type base g cp n b off m cx l k hn hm hO hc hk hlen hbase
  unfold Oper.wpIn
  refine ⟨by simp [Oper.about, ho, resolve, Target.leads, Sem.run_pure], ?_⟩
  rw [Oper.semAt_plain F _ _ (by rw [ho]; intro c hc'; cases hc')]
  simp [execOp, ho, resolve, invoke, builtin, hs, hx, hr, Result.andThen]
  exact hK _ _ (h g' cp' w' h2 h3 h4)
end Go.Proofs.Ytlgeffinhbodeac
