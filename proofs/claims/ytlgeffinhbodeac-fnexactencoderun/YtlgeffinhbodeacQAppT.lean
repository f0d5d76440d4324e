/-
  impl.appendText.
-/
import Derived.Test.YtlgeffinhbodeacQAppI
import Derived.Lib.AppendStr
namespace Go.Proofs.Ytlgeffinhbodeac
open Go.ChangeShapes Go.WideShapes Go.ChangeAt Go.RowKit Go.Deep
set_option linter.unusedVariables false
set_option linter.unusedSimpArgs false
set_option maxRecDepth 100000

theorem strCells_ub (s : ByteArray) : Lib.strCells s = (bl s).map ub := rfl
/-- A string appended to bytes of the call's own, and where they lie then. -/
theorem append_str_lies (w : World) (ty : TypeId) (base g cp : Nat) (L : List UInt8) (s : ByteArray) (hO : OwnY w base g cp L) (hlen : L.length + s.size ≤ 2 ^ 30) (hb : base ≤ w.heap.size) (h0 : 0 < L.length) :
    ∃ g' cp' w', (Builtin.append_ #[47, 9] ty #[.slice (some ⟨g, 0, none⟩) L.length cp, .string s]).run Try.prog w = .ok (.slice (some ⟨g', 0, none⟩) (L ++ bl s).length cp') w' ∧ OwnY w' base g' cp' (L ++ bl s) ∧ w.grownBy w' (some g) ∧ (g' = g ∨ g' = w.heap.size) := by
  obtain ⟨i, hi, hz0, hz1, hz2⟩ := info_parts Try.infoByte
  obtain ⟨v', w', hr, hO', hg', _⟩ := Lib.run_append_own_string (P := Try.prog) w base 47 9 ty 5 i Try.underlying47 Try.underlying9 hi hz0 hz1 hz2 (.slice (some ⟨g, 0, none⟩) L.length cp) L.length (L.map ub) hO s (by unfold maxLen; omega) (by omega) hb
  have hl : (L ++ bl s).length = L.length + s.size := by rw [List.length_append, bl_len]
  have hOw : ∀ g' cp', v' = .slice (some ⟨g', 0, none⟩) (L.length + s.size) cp' → OwnY w' base g' cp' (L ++ bl s) := by
    intro g' cp' hv
    unfold OwnY
    rw [hl, List.map_append, ← strCells_ub, ← hv]
    exact hO'
  rcases hO.2 with ⟨h9, _⟩ | ⟨g0, cap0, cur, hv, hbg, hheap, hn, hcap, hcs, hcu⟩
  · cases h9
  · simp only [Value.slice.injEq, Option.some.injEq, Addr.mk.injEq, and_true, true_and] at hv
    obtain ⟨rfl, rfl⟩ := hv
    by_cases hroom : L.length + s.size ≤ cp
    · have hr2 := Lib.run_append_room_string (P := Try.prog) w 47 9 ty 5 i Try.underlying47 Try.underlying9 hi hz1 g L.length cp cur hheap s hroom (by omega)
      rw [hr] at hr2
      have hv : v' = .slice (some ⟨g, 0, none⟩) (L.length + s.size) cp := by injection hr2
      exact ⟨g, cp, w', by rw [hl, ← hv]; exact hr, hOw g cp hv, hg', .inl rfl⟩
    · have hr2 := Lib.run_append_grow_string (P := Try.prog) w 47 9 ty 5 i _ Try.underlying47 Try.underlying9 hi hz0 ⟨g, 0, none⟩ L.length cp (L.map ub) (by rw [List.length_map, hz1, Nat.mul_one]) (fun j u hu => hO.cells (g := g) rfl j u hu) s (by omega) (by omega) (by rw [hz2]; exact growslice_fits (by omega) (by omega))
      rw [hr] at hr2
      have hv : v' = .slice (some ⟨w.heap.size, 0, none⟩) (L.length + s.size) (grownCap w (L.length + s.size) cp 5) := by injection hr2
      exact ⟨w.heap.size, _, w', by rw [hl, ← hv]; exact hr, hOw _ _ hv, hg', .inr rfl⟩
theorem wpList_append_strV {ops : Array Oper} {rest : List Oper} {o : Oper} {a : Act} {Q : Exit → Act → World → Prop} (w : World) (hgd : o.guard = none) (sl x : Operand)
    (ho : o.op = .call { callee := .builtin .append, args := #[sl, x], argTypes := #[47, 9] })
    (base g cp n : Nat) (L : List UInt8) (s : ByteArray) (hn : n = L.length) (hs : a.eval sl = .slice (some ⟨g, 0, none⟩) n cp) (hx : a.eval x = .string s) (hO : OwnY w base g cp L) (hlen : L.length + s.size ≤ 2 ^ 30) (hb : base ≤ w.heap.size) (h0 : 0 < L.length)
    (h : ∀ g' cp' w', OwnY w' base g' cp' (L ++ bl s) → w.grownBy w' (some g) → (g' = g ∨ g' = w.heap.size) → wpList Try.prog ops Q rest (a.put o.dst (.slice (some ⟨g', 0, none⟩) (L ++ bl s).length cp')) w') : wpList Try.prog ops Q (o :: rest) a w := by
  subst hn
  refine wpList_plain hgd fun K hK => ?_
  obtain ⟨g', cp', w', hr, h2, h3, h4⟩ := append_str_lies w o.type base g cp L s hO hlen hb h0
  unfold Oper.wp execOp
  simp only [ho, resolve, invoke, builtin, Sem.run_bind, Sem.run_pure, Result.andThen_ok, List.map_toArray, List.map_cons, List.map_nil, hs, hx, hr]
  exact hK _ _ (h g' cp' w' h2 h3 h4)

set_option maxHeartbeats 2000000 in
theorem appendText_core (base : Nat) (v : Value) (l : List UInt8) (s : ByteArray) (w : World) (hO : OwnS w base v l) (hl : l.length + s.size ≤ 2 ^ 29) (hb : base ≤ w.heap.size) :
    Calls Try.prog 63 #[v, .string s] w fun e w' => ∃ g cp, e = .returned (.slice (some ⟨g, 0, none⟩) (l ++ num s.size ++ bl s).length cp) ∧ OwnY w' base g cp (l ++ num s.size ++ bl s) ∧ Chg (fun k => v.ownBlock = some k) w w' ∧ (v.ownBlock = some g ∨ w.heap.size ≤ g) := by
  have HO : Hid (OwnS w base v l ∧ l.length + s.size ≤ 2 ^ 29) := ⟨hO, hl⟩
  obtain ⟨a, cp, rfl⟩ := hO.slice
  clear hO hl
  have hl2 : l.length + s.size ≤ 536870912 := by have := HO.out.2; omega
  go_enter Try.func63, Try.ntmps63
  go_wp2_with (first
    | (at_builtin; refine wpList_append_strV _ rfl _ _ rfl base g1 cp1 (l.length + (num s.size).length) (l ++ num s.size) s List.length_append.symm rfl rfl hO1 (by have := HO.out.2; have := num_len64 (n := s.size) (by omega); rw [List.length_append]; omega) (Nat.le_trans hb hC1.size) (by have := List.length_pos_iff.2 (num_ne s.size); rw [List.length_append]; omega) ?_; intro g2 cp2 w2 hO2 hgr2 hat2)
    | (go_at_call 62; refine (appendNumber_core base _ l s.size _ HO.out.1 (by omega) (by omega) (by omega)).mono ?_; rintro e w1 ⟨g1, cp1, rfl, hO1, hC1, hat1⟩))
  go_ret
  refine ⟨g2, cp2, by first | rfl | simp, hO2, ?_, ?_⟩
  · exact ((hC1.mono (fun k q => Or.inl q)).trans (Chg.of_grown hgr2 (S := fun k => (Value.slice a l.length cp).ownBlock = some k ∨ w.heap.size ≤ k) (fun j hj => by cases hj; exact hat1))).fresh
  · rcases hat2 with rfl | rfl
    · exact hat1
    · exact .inr hC1.size
end Go.Proofs.Ytlgeffinhbodeac
