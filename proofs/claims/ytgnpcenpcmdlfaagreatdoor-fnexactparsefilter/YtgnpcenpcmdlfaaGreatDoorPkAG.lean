import Derived.Maps.AppendAt
import Derived.Lib.ConvBytes
import Derived.Lib.SlBytesRow
import Derived.Deep.DeepCutAuto
import Derived.ArgAppend
import Derived.Lib.SlBytesConst
import Derived.Deep.RegionHeld3
import Derived.Test.YtgnpcenpcmdlfaaGreatDoorPkAF
import Derived.Test.YtgnpcenpcmdlfaaGreatDoorPkAA
/-
  A region that draws its order and whose calls make memory: what is read is taken first, 'S' holds throughout.
-/
namespace Go.Proofs.YtgnpcenpcmdlfaaGreatDoor
open Go.ChangeShapes Go.WideShapes Go.ChangeAt Go.RowKit Go.Deep
set_option linter.unusedVariables false

section
variable {P : Program} {ops : Array Oper} {Q : Exit → Act → World → Prop} {md : Region.Mode} {S : World → Prop} {L : Nat}
theorem anyT_firstN {i : Nat} {oi : Oper} {v : Value} (hi : ops[i]? = some oi) (hsel : ∀ (j : Nat) (o : Oper) cs b, ops[j]? = some o → o.op ≠ .select cs b)
    (hQ : ∀ c a w, Q (.panic c) (a.put oi.dst v) w → Q (.panic c) a w) (hL : ops[L]? = none) :
    ∀ (fuel : Nat) (listed : Array Bool) (a : Act) (w : World),
      (∀ j oj, ops[j]? = some oj → j ≠ i → listed.getD j true = false → (∀ e ∈ oj.after, Region.binds md e = true → e.on ≠ i) → oi.apart ops oj = true) →
      i ∈ Region.ready md ops listed → YieldsIf P ops S oi v a → S w →
      AnyT P md ops Q S L fuel (listed.setIfInBounds i true) (a.put oi.dst v) w → AnyT P md ops Q S L (fuel + 1) listed a w := by
  intro fuel
  induction fuel with
  | zero =>
    intro listed a w _ hr hy hS H
    refine ⟨fun h => (by rw [h] at hr; cases hr), fun j hj => ?_⟩
    by_cases hji : j = i
    · subst hji; exact hy.wpOp hi hS ⟨.inr hS, H⟩
    · have := ready_mono hj hji
      rw [H.1] at this
      cases this
  | succ fuel ih =>
    intro listed a w hfree hr hy hS H
    refine ⟨fun h => (by rw [h] at hr; cases hr), fun j hj => ?_⟩
    by_cases hji : j = i
    · subst hji; exact hy.wpOp hi hS ⟨.inr hS, H⟩
    · have h1 := H.2 j (ready_mono hj hji)
      obtain ⟨hjun, oj, hoj, hall⟩ := mem_ready.1 hj
      have hnot : ∀ e ∈ oj.after, Region.binds md e = true → e.on ≠ i := fun e he hb heq => by
        have h1 := hall e he hb
        have h0 := (mem_ready.1 hr).1
        rw [heq] at h1
        rcases Nat.lt_or_ge i listed.size with h' | h'
        · simp [h'] at h0 h1; rw [h0] at h1; cases h1
        · simp [Array.getElem?_eq_none h'] at h1
      have hjL : j ≠ L := fun q => by rw [q, hL] at hoj; cases hoj
      have h2 := wpOp_putIf hoj (hfree j oj hoj hji hjun hnot) (fun cs b => hsel i oi cs b hi) (fun cs b => hsel j oj cs b hoj) hQ hy h1
      have hfree' : ∀ k ok, ops[k]? = some ok → k ≠ i → (listed.setIfInBounds j true).getD k true = false →
          (∀ e ∈ ok.after, Region.binds md e = true → e.on ≠ i) → oi.apart ops ok = true := fun k ok hk hki hun hno => by
        refine hfree k ok hk hki ?_ hno
        by_cases hjk : j = k
        · subst hjk; exact hjun
        · rw [getD_set_ne true hjk] at hun; exact hun
      refine wpOp_mono (fun a' w' h3 => ⟨h3.2.1, ih (listed.setIfInBounds j true) a' w' hfree' (ready_mono hr (Ne.symm hji)) h3.1 (h3.2.1.resolve_left hjL) ?_⟩) h2
      rw [Array.setIfInBounds_comm _ _ hji]
      exact h3.2.2
theorem anyT_takeN {i : Nat} {oi : Oper} {v : Value} {fuel : Nat} {listed : Array Bool} {a : Act} {w : World} (hi : ops[i]? = some oi)
    (hs : Region.noSelect ops = true) (hf : Region.free md ops listed i = true) (hr : (Region.ready md ops listed).contains i = true) (hL : ops[L]? = none)
    (hQ : ∀ c a w, Q (.panic c) (a.put oi.dst v) w → Q (.panic c) a w) (hy : YieldsIf P ops S oi v a) (hS : S w)
    (h : AnyT P md ops Q S L fuel (listed.setIfInBounds i true) (a.put oi.dst v) w) : AnyT P md ops Q S L (fuel + 1) listed a w :=
  anyT_firstN hi (Region.noSelect_spec hs) hQ hL fuel listed a w (Region.free_spec hi hf) (by simpa using hr) hy hS h
end
end Go.Proofs.YtgnpcenpcmdlfaaGreatDoor

/-
  Bytes in memory.
-/
namespace Go.Proofs.YtgnpcenpcmdlfaaGreatDoor
open Go.ChangeShapes Go.WideShapes Go.ChangeAt Go.RowKit Go.Deep
set_option linter.unusedVariables false
set_option linter.unusedSimpArgs false
set_option maxRecDepth 100000

abbrev ub (x : UInt8) : Value := .int .u8 (x.toNat : Int)
/-- The bytes lie there. -/
def BysAt (w : World) (b off : Nat) (xs : List UInt8) : Prop := ∀ i x, xs[i]? = some x → w.cell? ⟨b, off + i, none⟩ = some (ub x)
theorem BysAt.below {B : Nat} {w w' : World} {b off : Nat} {xs : List UInt8} (h : BysAt w b off xs) (hb : Below B w w') (hlt : b < B) : BysAt w' b off xs := by
  intro i x hx
  rw [hb.cell (p := ⟨b, off + i, none⟩) hlt]
  exact h i x hx

theorem xor32 (s t : BitVec 32) {x : Int} (hx : x = (t.toNat : Int)) : bits .xor .u32 (s.toNat : Int) x = ((s ^^^ t).toNat : Int) := by
  subst hx
  have h1 : BitVec.ofInt 32 (s.toNat : Int) = s := by simp
  have h2 : BitVec.ofInt 32 (t.toNat : Int) = t := by simp
  show IntKind.wrap .u32 ((BitVec.ofInt 32 (s.toNat : Int) ^^^ BitVec.ofInt 32 (t.toNat : Int)).toNat : Int) = _
  rw [h1, h2]
  have := (s ^^^ t).isLt
  simp only [IntKind.wrap, IntKind.bits, IntKind.signed, Bool.false_and, Bool.false_eq_true, if_false]
  omega
end Go.Proofs.YtgnpcenpcmdlfaaGreatDoor

/-
  Bytes of the call's own; append; l2Num, l2Cat, l2Str, l2Fixed, l2Shared.
-/
namespace Go.Proofs.YtgnpcenpcmdlfaaGreatDoor
open Go.ChangeShapes Go.WideShapes Go.ChangeAt Go.RowKit Go.Deep
set_option linter.unusedVariables false
set_option linter.unusedSimpArgs false
set_option maxRecDepth 100000

/-- A row of bytes of the call's own. -/
def OwnY (w : World) (base g cp : Nat) (xs : List UInt8) : Prop := w.ownsRow base 5 1 (.slice (some ⟨g, 0, none⟩) xs.length cp) xs.length (xs.map ub)
theorem OwnY.lt {w : World} {base g cp : Nat} {xs : List UInt8} (h : OwnY w base g cp xs) : base ≤ g ∧ g < w.heap.size := World.ownsRow.lt h g rfl
theorem OwnY.chg {S : Nat → Prop} {w w' : World} {base g cp : Nat} {xs : List UInt8} (h : OwnY w base g cp xs) (hc : Chg S w w') (hn : ¬ S g) : OwnY w' base g cp xs := own_chg h hc (fun k q => by simp [Value.ownBlock] at q; subst q; exact hn)
theorem OwnY.below {w w' : World} {base g cp : Nat} {xs : List UInt8} (h : OwnY w base g cp xs) (hb : Below w.heap.size w w') : OwnY w' base g cp xs := h.chg (Chg.of_below hb) (S := fun _ => False) (fun q => q)
theorem OwnY.at {w : World} {base g cp : Nat} {xs : List UInt8} (h : OwnY w base g cp xs) : BysAt w g 0 xs := by
  intro k x hx
  have hk := (List.getElem?_eq_some_iff.1 hx).1
  rw [Nat.zero_add, World.ownsRow.cellAt h k (by omega), List.getElem?_map, hx]; rfl
theorem OwnY.caps {w : World} {base g cp : Nat} {xs : List UInt8} (h : OwnY w base g cp xs) : xs.length ≤ cp ∧ cp ≤ maxLen := by
  rcases h.2 with ⟨h0, _⟩ | ⟨g', cap', cur, hv, _, _, hn, hcap, _, _⟩
  · cases h0
  · simp only [Value.slice.injEq, Option.some.injEq, Addr.mk.injEq, and_true, true_and] at hv
    obtain ⟨rfl, rfl⟩ := hv
    exact ⟨hn, hcap⟩
theorem OwnY.mono {w : World} {base base' g cp : Nat} {xs : List UInt8} (h : OwnY w base g cp xs) (hb : base' ≤ base) : OwnY w base' g cp xs := by
  refine ⟨h.1, ?_⟩
  rcases h.2 with hn | ⟨g', cap', cur, hv, h1, rest⟩
  · exact .inl hn
  · exact .inr ⟨g', cap', cur, hv, Nat.le_trans hb h1, rest⟩
theorem ub_one (xs : List UInt8) : ∀ u ∈ xs.map ub, u.oneCell' = true := by
  intro u hu
  obtain ⟨r, _, rfl⟩ := List.mem_map.1 hu
  rfl
theorem Tryz.infoByte : (Tryz.prog.info? 5).map (fun i => (i.zero, i.size, i.bytes)) = some (some (.int .u8 0), 1, 1) := by kernel_rfl
/-- Bytes appended to a row of the call's own. -/
theorem wpList_append_bys {ops : Array Oper} {rest : List Oper} {o : Oper} {a : Act} {Q : Exit → Act → World → Prop} (w : World) (hgd : o.guard = none) (s x : Operand)
    (ho : o.op = .call { callee := .builtin .append, args := #[s, x], argTypes := #[22, 22] })
    (base g cp n b off m cx : Nat) (l k : List UInt8) (hs : a.eval s = .slice (some ⟨g, 0, none⟩) n cp) (hx : a.eval x = .slice (some ⟨b, off, none⟩) m cx) (hn : n = l.length) (hm : m = k.length) (hO : OwnY w base g cp l)
    (hc : BysAt w b off k) (hlen : l.length + k.length ≤ 2 ^ 30) (hbase : base ≤ w.heap.size)
    (h : ∀ g' cp' w', OwnY w' base g' cp' (l ++ k) → w.grownBy w' (some g) → (g' = g ∨ g' = w.heap.size) → wpList Tryz.prog ops Q rest (a.put o.dst (.slice (some ⟨g', 0, none⟩) (n + m) cp')) w') : wpList Tryz.prog ops Q (o :: rest) a w := by
  subst hn hm
  obtain ⟨i, hi, hz0, hz1, hz2⟩ := info_parts Tryz.infoByte
  refine wpList_append_own_at w hgd s x 22 ho base 5 i _ 1 1 Tryz.underlying22 hi hz0 hz1 hz2 rfl (by decide) (.slice (some ⟨g, 0, none⟩) l.length cp) l.length (l.map ub) hs hO ⟨b, off, none⟩ k.length cx (k.map ub) hx (by simp) ?_ (ub_one k) ?_ ?_ hbase ?_
  · intro j u hu
    rw [List.getElem?_map] at hu
    cases hk : k[j]? with
    | none => rw [hk] at hu; cases hu
    | some r =>
      rw [hk] at hu
      simp at hu
      rw [Addr.add_mid, hc j r hk, ← hu]
  · unfold maxLen; omega
  · omega
  · intro v' w' hO' hgr hnil hat
    rcases hO'.2 with ⟨h0, _⟩ | ⟨g', cap', cur, hv, _, _, hn, hcap, _, _⟩
    · have := (hnil.1 h0).1
      cases this
    · subst hv
      refine h g' cap' w' ?_ hgr ?_
      · unfold OwnY
        rw [List.length_append, List.map_append]
        exact hO'
      · simp [Value.ownBlock] at hat
        exact hat
theorem ownY_new (w : World) {base : Nat} (hb : base ≤ w.heap.size) : OwnY (w.alloc (Obj.cells #[] 5)) base w.heap.size 0 [] :=
  World.ownsRow_made w #[] 0 hb (Nat.zero_le _) (by simp)
theorem ownY_one (w : World) {base : Nat} (hb : base ≤ w.heap.size) (x : UInt8) {v : Int} (hv : v = (x.toNat : Int)) : OwnY (w.alloc (Obj.cells #[.int .u8 v] 5)) base w.heap.size 1 [x] := by
  subst hv
  exact World.ownsRow_lit w #[ub x] 1 hb (by decide) rfl

end Go.Proofs.YtgnpcenpcmdlfaaGreatDoor

/-
  spec's words: l5Word, l5LeafKind, l5Known; l5Hex, l5Num.
-/
namespace Go.Proofs.YtgnpcenpcmdlfaaGreatDoor
open Go.ChangeShapes Go.WideShapes Go.ChangeAt Go.RowKit Go.Deep
set_option linter.unusedVariables false
set_option linter.unusedSimpArgs false
set_option maxRecDepth 100000

set_option maxHeartbeats 1000000 in
theorem pWord_1 (w : World) : Calls Tryz.prog 87 #[.int .i64 1] w fun e w' => e = .returned (.string (wordA 1)) ∧ w' = w := by
  go_enter Tryz.func87, Tryz.ntmps87
  go_wp2_with fail
  go_ret
  exact ⟨rfl, rfl⟩
set_option maxHeartbeats 1000000 in
theorem pWord_2 (w : World) : Calls Tryz.prog 87 #[.int .i64 2] w fun e w' => e = .returned (.string (wordA 2)) ∧ w' = w := by
  go_enter Tryz.func87, Tryz.ntmps87
  go_wp2_with fail
  go_ret
  exact ⟨rfl, rfl⟩
set_option maxHeartbeats 1000000 in
theorem pWord_3 (w : World) : Calls Tryz.prog 87 #[.int .i64 3] w fun e w' => e = .returned (.string (wordA 3)) ∧ w' = w := by
  go_enter Tryz.func87, Tryz.ntmps87
  go_wp2_with fail
  go_ret
  exact ⟨rfl, rfl⟩
set_option maxHeartbeats 1000000 in
theorem pWord_4 (w : World) : Calls Tryz.prog 87 #[.int .i64 4] w fun e w' => e = .returned (.string (wordA 4)) ∧ w' = w := by
  go_enter Tryz.func87, Tryz.ntmps87
  go_wp2_with fail
  go_ret
  exact ⟨rfl, rfl⟩
set_option maxHeartbeats 1000000 in
theorem pWord_5 (w : World) : Calls Tryz.prog 87 #[.int .i64 5] w fun e w' => e = .returned (.string (wordA 5)) ∧ w' = w := by
  go_enter Tryz.func87, Tryz.ntmps87
  go_wp2_with fail
  go_ret
  exact ⟨rfl, rfl⟩
set_option maxHeartbeats 1000000 in
theorem pWord_6 (w : World) : Calls Tryz.prog 87 #[.int .i64 6] w fun e w' => e = .returned (.string (wordA 6)) ∧ w' = w := by
  go_enter Tryz.func87, Tryz.ntmps87
  go_wp2_with fail
  go_ret
  exact ⟨rfl, rfl⟩
set_option maxHeartbeats 1000000 in
theorem pWord_7 (w : World) : Calls Tryz.prog 87 #[.int .i64 7] w fun e w' => e = .returned (.string (wordA 7)) ∧ w' = w := by
  go_enter Tryz.func87, Tryz.ntmps87
  go_wp2_with fail
  go_ret
  exact ⟨rfl, rfl⟩
set_option maxHeartbeats 1000000 in
theorem pWord_8 (w : World) : Calls Tryz.prog 87 #[.int .i64 8] w fun e w' => e = .returned (.string (wordA 8)) ∧ w' = w := by
  go_enter Tryz.func87, Tryz.ntmps87
  go_wp2_with fail
  go_ret
  exact ⟨rfl, rfl⟩
set_option maxHeartbeats 1000000 in
theorem pWord_9 (w : World) : Calls Tryz.prog 87 #[.int .i64 9] w fun e w' => e = .returned (.string (wordA 9)) ∧ w' = w := by
  go_enter Tryz.func87, Tryz.ntmps87
  go_wp2_with fail
  go_ret
  exact ⟨rfl, rfl⟩
set_option maxHeartbeats 1000000 in
theorem pWord_10 (w : World) : Calls Tryz.prog 87 #[.int .i64 10] w fun e w' => e = .returned (.string (wordA 10)) ∧ w' = w := by
  go_enter Tryz.func87, Tryz.ntmps87
  go_wp2_with fail
  go_ret
  exact ⟨rfl, rfl⟩
set_option maxHeartbeats 1000000 in
theorem pWord_11 (w : World) : Calls Tryz.prog 87 #[.int .i64 11] w fun e w' => e = .returned (.string (wordA 11)) ∧ w' = w := by
  go_enter Tryz.func87, Tryz.ntmps87
  go_wp2_with fail
  go_ret
  exact ⟨rfl, rfl⟩
set_option maxHeartbeats 1000000 in
theorem pWord_12 (w : World) : Calls Tryz.prog 87 #[.int .i64 12] w fun e w' => e = .returned (.string (wordA 12)) ∧ w' = w := by
  go_enter Tryz.func87, Tryz.ntmps87
  go_wp2_with fail
  go_ret
  exact ⟨rfl, rfl⟩
set_option maxHeartbeats 1000000 in
theorem pWord_13 (w : World) : Calls Tryz.prog 87 #[.int .i64 13] w fun e w' => e = .returned (.string (wordA 13)) ∧ w' = w := by
  go_enter Tryz.func87, Tryz.ntmps87
  go_wp2_with fail
  go_ret
  exact ⟨rfl, rfl⟩
theorem pWord_all (k : Int) (w : World) (h1 : 1 ≤ k) (h2 : k ≤ 13) : Calls Tryz.prog 87 #[.int .i64 k] w fun e w' => e = .returned (.string (wordA k)) ∧ w' = w := by
  rcases cases13 h1 h2 with rfl | rfl | rfl | rfl | rfl | rfl | rfl | rfl | rfl | rfl | rfl | rfl | rfl
  · exact pWord_1 w
  · exact pWord_2 w
  · exact pWord_3 w
  · exact pWord_4 w
  · exact pWord_5 w
  · exact pWord_6 w
  · exact pWord_7 w
  · exact pWord_8 w
  · exact pWord_9 w
  · exact pWord_10 w
  · exact pWord_11 w
  · exact pWord_12 w
  · exact pWord_13 w
def LkP (l : ByteArray) (w : World) (e : Ending) (w' : World) : Prop := ∃ k : Int, e = .returned (.int .i64 k) ∧ w' = w ∧ ((1 ≤ k ∧ k ≤ 13 ∧ bl (wordA k) = bl l) ∨ (k = 0 ∧ ∀ j : Int, 1 ≤ j → j ≤ 13 → ¬ bl (wordA j) = bl l))
set_option maxHeartbeats 2000000 in
theorem leafKind_core (l : ByteArray) (w : World) : Calls Tryz.prog 50 #[.string l] w (LkP l w) := by
  go_enter Tryz.func50, Tryz.ntmps50
  go_wp2_with fail
  go_loopw [3] (fun kv wr => ∃ (j : Int), kv = .int .i64 j ∧ 1 ≤ j ∧ j ≤ 14 ∧ (∀ i : Int, 1 ≤ i → i < j → ¬ bl (wordA i) = bl l) ∧ wr = w) (fun kv _ => 14 - (intOf kv).toNat)
  case atStart => exact ⟨1, rfl, by omega, by omega, fun i _ _ => by omega, rfl⟩
  case round =>
    obtain ⟨j, rfl, h1, h2, hJ, rfl⟩ := hrel
    have HJ : Hid (∀ i : Int, 1 ≤ i → i < j → ¬ bl (wordA i) = bl l) := hJ
    clear hJ
    by_cases h13 : j ≤ 13
    · go_wp2_with fail
      refine (pWord_all j _ h1 h13).mono ?_
      rintro e w1 ⟨rfl, hw1⟩
      rw [hw1]
      clear hw1
      by_cases he : bl (wordA j) = bl l
      · have zt : ((wordA j).toList == l.toList) = true := by rw [ByteArray.toList_eq, ByteArray.toList_eq]; exact beq_iff_eq.2 he
        go_wp2_with fail
        go_ret
        exact ⟨j, rfl, rfl, .inl ⟨h1, h13, he⟩⟩
      · have zt : ((wordA j).toList == l.toList) = false := by rw [ByteArray.toList_eq, ByteArray.toList_eq]; exact beq_eq_false_iff_ne.2 he
        go_wp2_with fail
        go_roundw
        case rel => exact ⟨j + 1, by go_num, by omega, by omega, fun i hi hij => by
          by_cases q : i < j
          · exact HJ.out i hi q
          · rw [show i = j by omega]; exact he, by first | rfl | trivial⟩
        case measure => simp [intOf]; omega
    · go_wp2_with fail
      go_ret
      exact ⟨0, rfl, rfl, .inr ⟨rfl, fun i hi hij => HJ.out i hi (by omega)⟩⟩
set_option maxHeartbeats 2000000 in
theorem known_core (l : ByteArray) (w : World) : Calls Tryz.prog 52 #[.string l] w fun e w' => ∃ b, e = .returned (.bool b) ∧ w' = w ∧ (b = true ↔ ∃ k, kwF (bl l) = some k) := by
  go_enter Tryz.func52, Tryz.ntmps52
  go_wp2_with fail
  refine (leafKind_core l _).mono ?_
  rintro e w1 ⟨k, rfl, hw1, hk⟩
  rw [hw1]
  clear hw1
  rcases hk with ⟨h1, h2, h3⟩ | ⟨rfl, h2⟩
  · have zk : (0 : Int) < k := by omega
    have H3 : Hid (kwF (bl l) = some k) := kwF_word (.inl ⟨h1, h2, h3⟩)
    clear h3
    go_wp2_with fail
    go_ret
    exact ⟨_, rfl, rfl, by simp [H3.out]⟩
  · have H2 : Hid (∀ j : Int, 1 ≤ j → j ≤ 13 → ¬ bl (wordA j) = bl l) := h2
    clear h2
    by_cases hi : bl l = [105, 102]
    · have zi : (l.toList == [105, 102]) = true := by rw [ByteArray.toList_eq]; exact beq_iff_eq.2 hi
      have H3 : Hid (kwF (bl l) = some 16) := kwF_word (.inr ⟨rfl, hi⟩)
      clear hi
      go_wp2_with fail
      go_ret
      exact ⟨_, rfl, rfl, by simp [H3.out, zi]⟩
    · have zi : (l.toList == [105, 102]) = false := by rw [ByteArray.toList_eq]; exact beq_eq_false_iff_ne.2 hi
      have H3 : Hid (∀ k, ¬ kwF (bl l) = some k) := fun k q => by
        rcases kwF_some q with ⟨a, b, c⟩ | ⟨_, b⟩
        · exact H2.out k a b c
        · exact hi b
      clear hi
      go_wp2_with fail
      go_ret
      exact ⟨_, rfl, rfl, by simp [H3.out, zi]⟩
end Go.Proofs.YtgnpcenpcmdlfaaGreatDoor

/-
  spec.l5Hex, spec.l5Num; strings made of a window of bytes.
-/
namespace Go.Proofs.YtgnpcenpcmdlfaaGreatDoor
open Go.ChangeShapes Go.WideShapes Go.ChangeAt Go.RowKit Go.Deep
set_option linter.unusedVariables false
set_option linter.unusedSimpArgs false
set_option maxRecDepth 100000

abbrev strL (l : List UInt8) : ByteArray := ⟨l.toArray⟩
theorem bl_strL (l : List UInt8) : bl (strL l) = l := by simp [strL]
theorem strL_bl (s : ByteArray) : strL (bl s) = s := by cases s; simp [strL]
theorem bysL_bytes {w : World} {b off : Nat} {xs : List UInt8} (h : BysAt w b off xs) : Lib.Bytes w b off (strL xs) := by
  intro i hi
  have hi' : i < xs.length := by have : (strL xs).size = xs.length := (by show xs.toArray.size = _; simp); omega
  have h1 := h i xs[i] (List.getElem?_eq_getElem hi')
  rw [h1]
  rfl
theorem conv_win {w : World} {b off : Nat} {xs : List UInt8} (h : BysAt w b off xs) (i m c : Nat) (hm : i + m ≤ xs.length) :
    (convert 22 9 (.slice (some ⟨b, off + i, none⟩) m c)).run Tryz.prog w = .ok (.string (strL ((xs.drop i).take m))) w := by
  have hsz : (strL xs).size = xs.length := by show xs.toArray.size = _; simp
  have h1 := Lib.run_convert_window (P := Tryz.prog) w 22 5 9 Tryz.underlying22 Tryz.underlying5 Tryz.underlying9 b off (strL xs) (bysL_bytes h) i m c (by omega)
  rw [h1]
  have h2 : (strL xs).extract i (i + m) = strL ((xs.drop i).take m) := by
    rw [← strL_bl ((strL xs).extract i (i + m))]
    congr 1
    show ((strL xs).extract i (i + m)).data.toList = _
    rw [Lib.extract_data, Nat.add_sub_cancel_left]
  rw [h2]
def hexI (b : UInt8) : Int := match hexV b with
  | some v => (v : Int)
  | none => -1
set_option maxHeartbeats 1000000 in
theorem l5Hex_core (x : UInt8) (w : World) : Calls Tryz.prog 88 #[.int .u8 (x.toNat : Int)] w fun e w' => e = .returned (.int .i64 (hexI x)) ∧ w' = w := by
  have hx : x.toNat < 256 := x.toNat_lt
  obtain ⟨n, hn⟩ : ∃ n, n = x.toNat := ⟨_, rfl⟩
  have HX : Hid (hexI x = if 48 ≤ n ∧ n ≤ 57 then ((n - 48 : Nat) : Int) else if 97 ≤ n ∧ n ≤ 102 then ((n - 87 : Nat) : Int) else -1) := by
    show hexI x = _
    rw [hn]
    unfold hexI hexV
    by_cases h1 : 48 ≤ x.toNat ∧ x.toNat ≤ 57
    · rw [if_pos h1, if_pos h1]
    · rw [if_neg h1, if_neg h1]
      by_cases h2 : 97 ≤ x.toNat ∧ x.toNat ≤ 102
      · rw [if_pos h2, if_pos h2]
      · rw [if_neg h2, if_neg h2]
  rw [← hn] at hx ⊢
  clear hn
  by_cases h1 : 48 ≤ n
  · have z1 : (48 : Int) ≤ (n : Int) := by omega
    by_cases h2 : n ≤ 57
    · have z2 : (n : Int) ≤ 57 := by omega
      have HE : Hid (hexI x = (n : Int) - 48) := by show _ = _; rw [HX.out, if_pos ⟨h1, h2⟩]; omega
      go_enter Tryz.func88, Tryz.ntmps88
      go_wp2_with fail
      go_ret
      exact ⟨by rw [HE.out]; rfl, rfl⟩
    · have z2 : ¬ (n : Int) ≤ 57 := by omega
      by_cases h3 : 97 ≤ n
      · have z3 : (97 : Int) ≤ (n : Int) := by omega
        by_cases h4 : n ≤ 102
        · have z4 : (n : Int) ≤ 102 := by omega
          have HE : Hid (hexI x = (n : Int) - 97 + 10) := by show _ = _; rw [HX.out, if_neg (by omega), if_pos ⟨h3, h4⟩]; omega
          go_enter Tryz.func88, Tryz.ntmps88
          go_wp2_with fail
          go_ret
          exact ⟨by rw [HE.out]; rfl, rfl⟩
        · have z4 : ¬ (n : Int) ≤ 102 := by omega
          go_enter Tryz.func88, Tryz.ntmps88
          go_wp2_with fail
          go_ret
          exact ⟨by rw [HX.out, if_neg (by omega), if_neg (by omega)]; rfl, rfl⟩
      · have z3 : ¬ (97 : Int) ≤ (n : Int) := by omega
        go_enter Tryz.func88, Tryz.ntmps88
        go_wp2_with fail
        go_ret
        exact ⟨by rw [HX.out, if_neg (by omega), if_neg (by omega)]; rfl, rfl⟩
  · have z1 : ¬ (48 : Int) ≤ (n : Int) := by omega
    have z3 : ¬ (97 : Int) ≤ (n : Int) := by omega
    go_enter Tryz.func88, Tryz.ntmps88
    go_wp2_with fail
    go_ret
    exact ⟨by rw [HX.out, if_neg (by omega), if_neg (by omega)]; rfl, rfl⟩
theorem decV_snoc (l : List UInt8) (b : UInt8) : decV (l ++ [b]) = 10 * decV l + (b.toNat - 48) := by simp [decV]
theorem foldl_dec_le : ∀ (l : List UInt8) (n : Nat), n ≤ l.foldl (fun n b => 10 * n + (b.toNat - 48)) n
  | [], n => Nat.le_refl _
  | b :: l, n => by rw [List.foldl_cons]; exact Nat.le_trans (by omega) (foldl_dec_le l _)
theorem decV_take (l : List UInt8) (k : Nat) : decV (l.take k) ≤ decV l := by
  conv => rhs; rw [← List.take_append_drop k l]
  unfold decV
  rw [List.foldl_append]
  exact foldl_dec_le _ _
def DgP (d : List UInt8) (w : World) (e : Ending) (w' : World) : Prop := w' = w ∧ ((∃ v, numM d = some v ∧ e = .returned (.tuple #[.bool true, .int .u64 (v : Int)])) ∨ (numM d = none ∧ e = .returned (.tuple #[.bool false, .int .u64 0])))
set_option maxHeartbeats 4000000 in
theorem digNum_core (b off c : Nat) (d : List UInt8) (w : World) (h : BysAt w b off d) (hb : b < w.heap.size) (hd : ∀ x ∈ d, isDig x = true) (h0 : 0 < d.length) (hl : d.length ≤ 100000) :
    Calls Tryz.prog 53 #[.slice (some ⟨b, off, none⟩) d.length c] w (DgP d w) := by
  have HD : Hid (BysAt w b off d ∧ (∀ x ∈ d, isDig x = true)) := ⟨h, hd⟩
  obtain ⟨n, hn⟩ : ∃ n, n = d.length := ⟨_, rfl⟩
  have HN : Hid (n = d.length) := hn
  rw [← hn] at h0 hl ⊢
  obtain ⟨x0, hx0⟩ : ∃ x, d[0]? = some x := ⟨_, List.getElem?_eq_getElem (by omega)⟩
  have c0 := h 0 x0 hx0
  simp only [Nat.add_zero] at c0
  have hh : d.head? = some x0 := by rw [← hx0]; cases d <;> rfl
  have z0 : ((n : Int) == 0) = false := by have : ¬ (n : Int) = 0 := (by omega); simpa using this
  have body : ¬ (1 < n ∧ x0.toNat = 48) → Hid (¬ (1 < d.length ∧ d.head? = some 48)) := fun q => by
    show ¬ _
    rw [← hn, hh]
    rintro ⟨a, e⟩
    exact q ⟨a, by cases e; rfl⟩
  have bad : (1 < n ∧ x0.toNat = 48) → Hid (numM d = none) := fun q => by
    show _ = _
    unfold numM
    rw [if_pos]
    refine ⟨by omega, ?_⟩
    rw [hh]
    congr 1
    exact UInt8.toNat_inj.1 q.2
  clear hn h hd hx0 hh
  have loop : Hid (¬ (1 < d.length ∧ d.head? = some 48)) → True := fun _ => trivial
  by_cases h1 : 1 < n
  · have z1 : (1 : Int) < (n : Int) := by omega
    by_cases h48 : x0.toNat = 48
    · have z2 : ((x0.toNat : Int) == 48) = true := by have : (x0.toNat : Int) = 48 := (by omega); simpa using this
      have HB := bad ⟨h1, h48⟩
      clear bad body loop
      go_enter Tryz.func53, Tryz.ntmps53
      go_wp2_with fail
      exact bodyPost_ret (v := .tuple #[.bool false, .int .u64 0]) (by simp [results, Tryz.results53, go_sem]) rfl ⟨rfl, .inr ⟨HB.out, rfl⟩⟩
    · have z2 : ((x0.toNat : Int) == 48) = false := by have : ¬ (x0.toNat : Int) = 48 := (by omega); simpa using this
      have HB := body (fun q => h48 q.2)
      clear bad body loop
      go_enter Tryz.func53, Tryz.ntmps53
      go_wp2_with fail
      clear c0 z0 z1 z2
      go_loopw [4, 5] (fun nv iv wr => ∃ (i v : Nat), iv = .int .i64 (i : Int) ∧ nv = .int .u64 (v : Int) ∧ i ≤ n ∧ v < 18446744073709551616 ∧ v = decV (d.take i) ∧ wr = w) (fun _ iv _ => n - (intOf iv).toNat)
      case atStart => exact ⟨0, 0, rfl, rfl, Nat.zero_le _, by omega, rfl, rfl⟩
      case round =>
        obtain ⟨i, v, rfl, rfl, hi, hv, hV, rfl⟩ := hrel
        have HV : Hid (v = decV (d.take i)) := hV
        clear hV
        by_cases hin : i < n
        · have zi : (i : Int) < (n : Int) := by omega
          obtain ⟨x, hx⟩ : ∃ x, d[i]? = some x := ⟨_, List.getElem?_eq_getElem (by have := HN.out; omega)⟩
          have cx := HD.out.1 i x hx
          have hdx : isDig x = true := HD.out.2 x (List.mem_of_getElem? hx)
          have hdx2 : 48 ≤ x.toNat ∧ x.toNat ≤ 57 := by unfold isDig at hdx; simpa using hdx
          obtain ⟨m, hm⟩ : ∃ m, m = x.toNat := ⟨_, rfl⟩
          have HS : Hid (decV (d.take (i + 1)) = 10 * v + (m - 48)) := by
            show _ = _
            rw [List.take_add_one, hx, Option.toList, decV_snoc, HV.out, hm]
          unfold ub at cx
          rw [← hm] at cx hdx2
          have y1 : ¬ (m : Int) < 48 := by omega
          have y2 : ¬ (57 : Int) < (m : Int) := by omega
          clear hx hdx hm
          by_cases hov : 18446744073709551615 < 10 * v + (m - 48)
          · have y3 : (18446744073709551615 - ((m : Int) - 48)).tdiv 10 < (v : Int) := by rw [Int.tdiv_eq_ediv_of_nonneg (by omega)]; omega
            have HO : Hid (numM d = none) := by
              show _ = _
              unfold numM
              rw [if_neg HB.out, if_neg]
              have h9 := decV_take d (i + 1)
              have h8 := HS.out
              omega
            go_wp2_with fail
            exact bodyPost_ret (v := .tuple #[.bool false, .int .u64 0]) (by simp [results, Tryz.results53, go_sem]) rfl ⟨rfl, .inr ⟨HO.out, rfl⟩⟩
          · have y3 : ¬ (18446744073709551615 - ((m : Int) - 48)).tdiv 10 < (v : Int) := by rw [Int.tdiv_eq_ediv_of_nonneg (by omega)]; omega
            go_wp2_with fail
            go_roundw
            case rel => exact ⟨i + 1, 10 * v + (m - 48), by go_num, by go_num, by omega, by omega, HS.out.symm, by first | rfl | trivial⟩
            case measure => simp [intOf]; omega
        · have zi : ¬ (i : Int) < (n : Int) := by omega
          have HO : Hid (numM d = some v) := by
            show _ = _
            have h9 := HV.out
            rw [List.take_of_length_le (by have := HN.out; omega)] at h9
            unfold numM
            rw [if_neg HB.out, if_pos (by omega), h9]
          go_wp2_with fail
          exact bodyPost_ret (v := .tuple #[.bool true, .int .u64 (v : Int)]) (by simp [results, Tryz.results53, go_sem]) rfl ⟨rfl, .inl ⟨v, HO.out, rfl⟩⟩
  · have z1 : ¬ (1 : Int) < (n : Int) := by omega
    have HB := body (fun q => h1 q.1)
    clear bad body loop
    go_enter Tryz.func53, Tryz.ntmps53
    go_wp2_with fail
    clear c0 z0 z1
    go_loopw [4, 5] (fun nv iv wr => ∃ (i v : Nat), iv = .int .i64 (i : Int) ∧ nv = .int .u64 (v : Int) ∧ i ≤ n ∧ v < 18446744073709551616 ∧ v = decV (d.take i) ∧ wr = w) (fun _ iv _ => n - (intOf iv).toNat)
    case atStart => exact ⟨0, 0, rfl, rfl, Nat.zero_le _, by omega, rfl, rfl⟩
    case round =>
      obtain ⟨i, v, rfl, rfl, hi, hv, hV, rfl⟩ := hrel
      have HV : Hid (v = decV (d.take i)) := hV
      clear hV
      by_cases hin : i < n
      · have zi : (i : Int) < (n : Int) := by omega
        obtain ⟨x, hx⟩ : ∃ x, d[i]? = some x := ⟨_, List.getElem?_eq_getElem (by have := HN.out; omega)⟩
        have cx := HD.out.1 i x hx
        have hdx : isDig x = true := HD.out.2 x (List.mem_of_getElem? hx)
        have hdx2 : 48 ≤ x.toNat ∧ x.toNat ≤ 57 := by unfold isDig at hdx; simpa using hdx
        obtain ⟨m, hm⟩ : ∃ m, m = x.toNat := ⟨_, rfl⟩
        have HS : Hid (decV (d.take (i + 1)) = 10 * v + (m - 48)) := by
          show _ = _
          rw [List.take_add_one, hx, Option.toList, decV_snoc, HV.out, hm]
        unfold ub at cx
        rw [← hm] at cx hdx2
        have y1 : ¬ (m : Int) < 48 := by omega
        have y2 : ¬ (57 : Int) < (m : Int) := by omega
        clear hx hdx hm
        by_cases hov : 18446744073709551615 < 10 * v + (m - 48)
        · have y3 : (18446744073709551615 - ((m : Int) - 48)).tdiv 10 < (v : Int) := by rw [Int.tdiv_eq_ediv_of_nonneg (by omega)]; omega
          have HO : Hid (numM d = none) := by
            show _ = _
            unfold numM
            rw [if_neg HB.out, if_neg]
            have h9 := decV_take d (i + 1)
            have h8 := HS.out
            omega
          go_wp2_with fail
          exact bodyPost_ret (v := .tuple #[.bool false, .int .u64 0]) (by simp [results, Tryz.results53, go_sem]) rfl ⟨rfl, .inr ⟨HO.out, rfl⟩⟩
        · have y3 : ¬ (18446744073709551615 - ((m : Int) - 48)).tdiv 10 < (v : Int) := by rw [Int.tdiv_eq_ediv_of_nonneg (by omega)]; omega
          go_wp2_with fail
          go_roundw
          case rel => exact ⟨i + 1, 10 * v + (m - 48), by go_num, by go_num, by omega, by omega, HS.out.symm, by first | rfl | trivial⟩
          case measure => simp [intOf]; omega
      · have zi : ¬ (i : Int) < (n : Int) := by omega
        have HO : Hid (numM d = some v) := by
          show _ = _
          have h9 := HV.out
          rw [List.take_of_length_le (by have := HN.out; omega)] at h9
          unfold numM
          rw [if_neg HB.out, if_pos (by omega), h9]
        go_wp2_with fail
        exact bodyPost_ret (v := .tuple #[.bool true, .int .u64 (v : Int)]) (by simp [results, Tryz.results53, go_sem]) rfl ⟨rfl, .inl ⟨v, HO.out, rfl⟩⟩
end Go.Proofs.YtgnpcenpcmdlfaaGreatDoor

/-
  What stands between quotes, step by step.
-/
namespace Go.Proofs.YtgnpcenpcmdlfaaGreatDoor
set_option linter.unusedVariables false
set_option linter.unusedSimpArgs false

theorem str_nil : strM [] = none := by unfold strM; rfl
theorem str_quo (r : List UInt8) : strM (34 :: r) = some ([], 1) := by unfold strM; rw [if_pos rfl]
theorem str_pla {b : UInt8} {r : List UInt8} (h1 : ¬ b = 34) (h2 : ¬ b = 92) (h3 : isPla b = true) : strM (b :: r) = (strM r).map (fun x => (b :: x.1, x.2 + 1)) := by
  conv => lhs; unfold strM
  rw [if_neg h1, if_neg h2, if_pos h3]
theorem str_not {b : UInt8} {r : List UInt8} (h1 : ¬ b = 34) (h2 : ¬ b = 92) (h3 : ¬ isPla b = true) : strM (b :: r) = none := by
  conv => lhs; unfold strM
  rw [if_neg h1, if_neg h2, if_neg h3]
theorem str_one : strM [92] = none := by decide
theorem str_esc {c : UInt8} {r : List UInt8} (h : c = 34 ∨ c = 92) : strM (92 :: c :: r) = (strM r).map (fun x => (c :: x.1, x.2 + 2)) := by
  conv => lhs; unfold strM
  rw [if_neg (by decide), if_pos rfl]
  dsimp only
  rw [if_pos h]
theorem str_odd {c : UInt8} {r : List UInt8} (h : ¬ (c = 34 ∨ c = 92)) (h2 : ¬ c = 120) : strM (92 :: c :: r) = none := by
  conv => lhs; unfold strM
  rw [if_neg (by decide), if_pos rfl]
  dsimp only
  rw [if_neg h, if_neg h2]
theorem str_x (r : List UInt8) : strM (92 :: 120 :: r) = (match r with
          | h :: l :: r3 => (match hexV h, hexV l with
            | some x, some y => (strM r3).map (fun z => (UInt8.ofNat (16 * x + y) :: z.1, z.2 + 4))
            | _, _ => none)
          | _ => none) := by
  conv => lhs; unfold strM
  rw [if_neg (by decide), if_pos rfl]
  dsimp only
  rw [if_neg (by decide), if_pos rfl]
  cases r with
  | nil => rfl
  | cons h r => cases r with
    | nil => rfl
    | cons l r => dsimp only; cases hexV h <;> cases hexV l <;> rfl
theorem str_hex {h l : UInt8} {r : List UInt8} {x y : Nat} (h1 : hexV h = some x) (h2 : hexV l = some y) : strM (92 :: 120 :: h :: l :: r) = (strM r).map (fun z => (UInt8.ofNat (16 * x + y) :: z.1, z.2 + 4)) := by
  rw [str_x]
  dsimp only
  rw [h1, h2]
theorem str_nohex {h l : UInt8} {r : List UInt8} (h1 : hexV h = none ∨ hexV l = none) : strM (92 :: 120 :: h :: l :: r) = none := by
  rw [str_x]
  dsimp only
  rcases h1 with q | q
  · rw [q]
  · rw [q]; cases hexV h <;> rfl
theorem str_short {r : List UInt8} (h : r.length < 2) : strM (92 :: 120 :: r) = none := by
  rw [str_x]
  match r, h with
  | [], _ => rfl
  | [a], _ => rfl
theorem dropT_cons {t : List UInt8} {j : Nat} {x : UInt8} (h : t[j]? = some x) : t.drop j = x :: t.drop (j + 1) := by
  have hj := (List.getElem?_eq_some_iff.1 h).1
  rw [List.drop_eq_getElem_cons hj, show t[j] = x from Option.some.inj ((List.getElem?_eq_getElem hj).symm.trans h)]
/-- What has been read ahead of place j, and what is to come. -/
def QuS (t : List UInt8) (i j : Nat) (X : List UInt8) : Prop := i + 1 ≤ j ∧ strM (t.drop (i + 1)) = (strM (t.drop j)).map (fun z => (X ++ z.1, z.2 + (j - (i + 1))))
theorem QuS.start (t : List UInt8) (i : Nat) : QuS t i (i + 1) [] := by
  refine ⟨Nat.le_refl _, ?_⟩
  cases strM (t.drop (i + 1)) with
  | none => rfl
  | some z => simp
theorem QuS.next {t : List UInt8} {i j k : Nat} {X : List UInt8} {b : UInt8} (h : QuS t i j X) (hs : strM (t.drop j) = (strM (t.drop (j + k))).map (fun z => (b :: z.1, z.2 + k))) : QuS t i (j + k) (X ++ [b]) := by
  refine ⟨by have := h.1; omega, ?_⟩
  rw [h.2, hs, Option.map_map]
  congr 1
  funext z
  have := h.1
  simp
  omega
theorem QuS.none {t : List UInt8} {i j : Nat} {X : List UInt8} (h : QuS t i j X) (hs : strM (t.drop j) = none) : strM (t.drop (i + 1)) = none := by rw [h.2, hs]; rfl
theorem QuS.done {t : List UInt8} {i j : Nat} {X : List UInt8} (h : QuS t i j X) (hs : t[j]? = some 34) : strM (t.drop (i + 1)) = some (X, j + 1 - (i + 1)) := by
  rw [h.2, dropT_cons hs, str_quo]
  have := h.1
  simp
  omega
theorem isPla_iff (b : UInt8) : isPla b = true ↔ 32 ≤ b.toNat ∧ b.toNat ≤ 126 := by unfold isPla; simp
theorem u8_ne {a b : UInt8} (h : ¬ a.toNat = b.toNat) : ¬ a = b := fun q => h (by rw [q])
theorem hexV_lt {b : UInt8} {x : Nat} (h : hexV b = some x) : x < 16 := by
  unfold hexV at h
  split at h
  · cases h; omega
  · split at h
    · cases h; omega
    · cases h
theorem hexI_some {b : UInt8} {x : Nat} (h : hexV b = some x) : hexI b = (x : Int) := by unfold hexI; rw [h]
theorem hexI_none {b : UInt8} (h : hexV b = none) : hexI b = -1 := by unfold hexI; rw [h]
end Go.Proofs.YtgnpcenpcmdlfaaGreatDoor

/-
  l2Str, l2Shared.
-/
namespace Go.Proofs.YtgnpcenpcmdlfaaGreatDoor
open Go.ChangeShapes Go.WideShapes Go.ChangeAt Go.RowKit Go.Deep
set_option linter.unusedVariables false
set_option linter.unusedSimpArgs false
set_option maxRecDepth 100000

theorem below_bytes (w : World) (s : ByteArray) : Below w.heap.size w (Lib.bytesWorld w 5 s) :=
  ⟨rfl, rfl, rfl, by rw [Lib.bytesWorld_size]; omega, fun k hk => Lib.bytesWorld_at_old w _ s k hk⟩
theorem bys_bytes (w : World) (s : ByteArray) : BysAt (Lib.bytesWorld w 5 s) w.heap.size 0 (bl s) := by
  intro i x hx
  have hi := (List.getElem?_eq_some_iff.1 hx).1
  rw [Nat.zero_add, Lib.bytesWorld_cell w _ s i (by rw [← bl_len]; exact hi), List.getD_eq_getElem?_getD, hx]
  rfl

end Go.Proofs.YtgnpcenpcmdlfaaGreatDoor

/-
  Bytes that are written on, wherever they came from.
-/
namespace Go.Proofs.YtgnpcenpcmdlfaaGreatDoor
open Go.ChangeShapes Go.WideShapes Go.ChangeAt Go.RowKit Go.Deep
set_option linter.unusedVariables false
set_option linter.unusedSimpArgs false
set_option maxRecDepth 100000

/-- Bytes in a block of the call's own; what lies behind them up to the capacity may be written. -/
structure WrB (w : World) (base g cp : Nat) (xs : List UInt8) : Prop where
  le : base ≤ g
  lt : g < w.heap.size
  at_ : BysAt w g 0 xs
  len : xs.length ≤ cp
  cap : cp ≤ maxLen
  room : ∀ j, xs.length ≤ j → j < cp → (w.cell? ⟨g, j, none⟩).isSome = true ∧ w.frozen? ⟨g, j, none⟩ = false
theorem WrB.chg {S : Nat → Prop} {w w' : World} {base g cp : Nat} {xs : List UInt8} (h : WrB w base g cp xs) (hc : Chg S w w') (hn : ¬ S g) : WrB w' base g cp xs := by
  refine ⟨h.le, by have := hc.size; have := h.lt; omega, ?_, h.len, h.cap, fun j h1 h2 => ?_⟩
  · intro i x hx
    rw [hc.cell (p := ⟨g, 0 + i, none⟩) h.lt hn]; exact h.at_ i x hx
  · rw [hc.cell (p := ⟨g, j, none⟩) h.lt hn, hc.frozen (p := ⟨g, j, none⟩) h.lt hn]; exact h.room j h1 h2
theorem WrB.below {w w' : World} {base g cp : Nat} {xs : List UInt8} (h : WrB w base g cp xs) (hb : Below w.heap.size w w') : WrB w' base g cp xs := h.chg (Chg.of_below hb) (S := fun _ => False) (fun q => q)
theorem WrB.mono {w : World} {base base' g cp : Nat} {xs : List UInt8} (h : WrB w base g cp xs) (hb : base' ≤ base) : WrB w base' g cp xs := ⟨Nat.le_trans hb h.le, h.lt, h.at_, h.len, h.cap, h.room⟩
theorem OwnY.wr {w : World} {base g cp : Nat} {xs : List UInt8} (h : OwnY w base g cp xs) : WrB w base g cp xs := by
  refine ⟨h.lt.1, h.lt.2, h.at, h.caps.1, h.caps.2, fun j h1 h2 => ⟨?_, World.ownsRow.frozenAt h j⟩⟩
  rcases h.2 with ⟨h0, _⟩ | ⟨g', cap', cur, hv, _, hg, hn, hcap, hcs, _⟩
  · cases h0
  · simp only [Value.slice.injEq, Option.some.injEq, Addr.mk.injEq, and_true, true_and] at hv
    obtain ⟨rfl, rfl⟩ := hv
    rw [cell_of_row w g j cur _ _ hg]
    have hj : j < cur.size := by rw [hcs]; omega
    simp [hj]
theorem wrB_bytes (w : World) (s : ByteArray) (hs : s.size ≤ 2 ^ 30) : WrB (Lib.bytesWorld w 5 s) w.heap.size w.heap.size (grownCap w s.size 0 5) (bl s) := by
  have hge := grownCap_ge w s.size 0 5
  have hsz : (Lib.bytesCells w 5 s).size = grownCap w s.size 0 5 := by
    simp only [Lib.bytesCells, Array.size_append, Array.size_map, Array.size_replicate]
    show s.size + _ = _
    omega
  refine ⟨Nat.le_refl _, by rw [Lib.bytesWorld_size]; omega, bys_bytes w s, by rw [bl_len]; exact hge, grownCap_le_maxLen w s.size 0 _ (by unfold maxLen; omega), fun j h1 h2 => ?_⟩
  have hn := Lib.bytesWorld_at_new w 5 s
  constructor
  · rw [cell_of_row _ _ _ _ _ _ hn]
    have hj : j < (Lib.bytesCells w 5 s).size := by omega
    simp [hj]
  · simp only [World.frozen?, hn, Bool.and_eq_false_iff, decide_eq_false_iff_not]
    left
    omega
/-- A literal's row: full. -/
theorem WrB.full {w : World} {base g : Nat} {xs : List UInt8} (h1 : base ≤ g) (h2 : g < w.heap.size) (h3 : BysAt w g 0 xs) (h4 : xs.length ≤ 2 ^ 30) : WrB w base g xs.length xs :=
  ⟨h1, h2, h3, Nat.le_refl _, by unfold maxLen; omega, fun j a b => by omega⟩
theorem setCells_heap (b : Nat) : ∀ (vs : List Value) (o : Nat) (w : World), w.grownBy (w.setCells b o vs) (some b)
  | [], _, w => grown_of_below (Below.refl _ _) _
  | v :: r, o, w => (grown_set w b o v).trans (setCells_heap b r (o + 1) _)
/-- What an append onto such bytes does. -/
theorem run_append_wr (w : World) (ty : TypeId) (base g cp b off cx : Nat) (l k : List UInt8) (hO : WrB w base g cp l)
    (hc : BysAt w b off k) (hlen : l.length + k.length ≤ 2 ^ 30) (hbase : base ≤ w.heap.size) :
    ∃ g' cp' w', (Builtin.append_ #[22, 22] ty #[.slice (some ⟨g, 0, none⟩) l.length cp, .slice (some ⟨b, off, none⟩) k.length cx]).run Tryz.prog w = .ok (.slice (some ⟨g', 0, none⟩) (l.length + k.length) cp') w' ∧ WrB w' base g' cp' (l ++ k) ∧ w.grownBy w' (some g) ∧ (g' = g ∨ w.heap.size ≤ g') := by
  obtain ⟨i, hi, hz0, hz1, hz2⟩ := info_parts Tryz.infoByte
  have hcc : ∀ (j : Nat) (u : Value), (k.map ub)[j]? = some u → w.cell? ((⟨b, off, none⟩ : Addr).add j) = some u := by
    intro j u hu
    rw [List.getElem?_map] at hu
    cases hk : k[j]? with
    | none => rw [hk] at hu; cases hu
    | some r =>
      rw [hk] at hu
      simp at hu
      rw [Addr.add_mid, hc j r hk, ← hu]
  have hll : (l ++ k).length = l.length + k.length := List.length_append
  by_cases hroom : l.length + k.length ≤ cp
  · have hr := run_append_room_cells (P := Tryz.prog) w 22 ty 5 i Tryz.underlying22 hi g 0 l.length cp ⟨b, off, none⟩ k.length cx (k.map ub) (by rw [List.length_map, hz1, Nat.mul_one]) hcc (ub_one k) hroom
      (fun j hj => by rw [hz1, Nat.mul_one, Nat.zero_add]; rw [List.length_map] at hj; exact (hO.room _ (by omega) (by omega)).1)
      (fun j hj => by rw [hz1, Nat.mul_one, Nat.zero_add]; rw [List.length_map] at hj; exact (hO.room _ (by omega) (by omega)).2)
    rw [hz1, Nat.mul_one, Nat.zero_add] at hr
    have hgr := setCells_heap g (k.map ub) l.length w
    have hW : WrB (w.setCells g l.length (k.map ub)) base g cp (l ++ k) := by
      refine ⟨hO.le, by have := hgr.size; have := hO.lt; omega, ?_, by rw [hll]; exact hroom, hO.cap, fun j h1 h2 => ?_⟩
      · intro j x hx
        rw [Nat.zero_add]
        by_cases hj : j < l.length
        · rw [List.getElem?_append_left hj] at hx
          rw [World.cell?_setCells_out g _ _ _ _ (fun _ _ => .inl hj)]
          have := hO.at_ j x hx
          rwa [Nat.zero_add] at this
        · rw [List.getElem?_append_right (by omega)] at hx
          have hjk := (List.getElem?_eq_some_iff.1 hx).1
          have h9 := World.cell?_setCells_in g (k.map ub) l.length w (fun j hj => by rw [List.length_map] at hj; exact (hO.room _ (by omega) (by omega)).1) (j - l.length) (by rw [List.length_map]; exact hjk)
          rw [show l.length + (j - l.length) = j by omega] at h9
          rw [h9, List.getElem_map]
          congr 1
          rw [List.getElem?_eq_getElem hjk] at hx
          rw [Option.some.inj hx]
      · rw [hll] at h1
        rw [World.cell?_setCells_out g _ _ _ _ (fun _ _ => .inr (by rw [List.length_map]; exact h1)), World.frozen?_setCells]
        exact hO.room j (by omega) h2
    exact ⟨g, cp, _, hr, hW, hgr, .inl rfl⟩
  · obtain ⟨v', w', hr, hO', hgr⟩ := run_append_arg_grows (P := Tryz.prog) w 22 ty 5 i _ 1 1 Tryz.underlying22 hi hz0 hz1 hz2 rfl (by decide) ⟨g, 0, none⟩ l.length cp (l.map ub) (by simp) (fun j u hu => by
        rw [List.getElem?_map] at hu
        cases hk : l[j]? with
        | none => rw [hk] at hu; cases hu
        | some r =>
          rw [hk] at hu
          simp at hu
          rw [Addr.add_mid, hO.at_ j r hk, ← hu]) ⟨b, off, none⟩ k.length cx (k.map ub) (by simp) hcc (by omega) (by unfold maxLen; omega) (by omega)
    rcases hO'.2 with ⟨h0, h00⟩ | ⟨g', cap', cur, hv, hb', hrest⟩
    · have h1 := hO.len
      omega
    · subst hv
      have hW : WrB w' base g' cap' (l ++ k) := by
        refine (OwnY.wr (base := w.heap.size) ?_).mono hbase
        unfold OwnY
        rw [hll, List.map_append]
        exact hO'
      exact ⟨g', cap', w', hr, hW, ⟨hgr.os, hgr.tape, hgr.output, hgr.size, fun k hk _ => hgr.block k hk (fun q => by cases q)⟩, .inr hb'⟩
theorem wpList_append_wr {ops : Array Oper} {rest : List Oper} {o : Oper} {a : Act} {Q : Exit → Act → World → Prop} (w : World) (hgd : o.guard = none) (s x : Operand)
    (ho : o.op = .call { callee := .builtin .append, args := #[s, x], argTypes := #[22, 22] })
    (base g cp n b off m cx : Nat) (l k : List UInt8) (hs : a.eval s = .slice (some ⟨g, 0, none⟩) n cp) (hx : a.eval x = .slice (some ⟨b, off, none⟩) m cx) (hn : n = l.length) (hm : m = k.length) (hO : WrB w base g cp l)
    (hc : BysAt w b off k) (hlen : l.length + k.length ≤ 2 ^ 30) (hbase : base ≤ w.heap.size)
    (h : ∀ g' cp' w', WrB w' base g' cp' (l ++ k) → w.grownBy w' (some g) → (g' = g ∨ w.heap.size ≤ g') → wpList Tryz.prog ops Q rest (a.put o.dst (.slice (some ⟨g', 0, none⟩) (n + m) cp')) w') : wpList Tryz.prog ops Q (o :: rest) a w := by
  subst hn hm
  refine wpList_plain hgd fun K hK => ?_
  obtain ⟨g', cp', w', hr, h1, h2, h3⟩ := run_append_wr w o.type base g cp b off cx l k hO hc hlen hbase
  unfold Oper.wp execOp
  simp only [ho, resolve, invoke, builtin, Sem.run_bind, Sem.run_pure, Result.andThen_ok, List.map_toArray, List.map_cons, List.map_nil, hs, hx, hr]
  exact hK _ _ (h g' cp' w' h1 h2 h3)
/-- The same, at a step of a region that draws. -/
theorem step_append_wr {ops : Array Oper} {oo : Oper} {a : Act} {K : Act → World → Prop} {Q : Exit → Act → World → Prop} {E : Prop} (w : World) (hgd : oo.guard = none) (s x : Operand)
    (ho : oo.op = .call { callee := .builtin .append, args := #[s, x], argTypes := #[22, 22] })
    (base g cp n b off m cx : Nat) (l k : List UInt8) (hs : a.eval s = .slice (some ⟨g, 0, none⟩) n cp) (hx : a.eval x = .slice (some ⟨b, off, none⟩) m cx) (hn : n = l.length) (hm : m = k.length) (hO : WrB w base g cp l)
    (hc : BysAt w b off k) (hlen : l.length + k.length ≤ 2 ^ 30) (hbase : base ≤ w.heap.size)
    (h : ∀ g' cp' w', WrB w' base g' cp' (l ++ k) → w.grownBy w' (some g) → (g' = g ∨ w.heap.size ≤ g') → K (a.put oo.dst (.slice (some ⟨g', 0, none⟩) (n + m) cp')) w') : if Region.wanted oo (yielded ops a.tmps) = true then Oper.wp Tryz.prog oo a w K Q else E := by
  subst hn hm
  obtain ⟨g', cp', w', hr, h1, h2, h3⟩ := run_append_wr w oo.type base g cp b off cx l k hO hc hlen hbase
  rw [if_pos (by simp [Region.wanted, hgd])]
  unfold Oper.wp execOp
  simp only [ho, resolve, invoke, builtin, Sem.run_bind, Sem.run_pure, Result.andThen_ok, List.map_toArray, List.map_cons, List.map_nil, hs, hx, hr]
  exact h g' cp' w' h1 h2 h3
/-- The same, with the row's place forgotten: what lies below the base has not turned. -/
theorem WrB.next {w0 w w' : World} {base g : Nat} (h : Below base w0 w) (hb : base ≤ w.heap.size) (hg : base ≤ g) (hgr : w.grownBy w' (some g)) : Below base w0 w' := h.grown hgr hb (fun j hj => by cases hj; exact hg)
end Go.Proofs.YtgnpcenpcmdlfaaGreatDoor

/-
  spec.l5Digits, l5Quote.
-/
namespace Go.Proofs.YtgnpcenpcmdlfaaGreatDoor
open Go.ChangeShapes Go.WideShapes Go.ChangeAt Go.RowKit Go.Deep
set_option linter.unusedVariables false
set_option linter.unusedSimpArgs false
set_option maxRecDepth 100000

set_option maxHeartbeats 2000000 in
theorem l5Digits_core : ∀ (f n : Nat) (w : World), n < 10 ^ (f + 1) → n < 2 ^ 64 →
    Calls Tryz.prog 111 #[.int .u64 (n : Int)] w fun e w' => ∃ g cp, e = .returned (.slice (some ⟨g, 0, none⟩) (Lib.decDigits n).length cp) ∧ OwnY w' w.heap.size g cp (Lib.decDigits n) ∧ Below w.heap.size w w' := by
  intro f
  induction f with
  | zero =>
    intro n w h1 h2
    have hs : (n : Int) < 10 := by simp at h1; omega
    have hD : Hid (Lib.decDigits n = [UInt8.ofNat (48 + n)]) := by show Lib.decDigits n = _; rw [Lib.decDigits, dif_pos (by omega)]
    go_enter Tryz.func111, Tryz.ntmps111
    go_wp2_with fail
    go_ret
    refine ⟨w.heap.size, 1, ?_, ?_, (Below.refl _ _).alloc (Nat.le_refl _) _⟩
    · rw [hD.out]; rfl
    · rw [hD.out]
      exact ownY_one w (Nat.le_refl _) _ (by rw [UInt8.toNat_ofNat']; omega)
  | succ f ih =>
    intro n w h1 h2
    by_cases hs : (n : Int) < 10
    · have hD : Hid (Lib.decDigits n = [UInt8.ofNat (48 + n)]) := by show Lib.decDigits n = _; rw [Lib.decDigits, dif_pos (by omega)]
      go_enter Tryz.func111, Tryz.ntmps111
      go_wp2_with fail
      go_ret
      refine ⟨w.heap.size, 1, ?_, ?_, (Below.refl _ _).alloc (Nat.le_refl _) _⟩
      · rw [hD.out]; rfl
      · rw [hD.out]
        exact ownY_one w (Nat.le_refl _) _ (by rw [UInt8.toNat_ofNat']; omega)
    · obtain ⟨d, hd⟩ : ∃ d : UInt8, d = UInt8.ofNat (48 + n % 10) := ⟨_, rfl⟩
      have hdn : Hid (48 + (n : Int) % 10 = (d.toNat : Int)) := by show _ = _; rw [hd, UInt8.toNat_ofNat']; omega
      have hD : Hid (Lib.decDigits n = Lib.decDigits (n / 10) ++ [d]) := by show Lib.decDigits n = _; rw [Lib.decDigits, dif_neg (by omega), hd]
      clear hd
      have hc := ih (n / 10) w (by rw [Nat.div_lt_iff_lt_mul (by omega), ← Nat.pow_succ]; exact h1) (by omega)
      rw [show ((n / 10 : Nat) : Int) = (n : Int) / 10 by omega] at hc
      have hl := dec64_len (n := n / 10) (by omega)
      go_enter Tryz.func111, Tryz.ntmps111
      go_wp2_with fail
      refine hc.mono ?_
      rintro e w2 ⟨g, cp, rfl, hO2, hb2⟩
      obtain ⟨W1, hW1⟩ : ∃ W1 : World, W1 = w2.alloc (Obj.cells #[.int .u8 (48 + (n : Int) % 10)] 5) := ⟨_, rfl⟩
      have hb1 : Below w2.heap.size w2 W1 := by rw [hW1]; exact (Below.refl _ _).alloc (Nat.le_refl _) _
      have s2 := hb2.size
      have s1 := hb1.size
      have HO1 : Hid (OwnY W1 w2.heap.size w2.heap.size 1 [d] ∧ OwnY W1 w.heap.size g cp (Lib.decDigits (n / 10))) := by
        refine ⟨?_, hO2.below hb1⟩
        rw [hW1]
        exact ownY_one w2 (Nat.le_refl _) _ hdn.out
      have HB : Hid (Below w.heap.size w W1) := hb2.trans (hb1.mono s2)
      clear hc hO2 hb1 hb2
      go_wp2_with (at_builtin; (try rw [← hW1]); refine wpList_append_bys _ rfl _ _ rfl w.heap.size g cp _ w2.heap.size 0 1 1 (Lib.decDigits (n / 10)) [d] rfl rfl rfl rfl ?hO ?hc ?hl ?hb ?_)
      case hO => exact HO1.out.2
      case hc => exact HO1.out.1.at
      case hl => simp; omega
      case hb => omega
      intro g' cp' w3 hO' hgr hat
      have hgr2 : W1.grownBy w3 (some g) := by first | exact hgr | (rw [hW1]; exact hgr)
      clear hgr hW1
      go_wp2_with fail
      go_ret
      refine ⟨g', cp', ?_, ?_, HB.out.grown hgr2 (by omega) (fun j hj => by cases hj; exact HO1.out.2.lt.1)⟩
      · rw [hD.out, List.length_append]; rfl
      · rw [hD.out]; exact hO'
theorem l5Digits_all (n : Nat) (w : World) (h : n < 2 ^ 64) :
    Calls Tryz.prog 111 #[.int .u64 (n : Int)] w fun e w' => ∃ g cp, e = .returned (.slice (some ⟨g, 0, none⟩) (Lib.decDigits n).length cp) ∧ OwnY w' w.heap.size g cp (Lib.decDigits n) ∧ Below w.heap.size w w' :=
  l5Digits_core 19 n w (Nat.lt_trans h (by decide)) h
theorem bl_get {s : ByteArray} {k : Nat} (h : k < s.size) {x : UInt8} (hx : (bl s)[k]? = some x) : s[k] = x := by
  have := hx
  rw [List.getElem?_eq_getElem (by rw [bl_len]; exact h)] at this
  exact Option.some.inj this
/-- The bytes of a row that has just been made. -/
theorem bys_new (w : World) (cs : Array Value) (xs : List UInt8) (h : cs.toList = xs.map ub) : BysAt (w.alloc (Obj.cells cs 5)) w.heap.size 0 xs := by
  intro i x hx
  rw [cell_of_row _ _ _ _ _ _ (heap_alloc_last w _), Nat.zero_add]
  rw [← Array.getElem?_toList, h, List.getElem?_map, hx]
  rfl
theorem bys_mark (w : World) (cs : Array Value) (xs : List UInt8) (fz : Nat × Nat) (h : cs.toList = xs.map ub) : BysAt (w.alloc (Obj.cells cs 5 fz)) w.heap.size 0 xs := by
  intro i x hx
  rw [cell_of_row _ _ _ _ _ _ (heap_alloc_last w _), Nat.zero_add]
  rw [← Array.getElem?_toList, h, List.getElem?_map, hx]
  rfl
/-- A digit of sixteen, off the constant. -/
theorem hex_at : ∀ (d : Nat) (h : d < 16), (⟨#[48, 49, 50, 51, 52, 53, 54, 55, 56, 57, 97, 98, 99, 100, 101, 102]⟩ : ByteArray)[d]'h = hexB d := by
  intro d h
  have : ∀ d : Fin 16, (⟨#[48, 49, 50, 51, 52, 53, 54, 55, 56, 57, 97, 98, 99, 100, 101, 102]⟩ : ByteArray)[d.val]'d.isLt = hexB d.val := by decide
  exact this ⟨d, h⟩
theorem wrap_div16 (x : UInt8) : IntKind.u8.wrap ((x.toNat : Int) / 16) = ((x.toNat / 16 : Nat) : Int) := by
  have := x.toNat_lt
  simp only [IntKind.wrap, IntKind.bits, IntKind.signed, Bool.false_and, Bool.false_eq_true, if_false]
  omega
theorem tmod16 (x : UInt8) : (x.toNat : Int).tmod 16 = ((x.toNat % 16 : Nat) : Int) := by
  rw [Int.tmod_eq_emod_of_nonneg (by omega)]; omega
set_option maxHeartbeats 4000000 in
theorem l5Quote_core (s : ByteArray) (w : World) (hs : s.size ≤ 1000000) :
    Calls Tryz.prog 110 #[.string s] w fun e w' => ∃ g cp, e = .returned (.slice (some ⟨g, 0, none⟩) (quoM (bl s)).length cp) ∧ WrB w' w.heap.size g cp (quoM (bl s)) ∧ Below w.heap.size w w' := by
  have kc := fun (w : World) (C : Array Value) (n c : Nat) => Lib.run_convert_bytes_const (P := Tryz.prog) w 22 5 C n c Tryz.underlying22 Tryz.underlying5
  obtain ⟨W1, hW1⟩ : ∃ W1 : World, W1 = w.alloc (Obj.cells #[.int .u8 34] 5 (1, 2)) := ⟨_, rfl⟩
  have hb1 : Below w.heap.size w W1 := by rw [hW1]; exact (Below.refl _ _).alloc (Nat.le_refl _) _
  have z1 : w.heap.size < W1.heap.size := by rw [hW1]; simp
  have HO1 : Hid (WrB W1 w.heap.size w.heap.size 1 [34] ∧ Below w.heap.size w W1) := by
    refine ⟨WrB.full (xs := [34]) (Nat.le_refl _) z1 ?_ (by simp), hb1⟩
    rw [hW1]
    exact bys_mark w _ [34] _ rfl
  clear hb1
  go_enter Tryz.func110, Tryz.ntmps110
  go_upto_region 2 with fail
  rw [← hW1]
  clear hW1 kc
  go_wp2_with fail
  go_loopw [3, 4] (fun o iv wr => ∃ (k g cp n : Nat) (X : List UInt8), k ≤ s.size ∧ iv = .int .i64 k ∧ o = .slice (some ⟨g, 0, none⟩) n cp ∧ n = X.length ∧ n ≤ 4 * k + 1 ∧ Hid (X = [34] ++ quoL ((bl s).take k)) ∧ WrB wr w.heap.size g cp X ∧ Below w.heap.size w wr) (fun _ iv _ => s.size - (intOf iv).toNat)
  case atStart => exact ⟨0, _, 1, 1, [34], Nat.zero_le _, rfl, rfl, rfl, by omega, rfl, HO1.out.1, HO1.out.2⟩
  case round =>
    clear HO1
    obtain ⟨k, g, cp, n, X, hk, rfl, rfl, hn, hn4, HX, hW, hb⟩ := hrel
    have HW : Hid (WrB wr w.heap.size g cp X ∧ Below w.heap.size w wr ∧ n = X.length) := ⟨hW, hb, hn⟩
    have hgl := hW.lt
    have hge := hW.le
    have sr := hb.size
    clear hW hb hn
    by_cases hlt : k < s.size
    · have z : (k : Int) < (s.size : Int) := by omega
      obtain ⟨x, hx⟩ : ∃ x, (bl s)[k]? = some x := ⟨_, List.getElem?_eq_getElem (by rw [bl_len]; exact hlt)⟩
      have gx := bl_get hlt hx
      have HX2 : Hid ([34] ++ quoL ((bl s).take (k + 1)) = X ++ qByte x) := by
        show _ = _
        rw [List.take_add_one, hx, HX.out, Option.toList, quoL_snoc, List.append_assoc]
      have hx8 : x.toNat < 256 := x.toNat_lt
      clear hx
      by_cases h34 : x.toNat = 34
      · obtain rfl : x = 34 := UInt8.toNat_inj.1 h34
        have HQ : Hid (qByte 34 = [92, 34]) := by show _ = _; decide
        obtain ⟨W2, hW2⟩ : ∃ W2 : World, W2 = wr.alloc (Obj.cells #[.int .u8 92, .int .u8 34] 5) := ⟨_, rfl⟩
        have hb2 : Below wr.heap.size wr W2 := by rw [hW2]; exact (Below.refl _ _).alloc (Nat.le_refl _) _
        have s2 := hb2.size
        have HW2 : Hid (WrB W2 w.heap.size g cp X ∧ Below w.heap.size w W2 ∧ BysAt W2 wr.heap.size 0 [92, 34]) := by
          refine ⟨HW.out.1.below hb2, HW.out.2.1.trans (hb2.mono sr), ?_⟩
          rw [hW2]; exact bys_new wr _ [92, 34] rfl
        clear hb2
        go_wp2_with (at_builtin; (try rw [← hW2]); refine wpList_append_wr _ rfl _ _ rfl w.heap.size g cp n wr.heap.size 0 2 2 X [92, 34] rfl rfl HW.out.2.2 rfl HW2.out.1 HW2.out.2.2 ?hl ?hb ?_)
        case hl => rw [← HW.out.2.2]; show n + 2 ≤ _; omega
        case hb => omega
        intro g' cp' w' hW' hgr hat
        have hgr2 : W2.grownBy w' (some g) := by first | exact hgr | (rw [hW2]; exact hgr)
        have HR : Hid (WrB w' w.heap.size g' cp' (X ++ [92, 34]) ∧ Below w.heap.size w w' ∧ n + 2 = (X ++ [92, 34]).length ∧ X ++ [92, 34] = [34] ++ quoL ((bl s).take (k + 1))) := ⟨hW', WrB.next HW2.out.2.1 (by omega) hge hgr2, by rw [List.length_append, ← HW.out.2.2]; rfl, by rw [HX2.out, HQ.out]⟩
        clear hW' hgr hgr2 hat hW2
        go_wp2_with fail
        go_roundw
        case rel => exact ⟨k + 1, g', cp', n + 2, X ++ [92, 34], by omega, by go_num, rfl, HR.out.2.2.1, by omega, HR.out.2.2.2, HR.out.1, HR.out.2.1⟩
        case measure => simp [intOf]; omega
      by_cases h92 : x.toNat = 92
      · obtain rfl : x = 92 := UInt8.toNat_inj.1 h92
        have HQ : Hid (qByte 92 = [92, 92]) := by show _ = _; decide
        obtain ⟨W2, hW2⟩ : ∃ W2 : World, W2 = wr.alloc (Obj.cells #[.int .u8 92, .int .u8 92] 5) := ⟨_, rfl⟩
        have hb2 : Below wr.heap.size wr W2 := by rw [hW2]; exact (Below.refl _ _).alloc (Nat.le_refl _) _
        have s2 := hb2.size
        have HW2 : Hid (WrB W2 w.heap.size g cp X ∧ Below w.heap.size w W2 ∧ BysAt W2 wr.heap.size 0 [92, 92]) := by
          refine ⟨HW.out.1.below hb2, HW.out.2.1.trans (hb2.mono sr), ?_⟩
          rw [hW2]; exact bys_new wr _ [92, 92] rfl
        clear hb2
        go_wp2_with (at_builtin; (try rw [← hW2]); refine wpList_append_wr _ rfl _ _ rfl w.heap.size g cp n wr.heap.size 0 2 2 X [92, 92] rfl rfl HW.out.2.2 rfl HW2.out.1 HW2.out.2.2 ?hl ?hb ?_)
        case hl => rw [← HW.out.2.2]; show n + 2 ≤ _; omega
        case hb => omega
        intro g' cp' w' hW' hgr hat
        have hgr2 : W2.grownBy w' (some g) := by first | exact hgr | (rw [hW2]; exact hgr)
        have HR : Hid (WrB w' w.heap.size g' cp' (X ++ [92, 92]) ∧ Below w.heap.size w w' ∧ n + 2 = (X ++ [92, 92]).length ∧ X ++ [92, 92] = [34] ++ quoL ((bl s).take (k + 1))) := ⟨hW', WrB.next HW2.out.2.1 (by omega) hge hgr2, by rw [List.length_append, ← HW.out.2.2]; rfl, by rw [HX2.out, HQ.out]⟩
        clear hW' hgr hgr2 hat hW2
        go_wp2_with fail
        go_roundw
        case rel => exact ⟨k + 1, g', cp', n + 2, X ++ [92, 92], by omega, by go_num, rfl, HR.out.2.2.1, by omega, HR.out.2.2.2, HR.out.1, HR.out.2.1⟩
        case measure => simp [intOf]; omega
      have z34 : ((x.toNat : Int) == 34) = false := by rw [beq_eq_false_iff_ne]; omega
      have z92 : ((x.toNat : Int) == 92) = false := by rw [beq_eq_false_iff_ne]; omega
      by_cases h2 : 32 ≤ x.toNat ∧ x.toNat ≤ 126
      · have z32 : (32 : Int) ≤ (x.toNat : Int) := by omega
        have z126 : (x.toNat : Int) ≤ 126 := by omega
        have HQ : Hid (qByte x = [x]) := by show _ = _; unfold qByte; rw [if_neg (by omega), if_pos h2]
        obtain ⟨W2, hW2⟩ : ∃ W2 : World, W2 = wr.alloc (Obj.cells #[.int .u8 (x.toNat : Int)] 5) := ⟨_, rfl⟩
        have hb2 : Below wr.heap.size wr W2 := by rw [hW2]; exact (Below.refl _ _).alloc (Nat.le_refl _) _
        have s2 := hb2.size
        have HW2 : Hid (WrB W2 w.heap.size g cp X ∧ Below w.heap.size w W2 ∧ BysAt W2 wr.heap.size 0 [x]) := by
          refine ⟨HW.out.1.below hb2, HW.out.2.1.trans (hb2.mono sr), ?_⟩
          rw [hW2]; exact bys_new wr _ [x] rfl
        clear hb2
        go_wp2_with (at_builtin; (try rw [← hW2]); refine wpList_append_wr _ rfl _ _ rfl w.heap.size g cp n wr.heap.size 0 1 1 X [x] rfl rfl HW.out.2.2 rfl HW2.out.1 HW2.out.2.2 ?hl ?hb ?_)
        case hl => first | omega | (rw [← HW.out.2.2]; first | (show n + 1 ≤ _; omega) | omega)
        case hb => omega
        intro g' cp' w' hW' hgr hat
        have hgr2 : W2.grownBy w' (some g) := by first | exact hgr | (rw [hW2]; exact hgr)
        have HR : Hid (WrB w' w.heap.size g' cp' (X ++ [x]) ∧ Below w.heap.size w w' ∧ n + 1 = (X ++ [x]).length ∧ X ++ [x] = [34] ++ quoL ((bl s).take (k + 1))) := ⟨hW', WrB.next HW2.out.2.1 (by omega) hge hgr2, by rw [List.length_append, ← HW.out.2.2]; rfl, by rw [HX2.out, HQ.out]⟩
        clear hW' hgr hgr2 hat hW2
        go_wp2_with fail
        go_roundw
        case rel => exact ⟨k + 1, g', cp', n + 1, X ++ [x], by omega, by go_num, rfl, HR.out.2.2.1, by omega, HR.out.2.2.2, HR.out.1, HR.out.2.1⟩
        case measure => simp [intOf]; omega
      obtain ⟨d, hd⟩ : ∃ d, d = x.toNat / 16 := ⟨_, rfl⟩
      obtain ⟨f, hf⟩ : ∃ f, f = x.toNat % 16 := ⟨_, rfl⟩
      have hdl : d < 16 := by omega
      have hfl : f < 16 := by omega
      have zdl : (d : Int) < 16 := by omega
      have zfl : (f : Int) < 16 := by omega
      obtain ⟨d1, hd1⟩ : ∃ d1, d1 = hexB d := ⟨_, rfl⟩
      obtain ⟨d2, hd2⟩ : ∃ d2, d2 = hexB f := ⟨_, rfl⟩
      have HD : Hid (IntKind.u8.wrap ((x.toNat : Int) / 16) = (d : Int) ∧ (x.toNat : Int).tmod 16 = (f : Int) ∧ (⟨#[48, 49, 50, 51, 52, 53, 54, 55, 56, 57, 97, 98, 99, 100, 101, 102]⟩ : ByteArray)[d]'hdl = d1 ∧ (⟨#[48, 49, 50, 51, 52, 53, 54, 55, 56, 57, 97, 98, 99, 100, 101, 102]⟩ : ByteArray)[f]'hfl = d2) := ⟨by rw [wrap_div16, hd], by rw [tmod16, hf], by rw [hex_at, hd1], by rw [hex_at, hd2]⟩
      have HQ : Hid (qByte x = [92, 120, d1, d2]) := by show _ = _; unfold qByte; rw [if_neg (by omega), if_neg h2, ← hd, ← hf, hd1, hd2]
      obtain ⟨W2, hW2⟩ : ∃ W2 : World, W2 = (wr.alloc (Obj.cells #[.int .u8 92, .int .u8 120, .int .u8 (d1.toNat : Int), .int .u8 (d2.toNat : Int)] 5)).drew := ⟨_, rfl⟩
      have hb2 : Below wr.heap.size wr W2 := by rw [hW2]; exact ((Below.refl _ _).alloc (Nat.le_refl _) _).drew
      have s2 := hb2.size
      have HW2 : Hid (WrB W2 w.heap.size g cp X ∧ Below w.heap.size w W2 ∧ BysAt W2 wr.heap.size 0 [92, 120, d1, d2]) := by
        refine ⟨HW.out.1.below hb2, HW.out.2.1.trans (hb2.mono sr), ?_⟩
        rw [hW2]; exact fun i y hy => bys_new wr _ [92, 120, d1, d2] rfl i y hy
      clear hb2 hd hf hd1 hd2
      by_cases h3 : 32 ≤ x.toNat
      · have z3 : (32 : Int) ≤ (x.toNat : Int) := by omega
        have z4 : ¬ (x.toNat : Int) ≤ 126 := by omega
        clear h2
        go_upto_region 11 with fail
        refine wp_region_T 11 (fun _ => True) (by kernel_rfl) ?_
        refine anyT_take (i := 0) (v := ?vp0) rfl (by kernel_rfl) (by kernel_rfl) (by kernel_rfl) (by kernel_rfl) (by decide) (fun _ _ _ h => h) (Or.inl ⟨by rfl, ?yp0⟩) trivial ?_
        case yp0 => (intro wz _; go_simp; (try with_reducible rfl))
        try simp only [Act.put, List.setIfInBounds_toArray, List.set_cons_zero, List.set_cons_succ]
        refine anyT_take (i := 1) (v := ?vp1) rfl (by kernel_rfl) (by kernel_rfl) (by kernel_rfl) (by kernel_rfl) (by decide) (fun _ _ _ h => h) (Or.inl ⟨by rfl, ?yp1⟩) trivial ?_
        case yp1 => (intro wz _; go_simp; (try with_reducible rfl))
        try simp only [Act.put, List.setIfInBounds_toArray, List.set_cons_zero, List.set_cons_succ]
        refine anyT_take (i := 2) (v := ?vp2) rfl (by kernel_rfl) (by kernel_rfl) (by kernel_rfl) (by kernel_rfl) (by decide) (fun _ _ _ h => h) (Or.inl ⟨by rfl, ?yp2⟩) trivial ?_
        case yp2 => (intro wz _; go_simp; (try with_reducible rfl))
        try simp only [Act.put, List.setIfInBounds_toArray, List.set_cons_zero, List.set_cons_succ]
        refine anyT_take (i := 3) (v := .int .u8 (d : Int)) rfl (by kernel_rfl) (by kernel_rfl) (by kernel_rfl) (by kernel_rfl) (by decide) (fun _ _ _ h => h) (Or.inl ⟨by rfl, ?yp3⟩) trivial ?_
        case yp3 => (intro wz _; go_simp; first | exact HD.out.1 | rw [HD.out.1])
        try simp only [Act.put, List.setIfInBounds_toArray, List.set_cons_zero, List.set_cons_succ]
        refine anyT_take (i := 4) (v := .int .u8 (d1.toNat : Int)) rfl (by kernel_rfl) (by kernel_rfl) (by kernel_rfl) (by kernel_rfl) (by decide) (fun _ _ _ h => h) (Or.inl ⟨by rfl, ?yp4⟩) trivial ?_
        case yp4 => (intro wz _; go_simp; simp only [HD.out.2.2.1])
        try simp only [Act.put, List.setIfInBounds_toArray, List.set_cons_zero, List.set_cons_succ]
        refine anyT_take (i := 5) (v := ?vp5) rfl (by kernel_rfl) (by kernel_rfl) (by kernel_rfl) (by kernel_rfl) (by decide) (fun _ _ _ h => h) (Or.inl ⟨by rfl, ?yp5⟩) trivial ?_
        case yp5 => (intro wz _; go_simp; (try with_reducible rfl))
        try simp only [Act.put, List.setIfInBounds_toArray, List.set_cons_zero, List.set_cons_succ]
        refine anyT_take (i := 6) (v := ?vp6) rfl (by kernel_rfl) (by kernel_rfl) (by kernel_rfl) (by kernel_rfl) (by decide) (fun _ _ _ h => h) (Or.inl ⟨by rfl, ?yp6⟩) trivial ?_
        case yp6 => (intro wz _; go_simp; (try with_reducible rfl))
        try simp only [Act.put, List.setIfInBounds_toArray, List.set_cons_zero, List.set_cons_succ]
        refine anyT_take (i := 7) (v := .int .u8 (f : Int)) rfl (by kernel_rfl) (by kernel_rfl) (by kernel_rfl) (by kernel_rfl) (by decide) (fun _ _ _ h => h) (Or.inl ⟨by rfl, ?yp7⟩) trivial ?_
        case yp7 => (intro wz _; go_simp; first | exact HD.out.2.1 | rw [HD.out.2.1])
        try simp only [Act.put, List.setIfInBounds_toArray, List.set_cons_zero, List.set_cons_succ]
        refine anyT_take (i := 8) (v := .int .u8 (d2.toNat : Int)) rfl (by kernel_rfl) (by kernel_rfl) (by kernel_rfl) (by kernel_rfl) (by decide) (fun _ _ _ h => h) (Or.inl ⟨by rfl, ?yp8⟩) trivial ?_
        case yp8 => (intro wz _; go_simp; simp only [HD.out.2.2.2])
        try simp only [Act.put, List.setIfInBounds_toArray, List.set_cons_zero, List.set_cons_succ]
        refine anyT_one (i := 9) (by kernel_rfl) rfl (fun K hK => ?_)
        go_simp
        try rw [← hW2]
        refine hK.out _ _ (.inr trivial) ?_
        clear hK
        try simp only [Act.put, List.setIfInBounds_toArray, List.set_cons_zero, List.set_cons_succ]
        refine anyT_one (i := 10) (by kernel_rfl) rfl (fun K hK => ?_)
        refine step_append_wr _ rfl _ _ rfl w.heap.size g cp n wr.heap.size 0 4 4 X [92, 120, d1, d2] rfl rfl HW.out.2.2 rfl HW2.out.1 HW2.out.2.2 ?hl ?hb ?_
        case hl => rw [← HW.out.2.2]; show n + 4 ≤ _; omega
        case hb => omega
        intro g' cp' w' hW' hgr hat
        have HR : Hid (WrB w' w.heap.size g' cp' (X ++ [92, 120, d1, d2]) ∧ Below w.heap.size w w' ∧ n + 4 = (X ++ [92, 120, d1, d2]).length ∧ X ++ [92, 120, d1, d2] = [34] ++ quoL ((bl s).take (k + 1))) := ⟨hW', WrB.next HW2.out.2.1 (by omega) hge hgr, by rw [List.length_append, ← HW.out.2.2]; rfl, by rw [HX2.out, HQ.out]⟩
        refine hK.out _ _ (.inr trivial) ?_
        clear hK hW' hgr hat hW2
        try simp only [Act.put, List.setIfInBounds_toArray, List.set_cons_zero, List.set_cons_succ]
        refine anyT_one (i := 11) (by kernel_rfl) rfl (fun K hK => ?_)
        go_simp
        refine hK.out _ _ (.inl rfl) ?_
        clear hK
        try simp only [Act.put, List.setIfInBounds_toArray, List.set_cons_zero, List.set_cons_succ]
        refine anyT_done (by kernel_rfl) ?_
        go_wp2_with fail
        go_roundw
        case rel => exact ⟨k + 1, g', cp', n + 4, X ++ [92, 120, d1, d2], by omega, by go_num, rfl, HR.out.2.2.1, by omega, HR.out.2.2.2, HR.out.1, HR.out.2.1⟩
        case measure => simp [intOf]; omega
      · have z3 : ¬ (32 : Int) ≤ (x.toNat : Int) := by omega
        clear h2
        go_upto_region 11 with fail
        refine wp_region_T 11 (fun _ => True) (by kernel_rfl) ?_
        refine anyT_take (i := 0) (v := ?vq0) rfl (by kernel_rfl) (by kernel_rfl) (by kernel_rfl) (by kernel_rfl) (by decide) (fun _ _ _ h => h) (Or.inl ⟨by rfl, ?yq0⟩) trivial ?_
        case yq0 => (intro wz _; go_simp; (try with_reducible rfl))
        try simp only [Act.put, List.setIfInBounds_toArray, List.set_cons_zero, List.set_cons_succ]
        refine anyT_take (i := 1) (v := ?vq1) rfl (by kernel_rfl) (by kernel_rfl) (by kernel_rfl) (by kernel_rfl) (by decide) (fun _ _ _ h => h) (Or.inl ⟨by rfl, ?yq1⟩) trivial ?_
        case yq1 => (intro wz _; go_simp; (try with_reducible rfl))
        try simp only [Act.put, List.setIfInBounds_toArray, List.set_cons_zero, List.set_cons_succ]
        refine anyT_take (i := 2) (v := ?vq2) rfl (by kernel_rfl) (by kernel_rfl) (by kernel_rfl) (by kernel_rfl) (by decide) (fun _ _ _ h => h) (Or.inl ⟨by rfl, ?yq2⟩) trivial ?_
        case yq2 => (intro wz _; go_simp; (try with_reducible rfl))
        try simp only [Act.put, List.setIfInBounds_toArray, List.set_cons_zero, List.set_cons_succ]
        refine anyT_take (i := 3) (v := .int .u8 (d : Int)) rfl (by kernel_rfl) (by kernel_rfl) (by kernel_rfl) (by kernel_rfl) (by decide) (fun _ _ _ h => h) (Or.inl ⟨by rfl, ?yq3⟩) trivial ?_
        case yq3 => (intro wz _; go_simp; first | exact HD.out.1 | rw [HD.out.1])
        try simp only [Act.put, List.setIfInBounds_toArray, List.set_cons_zero, List.set_cons_succ]
        refine anyT_take (i := 4) (v := .int .u8 (d1.toNat : Int)) rfl (by kernel_rfl) (by kernel_rfl) (by kernel_rfl) (by kernel_rfl) (by decide) (fun _ _ _ h => h) (Or.inl ⟨by rfl, ?yq4⟩) trivial ?_
        case yq4 => (intro wz _; go_simp; simp only [HD.out.2.2.1])
        try simp only [Act.put, List.setIfInBounds_toArray, List.set_cons_zero, List.set_cons_succ]
        refine anyT_take (i := 5) (v := ?vq5) rfl (by kernel_rfl) (by kernel_rfl) (by kernel_rfl) (by kernel_rfl) (by decide) (fun _ _ _ h => h) (Or.inl ⟨by rfl, ?yq5⟩) trivial ?_
        case yq5 => (intro wz _; go_simp; (try with_reducible rfl))
        try simp only [Act.put, List.setIfInBounds_toArray, List.set_cons_zero, List.set_cons_succ]
        refine anyT_take (i := 6) (v := ?vq6) rfl (by kernel_rfl) (by kernel_rfl) (by kernel_rfl) (by kernel_rfl) (by decide) (fun _ _ _ h => h) (Or.inl ⟨by rfl, ?yq6⟩) trivial ?_
        case yq6 => (intro wz _; go_simp; (try with_reducible rfl))
        try simp only [Act.put, List.setIfInBounds_toArray, List.set_cons_zero, List.set_cons_succ]
        refine anyT_take (i := 7) (v := .int .u8 (f : Int)) rfl (by kernel_rfl) (by kernel_rfl) (by kernel_rfl) (by kernel_rfl) (by decide) (fun _ _ _ h => h) (Or.inl ⟨by rfl, ?yq7⟩) trivial ?_
        case yq7 => (intro wz _; go_simp; first | exact HD.out.2.1 | rw [HD.out.2.1])
        try simp only [Act.put, List.setIfInBounds_toArray, List.set_cons_zero, List.set_cons_succ]
        refine anyT_take (i := 8) (v := .int .u8 (d2.toNat : Int)) rfl (by kernel_rfl) (by kernel_rfl) (by kernel_rfl) (by kernel_rfl) (by decide) (fun _ _ _ h => h) (Or.inl ⟨by rfl, ?yq8⟩) trivial ?_
        case yq8 => (intro wz _; go_simp; simp only [HD.out.2.2.2])
        try simp only [Act.put, List.setIfInBounds_toArray, List.set_cons_zero, List.set_cons_succ]
        refine anyT_one (i := 9) (by kernel_rfl) rfl (fun K hK => ?_)
        go_simp
        try rw [← hW2]
        refine hK.out _ _ (.inr trivial) ?_
        clear hK
        try simp only [Act.put, List.setIfInBounds_toArray, List.set_cons_zero, List.set_cons_succ]
        refine anyT_one (i := 10) (by kernel_rfl) rfl (fun K hK => ?_)
        refine step_append_wr _ rfl _ _ rfl w.heap.size g cp n wr.heap.size 0 4 4 X [92, 120, d1, d2] rfl rfl HW.out.2.2 rfl HW2.out.1 HW2.out.2.2 ?hl ?hb ?_
        case hl => rw [← HW.out.2.2]; show n + 4 ≤ _; omega
        case hb => omega
        intro g' cp' w' hW' hgr hat
        have HR : Hid (WrB w' w.heap.size g' cp' (X ++ [92, 120, d1, d2]) ∧ Below w.heap.size w w' ∧ n + 4 = (X ++ [92, 120, d1, d2]).length ∧ X ++ [92, 120, d1, d2] = [34] ++ quoL ((bl s).take (k + 1))) := ⟨hW', WrB.next HW2.out.2.1 (by omega) hge hgr, by rw [List.length_append, ← HW.out.2.2]; rfl, by rw [HX2.out, HQ.out]⟩
        refine hK.out _ _ (.inr trivial) ?_
        clear hK hW' hgr hat hW2
        try simp only [Act.put, List.setIfInBounds_toArray, List.set_cons_zero, List.set_cons_succ]
        refine anyT_one (i := 11) (by kernel_rfl) rfl (fun K hK => ?_)
        go_simp
        refine hK.out _ _ (.inl rfl) ?_
        clear hK
        try simp only [Act.put, List.setIfInBounds_toArray, List.set_cons_zero, List.set_cons_succ]
        refine anyT_done (by kernel_rfl) ?_
        go_wp2_with fail
        go_roundw
        case rel => exact ⟨k + 1, g', cp', n + 4, X ++ [92, 120, d1, d2], by omega, by go_num, rfl, HR.out.2.2.1, by omega, HR.out.2.2.2, HR.out.1, HR.out.2.1⟩
        case measure => simp [intOf]; omega
    · have z : ¬ (k : Int) < (s.size : Int) := by omega
      have HX2 : Hid (quoM (bl s) = X ++ [34]) := by
        show _ = _
        have := HX.out
        rw [List.take_of_length_le (by rw [bl_len]; omega)] at this
        rw [quoM, this]
      obtain ⟨W2, hW2⟩ : ∃ W2 : World, W2 = wr.alloc (Obj.cells #[.int .u8 34] 5) := ⟨_, rfl⟩
      have hb2 : Below wr.heap.size wr W2 := by rw [hW2]; exact (Below.refl _ _).alloc (Nat.le_refl _) _
      have s2 := hb2.size
      have HW2 : Hid (WrB W2 w.heap.size g cp X ∧ Below w.heap.size w W2 ∧ BysAt W2 wr.heap.size 0 [34]) := by
        refine ⟨HW.out.1.below hb2, HW.out.2.1.trans (hb2.mono sr), ?_⟩
        rw [hW2]; exact bys_new wr _ [34] rfl
      clear hb2
      go_wp2_with (at_builtin; (try rw [← hW2]); refine wpList_append_wr _ rfl _ _ rfl w.heap.size g cp n wr.heap.size 0 1 1 X [34] rfl rfl HW.out.2.2 rfl HW2.out.1 HW2.out.2.2 ?hl ?hb ?_)
      case hl => first | omega | (rw [← HW.out.2.2]; first | (show n + 1 ≤ _; omega) | omega)
      case hb => omega
      intro g' cp' w' hW' hgr hat
      have hgr2 : W2.grownBy w' (some g) := by first | exact hgr | (rw [hW2]; exact hgr)
      have HR : Hid (WrB w' w.heap.size g' cp' (quoM (bl s)) ∧ Below w.heap.size w w' ∧ n + 1 = (quoM (bl s)).length) := ⟨by rw [HX2.out]; exact hW', WrB.next HW2.out.2.1 (by omega) hge hgr2, by rw [HX2.out, List.length_append, ← HW.out.2.2]; rfl⟩
      clear hW' hgr hgr2 hat hW2
      go_wp2_with fail
      go_ret
      exact ⟨g', cp', by rw [← HR.out.2.2]; rfl, HR.out.1, HR.out.2.1⟩
end Go.Proofs.YtgnpcenpcmdlfaaGreatDoor

