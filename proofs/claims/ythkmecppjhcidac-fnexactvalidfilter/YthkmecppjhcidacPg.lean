/-
  (*impl.patternReader): group, atom, over a contract of alt.
-/
import Derived.Test.YthkmecppjhcidacPm
namespace Go.Proofs.Ythkmecppjhcidac
open Go.ChangeShapes Go.WideShapes Go.ChangeAt Go.RowKit Go.Deep
set_option linter.unusedVariables false
set_option linter.unusedSimpArgs false
set_option maxRecDepth 100000

/-- What a node's reader hands back, 'i' being where the piece begins. -/
def NodePost (p : ByteArray) (base g i o : Nat) (w : World) (R : Nat → Pat → Prop) (e : Ending) (w' : World) : Prop :=
  Chg (fun k => k = g) w w' ∧ ((∃ (k : Nat) (t : Pat) (v : Value), R k t ∧ e = .returned v ∧ NodeOk w' (Bet w.heap.size w'.heap.size) t v ∧ PrAt w' base g p k o) ∨ (∃ (c : Int) (k : Nat), ¬ c = 0 ∧ (∀ a, chkM (sb p) i o a = (c, k)) ∧ e = Pf c k))
def AltPost (p : ByteArray) (base g i o : Nat) (w : World) (e : Ending) (w' : World) : Prop :=
  Chg (fun k => k = g) w w' ∧ ((∃ (k : Nat) (os : List (List Pat)) (u : Value), AltOk (sb p) o i k os ∧ (∀ c, (sb p)[k]? = some c → isEnd c ∧ ¬ c = 124) ∧ e = .returned (.agg #[u]) ∧ AltAt w' (Bet w.heap.size w'.heap.size) os u ∧ PrAt w' base g p k o) ∨ (∃ (c : Int) (k : Nat), ¬ c = 0 ∧ chkM (sb p) i o false = (c, k) ∧ e = Pf c k))
/-- The contract of alt, for patterns of which at most m bytes are to come. -/
def AltC (p : ByteArray) (m : Nat) : Prop := ∀ (base g i o : Nat) (w : World), p.size - i ≤ m → i ≤ p.size → o ≤ 20 → PrAt w base g p i o → Calls Try.prog 125 #[.pointer (some ⟨g, 0, none⟩)] w (AltPost p base g i o w)
def AtomC (p : ByteArray) (m : Nat) : Prop := ∀ (base g i o : Nat) (w : World), p.size - i ≤ m → i < p.size → o ≤ 20 → (∀ c, (sb p)[i]? = some c → ¬ isEnd c) → PrAt w base g p i o → Calls Try.prog 134 #[.pointer (some ⟨g, 0, none⟩)] w (NodePost p base g i o w (AtomOk (sb p) o i))

theorem PrAt.open {w : World} {base g i o : Nat} {p : ByteArray} (h : PrAt w base g p i o) (o' : Nat) : PrAt (w.setCell ⟨g, 2, none⟩ (.int .i64 (o' : Int))) base g p i o' := BoxAt.set h 2 (.int .i64 (o' : Int))
theorem AltAt.slice {w : World} {lo : Nat → Prop} {os : List (List Pat)} {u : Value} (h : AltAt w lo os u) : ∃ g n cp, u = .slice (some ⟨g, 0, none⟩) n cp := by
  obtain ⟨n, g, cp, us, h1, _⟩ := h
  exact ⟨g, _, cp, h1⟩

set_option maxHeartbeats 4000000 in
theorem group_of {p : ByteArray} {m : Nat} (H : AltC p m) (hp : p.size ≤ 200) (base g q o : Nat) (w : World) (hm : p.size - (q + 1) ≤ m) (hq : (sb p)[q]? = some 40) (ho : o ≤ 20) (h : PrAt w base g p (q + 1) o) :
    Calls Try.prog 138 #[.pointer (some ⟨g, 0, none⟩)] w (NodePost p base g q o w (AtomOk (sb p) o q)) := by
  have HP : Hid (PrAt w base g p (q + 1) o ∧ (sb p)[q]? = some 40) := ⟨h, hq⟩
  have hgl := h.lt.2
  have hqp : q + 1 ≤ p.size := by have := lt_of_at hq; rw [sb_len] at this; omega
  have c1 := h.cell (j := 1) rfl
  have c2 := h.cell (j := 2) rfl
  have f2 := h.frozen 2
  clear h hq
  by_cases ho20 : o = 20
  · subst ho20
    go_enter Try.func138, Try.ntmps138
    go_wp2_with fail
    exact ⟨rfl, Chg.refl _ _, .inr ⟨3, q, by decide, fun a => by rw [chk_open HP.out.2, if_pos rfl], by first | rfl | simp⟩⟩
  have z20 : ¬ (o : Int) = 20 := by omega
  have HW : Hid (PrAt (w.setCell ⟨g, 2, none⟩ (.int .i64 ((o + 1 : Nat) : Int))) base g p (q + 1) (o + 1) ∧ Chg (fun k => k = g) w (w.setCell ⟨g, 2, none⟩ (.int .i64 ((o + 1 : Nat) : Int)))) := ⟨PrAt.open HP.out.1 (o + 1), Chg.of_set w g 2 _ rfl⟩
  obtain ⟨W, hW⟩ : ∃ W : World, W = w.setCell ⟨g, 2, none⟩ (.int .i64 ((o + 1 : Nat) : Int)) := ⟨_, rfl⟩
  have hzW : W.heap.size = w.heap.size := by rw [hW]; simp [World.setCell]
  rw [← hW] at HW
  have hW2 : W = w.setCell ⟨g, 2, none⟩ (.int .i64 ((o : Int) + 1)) := hW
  have HZ : Hid (W.heap.size = w.heap.size) := hzW
  clear hW hzW
  go_enter Try.func138, Try.ntmps138
  go_upto_region 4 with fail
  rw [← hW2]
  clear hW2 c1 c2 f2
  go_wp2_with fail
  refine (H base g (q + 1) (o + 1) W hm hqp (by omega) HW.out.1).mono ?_
  rintro e w2 ⟨hC2, (⟨k, os, u, hA, hN, rfl, hU, hP2⟩ | ⟨c, k, hc0, hk, rfl⟩)⟩
  case inr =>
    refine ⟨rfl, HW.out.2.trans hC2, .inr ⟨c, k, hc0, fun a => ?_, rfl⟩⟩
    rw [chk_open HP.out.2, if_neg ho20, hk]
  obtain ⟨gu, nu, cu, rfl⟩ := hU.slice
  have hkp : k ≤ p.size := by have := hA.le; rw [sb_len] at this; exact this
  have HA : Hid (AltOk (sb p) (o + 1) (q + 1) k os ∧ (∀ c, (sb p)[k]? = some c → isEnd c ∧ ¬ c = 124)) := ⟨hA, hN⟩
  have HW2 : Hid (AltAt w2 (Bet w.heap.size w2.heap.size) os (.slice (some ⟨gu, 0, none⟩) nu cu) ∧ PrAt w2 base g p k (o + 1) ∧ Chg (fun k => k = g) w w2) := ⟨by rw [← HZ.out]; exact hU, hP2, HW.out.2.trans hC2⟩
  clear hC2 hA hN hU hP2 HW
  obtain ⟨W3, hW3⟩ : ∃ W3 : World, W3 = w2.alloc (Obj.cells #[.slice (some ⟨gu, 0, none⟩) nu cu] 162) := ⟨_, rfl⟩
  have hs2 := HW2.out.2.2.size
  have HW3 : Hid (AltAt W3 (Bet w.heap.size w2.heap.size) os (.slice (some ⟨gu, 0, none⟩) nu cu) ∧ PrAt W3 base g p k (o + 1) ∧ Chg (fun k => k = g) w W3 ∧ BoxAt W3 w.heap.size 162 1 w2.heap.size [.slice (some ⟨gu, 0, none⟩) nu cu]) := by
    have hb : Below w2.heap.size w2 W3 := by rw [hW3]; exact (Below.refl _ _).alloc (Nat.le_refl _) _
    refine ⟨HW2.out.1.move (S := fun _ => False) (Chg.of_below hb) (fun k q => q.elim) (fun k _ q => q), BoxAt.below HW2.out.2.1 hb, HW2.out.2.2.trans (Chg.of_below hb), ?_⟩
    rw [hW3]; exact boxAt_new w2 _ hs2 rfl
  clear HW2
  go_upto_region 5 with fail
  rw [← hW3]
  obtain ⟨IB, hIB⟩ : ∃ IB, IB = w2.heap.size := ⟨_, rfl⟩
  rw [← hIB] at HW3
  rw [← hIB]
  have hib : w.heap.size ≤ IB := by omega
  clear hW3 hIB hs2
  go_wp2_with fail
  refine (pskip_core 41 HW3.out.2.1 hp).mono ?_
  rintro e w4 ⟨hC4, (⟨hx, rfl, hP4⟩ | ⟨hx, rfl, hP4⟩)⟩
  case inr =>
    have HF : Hid (PrAt w4 base g p k (o + 1) ∧ Chg (fun k => k = g) w w4 ∧ ¬ (sb p)[k]? = some 41) := ⟨hP4, HW3.out.2.2.1.trans hC4, hx⟩
    clear hC4 hx hP4
    go_wp2_with fail
    refine (pdem_no HF.out.1).mono ?_
    rintro e w5 ⟨rfl, rfl⟩
    refine ⟨rfl, HF.out.2.1, .inr ⟨2, k, by decide, fun a => ?_, rfl⟩⟩
    rw [chk_open HP.out.2, if_neg ho20, HA.out.1.chk]
    by_cases hk : k < (sb p).length
    · obtain ⟨c, hc⟩ : ∃ c, (sb p)[k]? = some c := ⟨_, List.getElem?_eq_getElem hk⟩
      obtain ⟨h1, h2⟩ := HA.out.2 c hc
      rcases h1 with h1 | h1 | h1 | h1
      · rw [chk_op hc h1]; rfl
      · exact absurd h1 h2
      · subst h1; exact absurd hc HF.out.2.2
      · subst h1; rw [chk_rb hc]
    · rw [chk_end hk, if_pos (by omega)]
      have := HA.out.1.le
      rw [show k = (sb p).length by omega]
  have HF : Hid (AltAt w4 (Bet w.heap.size IB) os (.slice (some ⟨gu, 0, none⟩) nu cu) ∧ PrAt w4 base g p (k + 1) (o + 1) ∧ Chg (fun k => k = g) w w4 ∧ BoxAt w4 w.heap.size 162 1 IB [.slice (some ⟨gu, 0, none⟩) nu cu] ∧ (sb p)[k]? = some 41) :=
    ⟨HW3.out.1.move hC4 (fun k q => by subst q; exact fun z => by have := z.1; omega) (fun k _ q => q), hP4, HW3.out.2.2.1.trans hC4, BoxAt.chg HW3.out.2.2.2 hC4 (by omega), hx⟩
  clear hC4 hx hP4 HW3
  go_wp2_with fail
  refine (pdem_yes _ w4).mono ?_
  rintro e w5 ⟨rfl, hw5⟩
  rw [hw5]
  clear hw5
  have d2 := HF.out.2.1.cell (j := 2) rfl
  have g2 := HF.out.2.1.frozen 2
  have HZ4 : Hid (AltAt (w4.setCell ⟨g, 2, none⟩ (.int .i64 (o : Int))) (Bet w.heap.size IB) os (.slice (some ⟨gu, 0, none⟩) nu cu) ∧ PrAt (w4.setCell ⟨g, 2, none⟩ (.int .i64 (o : Int))) base g p (k + 1) o ∧ Chg (fun k => k = g) w (w4.setCell ⟨g, 2, none⟩ (.int .i64 (o : Int))) ∧ BoxAt (w4.setCell ⟨g, 2, none⟩ (.int .i64 (o : Int))) w.heap.size 162 1 IB [.slice (some ⟨gu, 0, none⟩) nu cu]) := by
    have hc := Chg.of_set w4 g 2 (.int .i64 (o : Int)) (S := fun k => k = g) rfl
    exact ⟨HF.out.1.move hc (fun k q => by subst q; exact fun z => by have := z.1; omega) (fun k _ q => q), PrAt.open HF.out.2.1 o, HF.out.2.2.1.trans hc, BoxAt.chg HF.out.2.2.2.1 hc (by omega)⟩
  have HC : Hid (AtomOk (sb p) o q (k + 1) (.alt os)) := AtomOk.group HP.out.2 ho20 HA.out.1 HF.out.2.2.2.2
  obtain ⟨W6, hW6⟩ : ∃ W6 : World, W6 = w4.setCell ⟨g, 2, none⟩ (.int .i64 (o : Int)) := ⟨_, rfl⟩
  rw [← hW6] at HZ4
  clear HF HA
  go_upto_region 7 with fail
  rw [← hW6]
  clear hW6 d2 g2
  have b0 := HZ4.out.2.2.2.cell (j := 0) rfl
  go_wp2_with fail
  go_ret
  exact ⟨HZ4.out.2.2.1, .inl ⟨k + 1, .alt os, _, HC.out, rfl, nodeOk_alt (HZ4.out.1.move (S := fun _ => False) (Chg.refl _ _) (fun k q => q.elim) (fun k hk q => ⟨q.1, hk⟩)), HZ4.out.2.1⟩⟩

theorem not_eq_u8 {x c : UInt8} (h : ¬ x = c) : ¬ (x.toNat : Int) = (c.toNat : Int) := fun q => h (UInt8.toNat_inj.1 (by omega))
set_option maxHeartbeats 4000000 in
theorem atom_of {p : ByteArray} {m : Nat} (H : AltC p m) (hp : p.size ≤ 200) : AtomC p (m + 1) := by
  intro base g i o w hm hi ho he h
  obtain ⟨x, hx⟩ : ∃ x, (sb p)[i]? = some x := ⟨_, List.getElem?_eq_getElem (by rw [sb_len]; exact hi)⟩
  have HX : Hid ((sb p)[i]? = some x ∧ ¬ isEnd x) := ⟨hx, he x hx⟩
  have HP : Hid (PrAt w base g p i o) := h
  have hgl := h.lt.2
  clear h he hx
  go_enter Try.func134, Try.ntmps134
  go_wp2_with fail
  refine (ptake_yes HP.out hp HX.out.1).mono ?_
  rintro e w1 ⟨rfl, hP1, hC1⟩
  have HW1 : Hid (PrAt w1 base g p (i + 1) o ∧ Chg (fun k => k = g) w w1) := ⟨hP1, hC1⟩
  have hs1 := hC1.size
  clear hP1 hC1 HP
  by_cases h46 : x = 46
  · subst h46
    go_upto_region 5 with fail
    apply wp_region_list
    refine wpList_build_cells rfl _ _ rfl (setA (fun _ => false)) (by simp; exact built_set) ?_
    simp only [Act.put, Act.eval, List.setIfInBounds_toArray, List.set_cons_succ, List.set_cons_zero]
    refine wpList_call_of rfl 137 #[.agg (setA (fun _ => false))] (by simp [execOp, go_sem, Act.eval, Try.func137]) ?_
    refine (opposite_core (fun _ => false) w1).mono ?_
    rintro e w2 ⟨rfl, hb2⟩
    simp only [Act.put, Act.eval, List.setIfInBounds_toArray, List.set_cons_succ, List.set_cons_zero]
    refine wpList_build_cells rfl _ _ rfl (setA (fun _ => true)) (by simp [Act.eval]; exact built_cls _ (setA_size _)) ?_
    simp only [Act.put, Act.eval, List.setIfInBounds_toArray, List.set_cons_succ, List.set_cons_zero]
    go_wp2_with fail
    go_ret
    exact ⟨HW1.out.2.trans (Chg.of_below hb2), .inl ⟨i + 1, _, _, AtomOk.dot HX.out.1, rfl, nodeOk_cls _ _ _, BoxAt.below HW1.out.1 hb2⟩⟩
  have z46 : ¬ (x.toNat : Int) = 46 := not_eq_u8 (c := 46) h46
  by_cases h92 : x = 92
  · subst h92
    go_wp2_with fail
    refine (ptake_core HW1.out.1 hp (by omega)).mono ?_
    rintro e w2 ⟨hC2, (⟨y, hy, rfl, hP2⟩ | ⟨hy, rfl⟩)⟩
    case inr =>
      refine ⟨rfl, HW1.out.2.trans hC2, .inr ⟨2, i + 1, by decide, fun a => ?_, rfl⟩⟩
      have h1 := lt_of_at HX.out.1
      have h2 : ¬ i + 1 < (sb p).length := fun q => by rw [List.getElem?_eq_getElem q] at hy; cases hy
      rw [chk_esc HX.out.1, if_pos (by omega)]
      rw [show i + 1 = (sb p).length by omega]
    have HF : Hid (PrAt w2 base g p (i + 1 + 1) o ∧ Chg (fun k => k = g) w w2 ∧ (sb p)[i + 1]? = some y) := ⟨hP2, HW1.out.2.trans hC2, hy⟩
    clear hC2 hy hP2
    go_wp2_with fail
    go_ret
    exact ⟨HF.out.2.1, .inl ⟨i + 1 + 1, _, _, AtomOk.esc HX.out.1 HF.out.2.2, rfl, nodeOk_byte _ _ _, HF.out.1⟩⟩
  have z92 : ¬ (x.toNat : Int) = 92 := not_eq_u8 (c := 92) h92
  by_cases h40 : x = 40
  · subst h40
    go_wp2_with fail
    refine (group_of H hp base g i o w1 (by omega) HX.out.1 ho HW1.out.1).mono ?_
    rintro e w2 ⟨hC2, (⟨k, t, v, hR, rfl, hN, hP2⟩ | ⟨c, k, hc0, hk, rfl⟩)⟩
    case inr => exact ⟨rfl, HW1.out.2.trans hC2, .inr ⟨c, k, hc0, hk, rfl⟩⟩
    have HF : Hid (AtomOk (sb p) o i k t ∧ NodeOk w2 (Bet w.heap.size w2.heap.size) t v ∧ PrAt w2 base g p k o ∧ Chg (fun k => k = g) w w2) := ⟨hR, hN.move (S := fun _ => False) (Chg.refl _ _) (fun k q => q.elim) (fun k hk q => ⟨by have := q.1; omega, hk⟩), hP2, HW1.out.2.trans hC2⟩
    obtain ⟨T, c, rfl⟩ := hN.iface
    clear hC2 hR hN hP2
    go_wp2_with fail
    go_ret
    exact ⟨HF.out.2.2.2, .inl ⟨k, t, _, HF.out.1, rfl, HF.out.2.1, HF.out.2.2.1⟩⟩
  have z40 : ¬ (x.toNat : Int) = 40 := not_eq_u8 (c := 40) h40
  by_cases h91 : x = 91
  · subst h91
    go_wp2_with fail
    refine (class_core HW1.out.1 hp (by omega)).mono ?_
    rintro e w2 ⟨hC2, (⟨f, k, hk, rfl, hP2⟩ | ⟨c, k, hk, rfl⟩)⟩
    case inr => exact ⟨rfl, HW1.out.2.trans hC2, .inr ⟨c, k, classM_err hk, fun a => by rw [chk_class HX.out.1, hk], rfl⟩⟩
    have HF : Hid (PrAt w2 base g p k o ∧ Chg (fun k => k = g) w w2 ∧ classM (sb p) (i + 1) = .inl (f, k)) := ⟨hP2, HW1.out.2.trans hC2, hk⟩
    clear hC2 hk hP2
    go_wp2_with fail
    go_ret
    exact ⟨HF.out.2.1, .inl ⟨k, _, _, AtomOk.class HX.out.1 HF.out.2.2, rfl, nodeOk_cls _ _ _, HF.out.1⟩⟩
  have z91 : ¬ (x.toNat : Int) = 91 := not_eq_u8 (c := 91) h91
  have HS : Hid (¬ special x) := fun q => by
    rcases q with q | q | q | q | q
    · exact HX.out.2 q
    · exact h40 q
    · exact h91 q
    · exact h46 q
    · exact h92 q
  go_wp2_with fail
  go_ret
  exact ⟨HW1.out.2, .inl ⟨i + 1, _, _, AtomOk.plain HX.out.1 HS.out, rfl, nodeOk_byte _ _ _, HW1.out.1⟩⟩
end Go.Proofs.Ythkmecppjhcidac
