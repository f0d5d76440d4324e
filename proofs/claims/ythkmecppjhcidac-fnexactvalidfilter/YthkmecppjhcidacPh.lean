/-
  (*impl.patternReader).rep, over a contract of atom.
-/
import Derived.Test.YthkmecppjhcidacPg
namespace Go.Proofs.Ythkmecppjhcidac
open Go.ChangeShapes Go.WideShapes Go.ChangeAt Go.RowKit Go.Deep
set_option linter.unusedVariables false
set_option linter.unusedSimpArgs false
set_option maxRecDepth 100000

theorem inB_some {p : List UInt8} {i : Nat} {l : List UInt8} (h : inB p i l = true) : ∃ c, p[i]? = some c ∧ c ∈ l := by
  unfold inB at h
  split at h
  · next c hc => exact ⟨c, hc, by simpa using h⟩
  · cases h
theorem inB_none {p : List UInt8} {i : Nat} {l : List UInt8} (h : inB p i l = false) : ∀ c, p[i]? = some c → ¬ c ∈ l := by
  intro c hc
  unfold inB at h
  rw [hc] at h
  simpa using h
theorem op_mem {c : UInt8} : c ∈ ([42, 43, 63] : List UInt8) ↔ isOp c := by simp [isOp]
/-- The state of rep's node. -/
structure RepJ (p : ByteArray) (base g i o j : Nat) (a : Pat) (v : Value) (RB : Nat) (w : World) (k : Nat) (op rp : Bool) (wr : World) : Prop where
  ops : OpsOk (sb p) o i j k a op rp
  rd : PrAt wr base g p k o
  box : BoxAt wr w.heap.size 192 3 RB [v, .bool op, .bool rp]
  node : NodeOk wr (Bet w.heap.size RB) a v
  chg : Chg (fun k => k = g) w wr
theorem RepJ.move {p : ByteArray} {base g i o j : Nat} {a : Pat} {v : Value} {RB : Nat} {w : World} {k : Nat} {op rp : Bool} {wr w' : World} (h : RepJ p base g i o j a v RB w k op rp wr) (hb : Below wr.heap.size wr w') : RepJ p base g i o j a v RB w k op rp w' :=
  ⟨h.ops, BoxAt.below h.rd hb, h.box.below hb, h.node.move (S := fun _ => False) (Chg.of_below hb) (fun k q => q.elim) (fun k _ q => q), h.chg.trans (Chg.of_below hb)⟩
theorem RepJ.step {p : ByteArray} {base g i o j : Nat} {a : Pat} {v : Value} {RB : Nat} {w : World} {k : Nat} {op rp : Bool} {wr w' : World} {c : UInt8} (h : RepJ p base g i o j a v RB w k op rp wr) (hg : g < w.heap.size) (hc : (sb p)[k]? = some c) (ho : isOp c) (hP : PrAt w' base g p (k + 1) o) (hC : Chg (fun k => k = g) wr w') :
    RepJ p base g i o j a v RB w (k + 1) (op || c != 43) (rp || c != 63) ((w'.setCell ⟨RB, 1, none⟩ (.bool (op || c != 43))).setCell ⟨RB, 2, none⟩ (.bool (rp || c != 63))) := by
  have hr := h.box.lt.1
  have c1 := Chg.of_set w' RB 1 (.bool (op || c != 43)) (S := fun k => k = RB) rfl
  have c2 := Chg.of_set (w'.setCell ⟨RB, 1, none⟩ (.bool (op || c != 43))) RB 2 (.bool (rp || c != 63)) (S := fun k => k = RB) rfl
  have c3 := c1.trans c2
  refine ⟨h.ops.more hc ho, BoxAt.chg hP c3 (by omega), ((h.box.chg hC (by omega)).set 1 _).set 2 _, ?_, ((h.chg.trans hC).absorb c3 (fun j q => .inr (by omega)))⟩
  exact (h.node.move hC (fun k q => by subst q; exact fun z => by have := z.1; omega) (fun k _ q => q)).move c3 (fun k q => by subst q; exact fun z => by have := z.2; omega) (fun k _ q => q)

def RepC (p : ByteArray) (m : Nat) : Prop := ∀ (base g i o : Nat) (w : World), p.size - i ≤ m → i < p.size → o ≤ 20 → (∀ c, (sb p)[i]? = some c → ¬ isEnd c) → PrAt w base g p i o → Calls Try.prog 132 #[.pointer (some ⟨g, 0, none⟩)] w (NodePost p base g i o w (RepOk (sb p) o i))
set_option maxHeartbeats 8000000 in
theorem rep_of {p : ByteArray} {m : Nat} (H : AtomC p m) (hp : p.size ≤ 200) : RepC p m := by
  intro base g i o w hm hi ho he h
  have HP : Hid (PrAt w base g p i o) := h
  have hgl := h.lt.2
  clear h
  go_enter Try.func132, Try.ntmps132
  go_wp2_with fail
  refine (H base g i o w hm hi ho he HP.out).mono ?_
  rintro e w1 ⟨hC1, (⟨j, a, v, hA, rfl, hN, hP1⟩ | ⟨c, k, hc0, hk, rfl⟩)⟩
  case inr => exact ⟨rfl, hC1, .inr ⟨c, k, hc0, hk, rfl⟩⟩
  obtain ⟨T, cs, rfl⟩ := hN.iface
  have HW1 : Hid (AtomOk (sb p) o i j a ∧ NodeOk w1 (Bet w.heap.size w1.heap.size) a (.iface T (.agg cs)) ∧ PrAt w1 base g p j o ∧ Chg (fun k => k = g) w w1) := ⟨hA, hN, hP1, hC1⟩
  clear hC1 hA hN hP1 HP
  go_wp2_with fail
  refine (pnextIn_core ⟨#[42, 43, 63]⟩ HW1.out.2.2.1 hp).mono ?_
  rintro e w2 ⟨rfl, hb2⟩
  have HW2 : Hid (NodeOk w2 (Bet w.heap.size w2.heap.size) a (.iface T (.agg cs)) ∧ PrAt w2 base g p j o ∧ Chg (fun k => k = g) w w2) :=
    ⟨HW1.out.2.1.move (S := fun _ => False) (Chg.of_below hb2) (fun k q => q.elim) (fun k hk q => ⟨q.1, by have := hb2.size; omega⟩), BoxAt.below HW1.out.2.2.1 hb2, HW1.out.2.2.2.trans (Chg.of_below hb2)⟩
  have HA : Hid (AtomOk (sb p) o i j a) := HW1.out.1
  obtain ⟨q, hq⟩ : ∃ q, q = inB (sb p) j (sb ⟨#[42, 43, 63]⟩) := ⟨_, rfl⟩
  have HQ : Hid (inB (sb p) j [42, 43, 63] = q) := hq.symm
  rw [← hq]
  clear hb2 hq HW1
  cases q
  · have HR : Hid (RepOk (sb p) o i j a) := by
      have := (OpsOk.zero HA.out).rep (fun c hc hop => inB_none HQ.out c hc (op_mem.2 hop))
      rw [if_pos rfl] at this
      exact this
    go_wp2_with fail
    go_ret
    exact ⟨HW2.out.2.2, .inl ⟨j, a, _, HR.out, rfl, HW2.out.1, HW2.out.2.1⟩⟩
  have hjp : j ≤ p.size := by have := HA.out.le; rw [sb_len] at this; exact this
  obtain ⟨W3, hW3⟩ : ∃ W3 : World, W3 = w2.alloc (Obj.cells #[.iface T (.agg cs), .bool false, .bool false] 192) := ⟨_, rfl⟩
  have hs2 := HW2.out.2.2.size
  have HW3 : Hid (RepJ p base g i o j a (.iface T (.agg cs)) w2.heap.size w j false false W3) := by
    have hb : Below w2.heap.size w2 W3 := by rw [hW3]; exact (Below.refl _ _).alloc (Nat.le_refl _) _
    refine ⟨OpsOk.zero HA.out, BoxAt.below HW2.out.2.1 hb, ?_, HW2.out.1.move (S := fun _ => False) (Chg.of_below hb) (fun k q => q.elim) (fun k _ q => q), HW2.out.2.2.trans (Chg.of_below hb)⟩
    rw [hW3]; exact boxAt_new w2 _ hs2 rfl
  have HF0 : Hid (∃ c, (sb p)[j]? = some c ∧ isOp c) := by
    obtain ⟨c, h1, h2⟩ := inB_some HQ.out
    exact ⟨c, h1, op_mem.1 h2⟩
  clear HW2
  go_wp2_with fail
  rw [← hW3]
  obtain ⟨RB, hRB⟩ : ∃ RB, RB = w2.heap.size := ⟨_, rfl⟩
  rw [← hRB] at HW3
  rw [← hRB]
  have hrb : w.heap.size ≤ RB := by omega
  clear hW3 hRB hs2
  go_loopw [5] (fun sg wr => ∃ (k : Nat) (op rp : Bool), j ≤ k ∧ k ≤ p.size ∧ (k = j → ∃ c, (sb p)[j]? = some c ∧ isOp c) ∧ RepJ p base g i o j a (.iface T (.agg cs)) RB w k op rp wr) (fun _ wr => p.size - atOf wr g)
  case atStart => exact ⟨j, false, false, Nat.le_refl _, hjp, fun _ => HF0.out, HW3.out⟩
  case round =>
    obtain ⟨k, op, rp, hjk, hkp, hne, hJ⟩ := hrel
    have HJ : Hid (RepJ p base g i o j a (.iface T (.agg cs)) RB w k op rp wr ∧ (k = j → ∃ c, (sb p)[j]? = some c ∧ isOp c) ∧ atOf wr g = k) := ⟨hJ, hne, atOf_pr hJ.rd⟩
    clear hJ hne HW3
    go_wp2_with fail
    refine (pnextIn_core ⟨#[42, 43, 63]⟩ HJ.out.1.rd hp).mono ?_
    rintro e w5 ⟨rfl, hb5⟩
    have HJ5 : Hid (RepJ p base g i o j a (.iface T (.agg cs)) RB w k op rp w5) := HJ.out.1.move hb5
    obtain ⟨q, hq⟩ : ∃ q, q = inB (sb p) k (sb ⟨#[42, 43, 63]⟩) := ⟨_, rfl⟩
    have HQ5 : Hid (inB (sb p) k [42, 43, 63] = q) := hq.symm
    rw [← hq]
    clear hb5 hq
    cases q
    · have HR : Hid (RepOk (sb p) o i k (.rep a op rp)) := by
        have h1 := HJ5.out.ops.rep (fun c hc hop => inB_none HQ5.out c hc (op_mem.2 hop))
        rw [if_neg (fun q => by
          obtain ⟨c, hc, hop⟩ := HJ.out.2.1 q.symm
          rw [q] at hc
          exact inB_none HQ5.out c hc (op_mem.2 hop))] at h1
        exact h1
      have b0 := HJ5.out.box.cell (j := 0) rfl
      have b1 := HJ5.out.box.cell (j := 1) rfl
      have b2 := HJ5.out.box.cell (j := 2) rfl
      go_wp2_with fail
      go_ret
      exact ⟨HJ5.out.chg, .inl ⟨k, _, _, HR.out, rfl, nodeOk_rep (HJ5.out.node.move (S := fun _ => False) (Chg.refl _ _) (fun k q => q.elim) (fun k hk q => ⟨q.1, hk⟩)) op rp, HJ5.out.rd⟩⟩
    · obtain ⟨c, hc, hcm⟩ := inB_some HQ5.out
      have HC : Hid ((sb p)[k]? = some c ∧ isOp c) := ⟨hc, op_mem.1 hcm⟩
      have hk1 : k + 1 ≤ p.size := by have := lt_of_at hc; rw [sb_len] at this; omega
      clear hc hcm
      go_wp2_with fail
      refine (ptake_yes HJ5.out.rd hp HC.out.1).mono ?_
      rintro e w6 ⟨rfl, hP6, hC6⟩
      have HJ6 := HJ5.out.step hgl HC.out.1 HC.out.2 hP6 hC6
      have hbx := HJ5.out.box.chg hC6 (show ¬ RB = g by omega)
      have b1 := hbx.cell (j := 1) rfl
      have b2 := hbx.cell (j := 2) rfl
      have g1 := hbx.frozen 1
      have g2 := hbx.frozen 2
      have HJN : Hid (RepJ p base g i o j a (.iface T (.agg cs)) RB w (k + 1) (op || c != 43) (rp || c != 63) ((w6.setCell ⟨RB, 1, none⟩ (.bool (op || c != 43))).setCell ⟨RB, 2, none⟩ (.bool (rp || c != 63)))) := HJ6
      have HAt : Hid (atOf wr g = k) := HJ.out.2.2
      clear HJ6 hbx hP6 hC6 HJ5 HJ
      rcases HC.out.2 with rfl | rfl | rfl <;> cases op <;> cases rp
      all_goals go_wp2_with fail
      all_goals go_roundw
      all_goals first
        | exact ⟨k + 1, _, _, by omega, hk1, fun q => by omega, HJN.out⟩
        | exact Nat.lt_of_le_of_lt (Nat.le_of_eq (congrArg (p.size - ·) (atOf_pr HJN.out.rd))) (by rw [HAt.out]; omega)
end Go.Proofs.Ythkmecppjhcidac
