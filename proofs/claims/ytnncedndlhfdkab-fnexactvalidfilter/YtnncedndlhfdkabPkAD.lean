import Derived.Deep.RegionLaw
import Derived.Deep.AppendLies
import Derived.Maps.AppendAt
import Derived.Recover
import Derived.RecoverIn
import Derived.Stop.Asserts
import Derived.Test.YtnncedndlhfdkabPkAC
import Derived.Test.YtnncedndlhfdkabPkAB
/-
  (*impl.patternReader).rep, over a contract of atom.
-/
namespace Go.Proofs.Ytnncedndlhfdkab
open Go.ChangeShapes Go.WideShapes Go.ChangeAt Go.RowKit Go.Deep
set_option linter.unusedVariables false
set_option linter.unusedSimpArgs false
set_option maxRecDepth 100000

theorem inB_some {p : List UInt8} {i : Nat} {l : List UInt8} (h : inB p i l = true) : ∃ c, p[i]? = some c ∧ c ∈ l := by
  unfold inB at h
  split at h
  · next c hc => exact ⟨c, hc, by simpa using h⟩
  · cases h
theorem inB_none {p : List UInt8} {i : Nat} {l : List UInt8} (h : inB p i l = false) : ∀ c, p[i]? = some c → ¬ c ∈ l := by
  intro c hc
  unfold inB at h
  rw [hc] at h
  simpa using h
theorem op_mem {c : UInt8} : c ∈ ([42, 43, 63] : List UInt8) ↔ isOp c := by simp [isOp]
/-- The state of rep's node. -/
structure RepJ (p : ByteArray) (base g i o j : Nat) (a : Pat) (v : Value) (RB : Nat) (w : World) (k : Nat) (op rp : Bool) (wr : World) : Prop where
  ops : OpsOk (sb p) o i j k a op rp
  rd : PrAt wr base g p k o
  box : BoxAt wr w.heap.size 184 3 RB [v, .bool op, .bool rp]
  node : NodeOk wr (Bet w.heap.size RB) a v
  chg : Chg (fun k => k = g) w wr
theorem RepJ.move {p : ByteArray} {base g i o j : Nat} {a : Pat} {v : Value} {RB : Nat} {w : World} {k : Nat} {op rp : Bool} {wr w' : World} (h : RepJ p base g i o j a v RB w k op rp wr) (hb : Below wr.heap.size wr w') : RepJ p base g i o j a v RB w k op rp w' :=
  ⟨h.ops, BoxAt.below h.rd hb, h.box.below hb, h.node.move (S := fun _ => False) (Chg.of_below hb) (fun k q => q.elim) (fun k _ q => q), h.chg.trans (Chg.of_below hb)⟩
theorem RepJ.step {p : ByteArray} {base g i o j : Nat} {a : Pat} {v : Value} {RB : Nat} {w : World} {k : Nat} {op rp : Bool} {wr w' : World} {c : UInt8} (h : RepJ p base g i o j a v RB w k op rp wr) (hg : g < w.heap.size) (hc : (sb p)[k]? = some c) (ho : isOp c) (hP : PrAt w' base g p (k + 1) o) (hC : Chg (fun k => k = g) wr w') :
    RepJ p base g i o j a v RB w (k + 1) (op || c != 43) (rp || c != 63) ((w'.setCell ⟨RB, 1, none⟩ (.bool (op || c != 43))).setCell ⟨RB, 2, none⟩ (.bool (rp || c != 63))) := by
  have hr := h.box.lt.1
  have c1 := Chg.of_set w' RB 1 (.bool (op || c != 43)) (S := fun k => k = RB) rfl
  have c2 := Chg.of_set (w'.setCell ⟨RB, 1, none⟩ (.bool (op || c != 43))) RB 2 (.bool (rp || c != 63)) (S := fun k => k = RB) rfl
  have c3 := c1.trans c2
  refine ⟨h.ops.more hc ho, BoxAt.chg hP c3 (by omega), ((h.box.chg hC (by omega)).set 1 _).set 2 _, ?_, ((h.chg.trans hC).absorb c3 (fun j q => .inr (by omega)))⟩
  exact (h.node.move hC (fun k q => by subst q; exact fun z => by have := z.1; omega) (fun k _ q => q)).move c3 (fun k q => by subst q; exact fun z => by have := z.2; omega) (fun k _ q => q)

def RepC (p : ByteArray) (m : Nat) : Prop := ∀ (base g i o : Nat) (w : World), p.size - i ≤ m → i < p.size → o ≤ 20 → (∀ c, (sb p)[i]? = some c → ¬ isEnd c) → PrAt w base g p i o → Calls Try.prog 126 #[.pointer (some ⟨g, 0, none⟩)] w (NodePost p base g i o w (RepOk (sb p) o i))
set_option maxHeartbeats 8000000 in
theorem rep_of {p : ByteArray} {m : Nat} (H : AtomC p m) (hp : p.size ≤ 200) : RepC p m := by
  intro base g i o w hm hi ho he h
  have HP : Hid (PrAt w base g p i o) := h
  have hgl := h.lt.2
  clear h
  go_enter Try.func126, Try.ntmps126
  go_wp2_with fail
  refine (H base g i o w hm hi ho he HP.out).mono ?_
  rintro e w1 ⟨hC1, (⟨j, a, v, hA, rfl, hN, hP1⟩ | ⟨c, k, hc0, hk, rfl⟩)⟩
  case inr => exact ⟨rfl, hC1, .inr ⟨c, k, hc0, hk, rfl⟩⟩
  obtain ⟨T, cs, rfl⟩ := hN.iface
  have HW1 : Hid (AtomOk (sb p) o i j a ∧ NodeOk w1 (Bet w.heap.size w1.heap.size) a (.iface T (.agg cs)) ∧ PrAt w1 base g p j o ∧ Chg (fun k => k = g) w w1) := ⟨hA, hN, hP1, hC1⟩
  clear hC1 hA hN hP1 HP
  go_wp2_with fail
  refine (pnextIn_core ⟨#[42, 43, 63]⟩ HW1.out.2.2.1 hp).mono ?_
  rintro e w2 ⟨rfl, hb2⟩
  have HW2 : Hid (NodeOk w2 (Bet w.heap.size w2.heap.size) a (.iface T (.agg cs)) ∧ PrAt w2 base g p j o ∧ Chg (fun k => k = g) w w2) :=
    ⟨HW1.out.2.1.move (S := fun _ => False) (Chg.of_below hb2) (fun k q => q.elim) (fun k hk q => ⟨q.1, by have := hb2.size; omega⟩), BoxAt.below HW1.out.2.2.1 hb2, HW1.out.2.2.2.trans (Chg.of_below hb2)⟩
  have HA : Hid (AtomOk (sb p) o i j a) := HW1.out.1
  obtain ⟨q, hq⟩ : ∃ q, q = inB (sb p) j (sb ⟨#[42, 43, 63]⟩) := ⟨_, rfl⟩
  have HQ : Hid (inB (sb p) j [42, 43, 63] = q) := hq.symm
  rw [← hq]
  clear hb2 hq HW1
  cases q
  · have HR : Hid (RepOk (sb p) o i j a) := by
      have := (OpsOk.zero HA.out).rep (fun c hc hop => inB_none HQ.out c hc (op_mem.2 hop))
      rw [if_pos rfl] at this
      exact this
    go_wp2_with fail
    go_ret
    exact ⟨HW2.out.2.2, .inl ⟨j, a, _, HR.out, rfl, HW2.out.1, HW2.out.2.1⟩⟩
  have hjp : j ≤ p.size := by have := HA.out.le; rw [sb_len] at this; exact this
  obtain ⟨W3, hW3⟩ : ∃ W3 : World, W3 = w2.alloc (Obj.cells #[.iface T (.agg cs), .bool false, .bool false] 184) := ⟨_, rfl⟩
  have hs2 := HW2.out.2.2.size
  have HW3 : Hid (RepJ p base g i o j a (.iface T (.agg cs)) w2.heap.size w j false false W3) := by
    have hb : Below w2.heap.size w2 W3 := by rw [hW3]; exact (Below.refl _ _).alloc (Nat.le_refl _) _
    refine ⟨OpsOk.zero HA.out, BoxAt.below HW2.out.2.1 hb, ?_, HW2.out.1.move (S := fun _ => False) (Chg.of_below hb) (fun k q => q.elim) (fun k _ q => q), HW2.out.2.2.trans (Chg.of_below hb)⟩
    rw [hW3]; exact boxAt_new w2 _ hs2 rfl
  have HF0 : Hid (∃ c, (sb p)[j]? = some c ∧ isOp c) := by
    obtain ⟨c, h1, h2⟩ := inB_some HQ.out
    exact ⟨c, h1, op_mem.1 h2⟩
  clear HW2
  go_wp2_with fail
  rw [← hW3]
  obtain ⟨RB, hRB⟩ : ∃ RB, RB = w2.heap.size := ⟨_, rfl⟩
  rw [← hRB] at HW3
  rw [← hRB]
  have hrb : w.heap.size ≤ RB := by omega
  clear hW3 hRB hs2
  go_loopw [5] (fun sg wr => ∃ (k : Nat) (op rp : Bool), j ≤ k ∧ k ≤ p.size ∧ (k = j → ∃ c, (sb p)[j]? = some c ∧ isOp c) ∧ RepJ p base g i o j a (.iface T (.agg cs)) RB w k op rp wr) (fun _ wr => p.size - atOf wr g)
  case atStart => exact ⟨j, false, false, Nat.le_refl _, hjp, fun _ => HF0.out, HW3.out⟩
  case round =>
    obtain ⟨k, op, rp, hjk, hkp, hne, hJ⟩ := hrel
    have HJ : Hid (RepJ p base g i o j a (.iface T (.agg cs)) RB w k op rp wr ∧ (k = j → ∃ c, (sb p)[j]? = some c ∧ isOp c) ∧ atOf wr g = k) := ⟨hJ, hne, atOf_pr hJ.rd⟩
    clear hJ hne HW3
    go_wp2_with fail
    refine (pnextIn_core ⟨#[42, 43, 63]⟩ HJ.out.1.rd hp).mono ?_
    rintro e w5 ⟨rfl, hb5⟩
    have HJ5 : Hid (RepJ p base g i o j a (.iface T (.agg cs)) RB w k op rp w5) := HJ.out.1.move hb5
    obtain ⟨q, hq⟩ : ∃ q, q = inB (sb p) k (sb ⟨#[42, 43, 63]⟩) := ⟨_, rfl⟩
    have HQ5 : Hid (inB (sb p) k [42, 43, 63] = q) := hq.symm
    rw [← hq]
    clear hb5 hq
    cases q
    · have HR : Hid (RepOk (sb p) o i k (.rep a op rp)) := by
        have h1 := HJ5.out.ops.rep (fun c hc hop => inB_none HQ5.out c hc (op_mem.2 hop))
        rw [if_neg (fun q => by
          obtain ⟨c, hc, hop⟩ := HJ.out.2.1 q.symm
          rw [q] at hc
          exact inB_none HQ5.out c hc (op_mem.2 hop))] at h1
        exact h1
      have b0 := HJ5.out.box.cell (j := 0) rfl
      have b1 := HJ5.out.box.cell (j := 1) rfl
      have b2 := HJ5.out.box.cell (j := 2) rfl
      go_wp2_with fail
      go_ret
      exact ⟨HJ5.out.chg, .inl ⟨k, _, _, HR.out, rfl, nodeOk_rep (HJ5.out.node.move (S := fun _ => False) (Chg.refl _ _) (fun k q => q.elim) (fun k hk q => ⟨q.1, hk⟩)) op rp, HJ5.out.rd⟩⟩
    · obtain ⟨c, hc, hcm⟩ := inB_some HQ5.out
      have HC : Hid ((sb p)[k]? = some c ∧ isOp c) := ⟨hc, op_mem.1 hcm⟩
      have hk1 : k + 1 ≤ p.size := by have := lt_of_at hc; rw [sb_len] at this; omega
      clear hc hcm
      go_wp2_with fail
      refine (ptake_yes HJ5.out.rd hp HC.out.1).mono ?_
      rintro e w6 ⟨rfl, hP6, hC6⟩
      have HJ6 := HJ5.out.step hgl HC.out.1 HC.out.2 hP6 hC6
      have hbx := HJ5.out.box.chg hC6 (show ¬ RB = g by omega)
      have b1 := hbx.cell (j := 1) rfl
      have b2 := hbx.cell (j := 2) rfl
      have g1 := hbx.frozen 1
      have g2 := hbx.frozen 2
      have HJN : Hid (RepJ p base g i o j a (.iface T (.agg cs)) RB w (k + 1) (op || c != 43) (rp || c != 63) ((w6.setCell ⟨RB, 1, none⟩ (.bool (op || c != 43))).setCell ⟨RB, 2, none⟩ (.bool (rp || c != 63)))) := HJ6
      have HAt : Hid (atOf wr g = k) := HJ.out.2.2
      clear HJ6 hbx hP6 hC6 HJ5 HJ
      rcases HC.out.2 with rfl | rfl | rfl <;> cases op <;> cases rp
      all_goals go_wp2_with fail
      all_goals go_roundw
      all_goals first
        | exact ⟨k + 1, _, _, by omega, hk1, fun q => by omega, HJN.out⟩
        | exact Nat.lt_of_le_of_lt (Nat.le_of_eq (congrArg (p.size - ·) (atOf_pr HJN.out.rd))) (by rw [HAt.out]; omega)
end Go.Proofs.Ytnncedndlhfdkab

/-
  (*impl.patternReader).seq, over a contract of rep.
-/
namespace Go.Proofs.Ytnncedndlhfdkab
open Go.ChangeShapes Go.WideShapes Go.ChangeAt Go.RowKit Go.Deep
set_option linter.unusedVariables false
set_option linter.unusedSimpArgs false
set_option maxRecDepth 100000

/-- What seq hands back. -/
def SeqPost (p : ByteArray) (base g i o : Nat) (w : World) (e : Ending) (w' : World) : Prop :=
  Chg (fun k => k = g) w w' ∧ ((∃ (k : Nat) (ts : List Pat) (u : Value), SeqOk (sb p) o i k ts ∧ (∀ c, (sb p)[k]? = some c → isEnd c) ∧ e = .returned (.agg #[u]) ∧ SeqAt w' (Bet w.heap.size w'.heap.size) ts u ∧ PrAt w' base g p k o) ∨ (∃ (c : Int) (k : Nat), ¬ c = 0 ∧ chkM (sb p) i o false = (c, k) ∧ e = Pf c k))
def SeqC (p : ByteArray) (m : Nat) : Prop := ∀ (base g i o : Nat) (w : World), p.size - i ≤ m → i ≤ p.size → o ≤ 20 → PrAt w base g p i o → Calls Try.prog 123 #[.pointer (some ⟨g, 0, none⟩)] w (SeqPost p base g i o w)
/-- Blocks of nodes. -/
def NR (lo : Nat) (v : Value) : Nat → Prop := fun k => lo ≤ k ∧ ¬ v.ownBlock = some k
structure SeqJ (p : ByteArray) (base g i o : Nat) (w : World) (k : Nat) (ts : List Pat) (us : List Value) (v : Value) (wr : World) : Prop where
  ok : SeqOk (sb p) o i k ts
  rd : PrAt wr base g p k o
  res : BoxAt wr w.heap.size 176 1 w.heap.size [.slice none 0 0]
  box : BoxAt wr w.heap.size 176 1 (w.heap.size + 1) [v]
  row : OwnN wr (w.heap.size + 2) v us
  len : us.length = ts.length
  nodes : ∀ (i : Nat) x t, us[i]? = some x → ts[i]? = some t → NodeOk wr (NR (w.heap.size + 2) v) t x
  chg : Chg (fun k => k = g) w wr
  glt : g < w.heap.size
theorem OwnN.chg {S : Nat → Prop} {w w' : World} {base : Nat} {v : Value} {us : List Value} (h : OwnN w base v us) (hc : Chg S w w') (hn : ∀ k, v.ownBlock = some k → ¬ S k) : OwnN w' base v us := own_chg h hc hn
theorem OwnN.slice {w : World} {base : Nat} {v : Value} {us : List Value} (h : OwnN w base v us) : ∃ a cp, v = .slice a us.length cp := by
  rcases h.2 with ⟨rfl, h0⟩ | ⟨g, cap, cur, rfl, _⟩
  · exact ⟨none, 0, by rw [h0]⟩
  · exact ⟨_, _, rfl⟩
variable {p : ByteArray} {base g i o : Nat} {w : World} {k : Nat} {ts : List Pat} {us : List Value} {v : Value} {wr : World}
theorem SeqJ.move {w' : World} (h : SeqJ p base g i o w k ts us v wr) (hb : Below wr.heap.size wr w') : SeqJ p base g i o w k ts us v w' :=
  ⟨h.ok, BoxAt.below h.rd hb, h.res.below hb, h.box.below hb, h.row.chg (S := fun _ => False) (Chg.of_below hb) (fun _ _ q => q), h.len, fun i x t hx ht => (h.nodes i x t hx ht).move (S := fun _ => False) (Chg.of_below hb) (fun k q => q.elim) (fun k _ q => q), h.chg.trans (Chg.of_below hb), h.glt⟩
/-- Behind rep: one node more, not yet in the list. -/
structure SeqK (p : ByteArray) (base g i o : Nat) (w : World) (k : Nat) (ts : List Pat) (us : List Value) (v : Value) (t : Pat) (x : Value) (wr : World) : Prop where
  ok : SeqOk (sb p) o i k (ts ++ [t])
  rd : PrAt wr base g p k o
  res : BoxAt wr w.heap.size 176 1 w.heap.size [.slice none 0 0]
  box : BoxAt wr w.heap.size 176 1 (w.heap.size + 1) [v]
  row : OwnN wr (w.heap.size + 2) v us
  len : us.length = ts.length
  nodes : ∀ (i : Nat) y s, (us ++ [x])[i]? = some y → (ts ++ [t])[i]? = some s → NodeOk wr (NR (w.heap.size + 2) v) s y
  chg : Chg (fun k => k = g) w wr
  glt : g < w.heap.size
theorem SeqK.move {w' : World} {t : Pat} {x : Value} (h : SeqK p base g i o w k ts us v t x wr) (hb : Below wr.heap.size wr w') : SeqK p base g i o w k ts us v t x w' :=
  ⟨h.ok, BoxAt.below h.rd hb, h.res.below hb, h.box.below hb, h.row.chg (S := fun _ => False) (Chg.of_below hb) (fun _ _ q => q), h.len, fun i x t hx ht => (h.nodes i x t hx ht).move (S := fun _ => False) (Chg.of_below hb) (fun k q => q.elim) (fun k _ q => q), h.chg.trans (Chg.of_below hb), h.glt⟩
theorem snoc_at {α : Type} {l : List α} {a b : α} {i : Nat} (h : (l ++ [a])[i]? = some b) : l[i]? = some b ∨ (i = l.length ∧ b = a) := by
  by_cases hi : i < l.length
  · rw [List.getElem?_append_left hi] at h; exact .inl h
  · rw [List.getElem?_append_right (by omega)] at h
    have h2 := (List.getElem?_eq_some_iff.1 h).1
    simp at h2
    have : i - l.length = 0 := by omega
    rw [this] at h
    simp at h
    exact .inr ⟨by omega, h.symm⟩
theorem SeqJ.rep {w6 : World} {k6 : Nat} {t : Pat} {x : Value} (h : SeqJ p base g i o w k ts us v wr) (hC : Chg (fun k => k = g) wr w6) (hR : RepOk (sb p) o k k6 t) (hN : NodeOk w6 (Bet wr.heap.size w6.heap.size) t x) (hP : PrAt w6 base g p k6 o) : SeqK p base g i o w k6 ts us v t x w6 := by
  have hg := h.glt
  have hz := h.chg.size
  have hb1 := h.box.lt.2
  have hv : ∀ j, v.ownBlock = some j → w.heap.size + 2 ≤ j ∧ j < wr.heap.size := fun j hj => World.ownsRow.lt h.row j hj
  refine ⟨h.ok.more hR, hP, h.res.chg hC (by omega), h.box.chg hC (by omega), h.row.chg hC (fun j hj q => by have := (hv j hj).1; omega), h.len, ?_, h.chg.trans hC, hg⟩
  intro j y s hy hs
  rcases snoc_at hy with hy | ⟨hj, rfl⟩
  · rcases snoc_at hs with hs | ⟨hj, rfl⟩
    · exact (h.nodes j y s hy hs).move hC (fun q hq => by subst hq; exact fun z => by have := z.1; omega) (fun q _ z => z)
    · have := (List.getElem?_eq_some_iff.1 hy).1
      have := h.len
      omega
  · rcases snoc_at hs with hs | ⟨_, rfl⟩
    · have := (List.getElem?_eq_some_iff.1 hs).1
      have := h.len
      omega
    · refine hN.move (S := fun _ => False) (Chg.refl _ _) (fun q hq => hq.elim) (fun q _ z => ⟨?_, fun e => ?_⟩)
      · have := z.1; omega
      · have := (hv q e).2; have := z.1; omega
/-- The list grown, then its variable set. -/
theorem SeqK.push {t : Pat} {x v' : Value} {w' : World} (h : SeqK p base g i o w k ts us v t x wr) (hO : OwnN w' (w.heap.size + 2) v' (us ++ [x])) (hg : wr.grownBy w' v.ownBlock) (hat : ∀ j, v'.ownBlock = some j → v.ownBlock = some j ∨ j = wr.heap.size) :
    SeqJ p base g i o w k (ts ++ [t]) (us ++ [x]) v' (w'.setCell ⟨w.heap.size + 1, 0, none⟩ v') ∧ w'.cell? ⟨w.heap.size + 1, 0, none⟩ = some v ∧ w'.frozen? ⟨w.heap.size + 1, 0, none⟩ = false := by
  have hgl := h.glt
  have hv : ∀ j, v.ownBlock = some j → w.heap.size + 2 ≤ j ∧ j < wr.heap.size := fun j hj => World.ownsRow.lt h.row j hj
  have hv' : ∀ j, v'.ownBlock = some j → w.heap.size + 2 ≤ j ∧ j < w'.heap.size := fun j hj => World.ownsRow.lt hO j hj
  have hc : Chg (fun j => v.ownBlock = some j) wr w' := Chg.of_grown hg (fun j hj => hj)
  have hs : Chg (fun j => j = w.heap.size + 1) w' (w'.setCell ⟨w.heap.size + 1, 0, none⟩ v') := Chg.of_set w' (w.heap.size + 1) 0 _ rfl
  have hbx := h.box.chg hc (fun q => by have := (hv _ q).1; omega)
  refine ⟨⟨h.ok, ?_, ?_, hbx.set 0 _, hO.chg hs (fun j hj q => by have := (hv' j hj).1; omega), by rw [List.length_append, List.length_append, h.len]; rfl, ?_, ?_, hgl⟩, hbx.cell (j := 0) rfl, hbx.frozen 0⟩
  · exact BoxAt.chg (BoxAt.chg h.rd hc (fun q => by have := (hv _ q).1; omega)) hs (by omega)
  · exact (h.res.chg hc (fun q => by have := (hv _ q).1; omega)).chg hs (by omega)
  · intro j y s hy hs2
    have h1 := (h.nodes j y s hy hs2).move hc (fun q hq z => z.2 hq) (lo' := NR (w.heap.size + 2) v') (fun q hq z => ⟨z.1, fun e => by rcases hat q e with e | e; exact z.2 e; omega⟩)
    exact h1.move hs (fun q hq => by subst hq; exact fun z => by have := z.1; omega) (fun q _ z => z)
  · exact (h.chg.absorb hc (fun j q => .inr (by have := (hv j q).1; omega))).absorb hs (fun j q => .inr (by omega))
theorem Try.infoNodes : True := trivial
/-- One node appended, at a step of a region that draws. -/
theorem step_append_node {ops : Array Oper} {oo : Oper} {a : Act} {K : Act → World → Prop} {Q : Exit → Act → World → Prop} {E : Prop} (w : World) (hgd : oo.guard = none) (s x : Operand)
    (ho : oo.op = .call { callee := .builtin .append, args := #[s, x], argTypes := #[174, 174] })
    (base n blk : Nat) (v y : Value) (us : List Value) (hn : n = us.length) (hs : a.eval s = v) (hx : a.eval x = .slice (some ⟨blk, 0, none⟩) 1 1) (hO : OwnN w base v us)
    (hc : w.cell? ⟨blk, 0, none⟩ = some y) (hy : y.oneCell' = true) (hlen : us.length ≤ 1000) (hbase : base ≤ w.heap.size)
    (h : ∀ g' cp' w', OwnN w' base (.slice (some ⟨g', 0, none⟩) (n + 1) cp') (us ++ [y]) → w.grownBy w' v.ownBlock → (v.ownBlock = some g' ∨ g' = w.heap.size) → K (a.put oo.dst (.slice (some ⟨g', 0, none⟩) (n + 1) cp')) w') : if Region.wanted oo (yielded ops a.tmps) = true then Oper.wp Try.prog oo a w K Q else E := by
  subst hn
  obtain ⟨i, hi, hz0, hz1, hz2⟩ := info_parts Try.infoNode
  refine step_append_lies w hgd s x 174 ho base 180 i _ 1 16 Try.underlying174 hi hz0 hz1 hz2 rfl (by decide) v us.length us hs hO ⟨blk, 0, none⟩ 1 1 [y] hx rfl ?_ ?_ (by decide) ?_ ?_ hbase w.heap.size rfl ?_
  · intro j u hu
    have hj : j = 0 := by have := (List.getElem?_eq_some_iff.1 hu).1; simpa using this
    subst hj
    simp at hu
    rw [Addr.add_mid, ← hu]; exact hc
  · intro u hu
    simp at hu; subst hu; exact hy
  · unfold maxLen; omega
  · omega
  · intro g' cp' w' hO' hgr hat hlt
    refine h g' cp' w' ?_ hgr hat
    unfold OwnN
    rw [List.length_append]
    exact hO'

set_option maxHeartbeats 8000000 in
theorem seq_of {p : ByteArray} {m : Nat} (H : RepC p m) (hp : p.size ≤ 200) : SeqC p m := by
  intro base g i o w hm hi ho h
  have hgl := h.lt.2
  obtain ⟨W0, hW0⟩ : ∃ W0 : World, W0 = (w.alloc (Obj.cells #[.slice none 0 0] 176)).alloc (Obj.cells #[.slice none 0 0] 176) := ⟨_, rfl⟩
  have HJ0 : Hid (SeqJ p base g i o w i [] [] (.slice none 0 0) W0) := by
    have hb : Below w.heap.size w W0 := by rw [hW0]; exact ((Below.refl _ _).alloc (Nat.le_refl _) _).alloc (by simp) _
    have h1 : BoxAt W0 w.heap.size 176 1 w.heap.size [.slice none 0 0] := by rw [hW0]; exact BoxAt.ofHeap (vs := #[.slice none 0 0]) (heap_alloc2_old w _ _) (Nat.le_refl _) rfl
    have h2 : BoxAt W0 w.heap.size 176 1 (w.heap.size + 1) [.slice none 0 0] := by rw [hW0]; exact BoxAt.ofHeap (vs := #[.slice none 0 0]) (heap_alloc2_new w _ _) (by omega) rfl
    exact ⟨SeqOk.nil (by rw [sb_len]; exact hi), BoxAt.below h hb, h1, h2, World.ownsRow_nil .., rfl, fun i x t hx => by simp at hx, Chg.of_below hb, hgl⟩
  clear h
  go_enter Try.func123, Try.ntmps123
  go_wp2_with fail
  rw [← hW0]
  clear hW0
  go_loopw [] (fun wr => ∃ (k : Nat) (ts : List Pat) (us : List Value) (v : Value), i ≤ k ∧ k ≤ p.size ∧ us.length ≤ k ∧ SeqJ p base g i o w k ts us v wr) (fun wr => p.size - atOf wr g)
  case atStart => exact ⟨i, [], [], _, Nat.le_refl _, hi, Nat.zero_le _, HJ0.out⟩
  case round =>
    obtain ⟨k, ts, us, v, hik, hkp, hul, hJ⟩ := hrel
    have HJ : Hid (SeqJ p base g i o w k ts us v wr ∧ atOf wr g = k) := ⟨hJ, atOf_pr hJ.rd⟩
    obtain ⟨va, vc, hva⟩ := hJ.row.slice
    subst hva
    clear hJ HJ0
    have hlt := HJ.out.1.rd.lt.2
    have c0 := HJ.out.1.rd.cell (j := 0) rfl
    have c1 := HJ.out.1.rd.cell (j := 1) rfl
    have e0 : ∀ n : Out wr, n.u.cell? ⟨g, 0, none⟩ = some (.string p) := fun n => (n.out.cell (p := ⟨g, 0, none⟩) hlt).trans c0
    have e1 : ∀ n : Out wr, n.u.cell? ⟨g, 1, none⟩ = some (.int .i64 (k : Int)) := fun n => (n.out.cell (p := ⟨g, 1, none⟩) hlt).trans c1
    obtain ⟨q, hq⟩ : ∃ q, q = inB (sb p) k (sb ⟨#[42, 43, 63, 124, 41, 93]⟩) := ⟨_, rfl⟩
    have HQ : Hid (inB (sb p) k [42, 43, 63, 124, 41, 93] = q) := hq.symm
    have HI : Hid (∀ n : Out wr, Calls Try.prog 125 #[.pointer (some ⟨g, 0, none⟩), .string ⟨#[42, 43, 63, 124, 41, 93]⟩] n.u fun e w' => e = .returned (.bool q) ∧ Below n.u.heap.size n.u w') := fun n => by
      rw [hq]
      exact pnextIn_core _ (BoxAt.below HJ.out.1.rd n.out) hp
    clear c0 c1 hq
    by_cases hgo : k < p.size ∧ q = false
    · obtain ⟨hks, rfl⟩ := hgo
      have z1 : (k : Int) < (p.size : Int) := by omega
      have HNe : Hid (∀ c, (sb p)[k]? = some c → ¬ isEnd c) := fun c hc he => inB_none HQ.out c hc (by
        rcases he with (rfl | rfl | rfl) | rfl | rfl | rfl <;> simp)
      go_upto_region 2 with fail
      refine wp_region_out (by kernel_rfl) (by kernel_rfl) ?_
      repeat (go_big_quiet_step ((first | rfl | (go_at_call 125; exact Calls.out_of (HI.out _)))))
      refine wpQuiet_nil ?_
      rintro w1 ⟨⟨wx, hb1⟩, rfl⟩
      have HJ1 : Hid (SeqJ p base g i o w k ts us (.slice va us.length vc) w1) := HJ.out.1.move hb1
      have HAt : Hid (atOf wr g = k) := HJ.out.2
      have hs1 := hb1.size
      clear e0 e1 HI hb1 HJ
      have b0 := HJ1.out.box.cell (j := 0) rfl
      have hob := HJ1.out.box.lt.2
      have HRep : Hid (∀ w', Below w1.heap.size w1 w' → Calls Try.prog 126 #[.pointer (some ⟨g, 0, none⟩)] w' (NodePost p base g k o w' (RepOk (sb p) o k))) := fun w' hb => H base g k o w' (by omega) hks ho HNe.out (BoxAt.below HJ1.out.rd hb)
      go_upto_region 3 with fail
      go_region_law ((first
                | (go_simp; go_at_call 126; refine (HRep.out _ (Below.refl _ _).drew).mono ?_; rintro e' w6 ⟨hC6, (⟨k6, t, x, hR6, rfl, hN6, hP6⟩ | ⟨c6, k6, hc60, hk6, rfl⟩)⟩; (case inr => exact ⟨rfl, (HJ1.out.move (Below.refl _ _).drew).chg.trans hC6, .inr ⟨c6, k6, hc60, by rw [HJ1.out.ok.chk, hk6], rfl⟩⟩); obtain ⟨T6, cs6, rfl⟩ := hN6.iface; have HK6 : Hid (SeqK p base g i o w k6 ts us (.slice va us.length vc) t (.iface T6 (.agg cs6)) w6 ∧ RepOk (sb p) o k k6 t) := ⟨(HJ1.out.move (Below.refl _ _).drew).rep hC6 hR6 hN6 hP6, hR6⟩; have m6 := HK6.out.1.box.cell (j := 0) rfl; have m6l := HK6.out.1.box.lt.2; have m6a : ∀ o, (w6.alloc o).cell? ⟨w.heap.size + 1, 0, none⟩ = some (.slice va us.length vc) := fun o => by { rw [((Below.refl w6.heap.size w6).alloc (Nat.le_refl _) o).cell (p := ⟨w.heap.size + 1, 0, none⟩) m6l]; exact m6 }; clear hC6 hR6 hN6 hP6)
                | (refine step_append_node _ (by rfl) _ _ (by rfl) (w.heap.size + 2) us.length w6.heap.size (.slice va us.length vc) (.iface T6 (.agg cs6)) us rfl (by rfl) (by rfl) ?hO ?hc rfl ?hl ?hb ?_
                   case hO => exact (HK6.out.1.move ((Below.refl _ _).alloc (Nat.le_refl _) _)).row
                   case hc => simp
                   case hl => omega
                   case hb => have := (HK6.out.1.move ((Below.refl _ _).alloc (Nat.le_refl _) (Obj.cells #[.iface T6 (.agg cs6)] 180))).box.lt.2; omega
                   intro g7 cp7 w7 hO7 hgr7 hgg7
                   have hpp := (HK6.out.1.move ((Below.refl _ _).alloc (Nat.le_refl _) (Obj.cells #[.iface T6 (.agg cs6)] 180))).push hO7 hgr7 (fun j hj => by have hj' : g7 = j := by { simpa [Value.ownBlock] using hj }; rw [← hj']; exact hgg7)
                   have fin7 : Hid (SeqJ p base g i o w k6 (ts ++ [t]) (us ++ [.iface T6 (.agg cs6)]) (.slice (some ⟨g7, 0, none⟩) (us.length + 1) cp7) (w7.setCell ⟨w.heap.size + 1, 0, none⟩ (.slice (some ⟨g7, 0, none⟩) (us.length + 1) cp7))) := hpp.1
                   have m7 := hpp.2.1
                   have f7 := hpp.2.2
                   clear hpp hO7 hgr7 hgg7)))
      all_goals go_wp2_with fail
      all_goals go_roundw
      all_goals first
        | exact ⟨k6, ts ++ [t], us ++ [.iface T6 (.agg cs6)], _, by have := HK6.out.2.lt; omega, by have := HK6.out.2.le; rw [sb_len] at this; exact this, by have := HK6.out.2.lt; rw [List.length_append]; simp; omega, fin7.out⟩
        | (rw [HAt.out, atOf_pr fin7.out.rd]; have := HK6.out.2.lt; omega)
    · have HE : Hid (∀ c, (sb p)[k]? = some c → isEnd c) := by
        intro c hc
        have hk := lt_of_at hc
        rw [sb_len] at hk
        cases q
        · exact absurd ⟨hk, rfl⟩ hgo
        · obtain ⟨d, hd, hm⟩ := inB_some HQ.out
          rw [hc] at hd
          cases hd
          simp at hm
          rcases hm with rfl | rfl | rfl | rfl | rfl | rfl <;> simp [isEnd, isOp]
      have HX : Hid (SeqJ p base g i o w k ts us (.slice va us.length vc) wr) := HJ.out.1
      clear HQ HJ
      have fin : ∀ w1, Below wr.heap.size wr w1 → Hid (SeqJ p base g i o w k ts us (.slice va us.length vc) w1) := fun w1 hb => HX.out.move hb
      by_cases hks : k < p.size
      · have hq1 : q = true := by
          cases q
          · exact absurd ⟨hks, rfl⟩ hgo
          · rfl
        subst hq1
        have z1 : (k : Int) < (p.size : Int) := by omega
        clear hgo
        go_upto_region 2 with fail
        refine wp_region_out (by kernel_rfl) (by kernel_rfl) ?_
        repeat (go_big_quiet_step ((first | rfl | (go_at_call 125; exact Calls.out_of (HI.out _)))))
        refine wpQuiet_nil ?_
        rintro w1 ⟨⟨wx, hb1⟩, rfl⟩
        have HJ1 := fin w1 hb1
        clear e0 e1 HI hb1 fin HX
        have b0 := HJ1.out.box.cell (j := 0) rfl
        have r0 := HJ1.out.res.cell (j := 0) rfl
        have rf := HJ1.out.res.frozen 0
        go_wp2_with fail
        refine bodyPost_ret (v := .agg #[.slice va us.length vc]) (by simp [results, Try.results123, go_sem, World.cell?_setCell_same _ _ _ r0]) rfl ?_
        have hc := Chg.of_set w1 w.heap.size 0 (.slice va us.length vc) (S := fun j => j = w.heap.size) rfl
        refine ⟨HJ1.out.chg.absorb hc (fun j q => .inr (by omega)), .inl ⟨k, ts, _, HJ1.out.ok, HE.out, rfl, ?_, BoxAt.chg HJ1.out.rd hc (by omega)⟩⟩
        refine (HJ1.out.row.seq HJ1.out.len (R := fun j => w.heap.size + 2 ≤ j) (fun i x t hx ht => (HJ1.out.nodes i x t hx ht).move (S := fun _ => False) (Chg.refl _ _) (fun _ q => q.elim) (fun _ _ q => q.1)) (fun j hj => (World.ownsRow.lt HJ1.out.row j hj).1)).move hc (fun j q => by subst q; exact fun z => by omega) (fun j hj z => ⟨by omega, by have := hc.size; omega⟩)
      · have z1 : ¬ (k : Int) < (p.size : Int) := by omega
        clear hgo
        go_upto_region 2 with fail
        refine wp_region_out (by kernel_rfl) (by kernel_rfl) ?_
        repeat (go_big_quiet_step (rfl))
        refine wpQuiet_nil ?_
        rintro w1 ⟨⟨wx, hb1⟩, rfl⟩
        have HJ1 := fin w1 hb1
        clear e0 e1 HI hb1 fin HX
        have b0 := HJ1.out.box.cell (j := 0) rfl
        have r0 := HJ1.out.res.cell (j := 0) rfl
        have rf := HJ1.out.res.frozen 0
        go_wp2_with fail
        refine bodyPost_ret (v := .agg #[.slice va us.length vc]) (by simp [results, Try.results123, go_sem, World.cell?_setCell_same _ _ _ r0]) rfl ?_
        have hc := Chg.of_set w1 w.heap.size 0 (.slice va us.length vc) (S := fun j => j = w.heap.size) rfl
        refine ⟨HJ1.out.chg.absorb hc (fun j q => .inr (by omega)), .inl ⟨k, ts, _, HJ1.out.ok, HE.out, rfl, ?_, BoxAt.chg HJ1.out.rd hc (by omega)⟩⟩
        refine (HJ1.out.row.seq HJ1.out.len (R := fun j => w.heap.size + 2 ≤ j) (fun i x t hx ht => (HJ1.out.nodes i x t hx ht).move (S := fun _ => False) (Chg.refl _ _) (fun _ q => q.elim) (fun _ _ q => q.1)) (fun j hj => (World.ownsRow.lt HJ1.out.row j hj).1)).move hc (fun j q => by subst q; exact fun z => by omega) (fun j hj z => ⟨by omega, by have := hc.size; omega⟩)
end Go.Proofs.Ytnncedndlhfdkab

/-
  (*impl.patternReader).alt, over a contract of seq; all of the reader by induction.
-/
namespace Go.Proofs.Ytnncedndlhfdkab
open Go.ChangeShapes Go.WideShapes Go.ChangeAt Go.RowKit Go.Deep
set_option linter.unusedVariables false
set_option linter.unusedSimpArgs false
set_option maxRecDepth 100000

structure AltJ (p : ByteArray) (base g i o : Nat) (w : World) (k : Nat) (os : List (List Pat)) (us : List Value) (gq cp : Nat) (wr : World) : Prop where
  ok : AltOk (sb p) o i k os
  nxt : ∀ c, (sb p)[k]? = some c → isEnd c
  rd : PrAt wr base g p k o
  res : BoxAt wr w.heap.size 160 1 w.heap.size [.slice none 0 0]
  row : OwnQ wr (w.heap.size + 1) gq cp us
  len : us.length = os.length
  seqs : ∀ (i : Nat) x ts, us[i]? = some x → os[i]? = some ts → SeqAt wr (fun j => w.heap.size + 1 ≤ j ∧ ¬ j = gq) ts x
  chg : Chg (fun k => k = g) w wr
  glt : g < w.heap.size
theorem OwnQ.chg {S : Nat → Prop} {w w' : World} {base gq cp : Nat} {us : List Value} (h : OwnQ w base gq cp us) (hc : Chg S w w') (hn : ¬ S gq) : OwnQ w' base gq cp us := own_chg h hc (fun k q => by simp [Value.ownBlock] at q; subst q; exact hn)
variable {p : ByteArray} {base g i o : Nat} {w : World} {k : Nat} {os : List (List Pat)} {us : List Value} {gq cp : Nat} {wr : World}
theorem AltJ.read {w' : World} {k' : Nat} (h : AltJ p base g i o w k os us gq cp wr) (hC : Chg (fun k => k = g) wr w') (hP : PrAt w' base g p k' o) :
    BoxAt w' w.heap.size 160 1 w.heap.size [.slice none 0 0] ∧ OwnQ w' (w.heap.size + 1) gq cp us ∧ (∀ (i : Nat) x ts, us[i]? = some x → os[i]? = some ts → SeqAt w' (fun j => w.heap.size + 1 ≤ j ∧ ¬ j = gq) ts x) ∧ Chg (fun k => k = g) w w' := by
  have hg := h.glt
  have hq := h.row.lt
  exact ⟨h.res.chg hC (by omega), h.row.chg hC (by omega), fun i x ts hx ht => (h.seqs i x ts hx ht).move hC (fun q hq => by subst hq; exact fun z => by have := z.1; omega) (fun q _ z => z), h.chg.trans hC⟩
/-- One option appended to the list of options. -/
theorem wpList_append_seq {ops : Array Oper} {rest : List Oper} {oo : Oper} {a : Act} {Q : Exit → Act → World → Prop} (w : World) (hgd : oo.guard = none) (s x : Operand)
    (ho : oo.op = .call { callee := .builtin .append, args := #[s, x], argTypes := #[158, 158] })
    (base gq cp n b : Nat) (us : List Value) (y : Value) (hs : a.eval s = .slice (some ⟨gq, 0, none⟩) n cp) (hx : a.eval x = .slice (some ⟨b, 0, none⟩) 1 1) (hn : n = us.length) (hO : OwnQ w base gq cp us)
    (hc : w.cell? ⟨b, 0, none⟩ = some y) (hy : y.oneCell' = true) (hlen : us.length ≤ 1000) (hbase : base ≤ w.heap.size)
    (h : ∀ g' cp' w', OwnQ w' base g' cp' (us ++ [y]) → w.grownBy w' (some gq) → (g' = gq ∨ g' = w.heap.size) → wpList Try.prog ops Q rest (a.put oo.dst (.slice (some ⟨g', 0, none⟩) (n + 1) cp')) w') : wpList Try.prog ops Q (oo :: rest) a w := by
  subst hn
  obtain ⟨i, hi, hz0, hz1, hz2⟩ := info_parts Try.infoSeq
  refine wpList_append_own_at w hgd s x 158 ho base 176 i _ 1 24 Try.underlying158 hi hz0 hz1 hz2 rfl (by decide) (.slice (some ⟨gq, 0, none⟩) us.length cp) us.length us hs hO ⟨b, 0, none⟩ 1 1 [y] hx rfl ?_ ?_ ?_ ?_ hbase ?_
  · intro j u hu
    have hj : j = 0 := by have := (List.getElem?_eq_some_iff.1 hu).1; simpa using this
    subst hj
    simp at hu
    rw [Addr.add_mid, ← hu]; exact hc
  · intro u hu
    simp at hu; subst hu; exact hy
  · unfold maxLen; omega
  · omega
  · intro v' w' hO' hgr hnil hat
    rcases hO'.2 with ⟨h0, _⟩ | ⟨g', cap', cur, hv, _, _, hn, hcap, _, _⟩
    · have := (hnil.1 h0).1
      cases this
    · subst hv
      refine h g' cap' w' ?_ hgr ?_
      · unfold OwnQ
        rw [List.length_append]
        exact hO'
      · simp [Value.ownBlock] at hat
        exact hat
theorem SeqAt.slice {w : World} {R : Nat → Prop} {ts : List Pat} {u : Value} (h : SeqAt w R ts u) : ∃ a n cp, u = .slice a n cp := by
  obtain ⟨n, h | ⟨g, cp, us, h1, _⟩⟩ := h
  · exact ⟨_, _, _, h.2⟩
  · exact ⟨_, _, _, h1⟩

set_option maxHeartbeats 8000000 in
theorem alt_of {p : ByteArray} {m : Nat} (H : SeqC p m) (hp : p.size ≤ 200) : AltC p m := by
  intro base g i o w hm hi ho h
  have hgl := h.lt.2
  obtain ⟨W0, hW0⟩ : ∃ W0 : World, W0 = w.alloc (Obj.cells #[.slice none 0 0] 160) := ⟨_, rfl⟩
  have HW0 : Hid (PrAt W0 base g p i o ∧ BoxAt W0 w.heap.size 160 1 w.heap.size [.slice none 0 0] ∧ Chg (fun k => k = g) w W0 ∧ W0.heap.size = w.heap.size + 1) := by
    have hb : Below w.heap.size w W0 := by rw [hW0]; exact (Below.refl _ _).alloc (Nat.le_refl _) _
    refine ⟨BoxAt.below h hb, ?_, Chg.of_below hb, by rw [hW0]; simp⟩
    rw [hW0]; exact boxAt_new w _ (Nat.le_refl _) rfl
  clear h
  go_enter Try.func121, Try.ntmps121
  go_upto_region 1 with fail
  rw [← hW0]
  clear hW0
  go_wp2_with fail
  refine (H base g i o W0 hm hi ho HW0.out.1).mono ?_
  rintro e w1 ⟨hC1, (⟨k, ts, u, hS, hE, rfl, hU, hP1⟩ | ⟨c, k, hc0, hk, rfl⟩)⟩
  case inr => exact ⟨rfl, HW0.out.2.2.1.trans hC1, .inr ⟨c, k, hc0, hk, rfl⟩⟩
  obtain ⟨ua, un, uc, rfl⟩ := hU.slice
  have hkp : i ≤ k ∧ k ≤ p.size := by have h1 := hS.le; have h2 := hS.lei; rw [sb_len] at h1; exact ⟨h2, h1⟩
  obtain ⟨W2, hW2⟩ : ∃ W2 : World, W2 = w1.alloc (Obj.cells #[.slice ua un uc] 176) := ⟨_, rfl⟩
  have HJ0 : Hid (AltJ p base g i o w k [ts] [.slice ua un uc] w1.heap.size 1 W2) := by
    have hb : Below w1.heap.size w1 W2 := by rw [hW2]; exact (Below.refl _ _).alloc (Nat.le_refl _) _
    have hz := HW0.out.2.2.2
    have hs := hC1.size
    refine ⟨AltOk.one hS, hE, BoxAt.below hP1 hb, (HW0.out.2.1.chg hC1 (by omega)).below hb, ?_, rfl, ?_, (HW0.out.2.2.1.trans hC1).trans (Chg.of_below hb), hgl⟩
    · rw [hW2]
      exact World.ownsRow_lit w1 #[.slice ua un uc] 1 (by omega) (by decide) rfl
    · intro j x ss hx hss
      have hj : j = 0 := by have := (List.getElem?_eq_some_iff.1 hx).1; simpa using this
      subst hj
      simp at hx hss
      subst hx hss
      exact hU.move (S := fun _ => False) (Chg.of_below hb) (fun q hq => hq.elim) (fun q hq z => ⟨by have := z.1; omega, by omega⟩)
  clear hC1 hS hE hU hP1 HW0
  go_wp2_with fail
  rw [← hW2]
  obtain ⟨gq0, hgq0⟩ : ∃ gq0, gq0 = w1.heap.size := ⟨_, rfl⟩
  rw [← hgq0] at HJ0
  rw [← hgq0]
  clear hW2 hgq0
  go_loopw [3] (fun sv wr => ∃ (k gq cp : Nat) (os : List (List Pat)) (us : List Value), i ≤ k ∧ k ≤ p.size ∧ us.length ≤ k + 1 ∧ sv = .slice (some ⟨gq, 0, none⟩) us.length cp ∧ AltJ p base g i o w k os us gq cp wr) (fun _ wr => p.size - atOf wr g)
  case atStart => exact ⟨k, gq0, 1, [ts], [.slice ua un uc], hkp.1, hkp.2, by simp, rfl, HJ0.out⟩
  case round =>
    obtain ⟨k, gq, cp, os, us, hik, hkp, hul, rfl, hJ⟩ := hrel
    have HJ : Hid (AltJ p base g i o w k os us gq cp wr ∧ atOf wr g = k) := ⟨hJ, atOf_pr hJ.rd⟩
    clear hJ HJ0
    go_wp2_with fail
    refine (pskip_core 124 HJ.out.1.rd hp).mono ?_
    rintro e w3 ⟨hC3, (⟨hx, rfl, hP3⟩ | ⟨hx, rfl, hP3⟩)⟩
    · have hk1 : k + 1 ≤ p.size := by have := lt_of_at hx; rw [sb_len] at this; omega
      have HX : Hid ((sb p)[k]? = some 124 ∧ PrAt w3 base g p (k + 1) o ∧ BoxAt w3 w.heap.size 160 1 w.heap.size [.slice none 0 0] ∧ OwnQ w3 (w.heap.size + 1) gq cp us ∧ (∀ (i : Nat) x ts, us[i]? = some x → os[i]? = some ts → SeqAt w3 (fun j => w.heap.size + 1 ≤ j ∧ ¬ j = gq) ts x) ∧ Chg (fun k => k = g) w w3) := ⟨hx, hP3, HJ.out.1.read hC3 hP3⟩
      have HOk : Hid (AltOk (sb p) o i k os ∧ us.length = os.length ∧ atOf wr g = k) := ⟨HJ.out.1.ok, HJ.out.1.len, HJ.out.2⟩
      clear hC3 hx hP3 HJ
      go_wp2_with fail
      refine (H base g (k + 1) o w3 (by omega) hk1 ho HX.out.2.1).mono ?_
      rintro e w4 ⟨hC4, (⟨k4, ts4, u4, hS4, hE4, rfl, hU4, hP4⟩ | ⟨c, k4, hc0, hk4, rfl⟩)⟩
      case inr =>
        refine ⟨rfl, HX.out.2.2.2.2.2.trans hC4, .inr ⟨c, k4, hc0, ?_, rfl⟩⟩
        rw [HOk.out.1.chk, chk_bar HX.out.1, hk4]
      obtain ⟨ua4, un4, uc4, rfl⟩ := hU4.slice
      have hk4p : k + 1 ≤ k4 ∧ k4 ≤ p.size := by have h1 := hS4.le; have h2 := hS4.lei; rw [sb_len] at h1; exact ⟨h2, h1⟩
      obtain ⟨W5, hW5⟩ : ∃ W5 : World, W5 = w4.alloc (Obj.cells #[.slice ua4 un4 uc4] 176) := ⟨_, rfl⟩
      have HW5 : Hid (AltOk (sb p) o i k4 (os ++ [ts4]) ∧ (∀ c, (sb p)[k4]? = some c → isEnd c) ∧ PrAt W5 base g p k4 o ∧ BoxAt W5 w.heap.size 160 1 w.heap.size [.slice none 0 0] ∧ OwnQ W5 (w.heap.size + 1) gq cp us ∧ (∀ (i : Nat) x ts, (us ++ [.slice ua4 un4 uc4])[i]? = some x → (os ++ [ts4])[i]? = some ts → SeqAt W5 (fun j => w.heap.size + 1 ≤ j ∧ ¬ j = gq) ts x) ∧ Chg (fun k => k = g) w W5 ∧ W5.cell? ⟨w4.heap.size, 0, none⟩ = some (.slice ua4 un4 uc4) ∧ w.heap.size + 1 ≤ W5.heap.size) := by
        have hb : Below w4.heap.size w4 W5 := by rw [hW5]; exact (Below.refl _ _).alloc (Nat.le_refl _) _
        have hq := HX.out.2.2.2.1.lt
        have hs4 := hC4.size
        have hsb := hb.size
        have hc : Chg (fun k => k = g) w3 W5 := hC4.trans (Chg.of_below hb)
        refine ⟨AltOk.more HOk.out.1 HX.out.1 hS4, hE4, BoxAt.below hP4 hb, HX.out.2.2.1.chg hc (by omega), HX.out.2.2.2.1.chg hc (by omega), ?_, HX.out.2.2.2.2.2.trans hc, by rw [hW5]; simp, by omega⟩
        intro j y s hy hs
        rcases snoc_at hy with hy | ⟨hj, rfl⟩
        · rcases snoc_at hs with hs | ⟨hj, rfl⟩
          · exact (HX.out.2.2.2.2.1 j y s hy hs).move hc (fun q hq => by subst hq; exact fun z => by have := z.1; omega) (fun q _ z => z)
          · have := (List.getElem?_eq_some_iff.1 hy).1
            have := HOk.out.2.1
            omega
        · rcases snoc_at hs with hs | ⟨_, rfl⟩
          · have := (List.getElem?_eq_some_iff.1 hs).1
            have := HOk.out.2.1
            omega
          · exact hU4.move (S := fun _ => False) (Chg.of_below hb) (fun q hq => hq.elim) (fun q _ z => ⟨by have := z.1; omega, fun e => by have := z.1; omega⟩)
      clear hC4 hS4 hE4 hU4 hP4 HX
      go_wp2_with (at_builtin; rw [← hW5]; refine wpList_append_seq _ rfl _ _ rfl (w.heap.size + 1) gq cp us.length w4.heap.size us (.slice ua4 un4 uc4) rfl rfl rfl ?hO ?hc rfl ?hl ?hb ?_)
      case hO => exact HW5.out.2.2.2.2.1
      case hc => exact HW5.out.2.2.2.2.2.2.2.1
      case hl => omega
      case hb => exact HW5.out.2.2.2.2.2.2.2.2
      intro g6 cp6 w6 hO6 hgr6 hat6
      rw [← hW5] at hgr6
      have hz5 : W5.heap.size = w4.heap.size + 1 := by rw [hW5]; simp
      have HJ6 : Hid (AltJ p base g i o w k4 (os ++ [ts4]) (us ++ [.slice ua4 un4 uc4]) g6 cp6 w6) := by
        have hq := HW5.out.2.2.2.2.1.lt
        have hc : Chg (fun j => j = gq) W5 w6 := Chg.of_grown hgr6 (fun j hj => by cases hj; rfl)
        refine ⟨HW5.out.1, HW5.out.2.1, BoxAt.chg HW5.out.2.2.1 hc (by omega), HW5.out.2.2.2.1.chg hc (by omega), hO6, by rw [List.length_append, List.length_append, HOk.out.2.1]; rfl, ?_, HW5.out.2.2.2.2.2.2.1.absorb hc (fun j q => .inr (by omega)), hgl⟩
        intro j y s hy hs
        exact (HW5.out.2.2.2.2.2.1 j y s hy hs).move hc (fun q hq z => z.2 hq) (fun q hq z => ⟨z.1, fun e => by rcases hat6 with r | r; exact z.2 (by omega); omega⟩)
      clear hO6 hgr6 hat6 hW5 HW5
      go_wp2_with fail
      go_roundw
      case rel => exact ⟨k4, g6, cp6, os ++ [ts4], us ++ [.slice ua4 un4 uc4], by omega, hk4p.2, by rw [List.length_append]; simp; omega, by rw [List.length_append]; rfl, HJ6.out⟩
      case measure => rw [HOk.out.2.2, atOf_pr HJ6.out.rd]; omega
    · have HX : Hid (AltOk (sb p) o i k os ∧ (∀ c, (sb p)[k]? = some c → isEnd c ∧ ¬ c = 124) ∧ us.length = os.length) := ⟨HJ.out.1.ok, fun c hc => ⟨HJ.out.1.nxt c hc, fun q => by subst q; exact hx hc⟩, HJ.out.1.len⟩
      have HR := HJ.out.1.read hC3 hP3
      have HF : Hid (PrAt w3 base g p k o ∧ BoxAt w3 w.heap.size 160 1 w.heap.size [.slice none 0 0] ∧ OwnQ w3 (w.heap.size + 1) gq cp us ∧ (∀ (i : Nat) x ts, us[i]? = some x → os[i]? = some ts → SeqAt w3 (fun j => w.heap.size + 1 ≤ j ∧ ¬ j = gq) ts x) ∧ Chg (fun k => k = g) w w3) := ⟨hP3, HR⟩
      clear HR hC3 hx hP3 HJ
      have r0 := HF.out.2.1.cell (j := 0) rfl
      have rf := HF.out.2.1.frozen 0
      go_wp2_with fail
      refine bodyPost_ret (v := .agg #[.slice (some ⟨gq, 0, none⟩) us.length cp]) (by simp [results, Try.results121, go_sem, World.cell?_setCell_same _ _ _ r0]) rfl ?_
      have hc := Chg.of_set w3 w.heap.size 0 (.slice (some ⟨gq, 0, none⟩) us.length cp) (S := fun j => j = w.heap.size) rfl
      have hq := HF.out.2.2.1.lt
      refine ⟨HF.out.2.2.2.2.absorb hc (fun j q => .inr (by omega)), .inl ⟨k, os, _, HX.out.1, HX.out.2.1, rfl, ?_, BoxAt.chg HF.out.1 hc (by omega)⟩⟩
      obtain ⟨n, hn⟩ := seqs_one HX.out.2.2 (fun i x ts hx ht => (HF.out.2.2.2.1 i x ts hx ht).move (S := fun _ => False) (Chg.refl _ _) (fun _ q => q.elim) (lo' := fun j => w.heap.size + 1 ≤ j) (fun _ _ q => q.1))
      have hA : AltAt w3 (fun j => w.heap.size + 1 ≤ j) os (.slice (some ⟨gq, 0, none⟩) us.length cp) := ⟨n, gq, cp, us, by rw [HX.out.2.2], HX.out.2.2, HF.out.2.2.1.vals hq.1, hn⟩
      exact hA.move hc (fun j q => by subst q; exact fun z => by omega) (fun j hj z => ⟨by omega, by have := hc.size; omega⟩)

theorem alt_all {p : ByteArray} (hp : p.size ≤ 200) : ∀ m, AtomC p m ∧ AltC p m
  | 0 => by
    have h0 : AtomC p 0 := fun base g i o w hm hi => by omega
    exact ⟨h0, alt_of (seq_of (rep_of h0 hp) hp) hp⟩
  | m + 1 => by
    have h1 := atom_of (alt_all hp m).2 hp
    exact ⟨h1, alt_of (seq_of (rep_of h1 hp) hp) hp⟩
theorem alt_core {p : ByteArray} (hp : p.size ≤ 200) (base g i o : Nat) (w : World) (hi : i ≤ p.size) (ho : o ≤ 20) (h : PrAt w base g p i o) : Calls Try.prog 121 #[.pointer (some ⟨g, 0, none⟩)] w (AltPost p base g i o w) :=
  (alt_all hp (p.size - i)).2 base g i o w (Nat.le_refl _) hi ho h
end Go.Proofs.Ytnncedndlhfdkab

/-
  impl.placedFaultOf, impl.readPattern.
-/
namespace Go.Proofs.Ytnncedndlhfdkab
open Go.ChangeShapes Go.WideShapes Go.ChangeAt Go.RowKit Go.Deep
set_option linter.unusedVariables false
set_option linter.unusedSimpArgs false
set_option maxRecDepth 100000

theorem pf_assert (c a : Int) (w : World) : (Instr.typeAssert (pfV c a) 20 167 true).run Try.prog w = .ok (.tuple #[.agg #[.int .i64 c, .int .i64 a], .bool true]) w := by kernel_rfl
set_option maxHeartbeats 2000000 in
theorem pfOf_nil (w : World) : Calls Try.prog 120 #[.nilIface] w fun e w' => e = .returned (.agg #[.int .i64 0, .int .i64 0]) ∧ Below w.heap.size w w' := by
  go_enter Try.func120, Try.ntmps120
  go_wp2_with fail
  refine bodyPost_ret (v := .agg #[.int .i64 0, .int .i64 0]) (by simp [results, Try.results120, go_sem]) rfl ⟨rfl, ?_⟩
  exact (Below.refl _ _).alloc (Nat.le_refl _) _
set_option maxHeartbeats 2000000 in
theorem pfOf_pf (c a : Int) (w : World) : Calls Try.prog 120 #[pfV c a] w fun e w' => e = .returned (.agg #[.int .i64 c, .int .i64 a]) ∧ Below w.heap.size w w' := by
  have hta := pf_assert
  obtain ⟨W, hW⟩ : ∃ W : World, W = w.alloc (Obj.cells #[.int .i64 0, .int .i64 0] 167) := ⟨_, rfl⟩
  have HW : Hid (BoxAt W w.heap.size 167 2 w.heap.size [.int .i64 0, .int .i64 0] ∧ Below w.heap.size w W) := by
    rw [hW]; exact ⟨boxAt_new w _ (Nat.le_refl _) rfl, (Below.refl _ _).alloc (Nat.le_refl _) _⟩
  obtain ⟨W2, hW2⟩ : ∃ W2 : World, W2 = W.alloc (Obj.cells #[.int .i64 c, .int .i64 a] 167) := ⟨_, rfl⟩
  have HW2 : Hid (BoxAt W2 w.heap.size 167 2 w.heap.size [.int .i64 0, .int .i64 0] ∧ BoxAt W2 w.heap.size 167 2 W.heap.size [.int .i64 c, .int .i64 a] ∧ Below w.heap.size w W2) := by
    have hb : Below W.heap.size W W2 := by rw [hW2]; exact (Below.refl _ _).alloc (Nat.le_refl _) _
    refine ⟨HW.out.1.below hb, ?_, HW.out.2.trans (hb.mono HW.out.2.size)⟩
    rw [hW2]; exact boxAt_new W _ HW.out.2.size rfl
  go_enter Try.func120, Try.ntmps120
  go_upto_region 1 with fail
  rw [← hW]
  clear hW
  go_upto_region 7 with fail
  rw [← hW2]
  clear hW2 hta
  have b0 := HW2.out.2.1.cell (j := 0) rfl
  have b1 := HW2.out.2.1.cell (j := 1) rfl
  have r0 := HW2.out.1.cell (j := 0) rfl
  have r1 := HW2.out.1.cell (j := 1) rfl
  have f0 := HW2.out.1.frozen 0
  have f1 := HW2.out.1.frozen 1
  have hbx := (HW2.out.1.set 0 (.int .i64 c)).set 1 (.int .i64 a)
  have p0 := hbx.cell (j := 0) rfl
  have p1 := hbx.cell (j := 1) rfl
  obtain ⟨W3, hW3⟩ : ∃ W3 : World, W3 = (W2.setCell ⟨w.heap.size, 0, none⟩ (.int .i64 c)).setCell ⟨w.heap.size, 1, none⟩ (.int .i64 a) := ⟨_, rfl⟩
  rw [← hW3] at p0 p1
  have HB3 : Hid (Below w.heap.size w W3) := by
    show Below w.heap.size w W3
    rw [hW3]; exact below_set (below_set HW2.out.2.2 (Nat.le_refl _) 0 _) (Nat.le_refl _) 1 _
  clear hbx
  go_wp2_with fail
  rw [← hW3]
  refine bodyPost_ret (v := .agg #[.int .i64 c, .int .i64 a]) (by simp [results, Try.results120, go_sem, p0, p1]) rfl ⟨rfl, HB3.out⟩

set_option maxHeartbeats 4000000 in
theorem rp_catch (base rb eb : Nat) (c a : Int) (older : List PanicEntry) (w : World) (hc : ¬ c = 0) (x : Value) (hr : BoxAt w base 160 1 rb [x]) (he : BoxAt w base 122 2 eb [.int .i64 0, .int .i64 0]) (hne : ¬ rb = eb) :
    CallsD Try.prog 119 #[.pointer (some ⟨rb, 0, none⟩), .pointer (some ⟨eb, 0, none⟩)] (.panicking ({ v := pfV c a, recovered := false } :: older)) w fun e u' w' =>
      e = .returned (.tuple #[]) ∧ u' = .panicking ({ v := pfV c a, recovered := true } :: older) ∧ BoxAt w' base 160 1 rb [.slice none 0 0] ∧ BoxAt w' base 122 2 eb [.int .i64 c, .int .i64 a] ∧ Chg (fun k => k = rb ∨ k = eb) w w' := by
  refine callsD_of_wpS Try.func119 rfl fun c₀ cs hu => ?_
  apply wpS_seq
  apply wpS_region
  simp [wpOpsS, go_sem, recoverD, hu, Try.ntmps119, Exit.thenS]
  refine (pfOf_pf c a w).mono ?_
  rintro e w1 ⟨rfl, hb1⟩
  simp [wpOpsS, go_sem]
  have ht : #[Value.pointer (some ⟨rb, 0, none⟩), Value.pointer (some ⟨eb, 0, none⟩)] ++ (((Array.replicate 12 undef).setIfInBounds 1 (pfV c a)).setIfInBounds 2 (Value.agg #[Value.int IntKind.i64 c, Value.int IntKind.i64 a])).setIfInBounds 0 (Value.pointer (some ⟨w1.heap.size, 0, none⟩)) = #[.pointer (some ⟨rb, 0, none⟩), .pointer (some ⟨eb, 0, none⟩), .pointer (some ⟨w1.heap.size, 0, none⟩), pfV c a, .agg #[.int .i64 c, .int .i64 a], undef, undef, undef, undef, undef, undef, undef, undef, undef] := by rfl
  rw [ht]
  clear ht
  obtain ⟨W2, hW2⟩ : ∃ W2 : World, W2 = w1.alloc (Obj.cells #[.int .i64 c, .int .i64 a] 167) := ⟨_, rfl⟩
  have hb2 : Below w1.heap.size w1 W2 := by rw [hW2]; exact (Below.refl _ _).alloc (Nat.le_refl _) _
  have HB : Hid (BoxAt W2 base 160 1 rb [x] ∧ BoxAt W2 base 122 2 eb [.int .i64 0, .int .i64 0] ∧ Chg (fun k => k = rb ∨ k = eb) w W2) :=
    ⟨(hr.below hb1).below hb2, (he.below hb1).below hb2, (Chg.of_below hb1).trans (Chg.of_below hb2)⟩
  have d0 : W2.cell? ⟨w1.heap.size, 0, none⟩ = some (.int .i64 c) := by rw [hW2]; simp
  have d1 : W2.cell? ⟨w1.heap.size, 1, none⟩ = some (.int .i64 a) := by rw [hW2]; simp
  have hrl := (hr.below hb1).lt.2
  have hel := (he.below hb1).lt.2
  obtain ⟨FB, hFB⟩ : ∃ FB, FB = w1.heap.size := ⟨_, rfl⟩
  rw [← hW2]
  rw [← hFB] at d0 d1 ⊢
  have n1 : ¬ FB = rb := by omega
  have n2 : ¬ FB = eb := by omega
  clear hW2 hFB hb1 hb2 hr he hrl hel
  have r0 := HB.out.1.cell (j := 0) rfl
  have rf := HB.out.1.frozen 0
  have e0 := HB.out.2.1.cell (j := 0) rfl
  have e1 := HB.out.2.1.cell (j := 1) rfl
  have f0 := HB.out.2.1.frozen 0
  have f1 := HB.out.2.1.frozen 1
  have n3 : ¬ eb = rb := fun q => hne q.symm
  have HF : ∀ w' : World, Below W2.heap.size W2 w' → BoxAt (((w'.setCell ⟨rb, 0, none⟩ (.slice none 0 0)).setCell ⟨eb, 0, none⟩ (.int .i64 c)).setCell ⟨eb, 1, none⟩ (.int .i64 a)) base 160 1 rb [.slice none 0 0] ∧ BoxAt (((w'.setCell ⟨rb, 0, none⟩ (.slice none 0 0)).setCell ⟨eb, 0, none⟩ (.int .i64 c)).setCell ⟨eb, 1, none⟩ (.int .i64 a)) base 122 2 eb [.int .i64 c, .int .i64 a] ∧ Chg (fun k => k = rb ∨ k = eb) w (((w'.setCell ⟨rb, 0, none⟩ (.slice none 0 0)).setCell ⟨eb, 0, none⟩ (.int .i64 c)).setCell ⟨eb, 1, none⟩ (.int .i64 a)) := fun w' hb => by
    refine ⟨((((HB.out.1.below hb).set 0 _).beside hne 0 _).beside hne 1 _), ((((HB.out.2.1.below hb).beside n3 0 _).set 0 _).set 1 _), ((((HB.out.2.2.trans (Chg.of_below hb)).trans (Chg.of_set _ rb 0 _ (.inl rfl))).trans (Chg.of_set _ eb 0 _ (.inr rfl))).trans (Chg.of_set _ eb 1 _ (.inr rfl)))⟩
  have HFF : Hid (∀ w' : World, Below W2.heap.size W2 w' → BoxAt (((w'.setCell ⟨rb, 0, none⟩ (.slice none 0 0)).setCell ⟨eb, 0, none⟩ (.int .i64 c)).setCell ⟨eb, 1, none⟩ (.int .i64 a)) base 160 1 rb [.slice none 0 0] ∧ BoxAt (((w'.setCell ⟨rb, 0, none⟩ (.slice none 0 0)).setCell ⟨eb, 0, none⟩ (.int .i64 c)).setCell ⟨eb, 1, none⟩ (.int .i64 a)) base 122 2 eb [.int .i64 c, .int .i64 a] ∧ Chg (fun k => k = rb ∨ k = eb) w (((w'.setCell ⟨rb, 0, none⟩ (.slice none 0 0)).setCell ⟨eb, 0, none⟩ (.int .i64 c)).setCell ⟨eb, 1, none⟩ (.int .i64 a))) := HF
  clear HF
  refine wpS_of_wp ?_
  go_upto_region 2 with fail
  go_region
  all_goals go_wp2_with fail
  have hfin := HFF.out W2 (Below.refl _ _)
  have hdr : ∀ X : World, Below X.heap.size X X.drew := fun X => (Below.refl _ _).drew
  exact ⟨rfl, _, rfl, _, by simp [results, Try.results119], rfl, rfl, hfin.1.below (hdr _), hfin.2.1.below (hdr _), hfin.2.2.trans (Chg.of_below (hdr _))⟩

set_option maxHeartbeats 4000000 in
theorem rp_idle (rb eb : Nat) (w : World) :
    CallsD Try.prog 119 #[.pointer (some ⟨rb, 0, none⟩), .pointer (some ⟨eb, 0, none⟩)] .returning w fun e u' w' => e = .returned (.tuple #[]) ∧ u' = .returning ∧ Below w.heap.size w w' := by
  refine callsD_of_wpS Try.func119 rfl fun c₀ cs hu => ?_
  apply wpS_seq
  apply wpS_region
  simp [wpOpsS, go_sem, recoverD, hu, Try.ntmps119, Exit.thenS]
  refine (pfOf_nil w).mono ?_
  rintro e w1 ⟨rfl, hb1⟩
  simp [wpOpsS, go_sem]
  have ht : #[Value.pointer (some ⟨rb, 0, none⟩), Value.pointer (some ⟨eb, 0, none⟩)] ++ (((Array.replicate 12 undef).setIfInBounds 1 .nilIface).setIfInBounds 2 (Value.agg #[Value.int IntKind.i64 0, Value.int IntKind.i64 0])).setIfInBounds 0 (Value.pointer (some ⟨w1.heap.size, 0, none⟩)) = #[.pointer (some ⟨rb, 0, none⟩), .pointer (some ⟨eb, 0, none⟩), .pointer (some ⟨w1.heap.size, 0, none⟩), .nilIface, .agg #[.int .i64 0, .int .i64 0], undef, undef, undef, undef, undef, undef, undef, undef, undef] := by rfl
  rw [ht]
  clear ht
  have HB : Hid (Below w.heap.size w (w1.alloc (Obj.cells #[.int .i64 0, .int .i64 0] 167))) := hb1.trans ((Below.refl _ _).alloc hb1.size _)
  clear hb1
  refine wpS_of_wp ?_
  go_wp2_with fail
  refine ⟨rfl, .returning, ?_, _, by simp [results, Try.results119], rfl, rfl, HB.out⟩
  cases c₀
  simp_all

/-- What the check of a pattern comes to. -/
def checkM (p : List UInt8) : Int × Nat := if 200 < p.length then (1, 0) else chkM p 0 0 false
/-- What readPattern hands back. -/
def ReadPost (p : ByteArray) (w : World) (e : Ending) (w' : World) : Prop :=
  ∃ u : Value, e = .returned (.tuple #[.agg #[u], .agg #[.int .i64 (checkM (sb p)).1, .int .i64 ((checkM (sb p)).2 : Int)]]) ∧ Below w.heap.size w w' ∧
    (((checkM (sb p)).1 = 0 ∧ ∃ os, AltOk (sb p) 0 0 p.size os ∧ AltAt w' (Bet w.heap.size w'.heap.size) os u) ∨ (¬ (checkM (sb p)).1 = 0 ∧ u = .slice none 0 0))
theorem rp_res {base rb eb : Nat} {w : World} {a : Act} {u x y : Value} (hu : u.oneCell' = true) (ht : a.tmps.getD 2 undef = .pointer (some ⟨rb, 0, none⟩)) (ht2 : a.tmps.getD 3 undef = .pointer (some ⟨eb, 0, none⟩)) (hr : BoxAt w base 160 1 rb [u]) (he : BoxAt w base 122 2 eb [x, y]) :
    (results Try.f116 a.tmps).run Try.prog w = .ok (.tuple #[.agg #[u], .agg #[x, y]]) w := by
  have p0 := hr.cell (j := 0) rfl
  have q0 := he.cell (j := 0) rfl
  have q1 := he.cell (j := 1) rfl
  have h1 : a.tmps[2]?.getD undef = .pointer (some ⟨rb, 0, none⟩) := by rw [← Array.getD_eq_getD_getElem?]; exact ht
  have h2 : a.tmps[3]?.getD undef = .pointer (some ⟨eb, 0, none⟩) := by rw [← Array.getD_eq_getD_getElem?]; exact ht2
  simp [results, Try.results116, go_sem, h1, h2, p0, q0, q1]
/-- Every panic of readPattern ends in its fault. -/
theorem rp_dies (p : ByteArray) (w wq : World) (a : Act) (c : Int) (k rb eb : Nat) (x : Value) (hrb : w.heap.size ≤ rb) (heb : w.heap.size ≤ eb) (hne : ¬ rb = eb) (hd : a.defers = [{ target := Target.fn (Fn.func 119) #[.pointer (some ⟨rb, 0, none⟩), .pointer (some ⟨eb, 0, none⟩)], args := #[] }])
    (ht : a.tmps.getD 2 undef = .pointer (some ⟨rb, 0, none⟩)) (ht2 : a.tmps.getD 3 undef = .pointer (some ⟨eb, 0, none⟩)) (hM : checkM (sb p) = (c, k)) (hc : ¬ c = 0) (hr : BoxAt wq w.heap.size 160 1 rb [x]) (he : BoxAt wq w.heap.size 122 2 eb [.int .i64 0, .int .i64 0]) (hB : Below w.heap.size w wq) :
    bodyPostD Try.prog Try.f116 (fun e w' => ReadPost p w e w') (.panic [{ v := pfV c k, recovered := false }]) a wq := by
  show Leaves Try.prog Try.f116 a.tmps (fun e w' => ReadPost p w e w') a.defers (.panicking [{ v := pfV c k, recovered := false }]) wq
  rw [hd]
  refine leaves_cons (f := 119) (args := #[.pointer (some ⟨rb, 0, none⟩), .pointer (some ⟨eb, 0, none⟩)]) (by simp) (by simp [go_sem]) ?_
  refine (rp_catch w.heap.size rb eb c k [] wq hc x hr he hne).mono ?_
  rintro e u' w'' ⟨rfl, rfl, hr2, he2, hC⟩
  show Leaves Try.prog Try.f116 a.tmps (fun e w' => ReadPost p w e w') [] (settle (.panicking [{ v := pfV c k, recovered := true }])) _
  refine ⟨_, rp_res rfl ht ht2 hr2 he2, .slice none 0 0, by rw [hM], Chg.below hB hC hB.size (fun j q => by omega), .inr ⟨by rw [hM]; exact hc, rfl⟩⟩
theorem rp_done (p : ByteArray) (w wq : World) (a : Act) (rb eb : Nat) (u : Value) (os : List (List Pat)) (hu : u.oneCell' = true) (hd : a.defers = [{ target := Target.fn (Fn.func 119) #[.pointer (some ⟨rb, 0, none⟩), .pointer (some ⟨eb, 0, none⟩)], args := #[] }])
    (ht : a.tmps.getD 2 undef = .pointer (some ⟨rb, 0, none⟩)) (ht2 : a.tmps.getD 3 undef = .pointer (some ⟨eb, 0, none⟩)) (hM : checkM (sb p) = (0, 0)) (hA : AltOk (sb p) 0 0 p.size os) (hU : AltAt wq (Bet w.heap.size wq.heap.size) os u) (hr : BoxAt wq w.heap.size 160 1 rb [u]) (he : BoxAt wq w.heap.size 122 2 eb [.int .i64 0, .int .i64 0]) (hB : Below w.heap.size w wq) :
    bodyPostD Try.prog Try.f116 (fun e w' => ReadPost p w e w') .ret a wq := by
  show Leaves Try.prog Try.f116 a.tmps (fun e w' => ReadPost p w e w') a.defers .returning wq
  rw [hd]
  refine leaves_cons (f := 119) (args := #[.pointer (some ⟨rb, 0, none⟩), .pointer (some ⟨eb, 0, none⟩)]) (by simp) (by simp [go_sem]) ?_
  refine (rp_idle rb eb wq).mono ?_
  rintro e u' w'' ⟨rfl, rfl, hb⟩
  show Leaves Try.prog Try.f116 a.tmps (fun e w' => ReadPost p w e w') [] (settle .returning) w''
  refine ⟨_, rp_res hu ht ht2 (hr.below hb) (he.below hb), u, by rw [hM]; rfl, hB.trans (hb.mono hB.size), .inl ⟨by rw [hM], os, hA, hU.move (S := fun _ => False) (Chg.of_below hb) (fun q hq => hq.elim) (fun q hq z => ⟨z.1, by have := hb.size; omega⟩)⟩⟩
end Go.Proofs.Ytnncedndlhfdkab

/-
  impl.readPattern, impl.CheckRegex.
-/
namespace Go.Proofs.Ytnncedndlhfdkab
open Go.ChangeShapes Go.WideShapes Go.ChangeAt Go.RowKit Go.Deep
set_option linter.unusedVariables false
set_option linter.unusedSimpArgs false
set_option maxRecDepth 100000

set_option maxHeartbeats 4000000 in
theorem readPattern_core (p : ByteArray) (w : World) (hpm : p.size ≤ maxLen) : Calls Try.prog 116 #[.string p] w fun e w' => ReadPost p w e w' := by
  have hmf : ∀ (fn : Fn) (first cap : Array Value) (w : World), (Instr.makeFunc fn first cap).run Try.prog w = .ok (.func fn first cap) w := fun _ _ _ _ => rfl
  obtain ⟨W0, hW0⟩ : ∃ W0 : World, W0 = (w.alloc (Obj.cells #[.slice none 0 0] 160)).alloc (Obj.cells #[.int .i64 0, .int .i64 0] 122) := ⟨_, rfl⟩
  have HW0 : Hid (BoxAt W0 w.heap.size 160 1 w.heap.size [.slice none 0 0] ∧ BoxAt W0 w.heap.size 122 2 (w.heap.size + 1) [.int .i64 0, .int .i64 0] ∧ Below w.heap.size w W0 ∧ W0.heap.size = w.heap.size + 2) := by
    rw [hW0]
    refine ⟨BoxAt.ofHeap (vs := #[.slice none 0 0]) (heap_alloc2_old w _ _) (Nat.le_refl _) rfl, BoxAt.ofHeap (vs := #[.int .i64 0, .int .i64 0]) (heap_alloc2_new w _ _) (by omega) rfl, ((Below.refl _ _).alloc (Nat.le_refl _) _).alloc (by simp) _, by simp⟩
  unfold maxLen at hpm
  by_cases hp : 200 < p.size
  · have HM : Hid (checkM (sb p) = (1, 0)) := by
      show checkM (sb p) = _
      unfold checkM; rw [if_pos (by rw [sb_len]; exact hp)]
    have z : ¬ (p.size : Int) ≤ 200 := by omega
    have z2 : (200 : Int) < (p.size : Int) := by omega
    go_enter_defers Try.func116, Try.ntmps116
    go_upto_region 1 with fail
    rw [← hW0]
    clear hW0
    have r0 := HW0.out.1.cell (j := 0) rfl
    have rf := HW0.out.1.frozen 0
    have e0 := HW0.out.2.1.cell (j := 0) rfl
    have e1 := HW0.out.2.1.cell (j := 1) rfl
    have f0 := HW0.out.2.1.frozen 0
    have f1 := HW0.out.2.1.frozen 1
    obtain ⟨W1, hW1⟩ : ∃ W1 : World, W1 = ((W0.setCell ⟨w.heap.size, 0, none⟩ (.slice none 0 0)).setCell ⟨w.heap.size + 1, 0, none⟩ (.int .i64 1)).setCell ⟨w.heap.size + 1, 1, none⟩ (.int .i64 0) := ⟨_, rfl⟩
    have HW1 : Hid (BoxAt W1 w.heap.size 160 1 w.heap.size [.slice none 0 0] ∧ BoxAt W1 w.heap.size 122 2 (w.heap.size + 1) [.int .i64 1, .int .i64 0] ∧ Below w.heap.size w W1) := by
      rw [hW1]
      exact ⟨(((HW0.out.1.set 0 _).beside (by omega) 0 _).beside (by omega) 1 _), (((HW0.out.2.1.beside (by omega) 0 _).set 0 _).set 1 _), below_set (below_set (below_set HW0.out.2.2.1 (Nat.le_refl _) 0 _) (by omega) 0 _) (by omega) 1 _⟩
    go_wp2_with fail
    rw [← hW1]
    show Leaves Try.prog Try.f116 _ (fun e w' => ReadPost p w e w') [] .returning W1
    refine ⟨_, rp_res (a := { tmps := _, defers := [] }) rfl rfl rfl HW1.out.1 HW1.out.2.1, .slice none 0 0, by rw [HM.out]; rfl, HW1.out.2.2, .inr ⟨by rw [HM.out]; decide, rfl⟩⟩
  have hp2 : p.size ≤ 200 := by omega
  have HM : Hid (checkM (sb p) = chkM (sb p) 0 0 false) := by
    show checkM (sb p) = _
    unfold checkM; rw [if_neg (by rw [sb_len]; exact hp)]
  have z : (p.size : Int) ≤ 200 := by omega
  obtain ⟨W1, hW1⟩ : ∃ W1 : World, W1 = W0.alloc (Obj.cells #[.string p, .int .i64 0, .int .i64 0] 170) := ⟨_, rfl⟩
  have HW1 : Hid (BoxAt W1 w.heap.size 160 1 w.heap.size [.slice none 0 0] ∧ BoxAt W1 w.heap.size 122 2 (w.heap.size + 1) [.int .i64 0, .int .i64 0] ∧ PrAt W1 w.heap.size (w.heap.size + 2) p 0 0 ∧ Below w.heap.size w W1 ∧ W1.heap.size = w.heap.size + 3) := by
    have hb : Below W0.heap.size W0 W1 := by rw [hW1]; exact (Below.refl _ _).alloc (Nat.le_refl _) _
    have hz := HW0.out.2.2.2
    refine ⟨HW0.out.1.below hb, HW0.out.2.1.below hb, ?_, HW0.out.2.2.1.trans (hb.mono (by omega)), by rw [hW1]; simp; omega⟩
    rw [hW1, ← hz]
    exact boxAt_new W0 #[.string p, .int .i64 0, .int .i64 0] (by omega) rfl
  go_enter_defers Try.func116, Try.ntmps116
  go_upto_region 1 with fail
  rw [← hW0]
  have hz0 : W0.heap.size = w.heap.size + 2 := HW0.out.2.2.2
  clear hW0 HW0
  go_upto_region 5 with fail
  rw [← hW1]
  clear hW1 hz0
  go_wp2_with fail
  refine (alt_core hp2 w.heap.size (w.heap.size + 2) 0 0 W1 (Nat.zero_le _) (Nat.zero_le _) HW1.out.2.2.1).mono ?_
  rintro e w2 ⟨hC2, (⟨k, os, u, hA, hN, rfl, hU, hP2⟩ | ⟨c, k, hc, hk, rfl⟩)⟩
  case inr =>
    have hb2 : Below w.heap.size w w2 := Chg.below HW1.out.2.2.2.1 hC2 HW1.out.2.2.2.1.size (fun j q => by omega)
    exact rp_dies p w w2 _ c k w.heap.size (w.heap.size + 1) _ (Nat.le_refl _) (by omega) (by omega) rfl rfl rfl (by rw [HM.out, hk]) hc (HW1.out.1.chg hC2 (by omega)) (HW1.out.2.1.chg hC2 (by omega)) hb2
  obtain ⟨gu, nu, cu, rfl⟩ := hU.slice
  have hkp : k ≤ p.size := by have := hA.le; rw [sb_len] at this; exact this
  have HA : Hid (AltOk (sb p) 0 0 k os ∧ (∀ c, (sb p)[k]? = some c → isEnd c ∧ ¬ c = 124)) := ⟨hA, hN⟩
  have HW2 : Hid (BoxAt w2 w.heap.size 160 1 w.heap.size [.slice none 0 0] ∧ BoxAt w2 w.heap.size 122 2 (w.heap.size + 1) [.int .i64 0, .int .i64 0] ∧ PrAt w2 w.heap.size (w.heap.size + 2) p k 0 ∧ Below w.heap.size w w2 ∧ AltAt w2 (fun j => w.heap.size + 3 ≤ j) os (.slice (some ⟨gu, 0, none⟩) nu cu)) := by
    refine ⟨HW1.out.1.chg hC2 (by omega), HW1.out.2.1.chg hC2 (by omega), hP2, Chg.below HW1.out.2.2.2.1 hC2 HW1.out.2.2.2.1.size (fun j q => by omega), hU.move (S := fun _ => False) (Chg.refl _ _) (fun q hq => hq.elim) (fun q _ z => by have h1 := z.1; rw [HW1.out.2.2.2.2] at h1; exact h1)⟩
  clear hC2 hA hN hU hP2 HW1
  obtain ⟨W3, hW3⟩ : ∃ W3 : World, W3 = w2.setCell ⟨w.heap.size, 0, none⟩ (.slice (some ⟨gu, 0, none⟩) nu cu) := ⟨_, rfl⟩
  have HW3 : Hid (BoxAt W3 w.heap.size 160 1 w.heap.size [.slice (some ⟨gu, 0, none⟩) nu cu] ∧ BoxAt W3 w.heap.size 122 2 (w.heap.size + 1) [.int .i64 0, .int .i64 0] ∧ PrAt W3 w.heap.size (w.heap.size + 2) p k 0 ∧ Below w.heap.size w W3 ∧ AltAt W3 (fun j => w.heap.size + 3 ≤ j) os (.slice (some ⟨gu, 0, none⟩) nu cu)) := by
    have hc := Chg.of_set w2 w.heap.size 0 (.slice (some ⟨gu, 0, none⟩) nu cu) (S := fun j => j = w.heap.size) rfl
    rw [hW3]
    exact ⟨HW2.out.1.set 0 _, HW2.out.2.1.chg hc (by omega), BoxAt.chg HW2.out.2.2.1 hc (by omega), below_set HW2.out.2.2.2.1 (Nat.le_refl _) 0 _, HW2.out.2.2.2.2.move hc (fun q hq => by subst hq; exact fun z => by omega) (fun q _ z => z)⟩
  have r0 := HW2.out.1.cell (j := 0) rfl
  have rf := HW2.out.1.frozen 0
  clear HW2
  go_upto_region 6 with fail
  rw [← hW3]
  clear hW3 r0 rf
  have c1 := HW3.out.2.2.1.cell (j := 1) rfl
  by_cases hke : k = p.size
  · have zk : (k : Int) = (p.size : Int) := by omega
    have HOk : Hid (checkM (sb p) = (0, 0) ∧ AltOk (sb p) 0 0 p.size os) := by
      refine ⟨?_, by rw [← hke]; exact HA.out.1⟩
      rw [HM.out, HA.out.1.chk, chk_end (by rw [sb_len]; omega), if_neg (by omega)]
    clear HA hke
    go_wp2_with fail
    refine (pdem_core _ HW3.out.2.2.1).mono ?_
    rintro e w5 ⟨hw5, (⟨hc, rfl⟩ | ⟨hc, rfl⟩)⟩
    case inr => exfalso; (simp at hc) <;> omega
    rw [hw5]
    clear hw5 hc c1
    have r0 := HW3.out.1.cell (j := 0) rfl
    have rf := HW3.out.1.frozen 0
    have e0 := HW3.out.2.1.cell (j := 0) rfl
    have e1 := HW3.out.2.1.cell (j := 1) rfl
    have f0 := HW3.out.2.1.frozen 0
    have f1 := HW3.out.2.1.frozen 1
    obtain ⟨W6, hW6⟩ : ∃ W6 : World, W6 = ((W3.setCell ⟨w.heap.size, 0, none⟩ (.slice (some ⟨gu, 0, none⟩) nu cu)).setCell ⟨w.heap.size + 1, 0, none⟩ (.int .i64 0)).setCell ⟨w.heap.size + 1, 1, none⟩ (.int .i64 0) := ⟨_, rfl⟩
    have HW6 : Hid (BoxAt W6 w.heap.size 160 1 w.heap.size [.slice (some ⟨gu, 0, none⟩) nu cu] ∧ BoxAt W6 w.heap.size 122 2 (w.heap.size + 1) [.int .i64 0, .int .i64 0] ∧ Below w.heap.size w W6 ∧ AltAt W6 (Bet w.heap.size W6.heap.size) os (.slice (some ⟨gu, 0, none⟩) nu cu)) := by
      have c1 := Chg.of_set W3 w.heap.size 0 (.slice (some ⟨gu, 0, none⟩) nu cu) (S := fun j => j = w.heap.size ∨ j = w.heap.size + 1) (.inl rfl)
      have c2 := c1.trans (Chg.of_set _ (w.heap.size + 1) 0 (.int .i64 0) (S := fun j => j = w.heap.size ∨ j = w.heap.size + 1) (.inr rfl))
      have c3 := c2.trans (Chg.of_set _ (w.heap.size + 1) 1 (.int .i64 0) (S := fun j => j = w.heap.size ∨ j = w.heap.size + 1) (.inr rfl))
      rw [hW6]
      exact ⟨(((HW3.out.1.set 0 _).beside (by omega) 0 _).beside (by omega) 1 _), (((HW3.out.2.1.beside (by omega) 0 _).set 0 _).set 1 _), below_set (below_set (below_set HW3.out.2.2.2.1 (Nat.le_refl _) 0 _) (by omega) 0 _) (by omega) 1 _, HW3.out.2.2.2.2.move c3 (fun q hq => fun z => by omega) (fun q hq z => ⟨by omega, by have := c3.size; omega⟩)⟩
    go_wp2_with fail
    rw [← hW6]
    exact rp_done p w W6 _ w.heap.size (w.heap.size + 1) _ os rfl rfl rfl rfl HOk.out.1 HOk.out.2 HW6.out.2.2.2 HW6.out.1 HW6.out.2.1 HW6.out.2.2.1
  · have zk : ¬ (k : Int) = (p.size : Int) := by omega
    have HOk : Hid (checkM (sb p) = (2, k)) := by
      show checkM (sb p) = _
      obtain ⟨c, hc⟩ : ∃ c, (sb p)[k]? = some c := ⟨_, List.getElem?_eq_getElem (by rw [sb_len]; omega)⟩
      obtain ⟨h1, h2⟩ := HA.out.2 c hc
      rw [HM.out, HA.out.1.chk]
      rcases h1 with h1 | h1 | h1 | h1
      · rw [chk_op hc h1]; rfl
      · exact absurd h1 h2
      · subst h1; rw [chk_close hc, if_pos rfl]
      · subst h1; rw [chk_rb hc]
    clear HA hke
    go_wp2_with fail
    refine (pdem_core _ HW3.out.2.2.1).mono ?_
    rintro e w5 ⟨hw5, (⟨hc, rfl⟩ | ⟨hc, rfl⟩)⟩
    · exfalso; (simp at hc) <;> omega
    rw [hw5]
    exact rp_dies p w W3 _ 2 k w.heap.size (w.heap.size + 1) _ (Nat.le_refl _) (by omega) (by omega) rfl rfl rfl HOk.out (by decide) HW3.out.1 HW3.out.2.1 HW3.out.2.2.2.1

set_option maxHeartbeats 2000000 in
theorem implCheck_core (p : ByteArray) (w : World) (hpm : p.size ≤ maxLen) : Calls Try.prog 106 #[.string p] w fun e w' => e = .returned (.agg #[.int .i64 (checkM (sb p)).1, .int .i64 ((checkM (sb p)).2 : Int)]) ∧ Below w.heap.size w w' := by
  obtain ⟨W0, hW0⟩ : ∃ W0 : World, W0 = w.alloc (Obj.cells #[.int .i64 0, .int .i64 0] 122) := ⟨_, rfl⟩
  have HW0 : Hid (BoxAt W0 w.heap.size 122 2 w.heap.size [.int .i64 0, .int .i64 0] ∧ Below w.heap.size w W0) := by
    rw [hW0]; exact ⟨boxAt_new w _ (Nat.le_refl _) rfl, (Below.refl _ _).alloc (Nat.le_refl _) _⟩
  obtain ⟨c, hc⟩ : ∃ c, c = (checkM (sb p)).1 := ⟨_, rfl⟩
  obtain ⟨k, hk⟩ : ∃ k, k = (checkM (sb p)).2 := ⟨_, rfl⟩
  rw [← hc, ← hk]
  go_enter Try.func106, Try.ntmps106
  go_upto_region 1 with fail
  rw [← hW0]
  clear hW0
  go_wp2_with fail
  refine (readPattern_core p W0 hpm).mono ?_
  rintro e w1 ⟨u, rfl, hb1, hu⟩
  rw [← hc, ← hk]
  obtain ⟨ua, un, uc, rfl⟩ : ∃ a n cp, u = .slice a n cp := by
    rcases hu with ⟨_, os, _, hU⟩ | ⟨_, rfl⟩
    · obtain ⟨g, n, cp, rfl⟩ := hU.slice; exact ⟨_, _, _, rfl⟩
    · exact ⟨_, _, _, rfl⟩
  clear hu hc hk
  obtain ⟨W2, hW2⟩ : ∃ W2 : World, W2 = (w1.alloc (Obj.cells #[.slice ua un uc] 160)).alloc (Obj.cells #[.int .i64 c, .int .i64 (k : Int)] 122) := ⟨_, rfl⟩
  have HW2 : Hid (BoxAt W2 w.heap.size 122 2 w.heap.size [.int .i64 0, .int .i64 0] ∧ BoxAt W2 w.heap.size 122 2 (w1.heap.size + 1) [.int .i64 c, .int .i64 (k : Int)] ∧ Below w.heap.size w W2) := by
    have hb2 : Below w1.heap.size w1 W2 := by rw [hW2]; exact ((Below.refl _ _).alloc (Nat.le_refl _) _).alloc (by simp) _
    have h1 := HW0.out.2.size
    have h2 := hb1.size
    refine ⟨(HW0.out.1.below hb1).below hb2, ?_, (HW0.out.2.trans (hb1.mono h1)).trans (hb2.mono (by omega))⟩
    rw [hW2]
    exact BoxAt.ofHeap (vs := #[.int .i64 c, .int .i64 (k : Int)]) (heap_alloc2_new w1 _ _) (by omega) rfl
  clear hb1 HW0
  go_upto_region 2 with fail
  rw [← hW2]
  clear hW2
  have b0 := HW2.out.2.1.cell (j := 0) rfl
  have b1 := HW2.out.2.1.cell (j := 1) rfl
  have r0 := HW2.out.1.cell (j := 0) rfl
  have r1 := HW2.out.1.cell (j := 1) rfl
  have f0 := HW2.out.1.frozen 0
  have f1 := HW2.out.1.frozen 1
  have hbx := (HW2.out.1.set 0 (.int .i64 c)).set 1 (.int .i64 (k : Int))
  have p0 := hbx.cell (j := 0) rfl
  have p1 := hbx.cell (j := 1) rfl
  have HB3 : Hid (Below w.heap.size w ((W2.setCell ⟨w.heap.size, 0, none⟩ (.int .i64 c)).setCell ⟨w.heap.size, 1, none⟩ (.int .i64 (k : Int)))) := below_set (below_set HW2.out.2.2 (Nat.le_refl _) 0 _) (Nat.le_refl _) 1 _
  obtain ⟨W3, hW3⟩ : ∃ W3 : World, W3 = (W2.setCell ⟨w.heap.size, 0, none⟩ (.int .i64 c)).setCell ⟨w.heap.size, 1, none⟩ (.int .i64 (k : Int)) := ⟨_, rfl⟩
  rw [← hW3] at p0 p1 HB3
  clear hbx
  go_wp2_with fail
  rw [← hW3]
  refine bodyPost_ret (v := .agg #[.int .i64 c, .int .i64 (k : Int)]) (by simp [results, Try.results106, go_sem, p0, p1]) rfl ⟨rfl, HB3.out⟩
end Go.Proofs.Ytnncedndlhfdkab

/-
  Single nodes: impl.validNode, spec.l5GoodNode.
-/
namespace Go.Proofs.Ytnncedndlhfdkab
open Go.ChangeShapes Go.WideShapes Go.ChangeAt Go.RowKit Go.Deep
set_option linter.unusedVariables false
set_option linter.unusedSimpArgs false
set_option maxRecDepth 100000

abbrev less (a b : ByteArray) : Prop := Op.bytesLess a.toList b.toList = true
theorem ndEq_run (k : Int) (s : ByteArray) (h : Bool) (t : ByteArray) (l u n k' : Int) (s' : ByteArray) (h' : Bool) (t' : ByteArray) (l' u' n' : Int) (wx : World) :
    (binOp .eql 98 (.agg #[.int .i64 k, .string s, .bool h, .string t, .int .u64 l, .int .u64 u, .int .i64 n]) (.agg #[.int .i64 k', .string s', .bool h', .string t', .int .u64 l', .int .u64 u', .int .i64 n'])).run Try.prog wx = .ok (.bool (decide (k = k' ∧ s.toList = s'.toList ∧ h = h' ∧ t.toList = t'.toList ∧ l = l' ∧ u = u' ∧ n = n'))) wx := by
  go_simp
  repeat' split
  all_goals simp_all
set_option maxHeartbeats 1000000 in
theorem bareS_core (e : Nd) (w : World) : Calls Try.prog 79 #[e.v, .bool true, .bool false, .bool false, .bool false, .bool false] w fun r w' => ∃ b, r = .returned (.bool b) ∧ (b = true ↔ e.hi = false ∧ e.t.toList = [] ∧ e.lo = 0 ∧ e.up = 0 ∧ e.n = 0) ∧ Below w.heap.size w w' := by
  go_enter Try.func79, Try.ntmps79
  go_wp2_with fail
  all_goals go_ret
  all_goals exact ⟨_, rfl, by simp_all, (Below.refl _ _).alloc (Nat.le_refl _) _⟩
set_option maxHeartbeats 1000000 in
theorem bareST_core (e : Nd) (w : World) : Calls Try.prog 79 #[e.v, .bool true, .bool true, .bool true, .bool false, .bool false] w fun r w' => ∃ b, r = .returned (.bool b) ∧ (b = true ↔ e.lo = 0 ∧ e.up = 0 ∧ e.n = 0) ∧ Below w.heap.size w w' := by
  go_enter Try.func79, Try.ntmps79
  go_wp2_with fail
  all_goals go_ret
  all_goals exact ⟨_, rfl, by simp_all, (Below.refl _ _).alloc (Nat.le_refl _) _⟩
set_option maxHeartbeats 1000000 in
theorem bareN_core (e : Nd) (w : World) : Calls Try.prog 79 #[e.v, .bool false, .bool true, .bool false, .bool true, .bool false] w fun r w' => ∃ b, r = .returned (.bool b) ∧ (b = true ↔ e.s.toList = [] ∧ e.t.toList = [] ∧ e.n = 0) ∧ Below w.heap.size w w' := by
  go_enter Try.func79, Try.ntmps79
  go_wp2_with fail
  all_goals go_ret
  all_goals exact ⟨_, rfl, by simp_all, (Below.refl _ _).alloc (Nat.le_refl _) _⟩
set_option maxHeartbeats 1000000 in
theorem bareC_core (e : Nd) (w : World) : Calls Try.prog 79 #[e.v, .bool false, .bool false, .bool false, .bool false, .bool true] w fun r w' => ∃ b, r = .returned (.bool b) ∧ (b = true ↔ e.s.toList = [] ∧ e.hi = false ∧ e.t.toList = [] ∧ e.lo = 0 ∧ e.up = 0) ∧ Below w.heap.size w w' := by
  go_enter Try.func79, Try.ntmps79
  go_wp2_with fail
  all_goals go_ret
  all_goals exact ⟨_, rfl, by simp_all, (Below.refl _ _).alloc (Nat.le_refl _) _⟩
set_option maxHeartbeats 1000000 in
theorem bareZ_core (e : Nd) (w : World) : Calls Try.prog 79 #[e.v, .bool false, .bool false, .bool false, .bool false, .bool false] w fun r w' => ∃ b, r = .returned (.bool b) ∧ (b = true ↔ e.s.toList = [] ∧ e.hi = false ∧ e.t.toList = [] ∧ e.lo = 0 ∧ e.up = 0 ∧ e.n = 0) ∧ Below w.heap.size w w' := by
  go_enter Try.func79, Try.ntmps79
  go_wp2_with fail
  all_goals go_ret
  all_goals exact ⟨_, rfl, by simp_all, (Below.refl _ _).alloc (Nat.le_refl _) _⟩
set_option maxHeartbeats 1000000 in
theorem ends_core (e : Nd) (w : World) : Calls Try.prog 107 #[e.v] w fun r w' => ∃ b, r = .returned (.bool b) ∧ (b = true ↔ ((e.hi = false ∧ e.t.toList = [] ∧ e.up = 0) ∨ (e.hi = true ∧ (less e.s e.t ∨ e.lo < e.up)))) ∧ Below w.heap.size w w' := by
  go_enter Try.func107, Try.ntmps107
  go_wp2_with fail
  all_goals go_ret
  all_goals exact ⟨_, rfl, by simp_all [less], (Below.refl _ _).alloc (Nat.le_refl _) _⟩
/-- What makes a node valid. -/
def GoodN (e : Nd) : Prop := e.s.size ≤ 200 ∧ e.t.size ≤ 200 ∧ (e.hi = false → e.t.toList = [] ∧ e.up = 0) ∧
  (((e.kind = 4 ∨ e.kind = 5 ∨ e.kind = 6 ∨ e.kind = 7) ∧ (e.hi = false ∧ e.t.toList = [] ∧ e.lo = 0 ∧ e.up = 0 ∧ e.n = 0) ∧ (checkM (sb e.s)).1 = 0) ∨
   ((e.kind = 8 ∨ e.kind = 9) ∧ (e.lo = 0 ∧ e.up = 0 ∧ e.n = 0) ∧ (e.hi = true → less e.s e.t)) ∨
   (e.kind = 10 ∧ (e.s.toList = [] ∧ e.t.toList = [] ∧ e.n = 0) ∧ (e.hi = true → e.lo < e.up)) ∨
   ((e.kind = 11 ∨ e.kind = 12 ∨ e.kind = 13) ∧ (e.s.toList = [] ∧ e.hi = false ∧ e.t.toList = [] ∧ e.lo = 0 ∧ e.up = 0) ∧ 1 ≤ e.n ∧ e.n ≤ 1000) ∨
   ((e.kind = 1 ∨ e.kind = 2 ∨ e.kind = 3 ∨ e.kind = 14 ∨ e.kind = 15 ∨ e.kind = 16) ∧ (e.s.toList = [] ∧ e.hi = false ∧ e.t.toList = [] ∧ e.lo = 0 ∧ e.up = 0 ∧ e.n = 0)))
end Go.Proofs.Ytnncedndlhfdkab

