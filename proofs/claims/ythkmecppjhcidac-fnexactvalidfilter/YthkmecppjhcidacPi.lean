/-
  (*impl.patternReader).seq, over a contract of rep.
-/
import Derived.Test.YthkmecppjhcidacPh
import Derived.Deep.RegionLaw
import Derived.Deep.AppendLies
namespace Go.Proofs.Ythkmecppjhcidac
open Go.ChangeShapes Go.WideShapes Go.ChangeAt Go.RowKit Go.Deep
set_option linter.unusedVariables false
set_option linter.unusedSimpArgs false
set_option maxRecDepth 100000

/-- What seq hands back. -/
def SeqPost (p : ByteArray) (base g i o : Nat) (w : World) (e : Ending) (w' : World) : Prop :=
  Chg (fun k => k = g) w w' ∧ ((∃ (k : Nat) (ts : List Pat) (u : Value), SeqOk (sb p) o i k ts ∧ (∀ c, (sb p)[k]? = some c → isEnd c) ∧ e = .returned (.agg #[u]) ∧ SeqAt w' (Bet w.heap.size w'.heap.size) ts u ∧ PrAt w' base g p k o) ∨ (∃ (c : Int) (k : Nat), ¬ c = 0 ∧ chkM (sb p) i o false = (c, k) ∧ e = Pf c k))
def SeqC (p : ByteArray) (m : Nat) : Prop := ∀ (base g i o : Nat) (w : World), p.size - i ≤ m → i ≤ p.size → o ≤ 20 → PrAt w base g p i o → Calls Try.prog 129 #[.pointer (some ⟨g, 0, none⟩)] w (SeqPost p base g i o w)
/-- Blocks of nodes. -/
def NR (lo : Nat) (v : Value) : Nat → Prop := fun k => lo ≤ k ∧ ¬ v.ownBlock = some k
structure SeqJ (p : ByteArray) (base g i o : Nat) (w : World) (k : Nat) (ts : List Pat) (us : List Value) (v : Value) (wr : World) : Prop where
  ok : SeqOk (sb p) o i k ts
  rd : PrAt wr base g p k o
  res : BoxAt wr w.heap.size 184 1 w.heap.size [.slice none 0 0]
  box : BoxAt wr w.heap.size 184 1 (w.heap.size + 1) [v]
  row : OwnN wr (w.heap.size + 2) v us
  len : us.length = ts.length
  nodes : ∀ (i : Nat) x t, us[i]? = some x → ts[i]? = some t → NodeOk wr (NR (w.heap.size + 2) v) t x
  chg : Chg (fun k => k = g) w wr
  glt : g < w.heap.size
theorem OwnN.chg {S : Nat → Prop} {w w' : World} {base : Nat} {v : Value} {us : List Value} (h : OwnN w base v us) (hc : Chg S w w') (hn : ∀ k, v.ownBlock = some k → ¬ S k) : OwnN w' base v us := own_chg h hc hn
theorem OwnN.slice {w : World} {base : Nat} {v : Value} {us : List Value} (h : OwnN w base v us) : ∃ a cp, v = .slice a us.length cp := by
  rcases h.2 with ⟨rfl, h0⟩ | ⟨g, cap, cur, rfl, _⟩
  · exact ⟨none, 0, by rw [h0]⟩
  · exact ⟨_, _, rfl⟩
variable {p : ByteArray} {base g i o : Nat} {w : World} {k : Nat} {ts : List Pat} {us : List Value} {v : Value} {wr : World}
theorem SeqJ.move {w' : World} (h : SeqJ p base g i o w k ts us v wr) (hb : Below wr.heap.size wr w') : SeqJ p base g i o w k ts us v w' :=
  ⟨h.ok, BoxAt.below h.rd hb, h.res.below hb, h.box.below hb, h.row.chg (S := fun _ => False) (Chg.of_below hb) (fun _ _ q => q), h.len, fun i x t hx ht => (h.nodes i x t hx ht).move (S := fun _ => False) (Chg.of_below hb) (fun k q => q.elim) (fun k _ q => q), h.chg.trans (Chg.of_below hb), h.glt⟩
/-- Behind rep: one node more, not yet in the list. -/
structure SeqK (p : ByteArray) (base g i o : Nat) (w : World) (k : Nat) (ts : List Pat) (us : List Value) (v : Value) (t : Pat) (x : Value) (wr : World) : Prop where
  ok : SeqOk (sb p) o i k (ts ++ [t])
  rd : PrAt wr base g p k o
  res : BoxAt wr w.heap.size 184 1 w.heap.size [.slice none 0 0]
  box : BoxAt wr w.heap.size 184 1 (w.heap.size + 1) [v]
  row : OwnN wr (w.heap.size + 2) v us
  len : us.length = ts.length
  nodes : ∀ (i : Nat) y s, (us ++ [x])[i]? = some y → (ts ++ [t])[i]? = some s → NodeOk wr (NR (w.heap.size + 2) v) s y
  chg : Chg (fun k => k = g) w wr
  glt : g < w.heap.size
theorem SeqK.move {w' : World} {t : Pat} {x : Value} (h : SeqK p base g i o w k ts us v t x wr) (hb : Below wr.heap.size wr w') : SeqK p base g i o w k ts us v t x w' :=
  ⟨h.ok, BoxAt.below h.rd hb, h.res.below hb, h.box.below hb, h.row.chg (S := fun _ => False) (Chg.of_below hb) (fun _ _ q => q), h.len, fun i x t hx ht => (h.nodes i x t hx ht).move (S := fun _ => False) (Chg.of_below hb) (fun k q => q.elim) (fun k _ q => q), h.chg.trans (Chg.of_below hb), h.glt⟩
theorem snoc_at {α : Type} {l : List α} {a b : α} {i : Nat} (h : (l ++ [a])[i]? = some b) : l[i]? = some b ∨ (i = l.length ∧ b = a) := by
  by_cases hi : i < l.length
  · rw [List.getElem?_append_left hi] at h; exact .inl h
  · rw [List.getElem?_append_right (by omega)] at h
    have h2 := (List.getElem?_eq_some_iff.1 h).1
    simp at h2
    have : i - l.length = 0 := by omega
    rw [this] at h
    simp at h
    exact .inr ⟨by omega, h.symm⟩
theorem SeqJ.rep {w6 : World} {k6 : Nat} {t : Pat} {x : Value} (h : SeqJ p base g i o w k ts us v wr) (hC : Chg (fun k => k = g) wr w6) (hR : RepOk (sb p) o k k6 t) (hN : NodeOk w6 (Bet wr.heap.size w6.heap.size) t x) (hP : PrAt w6 base g p k6 o) : SeqK p base g i o w k6 ts us v t x w6 := by
  have hg := h.glt
  have hz := h.chg.size
  have hb1 := h.box.lt.2
  have hv : ∀ j, v.ownBlock = some j → w.heap.size + 2 ≤ j ∧ j < wr.heap.size := fun j hj => World.ownsRow.lt h.row j hj
  refine ⟨h.ok.more hR, hP, h.res.chg hC (by omega), h.box.chg hC (by omega), h.row.chg hC (fun j hj q => by have := (hv j hj).1; omega), h.len, ?_, h.chg.trans hC, hg⟩
  intro j y s hy hs
  rcases snoc_at hy with hy | ⟨hj, rfl⟩
  · rcases snoc_at hs with hs | ⟨hj, rfl⟩
    · exact (h.nodes j y s hy hs).move hC (fun q hq => by subst hq; exact fun z => by have := z.1; omega) (fun q _ z => z)
    · have := (List.getElem?_eq_some_iff.1 hy).1
      have := h.len
      omega
  · rcases snoc_at hs with hs | ⟨_, rfl⟩
    · have := (List.getElem?_eq_some_iff.1 hs).1
      have := h.len
      omega
    · refine hN.move (S := fun _ => False) (Chg.refl _ _) (fun q hq => hq.elim) (fun q _ z => ⟨?_, fun e => ?_⟩)
      · have := z.1; omega
      · have := (hv q e).2; have := z.1; omega
/-- The list grown, then its variable set. -/
theorem SeqK.push {t : Pat} {x v' : Value} {w' : World} (h : SeqK p base g i o w k ts us v t x wr) (hO : OwnN w' (w.heap.size + 2) v' (us ++ [x])) (hg : wr.grownBy w' v.ownBlock) (hat : ∀ j, v'.ownBlock = some j → v.ownBlock = some j ∨ j = wr.heap.size) :
    SeqJ p base g i o w k (ts ++ [t]) (us ++ [x]) v' (w'.setCell ⟨w.heap.size + 1, 0, none⟩ v') ∧ w'.cell? ⟨w.heap.size + 1, 0, none⟩ = some v ∧ w'.frozen? ⟨w.heap.size + 1, 0, none⟩ = false := by
  have hgl := h.glt
  have hv : ∀ j, v.ownBlock = some j → w.heap.size + 2 ≤ j ∧ j < wr.heap.size := fun j hj => World.ownsRow.lt h.row j hj
  have hv' : ∀ j, v'.ownBlock = some j → w.heap.size + 2 ≤ j ∧ j < w'.heap.size := fun j hj => World.ownsRow.lt hO j hj
  have hc : Chg (fun j => v.ownBlock = some j) wr w' := Chg.of_grown hg (fun j hj => hj)
  have hs : Chg (fun j => j = w.heap.size + 1) w' (w'.setCell ⟨w.heap.size + 1, 0, none⟩ v') := Chg.of_set w' (w.heap.size + 1) 0 _ rfl
  have hbx := h.box.chg hc (fun q => by have := (hv _ q).1; omega)
  refine ⟨⟨h.ok, ?_, ?_, hbx.set 0 _, hO.chg hs (fun j hj q => by have := (hv' j hj).1; omega), by rw [List.length_append, List.length_append, h.len]; rfl, ?_, ?_, hgl⟩, hbx.cell (j := 0) rfl, hbx.frozen 0⟩
  · exact BoxAt.chg (BoxAt.chg h.rd hc (fun q => by have := (hv _ q).1; omega)) hs (by omega)
  · exact (h.res.chg hc (fun q => by have := (hv _ q).1; omega)).chg hs (by omega)
  · intro j y s hy hs2
    have h1 := (h.nodes j y s hy hs2).move hc (fun q hq z => z.2 hq) (lo' := NR (w.heap.size + 2) v') (fun q hq z => ⟨z.1, fun e => by rcases hat q e with e | e; exact z.2 e; omega⟩)
    exact h1.move hs (fun q hq => by subst hq; exact fun z => by have := z.1; omega) (fun q _ z => z)
  · exact (h.chg.absorb hc (fun j q => .inr (by have := (hv j q).1; omega))).absorb hs (fun j q => .inr (by omega))
theorem Try.infoNodes : True := trivial
/-- One node appended, at a step of a region that draws. -/
theorem step_append_node {ops : Array Oper} {oo : Oper} {a : Act} {K : Act → World → Prop} {Q : Exit → Act → World → Prop} {E : Prop} (w : World) (hgd : oo.guard = none) (s x : Operand)
    (ho : oo.op = .call { callee := .builtin .append, args := #[s, x], argTypes := #[182, 182] })
    (base n blk : Nat) (v y : Value) (us : List Value) (hn : n = us.length) (hs : a.eval s = v) (hx : a.eval x = .slice (some ⟨blk, 0, none⟩) 1 1) (hO : OwnN w base v us)
    (hc : w.cell? ⟨blk, 0, none⟩ = some y) (hy : y.oneCell' = true) (hlen : us.length ≤ 1000) (hbase : base ≤ w.heap.size)
    (h : ∀ g' cp' w', OwnN w' base (.slice (some ⟨g', 0, none⟩) (n + 1) cp') (us ++ [y]) → w.grownBy w' v.ownBlock → (v.ownBlock = some g' ∨ g' = w.heap.size) → K (a.put oo.dst (.slice (some ⟨g', 0, none⟩) (n + 1) cp')) w') : if Region.wanted oo (yielded ops a.tmps) = true then Oper.wp Try.prog oo a w K Q else E := by
  subst hn
  obtain ⟨i, hi, hz0, hz1, hz2⟩ := info_parts Try.infoNode
  refine step_append_lies w hgd s x 182 ho base 188 i _ 1 16 Try.underlying182 hi hz0 hz1 hz2 rfl (by decide) v us.length us hs hO ⟨blk, 0, none⟩ 1 1 [y] hx rfl ?_ ?_ (by decide) ?_ ?_ hbase w.heap.size rfl ?_
  · intro j u hu
    have hj : j = 0 := by have := (List.getElem?_eq_some_iff.1 hu).1; simpa using this
    subst hj
    simp at hu
    rw [Addr.add_mid, ← hu]; exact hc
  · intro u hu
    simp at hu; subst hu; exact hy
  · unfold maxLen; omega
  · omega
  · intro g' cp' w' hO' hgr hat hlt
    refine h g' cp' w' ?_ hgr hat
    unfold OwnN
    rw [List.length_append]
    exact hO'

set_option maxHeartbeats 8000000 in
theorem seq_of {p : ByteArray} {m : Nat} (H : RepC p m) (hp : p.size ≤ 200) : SeqC p m := by
  intro base g i o w hm hi ho h
  have hgl := h.lt.2
  obtain ⟨W0, hW0⟩ : ∃ W0 : World, W0 = (w.alloc (Obj.cells #[.slice none 0 0] 184)).alloc (Obj.cells #[.slice none 0 0] 184) := ⟨_, rfl⟩
  have HJ0 : Hid (SeqJ p base g i o w i [] [] (.slice none 0 0) W0) := by
    have hb : Below w.heap.size w W0 := by rw [hW0]; exact ((Below.refl _ _).alloc (Nat.le_refl _) _).alloc (by simp) _
    have h1 : BoxAt W0 w.heap.size 184 1 w.heap.size [.slice none 0 0] := by rw [hW0]; exact BoxAt.ofHeap (vs := #[.slice none 0 0]) (heap_alloc2_old w _ _) (Nat.le_refl _) rfl
    have h2 : BoxAt W0 w.heap.size 184 1 (w.heap.size + 1) [.slice none 0 0] := by rw [hW0]; exact BoxAt.ofHeap (vs := #[.slice none 0 0]) (heap_alloc2_new w _ _) (by omega) rfl
    exact ⟨SeqOk.nil (by rw [sb_len]; exact hi), BoxAt.below h hb, h1, h2, World.ownsRow_nil .., rfl, fun i x t hx => by simp at hx, Chg.of_below hb, hgl⟩
  clear h
  go_enter Try.func129, Try.ntmps129
  go_wp2_with fail
  rw [← hW0]
  clear hW0
  go_loopw [] (fun wr => ∃ (k : Nat) (ts : List Pat) (us : List Value) (v : Value), i ≤ k ∧ k ≤ p.size ∧ us.length ≤ k ∧ SeqJ p base g i o w k ts us v wr) (fun wr => p.size - atOf wr g)
  case atStart => exact ⟨i, [], [], _, Nat.le_refl _, hi, Nat.zero_le _, HJ0.out⟩
  case round =>
    obtain ⟨k, ts, us, v, hik, hkp, hul, hJ⟩ := hrel
    have HJ : Hid (SeqJ p base g i o w k ts us v wr ∧ atOf wr g = k) := ⟨hJ, atOf_pr hJ.rd⟩
    obtain ⟨va, vc, hva⟩ := hJ.row.slice
    subst hva
    clear hJ HJ0
    have hlt := HJ.out.1.rd.lt.2
    have c0 := HJ.out.1.rd.cell (j := 0) rfl
    have c1 := HJ.out.1.rd.cell (j := 1) rfl
    have e0 : ∀ n : Out wr, n.u.cell? ⟨g, 0, none⟩ = some (.string p) := fun n => (n.out.cell (p := ⟨g, 0, none⟩) hlt).trans c0
    have e1 : ∀ n : Out wr, n.u.cell? ⟨g, 1, none⟩ = some (.int .i64 (k : Int)) := fun n => (n.out.cell (p := ⟨g, 1, none⟩) hlt).trans c1
    obtain ⟨q, hq⟩ : ∃ q, q = inB (sb p) k (sb ⟨#[42, 43, 63, 124, 41, 93]⟩) := ⟨_, rfl⟩
    have HQ : Hid (inB (sb p) k [42, 43, 63, 124, 41, 93] = q) := hq.symm
    have HI : Hid (∀ n : Out wr, Calls Try.prog 131 #[.pointer (some ⟨g, 0, none⟩), .string ⟨#[42, 43, 63, 124, 41, 93]⟩] n.u fun e w' => e = .returned (.bool q) ∧ Below n.u.heap.size n.u w') := fun n => by
      rw [hq]
      exact pnextIn_core _ (BoxAt.below HJ.out.1.rd n.out) hp
    clear c0 c1 hq
    by_cases hgo : k < p.size ∧ q = false
    · obtain ⟨hks, rfl⟩ := hgo
      have z1 : (k : Int) < (p.size : Int) := by omega
      have HNe : Hid (∀ c, (sb p)[k]? = some c → ¬ isEnd c) := fun c hc he => inB_none HQ.out c hc (by
        rcases he with (rfl | rfl | rfl) | rfl | rfl | rfl <;> simp)
      go_upto_region 2 with fail
      refine wp_region_out (by kernel_rfl) (by kernel_rfl) ?_
      repeat (go_big_quiet_step ((first | rfl | (go_at_call 131; exact Calls.out_of (HI.out _)))))
      refine wpQuiet_nil ?_
      rintro w1 ⟨⟨wx, hb1⟩, rfl⟩
      have HJ1 : Hid (SeqJ p base g i o w k ts us (.slice va us.length vc) w1) := HJ.out.1.move hb1
      have HAt : Hid (atOf wr g = k) := HJ.out.2
      have hs1 := hb1.size
      clear e0 e1 HI hb1 HJ
      have b0 := HJ1.out.box.cell (j := 0) rfl
      have hob := HJ1.out.box.lt.2
      have HRep : Hid (∀ w', Below w1.heap.size w1 w' → Calls Try.prog 132 #[.pointer (some ⟨g, 0, none⟩)] w' (NodePost p base g k o w' (RepOk (sb p) o k))) := fun w' hb => H base g k o w' (by omega) hks ho HNe.out (BoxAt.below HJ1.out.rd hb)
      go_upto_region 3 with fail
      go_region_law ((first
                | (go_simp; go_at_call 132; refine (HRep.out _ (Below.refl _ _).drew).mono ?_; rintro e' w6 ⟨hC6, (⟨k6, t, x, hR6, rfl, hN6, hP6⟩ | ⟨c6, k6, hc60, hk6, rfl⟩)⟩; (case inr => exact ⟨rfl, (HJ1.out.move (Below.refl _ _).drew).chg.trans hC6, .inr ⟨c6, k6, hc60, by rw [HJ1.out.ok.chk, hk6], rfl⟩⟩); obtain ⟨T6, cs6, rfl⟩ := hN6.iface; have HK6 : Hid (SeqK p base g i o w k6 ts us (.slice va us.length vc) t (.iface T6 (.agg cs6)) w6 ∧ RepOk (sb p) o k k6 t) := ⟨(HJ1.out.move (Below.refl _ _).drew).rep hC6 hR6 hN6 hP6, hR6⟩; have m6 := HK6.out.1.box.cell (j := 0) rfl; have m6l := HK6.out.1.box.lt.2; have m6a : ∀ o, (w6.alloc o).cell? ⟨w.heap.size + 1, 0, none⟩ = some (.slice va us.length vc) := fun o => by { rw [((Below.refl w6.heap.size w6).alloc (Nat.le_refl _) o).cell (p := ⟨w.heap.size + 1, 0, none⟩) m6l]; exact m6 }; clear hC6 hR6 hN6 hP6)
                | (refine step_append_node _ (by rfl) _ _ (by rfl) (w.heap.size + 2) us.length w6.heap.size (.slice va us.length vc) (.iface T6 (.agg cs6)) us rfl (by rfl) (by rfl) ?hO ?hc rfl ?hl ?hb ?_
                   case hO => exact (HK6.out.1.move ((Below.refl _ _).alloc (Nat.le_refl _) _)).row
                   case hc => simp
                   case hl => omega
                   case hb => have := (HK6.out.1.move ((Below.refl _ _).alloc (Nat.le_refl _) (Obj.cells #[.iface T6 (.agg cs6)] 188))).box.lt.2; omega
                   intro g7 cp7 w7 hO7 hgr7 hgg7
                   have hpp := (HK6.out.1.move ((Below.refl _ _).alloc (Nat.le_refl _) (Obj.cells #[.iface T6 (.agg cs6)] 188))).push hO7 hgr7 (fun j hj => by have hj' : g7 = j := by { simpa [Value.ownBlock] using hj }; rw [← hj']; exact hgg7)
                   have fin7 : Hid (SeqJ p base g i o w k6 (ts ++ [t]) (us ++ [.iface T6 (.agg cs6)]) (.slice (some ⟨g7, 0, none⟩) (us.length + 1) cp7) (w7.setCell ⟨w.heap.size + 1, 0, none⟩ (.slice (some ⟨g7, 0, none⟩) (us.length + 1) cp7))) := hpp.1
                   have m7 := hpp.2.1
                   have f7 := hpp.2.2
                   clear hpp hO7 hgr7 hgg7)))
      all_goals go_wp2_with fail
      all_goals go_roundw
      all_goals first
        | exact ⟨k6, ts ++ [t], us ++ [.iface T6 (.agg cs6)], _, by have := HK6.out.2.lt; omega, by have := HK6.out.2.le; rw [sb_len] at this; exact this, by have := HK6.out.2.lt; rw [List.length_append]; simp; omega, fin7.out⟩
        | (rw [HAt.out, atOf_pr fin7.out.rd]; have := HK6.out.2.lt; omega)
    · have HE : Hid (∀ c, (sb p)[k]? = some c → isEnd c) := by
        intro c hc
        have hk := lt_of_at hc
        rw [sb_len] at hk
        cases q
        · exact absurd ⟨hk, rfl⟩ hgo
        · obtain ⟨d, hd, hm⟩ := inB_some HQ.out
          rw [hc] at hd
          cases hd
          simp at hm
          rcases hm with rfl | rfl | rfl | rfl | rfl | rfl <;> simp [isEnd, isOp]
      have HX : Hid (SeqJ p base g i o w k ts us (.slice va us.length vc) wr) := HJ.out.1
      clear HQ HJ
      have fin : ∀ w1, Below wr.heap.size wr w1 → Hid (SeqJ p base g i o w k ts us (.slice va us.length vc) w1) := fun w1 hb => HX.out.move hb
      by_cases hks : k < p.size
      · have hq1 : q = true := by
          cases q
          · exact absurd ⟨hks, rfl⟩ hgo
          · rfl
        subst hq1
        have z1 : (k : Int) < (p.size : Int) := by omega
        clear hgo
        go_upto_region 2 with fail
        refine wp_region_out (by kernel_rfl) (by kernel_rfl) ?_
        repeat (go_big_quiet_step ((first | rfl | (go_at_call 131; exact Calls.out_of (HI.out _)))))
        refine wpQuiet_nil ?_
        rintro w1 ⟨⟨wx, hb1⟩, rfl⟩
        have HJ1 := fin w1 hb1
        clear e0 e1 HI hb1 fin HX
        have b0 := HJ1.out.box.cell (j := 0) rfl
        have r0 := HJ1.out.res.cell (j := 0) rfl
        have rf := HJ1.out.res.frozen 0
        go_wp2_with fail
        refine bodyPost_ret (v := .agg #[.slice va us.length vc]) (by simp [results, Try.results129, go_sem, World.cell?_setCell_same _ _ _ r0]) rfl ?_
        have hc := Chg.of_set w1 w.heap.size 0 (.slice va us.length vc) (S := fun j => j = w.heap.size) rfl
        refine ⟨HJ1.out.chg.absorb hc (fun j q => .inr (by omega)), .inl ⟨k, ts, _, HJ1.out.ok, HE.out, rfl, ?_, BoxAt.chg HJ1.out.rd hc (by omega)⟩⟩
        refine (HJ1.out.row.seq HJ1.out.len (R := fun j => w.heap.size + 2 ≤ j) (fun i x t hx ht => (HJ1.out.nodes i x t hx ht).move (S := fun _ => False) (Chg.refl _ _) (fun _ q => q.elim) (fun _ _ q => q.1)) (fun j hj => (World.ownsRow.lt HJ1.out.row j hj).1)).move hc (fun j q => by subst q; exact fun z => by omega) (fun j hj z => ⟨by omega, by have := hc.size; omega⟩)
      · have z1 : ¬ (k : Int) < (p.size : Int) := by omega
        clear hgo
        go_upto_region 2 with fail
        refine wp_region_out (by kernel_rfl) (by kernel_rfl) ?_
        repeat (go_big_quiet_step (rfl))
        refine wpQuiet_nil ?_
        rintro w1 ⟨⟨wx, hb1⟩, rfl⟩
        have HJ1 := fin w1 hb1
        clear e0 e1 HI hb1 fin HX
        have b0 := HJ1.out.box.cell (j := 0) rfl
        have r0 := HJ1.out.res.cell (j := 0) rfl
        have rf := HJ1.out.res.frozen 0
        go_wp2_with fail
        refine bodyPost_ret (v := .agg #[.slice va us.length vc]) (by simp [results, Try.results129, go_sem, World.cell?_setCell_same _ _ _ r0]) rfl ?_
        have hc := Chg.of_set w1 w.heap.size 0 (.slice va us.length vc) (S := fun j => j = w.heap.size) rfl
        refine ⟨HJ1.out.chg.absorb hc (fun j q => .inr (by omega)), .inl ⟨k, ts, _, HJ1.out.ok, HE.out, rfl, ?_, BoxAt.chg HJ1.out.rd hc (by omega)⟩⟩
        refine (HJ1.out.row.seq HJ1.out.len (R := fun j => w.heap.size + 2 ≤ j) (fun i x t hx ht => (HJ1.out.nodes i x t hx ht).move (S := fun _ => False) (Chg.refl _ _) (fun _ q => q.elim) (fun _ _ q => q.1)) (fun j hj => (World.ownsRow.lt HJ1.out.row j hj).1)).move hc (fun j q => by subst q; exact fun z => by omega) (fun j hj z => ⟨by omega, by have := hc.size; omega⟩)
end Go.Proofs.Ythkmecppjhcidac
