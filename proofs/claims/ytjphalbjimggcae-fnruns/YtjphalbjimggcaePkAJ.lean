import Derived.Deep.DeepCutAuto
import Derived.Deep.RegionWith
import Derived.Test.YtjphalbjimggcaePkAA
import Derived.Test.YtjphalbjimggcaePkAB
import Derived.Test.YtjphalbjimggcaePkAG
import Derived.Test.YtjphalbjimggcaeQDraw8
/-
  Runs in memory, one behind another.
-/
namespace Go.Proofs.Ytjphalbjimggcae
open Go.ChangeShapes Go.WideShapes Go.ChangeAt Go.RowKit Go.Deep
set_option linter.unusedVariables false
set_option linter.unusedSimpArgs false

/-- A run: the slice that it holds, and what that reads as. -/
structure Rn where
  u : Value
  es : List Ent
def RunsAt (w : World) (b off : Nat) (rs : List Rn) : Prop := ∀ i r, rs[i]? = some r → w.cell? ⟨b, off + i, none⟩ = some r.u ∧ InEnts w r.u r.es
theorem RunsAt.below {w w' : World} {b off : Nat} {rs : List Rn} (h : RunsAt w b off rs) (hb : Below w.heap.size w w') (hlt : b < w.heap.size) : RunsAt w' b off rs := by
  intro i r hr
  obtain ⟨h1, h2⟩ := h i r hr
  exact ⟨by rw [hb.cell (p := ⟨b, off + i, none⟩) (by exact hlt)]; exact h1, h2.below hb (Nat.le_refl _)⟩
def InRuns (w : World) (v : Value) (rs : List Rn) : Prop :=
  (∃ a cap, v = .slice a 0 cap ∧ rs = []) ∨ ∃ b off cap, v = .slice (some ⟨b, off, none⟩) rs.length cap ∧ RunsAt w b off rs ∧ b < w.heap.size ∧ rs.length ≤ cap ∧ cap ≤ maxLen
theorem InRuns.below {w w' : World} {v : Value} {rs : List Rn} (h : InRuns w v rs) (hb : Below w.heap.size w w') : InRuns w' v rs := by
  rcases h with h | ⟨b, off, cap, hv, hE, hlt, h1, h2⟩
  · exact .inl h
  · exact .inr ⟨b, off, cap, hv, hE.below hb hlt, by have := hb.size; omega, h1, h2⟩
theorem InEnts.ucells {w : World} {v : Value} {es : List Ent} (h : InEnts w v es) : v.cells = #[v] := by
  rcases h with ⟨a, cap, rfl, _⟩ | ⟨b, off, cap, rfl, _⟩ <;> rfl
def okR (rs : List Rn) : Prop := ∀ r ∈ rs, ∀ e ∈ r.es, e.ok
/-- How many entries there are. -/
def tot : List Rn → Nat
  | [] => 0
  | r :: rs => r.es.length + tot rs
theorem tot_append : ∀ (a b : List Rn), tot (a ++ b) = tot a + tot b
  | [], b => by simp [tot]
  | r :: a, b => by simp [tot, tot_append a b]; omega
theorem tot_take {rs : List Rn} {k : Nat} {r : Rn} (h : rs[k]? = some r) : tot (rs.take (k + 1)) = tot (rs.take k) + r.es.length := by
  rw [List.take_add_one, h, tot_append]; simp [tot]
theorem tot_le (rs : List Rn) (k : Nat) : tot (rs.take k) ≤ tot rs := by
  have h := tot_append (rs.take k) (rs.drop k)
  rw [List.take_append_drop] at h
  omega
theorem tot_mem {rs : List Rn} {k : Nat} {r : Rn} (h : rs[k]? = some r) : r.es.length ≤ tot rs := by
  have h1 := tot_take h
  have h2 := tot_le rs (k + 1)
  omega

/-! ### Runs of the call's own -/

/-- The runs' slices. -/
def usOf (l : List (Nat × List Ent)) : List Value := l.map fun p => .slice (some ⟨p.1, 0, none⟩) p.2.length p.2.length
def rnsOf (l : List (Nat × List Ent)) : List Rn := l.map fun p => ⟨.slice (some ⟨p.1, 0, none⟩) p.2.length p.2.length, p.2⟩
def esOf (rs : List Rn) : List (List Ent) := rs.map Rn.es
/-- Rows of the call's own, in blocks that rise. -/
def OwnRs (w : World) (base : Nat) (l : List (Nat × List Ent)) : Prop := l.Pairwise (fun p q => p.1 < q.1) ∧ ∀ p ∈ l, OwnE w base p.1 p.2.length p.2
/-- The row of the runs itself. -/
def OwnR (w : World) (base g : Nat) (us : List Value) : Prop := w.ownsRow base 30 1 (.slice (some ⟨g, 0, none⟩) us.length us.length) us.length us
theorem OwnR.lt {w : World} {base g : Nat} {us : List Value} (h : OwnR w base g us) : base ≤ g ∧ g < w.heap.size := World.ownsRow.lt h g rfl
theorem OwnR.below {B : Nat} {w w' : World} {base g : Nat} {us : List Value} (h : OwnR w base g us) (hb : Below B w w') (hg : g < B) : OwnR w' base g us := by
  refine ⟨h.1, ?_⟩
  rcases h.2 with hn | ⟨g', cap', cur, hv, h1, h2, rest⟩
  · exact .inl hn
  · simp only [Value.slice.injEq, Option.some.injEq, Addr.mk.injEq, and_true, true_and] at hv
    obtain ⟨rfl, hc⟩ := hv
    exact .inr ⟨g, cap', cur, by rw [hc], h1, by rw [hb.block g hg]; exact h2, rest⟩
theorem OwnR.set {w : World} {base g : Nat} {us : List Value} (h : OwnR w base g us) (k : Nat) (u : Value) : OwnR (w.setCell ⟨g, k, none⟩ u) base g (us.set k u) := by
  have := (World.ownsRow.stored h k u).1
  unfold OwnR
  rw [List.length_set]
  exact this
theorem OwnR.cell {w : World} {base g : Nat} {us : List Value} (h : OwnR w base g us) {k : Nat} {u : Value} (hu : us[k]? = some u) : w.cell? ⟨g, k, none⟩ = some u := by
  have hk : k < us.length := (List.getElem?_eq_some_iff.1 hu).1
  exact (World.ownsRow.cellAt h k (by omega)).trans hu
theorem OwnE.setNe {w : World} {base g cap : Nat} {es : List Ent} (h : OwnE w base g cap es) (g' k : Nat) (u : Value) (hne : g ≠ g') : OwnE (w.setCell ⟨g', k, none⟩ u) base g cap es :=
  World.ownsRow.kept h (grown_set w g' k u) (.inr (fun q => hne (Option.some.inj q)))

theorem Try.infoRun : (Try.prog.info? 30).map (fun i => (i.zero, i.size, i.bytes)) = some (some (.agg #[.slice none 0 0]), 1, 24) := by kernel_rfl
theorem made_runs (n : Nat) : (madeCells #[.slice none 0 0] n).toList = List.replicate n (.slice none 0 0) := by
  apply List.ext_getElem?
  intro j
  by_cases hj : j < n
  · simp [madeCells, hj, Nat.mod_one]
  · simp [madeCells, hj]
theorem usOf_get {l : List (Nat × List Ent)} {i : Nat} {p : Nat × List Ent} (h : l[i]? = some p) : (usOf l)[i]? = some (.slice (some ⟨p.1, 0, none⟩) p.2.length p.2.length) := by
  unfold usOf; rw [List.getElem?_map, h]; rfl
theorem inRuns_own {w : World} {base g : Nat} {l : List (Nat × List Ent)} (h : OwnR w base g (usOf l)) (hr : OwnRs w base l) (hl : l.length ≤ maxLen) (hc : ∀ p ∈ l, p.2.length ≤ maxLen) :
    InRuns w (.slice (some ⟨g, 0, none⟩) l.length l.length) (rnsOf l) := by
  refine .inr ⟨g, 0, l.length, by simp [rnsOf], fun i r hi => ?_, h.lt.2, by simp [rnsOf], hl⟩
  unfold rnsOf at hi
  rw [List.getElem?_map] at hi
  cases hp : l[i]? with
  | none => rw [hp] at hi; cases hi
  | some p =>
    rw [hp] at hi
    simp at hi
    subst hi
    have hm := List.mem_of_getElem? hp
    refine ⟨?_, InEnts.own (hr.2 p hm) (Nat.le_refl _) (hc p hm)⟩
    rw [Nat.zero_add]
    exact h.cell (usOf_get hp)
end Go.Proofs.Ytjphalbjimggcae

/-
  A run beside what is changed.
-/
namespace Go.Proofs.Ytjphalbjimggcae
set_option linter.unusedVariables false
theorem Rm.at.chg {S : Nat → Prop} {w w' : World} {r : Rm} (h : r.at w) (hb : Chg S w w') (hn : ¬ S r.b) : r.at w' := ⟨h.ents.chg hb h.lt hn, by have := hb.size; have := h.lt; omega, h.len, h.cap⟩
end Go.Proofs.Ytjphalbjimggcae

/-
  The draws: a row of runs; the runs of one list of writes.
-/
namespace Go.Proofs.Ytjphalbjimggcae
open Go.ChangeShapes Go.WideShapes Go.ChangeAt Go.RowKit Go.Deep
set_option linter.unusedVariables false
set_option linter.unusedSimpArgs false
set_option maxRecDepth 100000

theorem EntsAt.dropped {w : World} {b off : Nat} {es : List Ent} (h : EntsAt w b off es) (k : Nat) : EntsAt w b (off + k * 6) (es.drop k) := by
  intro i e he
  rw [List.getElem?_drop] at he
  have := h (k + i) e he
  rw [show off + (k + i) * 6 = off + k * 6 + i * 6 by omega] at this
  exact this
theorem EntsAt.taken {w : World} {b off : Nat} {es : List Ent} (h : EntsAt w b off es) (k : Nat) : EntsAt w b off (es.take k) := by
  intro i e he
  refine h i e ?_
  by_cases hi : i < k
  · rwa [List.getElem?_take_of_lt hi] at he
  · have := (List.getElem?_eq_some_iff.1 he).1
    simp at this
    omega

/-- A row of runs, of the call's own. -/
def OwnW (w : World) (base g cp : Nat) (l : List Rm) : Prop := w.ownsRow base 30 1 (.slice (some ⟨g, 0, none⟩) l.length cp) l.length (l.map Rm.u)
theorem OwnW.lt {w : World} {base g cp : Nat} {l : List Rm} (h : OwnW w base g cp l) : base ≤ g ∧ g < w.heap.size := World.ownsRow.lt h g rfl
theorem OwnW.chg {S : Nat → Prop} {w w' : World} {base g cp : Nat} {l : List Rm} (h : OwnW w base g cp l) (hc : Chg S w w') (hn : ¬ S g) : OwnW w' base g cp l := own_chg h hc (fun k q => by simp [Value.ownBlock] at q; subst q; exact hn)
theorem OwnW.cell {w : World} {base g cp : Nat} {l : List Rm} (h : OwnW w base g cp l) {k : Nat} {r : Rm} (hr : l[k]? = some r) : w.cell? ⟨g, k, none⟩ = some r.u := by
  have hk := (List.getElem?_eq_some_iff.1 hr).1
  rw [World.ownsRow.cellAt h k (by omega), List.getElem?_map, hr]; rfl
theorem OwnW.set {w : World} {base g cp : Nat} {l : List Rm} (h : OwnW w base g cp l) (k : Nat) (r : Rm) : OwnW (w.setCell ⟨g, k, none⟩ r.u) base g cp (l.set k r) := by
  have := (World.ownsRow.stored h k r.u).1
  unfold OwnW
  rw [List.length_set, List.map_set]
  exact this
theorem rm_one (l : List Rm) : ∀ u ∈ l.map Rm.u, u.oneCell' = true := by
  intro u hu
  obtain ⟨r, _, rfl⟩ := List.mem_map.1 hu
  rfl
/-- Runs appended to a row of the call's own. -/
theorem wpList_append_runs {ops : Array Oper} {rest : List Oper} {o : Oper} {a : Act} {Q : Exit → Act → World → Prop} (w : World) (hgd : o.guard = none) (s x : Operand)
    (ho : o.op = .call { callee := .builtin .append, args := #[s, x], argTypes := #[23, 23] })
    (base g cp n b m cx : Nat) (l k : List Rm) (hs : a.eval s = .slice (some ⟨g, 0, none⟩) n cp) (hx : a.eval x = .slice (some ⟨b, 0, none⟩) m cx) (hn : n = l.length) (hm : m = k.length) (hO : OwnW w base g cp l)
    (hc : ∀ i r, k[i]? = some r → w.cell? ⟨b, i, none⟩ = some r.u) (hlen : l.length + k.length ≤ 2 ^ 30) (hbase : base ≤ w.heap.size)
    (h : ∀ g' cp' w', OwnW w' base g' cp' (l ++ k) → w.grownBy w' (some g) → (g' = g ∨ g' = w.heap.size) → wpList Try.prog ops Q rest (a.put o.dst (.slice (some ⟨g', 0, none⟩) (n + m) cp')) w') : wpList Try.prog ops Q (o :: rest) a w := by
  subst hn hm
  obtain ⟨i, hi, hz0, hz1, hz2⟩ := info_parts Try.infoRun
  refine wpList_append_own_at w hgd s x 23 ho base 30 i _ 1 24 Try.underlying23 hi hz0 hz1 hz2 rfl (by decide) (.slice (some ⟨g, 0, none⟩) l.length cp) l.length (l.map Rm.u) hs hO ⟨b, 0, none⟩ k.length cx (k.map Rm.u) hx (by simp) ?_ (rm_one k) ?_ ?_ hbase ?_
  · intro j u hu
    rw [List.getElem?_map] at hu
    cases hk : k[j]? with
    | none => rw [hk] at hu; cases hu
    | some r =>
      rw [hk] at hu
      simp at hu
      rw [Addr.add_mid, Nat.zero_add, hc j r hk, ← hu]
  · unfold maxLen; omega
  · omega
  · intro v' w' hO' hgr hnil hat
    rcases hO'.2 with ⟨h0, _⟩ | ⟨g', cap', cur, hv, _, _, hn, hcap, _, _⟩
    · have := (hnil.1 h0).1
      cases this
    · subst hv
      refine h g' cap' w' ?_ hgr ?_
      · unfold OwnW
        rw [List.length_append, List.map_append]
        exact hO'
      · simp [Value.ownBlock] at hat
        exact hat

/-- A drawn run. -/
structure Rm.drawn (H g : Nat) (w : World) (r : Rm) : Prop where
  at_ : r.at w
  ok : ∀ e ∈ r.es, e.small
  len : r.es.length ≤ 101
  ne : ¬ r.b = g
  new : H ≤ r.b
structure RInv (base cb : Nat) (bv : Value) (n : Nat) (w : World) (g cp : Nat) (l : List Rm) (wr : World) : Prop where
  row : OwnW wr w.heap.size g cp l
  ats : ∀ r ∈ l, r.drawn w.heap.size g wr
  d : DrawAt base cb bv n wr
  c : Chg (fun k => k = cb) w wr
  lt : cb < w.heap.size
  hb : base ≤ w.heap.size
theorem Rm.drawn.chg {S : Nat → Prop} {H g : Nat} {w w' : World} {r : Rm} (h : r.drawn H g w) (hc : Chg S w w') (hn : ¬ S r.b) : r.drawn H g w' := ⟨h.at_.chg hc hn, h.ok, h.len, h.ne, h.new⟩
theorem RInv.call {base cb : Nat} {bv : Value} {n : Nat} {w : World} {g cp : Nat} {l : List Rm} {wr w1 : World} (h : RInv base cb bv n w g cp l wr) (hd : Drew base cb bv n wr w1) : RInv base cb bv n w g cp l w1 := by
  have hg := h.row.lt
  have hl := h.lt
  exact ⟨h.row.chg hd.2 (by omega), fun r hr => (h.ats r hr).chg hd.2 (by have := (h.ats r hr).new; omega), hd.1, h.c.trans hd.2, h.lt, h.hb⟩
theorem RInv.below {base cb : Nat} {bv : Value} {n : Nat} {w : World} {g cp : Nat} {l : List Rm} {wr w1 : World} (h : RInv base cb bv n w g cp l wr) (hb : Below wr.heap.size wr w1) : RInv base cb bv n w g cp l w1 :=
  h.call ⟨h.d.below hb, Chg.of_below hb⟩

def lenOf : Value → Nat
  | .slice _ m _ => m
  | _ => 0
/-- The loop of the cuts. -/
structure CInv (base cb : Nat) (bv : Value) (n : Nat) (w : World) (gw o m q : Nat) (ws : List Ent) (g cp : Nat) (l : List Rm) (wr : World) : Prop extends RInv base cb bv n w g cp l wr where
  ents : EntsAt wr gw o ws
  wl : ws.length = m
  sm : ∀ e ∈ ws, e.small
  wlt : w.heap.size ≤ gw ∧ gw < wr.heap.size
  mc : m ≤ q ∧ q ≤ maxLen
  cnt : m + l.length ≤ 100
  short : ∀ r ∈ l, r.es.length ≤ 100
theorem CInv.call {base cb : Nat} {bv : Value} {n : Nat} {w : World} {gw o m q : Nat} {ws : List Ent} {g cp : Nat} {l : List Rm} {wr w1 : World} (h : CInv base cb bv n w gw o m q ws g cp l wr) (hd : Drew base cb bv n wr w1) : CInv base cb bv n w gw o m q ws g cp l w1 := by
  have hl := h.lt
  have hw := h.wlt
  have hz := hd.2.size
  exact { h.toRInv.call hd with ents := h.ents.chg hd.2 hw.2 (by omega), wl := h.wl, sm := h.sm, wlt := ⟨hw.1, by omega⟩, mc := h.mc, cnt := h.cnt, short := h.short }

set_option maxHeartbeats 4000000 in
theorem l3Runs_core (base cb : Nat) (bv : Value) (n : Nat) (most : Nat) (w : World) (h : DrawAt base cb bv n w) (hm : most ≤ 100) :
    Calls Try.prog 25 #[.pointer (some ⟨cb, 0, none⟩), .int .i64 most] w fun x w' => ∃ (g cp : Nat) (l : List Rm), x = .returned (.slice (some ⟨g, 0, none⟩) l.length cp) ∧ l.length ≤ 100 ∧ (∀ r ∈ l, r.es.length ≤ 100) ∧ RInv base cb bv n w g cp l w' := by
  have HD : Hid (DrawAt base cb bv n w) := h
  have hlt := h.lt
  have hbase := h.base
  clear h
  go_enter Try.func25, Try.ntmps25
  go_wp2_with fail
  refine (writes_core base cb bv n most _ HD.out hm).mono ?_
  rintro e w1 ⟨gw, cw, ws, rfl, hwl, hL1⟩
  obtain ⟨W2, hW2⟩ : ∃ W2 : World, W2 = w1.alloc (Obj.cells #[] 30) := ⟨_, rfl⟩
  have H2 : Hid (CInv base cb bv n w gw 0 ws.length cw ws w1.heap.size 0 [] W2) := by
    have hb : Below w1.heap.size w1 W2 := by rw [hW2]; exact (Below.refl _ _).alloc (Nat.le_refl _) _
    have hg := hL1.row.lt
    have hcap : ws.length ≤ cw ∧ cw ≤ maxLen := by
      rcases hL1.row.2 with ⟨h0, _⟩ | ⟨g', cap', cur, hv, _, _, hn, hcap, _, _⟩
      · cases h0
      · simp only [Value.slice.injEq, Option.some.injEq, Addr.mk.injEq, and_true, true_and] at hv
        obtain ⟨rfl, rfl⟩ := hv
        exact ⟨hn, hcap⟩
    have hs := hb.size
    refine ⟨⟨?_, fun r hr => by simp at hr, hL1.d.below hb, hL1.c.trans (Chg.of_below hb), hlt.2, hbase⟩, hL1.row.at.below hb hg.2, rfl, hL1.ok, ⟨hg.1, by omega⟩, hcap, by simpa using hwl, fun r hr => by simp at hr⟩
    rw [hW2]
    exact World.ownsRow_made w1 #[] 0 hL1.c.size (Nat.zero_le _) (by simp)
  clear hL1
  go_wp2_with fail
  rw [← hW2]
  clear hW2
  go_loopw [5, 6] (fun s o6 wr => ∃ (o m q g cp : Nat) (vs : List Ent) (l : List Rm), s = .slice (some ⟨gw, o, none⟩) m q ∧ o6 = .slice (some ⟨g, 0, none⟩) l.length cp ∧ CInv base cb bv n w gw o m q vs g cp l wr) (fun s _ _ => lenOf s)
  case atStart => exact ⟨0, _, cw, _, 0, ws, [], rfl, rfl, H2.out⟩
  case round =>
    obtain ⟨o, m, q, g, cp, vs, l, rfl, rfl, hC⟩ := hrel
    have HC : Hid (CInv base cb bv n w gw o m q vs g cp l wr) := hC
    clear hC
    by_cases h0 : m = 0
    · have hz : ¬ (0 : Int) < (m : Int) := by omega
      go_wp2_with fail
      go_ret
      exact ⟨g, cp, l, rfl, by have := HC.out.cnt; omega, HC.out.short, HC.out.toRInv⟩
    · have hz : (0 : Int) < (m : Int) := by omega
      have hm1 : m ≤ 100 := by have := HC.out.cnt; omega
      go_wp2_with fail
      refine (below_core base cb bv n (m : Int) _ HC.out.d (by omega) (by omega)).mono ?_
      rintro e w3 ⟨y, rfl, hy0, hy1, hd3⟩
      have H3 : Hid (CInv base cb bv n w gw o m q vs g cp l w3) := HC.out.call hd3
      clear hd3
      obtain ⟨j, hj⟩ : ∃ j : Nat, (1 : Int) + y = (j : Int) := ⟨(1 + y).toNat, by omega⟩
      have hj1 : 1 ≤ j ∧ j ≤ m := by omega
      have hmc := HC.out.mc
      have hjq : j ≤ q := by omega
      go_wp2_with fail
      have ht : (vs.take j).length = j := by rw [List.length_take, HC.out.wl]; omega
      have hbld := specBuild_core gw o q (vs.take j) w3 (H3.out.ents.taken j) (fun e he => (H3.out.sm e (List.mem_of_mem_take he)).ok) H3.out.wlt.2 (by omega)
      rw [ht] at hbld
      refine hbld.mono ?_
      rintro e w4 ⟨g2, cp2, R, rfl, hO2, hb2, hRl, hK, hN⟩
      have hg2 := hO2.lt
      have hok : ∀ e ∈ R, e.small := by
        intro e he
        by_cases hg : GoodW (vs.take j)
        · obtain ⟨i, _, hi, _⟩ := ((hK hg).2 e).1 he
          exact H3.out.sm e (List.mem_of_mem_take (List.mem_of_getElem? hi))
        · rw [hN hg] at he; simp at he
      have hcap : R.length ≤ cp2 ∧ cp2 ≤ maxLen := by
        rcases hO2.2 with ⟨h0, _⟩ | ⟨g', cap', cur, hv, _, _, hn, hcap, _, _⟩
        · cases h0
        · simp only [Value.slice.injEq, Option.some.injEq, Addr.mk.injEq, and_true, true_and] at hv
          obtain ⟨rfl, rfl⟩ := hv
          exact ⟨hn, hcap⟩
      obtain ⟨r, hr⟩ : ∃ r : Rm, r = ⟨g2, 0, cp2, R⟩ := ⟨_, rfl⟩
      have HR : Hid (r.at w4 ∧ (∀ e ∈ r.es, e.small) ∧ r.es.length ≤ j ∧ w3.heap.size ≤ r.b) := by
        rw [hr]; exact ⟨⟨hO2.at, hO2.lt.2, hcap.1, hcap.2⟩, hok, by omega, hg2.1⟩
      have H4 : Hid (CInv base cb bv n w gw o m q vs g cp l w4) := H3.out.call ⟨H3.out.d.below hb2, Chg.of_below hb2⟩
      obtain ⟨W5, hW5⟩ : ∃ W5 : World, W5 = w4.alloc (Obj.cells #[.slice (some ⟨g2, 0, none⟩) R.length cp2] 30) := ⟨_, rfl⟩
      have hb5 : Below w4.heap.size w4 W5 := by rw [hW5]; exact (Below.refl _ _).alloc (Nat.le_refl _) _
      have hz5 : W5.heap.size = w4.heap.size + 1 := by rw [hW5]; simp
      have H5 : Hid (CInv base cb bv n w gw o m q vs g cp l W5) := H4.out.call ⟨H4.out.d.below hb5, Chg.of_below hb5⟩
      have HO5 : Hid (OwnW W5 w.heap.size w4.heap.size 1 [r]) := by
        show OwnW W5 w.heap.size w4.heap.size 1 [r]
        rw [hW5, hr]
        exact World.ownsRow_lit w4 #[.slice (some ⟨g2, 0, none⟩) R.length cp2] 1 H4.out.c.size (by decide) rfl
      clear hO2 hb2 hRl hK hN hok hcap ht hbld
      go_wp2_with (at_builtin; rw [← hW5]; refine wpList_append_runs _ rfl _ _ rfl w.heap.size w4.heap.size 1 1 g l.length cp [r] l rfl rfl rfl rfl ?hO ?hc ?hl ?hb ?_)
      case hO => exact HO5.out
      case hc => exact fun i r' hr' => H5.out.row.cell hr'
      case hl => have := H5.out.cnt; simp; omega
      case hb => exact H5.out.c.size
      intro g' cp' w6 hO' hgr hat
      rw [← hr] at hO'
      rw [← hW5] at hgr
      have H6 : Hid (∀ o', (o' = o + j * 6 ∨ m = j) → CInv base cb bv n w gw o' (m - j) (q - j) (vs.drop j) g' cp' (r :: l) w6) := by
        have hcg : Chg (fun k => k = w4.heap.size) W5 w6 := Chg.of_grown hgr (fun k hk => by cases hk; rfl)
        have hs4 := H4.out.c.size
        have hs5 := hb5.size
        have hcb := H4.out.lt
        have hbb := H4.out.hb
        have hw4 := H4.out.wlt
        have hs6 := hcg.size
        have hwl := H4.out.wl
        have hcnt := H4.out.cnt
        have hcm := H4.out.mc
        have h30 := H3.out.c.size
        intro o' ho'
        refine ⟨⟨hO', ?_, (H5.out.d.chg hcg (by omega) (fun k q => by omega)), ?_, H4.out.lt, H4.out.hb⟩, ?_, by simp [hwl], fun e he => H4.out.sm e (List.mem_of_mem_drop he), ⟨hw4.1, by omega⟩, ⟨by omega, by omega⟩, by simp; omega, ?_⟩
        · intro r' hr'
          rcases List.mem_cons.1 hr' with rfl | hr'
          · have h1 := HR.out.1
            have hl1 := h1.lt
            refine ⟨(h1.chg (Chg.of_below hb5) (S := fun _ => False) (fun q => q)).chg hcg (by show ¬ _ = _; omega), HR.out.2.1, by have := HR.out.2.2.1; omega, by omega, by have := HR.out.2.2.2; omega⟩
          · have h1 := H4.out.ats r' hr'
            have hl1 := h1.at_.lt
            refine ⟨(h1.at_.chg (Chg.of_below hb5) (S := fun _ => False) (fun q => q)).chg hcg (by show ¬ _ = _; omega), h1.ok, h1.len, by omega, h1.new⟩
        · exact Chg.grown_new H5.out.c hgr (fun k hk => by cases hk; omega)
        · rcases ho' with rfl | hmj
          · exact (H5.out.ents.chg hcg (by omega) (by show ¬ _ = _; omega)).dropped j
          · rw [List.drop_of_length_le (by omega)]
            intro i e he
            simp at he
        · intro r' hr'
          rcases List.mem_cons.1 hr' with rfl | hr'
          · have := HR.out.2.2.1; omega
          · exact H4.out.short r' hr'
      clear hO' hgr hat HO5 H5 hb5 hz5 hr H4 HR
      have hmj : (j : Int) ≤ (m : Int) := by omega
      by_cases hqj : q = j
      · have hmq : m = j := by omega
        subst hqj
        go_wp2_with fail
        exact ⟨⟨o, m - q, q - q, g', cp', vs.drop q, r :: l, by simp; omega, by simp [Nat.add_comm], H6.out o (.inr hmq)⟩, by simp [lenOf]; omega⟩
      · go_wp2_with fail
        exact ⟨⟨o + j * 6, m - j, q - j, g', cp', vs.drop j, r :: l, rfl, by simp [Nat.add_comm], H6.out _ (.inl rfl)⟩, by simp [lenOf]; omega⟩
end Go.Proofs.Ytjphalbjimggcae

