import Derived.Deep.DeepCutAuto
import Derived.Deep.CutRange
import Derived.Test.YtnncedndlhfdkacPkAD
import Derived.Test.YtnncedndlhfdkacPkAC
/-
  The draws: a row of runs; the runs of one list of writes.
-/
namespace Go.Proofs.Ytnncedndlhfdkac
open Go.ChangeShapes Go.WideShapes Go.ChangeAt Go.RowKit Go.Deep
set_option linter.unusedVariables false
set_option linter.unusedSimpArgs false
set_option maxRecDepth 100000

theorem EntsAt.dropped {w : World} {b off : Nat} {es : List Ent} (h : EntsAt w b off es) (k : Nat) : EntsAt w b (off + k * 6) (es.drop k) := by
  intro i e he
  rw [List.getElem?_drop] at he
  have := h (k + i) e he
  rw [show off + (k + i) * 6 = off + k * 6 + i * 6 by omega] at this
  exact this
theorem EntsAt.taken {w : World} {b off : Nat} {es : List Ent} (h : EntsAt w b off es) (k : Nat) : EntsAt w b off (es.take k) := by
  intro i e he
  refine h i e ?_
  by_cases hi : i < k
  · rwa [List.getElem?_take_of_lt hi] at he
  · have := (List.getElem?_eq_some_iff.1 he).1
    simp at this
    omega

/-- A row of runs, of the call's own. -/
def OwnW (w : World) (base g cp : Nat) (l : List Rm) : Prop := w.ownsRow base 40 1 (.slice (some ⟨g, 0, none⟩) l.length cp) l.length (l.map Rm.u)
theorem OwnW.lt {w : World} {base g cp : Nat} {l : List Rm} (h : OwnW w base g cp l) : base ≤ g ∧ g < w.heap.size := World.ownsRow.lt h g rfl
theorem OwnW.chg {S : Nat → Prop} {w w' : World} {base g cp : Nat} {l : List Rm} (h : OwnW w base g cp l) (hc : Chg S w w') (hn : ¬ S g) : OwnW w' base g cp l := own_chg h hc (fun k q => by simp [Value.ownBlock] at q; subst q; exact hn)
theorem OwnW.cell {w : World} {base g cp : Nat} {l : List Rm} (h : OwnW w base g cp l) {k : Nat} {r : Rm} (hr : l[k]? = some r) : w.cell? ⟨g, k, none⟩ = some r.u := by
  have hk := (List.getElem?_eq_some_iff.1 hr).1
  rw [World.ownsRow.cellAt h k (by omega), List.getElem?_map, hr]; rfl
theorem OwnW.set {w : World} {base g cp : Nat} {l : List Rm} (h : OwnW w base g cp l) (k : Nat) (r : Rm) : OwnW (w.setCell ⟨g, k, none⟩ r.u) base g cp (l.set k r) := by
  have := (World.ownsRow.stored h k r.u).1
  unfold OwnW
  rw [List.length_set, List.map_set]
  exact this
theorem rm_one (l : List Rm) : ∀ u ∈ l.map Rm.u, u.oneCell' = true := by
  intro u hu
  obtain ⟨r, _, rfl⟩ := List.mem_map.1 hu
  rfl
/-- Runs appended to a row of the call's own. -/
theorem wpList_append_runs {ops : Array Oper} {rest : List Oper} {o : Oper} {a : Act} {Q : Exit → Act → World → Prop} (w : World) (hgd : o.guard = none) (s x : Operand)
    (ho : o.op = .call { callee := .builtin .append, args := #[s, x], argTypes := #[29, 29] })
    (base g cp n b m cx : Nat) (l k : List Rm) (hs : a.eval s = .slice (some ⟨g, 0, none⟩) n cp) (hx : a.eval x = .slice (some ⟨b, 0, none⟩) m cx) (hn : n = l.length) (hm : m = k.length) (hO : OwnW w base g cp l)
    (hc : ∀ i r, k[i]? = some r → w.cell? ⟨b, i, none⟩ = some r.u) (hlen : l.length + k.length ≤ 2 ^ 30) (hbase : base ≤ w.heap.size)
    (h : ∀ g' cp' w', OwnW w' base g' cp' (l ++ k) → w.grownBy w' (some g) → (g' = g ∨ g' = w.heap.size) → wpList Try.prog ops Q rest (a.put o.dst (.slice (some ⟨g', 0, none⟩) (n + m) cp')) w') : wpList Try.prog ops Q (o :: rest) a w := by
  subst hn hm
  obtain ⟨i, hi, hz0, hz1, hz2⟩ := info_parts Try.infoRun
  refine wpList_append_own_at w hgd s x 29 ho base 40 i _ 1 24 Try.underlying29 hi hz0 hz1 hz2 rfl (by decide) (.slice (some ⟨g, 0, none⟩) l.length cp) l.length (l.map Rm.u) hs hO ⟨b, 0, none⟩ k.length cx (k.map Rm.u) hx (by simp) ?_ (rm_one k) ?_ ?_ hbase ?_
  · intro j u hu
    rw [List.getElem?_map] at hu
    cases hk : k[j]? with
    | none => rw [hk] at hu; cases hu
    | some r =>
      rw [hk] at hu
      simp at hu
      rw [Addr.add_mid, Nat.zero_add, hc j r hk, ← hu]
  · unfold maxLen; omega
  · omega
  · intro v' w' hO' hgr hnil hat
    rcases hO'.2 with ⟨h0, _⟩ | ⟨g', cap', cur, hv, _, _, hn, hcap, _, _⟩
    · have := (hnil.1 h0).1
      cases this
    · subst hv
      refine h g' cap' w' ?_ hgr ?_
      · unfold OwnW
        rw [List.length_append, List.map_append]
        exact hO'
      · simp [Value.ownBlock] at hat
        exact hat

/-- A drawn run. -/
structure Rm.drawn (H g : Nat) (w : World) (r : Rm) : Prop where
  at_ : r.at w
  ok : ∀ e ∈ r.es, e.small
  len : r.es.length ≤ 101
  ne : ¬ r.b = g
  new : H ≤ r.b
structure RInv (base cb : Nat) (bv : Value) (n : Nat) (w : World) (g cp : Nat) (l : List Rm) (wr : World) : Prop where
  row : OwnW wr w.heap.size g cp l
  ats : ∀ r ∈ l, r.drawn w.heap.size g wr
  d : DrawAt base cb bv n wr
  c : Chg (fun k => k = cb) w wr
  lt : cb < w.heap.size
  hb : base ≤ w.heap.size
theorem Rm.drawn.chg {S : Nat → Prop} {H g : Nat} {w w' : World} {r : Rm} (h : r.drawn H g w) (hc : Chg S w w') (hn : ¬ S r.b) : r.drawn H g w' := ⟨h.at_.chg hc hn, h.ok, h.len, h.ne, h.new⟩
theorem RInv.call {base cb : Nat} {bv : Value} {n : Nat} {w : World} {g cp : Nat} {l : List Rm} {wr w1 : World} (h : RInv base cb bv n w g cp l wr) (hd : Drew base cb bv n wr w1) : RInv base cb bv n w g cp l w1 := by
  have hg := h.row.lt
  have hl := h.lt
  exact ⟨h.row.chg hd.2 (by omega), fun r hr => (h.ats r hr).chg hd.2 (by have := (h.ats r hr).new; omega), hd.1, h.c.trans hd.2, h.lt, h.hb⟩
theorem RInv.below {base cb : Nat} {bv : Value} {n : Nat} {w : World} {g cp : Nat} {l : List Rm} {wr w1 : World} (h : RInv base cb bv n w g cp l wr) (hb : Below wr.heap.size wr w1) : RInv base cb bv n w g cp l w1 :=
  h.call ⟨h.d.below hb, Chg.of_below hb⟩

def lenOf : Value → Nat
  | .slice _ m _ => m
  | _ => 0
/-- The loop of the cuts. -/
structure CInv (base cb : Nat) (bv : Value) (n : Nat) (w : World) (gw o m q : Nat) (ws : List Ent) (g cp : Nat) (l : List Rm) (wr : World) : Prop extends RInv base cb bv n w g cp l wr where
  ents : EntsAt wr gw o ws
  wl : ws.length = m
  sm : ∀ e ∈ ws, e.small
  wlt : w.heap.size ≤ gw ∧ gw < wr.heap.size
  mc : m ≤ q ∧ q ≤ maxLen
  cnt : m + l.length ≤ 100
  short : ∀ r ∈ l, r.es.length ≤ 100
theorem CInv.call {base cb : Nat} {bv : Value} {n : Nat} {w : World} {gw o m q : Nat} {ws : List Ent} {g cp : Nat} {l : List Rm} {wr w1 : World} (h : CInv base cb bv n w gw o m q ws g cp l wr) (hd : Drew base cb bv n wr w1) : CInv base cb bv n w gw o m q ws g cp l w1 := by
  have hl := h.lt
  have hw := h.wlt
  have hz := hd.2.size
  exact { h.toRInv.call hd with ents := h.ents.chg hd.2 hw.2 (by omega), wl := h.wl, sm := h.sm, wlt := ⟨hw.1, by omega⟩, mc := h.mc, cnt := h.cnt, short := h.short }

set_option maxHeartbeats 4000000 in
theorem l3Runs_core (base cb : Nat) (bv : Value) (n : Nat) (most : Nat) (w : World) (h : DrawAt base cb bv n w) (hm : most ≤ 100) :
    Calls Try.prog 53 #[.pointer (some ⟨cb, 0, none⟩), .int .i64 most] w fun x w' => ∃ (g cp : Nat) (l : List Rm), x = .returned (.slice (some ⟨g, 0, none⟩) l.length cp) ∧ l.length ≤ 100 ∧ (∀ r ∈ l, r.es.length ≤ 100) ∧ RInv base cb bv n w g cp l w' := by
  have HD : Hid (DrawAt base cb bv n w) := h
  have hlt := h.lt
  have hbase := h.base
  clear h
  go_enter Try.func53, Try.ntmps53
  go_wp2_with fail
  refine (writes_core base cb bv n most _ HD.out hm).mono ?_
  rintro e w1 ⟨gw, cw, ws, rfl, hwl, hL1⟩
  obtain ⟨W2, hW2⟩ : ∃ W2 : World, W2 = w1.alloc (Obj.cells #[] 40) := ⟨_, rfl⟩
  have H2 : Hid (CInv base cb bv n w gw 0 ws.length cw ws w1.heap.size 0 [] W2) := by
    have hb : Below w1.heap.size w1 W2 := by rw [hW2]; exact (Below.refl _ _).alloc (Nat.le_refl _) _
    have hg := hL1.row.lt
    have hcap : ws.length ≤ cw ∧ cw ≤ maxLen := by
      rcases hL1.row.2 with ⟨h0, _⟩ | ⟨g', cap', cur, hv, _, _, hn, hcap, _, _⟩
      · cases h0
      · simp only [Value.slice.injEq, Option.some.injEq, Addr.mk.injEq, and_true, true_and] at hv
        obtain ⟨rfl, rfl⟩ := hv
        exact ⟨hn, hcap⟩
    have hs := hb.size
    refine ⟨⟨?_, fun r hr => by simp at hr, hL1.d.below hb, hL1.c.trans (Chg.of_below hb), hlt.2, hbase⟩, hL1.row.at.below hb hg.2, rfl, hL1.ok, ⟨hg.1, by omega⟩, hcap, by simpa using hwl, fun r hr => by simp at hr⟩
    rw [hW2]
    exact World.ownsRow_made w1 #[] 0 hL1.c.size (Nat.zero_le _) (by simp)
  clear hL1
  go_wp2_with fail
  rw [← hW2]
  clear hW2
  go_loopw [5, 6] (fun s o6 wr => ∃ (o m q g cp : Nat) (vs : List Ent) (l : List Rm), s = .slice (some ⟨gw, o, none⟩) m q ∧ o6 = .slice (some ⟨g, 0, none⟩) l.length cp ∧ CInv base cb bv n w gw o m q vs g cp l wr) (fun s _ _ => lenOf s)
  case atStart => exact ⟨0, _, cw, _, 0, ws, [], rfl, rfl, H2.out⟩
  case round =>
    obtain ⟨o, m, q, g, cp, vs, l, rfl, rfl, hC⟩ := hrel
    have HC : Hid (CInv base cb bv n w gw o m q vs g cp l wr) := hC
    clear hC
    by_cases h0 : m = 0
    · have hz : ¬ (0 : Int) < (m : Int) := by omega
      go_wp2_with fail
      go_ret
      exact ⟨g, cp, l, rfl, by have := HC.out.cnt; omega, HC.out.short, HC.out.toRInv⟩
    · have hz : (0 : Int) < (m : Int) := by omega
      have hm1 : m ≤ 100 := by have := HC.out.cnt; omega
      go_wp2_with fail
      refine (below_core base cb bv n (m : Int) _ HC.out.d (by omega) (by omega)).mono ?_
      rintro e w3 ⟨y, rfl, hy0, hy1, hd3⟩
      have H3 : Hid (CInv base cb bv n w gw o m q vs g cp l w3) := HC.out.call hd3
      clear hd3
      obtain ⟨j, hj⟩ : ∃ j : Nat, (1 : Int) + y = (j : Int) := ⟨(1 + y).toNat, by omega⟩
      have hj1 : 1 ≤ j ∧ j ≤ m := by omega
      have hmc := HC.out.mc
      have hjq : j ≤ q := by omega
      go_wp2_with fail
      have ht : (vs.take j).length = j := by rw [List.length_take, HC.out.wl]; omega
      have hbld := specBuild_core gw o q (vs.take j) w3 (H3.out.ents.taken j) (fun e he => (H3.out.sm e (List.mem_of_mem_take he)).ok) H3.out.wlt.2 (by omega)
      rw [ht] at hbld
      refine hbld.mono ?_
      rintro e w4 ⟨g2, cp2, R, rfl, hO2, hb2, hRl, hK, hN⟩
      have hg2 := hO2.lt
      have hok : ∀ e ∈ R, e.small := by
        intro e he
        by_cases hg : GoodW (vs.take j)
        · obtain ⟨i, _, hi, _⟩ := ((hK hg).2 e).1 he
          exact H3.out.sm e (List.mem_of_mem_take (List.mem_of_getElem? hi))
        · rw [hN hg] at he; simp at he
      have hcap : R.length ≤ cp2 ∧ cp2 ≤ maxLen := by
        rcases hO2.2 with ⟨h0, _⟩ | ⟨g', cap', cur, hv, _, _, hn, hcap, _, _⟩
        · cases h0
        · simp only [Value.slice.injEq, Option.some.injEq, Addr.mk.injEq, and_true, true_and] at hv
          obtain ⟨rfl, rfl⟩ := hv
          exact ⟨hn, hcap⟩
      obtain ⟨r, hr⟩ : ∃ r : Rm, r = ⟨g2, 0, cp2, R⟩ := ⟨_, rfl⟩
      have HR : Hid (r.at w4 ∧ (∀ e ∈ r.es, e.small) ∧ r.es.length ≤ j ∧ w3.heap.size ≤ r.b) := by
        rw [hr]; exact ⟨⟨hO2.at, hO2.lt.2, hcap.1, hcap.2⟩, hok, by omega, hg2.1⟩
      have H4 : Hid (CInv base cb bv n w gw o m q vs g cp l w4) := H3.out.call ⟨H3.out.d.below hb2, Chg.of_below hb2⟩
      obtain ⟨W5, hW5⟩ : ∃ W5 : World, W5 = w4.alloc (Obj.cells #[.slice (some ⟨g2, 0, none⟩) R.length cp2] 40) := ⟨_, rfl⟩
      have hb5 : Below w4.heap.size w4 W5 := by rw [hW5]; exact (Below.refl _ _).alloc (Nat.le_refl _) _
      have hz5 : W5.heap.size = w4.heap.size + 1 := by rw [hW5]; simp
      have H5 : Hid (CInv base cb bv n w gw o m q vs g cp l W5) := H4.out.call ⟨H4.out.d.below hb5, Chg.of_below hb5⟩
      have HO5 : Hid (OwnW W5 w.heap.size w4.heap.size 1 [r]) := by
        show OwnW W5 w.heap.size w4.heap.size 1 [r]
        rw [hW5, hr]
        exact World.ownsRow_lit w4 #[.slice (some ⟨g2, 0, none⟩) R.length cp2] 1 H4.out.c.size (by decide) rfl
      clear hO2 hb2 hRl hK hN hok hcap ht hbld
      go_wp2_with (at_builtin; rw [← hW5]; refine wpList_append_runs _ rfl _ _ rfl w.heap.size w4.heap.size 1 1 g l.length cp [r] l rfl rfl rfl rfl ?hO ?hc ?hl ?hb ?_)
      case hO => exact HO5.out
      case hc => exact fun i r' hr' => H5.out.row.cell hr'
      case hl => have := H5.out.cnt; simp; omega
      case hb => exact H5.out.c.size
      intro g' cp' w6 hO' hgr hat
      rw [← hr] at hO'
      rw [← hW5] at hgr
      have H6 : Hid (∀ o', (o' = o + j * 6 ∨ m = j) → CInv base cb bv n w gw o' (m - j) (q - j) (vs.drop j) g' cp' (r :: l) w6) := by
        have hcg : Chg (fun k => k = w4.heap.size) W5 w6 := Chg.of_grown hgr (fun k hk => by cases hk; rfl)
        have hs4 := H4.out.c.size
        have hs5 := hb5.size
        have hcb := H4.out.lt
        have hbb := H4.out.hb
        have hw4 := H4.out.wlt
        have hs6 := hcg.size
        have hwl := H4.out.wl
        have hcnt := H4.out.cnt
        have hcm := H4.out.mc
        have h30 := H3.out.c.size
        intro o' ho'
        refine ⟨⟨hO', ?_, (H5.out.d.chg hcg (by omega) (fun k q => by omega)), ?_, H4.out.lt, H4.out.hb⟩, ?_, by simp [hwl], fun e he => H4.out.sm e (List.mem_of_mem_drop he), ⟨hw4.1, by omega⟩, ⟨by omega, by omega⟩, by simp; omega, ?_⟩
        · intro r' hr'
          rcases List.mem_cons.1 hr' with rfl | hr'
          · have h1 := HR.out.1
            have hl1 := h1.lt
            refine ⟨(h1.chg (Chg.of_below hb5) (S := fun _ => False) (fun q => q)).chg hcg (by show ¬ _ = _; omega), HR.out.2.1, by have := HR.out.2.2.1; omega, by omega, by have := HR.out.2.2.2; omega⟩
          · have h1 := H4.out.ats r' hr'
            have hl1 := h1.at_.lt
            refine ⟨(h1.at_.chg (Chg.of_below hb5) (S := fun _ => False) (fun q => q)).chg hcg (by show ¬ _ = _; omega), h1.ok, h1.len, by omega, h1.new⟩
        · exact Chg.grown_new H5.out.c hgr (fun k hk => by cases hk; omega)
        · rcases ho' with rfl | hmj
          · exact (H5.out.ents.chg hcg (by omega) (by show ¬ _ = _; omega)).dropped j
          · rw [List.drop_of_length_le (by omega)]
            intro i e he
            simp at he
        · intro r' hr'
          rcases List.mem_cons.1 hr' with rfl | hr'
          · have := HR.out.2.2.1; omega
          · exact H4.out.short r' hr'
      clear hO' hgr hat HO5 H5 hb5 hz5 hr H4 HR
      have hmj : (j : Int) ≤ (m : Int) := by omega
      by_cases hqj : q = j
      · have hmq : m = j := by omega
        subst hqj
        go_wp2_with fail
        exact ⟨⟨o, m - q, q - q, g', cp', vs.drop q, r :: l, by simp; omega, by simp [Nat.add_comm], H6.out o (.inr hmq)⟩, by simp [lenOf]; omega⟩
      · go_wp2_with fail
        exact ⟨⟨o + j * 6, m - j, q - j, g', cp', vs.drop j, r :: l, rfl, by simp [Nat.add_comm], H6.out _ (.inl rfl)⟩, by simp [lenOf]; omega⟩
end Go.Proofs.Ytnncedndlhfdkac

/-
  The draws: a range; an entry spoilt.
-/
namespace Go.Proofs.Ytnncedndlhfdkac
open Go.ChangeShapes Go.WideShapes Go.ChangeAt Go.RowKit Go.Deep
set_option linter.unusedVariables false
set_option linter.unusedSimpArgs false
set_option maxRecDepth 100000

/-- Two variables of one struct type of the call's own, beside the drawing: the one at work and the one that is handed back. -/
structure XInv (base cb : Nat) (bv : Value) (n : Nat) (w : World) (T sz vb rb : Nat) (vs zs : List Value) (wr : World) : Prop where
  var : wr.ownsRow w.heap.size T sz (.slice (some ⟨vb, 0, none⟩) 1 1) 1 vs
  res : wr.ownsRow w.heap.size T sz (.slice (some ⟨rb, 0, none⟩) 1 1) 1 zs
  ne : ¬ vb = rb
  d : DrawAt base cb bv n wr
  c : Chg (fun k => k = cb) w wr
  lt : cb < w.heap.size
  hb : base ≤ w.heap.size
theorem XInv.call {base cb : Nat} {bv : Value} {n : Nat} {w : World} {T sz vb rb : Nat} {vs zs : List Value} {wr w1 : World} (h : XInv base cb bv n w T sz vb rb vs zs wr) (hd : Drew base cb bv n wr w1) : XInv base cb bv n w T sz vb rb vs zs w1 :=
  ⟨own_chg h.var hd.2 (fun k q => by have h1 := (World.ownsRow.lt h.var k q).1; have := h.lt; omega), own_chg h.res hd.2 (fun k q => by have h1 := (World.ownsRow.lt h.res k q).1; have := h.lt; omega), h.ne, hd.1, h.c.trans hd.2, h.lt, h.hb⟩
theorem XInv.below {base cb : Nat} {bv : Value} {n : Nat} {w : World} {T sz vb rb : Nat} {vs zs : List Value} {wr w1 : World} (h : XInv base cb bv n w T sz vb rb vs zs wr) (hb : Below wr.heap.size wr w1) : XInv base cb bv n w T sz vb rb vs zs w1 :=
  h.call ⟨h.d.below hb, Chg.of_below hb⟩
theorem XInv.set {base cb : Nat} {bv : Value} {n : Nat} {w : World} {T sz vb rb : Nat} {vs zs : List Value} {wr : World} (h : XInv base cb bv n w T sz vb rb vs zs wr) (j : Nat) (u : Value) : XInv base cb bv n w T sz vb rb (vs.set j u) zs (wr.setCell ⟨vb, j, none⟩ u) := by
  have hl := World.ownsRow.lt h.var vb rfl
  have hcb := h.lt
  have hbb := h.hb
  have hcg : Chg (fun k => k = vb) wr (wr.setCell ⟨vb, j, none⟩ u) := Chg.of_set _ _ _ _ rfl
  exact ⟨(World.ownsRow.stored h.var j u).1, own_chg h.res hcg (fun k q => by simp [Value.ownBlock] at q; subst q; exact fun q => h.ne q.symm), h.ne, h.d.chg hcg (by omega) (fun k q => by omega), Chg.grown_new h.c (grown_set wr vb j u) (fun k hk => by cases hk; exact hl.1), h.lt, h.hb⟩
theorem XInv.setRes {base cb : Nat} {bv : Value} {n : Nat} {w : World} {T sz vb rb : Nat} {vs zs : List Value} {wr : World} (h : XInv base cb bv n w T sz vb rb vs zs wr) (j : Nat) (u : Value) : XInv base cb bv n w T sz vb rb vs (zs.set j u) (wr.setCell ⟨rb, j, none⟩ u) := by
  have hl := World.ownsRow.lt h.res rb rfl
  have hcb := h.lt
  have hbb := h.hb
  have hcg : Chg (fun k => k = rb) wr (wr.setCell ⟨rb, j, none⟩ u) := Chg.of_set _ _ _ _ rfl
  exact ⟨own_chg h.var hcg (fun k q => by simp [Value.ownBlock] at q; subst q; exact h.ne), (World.ownsRow.stored h.res j u).1, h.ne, h.d.chg hcg (by omega) (fun k q => by omega), Chg.grown_new h.c (grown_set wr rb j u) (fun k hk => by cases hk; exact hl.1), h.lt, h.hb⟩
theorem XInv.cell {base cb : Nat} {bv : Value} {n : Nat} {w : World} {T sz vb rb : Nat} {vs zs : List Value} {wr : World} (h : XInv base cb bv n w T sz vb rb vs zs wr) (j : Nat) (hj : j < 1 * sz) : wr.cell? ⟨vb, j, none⟩ = vs[j]? ∧ wr.frozen? ⟨vb, j, none⟩ = false :=
  ⟨World.ownsRow.cellAt h.var j hj, World.ownsRow.frozenAt h.var j⟩
theorem XInv.cellRes {base cb : Nat} {bv : Value} {n : Nat} {w : World} {T sz vb rb : Nat} {vs zs : List Value} {wr : World} (h : XInv base cb bv n w T sz vb rb vs zs wr) (j : Nat) (hj : j < 1 * sz) : wr.cell? ⟨rb, j, none⟩ = zs[j]? ∧ wr.frozen? ⟨rb, j, none⟩ = false :=
  ⟨World.ownsRow.cellAt h.res j hj, World.ownsRow.frozenAt h.res j⟩

abbrev rgv (lo : ByteArray) (hh : Bool) (hi : ByteArray) : List Value := [.string lo, .bool hh, .string hi]
abbrev RX (base cb : Nat) (bv : Value) (n : Nat) (w : World) (vb : Nat) (lo : ByteArray) (hh : Bool) (hi : ByteArray) (wr : World) : Prop := XInv base cb bv n w 31 3 vb w.heap.size (rgv lo hh hi) (rgv ⟨#[]⟩ false ⟨#[]⟩) wr
set_option maxHeartbeats 4000000 in
theorem range_core (base cb : Nat) (bv : Value) (n : Nat) (w : World) (h : DrawAt base cb bv n w) :
    Calls Try.prog 59 #[.pointer (some ⟨cb, 0, none⟩)] w fun r w' => ∃ (lo : ByteArray) (hv : Value) (hi : ByteArray), r = .returned (.agg #[.string lo, hv, .string hi]) ∧ (hv = .bool true ∨ hv = .bool false) ∧ lo.size ≤ 1000 ∧ hi.size ≤ 1000 ∧ Drew base cb bv n w w' := by
  have hlt := h.lt
  have hbase := h.base
  obtain ⟨Wa, hWa⟩ : ∃ Wa : World, Wa = w.alloc (Obj.cells #[.string ⟨#[]⟩, .bool false, .string ⟨#[]⟩] 31) := ⟨_, rfl⟩
  have hba : Below w.heap.size w Wa := by rw [hWa]; exact (Below.refl _ _).alloc (Nat.le_refl _) _
  have hza : Wa.heap.size = w.heap.size + 1 := by rw [hWa]; simp
  obtain ⟨Wb, hWb⟩ : ∃ Wb : World, Wb = Wa.alloc (Obj.cells #[.string ⟨#[]⟩, .bool false, .string ⟨#[]⟩] 31) := ⟨_, rfl⟩
  have hbb : Below Wa.heap.size Wa Wb := by rw [hWb]; exact (Below.refl _ _).alloc (Nat.le_refl _) _
  have H0 : Hid (RX base cb bv n w (w.heap.size + 1) ⟨#[]⟩ false ⟨#[]⟩ Wb) := by
    refine ⟨?_, ?_, by omega, (h.below hba).below hbb, (Chg.of_below hba).trans (Chg.of_below hbb), hlt.2, hbase⟩
    · rw [hWb, ← hza]; exact World.ownsRow_lit Wa #[.string ⟨#[]⟩, .bool false, .string ⟨#[]⟩] 1 (by omega) (by decide) rfl
    · have : Wa.ownsRow w.heap.size 31 3 (.slice (some ⟨w.heap.size, 0, none⟩) 1 1) 1 (rgv ⟨#[]⟩ false ⟨#[]⟩) := by rw [hWa]; exact World.ownsRow_lit w #[.string ⟨#[]⟩, .bool false, .string ⟨#[]⟩] 1 (Nat.le_refl _) (by decide) rfl
      exact own_chg (S := fun _ => False) this (Chg.of_below hbb) (fun k _ q => q)
  clear h hlt
  go_enter Try.func59, Try.ntmps59
  go_wp2_with fail
  rw [← hWa, ← hWb]
  clear hWa hWb hba hbb hza
  generalize w.heap.size + 1 = vb at *
  refine (once_core base cb bv n 2 _ H0.out.d (by omega) (by omega)).mono ?_
  rintro e w1 ⟨v, rfl, hv, hd1⟩
  have H1 : Hid (RX base cb bv n w vb ⟨#[]⟩ false ⟨#[]⟩ w1) := H0.out.call hd1
  clear hd1
  rcases hv with rfl | rfl
  · go_wp2_with fail
    refine (letters_core base cb bv n 0 2 _ H1.out.d (by omega) (by omega) (by omega)).mono ?_
    rintro e w2 ⟨s2, rfl, hs2, hd2⟩
    have H2 : Hid (RX base cb bv n w vb ⟨#[]⟩ false ⟨#[]⟩ w2) := H1.out.call hd2
    clear hd2
    obtain ⟨m0, mf0⟩ := H2.out.cell 0 (by decide)
    simp only [List.getElem?_cons_zero, List.getElem?_cons_succ] at m0
    obtain ⟨W2, hW2⟩ : ∃ W2 : World, W2 = w2.setCell ⟨vb, 0, none⟩ (.string s2) := ⟨_, rfl⟩
    have H2b : Hid (RX base cb bv n w vb s2 false ⟨#[]⟩ W2) := by show RX base cb bv n w vb s2 false ⟨#[]⟩ W2; rw [hW2]; exact H2.out.set 0 (.string s2)
    go_upto_region 4 with fail
    rw [← hW2]
    clear hW2 m0 mf0
    go_wp2_with fail
    refine (once_core base cb bv n 3 _ H2b.out.d (by omega) (by omega)).mono ?_
    rintro e w3 ⟨v, rfl, hv, hd3⟩
    have H3 : Hid (RX base cb bv n w vb s2 false ⟨#[]⟩ w3) := H2b.out.call hd3
    clear hd3
    rcases hv with rfl | rfl
    · obtain ⟨m1, mf1⟩ := H3.out.cell 1 (by decide)
      simp only [List.getElem?_cons_zero, List.getElem?_cons_succ] at m1
      have H3b : Hid (RX base cb bv n w vb s2 true ⟨#[]⟩ (w3.setCell ⟨vb, 1, none⟩ (.bool true))) := H3.out.set 1 (.bool true)
      go_wp2_with fail
      refine (letters_core base cb bv n 1 2 _ H3b.out.d (by omega) (by omega) (by omega)).mono ?_
      rintro e w4 ⟨s4, rfl, hs4, hd4⟩
      have H4 : Hid (RX base cb bv n w vb s2 true ⟨#[]⟩ w4) := H3b.out.call hd4
      clear hd4 m1 mf1
      obtain ⟨m2, mf2⟩ := H4.out.cell 2 (by decide)
      simp only [List.getElem?_cons_zero, List.getElem?_cons_succ] at m2
      obtain ⟨W4, hW4⟩ : ∃ W4 : World, W4 = w4.setCell ⟨vb, 2, none⟩ (.string s4) := ⟨_, rfl⟩
      have H4b : Hid (RX base cb bv n w vb s2 true s4 W4) := by show RX base cb bv n w vb s2 true s4 W4; rw [hW4]; exact H4.out.set 2 (.string s4)
      go_upto_region 7 with fail
      rw [← hW4]
      clear hW4 m2 mf2
      go_wp2_with fail
      refine (once_core base cb bv n 20 _ H4b.out.d (by omega) (by omega)).mono ?_
      rintro e w5 ⟨v, rfl, hv, hd5⟩
      have H5 : Hid (RX base cb bv n w vb s2 true s4 w5) := H4b.out.call hd5
      clear hd5
      rcases hv with rfl | rfl
      · obtain ⟨m2, mf2⟩ := H5.out.cell 2 (by decide)
        simp only [List.getElem?_cons_zero, List.getElem?_cons_succ] at m2
        obtain ⟨W6, hW6⟩ : ∃ W6 : World, W6 = w5.setCell ⟨vb, 2, none⟩ (.string ⟨#[98]⟩) := ⟨_, rfl⟩
        have H6 : Hid (RX base cb bv n w vb s2 true ⟨#[98]⟩ W6) := by show RX base cb bv n w vb s2 true ⟨#[98]⟩ W6; rw [hW6]; exact H5.out.set 2 (.string ⟨#[98]⟩)
        go_upto_region 9 with fail
        rw [← hW6]
        clear hW6 m2 mf2
        obtain ⟨k0, _⟩ := H6.out.cell 0 (by decide)
        obtain ⟨k1, _⟩ := H6.out.cell 1 (by decide)
        obtain ⟨k2, _⟩ := H6.out.cell 2 (by decide)
        obtain ⟨l0, lf0⟩ := H6.out.cellRes 0 (by decide)
        obtain ⟨l1, lf1⟩ := H6.out.cellRes 1 (by decide)
        obtain ⟨l2, lf2⟩ := H6.out.cellRes 2 (by decide)
        simp only [List.getElem?_cons_zero, List.getElem?_cons_succ] at k0 k1 k2 l0 l1 l2
        obtain ⟨W9, hW9⟩ : ∃ W9 : World, W9 = ((W6.setCell ⟨w.heap.size, 0, none⟩ (.string s2)).setCell ⟨w.heap.size, 1, none⟩ (.bool true)).setCell ⟨w.heap.size, 2, none⟩ (.string ⟨#[98]⟩) := ⟨_, rfl⟩
        have H9 := ((H6.out.setRes 0 (.string s2)).setRes 1 (.bool true)).setRes 2 (.string ⟨#[98]⟩)
        rw [← hW9] at H9
        have p0 := (H9.cellRes 0 (by decide)).1
        have p1 := (H9.cellRes 1 (by decide)).1
        have p2 := (H9.cellRes 2 (by decide)).1
        simp only [rgv, List.set_cons_zero, List.set_cons_succ, List.getElem?_cons_zero, List.getElem?_cons_succ] at p0 p1 p2
        have HR : Hid (Drew base cb bv n w W9) := ⟨H9.d, H9.c⟩
        clear H9
        go_wp2_with fail
        rw [← hW9]
        exact bodyPost_ret (v := .agg #[.string s2, .bool true, .string ⟨#[98]⟩]) (by simp [results, Try.results59, go_sem, p0, p1, p2]) rfl ⟨_, _, _, rfl, .inl rfl, by omega, by decide, HR.out.1, HR.out.2⟩
      ·
        obtain ⟨k0, _⟩ := H5.out.cell 0 (by decide)
        obtain ⟨k1, _⟩ := H5.out.cell 1 (by decide)
        obtain ⟨k2, _⟩ := H5.out.cell 2 (by decide)
        obtain ⟨l0, lf0⟩ := H5.out.cellRes 0 (by decide)
        obtain ⟨l1, lf1⟩ := H5.out.cellRes 1 (by decide)
        obtain ⟨l2, lf2⟩ := H5.out.cellRes 2 (by decide)
        simp only [List.getElem?_cons_zero, List.getElem?_cons_succ] at k0 k1 k2 l0 l1 l2
        obtain ⟨W9, hW9⟩ : ∃ W9 : World, W9 = ((w5.setCell ⟨w.heap.size, 0, none⟩ (.string s2)).setCell ⟨w.heap.size, 1, none⟩ (.bool true)).setCell ⟨w.heap.size, 2, none⟩ (.string s4) := ⟨_, rfl⟩
        have H9 := ((H5.out.setRes 0 (.string s2)).setRes 1 (.bool true)).setRes 2 (.string s4)
        rw [← hW9] at H9
        have p0 := (H9.cellRes 0 (by decide)).1
        have p1 := (H9.cellRes 1 (by decide)).1
        have p2 := (H9.cellRes 2 (by decide)).1
        simp only [rgv, List.set_cons_zero, List.set_cons_succ, List.getElem?_cons_zero, List.getElem?_cons_succ] at p0 p1 p2
        have HR : Hid (Drew base cb bv n w W9) := ⟨H9.d, H9.c⟩
        clear H9
        go_wp2_with fail
        rw [← hW9]
        exact bodyPost_ret (v := .agg #[.string s2, .bool true, .string s4]) (by simp [results, Try.results59, go_sem, p0, p1, p2]) rfl ⟨_, _, _, rfl, .inl rfl, by omega, by omega, HR.out.1, HR.out.2⟩
    ·
      go_wp2_with fail
      refine (once_core base cb bv n 20 _ H3.out.d (by omega) (by omega)).mono ?_
      rintro e w5 ⟨v, rfl, hv, hd5⟩
      have H5 : Hid (RX base cb bv n w vb s2 false ⟨#[]⟩ w5) := H3.out.call hd5
      clear hd5
      rcases hv with rfl | rfl
      · obtain ⟨m2, mf2⟩ := H5.out.cell 2 (by decide)
        simp only [List.getElem?_cons_zero, List.getElem?_cons_succ] at m2
        obtain ⟨W6, hW6⟩ : ∃ W6 : World, W6 = w5.setCell ⟨vb, 2, none⟩ (.string ⟨#[98]⟩) := ⟨_, rfl⟩
        have H6 : Hid (RX base cb bv n w vb s2 false ⟨#[98]⟩ W6) := by show RX base cb bv n w vb s2 false ⟨#[98]⟩ W6; rw [hW6]; exact H5.out.set 2 (.string ⟨#[98]⟩)
        go_upto_region 9 with fail
        rw [← hW6]
        clear hW6 m2 mf2
        obtain ⟨k0, _⟩ := H6.out.cell 0 (by decide)
        obtain ⟨k1, _⟩ := H6.out.cell 1 (by decide)
        obtain ⟨k2, _⟩ := H6.out.cell 2 (by decide)
        obtain ⟨l0, lf0⟩ := H6.out.cellRes 0 (by decide)
        obtain ⟨l1, lf1⟩ := H6.out.cellRes 1 (by decide)
        obtain ⟨l2, lf2⟩ := H6.out.cellRes 2 (by decide)
        simp only [List.getElem?_cons_zero, List.getElem?_cons_succ] at k0 k1 k2 l0 l1 l2
        obtain ⟨W9, hW9⟩ : ∃ W9 : World, W9 = ((W6.setCell ⟨w.heap.size, 0, none⟩ (.string s2)).setCell ⟨w.heap.size, 1, none⟩ (.bool false)).setCell ⟨w.heap.size, 2, none⟩ (.string ⟨#[98]⟩) := ⟨_, rfl⟩
        have H9 := ((H6.out.setRes 0 (.string s2)).setRes 1 (.bool false)).setRes 2 (.string ⟨#[98]⟩)
        rw [← hW9] at H9
        have p0 := (H9.cellRes 0 (by decide)).1
        have p1 := (H9.cellRes 1 (by decide)).1
        have p2 := (H9.cellRes 2 (by decide)).1
        simp only [rgv, List.set_cons_zero, List.set_cons_succ, List.getElem?_cons_zero, List.getElem?_cons_succ] at p0 p1 p2
        have HR : Hid (Drew base cb bv n w W9) := ⟨H9.d, H9.c⟩
        clear H9
        go_wp2_with fail
        rw [← hW9]
        exact bodyPost_ret (v := .agg #[.string s2, .bool false, .string ⟨#[98]⟩]) (by simp [results, Try.results59, go_sem, p0, p1, p2]) rfl ⟨_, _, _, rfl, .inr rfl, by omega, by decide, HR.out.1, HR.out.2⟩
      ·
        obtain ⟨k0, _⟩ := H5.out.cell 0 (by decide)
        obtain ⟨k1, _⟩ := H5.out.cell 1 (by decide)
        obtain ⟨k2, _⟩ := H5.out.cell 2 (by decide)
        obtain ⟨l0, lf0⟩ := H5.out.cellRes 0 (by decide)
        obtain ⟨l1, lf1⟩ := H5.out.cellRes 1 (by decide)
        obtain ⟨l2, lf2⟩ := H5.out.cellRes 2 (by decide)
        simp only [List.getElem?_cons_zero, List.getElem?_cons_succ] at k0 k1 k2 l0 l1 l2
        obtain ⟨W9, hW9⟩ : ∃ W9 : World, W9 = ((w5.setCell ⟨w.heap.size, 0, none⟩ (.string s2)).setCell ⟨w.heap.size, 1, none⟩ (.bool false)).setCell ⟨w.heap.size, 2, none⟩ (.string ⟨#[]⟩) := ⟨_, rfl⟩
        have H9 := ((H5.out.setRes 0 (.string s2)).setRes 1 (.bool false)).setRes 2 (.string ⟨#[]⟩)
        rw [← hW9] at H9
        have p0 := (H9.cellRes 0 (by decide)).1
        have p1 := (H9.cellRes 1 (by decide)).1
        have p2 := (H9.cellRes 2 (by decide)).1
        simp only [rgv, List.set_cons_zero, List.set_cons_succ, List.getElem?_cons_zero, List.getElem?_cons_succ] at p0 p1 p2
        have HR : Hid (Drew base cb bv n w W9) := ⟨H9.d, H9.c⟩
        clear H9
        go_wp2_with fail
        rw [← hW9]
        exact bodyPost_ret (v := .agg #[.string s2, .bool false, .string ⟨#[]⟩]) (by simp [results, Try.results59, go_sem, p0, p1, p2]) rfl ⟨_, _, _, rfl, .inr rfl, by omega, by decide, HR.out.1, HR.out.2⟩
  ·
    go_wp2_with fail
    refine (once_core base cb bv n 3 _ H1.out.d (by omega) (by omega)).mono ?_
    rintro e w3 ⟨v, rfl, hv, hd3⟩
    have H3 : Hid (RX base cb bv n w vb ⟨#[]⟩ false ⟨#[]⟩ w3) := H1.out.call hd3
    clear hd3
    rcases hv with rfl | rfl
    · obtain ⟨m1, mf1⟩ := H3.out.cell 1 (by decide)
      simp only [List.getElem?_cons_zero, List.getElem?_cons_succ] at m1
      have H3b : Hid (RX base cb bv n w vb ⟨#[]⟩ true ⟨#[]⟩ (w3.setCell ⟨vb, 1, none⟩ (.bool true))) := H3.out.set 1 (.bool true)
      go_wp2_with fail
      refine (letters_core base cb bv n 1 2 _ H3b.out.d (by omega) (by omega) (by omega)).mono ?_
      rintro e w4 ⟨s4, rfl, hs4, hd4⟩
      have H4 : Hid (RX base cb bv n w vb ⟨#[]⟩ true ⟨#[]⟩ w4) := H3b.out.call hd4
      clear hd4 m1 mf1
      obtain ⟨m2, mf2⟩ := H4.out.cell 2 (by decide)
      simp only [List.getElem?_cons_zero, List.getElem?_cons_succ] at m2
      obtain ⟨W4, hW4⟩ : ∃ W4 : World, W4 = w4.setCell ⟨vb, 2, none⟩ (.string s4) := ⟨_, rfl⟩
      have H4b : Hid (RX base cb bv n w vb ⟨#[]⟩ true s4 W4) := by show RX base cb bv n w vb ⟨#[]⟩ true s4 W4; rw [hW4]; exact H4.out.set 2 (.string s4)
      go_upto_region 7 with fail
      rw [← hW4]
      clear hW4 m2 mf2
      go_wp2_with fail
      refine (once_core base cb bv n 20 _ H4b.out.d (by omega) (by omega)).mono ?_
      rintro e w5 ⟨v, rfl, hv, hd5⟩
      have H5 : Hid (RX base cb bv n w vb ⟨#[]⟩ true s4 w5) := H4b.out.call hd5
      clear hd5
      rcases hv with rfl | rfl
      · obtain ⟨m2, mf2⟩ := H5.out.cell 2 (by decide)
        simp only [List.getElem?_cons_zero, List.getElem?_cons_succ] at m2
        obtain ⟨W6, hW6⟩ : ∃ W6 : World, W6 = w5.setCell ⟨vb, 2, none⟩ (.string ⟨#[98]⟩) := ⟨_, rfl⟩
        have H6 : Hid (RX base cb bv n w vb ⟨#[]⟩ true ⟨#[98]⟩ W6) := by show RX base cb bv n w vb ⟨#[]⟩ true ⟨#[98]⟩ W6; rw [hW6]; exact H5.out.set 2 (.string ⟨#[98]⟩)
        go_upto_region 9 with fail
        rw [← hW6]
        clear hW6 m2 mf2
        obtain ⟨k0, _⟩ := H6.out.cell 0 (by decide)
        obtain ⟨k1, _⟩ := H6.out.cell 1 (by decide)
        obtain ⟨k2, _⟩ := H6.out.cell 2 (by decide)
        obtain ⟨l0, lf0⟩ := H6.out.cellRes 0 (by decide)
        obtain ⟨l1, lf1⟩ := H6.out.cellRes 1 (by decide)
        obtain ⟨l2, lf2⟩ := H6.out.cellRes 2 (by decide)
        simp only [List.getElem?_cons_zero, List.getElem?_cons_succ] at k0 k1 k2 l0 l1 l2
        obtain ⟨W9, hW9⟩ : ∃ W9 : World, W9 = ((W6.setCell ⟨w.heap.size, 0, none⟩ (.string ⟨#[]⟩)).setCell ⟨w.heap.size, 1, none⟩ (.bool true)).setCell ⟨w.heap.size, 2, none⟩ (.string ⟨#[98]⟩) := ⟨_, rfl⟩
        have H9 := ((H6.out.setRes 0 (.string ⟨#[]⟩)).setRes 1 (.bool true)).setRes 2 (.string ⟨#[98]⟩)
        rw [← hW9] at H9
        have p0 := (H9.cellRes 0 (by decide)).1
        have p1 := (H9.cellRes 1 (by decide)).1
        have p2 := (H9.cellRes 2 (by decide)).1
        simp only [rgv, List.set_cons_zero, List.set_cons_succ, List.getElem?_cons_zero, List.getElem?_cons_succ] at p0 p1 p2
        have HR : Hid (Drew base cb bv n w W9) := ⟨H9.d, H9.c⟩
        clear H9
        go_wp2_with fail
        rw [← hW9]
        exact bodyPost_ret (v := .agg #[.string ⟨#[]⟩, .bool true, .string ⟨#[98]⟩]) (by simp [results, Try.results59, go_sem, p0, p1, p2]) rfl ⟨_, _, _, rfl, .inl rfl, by decide, by decide, HR.out.1, HR.out.2⟩
      ·
        obtain ⟨k0, _⟩ := H5.out.cell 0 (by decide)
        obtain ⟨k1, _⟩ := H5.out.cell 1 (by decide)
        obtain ⟨k2, _⟩ := H5.out.cell 2 (by decide)
        obtain ⟨l0, lf0⟩ := H5.out.cellRes 0 (by decide)
        obtain ⟨l1, lf1⟩ := H5.out.cellRes 1 (by decide)
        obtain ⟨l2, lf2⟩ := H5.out.cellRes 2 (by decide)
        simp only [List.getElem?_cons_zero, List.getElem?_cons_succ] at k0 k1 k2 l0 l1 l2
        obtain ⟨W9, hW9⟩ : ∃ W9 : World, W9 = ((w5.setCell ⟨w.heap.size, 0, none⟩ (.string ⟨#[]⟩)).setCell ⟨w.heap.size, 1, none⟩ (.bool true)).setCell ⟨w.heap.size, 2, none⟩ (.string s4) := ⟨_, rfl⟩
        have H9 := ((H5.out.setRes 0 (.string ⟨#[]⟩)).setRes 1 (.bool true)).setRes 2 (.string s4)
        rw [← hW9] at H9
        have p0 := (H9.cellRes 0 (by decide)).1
        have p1 := (H9.cellRes 1 (by decide)).1
        have p2 := (H9.cellRes 2 (by decide)).1
        simp only [rgv, List.set_cons_zero, List.set_cons_succ, List.getElem?_cons_zero, List.getElem?_cons_succ] at p0 p1 p2
        have HR : Hid (Drew base cb bv n w W9) := ⟨H9.d, H9.c⟩
        clear H9
        go_wp2_with fail
        rw [← hW9]
        exact bodyPost_ret (v := .agg #[.string ⟨#[]⟩, .bool true, .string s4]) (by simp [results, Try.results59, go_sem, p0, p1, p2]) rfl ⟨_, _, _, rfl, .inl rfl, by decide, by omega, HR.out.1, HR.out.2⟩
    ·
      go_wp2_with fail
      refine (once_core base cb bv n 20 _ H3.out.d (by omega) (by omega)).mono ?_
      rintro e w5 ⟨v, rfl, hv, hd5⟩
      have H5 : Hid (RX base cb bv n w vb ⟨#[]⟩ false ⟨#[]⟩ w5) := H3.out.call hd5
      clear hd5
      rcases hv with rfl | rfl
      · obtain ⟨m2, mf2⟩ := H5.out.cell 2 (by decide)
        simp only [List.getElem?_cons_zero, List.getElem?_cons_succ] at m2
        obtain ⟨W6, hW6⟩ : ∃ W6 : World, W6 = w5.setCell ⟨vb, 2, none⟩ (.string ⟨#[98]⟩) := ⟨_, rfl⟩
        have H6 : Hid (RX base cb bv n w vb ⟨#[]⟩ false ⟨#[98]⟩ W6) := by show RX base cb bv n w vb ⟨#[]⟩ false ⟨#[98]⟩ W6; rw [hW6]; exact H5.out.set 2 (.string ⟨#[98]⟩)
        go_upto_region 9 with fail
        rw [← hW6]
        clear hW6 m2 mf2
        obtain ⟨k0, _⟩ := H6.out.cell 0 (by decide)
        obtain ⟨k1, _⟩ := H6.out.cell 1 (by decide)
        obtain ⟨k2, _⟩ := H6.out.cell 2 (by decide)
        obtain ⟨l0, lf0⟩ := H6.out.cellRes 0 (by decide)
        obtain ⟨l1, lf1⟩ := H6.out.cellRes 1 (by decide)
        obtain ⟨l2, lf2⟩ := H6.out.cellRes 2 (by decide)
        simp only [List.getElem?_cons_zero, List.getElem?_cons_succ] at k0 k1 k2 l0 l1 l2
        obtain ⟨W9, hW9⟩ : ∃ W9 : World, W9 = ((W6.setCell ⟨w.heap.size, 0, none⟩ (.string ⟨#[]⟩)).setCell ⟨w.heap.size, 1, none⟩ (.bool false)).setCell ⟨w.heap.size, 2, none⟩ (.string ⟨#[98]⟩) := ⟨_, rfl⟩
        have H9 := ((H6.out.setRes 0 (.string ⟨#[]⟩)).setRes 1 (.bool false)).setRes 2 (.string ⟨#[98]⟩)
        rw [← hW9] at H9
        have p0 := (H9.cellRes 0 (by decide)).1
        have p1 := (H9.cellRes 1 (by decide)).1
        have p2 := (H9.cellRes 2 (by decide)).1
        simp only [rgv, List.set_cons_zero, List.set_cons_succ, List.getElem?_cons_zero, List.getElem?_cons_succ] at p0 p1 p2
        have HR : Hid (Drew base cb bv n w W9) := ⟨H9.d, H9.c⟩
        clear H9
        go_wp2_with fail
        rw [← hW9]
        exact bodyPost_ret (v := .agg #[.string ⟨#[]⟩, .bool false, .string ⟨#[98]⟩]) (by simp [results, Try.results59, go_sem, p0, p1, p2]) rfl ⟨_, _, _, rfl, .inr rfl, by decide, by decide, HR.out.1, HR.out.2⟩
      ·
        obtain ⟨k0, _⟩ := H5.out.cell 0 (by decide)
        obtain ⟨k1, _⟩ := H5.out.cell 1 (by decide)
        obtain ⟨k2, _⟩ := H5.out.cell 2 (by decide)
        obtain ⟨l0, lf0⟩ := H5.out.cellRes 0 (by decide)
        obtain ⟨l1, lf1⟩ := H5.out.cellRes 1 (by decide)
        obtain ⟨l2, lf2⟩ := H5.out.cellRes 2 (by decide)
        simp only [List.getElem?_cons_zero, List.getElem?_cons_succ] at k0 k1 k2 l0 l1 l2
        obtain ⟨W9, hW9⟩ : ∃ W9 : World, W9 = ((w5.setCell ⟨w.heap.size, 0, none⟩ (.string ⟨#[]⟩)).setCell ⟨w.heap.size, 1, none⟩ (.bool false)).setCell ⟨w.heap.size, 2, none⟩ (.string ⟨#[]⟩) := ⟨_, rfl⟩
        have H9 := ((H5.out.setRes 0 (.string ⟨#[]⟩)).setRes 1 (.bool false)).setRes 2 (.string ⟨#[]⟩)
        rw [← hW9] at H9
        have p0 := (H9.cellRes 0 (by decide)).1
        have p1 := (H9.cellRes 1 (by decide)).1
        have p2 := (H9.cellRes 2 (by decide)).1
        simp only [rgv, List.set_cons_zero, List.set_cons_succ, List.getElem?_cons_zero, List.getElem?_cons_succ] at p0 p1 p2
        have HR : Hid (Drew base cb bv n w W9) := ⟨H9.d, H9.c⟩
        clear H9
        go_wp2_with fail
        rw [← hW9]
        exact bodyPost_ret (v := .agg #[.string ⟨#[]⟩, .bool false, .string ⟨#[]⟩]) (by simp [results, Try.results59, go_sem, p0, p1, p2]) rfl ⟨_, _, _, rfl, .inr rfl, by decide, by decide, HR.out.1, HR.out.2⟩
end Go.Proofs.Ytnncedndlhfdkac

/-
  The drawing's bytes, as they came in.
-/
namespace Go.Proofs.Ytnncedndlhfdkac
open Go.ChangeShapes Go.WideShapes Go.ChangeAt Go.RowKit Go.Deep
set_option linter.unusedVariables false
set_option linter.unusedSimpArgs false
set_option maxRecDepth 100000

theorem CodeAt.slice {w : World} {base : Nat} {bv : Value} {n : Nat} (h : CodeAt w base bv n) : ∃ a cap, bv = .slice a n cap := by
  rcases h.2 with ⟨a, cap, rfl, rfl⟩ | ⟨b, off, cap, rfl, _⟩
  · exact ⟨_, _, rfl⟩
  · exact ⟨_, _, rfl⟩
theorem CodeAt.up {w w' : World} {bv : Value} {n : Nat} (h : CodeAt w w.heap.size bv n) (hb : Below w.heap.size w w') : CodeAt w' w'.heap.size bv n := by
  refine ⟨h.1, ?_⟩
  rcases h.2 with h | ⟨b, off, cap, rfl, hlt, hc⟩
  · exact .inl h
  · refine .inr ⟨b, off, cap, rfl, by have := hb.size; omega, fun k hk => ?_⟩
    obtain ⟨x, h1, h2⟩ := hc k hk
    exact ⟨x, by rw [hb.cell (p := ⟨b, off + k, none⟩) hlt]; exact h1, h2⟩
def BytesIn (w : World) (v : Value) (n : Nat) : Prop :=
  n ≤ maxLen ∧ ((∃ a cap, v = .slice a 0 cap ∧ n = 0) ∨ ∃ b off cap, v = .slice (some ⟨b, off, none⟩) n cap ∧ b < w.heap.size ∧ ∀ k, k < n → ∃ x : Int, w.cell? ⟨b, off + k, none⟩ = some (.int .u8 x) ∧ 0 ≤ x ∧ x < 256)
theorem BytesIn.slice {w : World} {v : Value} {n : Nat} (h : BytesIn w v n) : ∃ a cap, v = .slice a n cap := by
  rcases h.2 with ⟨a, cap, rfl, rfl⟩ | ⟨b, off, cap, rfl, _⟩
  · exact ⟨_, _, rfl⟩
  · exact ⟨_, _, rfl⟩
theorem BytesIn.code {w : World} {v : Value} {n : Nat} (h : BytesIn w v n) (hn : n ≤ 1048576) : CodeAt w w.heap.size v n := ⟨hn, h.2⟩
theorem bytes_of_trod {H : Type} {enc : TypeId × Value → H} {w : World} {fuel : Nat} {v : Value} {x : DataW H × List MemPlace}
    (h : DataW.trod enc Try.prog w 0 (fun _ => true) true fuel 45 [v] = some x) (hlt : ∀ p ∈ x.2, p.block < w.heap.size) : ∃ n, BytesIn w v n := by
  have hc : Try.prog.cellsOf 5 = 1 := by kernel_rfl
  rcases open_ints Try.underlying45 Try.underlying5 hc h with ⟨hcs, hx⟩ | ⟨a, len, cap, zs, hcs, _, hl, hm, hz, hx, hcell, hwz⟩
  · simp only [List.cons.injEq, and_true] at hcs
    exact ⟨0, Nat.zero_le _, .inl ⟨none, 0, hcs, rfl⟩⟩
  · simp only [List.cons.injEq, and_true] at hcs
    simp only [if_true] at hz
    refine ⟨len, Nat.le_trans hl hm, ?_⟩
    by_cases h0 : len = 0
    · subst h0; exact .inl ⟨some a, cap, hcs, rfl⟩
    · obtain ⟨ab, ao, spot⟩ := a
      have hspot : spot = none := by simpa [Addr.add] using World.cell?_spot (hcell 0 (by omega))
      subst hspot
      refine .inr ⟨ab, ao, cap, hcs, ?_, fun k hk => ?_⟩
      · rw [hx] at hlt
        exact hlt (.cell ab (ao + 0)) (by simp only [MemPlace.row, List.mem_map, List.mem_range]; exact ⟨0, by omega, rfl⟩)
      · have h1 := hcell k (by omega)
        rw [Addr.add_lit] at h1
        have hb := range_u8 hwz k
        rw [List.getD_eq_getElem?_getD] at h1
        exact ⟨_, h1, hb.1, by omega⟩
end Go.Proofs.Ytnncedndlhfdkac

/-
  The draws: the runs and the range of a merge.
-/
namespace Go.Proofs.Ytnncedndlhfdkac
open Go.ChangeShapes Go.WideShapes Go.ChangeAt Go.RowKit Go.Deep
set_option linter.unusedVariables false
set_option linter.unusedSimpArgs false
set_option maxRecDepth 100000

theorem OwnW.mono {w : World} {base base' g cp : Nat} {l : List Rm} (h : OwnW w base g cp l) (hb : base' ≤ base) : OwnW w base' g cp l := by
  refine ⟨h.1, ?_⟩
  rcases h.2 with h0 | ⟨g', cap', cur, hv, h1, h2⟩
  · exact .inl h0
  · exact .inr ⟨g', cap', cur, hv, Nat.le_trans hb h1, h2⟩
/-- One run of the row is spoilt. -/
theorem RInv.spoil {base cb : Nat} {bv : Value} {n : Nat} {w : World} {g cp : Nat} {l : List Rm} {wr w1 : World} (h : RInv base cb bv n w g cp l wr) {r r' : Rm} (hr : l[0]? = some r) (hl : r.es.length ≤ 100) (hs : SpoilOf wr r.b r.es r' w1) (hd : Drew base cb bv n wr w1) : RInv base cb bv n w g cp (l.set 0 r') (w1.setCell ⟨g, 0, none⟩ r'.u) := by
  have h1 := h.call hd
  have hg := h.row.lt
  have hcb := h.lt
  have hbb := h.hb
  have hrb := h.ats r (List.mem_of_getElem? hr)
  have hz := hd.2.size
  have hcs := h.c.size
  have hcg : Chg (fun k => k = g) w1 (w1.setCell ⟨g, 0, none⟩ r'.u) := Chg.of_set _ _ _ _ rfl
  have hlr := hrb.at_.lt
  refine ⟨h1.row.set 0 r', ?_, h1.d.chg hcg (by omega) (fun k q => by omega), Chg.grown_new h1.c (grown_set w1 g 0 _) (fun k hk => by cases hk; omega), h.lt, h.hb⟩
  intro x hx
  rcases List.mem_or_eq_of_mem_set hx with q | rfl
  · exact (h1.ats x q).chg hcg (h1.ats x q).ne
  · have hne : ¬ x.b = g := by
      rcases hs.blk with q | q
      · rw [q]; exact hrb.ne
      · omega
    refine ⟨hs.at_.chg hcg hne, hs.ok, by have := hs.len; omega, hne, ?_⟩
    rcases hs.blk with q | q
    · rw [q]; exact hrb.new
    · omega
/-- One more run. -/
theorem RInv.push {base cb : Nat} {bv : Value} {n : Nat} {w : World} {g cp : Nat} {l : List Rm} {wr w1 w2 : World} {o : Obj} {g2 cp2 : Nat} {R : List Ent} (h : RInv base cb bv n w g cp l wr) (hL : LInv base cb bv n wr g2 cp2 R w1) (hR : R.length ≤ 100) {g' cp' : Nat}
    (hO : OwnW w2 w.heap.size g' cp' (l ++ [⟨g2, 0, cp2, R⟩])) (hgr : (w1.alloc o).grownBy w2 (some g)) (hat : g' = g ∨ g' = w1.heap.size + 1) : RInv base cb bv n w g' cp' (l ++ [⟨g2, 0, cp2, R⟩]) w2 := by
  have hb : Below w1.heap.size w1 (w1.alloc o) := (Below.refl _ _).alloc (Nat.le_refl _) _
  have h1 := (h.call ⟨hL.d, hL.c⟩).below hb
  have hg := h.row.lt
  have hcb := h.lt
  have hbb := h.hb
  have hz := hL.c.size
  have hzo : (w1.alloc o).heap.size = w1.heap.size + 1 := by simp
  have hcs := h.c.size
  have hg2 := hL.row.lt
  have hcg : Chg (fun k => k = g) (w1.alloc o) w2 := Chg.of_grown hgr (fun k hk => by cases hk; rfl)
  have hcap : R.length ≤ cp2 ∧ cp2 ≤ maxLen := by
    rcases hL.row.2 with ⟨h0, _⟩ | ⟨g', cap', cur, hv, _, _, hn, hcap, _, _⟩
    · cases h0
    · simp only [Value.slice.injEq, Option.some.injEq, Addr.mk.injEq, and_true, true_and] at hv
      obtain ⟨rfl, rfl⟩ := hv
      exact ⟨hn, hcap⟩
  refine ⟨hO, ?_, h1.d.chg hcg (by omega) (fun k q => by omega), Chg.grown_new h1.c hgr (fun k hk => by cases hk; omega), h.lt, h.hb⟩
  intro x hx
  rcases List.mem_append.1 hx with q | q
  · have h0 := h.ats x q
    have h2 := h1.ats x q
    have hl := h0.at_.lt
    refine ⟨h2.at_.chg hcg h2.ne, h2.ok, h2.len, ?_, h2.new⟩
    rcases hat with rfl | rfl
    · exact h2.ne
    · omega
  · simp at q
    subst q
    have ha : (⟨g2, 0, cp2, R⟩ : Rm).at w1 := ⟨hL.row.at, hL.row.lt.2, hcap.1, hcap.2⟩
    refine ⟨(ha.below hb).chg hcg (by show ¬ g2 = g; omega), hL.ok, by show R.length ≤ 101; omega, ?_, by show w.heap.size ≤ g2; omega⟩
    show ¬ g2 = g'
    omega

/-- The range's two variables, beside the runs and the drawing. -/
structure MX (bv : Value) (n : Nat) (w : World) (vb g cp : Nat) (l : List Rm) (vs zs : List Value) (wr : World) : Prop where
  row : OwnW wr (w.heap.size + 2) g cp l
  ats : ∀ r ∈ l, r.drawn (w.heap.size + 2) g wr
  gv : ¬ g = vb
  rv : ∀ r ∈ l, ¬ r.b = vb
  var : wr.ownsRow (w.heap.size + 2) 31 3 (.slice (some ⟨vb, 0, none⟩) 1 1) 1 vs
  res : wr.ownsRow w.heap.size 31 3 (.slice (some ⟨w.heap.size, 0, none⟩) 1 1) 1 zs
  below : Below w.heap.size w wr
theorem MX.chg {bv : Value} {n : Nat} {w : World} {vb g cp : Nat} {l : List Rm} {vs zs : List Value} {wr w1 : World} (h : MX bv n w vb g cp l vs zs wr) (hd : Drew (w.heap.size + 1) (w.heap.size + 1) bv n wr w1) : MX bv n w vb g cp l vs zs w1 := by
  have hg := h.row.lt
  have hv := World.ownsRow.lt h.var vb rfl
  have hs := h.below.size
  exact ⟨h.row.chg hd.2 (by omega), fun r hr => (h.ats r hr).chg hd.2 (by have := (h.ats r hr).new; omega), h.gv, h.rv, own_chg h.var hd.2 (fun k q => by simp [Value.ownBlock] at q; subst q; omega), own_chg h.res hd.2 (fun k q => by simp [Value.ownBlock] at q; subst q; omega), Chg.below h.below hd.2 hs (fun k q => by omega)⟩
theorem MX.drew {bv : Value} {n : Nat} {w : World} {vb g cp : Nat} {l : List Rm} {vs zs : List Value} {wr : World} (h : MX bv n w vb g cp l vs zs wr) : MX bv n w vb g cp l vs zs wr.drew := by
  have hb : Below wr.heap.size wr wr.drew := (Below.refl _ _).drew
  have hc : Chg (fun _ => False) wr wr.drew := Chg.of_below hb
  exact ⟨h.row.chg hc id, fun r hr => (h.ats r hr).chg hc id, h.gv, h.rv, own_chg h.var hc (fun k _ q => q), own_chg h.res hc (fun k _ q => q), h.below.trans (hb.mono h.below.size)⟩
theorem MX.set {bv : Value} {n : Nat} {w : World} {vb g cp : Nat} {l : List Rm} {vs zs : List Value} {wr : World} (h : MX bv n w vb g cp l vs zs wr) (j : Nat) (u : Value) : MX bv n w vb g cp l (vs.set j u) zs (wr.setCell ⟨vb, j, none⟩ u) := by
  have hg := h.row.lt
  have hv := World.ownsRow.lt h.var vb rfl
  have hs := h.below.size
  have hcg : Chg (fun k => k = vb) wr (wr.setCell ⟨vb, j, none⟩ u) := Chg.of_set _ _ _ _ rfl
  exact ⟨h.row.chg hcg h.gv, fun r hr => (h.ats r hr).chg hcg (h.rv r hr), h.gv, h.rv, (World.ownsRow.stored h.var j u).1, own_chg h.res hcg (fun k q => by simp [Value.ownBlock] at q; subst q; omega), Chg.below h.below hcg hs (fun k q => by omega)⟩
theorem MX.setRes {bv : Value} {n : Nat} {w : World} {vb g cp : Nat} {l : List Rm} {vs zs : List Value} {wr : World} (h : MX bv n w vb g cp l vs zs wr) (j : Nat) (u : Value) : MX bv n w vb g cp l vs (zs.set j u) (wr.setCell ⟨w.heap.size, j, none⟩ u) := by
  have hg := h.row.lt
  have hv := World.ownsRow.lt h.var vb rfl
  have hs := h.below.size
  have hcg : Chg (fun k => k = w.heap.size) wr (wr.setCell ⟨w.heap.size, j, none⟩ u) := Chg.of_set _ _ _ _ rfl
  exact ⟨h.row.chg hcg (by omega), fun r hr => (h.ats r hr).chg hcg (by have := (h.ats r hr).new; omega), h.gv, h.rv, own_chg h.var hcg (fun k q => by simp [Value.ownBlock] at q; subst q; omega), (World.ownsRow.stored h.res j u).1, Chg.below h.below hcg hs (fun k q => by omega)⟩
theorem MX.cell {bv : Value} {n : Nat} {w : World} {vb g cp : Nat} {l : List Rm} {vs zs : List Value} {wr : World} (h : MX bv n w vb g cp l vs zs wr) (j : Nat) (hj : j < 3) : wr.cell? ⟨vb, j, none⟩ = vs[j]? ∧ wr.frozen? ⟨vb, j, none⟩ = false :=
  ⟨World.ownsRow.cellAt h.var j (by omega), World.ownsRow.frozenAt h.var j⟩
theorem MX.cellRes {bv : Value} {n : Nat} {w : World} {vb g cp : Nat} {l : List Rm} {vs zs : List Value} {wr : World} (h : MX bv n w vb g cp l vs zs wr) (j : Nat) (hj : j < 3) : wr.cell? ⟨w.heap.size, j, none⟩ = zs[j]? ∧ wr.frozen? ⟨w.heap.size, j, none⟩ = false :=
  ⟨World.ownsRow.cellAt h.res j (by omega), World.ownsRow.frozenAt h.res j⟩

/-- What a drawing of a merge gives. -/
structure DrawnM (w : World) (g cp : Nat) (l : List Rm) (w' : World) : Prop where
  row : OwnW w' w.heap.size g cp l
  ats : ∀ r ∈ l, r.drawn w.heap.size g w'
  len : l.length ≤ 200
  below : Below w.heap.size w w'

theorem MX.drawn {bv : Value} {n : Nat} {w : World} {vb g cp : Nat} {l : List Rm} {vs zs : List Value} {wr : World} (h : MX bv n w vb g cp l vs zs wr) (hl : l.length ≤ 200) : DrawnM w g cp l wr :=
  ⟨OwnW.mono h.row (by omega), fun r hr => by have := h.ats r hr; exact ⟨this.at_, this.ok, this.len, this.ne, by have := this.new; omega⟩, hl, h.below⟩

set_option maxHeartbeats 8000000 in
theorem drawMerge_core (bv : Value) (n : Nat) (w : World) (h : CodeAt w w.heap.size bv n) :
    Calls Try.prog 23 #[bv] w fun x w' => ∃ (g cp : Nat) (l : List Rm) (lo hi : ByteArray) (hh : Bool), x = .returned (.tuple #[.slice (some ⟨g, 0, none⟩) l.length cp, .agg #[.string lo, .bool hh, .string hi]]) ∧ DrawnM w g cp l w' := by
  obtain ⟨a, cap, rfl⟩ := h.slice
  have hn := h.1
  obtain ⟨Wa, hWa⟩ : ∃ Wa : World, Wa = w.alloc (Obj.cells #[.string ⟨#[]⟩, .bool false, .string ⟨#[]⟩] 31) := ⟨_, rfl⟩
  have hba : Below w.heap.size w Wa := by rw [hWa]; exact (Below.refl _ _).alloc (Nat.le_refl _) _
  have hza : Wa.heap.size = w.heap.size + 1 := by rw [hWa]; simp
  have HC : Hid (CodeAt Wa Wa.heap.size (.slice a n cap) n) := h.up hba
  clear h
  go_enter Try.func23, Try.ntmps23
  go_wp2_with fail
  rw [← hWa]
  refine (new_core _ n Wa HC.out).mono ?_
  rintro e w1 ⟨rfl, hd1, hb1⟩
  have hz1 := hb1.size
  rw [hza] at hd1 hz1
  have HD1 : Hid (DrawAt (w.heap.size + 1) (w.heap.size + 1) (.slice a n cap) n w1) := hd1
  have hcb1 := hd1.lt
  clear hd1
  go_wp2_with fail
  refine (size_core a n cap w1 hn).mono ?_
  rintro e w1' ⟨k, rfl, hk, hw⟩
  rw [hw]
  clear hw w1'
  go_wp2_with fail
  refine (l3Runs_core (w.heap.size + 1) (w.heap.size + 1) (.slice a n cap) n k w1 HD1.out (Nat.le_trans hk (by decide))).mono ?_
  rintro e w2 ⟨g, cp, l, rfl, hl, hsh, hR2⟩
  have HSh : Hid (∀ r ∈ l, r.es.length ≤ 100) := hsh
  clear hsh
  have HR2 : Hid (RInv (w.heap.size + 1) (w.heap.size + 1) (.slice a n cap) n w1 g cp l w2) := hR2
  clear hR2
  go_upto_region 3 with fail
  go_cut [20] (fun s wx => ∃ b : Bool, s = .bool b ∧ (b = true → 0 < l.length) ∧ RInv (w.heap.size + 1) (w.heap.size + 1) (.slice a n cap) n w1 g cp l wx)
  case first =>
    go_wp2_with fail
    refine (once_core _ _ _ n 15 _ HR2.out.d (by omega) (by omega)).mono ?_
    rintro e w3 ⟨v, rfl, hv, hd3⟩
    have H3 : Hid (RInv (w.heap.size + 1) (w.heap.size + 1) (.slice a n cap) n w1 g cp l w3) := HR2.out.call hd3
    clear hd3
    rcases hv with rfl | rfl
    · go_wp2_with fail
      go_meet
      exact ⟨decide (0 < l.length), rfl, by simp, H3.out⟩
    · go_wp2_with fail
      go_meet
      exact ⟨false, rfl, (fun q => by cases q), H3.out⟩
  case rest =>
    obtain ⟨b, rfl, hb0, hR3⟩ := hcut
    have HR3 : Hid (RInv (w.heap.size + 1) (w.heap.size + 1) (.slice a n cap) n w1 g cp l wc) := hR3
    clear hR3
    go_upto_if 20 with fail
    go_cut [] (fun wx => ∃ l' : List Rm, l'.length = l.length ∧ RInv (w.heap.size + 1) (w.heap.size + 1) (.slice a n cap) n w1 g cp l' wx)
    case first =>
      cases b
      · go_wp2_with fail
        go_meet
        exact ⟨l, rfl, HR3.out⟩
      · obtain ⟨r, hr⟩ : ∃ r, l[0]? = some r := ⟨_, List.getElem?_eq_getElem (hb0 rfl)⟩
        have HA : Hid (l[0]? = some r ∧ r.drawn w1.heap.size g wc) := ⟨hr, HR3.out.ats r (List.mem_of_getElem? hr)⟩
        have c0 := HR3.out.row.cell hr
        have hl0 := hb0 rfl
        clear hr
        go_wp2_with fail
        refine (spoilR_core _ _ _ n r wc HR3.out.d HA.out.2.at_ HA.out.2.ok (by have := HSh.out r (List.mem_of_getElem? HA.out.1); omega) (by have := HA.out.2.new; have := HR3.out.lt; omega)).mono ?_
        rintro e w4 ⟨r', rfl, hs4, hd4⟩
        have H4 : Hid (RInv (w.heap.size + 1) (w.heap.size + 1) (.slice a n cap) n w1 g cp (l.set 0 r') (w4.setCell ⟨g, 0, none⟩ r'.u)) := HR3.out.spoil HA.out.1 (HSh.out r (List.mem_of_getElem? HA.out.1)) hs4 hd4
        have H4b := (HR3.out.call hd4).row
        have c4 := H4b.cell HA.out.1
        have f4 : w4.frozen? ⟨g, 0, none⟩ = false := World.ownsRow.frozenAt H4b 0
        clear hs4 hd4 H4b c0
        go_wp2_with fail
        go_meet
        exact ⟨l.set 0 r', by simp, H4.out⟩
    case rest =>
      obtain ⟨l', hll, hR5⟩ := hcut
      have HR5 : Hid (RInv (w.heap.size + 1) (w.heap.size + 1) (.slice a n cap) n w1 g cp l' wc) := hR5
      clear hR5 HR3 HSh
      rw [← hll]
      have hl' : l'.length ≤ 100 := by omega
      clear hll hl hb0
      go_upto_region 5 with fail
      go_cut [29] (fun s wx => ∃ b : Bool, s = .bool b ∧ RInv (w.heap.size + 1) (w.heap.size + 1) (.slice a n cap) n w1 g cp l' wx)
      case first =>
        go_wp2_with fail
        refine (once_core _ _ _ n 40 _ HR5.out.d (by omega) (by omega)).mono ?_
        rintro e w3 ⟨v, rfl, hv, hd3⟩
        have H3 : Hid (RInv (w.heap.size + 1) (w.heap.size + 1) (.slice a n cap) n w1 g cp l' w3) := HR5.out.call hd3
        clear hd3
        go_wp2_with fail
        go_meet
        rcases hv with rfl | rfl
        · exact ⟨true, rfl, H3.out⟩
        · exact ⟨false, rfl, H3.out⟩
      case rest =>
        obtain ⟨b, rfl, hR6⟩ := hcut
        have HR6 : Hid (RInv (w.heap.size + 1) (w.heap.size + 1) (.slice a n cap) n w1 g cp l' wc) := hR6
        clear hR6 HR5
        go_upto_if 29 with fail
        go_cut [5] (fun s wx => ∃ (g cp : Nat) (l : List Rm), s = .slice (some ⟨g, 0, none⟩) l.length cp ∧ l.length ≤ 200 ∧ RInv (w.heap.size + 1) (w.heap.size + 1) (.slice a n cap) n w1 g cp l wx)
        case first =>
          cases b
          · go_wp2_with fail
            go_meet
            exact ⟨g, cp, l', rfl, by omega, HR6.out⟩
          · go_wp2_with fail
            refine (below_core _ _ _ n 2 wc HR6.out.d (by omega) (by omega)).mono ?_
            rintro e w3 ⟨y, rfl, hy0, hy1, hd3⟩
            have H3 : Hid (RInv (w.heap.size + 1) (w.heap.size + 1) (.slice a n cap) n w1 g cp l' w3) := HR6.out.call hd3
            clear hd3
            obtain ⟨m, hm⟩ : ∃ m : Nat, (50 : Int) + y = (m : Int) := ⟨(50 + y).toNat, by omega⟩
            have hm1 : m ≤ 51 := by omega
            go_wp2_with fail
            go_loopw [5] (fun s wr => ∃ (g cp : Nat) (l : List Rm), s = .slice (some ⟨g, 0, none⟩) l.length cp ∧ l.length ≤ 100 ∧ RInv (w.heap.size + 1) (w.heap.size + 1) (.slice a n cap) n w1 g cp l wr) (fun s _ => 100 - lenOf s)
            case atStart => exact ⟨g, cp, l', rfl, hl', H3.out⟩
            case round =>
              obtain ⟨g5, cp5, l5, rfl, hl5, hR⟩ := hrel
              have HR : Hid (RInv (w.heap.size + 1) (w.heap.size + 1) (.slice a n cap) n w1 g5 cp5 l5 wr) := hR
              clear hR
              by_cases hlm : l5.length < m
              · have hz : (l5.length : Int) < (m : Int) := by omega
                have hzb := HR.out.c.size
                have hg5 := HR.out.row.lt
                go_wp2_with fail
                refine (run_core _ _ _ n 2 wr HR.out.d (by omega)).mono ?_
                rintro e w4 ⟨g2, cp2, R, rfl, hRl, hL4⟩
                have HL4 : Hid (LInv (w.heap.size + 1) (w.heap.size + 1) (.slice a n cap) n wr g2 cp2 R w4 ∧ R.length ≤ 100) := ⟨hL4, hRl⟩
                have hz4 := hL4.c.size
                clear hL4
                go_wp2_with (at_builtin; refine wpList_append_runs _ rfl _ _ rfl w1.heap.size g5 cp5 l5.length w4.heap.size 1 1 l5 [⟨g2, 0, cp2, R⟩] rfl rfl rfl rfl ?hO ?hc ?hl ?hb ?_)
                case hO => exact ((HR.out.call ⟨HL4.out.1.d, HL4.out.1.c⟩).below ((Below.refl _ _).alloc (Nat.le_refl _) _)).row
                case hc =>
                  intro i r hr
                  cases i with
                  | zero => simp at hr; subst hr; simp
                  | succ i => simp at hr
                case hl => simp; omega
                case hb => simp; omega
                intro g' cp' w6 hO' hgr hat
                have H6 : Hid (RInv (w.heap.size + 1) (w.heap.size + 1) (.slice a n cap) n w1 g' cp' (l5 ++ [⟨g2, 0, cp2, R⟩]) w6) := HR.out.push HL4.out.1 HL4.out.2 hO' hgr hat
                clear hO' hgr hat
                go_wp2_with fail
                go_roundw
                case rel => exact ⟨g', cp', l5 ++ [⟨g2, 0, cp2, R⟩], by simp, by simp; omega, H6.out⟩
                case measure => go_light; simp [lenOf]; omega
              · have hz : ¬ (l5.length : Int) < (m : Int) := by omega
                go_wp2_with fail
                go_meet
                exact ⟨g5, cp5, l5, rfl, by omega, HR.out⟩
        case rest =>
          obtain ⟨gl, cl, L, rfl, hL, hR7⟩ := hcut
          have HR7 : Hid (RInv (w.heap.size + 1) (w.heap.size + 1) (.slice a n cap) n w1 gl cl L wc) := hR7
          clear hR7 HR6
          have hs7 := HR7.out.c.size
          have hg7 := HR7.out.row.lt
          have hcb7 := HR7.out.lt
          obtain ⟨W8, hW8⟩ : ∃ W8 : World, W8 = wc.alloc (Obj.cells #[.string ⟨#[]⟩, .bool false, .string ⟨#[]⟩] 31) := ⟨_, rfl⟩
          have HD8 : Hid (DrawAt (w.heap.size + 1) (w.heap.size + 1) (.slice a n cap) n W8) := HR7.out.d.below (by rw [hW8]; exact (Below.refl _ _).alloc (Nat.le_refl _) _)
          have H8 : Hid (MX (.slice a n cap) n w wc.heap.size gl cl L (rgv ⟨#[]⟩ false ⟨#[]⟩) (rgv ⟨#[]⟩ false ⟨#[]⟩) W8) := by
            have hb8 : Below wc.heap.size wc W8 := by rw [hW8]; exact (Below.refl _ _).alloc (Nat.le_refl _) _
            have hr8 := HR7.out.below hb8
            have kb : Below w.heap.size w wc := Chg.below (hba.trans (hb1.mono (by omega))) HR7.out.c (by omega) (fun k q => by omega)
            refine ⟨OwnW.mono hr8.row (by omega), fun r hr => ?_, by omega, fun r hr => ?_, ?_, ?_, kb.trans (hb8.mono (by omega))⟩
            · have h0 := hr8.ats r hr
              exact ⟨h0.at_, h0.ok, h0.len, h0.ne, by have := h0.new; omega⟩
            · have := (HR7.out.ats r hr).at_.lt
              omega
            · rw [hW8]
              exact World.ownsRow_lit wc #[.string ⟨#[]⟩, .bool false, .string ⟨#[]⟩] 1 (by omega) (by decide) rfl
            · have h0 : Wa.ownsRow w.heap.size 31 3 (.slice (some ⟨w.heap.size, 0, none⟩) 1 1) 1 (rgv ⟨#[]⟩ false ⟨#[]⟩) := by
                rw [hWa]
                exact World.ownsRow_lit w #[.string ⟨#[]⟩, .bool false, .string ⟨#[]⟩] 1 (Nat.le_refl _) (by decide) rfl
              have h1 := own_chg h0 (Chg.of_below (S := fun _ => False) hb1) (fun k _ q => q)
              have h2 := own_chg h1 HR7.out.c (fun k q => by simp [Value.ownBlock] at q; subst q; omega)
              exact own_chg h2 (Chg.of_below (S := fun _ => False) hb8) (fun k _ q => q)
          have hv8 : w.heap.size + 2 ≤ wc.heap.size := by omega
          go_wp2_with fail
          rw [← hW8]
          clear hW8
          generalize wc.heap.size = vb at *
          refine (once_core _ _ _ n 2 W8 HD8.out (by omega) (by omega)).mono ?_
          rintro e w9 ⟨v, rfl, hv, hd9⟩
          have H9 : Hid (MX (.slice a n cap) n w vb gl cl L (rgv ⟨#[]⟩ false ⟨#[]⟩) (rgv ⟨#[]⟩ false ⟨#[]⟩) w9) := H8.out.chg hd9
          have HD9 : Hid (DrawAt (w.heap.size + 1) (w.heap.size + 1) (.slice a n cap) n w9) := hd9.1
          clear hd9 H8 HD8
          rcases hv with rfl | rfl
          · go_wp2_with fail
            refine (range_core _ _ _ n w9 HD9.out).mono ?_
            rintro e wA ⟨lo, hv, hi, rfl, hh, _, _, hdA⟩
            have HA : Hid (MX (.slice a n cap) n w vb gl cl L (rgv ⟨#[]⟩ false ⟨#[]⟩) (rgv ⟨#[]⟩ false ⟨#[]⟩) wA) := H9.out.chg hdA
            obtain ⟨b, rfl⟩ : ∃ b : Bool, hv = .bool b := by
              rcases hh with h | h
              · exact ⟨true, h⟩
              · exact ⟨false, h⟩
            clear hdA hh H9
            obtain ⟨c0, f0⟩ := HA.out.cell 0 (by decide)
            obtain ⟨c1, f1⟩ := HA.out.cell 1 (by decide)
            obtain ⟨c2, f2⟩ := HA.out.cell 2 (by decide)
            simp only [List.getElem?_cons_zero, List.getElem?_cons_succ] at c0 c1 c2
            obtain ⟨WB, hWB⟩ : ∃ WB : World, WB = ((wA.setCell ⟨vb, 0, none⟩ (.string lo)).setCell ⟨vb, 1, none⟩ (.bool b)).setCell ⟨vb, 2, none⟩ (.string hi) := ⟨_, rfl⟩
            have hB := ((HA.out.set 0 (.string lo)).set 1 (.bool b)).set 2 (.string hi)
            rw [← hWB] at hB
            have HB : Hid (MX (.slice a n cap) n w vb gl cl L (rgv lo b hi) (rgv ⟨#[]⟩ false ⟨#[]⟩) WB) := hB
            clear hB HA
            go_upto_region 12 with fail
            rw [← hWB]
            clear hWB c0 c1 c2 f0 f1 f2
            obtain ⟨k0, _⟩ := HB.out.cell 0 (by decide)
            obtain ⟨k1, _⟩ := HB.out.cell 1 (by decide)
            obtain ⟨k2, _⟩ := HB.out.cell 2 (by decide)
            obtain ⟨l0, lf0⟩ := HB.out.cellRes 0 (by decide)
            obtain ⟨l1, lf1⟩ := HB.out.cellRes 1 (by decide)
            obtain ⟨l2, lf2⟩ := HB.out.cellRes 2 (by decide)
            simp only [List.getElem?_cons_zero, List.getElem?_cons_succ] at k0 k1 k2 l0 l1 l2
            obtain ⟨WZ, hWZ⟩ : ∃ WZ : World, WZ = (((WB.setCell ⟨w.heap.size, 0, none⟩ (.string lo)).setCell ⟨w.heap.size, 1, none⟩ (.bool b)).setCell ⟨w.heap.size, 2, none⟩ (.string hi)).drew := ⟨_, rfl⟩
            have HZ := (((HB.out.setRes 0 (.string lo)).setRes 1 (.bool b)).setRes 2 (.string hi)).drew
            rw [← hWZ] at HZ
            have p0 := (HZ.cellRes 0 (by decide)).1
            have p1 := (HZ.cellRes 1 (by decide)).1
            have p2 := (HZ.cellRes 2 (by decide)).1
            simp only [rgv, List.set_cons_zero, List.set_cons_succ, List.getElem?_cons_zero, List.getElem?_cons_succ] at p0 p1 p2
            have HE : Hid (DrawnM w gl cl L WZ) := HZ.drawn hL
            clear HZ
            go_wp2_with fail
            go_region
            go_wp2_with fail
            rw [← hWZ]
            exact bodyPost_ret (v := .tuple #[.slice (some ⟨gl, 0, none⟩) L.length cl, .agg #[.string lo, .bool b, .string hi]]) (by simp [results, Try.results23, go_sem, p0, p1, p2]) rfl ⟨gl, cl, L, lo, hi, b, rfl, HE.out⟩
          · obtain ⟨k0, _⟩ := H9.out.cell 0 (by decide)
            obtain ⟨k1, _⟩ := H9.out.cell 1 (by decide)
            obtain ⟨k2, _⟩ := H9.out.cell 2 (by decide)
            obtain ⟨l0, lf0⟩ := H9.out.cellRes 0 (by decide)
            obtain ⟨l1, lf1⟩ := H9.out.cellRes 1 (by decide)
            obtain ⟨l2, lf2⟩ := H9.out.cellRes 2 (by decide)
            simp only [List.getElem?_cons_zero, List.getElem?_cons_succ] at k0 k1 k2 l0 l1 l2
            obtain ⟨WZ, hWZ⟩ : ∃ WZ : World, WZ = (((w9.setCell ⟨w.heap.size, 0, none⟩ (.string ⟨#[]⟩)).setCell ⟨w.heap.size, 1, none⟩ (.bool false)).setCell ⟨w.heap.size, 2, none⟩ (.string ⟨#[]⟩)).drew := ⟨_, rfl⟩
            have HZ := (((H9.out.setRes 0 (.string ⟨#[]⟩)).setRes 1 (.bool false)).setRes 2 (.string ⟨#[]⟩)).drew
            rw [← hWZ] at HZ
            have p0 := (HZ.cellRes 0 (by decide)).1
            have p1 := (HZ.cellRes 1 (by decide)).1
            have p2 := (HZ.cellRes 2 (by decide)).1
            simp only [rgv, List.set_cons_zero, List.set_cons_succ, List.getElem?_cons_zero, List.getElem?_cons_succ] at p0 p1 p2
            have HE : Hid (DrawnM w gl cl L WZ) := HZ.drawn hL
            clear HZ
            go_wp2_with fail
            go_region
            go_wp2_with fail
            rw [← hWZ]
            exact bodyPost_ret (v := .tuple #[.slice (some ⟨gl, 0, none⟩) L.length cl, .agg #[.string ⟨#[]⟩, .bool false, .string ⟨#[]⟩]]) (by simp [results, Try.results23, go_sem, p0, p1, p2]) rfl ⟨gl, cl, L, ⟨#[]⟩, ⟨#[]⟩, false, rfl, HE.out⟩
end Go.Proofs.Ytnncedndlhfdkac

/-
  The drawing's bytes, as they came in; runs of a drawing as runs in memory.
-/
namespace Go.Proofs.Ytnncedndlhfdkac
open Go.ChangeShapes Go.WideShapes Go.ChangeAt Go.RowKit Go.Deep
set_option linter.unusedVariables false
set_option linter.unusedSimpArgs false
set_option maxRecDepth 100000

theorem DrawnM.at {w : World} {g cp : Nat} {l : List Rm} {w' : World} (h : DrawnM w g cp l w') : RmsAt w' g 0 l := by
  intro i r hr
  rw [Nat.zero_add]
  exact ⟨h.row.cell hr, (h.ats r (List.mem_of_getElem? hr)).at_⟩
theorem DrawnM.ok {w : World} {g cp : Nat} {l : List Rm} {w' : World} (h : DrawnM w g cp l w') : okM l := fun r hr e he => ((h.ats r hr).ok e he).ok
theorem DrawnM.short {w : World} {g cp : Nat} {l : List Rm} {w' : World} (h : DrawnM w g cp l w') : ∀ es ∈ esM l, es.length ≤ 101 := by
  intro es he
  obtain ⟨r, hr, rfl⟩ := List.mem_map.1 he
  exact (h.ats r hr).len
end Go.Proofs.Ytnncedndlhfdkac

/-
  Writes cut into runs: the runs together show what the writes show (no memory).
-/
namespace Go.Proofs.Ytnncedndlhfdkac
set_option linter.unusedVariables false
set_option linter.unusedSimpArgs false

/-- The largest delete of a column. -/
theorem largest_of : ∀ (q : List Ent) (v : Ent), v ∈ q → v.kind = 2 → ∃ d ∈ q, d.kind = 2 ∧ sameCol d v = true ∧ v.ts ≤ d.ts ∧ ∀ u ∈ q, u.kind = 2 → sameCol u v = true → u.ts ≤ d.ts
  | [], v, hv, _ => by simp at hv
  | a :: q, v, hv, hk => by
    have hvv : sameCol v v = true := by rw [sameCol_iff]; exact ⟨rfl, rfl, rfl⟩
    by_cases hq : ∃ u ∈ q, u.kind = 2 ∧ sameCol u v = true
    · obtain ⟨u, hu, hu2, huv⟩ := hq
      obtain ⟨d, hd, hd2, hdu, hul, hmax⟩ := largest_of q u hu hu2
      have hdv : sameCol d v = true := by rw [sameCol_iff] at *; exact ⟨hdu.1.trans huv.1, hdu.2.1.trans huv.2.1, hdu.2.2.trans huv.2.2⟩
      have hmax' : ∀ x ∈ q, x.kind = 2 → sameCol x v = true → x.ts ≤ d.ts := fun x hx h2 h3 => hmax x hx h2 (by rw [sameCol_iff] at *; exact ⟨h3.1.trans huv.1.symm, h3.2.1.trans huv.2.1.symm, h3.2.2.trans huv.2.2.symm⟩)
      by_cases ha : a.kind = 2 ∧ sameCol a v = true ∧ d.ts < a.ts
      · refine ⟨a, by simp, ha.1, ha.2.1, ?_, fun x hx h2 h3 => ?_⟩
        · rcases List.mem_cons.1 hv with rfl | hv
          · exact Int.le_refl _
          · have := hmax' v hv hk hvv; omega
        · rcases List.mem_cons.1 hx with rfl | hx
          · exact Int.le_refl _
          · have := hmax' x hx h2 h3; omega
      · have hal : a.kind = 2 → sameCol a v = true → a.ts ≤ d.ts := fun h1 h2 => by
          by_cases h3 : d.ts < a.ts
          · exact absurd ⟨h1, h2, h3⟩ ha
          · omega
        refine ⟨d, List.mem_cons_of_mem _ hd, hd2, hdv, ?_, fun x hx h2 h3 => ?_⟩
        · rcases List.mem_cons.1 hv with rfl | hv
          · exact hal hk hvv
          · exact hmax' v hv hk hvv
        · rcases List.mem_cons.1 hx with rfl | hx
          · exact hal h2 h3
          · exact hmax' x hx h2 h3
    · have hva : v = a := by
        rcases List.mem_cons.1 hv with h | h
        · exact h
        · exact absurd ⟨v, h, hk, hvv⟩ hq
      subst hva
      refine ⟨v, by simp, hk, hvv, Int.le_refl _, fun x hx h2 h3 => ?_⟩
      rcases List.mem_cons.1 hx with rfl | hx
      · exact Int.le_refl _
      · exact absurd ⟨x, hx, h2, h3⟩ hq
theorem kills_iff {v e : Ent} : kills v e = true ↔ sameCol v e = true ∧ ((v.kind = 2 ∧ e.ts ≤ v.ts) ∨ (¬ v.kind = 2 ∧ v.ts = e.ts)) := by
  unfold kills
  by_cases h : v.kind = 2 <;> simp [h]
theorem sameCol_trans {a b c : Ent} (h : sameCol a b = true) (k : sameCol b c = true) : sameCol a c = true := by
  rw [sameCol_iff] at *; exact ⟨h.1.trans k.1, h.2.1.trans k.2.1, h.2.2.trans k.2.2⟩
/-- A column's delete among the writes: the kept one does at least as much. -/
theorem kept_del {p R : List Ent} (hk : Kept p p.length R) {v x : Ent} (hv : v ∈ p) (h2 : v.kind = 2) (hx : kills v x = true) : ∃ d ∈ R, kills d x = true := by
  obtain ⟨d, hd, hd2, hdv, hvd, hmax⟩ := largest_of p v hv h2
  obtain ⟨i, hi⟩ := List.getElem?_of_mem hd
  have hlt := (List.getElem?_eq_some_iff.1 hi).1
  refine ⟨d, (hk.2 d).2 ⟨i, hlt, hi, .inr ⟨hd2, fun u hu hu2 hud => hmax u hu hu2 (sameCol_trans hud hdv)⟩⟩, ?_⟩
  rw [kills_iff] at hx ⊢
  rcases hx.2 with ⟨_, h⟩ | ⟨h, _⟩
  · exact ⟨sameCol_trans hdv hx.1, .inl ⟨hd2, by omega⟩⟩
  · exact absurd h2 h
theorem kept_kills {p R : List Ent} (hk : Kept p p.length R) : ∀ (n i : Nat) (v x : Ent), p.length - i ≤ n → p[i]? = some v → kills v x = true → ∃ d ∈ R, kills d x = true
  | 0, i, v, x, hn, hv, _ => by have := (List.getElem?_eq_some_iff.1 hv).1; omega
  | n + 1, i, v, x, hn, hv, hx => by
    have hlt := (List.getElem?_eq_some_iff.1 hv).1
    by_cases h2 : v.kind = 2
    · exact kept_del hk (List.mem_of_getElem? hv) h2 hx
    · by_cases hs : Stands p i
      · exact ⟨v, (hk.2 v).2 ⟨i, hlt, hv, .inl ⟨h2, hs⟩⟩, hx⟩
      · obtain ⟨j, u, hij, hu, huv⟩ : ∃ j u, i < j ∧ p[j]? = some u ∧ kills u v = true := by
          refine Classical.byContradiction fun hno => hs fun j u e h1 h3 h4 => ?_
          rw [hv] at h4
          simp at h4
          subst h4
          cases hkk : kills u v with
          | false => rfl
          | true => exact absurd ⟨j, u, h1, h3, hkk⟩ hno
        have hux : kills u x = true := by
          rw [kills_iff] at hx huv ⊢
          rcases hx.2 with ⟨h, _⟩ | ⟨_, h⟩
          · exact absurd h h2
          · refine ⟨sameCol_trans huv.1 hx.1, ?_⟩
            rcases huv.2 with ⟨h3, h4⟩ | ⟨h3, h4⟩
            · exact .inl ⟨h3, by omega⟩
            · exact .inr ⟨h3, by omega⟩
        exact kept_kills hk n j u x (by omega) hu hux
theorem kept_sub {p R : List Ent} {k : Nat} (hk : Kept p k R) : ∀ x ∈ R, x ∈ p := fun x hx => by
  obtain ⟨i, _, hi, _⟩ := (hk.2 x).1 hx
  exact List.mem_of_getElem? hi
theorem kept_same {p R : List Ent} (hk : Kept p p.length R) (x : Ent) : (∃ d ∈ R, kills d x = true) ↔ ∃ v ∈ p, kills v x = true := by
  constructor
  · rintro ⟨d, hd, h⟩; exact ⟨d, kept_sub hk d hd, h⟩
  · rintro ⟨v, hv, h⟩
    obtain ⟨i, hi⟩ := List.getElem?_of_mem hv
    exact kept_kills hk p.length i v x (by omega) hi h
theorem kept_nonempty {p R : List Ent} (hk : Kept p p.length R) (hp : 0 < p.length) : 0 < R.length := by
  obtain ⟨v, hv⟩ : ∃ v, p[p.length - 1]? = some v := ⟨_, List.getElem?_eq_getElem (by omega)⟩
  by_cases h2 : v.kind = 2
  · obtain ⟨d, hd, _⟩ := kept_del (x := v) hk (List.mem_of_getElem? hv) h2 (by rw [kills_iff, sameCol_iff]; exact ⟨⟨rfl, rfl, rfl⟩, .inl ⟨h2, Int.le_refl _⟩⟩)
    exact List.length_pos_of_mem hd
  · have : v ∈ R := (hk.2 v).2 ⟨p.length - 1, by omega, hv, .inl ⟨h2, fun j u e h1 h3 _ => by have := (List.getElem?_eq_some_iff.1 h3).1; omega⟩⟩
    exact List.length_pos_of_mem this
/-- Runs, newest first, of writes cut into pieces. -/
inductive Cuts : List Ent → List (List Ent) → Prop where
  | nil : Cuts [] []
  | cut {ws : List Ent} {rs : List (List Ent)} {p R : List Ent} : Cuts ws rs → Kept p p.length R → Cuts (ws ++ p) (R :: rs)
theorem stands_left {ws p : List Ent} {i : Nat} {x : Ent} (hx : ws[i]? = some x) : Stands (ws ++ p) i ↔ Stands ws i ∧ ∀ v ∈ p, kills v x = false := by
  have hi := (List.getElem?_eq_some_iff.1 hx).1
  constructor
  · intro h
    refine ⟨fun j v e h1 h2 h3 => ?_, fun v hv => ?_⟩
    · have hj := (List.getElem?_eq_some_iff.1 h2).1
      exact h j v e h1 (by rw [List.getElem?_append_left hj]; exact h2) (by rw [List.getElem?_append_left hi]; exact h3)
    · obtain ⟨j, hj⟩ := List.getElem?_of_mem hv
      exact h (ws.length + j) v x (by omega) (by rw [List.getElem?_append_right (by omega), show ws.length + j - ws.length = j by omega]; exact hj) (by rw [List.getElem?_append_left hi]; exact hx)
  · rintro ⟨h1, h2⟩ j v e hij hv he
    rw [List.getElem?_append_left hi, hx] at he
    simp at he
    subst he
    by_cases hj : j < ws.length
    · rw [List.getElem?_append_left hj] at hv
      exact h1 j v x hij hv hx
    · rw [List.getElem?_append_right (by omega)] at hv
      exact h2 v (List.mem_of_getElem? hv)
theorem stands_right {ws p : List Ent} {i : Nat} : Stands (ws ++ p) (ws.length + i) ↔ Stands p i := by
  constructor
  · intro h j v e h1 h2 h3
    exact h (ws.length + j) v e (by omega) (by rw [List.getElem?_append_right (by omega), show ws.length + j - ws.length = j by omega]; exact h2) (by rw [List.getElem?_append_right (by omega), show ws.length + i - ws.length = i by omega]; exact h3)
  · intro h j v e h1 h2 h3
    rw [List.getElem?_append_right (by omega)] at h2 h3
    rw [show ws.length + i - ws.length = i by omega] at h3
    exact h (j - ws.length) v e (by omega) h2 h3
theorem cuts_show {ws : List Ent} {rs : List (List Ent)} (h : Cuts ws rs) : ∀ x : Ent, x.kind = 0 → ((∃ i es, rs[i]? = some es ∧ x ∈ es ∧ ¬ HidTo rs i x) ↔ ∃ i, ws[i]? = some x ∧ Stands ws i) := by
  induction h with
  | nil => intro x _; simp
  | @cut ws rs p R hc hk ih =>
    intro x hx
    have hx2 : ¬ x.kind = 2 := by omega
    have hhid : ∀ i, HidTo (R :: rs) (i + 1) x ↔ (∃ d ∈ R, kills d x = true) ∨ HidTo rs i x := by
      intro i
      constructor
      · rintro ⟨m, ds, d, h1, h2, h3, h4⟩
        cases m with
        | zero => simp at h2; subst h2; exact .inl ⟨d, h3, h4⟩
        | succ m => exact .inr ⟨m, ds, d, by omega, by simpa using h2, h3, h4⟩
      · rintro (⟨d, h3, h4⟩ | ⟨m, ds, d, h1, h2, h3, h4⟩)
        · exact ⟨0, R, d, by omega, rfl, h3, h4⟩
        · exact ⟨m + 1, ds, d, by omega, by simpa using h2, h3, h4⟩
    have hall : (¬ ∃ d ∈ R, kills d x = true) ↔ ∀ v ∈ p, kills v x = false := by
      rw [kept_same hk x]
      constructor
      · intro h v hv
        cases hq : kills v x with
        | false => rfl
        | true => exact absurd ⟨v, hv, hq⟩ h
      · rintro h ⟨v, hv, hq⟩
        rw [h v hv] at hq
        cases hq
    constructor
    · rintro ⟨i, es, h1, h2, h3⟩
      cases i with
      | zero =>
        simp at h1
        subst h1
        obtain ⟨j, hj, hp, hkeep⟩ := (hk.2 x).1 h2
        rcases hkeep with ⟨_, hs⟩ | ⟨h, _⟩
        · exact ⟨ws.length + j, by rw [List.getElem?_append_right (by omega), show ws.length + j - ws.length = j by omega]; exact hp, stands_right.2 hs⟩
        · exact absurd h hx2
      | succ i =>
        rw [hhid] at h3
        obtain ⟨j, hj, hs⟩ := (ih x hx).1 ⟨i, es, by simpa using h1, h2, fun q => h3 (.inr q)⟩
        exact ⟨j, by rw [List.getElem?_append_left (List.getElem?_eq_some_iff.1 hj).1]; exact hj, (stands_left hj).2 ⟨hs, hall.1 (fun q => h3 (.inl q))⟩⟩
    · rintro ⟨i, hi, hs⟩
      by_cases hlt : i < ws.length
      · rw [List.getElem?_append_left hlt] at hi
        obtain ⟨h1, h2⟩ := (stands_left hi).1 hs
        obtain ⟨m, es, h3, h4, h5⟩ := (ih x hx).2 ⟨i, hi, h1⟩
        refine ⟨m + 1, es, by simpa using h3, h4, ?_⟩
        rw [hhid]
        rintro (q | q)
        · exact (hall.2 h2) q
        · exact h5 q
      · obtain ⟨j, rfl⟩ : ∃ j, i = ws.length + j := ⟨i - ws.length, by omega⟩
        rw [List.getElem?_append_right (by omega), show ws.length + j - ws.length = j by omega] at hi
        exact ⟨0, R, rfl, (hk.2 x).2 ⟨j, (List.getElem?_eq_some_iff.1 hi).1, hi, .inl ⟨hx2, stands_right.1 hs⟩⟩, hidTo_zero _ _⟩
theorem rep_stands {ws L : List Ent} (h : Rep ws ws.length L) (x : Ent) : x ∈ L ↔ x.kind = 0 ∧ ∃ i, ws[i]? = some x ∧ Stands ws i := by
  refine (h.2 x).trans ⟨?_, ?_⟩
  · rintro ⟨i, hi, h1, h2, h3⟩
    exact ⟨h2, i, h1, fun j v e hij hv he => h3 j v e hij (List.getElem?_eq_some_iff.1 hv).1 hv he⟩
  · rintro ⟨h2, i, h1, h3⟩
    exact ⟨i, (List.getElem?_eq_some_iff.1 h1).1, h1, h2, fun j v e hij _ hv he => h3 j v e hij hv he⟩
/-- What the runs show is what the writes show. -/
theorem cuts_merge {ws L M : List Ent} {rs : List (List Ent)} {inr : ByteArray → Bool} (hc : Cuts ws rs) (hL : Rep ws ws.length L) (hM : Mrg rs inr M) : M = L.filter fun x => inr x.row := by
  refine ord_ext hM.1 (List.Pairwise.filter _ hL.1) (fun x => ?_)
  rw [List.mem_filter, rep_stands hL x, hM.2 x]
  constructor
  · rintro ⟨i, j, ⟨es, h1, h2⟩, h3, h4, h5⟩
    exact ⟨⟨h3, (cuts_show hc x h3).1 ⟨i, es, h1, List.mem_of_getElem? h2, h5⟩⟩, h4⟩
  · rintro ⟨⟨h3, h6⟩, h4⟩
    obtain ⟨i, es, h1, h2, h5⟩ := (cuts_show hc x h3).2 h6
    obtain ⟨j, hj⟩ := List.getElem?_of_mem h2
    exact ⟨i, j, ⟨es, h1, hj⟩, h3, h4, h5⟩
theorem kept_good {p R : List Ent} (hg : GoodW p) (hk : Kept p p.length R) (hl : R.length ≤ p.length) : GoodR R := by
  refine ⟨⟨Nat.le_trans hl hg.1, fun x hx => hg.2 x (kept_sub hk x hx)⟩, fun i a b ha hb => ?_⟩
  have hkey := ord_get hk.1 (Nat.lt_succ_self i) ha hb
  unfold okPair
  simp only [hkey, Bool.and_eq_true, Bool.not_eq_true', beq_iff_eq, true_and]
  cases hq : ((a.kind == 2) && ((b.kind == 2) && sameCol a b)) with
  | false => rfl
  | true =>
    exfalso
    simp only [Bool.and_eq_true, beq_iff_eq] at hq
    obtain ⟨ha2, hb2, hab⟩ := hq
    obtain ⟨_, _, _, ka⟩ := (hk.2 a).1 (List.mem_of_getElem? ha)
    obtain ⟨_, _, _, kb⟩ := (hk.2 b).1 (List.mem_of_getElem? hb)
    have la : Largest p a := by rcases ka with ⟨h, _⟩ | ⟨_, h⟩; exact absurd ha2 h; exact h
    have lb : Largest p b := by rcases kb with ⟨h, _⟩ | ⟨_, h⟩; exact absurd hb2 h; exact h
    have h1 := la b (kept_sub hk b (List.mem_of_getElem? hb)) hb2 (by rw [sameCol_comm]; exact hab)
    have h2 := lb a (kept_sub hk a (List.mem_of_getElem? ha)) ha2 hab
    rw [sameCol_iff] at hab
    have : keyCmp a b = 0 := keyCmp_zero.2 ⟨hab.1, hab.2.1, hab.2.2, by simp [ha2, hb2], by omega⟩
    omega
theorem cuts_len {ws : List Ent} {rs : List (List Ent)} (h : Cuts ws rs) (hg : GoodW ws) (hl : ∀ es ∈ rs, GoodR es) (hn : rs.length ≤ 50) : GoodRs rs := ⟨hn, hl⟩
end Go.Proofs.Ytnncedndlhfdkac

/-
  The draws: a list of writes, one of them perhaps spoilt.
-/
namespace Go.Proofs.Ytnncedndlhfdkac
open Go.ChangeShapes Go.WideShapes Go.ChangeAt Go.RowKit Go.Deep
set_option linter.unusedVariables false
set_option linter.unusedSimpArgs false
set_option maxRecDepth 100000

structure DrawnW (w : World) (g cp : Nat) (es : List Ent) (w' : World) : Prop where
  row : OwnE w' w.heap.size g cp es
  ok : ∀ e ∈ es, e.small
  len : es.length ≤ 100
  below : Below w.heap.size w w'
theorem LInv.drawn {cb : Nat} {bv : Value} {n : Nat} {w w1 : World} {g cp : Nat} {es : List Ent} {wr : World} (h : LInv cb cb bv n w1 g cp es wr) (hb : Below w.heap.size w w1) (hl : es.length ≤ 100) (hcb : w.heap.size ≤ cb) : DrawnW w g cp es wr := by
  have := hb.size
  have := h.lt
  exact ⟨OwnE.mono h.row (by omega), h.ok, hl, Chg.below hb h.c (by omega) (fun k q => by omega)⟩

set_option maxHeartbeats 4000000 in
theorem drawBuild_core (bv : Value) (n : Nat) (w : World) (h : CodeAt w w.heap.size bv n) :
    Calls Try.prog 63 #[bv] w fun x w' => ∃ (g cp : Nat) (es : List Ent), x = .returned (.slice (some ⟨g, 0, none⟩) es.length cp) ∧ DrawnW w g cp es w' := by
  obtain ⟨a, cap, rfl⟩ := h.slice
  have hn := h.1
  have HC : Hid (CodeAt w w.heap.size (.slice a n cap) n) := h
  clear h
  go_enter Try.func63, Try.ntmps63
  go_wp2_with fail
  refine (new_core _ n w HC.out).mono ?_
  rintro e w1 ⟨rfl, hd1, hb1⟩
  have hz1 := hb1.size
  have HD1 : Hid (DrawAt w.heap.size w.heap.size (.slice a n cap) n w1) := hd1
  have hcb1 := hd1.lt
  clear hd1
  go_wp2_with fail
  refine (size_core a n cap w1 hn).mono ?_
  rintro e w1' ⟨k, rfl, hk, hw⟩
  rw [hw]
  clear hw w1'
  go_wp2_with fail
  refine (writes_core w.heap.size w.heap.size (.slice a n cap) n k w1 HD1.out (Nat.le_trans hk (by decide))).mono ?_
  rintro e w2 ⟨g, cp, es, rfl, hl, hL2⟩
  have HL2 : Hid (LInv w.heap.size w.heap.size (.slice a n cap) n w1 g cp es w2) := hL2
  clear hL2
  go_upto_region 3 with fail
  go_cut [18] (fun s wx => ∃ b : Bool, s = .bool b ∧ (b = true → 0 < es.length) ∧ LInv w.heap.size w.heap.size (.slice a n cap) n w1 g cp es wx)
  case first =>
    go_wp2_with fail
    refine (once_core _ _ _ n 15 _ HL2.out.d (by omega) (by omega)).mono ?_
    rintro e w3 ⟨v, rfl, hv, hd3⟩
    have H3 : Hid (LInv w.heap.size w.heap.size (.slice a n cap) n w1 g cp es w3) := HL2.out.call hd3
    clear hd3
    rcases hv with rfl | rfl
    · go_wp2_with fail
      go_meet
      exact ⟨decide (0 < es.length), rfl, by simp, H3.out⟩
    · go_wp2_with fail
      go_meet
      exact ⟨false, rfl, (fun q => by cases q), H3.out⟩
  case rest =>
    obtain ⟨b, rfl, hb0, hR3⟩ := hcut
    have HR3 : Hid (LInv w.heap.size w.heap.size (.slice a n cap) n w1 g cp es wc) := hR3
    clear hR3
    cases b
    · go_wp2_with fail
      go_ret
      exact ⟨g, cp, es, rfl, HR3.out.drawn hb1 hl (Nat.le_refl _)⟩
    · have h0 := hb0 rfl
      clear hb0
      have hm1 : es.length ≤ 1048576 := by omega
      obtain ⟨m, hm⟩ : ∃ m, es.length = m := ⟨_, rfl⟩
      rw [hm] at h0 hl hm1
      rw [hm]
      have HM : Hid (es.length = m) := hm
      clear hm
      go_wp2_with fail
      refine (below_core _ _ _ n (m : Int) wc HR3.out.d (by omega) (by omega)).mono ?_
      rintro e w3 ⟨i, rfl, hi0, hi1, hd3⟩
      obtain ⟨i, rfl⟩ := Int.eq_ofNat_of_zero_le hi0
      clear hi0
      have H3 : Hid (LInv w.heap.size w.heap.size (.slice a n cap) n w1 g cp es w3) := HR3.out.call hd3
      clear hd3
      obtain ⟨x, hx⟩ : ∃ x, es[i]? = some x := ⟨_, List.getElem?_eq_getElem (by have := HM.out; omega)⟩
      have HX : Hid (es[i]? = some x ∧ x.small) := ⟨hx, H3.out.ok x (List.mem_of_getElem? hx)⟩
      clear hx
      obtain ⟨⟨c0, c1, c2, c3, c4, c5⟩, _⟩ := H3.out.at6 i x HX.out.1
      go_wp2_with fail
      refine (spoilE_core _ _ _ n x w3 H3.out.d HX.out.2).mono ?_
      rintro e w4 ⟨y, rfl, hy, hd4⟩
      have H4 : Hid (LInv w.heap.size w.heap.size (.slice a n cap) n w1 g cp es w4 ∧ y.small) := ⟨H3.out.call hd4, hy⟩
      clear hd4 hy c0 c1 c2 c3 c4 c5
      obtain ⟨⟨c0, c1, c2, c3, c4, c5⟩, f1⟩ := H4.out.1.at6 i x HX.out.1
      have f00 := f1 (i * 6)
      have f01 := f1 (i * 6 + 1)
      have f02 := f1 (i * 6 + 2)
      have f03 := f1 (i * 6 + 3)
      have f04 := f1 (i * 6 + 4)
      have f05 := f1 (i * 6 + 5)
      have H5 : Hid (LInv w.heap.size w.heap.size (.slice a n cap) n w1 g cp (es.set i y) ((((((w4.setCell ⟨g, i * 6, none⟩ (.string y.row)).setCell ⟨g, i * 6 + 1, none⟩ (.string y.fam)).setCell ⟨g, i * 6 + 2, none⟩ (.string y.qual)).setCell ⟨g, i * 6 + 3, none⟩ (.int .u64 y.ts)).setCell ⟨g, i * 6 + 4, none⟩ (.int .i64 y.kind)).setCell ⟨g, i * 6 + 5, none⟩ (.string y.val))) := H4.out.1.put i x y HX.out.1 H4.out.2
      clear f1
      go_wp2_with fail
      go_ret
      exact ⟨g, cp, es.set i y, by simp [HM.out], H5.out.drawn hb1 (by rw [List.length_set, HM.out]; exact hl) (Nat.le_refl _)⟩
theorem drawReplay_core (bv : Value) (n : Nat) (w : World) (h : CodeAt w w.heap.size bv n) :
    Calls Try.prog 26 #[bv] w fun x w' => ∃ (g cp : Nat) (es : List Ent), x = .returned (.slice (some ⟨g, 0, none⟩) es.length cp) ∧ DrawnW w g cp es w' := by
  have HC : Hid (CodeAt w w.heap.size bv n) := h
  clear h
  go_enter Try.func26, Try.ntmps26
  go_wp2_with fail
  refine (drawBuild_core bv n w HC.out).mono ?_
  rintro e w1 ⟨g, cp, es, rfl, hD⟩
  have HD : Hid (DrawnW w g cp es w1) := hD
  clear hD
  go_wp2_with fail
  go_ret
  exact ⟨g, cp, es, rfl, HD.out⟩
end Go.Proofs.Ytnncedndlhfdkac

