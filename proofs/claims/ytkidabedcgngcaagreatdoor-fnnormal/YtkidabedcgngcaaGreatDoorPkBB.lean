import Derived.Deep.RegionLaw
import Derived.Maps.AppendAt
import Derived.Deep.AppendLies
import Derived.Test.YtkidabedcgngcaaGreatDoorPkBA
import Derived.Test.YtkidabedcgngcaaGreatDoorPkAW
import Derived.Test.YtkidabedcgngcaaGreatDoorPkAK
import Derived.Test.YtkidabedcgngcaaGreatDoorPkAL
/-
  impl.foldTree over stepOf.
-/
namespace Go.Proofs.YtkidabedcgngcaaGreatDoor
open Go.ChangeShapes Go.WideShapes Go.ChangeAt Go.RowKit Go.Deep
set_option linter.unusedVariables false
set_option linter.unusedSimpArgs false
set_option maxRecDepth 100000

def FRow (w : World) (base g cp : Nat) (ps : List (Nat × Array Value)) : Prop := w.ownsRow base 58 1 (.slice (some ⟨g, 0, none⟩) ps.length cp) ps.length (ps.map fvC)
theorem FRow.lt {w : World} {base g cp : Nat} {ps : List (Nat × Array Value)} (h : FRow w base g cp ps) : base ≤ g ∧ g < w.heap.size := World.ownsRow.lt h g rfl
theorem FRow.chg {S : Nat → Prop} {w w' : World} {base g cp : Nat} {ps : List (Nat × Array Value)} (h : FRow w base g cp ps) (hc : Chg S w w') (hn : ¬ S g) : FRow w' base g cp ps := own_chg h hc (fun k q => by simp [Value.ownBlock] at q; subst q; exact hn)
theorem FRow.cell {w : World} {base g cp : Nat} {ps : List (Nat × Array Value)} (h : FRow w base g cp ps) {j : Nat} {p : Nat × Array Value} (hp : ps[j]? = some p) : w.cell? ⟨g, j, none⟩ = some (fvC p) := by
  have := World.ownsRow.cellAt h j (by have := (List.getElem?_eq_some_iff.1 hp).1; omega)
  rw [this, List.getElem?_map, hp]
  rfl
theorem FRow.caps {w : World} {base g cp : Nat} {ps : List (Nat × Array Value)} (h : FRow w base g cp ps) : ps.length ≤ cp ∧ cp ≤ maxLen := by
  rcases h.2 with ⟨h0, _⟩ | ⟨g', cap', cur, hv, _, _, hn, hcap, _, _⟩
  · cases h0
  · simp at hv
    obtain ⟨_, rfl⟩ := hv
    exact ⟨hn, hcap⟩
theorem FRow.take {w : World} {base g cp : Nat} {ps : List (Nat × Array Value)} (h : FRow w base g cp ps) {k : Nat} (hk : k ≤ ps.length) : FRow w base g cp (ps.take k) := by
  obtain ⟨h1, h2⟩ := h
  rcases h2 with ⟨h0, _⟩ | ⟨g', cap', cur, hv, ha, hb, hn, hcap, hd, he⟩
  · cases h0
  · simp only [Value.slice.injEq, Option.some.injEq, Addr.mk.injEq] at hv
    obtain ⟨⟨rfl, _⟩, _, rfl⟩ := hv
    have hl : (ps.take k).length = k := by rw [List.length_take]; omega
    unfold FRow
    rw [hl]
    refine ⟨by simp; omega, .inr ⟨_, _, cur, rfl, ha, hb, by omega, hcap, hd, ?_⟩⟩
    rw [List.map_take, ← he, List.take_take]
    congr 1
    omega
theorem Tryz.infoFs : (Tryz.prog.info? 58).map (fun i => (i.zero, i.size, i.bytes)) = some (some .nilFunc, 1, 8) := by kernel_rfl
structure AppF (w w' : World) (base g n cp : Nat) (ps qs : List (Nat × Array Value)) (g' cp' : Nat) : Prop where
  own : FRow w' base g' cp' (ps ++ qs)
  grown : w.grownBy w' (some g)
  at_ : g' = g ∨ g' = w.heap.size
theorem append_fs {w w' : World} {v' : Value} {base g cp m : Nat} {ps qs : List (Nat × Array Value)} (hO' : w'.ownsRow base 58 1 v' (ps.length + m) (ps.map fvC ++ qs.map fvC)) (hm : m = qs.length) (hgr : w.grownBy w' (some g)) (hnil : v' = .slice none 0 0 ↔ (Value.slice (some ⟨g, 0, none⟩) ps.length cp) = .slice none 0 0 ∧ m = 0) (hat : v'.ownBlock = some g ∨ v'.ownBlock = some w.heap.size) : ∃ g' cp', v' = .slice (some ⟨g', 0, none⟩) (ps.length + m) cp' ∧ AppF w w' base g ps.length cp ps qs g' cp' := by
  subst hm
  rcases hO'.2 with ⟨h0, _⟩ | ⟨g', cap', cur, hv, _, _, hn, hcap, _, _⟩
  · have := (hnil.1 h0).1
    cases this
  · subst hv
    refine ⟨g', cap', rfl, ⟨?_, hgr, ?_⟩⟩
    · unfold FRow
      rw [List.length_append, List.map_append]
      exact hO'
    · simp [Value.ownBlock] at hat
      exact hat
theorem one_fv (qs : List (Nat × Array Value)) : ∀ u ∈ qs.map fvC, u.oneCell' = true := by
  intro u hu
  obtain ⟨p, _, rfl⟩ := List.mem_map.1 hu
  rfl
theorem wpList_append_fs {ops : Array Oper} {rest : List Oper} {o : Oper} {a : Act} {Q : Exit → Act → World → Prop} (w : World) (hgd : o.guard = none) (s x : Operand)
    (ho : o.op = .call { callee := .builtin .append, args := #[s, x], argTypes := #[105, 105] })
    (base g cp n b off m cx : Nat) (ps qs : List (Nat × Array Value)) (hs : a.eval s = .slice (some ⟨g, 0, none⟩) n cp) (hx : a.eval x = .slice (some ⟨b, off, none⟩) m cx) (hn : n = ps.length) (hm : m = qs.length) (hO : FRow w base g cp ps)
    (hc : ∀ j p, qs[j]? = some p → w.cell? ⟨b, off + j, none⟩ = some (fvC p)) (hlen : ps.length + qs.length ≤ 2 ^ 30) (hbase : base ≤ w.heap.size)
    (h : ∀ g' cp' w', AppF w w' base g n cp ps qs g' cp' → wpList Tryz.prog ops Q rest (a.put o.dst (.slice (some ⟨g', 0, none⟩) (n + m) cp')) w') : wpList Tryz.prog ops Q (o :: rest) a w := by
  subst hn
  obtain ⟨i, hi, hz0, hz1, hz2⟩ := info_parts Tryz.infoFs
  refine wpList_append_own_at w hgd s x 105 ho base 58 i _ 1 8 Tryz.underlying105 hi hz0 hz1 hz2 rfl (by decide) (.slice (some ⟨g, 0, none⟩) ps.length cp) ps.length (ps.map fvC) hs hO ⟨b, off, none⟩ m cx (qs.map fvC) hx (by simp [hm]) (fun j u hu => ?_) (one_fv qs) ?_ ?_ hbase ?_
  · rw [List.getElem?_map] at hu
    rw [Addr.add_mid]
    cases hq : qs[j]? with
    | none => rw [hq] at hu; cases hu
    | some p => rw [hq] at hu; cases hu; exact hc j p hq
  · unfold maxLen; omega
  · omega
  · intro v' w' hO' hgr hnil hat
    obtain ⟨g', cp', rfl, hA⟩ := append_fs hO' hm hgr hnil hat
    exact h g' cp' w' hA

/-- Steps beside each other, none of them using block g. -/
structure Stps (lo g : Nat) (ps : List (Nat × Array Value)) (ts : List CT) (Rs : List (Nat → Prop)) (w : World) : Prop where
  l1 : ps.length = ts.length
  l2 : ps.length = Rs.length
  step : ∀ (i : Nat) (p : Nat × Array Value) (t : CT) (R : Nat → Prop), ps[i]? = some p → ts[i]? = some t → Rs[i]? = some R → StepAt w t R (fvC p)
  bnd : ∀ (i : Nat) (R : Nat → Prop), Rs[i]? = some R → ∀ k, R k → lo ≤ k ∧ k < w.heap.size ∧ ¬ k = g
  disj : ∀ (i j : Nat) (R Q : Nat → Prop), Rs[i]? = some R → Rs[j]? = some Q → ¬ i = j → ∀ k, R k → ¬ Q k
theorem Stps.chg {lo g g' : Nat} {ps : List (Nat × Array Value)} {ts : List CT} {Rs : List (Nat → Prop)} {w w' : World} (h : Stps lo g ps ts Rs w) (hc : Chg (fun k => k = g) w w') (hV : ¬ 1 = g) (hg : g' = g ∨ w.heap.size ≤ g') : Stps lo g' ps ts Rs w' := by
  refine ⟨h.l1, h.l2, fun i p t R h1 h2 h3 => (h.step i p t R h1 h2 h3).chg hc hV (fun k q z => (h.bnd i R h3 k z).2.2 q), fun i R h1 k z => ?_, h.disj⟩
  have h9 := h.bnd i R h1 k z
  exact ⟨h9.1, Nat.lt_of_lt_of_le h9.2.1 hc.size, by omega⟩
theorem Stps.below {lo g : Nat} {ps : List (Nat × Array Value)} {ts : List CT} {Rs : List (Nat → Prop)} {w w' : World} (h : Stps lo g ps ts Rs w) (hb : Below w.heap.size w w') : Stps lo g ps ts Rs w' := by
  refine ⟨h.l1, h.l2, fun i p t R h1 h2 h3 => (h.step i p t R h1 h2 h3).below hb, fun i R h1 k z => ?_, h.disj⟩
  have h9 := h.bnd i R h1 k z
  exact ⟨h9.1, Nat.lt_of_lt_of_le h9.2.1 hb.size, h9.2.2⟩
theorem Stps.push {lo g fr : Nat} {ps : List (Nat × Array Value)} {ts : List CT} {Rs : List (Nat → Prop)} {X w : World} (h : Stps lo g ps ts Rs X) (hb : Below X.heap.size X w) (hfr : fr ≤ ps.length) (hlo : lo ≤ X.heap.size) (hg : g < X.heap.size) {f : Nat × Array Value} {t : CT} {R : Nat → Prop} (hS : StepAt w t R (fvC f)) (hR : ∀ k, R k → (∃ (i : Nat) (Q : Nat → Prop), fr ≤ i ∧ Rs[i]? = some Q ∧ Q k) ∨ (X.heap.size ≤ k ∧ k < w.heap.size)) : Stps lo g (ps.take fr ++ [f]) (ts.take fr ++ [t]) (Rs.take fr ++ [R]) w := by
  have hW := h.below hb
  have e1 := h.l1
  have e2 := h.l2
  have lp : (ps.take fr).length = fr := by rw [List.length_take]; omega
  have lt : (ts.take fr).length = fr := by rw [List.length_take]; omega
  have lr : (Rs.take fr).length = fr := by rw [List.length_take]; omega
  have bR : ∀ k, R k → lo ≤ k ∧ k < w.heap.size ∧ ¬ k = g := fun k z => by
    rcases hR k z with ⟨i, Q, _, hQ, hk⟩ | q
    · exact hW.bnd i Q hQ k hk
    · exact ⟨by omega, q.2, by omega⟩
  have dR : ∀ (i : Nat) (Q : Nat → Prop), i < fr → Rs[i]? = some Q → ∀ k, R k → ¬ Q k := fun i Q hi hQ k z y => by
    rcases hR k z with ⟨i', Q', hi', hQ', hk⟩ | q
    · exact h.disj i' i Q' Q hQ' hQ (by omega) k hk y
    · have := (h.bnd i Q hQ k y).2.1; omega
  refine ⟨by simp only [List.length_append, lp, lt]; rfl, by simp only [List.length_append, lp, lr]; rfl, fun i p u Q h1 h2 h3 => ?_, fun i Q h1 k z => ?_, fun i j A B h1 h2 hij k z y => ?_⟩
  · by_cases hi : i < fr
    · rw [List.getElem?_append_left (by omega), List.getElem?_take, if_pos hi] at h1 h2 h3
      exact hW.step i p u Q h1 h2 h3
    · by_cases hi2 : i = fr
      · subst hi2
        rw [List.getElem?_append_right (by omega)] at h1 h2 h3
        rw [lp, Nat.sub_self] at h1
        rw [lt, Nat.sub_self] at h2
        rw [lr, Nat.sub_self] at h3
        cases h1; cases h2; cases h3
        exact hS
      · rw [List.getElem?_eq_none (by rw [List.length_append, lp]; simp; omega)] at h1
        cases h1
  · by_cases hi : i < fr
    · rw [List.getElem?_append_left (by omega), List.getElem?_take, if_pos hi] at h1
      exact hW.bnd i Q h1 k z
    · by_cases hi2 : i = fr
      · subst hi2
        rw [List.getElem?_append_right (by omega), lr, Nat.sub_self] at h1
        cases h1
        exact bR k z
      · rw [List.getElem?_eq_none (by rw [List.length_append, lr]; simp; omega)] at h1
        cases h1
  · have gt : ∀ (i : Nat) (A : Nat → Prop), (Rs.take fr ++ [R])[i]? = some A → (i < fr ∧ Rs[i]? = some A) ∨ (i = fr ∧ A = R) := fun i A h1 => by
      by_cases hi : i < fr
      · rw [List.getElem?_append_left (by omega), List.getElem?_take, if_pos hi] at h1
        exact .inl ⟨hi, h1⟩
      · by_cases hi2 : i = fr
        · subst hi2
          rw [List.getElem?_append_right (by omega), lr, Nat.sub_self] at h1
          cases h1
          exact .inr ⟨rfl, rfl⟩
        · rw [List.getElem?_eq_none (by rw [List.length_append, lr]; simp; omega)] at h1
          cases h1
    rcases gt i A h1 with ⟨hi, hA⟩ | ⟨hi, rfl⟩
    · rcases gt j B h2 with ⟨hj, hB⟩ | ⟨hj, rfl⟩
      · exact h.disj i j A B hA hB hij k z y
      · exact dR i A hi hA k y z
    · rcases gt j B h2 with ⟨hj, hB⟩ | ⟨hj, rfl⟩
      · exact dR j B hj hB k z y
      · omega
theorem SoP.mono {t : CT} {Q Q' : Nat → Prop} {w : World} {e : Ending} {w' : World} (h : SoP t Q w e w') (hq : ∀ k, Q k → Q' k) : SoP t Q' w e w' := by
  obtain ⟨f, h1, H⟩ := h
  obtain ⟨R, h2, h3, h4⟩ := H.out
  refine ⟨f, h1, R, h2, fun k z => ?_, h4⟩
  rcases h3 k z with q | q
  · exact .inl (hq k q)
  · exact .inr q
theorem sto_all (e : Nd) (hg : GoodN e) (b off cx m lo g : Nat) (ps : List (Nat × Array Value)) (ts : List CT) (Rs : List (Nat → Prop)) (X : World) (hT : TabD X) (h : Stps lo g ps ts Rs X) (hm : m = ps.length) (ha : ps.length = arity e.kind) (hb : b < X.heap.size) (hc : ∀ (i : Nat) (p : Nat × Array Value), ps[i]? = some p → X.cell? ⟨b, off + i, none⟩ = some (fvC p)) : Calls Tryz.prog 31 #[e.v, .slice (some ⟨b, off, none⟩) m cx] X (SoP (ctV e ts) (fun k => ∃ (i : Nat) (Q : Nat → Prop), Rs[i]? = some Q ∧ Q k) X) := by
  have e1 := h.l1
  have e2 := h.l2
  by_cases h14 : e.kind = 14
  · have h2 : arity e.kind = 2 := by unfold arity; rw [if_pos (.inl h14)]
    rw [h2] at ha
    match ps, ts, Rs, ha, e1, e2, h, hm, hc with
    | [fa, fb], [ta, tb], [A, B], _, _, _, h, hm, hc =>
      subst hm
      have ev : ctV e [ta, tb] = .chain e ta tb := if_pos h14
      rw [ev]
      refine (sto_chain e h14 b off cx fa fb ta tb A B X (hc 0 fa rfl) (hc 1 fb rfl) hb (h.step 0 fa ta A rfl rfl rfl) (h.step 1 fb tb B rfl rfl rfl) (h.disj 0 1 A B rfl rfl (by omega)) (fun k z => (h.bnd 0 A rfl k z).2.1) (fun k z => (h.bnd 1 B rfl k z).2.1)).mono fun r w' hr => hr.mono fun k z => ?_
      rcases z with z | z
      · exact ⟨0, A, rfl, z⟩
      · exact ⟨1, B, rfl, z⟩
  · by_cases h15 : e.kind = 15
    · have h2 : arity e.kind = 2 := by unfold arity; rw [if_pos (.inr h15)]
      rw [h2] at ha
      match ps, ts, Rs, ha, e1, e2, h, hm, hc with
      | [fa, fb], [ta, tb], [A, B], _, _, _, h, hm, hc =>
        subst hm
        have ev : ctV e [ta, tb] = .inter e ta tb := if_neg h14
        rw [ev]
        refine (sto_inter e h15 b off cx fa fb ta tb A B X (hc 0 fa rfl) (hc 1 fb rfl) hb (h.step 0 fa ta A rfl rfl rfl) (h.step 1 fb tb B rfl rfl rfl) (h.disj 0 1 A B rfl rfl (by omega)) (fun k z => (h.bnd 0 A rfl k z).2.1) (fun k z => (h.bnd 1 B rfl k z).2.1)).mono fun r w' hr => hr.mono fun k z => ?_
        rcases z with z | z
        · exact ⟨0, A, rfl, z⟩
        · exact ⟨1, B, rfl, z⟩
    · by_cases h16 : e.kind = 16
      · have h2 : arity e.kind = 3 := by unfold arity; rw [if_neg (by omega), if_pos h16]
        rw [h2] at ha
        match ps, ts, Rs, ha, e1, e2, h, hm, hc with
        | [fp, fa, fb], [tp, ta, tb], [P, A, B], _, _, _, h, hm, hc =>
          subst hm
          refine (sto_cond e h16 b off cx fp fa fb tp ta tb P A B X (hc 0 fp rfl) (hc 1 fa rfl) (hc 2 fb rfl) hb (h.step 0 fp tp P rfl rfl rfl) (h.step 1 fa ta A rfl rfl rfl) (h.step 2 fb tb B rfl rfl rfl) (h.disj 0 1 P A rfl rfl (by omega)) (h.disj 0 2 P B rfl rfl (by omega)) (h.disj 1 2 A B rfl rfl (by omega)) (fun k z => (h.bnd 0 P rfl k z).2.1) (fun k z => (h.bnd 1 A rfl k z).2.1) (fun k z => (h.bnd 2 B rfl k z).2.1)).mono fun r w' hr => hr.mono fun k z => ?_
          rcases z with z | z | z
          · exact ⟨0, P, rfl, z⟩
          · exact ⟨1, A, rfl, z⟩
          · exact ⟨2, B, rfl, z⟩
      · have h2 : arity e.kind = 0 := by unfold arity; rw [if_neg (by omega), if_neg h16]
        rw [h2] at ha
        match ps, ts, Rs, ha, e1, e2, hm with
        | [], [], [], _, _, _, hm =>
          exact (sto_leaf e hg h2 b off cx m X hT).mono fun r w' hr => hr.mono fun k z => z.elim
structure FsJ (w : World) (xs : List Nd) (j g cp : Nat) (ps : List (Nat × Array Value)) (ts : List CT) (Rs : List (Nat → Prop)) (wr : World) : Prop where
  fold : foldV ctV [] (xs.take j) = some ts
  own : FRow wr w.heap.size g cp ps
  stp : Stps w.heap.size g ps ts Rs wr
  tab : TabD w
  below : Below w.heap.size w wr
theorem FsJ.move {w : World} {xs : List Nd} {j g cp : Nat} {ps : List (Nat × Array Value)} {ts : List CT} {Rs : List (Nat → Prop)} {wr w' : World} (h : FsJ w xs j g cp ps ts Rs wr) (hb : Below wr.heap.size wr w') : FsJ w xs j g cp ps ts Rs w' :=
  ⟨h.fold, h.own.chg (S := fun _ => False) (Chg.of_below hb) (fun q => q), h.stp.below hb, h.tab, h.below.trans (hb.mono h.below.size)⟩
theorem FsJ.tabD {w : World} {xs : List Nd} {j g cp : Nat} {ps : List (Nat × Array Value)} {ts : List CT} {Rs : List (Nat → Prop)} {wr : World} (h : FsJ w xs j g cp ps ts Rs wr) : TabD wr := h.tab.chg (S := fun _ => False) (Chg.of_below h.below) (fun q => q)
def FsPost (t : CT) (w : World) (r : Ending) (w' : World) : Prop := ∃ (p : Nat × Array Value), r = .returned (.tuple #[fvC p, .bool true]) ∧ Hid (∃ R : Nat → Prop, StepAt w' t R (fvC p) ∧ (∀ k, R k → w.heap.size ≤ k ∧ k < w'.heap.size) ∧ Below w.heap.size w w')
set_option maxHeartbeats 16000000 in
theorem foldStep_core {w : World} {gN cpN : Nat} {xs : List Nd} {t : CT} (h : NdsAt w gN 0 xs) (hg : gN < w.heap.size) (hT : TreeF xs t) (hl : xs.length ≤ 200) (hG : ∀ e ∈ xs, GoodN e) (hTb : TabD w) :
    Calls Tryz.prog 30 #[.slice (some ⟨gN, 0, none⟩) xs.length cpN, .func (Fn.func 31) #[] #[]] w (FsPost t w) := by
  have hF : foldV ctV [] xs = some [t] := by
    have h9 := TrV.fold _ hT []
    simpa using h9
  have HF : Hid (NdsAt w gN 0 xs ∧ foldV ctV [] xs = some [t] ∧ xs.length ≤ 200 ∧ (∀ e ∈ xs, GoodN e)) := ⟨h, hF, hl, hG⟩
  have HTb : Hid (TabD w) := hTb
  obtain ⟨n, hn⟩ : ∃ n, n = xs.length := ⟨_, rfl⟩
  have HL : Hid (n = xs.length) := hn
  rw [← hn] at hl ⊢
  clear h hF hT hn hG hTb
  obtain ⟨W0, hW0⟩ : ∃ W0 : World, W0 = w.alloc (Obj.cells #[] 58) := ⟨_, rfl⟩
  have HW0 : Hid (FsJ w xs 0 w.heap.size 0 [] [] [] W0) := by
    rw [hW0]
    exact ⟨rfl, World.ownsRow_lit w #[] 0 (Nat.le_refl _) (by decide) (by decide), ⟨rfl, rfl, fun i p t R h1 => by simp at h1, fun i R h1 => by simp at h1, fun i j R Q h1 => by simp at h1⟩, HTb.out, (Below.refl _ _).alloc (Nat.le_refl _) _⟩
  go_enter Tryz.func30, Tryz.ntmps30
  go_upto_region 2 with fail
  rw [← hW0]
  clear hW0
  go_wp2_with fail
  go_loopw [4, 6, 14] (fun wv sv iv wr => ∃ (j m g cp : Nat) (ps : List (Nat × Array Value)) (ts : List CT) (Rs : List (Nat → Prop)), wv = .nilFunc ∧ iv = .int .i64 (j : Int) ∧ j ≤ n ∧ m = ps.length ∧ m ≤ j ∧ m ≤ cp ∧ sv = .slice (some ⟨g, 0, none⟩) m cp ∧ FsJ w xs j g cp ps ts Rs wr) (fun _ _ iv _ => n - (intOf iv).toNat)
  case atStart => exact ⟨0, 0, _, 0, [], [], [], rfl, rfl, Nat.zero_le _, rfl, Nat.le_refl _, Nat.zero_le _, rfl, HW0.out⟩
  case round =>
    obtain ⟨j, m, g, cp, ps, ts, Rs, rfl, rfl, hj, hm, hmj, hmc, rfl, hJ⟩ := hrel
    have HJ : Hid (m = ps.length ∧ FsJ w xs j g cp ps ts Rs wr) := ⟨hm, hJ⟩
    have hgl := hJ.own.lt
    have hcp : cp ≤ 9223372036854775807 := by have := hJ.own.caps.2; unfold maxLen at this; omega
    have hsz := hJ.below.size
    clear hm hJ HW0
    by_cases hlt : j < n
    · have zj : (j : Int) < (n : Int) := by omega
      obtain ⟨e, he⟩ : ∃ e, xs[j]? = some e := ⟨_, List.getElem?_eq_getElem (by have := HL.out; omega)⟩
      obtain ⟨d0, d1, d2, d3, d4, d5, d6⟩ := (HF.out.1.below HJ.out.2.below hg) j e he
      simp only [Nat.zero_add] at d0 d1 d2 d3 d4 d5 d6
      have HE : Hid (xs[j]? = some e) := he
      clear he
      obtain ⟨W1, hW1⟩ : ∃ W1 : World, W1 = wr.alloc (Obj.cells #[.int .i64 e.kind, .string e.s, .bool e.hi, .string e.t, .int .u64 e.lo, .int .u64 e.up, .int .i64 e.n] 75) := ⟨_, rfl⟩
      have hb1 : Below wr.heap.size wr W1 := by rw [hW1]; exact (Below.refl _ _).alloc (Nat.le_refl _) _
      have hz1 : wr.heap.size < W1.heap.size := by rw [hW1]; simp
      have HJ1 : Hid (m = ps.length ∧ FsJ w xs j g cp ps ts Rs W1 ∧ BoxAt W1 w.heap.size 75 7 wr.heap.size [.int .i64 e.kind, .string e.s, .bool e.hi, .string e.t, .int .u64 e.lo, .int .u64 e.up, .int .i64 e.n]) := by
        refine ⟨HJ.out.1, HJ.out.2.move hb1, ?_⟩
        rw [hW1]; exact boxAt_new wr _ hsz rfl
      go_upto_region 5 with fail
      rw [← hW1]
      clear hW1 d0 d1 d2 d3 d4 d5 d6 HJ hb1
      have c0 := HJ1.out.2.2.cell (j := 0) rfl
      have c1 := HJ1.out.2.2.cell (j := 1) rfl
      have c2 := HJ1.out.2.2.cell (j := 2) rfl
      have c3 := HJ1.out.2.2.cell (j := 3) rfl
      have c4 := HJ1.out.2.2.cell (j := 4) rfl
      have c5 := HJ1.out.2.2.cell (j := 5) rfl
      have c6 := HJ1.out.2.2.cell (j := 6) rfl
      obtain ⟨a, ha⟩ : ∃ a, a = arity e.kind := ⟨_, rfl⟩
      have ha3 : a ≤ 3 := by rw [ha]; exact arity_le _
      have HAr : Hid (Calls Tryz.prog 61 #[.int .i64 e.kind] W1 fun r w' => r = .returned (.int .i64 (a : Int)) ∧ w' = W1) := by rw [ha]; exact operandCount_core e.kind W1
      have HAk : Hid (a = arity e.kind) := ha
      clear ha
      go_wp2_with fail
      refine HAr.out.mono ?_
      rintro r w9 ⟨rfl, hw9⟩
      rw [hw9]
      clear hw9 HAr
      have hfr : ¬ m < a := fun q => by
        have h1 := foldV_stop ctV HJ1.out.2.1.fold HE.out (by rw [← HJ1.out.2.1.stp.l1, ← HJ1.out.1, ← HAk.out]; exact q)
        rw [HF.out.2.1] at h1; cases h1
      obtain ⟨fr, hfrm⟩ : ∃ fr : Nat, (m : Int) - (a : Int) = (fr : Int) := ⟨m - a, by omega⟩
      have hfrle : fr ≤ m := by omega
      have HFr : Hid (fr = ts.length - arity e.kind ∧ arity e.kind ≤ ts.length) := by
        have h1 := HJ1.out.1
        have h2 := HAk.out
        have h3 := HJ1.out.2.1.stp.l1
        exact ⟨by omega, by omega⟩
      have zf : ¬ (fr : Int) < 0 := by omega
      have z2 : (fr : Int) ≤ (m : Int) := by omega
      have z3 : (m : Int) ≤ (cp : Int) := by omega
      have HY : Hid (foldV ctV [] (xs.take (j + 1)) = some (ts.take fr ++ [ctV e (ts.drop fr)])) := by
        show _ = _
        rw [HFr.out.1]
        exact foldV_next ctV HJ1.out.2.1.fold HE.out HFr.out.2
      obtain ⟨ad, had⟩ : ∃ ad : Option Addr, (if cp = fr then some (⟨g, 0, none⟩ : Addr) else some ⟨g, fr, none⟩) = ad := ⟨_, rfl⟩
      have HSh : Hid (∀ X, Below W1.heap.size W1 X → Calls Tryz.prog 31 #[.agg #[.int .i64 e.kind, .string e.s, .bool e.hi, .string e.t, .int .u64 e.lo, .int .u64 e.up, .int .i64 e.n], .slice ad (m - fr) (cp - fr)] X (SoP (ctV e (ts.drop fr)) (fun k => ∃ (i : Nat) (Q : Nat → Prop), (Rs.drop fr)[i]? = some Q ∧ Q k) X)) := fun X hX => by
        have hJX := HJ1.out.2.1.move hX
        have hlen : m - fr = (ps.drop fr).length := by rw [List.length_drop, ← HJ1.out.1]
        have hst : Stps w.heap.size g (ps.drop fr) (ts.drop fr) (Rs.drop fr) X := by
          have s := hJX.stp
          have e1 := s.l1
          have e2 := s.l2
          refine ⟨by simp only [List.length_drop]; omega, by simp only [List.length_drop]; omega, fun i p t R h1 h2 h3 => ?_, fun i R h1 k z => ?_, fun i j A B h1 h2 hij k z => ?_⟩
          · rw [List.getElem?_drop] at h1 h2 h3; exact s.step _ p t R h1 h2 h3
          · rw [List.getElem?_drop] at h1; exact s.bnd _ R h1 k z
          · rw [List.getElem?_drop] at h1 h2; exact s.disj _ _ A B h1 h2 (by omega) k z
        have hge : GoodN e := HF.out.2.2.2 e (List.mem_of_getElem? HE.out)
        have har : (ps.drop fr).length = arity e.kind := by rw [List.length_drop]; have h1 := HFr.out; have h3 := HJ1.out.2.1.stp.l1; omega
        rw [← had]
        by_cases hcf : cp = fr
        · rw [if_pos hcf]
          have hnil : ps.drop fr = [] := List.length_eq_zero_iff.1 (by rw [← hlen]; omega)
          exact sto_all e hge g 0 (cp - fr) (m - fr) w.heap.size g (ps.drop fr) (ts.drop fr) (Rs.drop fr) X hJX.tabD hst hlen har hJX.own.lt.2 (by rw [hnil]; intro i u hu; simp at hu)
        · rw [if_neg hcf]
          exact sto_all e hge g fr (cp - fr) (m - fr) w.heap.size g (ps.drop fr) (ts.drop fr) (Rs.drop fr) X hJX.tabD hst hlen har hJX.own.lt.2 (by intro i u hu; rw [List.getElem?_drop] at hu; exact hJX.own.cell hu)
      clear hfr
      go_upto_region 8 with fail
      go_cut [10] (fun sv wx => ∃ (X : World) (p : Nat × Array Value), Hid (Below W1.heap.size W1 X ∧ Below X.heap.size X wx ∧ ∃ R : Nat → Prop, StepAt wx (ctV e (ts.drop fr)) R (fvC p) ∧ (∀ k, R k → (∃ (i : Nat) (Q : Nat → Prop), (Rs.drop fr)[i]? = some Q ∧ Q k) ∨ (X.heap.size ≤ k ∧ k < wx.heap.size))) ∧ sv = fvC p)
      case first =>
        go_region_law ((go_simp; go_at_call 31; refine (HSh.out _ ?hX).mono ?_; (case hX => (repeat (first | exact Below.refl _ _ | refine Below.drew ?_))); rintro r w' ⟨p7, rfl, H7⟩))
        all_goals go_wp2_with fail
        all_goals go_meet
        all_goals exact ⟨_, p7, (by obtain ⟨R, q1, q2, q3⟩ := H7.out; exact ⟨(by (repeat (first | exact Below.refl _ _ | refine Below.drew ?_))), q3, R, q1, q2⟩), rfl⟩
      case rest =>
      obtain ⟨X, p, HK, rfl⟩ := hcut
      obtain ⟨w4, hw4⟩ : ∃ w4 : World, w4 = wc := ⟨_, rfl⟩
      subst hw4
      have hb14 : Below W1.heap.size W1 w4 := HK.out.1.trans (HK.out.2.1.mono HK.out.1.size)
      have HK2 : Hid (FsJ w xs j g cp ps ts Rs w4) := HJ1.out.2.1.move hb14
      have hgl2 := HK2.out.own.lt
      have hsz2 := HK2.out.below.size
      have hfl : fr ≤ ps.length := by rw [← HJ1.out.1]; exact hfrle
      obtain ⟨pk, pc⟩ := p
      have HSeg : Hid (∃ R, Stps w.heap.size g (ps.take fr ++ [(pk, pc)]) (ts.take fr ++ [ctV e (ts.drop fr)]) (Rs.take fr ++ [R]) w4) := by
        have hJX := HJ1.out.2.1.move HK.out.1
        obtain ⟨R, q1, q2⟩ := HK.out.2.2
        refine ⟨R, hJX.stp.push HK.out.2.1 hfl hJX.below.size hJX.own.lt.2 q1 (fun k z => ?_)⟩
        rcases q2 k z with ⟨i, Q, h1, h2⟩ | q
        · rw [List.getElem?_drop] at h1
          exact .inl ⟨fr + i, Q, by omega, h1, h2⟩
        · exact .inr q
      have HM : Hid (fr = (ps.take fr).length) := by
        show fr = _
        rw [List.length_take]; omega
      have HO2 : Hid (FRow (w4.alloc (Obj.cells #[fvC (pk, pc)] 58)) w.heap.size g cp (ps.take fr)) := (HK2.out.own.take hfl).chg (S := fun _ => False) (Chg.of_below ((Below.refl _ _).alloc (Nat.le_refl _) _)) (fun q => q)
      have HC2 : Hid (∀ i v, [(pk, pc)][i]? = some v → (w4.alloc (Obj.cells #[fvC (pk, pc)] 58)).cell? ⟨w4.heap.size, 0 + i, none⟩ = some (fvC v)) := fun i v hv => by
        match i, hv with
        | 0, hv => cases hv; simp [go_sem]
      have z4 : (fr : Int) ≤ (cp : Int) := by omega
      clear c0 c1 c2 c3 c4 c5 c6 HSh
      go_wp2_with (at_builtin; refine wpList_append_fs _ rfl _ _ rfl w.heap.size g cp fr w4.heap.size 0 1 1 (ps.take fr) [(pk, pc)] rfl rfl HM.out rfl HO2.out HC2.out (by rw [← HM.out]; simp; omega) (by simp; omega) ?_)
      intro g' cp' w' hA'
      have fin : Hid (∃ Rs', FsJ w xs (j + 1) g' cp' (ps.take fr ++ [(pk, pc)]) (ts.take fr ++ [ctV e (ts.drop fr)]) Rs' w') := by
        obtain ⟨R, hs⟩ := HSeg.out
        have hbX : Below w4.heap.size w4 (w4.alloc (Obj.cells #[fvC (pk, pc)] 58)) := (Below.refl _ _).alloc (Nat.le_refl _) _
        have hsX : (w4.alloc (Obj.cells #[fvC (pk, pc)] 58)).heap.size = w4.heap.size + 1 := by simp
        have hC : Chg (fun k => k = g) (w4.alloc (Obj.cells #[fvC (pk, pc)] 58)) w' := Chg.of_grown hA'.grown (fun k hk => by cases hk; rfl)
        have hC2 : Chg (fun k => k = g) w4 w' := (Chg.of_below hbX).trans hC
        have hv := HTb.out.lt
        refine ⟨Rs.take fr ++ [R], HY.out, hA'.own, hs.chg hC2 (by omega) ?_, HTb.out, Chg.below HK2.out.below hC2 hsz2 (fun k hk => by omega)⟩
        rcases hA'.at_ with q | q
        · exact .inl q
        · exact .inr (by omega)
      have hcp' : fr + 1 ≤ cp' := by have h8 := hA'.own.caps.1; rw [List.length_append, ← HM.out] at h8; exact h8
      clear hA'
      go_wp2_with fail
      go_roundw
      case rel =>
        obtain ⟨Rs', hfin⟩ := fin.out
        exact ⟨j + 1, fr + 1, g', cp', ps.take fr ++ [(pk, pc)], ts.take fr ++ [ctV e (ts.drop fr)], Rs', rfl, by go_num, by omega, by rw [List.length_append, List.length_singleton, ← HM.out], by omega, hcp', rfl, hfin⟩
      case measure => simp [intOf]; omega
    · have zj : ¬ (j : Int) < (n : Int) := by omega
      have hFo : ts = [t] := by
        have h1 := HJ.out.2.fold
        rw [List.take_of_length_le (by have := HL.out; omega), HF.out.2.1] at h1
        exact (Option.some.inj h1).symm
      subst hFo
      have hm1 : m = 1 := by rw [HJ.out.1, HJ.out.2.stp.l1]; rfl
      subst hm1
      obtain ⟨p, rfl⟩ : ∃ p, ps = [p] := by
        have h1 := HJ.out.1
        match ps, h1 with
        | [p], _ => exact ⟨p, rfl⟩
      have e0 : wr.cell? ⟨g, 0, none⟩ = some (fvC p) := HJ.out.2.own.cell (j := 0) rfl
      obtain ⟨pk, pc⟩ := p
      have HR : Hid (FsPost t w (.returned (.tuple #[fvC (pk, pc), .bool true])) wr) := by
        have s := HJ.out.2.stp
        have e2 := s.l2
        match Rs, e2, s with
        | [R], _, s => exact ⟨_, rfl, R, s.step 0 _ t R rfl rfl rfl, fun k z => ⟨(s.bnd 0 R rfl k z).1, (s.bnd 0 R rfl k z).2.1⟩, HJ.out.2.below⟩
      go_wp2_with fail
      exact bodyPost_ret (v := .tuple #[fvC (pk, pc), .bool true]) (by simp [results, Tryz.results30, go_sem]) rfl HR.out
end Go.Proofs.YtkidabedcgngcaaGreatDoor

/-
  impl.rowsOf: the rows one by one.
-/
namespace Go.Proofs.YtkidabedcgngcaaGreatDoor
open Go.ChangeShapes Go.WideShapes Go.ChangeAt Go.RowKit Go.Deep Go.Shelf
set_option linter.unusedVariables false
set_option linter.unusedSimpArgs false
set_option maxRecDepth 100000

/-- What the iterator reads. -/
structure RwI (p b off cap : Nat) (es : List Ent) (W : World) : Prop where
  box : W.cell? ⟨p, 0, none⟩ = some (.slice (some ⟨b, off, none⟩) es.length cap)
  sl : CSl W b off cap es
set_option maxHeartbeats 8000000 in
theorem rows_in (es : List Ent) (p b off cap : Nat) (hN0 : es.length ≤ 10000) (l m : Nat) (hm : 1 ≤ m) (J : Nat → World → Prop)
    (hY : ∀ i j W, J i W → IsEnd es i j → YieldAt Fence.wide (m - 1) Tryz.prog l #[segV b off cap (i, j)] W fun e W' => e = .returned (.bool true) ∧ J j W')
    (hJd : ∀ k W, J k W → J k W.drew) (hJr : ∀ k W, J k W → RwI p b off cap es W) (W : World) (h0 : J 0 W) :
    CallsIn Fence.wide m Tryz.prog 75 #[.func (.yield l) #[] #[], ptrC p] W fun e W' => (∃ v, e = .returned v) ∧ J es.length W' := by
  obtain ⟨N, hN⟩ : ∃ N, N = es.length := ⟨_, rfl⟩
  have HN : Hid (N = es.length) := hN
  have HJ0 : Hid (J 0 W) := h0
  have HR : Hid (∀ k W, J k W → W.cell? ⟨p, 0, none⟩ = some (.slice (some ⟨b, off, none⟩) N cap) ∧ CSl W b off cap es) := fun k W h => by rw [hN]; exact ⟨(hJr k W h).box, (hJr k W h).sl⟩
  have hcap := (hJr 0 W h0).sl.len
  have hcm : cap ≤ 9223372036854775807 := by have := (hJr 0 W h0).sl.cap; unfold maxLen at this; omega
  have HY : Hid (∀ i j W, J i W → IsEnd es i j → YieldAt Fence.wide (m - 1) Tryz.prog l #[segV b off cap (i, j)] W fun e W' => e = .returned (.bool true) ∧ J j W') := hY
  rw [← hN] at hN0 hcap ⊢
  clear hN h0 hJr hY
  refine callsIn_of_wp Tryz.func75 rfl trivial ?_ rfl
  simp only [Tryz.ntmps75, List.size_toArray, List.length_cons, List.length_nil, Nat.reduceAdd, Nat.reduceSub, Array.replicate_succ, Array.replicate_zero, List.push_toArray, List.append_toArray, List.nil_append, List.cons_append]
  gi_wp2
  gi_loopw [3] (fun iv wr => ∃ i : Nat, i ≤ N ∧ iv = .int .i64 (i : Int) ∧ Hid (J i wr)) (fun iv _ => N - (intOf iv).toNat)
  case atStart => exact ⟨0, Nat.zero_le _, rfl, HJ0.out⟩
  case round =>
    obtain ⟨i, hiN, rfl, HJ⟩ := hrel
    have x0 := (HR.out i wr HJ.out).1
    by_cases hlt : i < N
    · have zi : (i : Int) < (N : Int) := by omega
      obtain ⟨c, hc⟩ : ∃ c, es[i]? = some c := ⟨_, List.getElem?_eq_getElem (by have := HN.out; omega)⟩
      have HCi : Hid (es[i]? = some c) := hc
      clear hc
      obtain ⟨wo, hwo⟩ : ∃ wo : World, wo = wr := ⟨_, rfl⟩
      subst hwo
      gi_wp2
      clear x0
      gi_loopw [4] (fun jv wx => ∃ j : Nat, i < j ∧ j ≤ N ∧ jv = .int .i64 (j : Int) ∧ Hid ((∀ k, i ≤ k → k < j → sameR es i k = true) ∧ J i wx)) (fun jv _ => N - (intOf jv).toNat)
      case atStart => exact ⟨i + 1, by omega, by omega, by go_num, fun k h1 h2 => by rw [show k = i by omega]; simp [sameR], HJ.out⟩
      case round =>
        obtain ⟨j, hij, hjN, rfl, HQ⟩ := hrel
        have hRr := HR.out i wr HQ.out.2
        by_cases hjl : j < N
        · have zj : (j : Int) < (N : Int) := by omega
          obtain ⟨x, hx⟩ : ∃ x, es[j]? = some x := ⟨_, List.getElem?_eq_getElem (by have := HN.out; omega)⟩
          have f0 := (hRr.2.at_ j x hx).1
          have f1 := (hRr.2.at_ i c HCi.out).1
          have hS0 : (fun w' : World => w'.cell? ⟨p, 0, none⟩ = some (.slice (some ⟨b, off, none⟩) N cap) ∧ w'.cell? ⟨b, off + j * 5, none⟩ = some (.string x.row) ∧ w'.cell? ⟨b, off + i * 5, none⟩ = some (.string c.row)) wr.drew := ⟨hRr.1, f0, f1⟩
          have HJd : Hid (J i wr.drew) := hJd _ _ HQ.out.2
          have HSame : Hid (sameR es i j = (x.row.toList == c.row.toList)) := by show sameR es i j = _; unfold sameR; rw [hx, HCi.out]; rfl
          clear f0 f1 hx hRr
          cases hr : (x.row.toList == c.row.toList)
          · have HE : Hid (IsEnd es i j) := by
              have h0 := HSame.out
              rw [hr] at h0
              exact ⟨hij, by rw [← HN.out]; omega, HQ.out.1, fun _ => h0⟩
            gi_wp2
            refine wpIn_wide.2 ?_
            refine wp_region_noPanic ?_
            refine wp_region_T 99 (fun w' : World => w'.cell? ⟨p, 0, none⟩ = some (.slice (some ⟨b, off, none⟩) N cap) ∧ w'.cell? ⟨b, off + j * 5, none⟩ = some (.string x.row) ∧ w'.cell? ⟨b, off + i * 5, none⟩ = some (.string c.row)) (by kernel_rfl) ?_
            refine anyT_takeN (i := 0) (v := ?vqa0) rfl (by kernel_rfl) (by kernel_rfl) (by kernel_rfl) (by rfl) (fun _ _ _ h => h) (Or.inl ⟨by rfl, ?yqa0⟩) hS0 ?_
            case yqa0 => (intro wz hSw; obtain ⟨hz0, hz1, hz2⟩ := hSw; go_simp; (try with_reducible rfl))
            try simp only [Act.put, List.getElem_toArray, List.getElem_cons_zero, List.getElem_cons_succ, List.setIfInBounds_toArray, List.set_cons_zero, List.set_cons_succ]
            refine anyT_takeN (i := 1) (v := ?vqa1) rfl (by kernel_rfl) (by kernel_rfl) (by kernel_rfl) (by rfl) (fun _ _ _ h => h) (Or.inl ⟨by rfl, ?yqa1⟩) hS0 ?_
            case yqa1 => (intro wz hSw; obtain ⟨hz0, hz1, hz2⟩ := hSw; go_simp; (try with_reducible rfl))
            try simp only [Act.put, List.getElem_toArray, List.getElem_cons_zero, List.getElem_cons_succ, List.setIfInBounds_toArray, List.set_cons_zero, List.set_cons_succ]
            refine anyT_takeN (i := 2) (v := ?vqa2) rfl (by kernel_rfl) (by kernel_rfl) (by kernel_rfl) (by rfl) (fun _ _ _ h => h) (Or.inl ⟨by rfl, ?yqa2⟩) hS0 ?_
            case yqa2 => (intro wz hSw; obtain ⟨hz0, hz1, hz2⟩ := hSw; go_simp; (try with_reducible rfl))
            try simp only [Act.put, List.getElem_toArray, List.getElem_cons_zero, List.getElem_cons_succ, List.setIfInBounds_toArray, List.set_cons_zero, List.set_cons_succ]
            refine anyT_takeN (i := 3) (v := ?vqa3) rfl (by kernel_rfl) (by kernel_rfl) (by kernel_rfl) (by rfl) (fun _ _ _ h => h) (Or.inl ⟨by rfl, ?yqa3⟩) hS0 ?_
            case yqa3 => (intro wz hSw; obtain ⟨hz0, hz1, hz2⟩ := hSw; go_simp; (try with_reducible rfl))
            try simp only [Act.put, List.getElem_toArray, List.getElem_cons_zero, List.getElem_cons_succ, List.setIfInBounds_toArray, List.set_cons_zero, List.set_cons_succ]
            refine anyT_takeN (i := 4) (v := ?vqa4) rfl (by kernel_rfl) (by kernel_rfl) (by kernel_rfl) (by rfl) (fun _ _ _ h => h) (Or.inl ⟨by rfl, ?yqa4⟩) hS0 ?_
            case yqa4 => (intro wz hSw; obtain ⟨hz0, hz1, hz2⟩ := hSw; go_simp; (try with_reducible rfl))
            try simp only [Act.put, List.getElem_toArray, List.getElem_cons_zero, List.getElem_cons_succ, List.setIfInBounds_toArray, List.set_cons_zero, List.set_cons_succ]
            refine anyT_takeN (i := 5) (v := ?vqa5) rfl (by kernel_rfl) (by kernel_rfl) (by kernel_rfl) (by rfl) (fun _ _ _ h => h) (Or.inl ⟨by rfl, ?yqa5⟩) hS0 ?_
            case yqa5 => (intro wz hSw; obtain ⟨hz0, hz1, hz2⟩ := hSw; go_simp; (try with_reducible rfl))
            try simp only [Act.put, List.getElem_toArray, List.getElem_cons_zero, List.getElem_cons_succ, List.setIfInBounds_toArray, List.set_cons_zero, List.set_cons_succ]
            refine anyT_takeN (i := 6) (v := ?vqa6) rfl (by kernel_rfl) (by kernel_rfl) (by kernel_rfl) (by rfl) (fun _ _ _ h => h) (Or.inl ⟨by rfl, ?yqa6⟩) hS0 ?_
            case yqa6 => (intro wz hSw; obtain ⟨hz0, hz1, hz2⟩ := hSw; go_simp; (try with_reducible rfl))
            try simp only [Act.put, List.getElem_toArray, List.getElem_cons_zero, List.getElem_cons_succ, List.setIfInBounds_toArray, List.set_cons_zero, List.set_cons_succ]
            refine anyT_takeN (i := 7) (v := ?vqa7) rfl (by kernel_rfl) (by kernel_rfl) (by kernel_rfl) (by rfl) (fun _ _ _ h => h) (Or.inl ⟨by rfl, ?yqa7⟩) hS0 ?_
            case yqa7 => (intro wz hSw; obtain ⟨hz0, hz1, hz2⟩ := hSw; go_simp; (try with_reducible rfl))
            try simp only [Act.put, List.getElem_toArray, List.getElem_cons_zero, List.getElem_cons_succ, List.setIfInBounds_toArray, List.set_cons_zero, List.set_cons_succ]
            refine anyT_takeN (i := 8) (v := ?vqa8) rfl (by kernel_rfl) (by kernel_rfl) (by kernel_rfl) (by rfl) (fun _ _ _ h => h) (Or.inl ⟨by rfl, ?yqa8⟩) hS0 ?_
            case yqa8 => (intro wz hSw; obtain ⟨hz0, hz1, hz2⟩ := hSw; go_simp; (try with_reducible rfl))
            try simp only [Act.put, List.getElem_toArray, List.getElem_cons_zero, List.getElem_cons_succ, List.setIfInBounds_toArray, List.set_cons_zero, List.set_cons_succ]
            refine anyT_takeN (i := 9) (v := ?vqa9) rfl (by kernel_rfl) (by kernel_rfl) (by kernel_rfl) (by rfl) (fun _ _ _ h => h) (Or.inl ⟨by rfl, ?yqa9⟩) hS0 ?_
            case yqa9 => (intro wz hSw; obtain ⟨hz0, hz1, hz2⟩ := hSw; go_simp; (try with_reducible rfl))
            try simp only [Act.put, List.getElem_toArray, List.getElem_cons_zero, List.getElem_cons_succ, List.setIfInBounds_toArray, List.set_cons_zero, List.set_cons_succ]
            refine anyT_takeN (i := 10) (v := ?vqa10) rfl (by kernel_rfl) (by kernel_rfl) (by kernel_rfl) (by rfl) (fun _ _ _ h => h) (Or.inl ⟨by rfl, ?yqa10⟩) hS0 ?_
            case yqa10 => (intro wz hSw; obtain ⟨hz0, hz1, hz2⟩ := hSw; go_simp; (try with_reducible rfl))
            try simp only [Act.put, List.getElem_toArray, List.getElem_cons_zero, List.getElem_cons_succ, List.setIfInBounds_toArray, List.set_cons_zero, List.set_cons_succ]
            refine anyT_takeN (i := 11) (v := ?vqa11) rfl (by kernel_rfl) (by kernel_rfl) (by kernel_rfl) (by rfl) (fun _ _ _ h => h) (Or.inl ⟨by rfl, ?yqa11⟩) hS0 ?_
            case yqa11 => (intro wz hSw; obtain ⟨hz0, hz1, hz2⟩ := hSw; go_simp; (try with_reducible rfl))
            try simp only [Act.put, List.getElem_toArray, List.getElem_cons_zero, List.getElem_cons_succ, List.setIfInBounds_toArray, List.set_cons_zero, List.set_cons_succ]
            refine anyT_takeN (i := 12) (v := ?vqa12) rfl (by kernel_rfl) (by kernel_rfl) (by kernel_rfl) (by rfl) (fun _ _ _ h => h) (Or.inl ⟨by rfl, ?yqa12⟩) hS0 ?_
            case yqa12 => (intro wz hSw; obtain ⟨hz0, hz1, hz2⟩ := hSw; go_simp; (try with_reducible rfl))
            try simp only [Act.put, List.getElem_toArray, List.getElem_cons_zero, List.getElem_cons_succ, List.setIfInBounds_toArray, List.set_cons_zero, List.set_cons_succ]
            refine anyT_takeN (i := 13) (v := ?vqa13) rfl (by kernel_rfl) (by kernel_rfl) (by kernel_rfl) (by rfl) (fun _ _ _ h => h) (Or.inl ⟨by rfl, ?yqa13⟩) hS0 ?_
            case yqa13 => (intro wz hSw; obtain ⟨hz0, hz1, hz2⟩ := hSw; go_simp; (try with_reducible rfl))
            try simp only [Act.put, List.getElem_toArray, List.getElem_cons_zero, List.getElem_cons_succ, List.setIfInBounds_toArray, List.set_cons_zero, List.set_cons_succ]
            refine anyT_takeN (i := 14) (v := ?vqa14) rfl (by kernel_rfl) (by kernel_rfl) (by kernel_rfl) (by rfl) (fun _ _ _ h => h) (Or.inl ⟨by rfl, ?yqa14⟩) hS0 ?_
            case yqa14 => (intro wz hSw; obtain ⟨hz0, hz1, hz2⟩ := hSw; go_simp; (try with_reducible rfl))
            try simp only [Act.put, List.getElem_toArray, List.getElem_cons_zero, List.getElem_cons_succ, List.setIfInBounds_toArray, List.set_cons_zero, List.set_cons_succ]
            refine anyT_takeN (i := 15) (v := ?vqa15) rfl (by kernel_rfl) (by kernel_rfl) (by kernel_rfl) (by rfl) (fun _ _ _ h => h) (Or.inl ⟨by rfl, ?yqa15⟩) hS0 ?_
            case yqa15 => (intro wz hSw; obtain ⟨hz0, hz1, hz2⟩ := hSw; go_simp; (try with_reducible rfl))
            try simp only [Act.put, List.getElem_toArray, List.getElem_cons_zero, List.getElem_cons_succ, List.setIfInBounds_toArray, List.set_cons_zero, List.set_cons_succ]
            refine anyT_takeN (i := 16) (v := ?vqa16) rfl (by kernel_rfl) (by kernel_rfl) (by kernel_rfl) (by rfl) (fun _ _ _ h => h) (Or.inl ⟨by rfl, ?yqa16⟩) hS0 ?_
            case yqa16 => (intro wz hSw; obtain ⟨hz0, hz1, hz2⟩ := hSw; go_simp; (try with_reducible rfl))
            try simp only [Act.put, List.getElem_toArray, List.getElem_cons_zero, List.getElem_cons_succ, List.setIfInBounds_toArray, List.set_cons_zero, List.set_cons_succ]
            refine anyT_done (by kernel_rfl) ?_
            dsimp only [NoPanic]
            clear hS0
            obtain ⟨fn, tmps, assign, body, hy, hRy⟩ := HY.out i j wr.drew HJd.out HE.out
            have hy2 : segV b off cap (i, j) = .slice (some ⟨b, off + i * 5, none⟩) (j - i) (cap - i) := rfl
            rw [hy2] at hy
            have x1 := (HR.out i wr.drew HJd.out).1
            have hji : i ≤ j := by omega
            gi_wp2
            refine hRy.mono ?_
            rintro e W3 ⟨rfl, hJ3⟩
            have HJ3 : Hid (J j W3) := hJ3
            clear hJ3 hRy hy x1
            gi_wp2
            go_roundw
            case rel => exact ⟨j, by omega, rfl, HJ3.out⟩
            case measure => simp [intOf]; omega
          · have HS2 : Hid (∀ k, i ≤ k → k < j + 1 → sameR es i k = true) := fun k h1 h2 => by
              by_cases hk : k = j
              · rw [hk, HSame.out]; exact hr
              · exact HQ.out.1 k h1 (by omega)
            gi_wp2
            refine wpIn_wide.2 ?_
            refine wp_region_noPanic ?_
            refine wp_region_T 99 (fun w' : World => w'.cell? ⟨p, 0, none⟩ = some (.slice (some ⟨b, off, none⟩) N cap) ∧ w'.cell? ⟨b, off + j * 5, none⟩ = some (.string x.row) ∧ w'.cell? ⟨b, off + i * 5, none⟩ = some (.string c.row)) (by kernel_rfl) ?_
            refine anyT_takeN (i := 0) (v := ?vqb0) rfl (by kernel_rfl) (by kernel_rfl) (by kernel_rfl) (by rfl) (fun _ _ _ h => h) (Or.inl ⟨by rfl, ?yqb0⟩) hS0 ?_
            case yqb0 => (intro wz hSw; obtain ⟨hz0, hz1, hz2⟩ := hSw; go_simp; (try with_reducible rfl))
            try simp only [Act.put, List.getElem_toArray, List.getElem_cons_zero, List.getElem_cons_succ, List.setIfInBounds_toArray, List.set_cons_zero, List.set_cons_succ]
            refine anyT_takeN (i := 1) (v := ?vqb1) rfl (by kernel_rfl) (by kernel_rfl) (by kernel_rfl) (by rfl) (fun _ _ _ h => h) (Or.inl ⟨by rfl, ?yqb1⟩) hS0 ?_
            case yqb1 => (intro wz hSw; obtain ⟨hz0, hz1, hz2⟩ := hSw; go_simp; (try with_reducible rfl))
            try simp only [Act.put, List.getElem_toArray, List.getElem_cons_zero, List.getElem_cons_succ, List.setIfInBounds_toArray, List.set_cons_zero, List.set_cons_succ]
            refine anyT_takeN (i := 2) (v := ?vqb2) rfl (by kernel_rfl) (by kernel_rfl) (by kernel_rfl) (by rfl) (fun _ _ _ h => h) (Or.inl ⟨by rfl, ?yqb2⟩) hS0 ?_
            case yqb2 => (intro wz hSw; obtain ⟨hz0, hz1, hz2⟩ := hSw; go_simp; (try with_reducible rfl))
            try simp only [Act.put, List.getElem_toArray, List.getElem_cons_zero, List.getElem_cons_succ, List.setIfInBounds_toArray, List.set_cons_zero, List.set_cons_succ]
            refine anyT_takeN (i := 3) (v := ?vqb3) rfl (by kernel_rfl) (by kernel_rfl) (by kernel_rfl) (by rfl) (fun _ _ _ h => h) (Or.inl ⟨by rfl, ?yqb3⟩) hS0 ?_
            case yqb3 => (intro wz hSw; obtain ⟨hz0, hz1, hz2⟩ := hSw; go_simp; (try with_reducible rfl))
            try simp only [Act.put, List.getElem_toArray, List.getElem_cons_zero, List.getElem_cons_succ, List.setIfInBounds_toArray, List.set_cons_zero, List.set_cons_succ]
            refine anyT_takeN (i := 4) (v := ?vqb4) rfl (by kernel_rfl) (by kernel_rfl) (by kernel_rfl) (by rfl) (fun _ _ _ h => h) (Or.inl ⟨by rfl, ?yqb4⟩) hS0 ?_
            case yqb4 => (intro wz hSw; obtain ⟨hz0, hz1, hz2⟩ := hSw; go_simp; (try with_reducible rfl))
            try simp only [Act.put, List.getElem_toArray, List.getElem_cons_zero, List.getElem_cons_succ, List.setIfInBounds_toArray, List.set_cons_zero, List.set_cons_succ]
            refine anyT_takeN (i := 5) (v := ?vqb5) rfl (by kernel_rfl) (by kernel_rfl) (by kernel_rfl) (by rfl) (fun _ _ _ h => h) (Or.inl ⟨by rfl, ?yqb5⟩) hS0 ?_
            case yqb5 => (intro wz hSw; obtain ⟨hz0, hz1, hz2⟩ := hSw; go_simp; (try with_reducible rfl))
            try simp only [Act.put, List.getElem_toArray, List.getElem_cons_zero, List.getElem_cons_succ, List.setIfInBounds_toArray, List.set_cons_zero, List.set_cons_succ]
            refine anyT_takeN (i := 6) (v := ?vqb6) rfl (by kernel_rfl) (by kernel_rfl) (by kernel_rfl) (by rfl) (fun _ _ _ h => h) (Or.inl ⟨by rfl, ?yqb6⟩) hS0 ?_
            case yqb6 => (intro wz hSw; obtain ⟨hz0, hz1, hz2⟩ := hSw; go_simp; (try with_reducible rfl))
            try simp only [Act.put, List.getElem_toArray, List.getElem_cons_zero, List.getElem_cons_succ, List.setIfInBounds_toArray, List.set_cons_zero, List.set_cons_succ]
            refine anyT_takeN (i := 7) (v := ?vqb7) rfl (by kernel_rfl) (by kernel_rfl) (by kernel_rfl) (by rfl) (fun _ _ _ h => h) (Or.inl ⟨by rfl, ?yqb7⟩) hS0 ?_
            case yqb7 => (intro wz hSw; obtain ⟨hz0, hz1, hz2⟩ := hSw; go_simp; (try with_reducible rfl))
            try simp only [Act.put, List.getElem_toArray, List.getElem_cons_zero, List.getElem_cons_succ, List.setIfInBounds_toArray, List.set_cons_zero, List.set_cons_succ]
            refine anyT_takeN (i := 8) (v := ?vqb8) rfl (by kernel_rfl) (by kernel_rfl) (by kernel_rfl) (by rfl) (fun _ _ _ h => h) (Or.inl ⟨by rfl, ?yqb8⟩) hS0 ?_
            case yqb8 => (intro wz hSw; obtain ⟨hz0, hz1, hz2⟩ := hSw; go_simp; (try with_reducible rfl))
            try simp only [Act.put, List.getElem_toArray, List.getElem_cons_zero, List.getElem_cons_succ, List.setIfInBounds_toArray, List.set_cons_zero, List.set_cons_succ]
            refine anyT_takeN (i := 9) (v := ?vqb9) rfl (by kernel_rfl) (by kernel_rfl) (by kernel_rfl) (by rfl) (fun _ _ _ h => h) (Or.inl ⟨by rfl, ?yqb9⟩) hS0 ?_
            case yqb9 => (intro wz hSw; obtain ⟨hz0, hz1, hz2⟩ := hSw; go_simp; (try with_reducible rfl))
            try simp only [Act.put, List.getElem_toArray, List.getElem_cons_zero, List.getElem_cons_succ, List.setIfInBounds_toArray, List.set_cons_zero, List.set_cons_succ]
            refine anyT_takeN (i := 10) (v := ?vqb10) rfl (by kernel_rfl) (by kernel_rfl) (by kernel_rfl) (by rfl) (fun _ _ _ h => h) (Or.inl ⟨by rfl, ?yqb10⟩) hS0 ?_
            case yqb10 => (intro wz hSw; obtain ⟨hz0, hz1, hz2⟩ := hSw; go_simp; (try with_reducible rfl))
            try simp only [Act.put, List.getElem_toArray, List.getElem_cons_zero, List.getElem_cons_succ, List.setIfInBounds_toArray, List.set_cons_zero, List.set_cons_succ]
            refine anyT_takeN (i := 11) (v := ?vqb11) rfl (by kernel_rfl) (by kernel_rfl) (by kernel_rfl) (by rfl) (fun _ _ _ h => h) (Or.inl ⟨by rfl, ?yqb11⟩) hS0 ?_
            case yqb11 => (intro wz hSw; obtain ⟨hz0, hz1, hz2⟩ := hSw; go_simp; (try with_reducible rfl))
            try simp only [Act.put, List.getElem_toArray, List.getElem_cons_zero, List.getElem_cons_succ, List.setIfInBounds_toArray, List.set_cons_zero, List.set_cons_succ]
            refine anyT_takeN (i := 12) (v := ?vqb12) rfl (by kernel_rfl) (by kernel_rfl) (by kernel_rfl) (by rfl) (fun _ _ _ h => h) (Or.inl ⟨by rfl, ?yqb12⟩) hS0 ?_
            case yqb12 => (intro wz hSw; obtain ⟨hz0, hz1, hz2⟩ := hSw; go_simp; (try with_reducible rfl))
            try simp only [Act.put, List.getElem_toArray, List.getElem_cons_zero, List.getElem_cons_succ, List.setIfInBounds_toArray, List.set_cons_zero, List.set_cons_succ]
            refine anyT_takeN (i := 13) (v := ?vqb13) rfl (by kernel_rfl) (by kernel_rfl) (by kernel_rfl) (by rfl) (fun _ _ _ h => h) (Or.inl ⟨by rfl, ?yqb13⟩) hS0 ?_
            case yqb13 => (intro wz hSw; obtain ⟨hz0, hz1, hz2⟩ := hSw; go_simp; (try with_reducible rfl))
            try simp only [Act.put, List.getElem_toArray, List.getElem_cons_zero, List.getElem_cons_succ, List.setIfInBounds_toArray, List.set_cons_zero, List.set_cons_succ]
            refine anyT_takeN (i := 14) (v := ?vqb14) rfl (by kernel_rfl) (by kernel_rfl) (by kernel_rfl) (by rfl) (fun _ _ _ h => h) (Or.inl ⟨by rfl, ?yqb14⟩) hS0 ?_
            case yqb14 => (intro wz hSw; obtain ⟨hz0, hz1, hz2⟩ := hSw; go_simp; (try with_reducible rfl))
            try simp only [Act.put, List.getElem_toArray, List.getElem_cons_zero, List.getElem_cons_succ, List.setIfInBounds_toArray, List.set_cons_zero, List.set_cons_succ]
            refine anyT_takeN (i := 15) (v := ?vqb15) rfl (by kernel_rfl) (by kernel_rfl) (by kernel_rfl) (by rfl) (fun _ _ _ h => h) (Or.inl ⟨by rfl, ?yqb15⟩) hS0 ?_
            case yqb15 => (intro wz hSw; obtain ⟨hz0, hz1, hz2⟩ := hSw; go_simp; (try with_reducible rfl))
            try simp only [Act.put, List.getElem_toArray, List.getElem_cons_zero, List.getElem_cons_succ, List.setIfInBounds_toArray, List.set_cons_zero, List.set_cons_succ]
            refine anyT_takeN (i := 16) (v := ?vqb16) rfl (by kernel_rfl) (by kernel_rfl) (by kernel_rfl) (by rfl) (fun _ _ _ h => h) (Or.inl ⟨by rfl, ?yqb16⟩) hS0 ?_
            case yqb16 => (intro wz hSw; obtain ⟨hz0, hz1, hz2⟩ := hSw; go_simp; (try with_reducible rfl))
            try simp only [Act.put, List.getElem_toArray, List.getElem_cons_zero, List.getElem_cons_succ, List.setIfInBounds_toArray, List.set_cons_zero, List.set_cons_succ]
            refine anyT_done (by kernel_rfl) ?_
            dsimp only [NoPanic]
            clear hS0
            gi_wp2
            go_roundw
            case rel => exact ⟨j + 1, by omega, by omega, by go_num, HS2.out, HJd.out⟩
            case measure => simp [intOf]; omega
        · have zj : ¬ (j : Int) < (N : Int) := by omega
          have HE : Hid (IsEnd es i j) := ⟨hij, by rw [← HN.out]; omega, HQ.out.1, fun q => by rw [← HN.out] at q; omega⟩
          have HJd : Hid (J i wr.drew) := hJd _ _ HQ.out.2
          have hS0 : (fun w' : World => w'.cell? ⟨p, 0, none⟩ = some (.slice (some ⟨b, off, none⟩) N cap)) wr.drew := hRr.1
          clear hRr
          gi_wp2
          refine wpIn_wide.2 ?_
          refine wp_region_noPanic ?_
          refine wp_region_T 99 (fun w' : World => w'.cell? ⟨p, 0, none⟩ = some (.slice (some ⟨b, off, none⟩) N cap)) (by kernel_rfl) ?_
          refine anyT_takeN (i := 0) (v := ?vqc0) rfl (by kernel_rfl) (by kernel_rfl) (by kernel_rfl) (by rfl) (fun _ _ _ h => h) (Or.inl ⟨by rfl, ?yqc0⟩) hS0 ?_
          case yqc0 => (intro wz hSw; obtain hz0 := hSw; go_simp; (try with_reducible rfl))
          try simp only [Act.put, List.getElem_toArray, List.getElem_cons_zero, List.getElem_cons_succ, List.setIfInBounds_toArray, List.set_cons_zero, List.set_cons_succ]
          refine anyT_takeN (i := 1) (v := ?vqc1) rfl (by kernel_rfl) (by kernel_rfl) (by kernel_rfl) (by rfl) (fun _ _ _ h => h) (Or.inl ⟨by rfl, ?yqc1⟩) hS0 ?_
          case yqc1 => (intro wz hSw; obtain hz0 := hSw; go_simp; (try with_reducible rfl))
          try simp only [Act.put, List.getElem_toArray, List.getElem_cons_zero, List.getElem_cons_succ, List.setIfInBounds_toArray, List.set_cons_zero, List.set_cons_succ]
          refine anyT_takeN (i := 2) (v := ?vqc2) rfl (by kernel_rfl) (by kernel_rfl) (by kernel_rfl) (by rfl) (fun _ _ _ h => h) (Or.inl ⟨by rfl, ?yqc2⟩) hS0 ?_
          case yqc2 => (intro wz hSw; obtain hz0 := hSw; go_simp; (try with_reducible rfl))
          try simp only [Act.put, List.getElem_toArray, List.getElem_cons_zero, List.getElem_cons_succ, List.setIfInBounds_toArray, List.set_cons_zero, List.set_cons_succ]
          refine anyT_takeN (i := 3) (v := .bool false) rfl (by kernel_rfl) (by kernel_rfl) (by kernel_rfl) (by rfl) (fun _ _ _ h => h) (Or.inl ⟨by rfl, ?yqc3⟩) hS0 ?_
          case yqc3 => (intro wz hSw; obtain hz0 := hSw; go_simp; (try simp); (try omega); (try with_reducible rfl))
          try simp only [Act.put, List.getElem_toArray, List.getElem_cons_zero, List.getElem_cons_succ, List.setIfInBounds_toArray, List.set_cons_zero, List.set_cons_succ]
          refine anyT_takeN (i := 4) (v := .bool false) rfl (by kernel_rfl) (by kernel_rfl) (by kernel_rfl) (by rfl) (fun _ _ _ h => h) (Or.inl ⟨by rfl, ?yqc4⟩) hS0 ?_
          case yqc4 => (intro wz hSw; obtain hz0 := hSw; go_simp; (try with_reducible rfl))
          try simp only [Act.put, List.getElem_toArray, List.getElem_cons_zero, List.getElem_cons_succ, List.setIfInBounds_toArray, List.set_cons_zero, List.set_cons_succ]
          refine anyT_takeN (i := 5) (v := undef) rfl (by kernel_rfl) (by kernel_rfl) (by kernel_rfl) (by rfl) (fun _ _ _ h => h) (Or.inr ⟨by rfl, rfl⟩) hS0 ?_
          try simp only [Act.put, List.getElem_toArray, List.getElem_cons_zero, List.getElem_cons_succ, List.setIfInBounds_toArray, List.set_cons_zero, List.set_cons_succ]
          refine anyT_takeN (i := 6) (v := undef) rfl (by kernel_rfl) (by kernel_rfl) (by kernel_rfl) (by rfl) (fun _ _ _ h => h) (Or.inr ⟨by rfl, rfl⟩) hS0 ?_
          try simp only [Act.put, List.getElem_toArray, List.getElem_cons_zero, List.getElem_cons_succ, List.setIfInBounds_toArray, List.set_cons_zero, List.set_cons_succ]
          refine anyT_takeN (i := 7) (v := undef) rfl (by kernel_rfl) (by kernel_rfl) (by kernel_rfl) (by rfl) (fun _ _ _ h => h) (Or.inr ⟨by rfl, rfl⟩) hS0 ?_
          try simp only [Act.put, List.getElem_toArray, List.getElem_cons_zero, List.getElem_cons_succ, List.setIfInBounds_toArray, List.set_cons_zero, List.set_cons_succ]
          refine anyT_takeN (i := 8) (v := undef) rfl (by kernel_rfl) (by kernel_rfl) (by kernel_rfl) (by rfl) (fun _ _ _ h => h) (Or.inr ⟨by rfl, rfl⟩) hS0 ?_
          try simp only [Act.put, List.getElem_toArray, List.getElem_cons_zero, List.getElem_cons_succ, List.setIfInBounds_toArray, List.set_cons_zero, List.set_cons_succ]
          refine anyT_takeN (i := 9) (v := undef) rfl (by kernel_rfl) (by kernel_rfl) (by kernel_rfl) (by rfl) (fun _ _ _ h => h) (Or.inr ⟨by rfl, rfl⟩) hS0 ?_
          try simp only [Act.put, List.getElem_toArray, List.getElem_cons_zero, List.getElem_cons_succ, List.setIfInBounds_toArray, List.set_cons_zero, List.set_cons_succ]
          refine anyT_takeN (i := 10) (v := undef) rfl (by kernel_rfl) (by kernel_rfl) (by kernel_rfl) (by rfl) (fun _ _ _ h => h) (Or.inr ⟨by rfl, rfl⟩) hS0 ?_
          try simp only [Act.put, List.getElem_toArray, List.getElem_cons_zero, List.getElem_cons_succ, List.setIfInBounds_toArray, List.set_cons_zero, List.set_cons_succ]
          refine anyT_takeN (i := 11) (v := undef) rfl (by kernel_rfl) (by kernel_rfl) (by kernel_rfl) (by rfl) (fun _ _ _ h => h) (Or.inr ⟨by rfl, rfl⟩) hS0 ?_
          try simp only [Act.put, List.getElem_toArray, List.getElem_cons_zero, List.getElem_cons_succ, List.setIfInBounds_toArray, List.set_cons_zero, List.set_cons_succ]
          refine anyT_takeN (i := 12) (v := undef) rfl (by kernel_rfl) (by kernel_rfl) (by kernel_rfl) (by rfl) (fun _ _ _ h => h) (Or.inr ⟨by rfl, rfl⟩) hS0 ?_
          try simp only [Act.put, List.getElem_toArray, List.getElem_cons_zero, List.getElem_cons_succ, List.setIfInBounds_toArray, List.set_cons_zero, List.set_cons_succ]
          refine anyT_takeN (i := 13) (v := undef) rfl (by kernel_rfl) (by kernel_rfl) (by kernel_rfl) (by rfl) (fun _ _ _ h => h) (Or.inr ⟨by rfl, rfl⟩) hS0 ?_
          try simp only [Act.put, List.getElem_toArray, List.getElem_cons_zero, List.getElem_cons_succ, List.setIfInBounds_toArray, List.set_cons_zero, List.set_cons_succ]
          refine anyT_takeN (i := 14) (v := undef) rfl (by kernel_rfl) (by kernel_rfl) (by kernel_rfl) (by rfl) (fun _ _ _ h => h) (Or.inr ⟨by rfl, rfl⟩) hS0 ?_
          try simp only [Act.put, List.getElem_toArray, List.getElem_cons_zero, List.getElem_cons_succ, List.setIfInBounds_toArray, List.set_cons_zero, List.set_cons_succ]
          refine anyT_takeN (i := 15) (v := undef) rfl (by kernel_rfl) (by kernel_rfl) (by kernel_rfl) (by rfl) (fun _ _ _ h => h) (Or.inr ⟨by rfl, rfl⟩) hS0 ?_
          try simp only [Act.put, List.getElem_toArray, List.getElem_cons_zero, List.getElem_cons_succ, List.setIfInBounds_toArray, List.set_cons_zero, List.set_cons_succ]
          refine anyT_takeN (i := 16) (v := ?vqc16) rfl (by kernel_rfl) (by kernel_rfl) (by kernel_rfl) (by rfl) (fun _ _ _ h => h) (Or.inl ⟨by rfl, ?yqc16⟩) hS0 ?_
          case yqc16 => (intro wz hSw; obtain hz0 := hSw; go_simp; (try with_reducible rfl))
          try simp only [Act.put, List.getElem_toArray, List.getElem_cons_zero, List.getElem_cons_succ, List.setIfInBounds_toArray, List.set_cons_zero, List.set_cons_succ]
          refine anyT_done (by kernel_rfl) ?_
          dsimp only [NoPanic]
          clear hS0 zj
          obtain ⟨fn, tmps, assign, body, hy, hRy⟩ := HY.out i j wr.drew HJd.out HE.out
          have hy2 : segV b off cap (i, j) = .slice (some ⟨b, off + i * 5, none⟩) (j - i) (cap - i) := rfl
          rw [hy2] at hy
          have x1 := (HR.out i wr.drew HJd.out).1
          have hji : i ≤ j := by omega
          gi_wp2
          refine hRy.mono ?_
          rintro e W3 ⟨rfl, hJ3⟩
          have HJ3 : Hid (J j W3) := hJ3
          clear hJ3 hRy hy x1
          gi_wp2
          go_roundw
          case rel => exact ⟨j, by omega, rfl, HJ3.out⟩
          case measure => simp [intOf]; omega
    · have hin : i = N := by omega
      have zi : ¬ (i : Int) < (N : Int) := by omega
      have HF : Hid (J N wr) := by rw [← hin]; exact HJ.out
      clear HJ
      gi_wp2
      go_end0
      exact ⟨⟨_, rfl⟩, HF.out⟩
theorem wp_range_rows {g : Operand} {ps : Array Tmp} {assign body : Code} {Q : Exit → Act → World → Prop} {a : Act} {w : World} {n : Nat} (h1 : 2 ≤ n) (es : List Ent) (p b off cap : Nat) (hN0 : es.length ≤ 10000)
    (hg : a.eval g = .func (.func 75) #[] #[ptrC p]) (hps : ps.size = 1) (I : Nat → World → Prop) (hI : OwnFrom w.heap.size I) (hIt : ∀ k W, I k W → RwI p b off cap es W)
    (h0 : I 0 w) (a₁ : Nat → Nat → Act)
    (hassign : ∀ (l i j : Nat) (W : World) (K : Act → World → Prop), K (a₁ i j) W → assign.wpIn (Fence.wide.inRound l) (n - 1 - 1) Tryz.prog (Exit.then K (fun _ _ _ => False)) { tmps := (ps.zip #[segV b off cap (i, j)]).foldl (fun t (p, v) => t.setIfInBounds p v) a.tmps, defers := [] } W)
    (hbody : ∀ (l i j : Nat) (W : World), I i W → IsEnd es i j → body.wpIn (Fence.wide.inRound l) (n - 1 - 1) Tryz.prog (fun e _ W' => e = .normal ∧ KeepsFrom w.heap.size W W' ∧ I j W') (a₁ i j) W)
    (hdone : ∀ (D : Nat) (W : World), w.heap.size ≤ D → I es.length W → W.heap[D]? = some (.deferred (some [])) → Q .normal { a with defers := { target := .collected D, args := #[] } :: a.defers } W) :
    (Code.rangeFunc g ps assign body).wpIn Fence.wide n Tryz.prog Q a w := by
  refine wpIn_rangeFunc ?_
  intro fn hfn
  obtain ⟨rec, hrec⟩ : ∃ rec : LoopState → Option Code → Loop, rec = fun st pe => { state := st, pending := pe, fn, tmps := a.tmps, params := ps, assign, body, defers := w.heap.size } := ⟨_, rfl⟩
  obtain ⟨W1, hW1⟩ : ∃ W1, (w.alloc (.deferred (some []))).alloc (.loop (rec .ready none)) = W1 := ⟨_, rfl⟩
  have hL1 : W1.heap[w.heap.size + 1]? = some (.loop (rec .ready none)) := by
    rw [← hW1]; have := World.alloc_heap_new (w.alloc (.deferred (some []))) (.loop (rec .ready none)); rwa [World.size_alloc] at this
  have hK1 : W1.heap[w.heap.size]? = some (.deferred (some [])) := by
    rw [← hW1]; exact (Below.heap_alloc _ _ _ (by simp)).trans (World.alloc_heap_new w _)
  have hI1 : I 0 W1 := by rw [← hW1]; exact hI.alloc _ (hI.alloc _ h0)
  refine ⟨w.heap.size + 1, [{ target := .collected w.heap.size, args := #[] }], W1, { target := .fn (.func 75) #[ptrC p], args := #[.func (.yield (w.heap.size + 1)) #[] #[]] }, W1, 75,
    #[.func (.yield (w.heap.size + 1)) #[] #[], ptrC p], W1, ?_, ?_, fun _ _ => trivial, ?_, fun _ => by omega, ?_⟩
  · rw [← hW1, hrec]; exact run_enterLoop_outer _ _ _ _ _
  · simp only [resolve, hg]
    simp [go_sem]
  · simp [invoke, go_sem]
  · have hkeep : ∀ (k : Nat) {A B : World} {row : Option Nat}, (I k A ∧ A.heap[w.heap.size + 1]? = some (.loop (rec .ready none)) ∧ A.heap[w.heap.size]? = some (.deferred (some []))) → A.grownBy B none → (I k B ∧ B.heap[w.heap.size + 1]? = some (.loop (rec .ready none)) ∧ B.heap[w.heap.size]? = some (.deferred (some []))) := fun k A B row h hgr =>
      ⟨hI k A B none h.1 hgr (fun r e => by cases e), (hgr.block _ (Array.getElem?_eq_some_iff.1 h.2.1).1 (by simp)).trans h.2.1, (hgr.block _ (Array.getElem?_eq_some_iff.1 h.2.2).1 (by simp)).trans h.2.2⟩
    refine (rows_in es p b off cap hN0 (w.heap.size + 1) (n - 1) (by omega) (fun k W => I k W ∧ W.heap[w.heap.size + 1]? = some (.loop (rec .ready none)) ∧ W.heap[w.heap.size]? = some (.deferred (some []))) ?_ (fun k W h => hkeep k (row := none) h ⟨rfl, rfl, rfl, Nat.le_refl _, fun _ _ _ => rfl⟩) (fun k W h => hIt k W h.1) W1 ⟨hI1, hL1, hK1⟩).mono ?_
    · rintro i j W ⟨hi, hl, hk⟩ hE
      have hlt : w.heap.size + 1 < W.heap.size := (Array.getElem?_eq_some_iff.1 hl).1
      have hy := run_yield (P := Tryz.prog) (args := #[segV b off cap (i, j)]) hl (by rw [hrec]; exact hps.symm)
      rw [hrec] at hy
      refine ⟨fn, _, assign, body, hy, roundIn_of_wpIn hfn (hassign _ i j W _ ⟨_, run_beginRound hl (by rw [hrec]), ?_⟩)⟩
      have hl2 : (W.putObj (w.heap.size + 1) (.loop { rec .ready none with state := .busy })).heap[w.heap.size + 1]? = some (.loop { rec .ready none with state := .busy }) := World.putObj_heap_same hlt
      have hk2 : (W.putObj (w.heap.size + 1) (.loop { rec .ready none with state := .busy })).heap[w.heap.size]? = some (.deferred (some [])) := (World.putObj_heap_other (by omega)).trans hk
      refine wpIn_mono (hbody _ i j _ (hI.putObj _ hi (by omega) hl rfl) hE) ?_
      rintro e a3 W3 ⟨rfl, hk3, hi3⟩
      have hl3 := hk3.same _ _ (by omega) hl2 rfl
      have hr := run_endRound (P := Tryz.prog) none hl3
      rw [hrec] at hr hl3
      refine ⟨_, _, hr, rfl, hI.putObj _ hi3 (by omega) hl3 rfl, ?_, (World.putObj_heap_other (by omega)).trans (hk3.same _ _ (Nat.le_refl _) hk2 rfl)⟩
      rw [hrec]
      exact World.putObj_heap_same (Array.getElem?_eq_some_iff.1 hl3).1
    · rintro e W2 ⟨⟨v, rfl⟩, hi, hl, hk⟩
      exact ⟨none, _, by have := run_endLoop (P := Tryz.prog) hl (by rw [hrec]; simp); rw [hrec] at this; exact this, hdone _ _ (Nat.le_refl _) (hI.putObj _ hi (by omega) hl rfl) ((World.putObj_heap_other (by omega)).trans hk)⟩
end Go.Proofs.YtkidabedcgngcaaGreatDoor

/-
  impl.shapeOf.
-/
namespace Go.Proofs.YtkidabedcgngcaaGreatDoor
open Go.ChangeShapes Go.WideShapes Go.ChangeAt Go.RowKit Go.Deep
set_option linter.unusedVariables false
set_option linter.unusedSimpArgs false
set_option maxRecDepth 100000

theorem lift0 {P : Program} {f : Nat} {args : Array Value} {w : World} {v : Value} (W0 : World) (h : Below W0.heap.size W0 w) (c : Calls P f args w fun e w' => e = .returned v ∧ Below w.heap.size w w') :
    Calls P f args w fun e w' => e = .returned v ∧ Below W0.heap.size W0 w' ∧ (∀ b o, b < W0.heap.size → w'.cell? ⟨b, o, none⟩ = W0.cell? ⟨b, o, none⟩) := by
  refine c.mono ?_
  rintro e w' ⟨he, hb⟩
  have k := h.trans (hb.mono h.size)
  exact ⟨he, k, fun b o hlt => k.cell (p := ⟨b, o, none⟩) hlt⟩
def SoA (w : World) (e : Nd) (W0 : World) : Prop := BoxAt W0 w.heap.size 75 7 w.heap.size e.seven ∧ BoxAt W0 w.heap.size 96 3 (w.heap.size + 1) [.bool false, .int .i64 0, .int .i64 0] ∧ Below w.heap.size w W0 ∧ W0.heap.size = w.heap.size + 2
theorem so_after {w W0 w' : World} {e : Nd} {gd : Bool} (hA : SoA w e W0) (hb : Below W0.drew.heap.size W0.drew w') : SoJ w e w'.heap.size gd 0 (w'.alloc (Obj.cells #[.bool gd, .int .i64 e.kind, .int .i64 0] 96)) := by
  have h1 : Below W0.heap.size W0 w' := ((Below.refl W0.heap.size W0).drew).trans hb
  have h2 := h1.size
  have h3 : Below W0.heap.size W0 (w'.alloc (Obj.cells #[.bool gd, .int .i64 e.kind, .int .i64 0] 96)) := h1.alloc h2 _
  have h4 := hA.2.2.2
  exact ⟨hA.1.below h3, hA.2.1.below h3, boxAt_new w' _ (by omega) rfl, by omega, hA.2.2.1.trans (h3.mono (by omega))⟩
theorem so_before {w W0 w' : World} {e : Nd} {gd : Bool} (hA : SoA w e W0) (hb : Below (W0.drew.alloc (Obj.cells #[.bool false, .int .i64 0, .int .i64 0] 96)).heap.size (W0.drew.alloc (Obj.cells #[.bool false, .int .i64 0, .int .i64 0] 96)) w') :
    SoJ w e (w.heap.size + 2) gd 0 (((w'.setCell ⟨w.heap.size + 2, 0, none⟩ (.bool gd)).setCell ⟨w.heap.size + 2, 1, none⟩ (.int .i64 e.kind)).setCell ⟨w.heap.size + 2, 2, none⟩ (.int .i64 0)) := by
  have h4 := hA.2.2.2
  have hd : W0.drew.heap.size = W0.heap.size := by simp
  have h0 : Below W0.heap.size W0 (W0.drew.alloc (Obj.cells #[.bool false, .int .i64 0, .int .i64 0] 96)) := ((Below.refl W0.heap.size W0).drew).alloc (by simp) _
  have h1 : Below W0.heap.size W0 w' := h0.trans (hb.mono (by simp))
  have hB : BoxAt w' w.heap.size 96 3 (w.heap.size + 2) [.bool false, .int .i64 0, .int .i64 0] := by
    have := boxAt_new W0.drew (base := w.heap.size) (t := 96) (sz := 3) #[.bool false, .int .i64 0, .int .i64 0] (by simp; omega) rfl
    rw [hd, h4] at this
    exact this.below hb
  refine ⟨(((hA.1.below h1).beside (by omega) 0 _).beside (by omega) 1 _).beside (by omega) 2 _, (((hA.2.1.below h1).beside (by omega) 0 _).beside (by omega) 1 _).beside (by omega) 2 _, ((hB.set 0 _).set 1 _).set 2 _, Nat.le_refl _, ?_⟩
  exact below_set (below_set (below_set (hA.2.2.1.trans (h1.mono (by omega))) (by omega) 0 _) (by omega) 1 _) (by omega) 2 _
/-- One round of shapeOf: the operand's block, then the stores. -/
structure SoK (w : World) (e : Nd) (WB OB : Nat) (v : Bool) (a : Nat) (x : Shape) (q : Nat) (wr : World) : Prop where
  so : SoJ w e WB v a wr
  ob : BoxAt wr w.heap.size 96 3 OB [.bool x.valid, .int .i64 x.kind, .int .i64 (q : Int)]
  ne : ¬ OB = WB
  ge : w.heap.size + 2 ≤ OB
theorem SoJ.round {w : World} {e : Nd} {WB : Nat} {v : Bool} {a : Nat} {wr : World} (h : SoJ w e WB v a wr) (x : Shape) : SoK w e WB wr.heap.size v a x x.nest (wr.alloc (Obj.cells #[.bool x.valid, .int .i64 x.kind, .int .i64 (x.nest : Int)] 96)) := by
  have hb : Below wr.heap.size wr (wr.alloc (Obj.cells #[.bool x.valid, .int .i64 x.kind, .int .i64 (x.nest : Int)] 96)) := (Below.refl _ _).alloc (Nat.le_refl _) _
  have h1 := h.whole.lt.2
  have h2 := h.ne
  exact ⟨h.move hb, boxAt_new wr _ h.below.size rfl, by omega, by omega⟩
theorem SoK.valid {w : World} {e : Nd} {WB OB : Nat} {v : Bool} {a : Nat} {x : Shape} {q : Nat} {wr : World} (h : SoK w e WB OB v a x q wr) (v2 : Bool) : SoK w e WB OB v2 a x q (wr.setCell ⟨WB, 0, none⟩ (.bool v2)) := by
  have h2 := h.so.ne
  exact ⟨⟨h.so.node.beside (by omega) 0 _, h.so.res.beside (by omega) 0 _, h.so.whole.set 0 _, h2, below_set h.so.below (by omega) 0 _⟩, h.ob.beside h.ne 0 _, h.ne, h.ge⟩
theorem SoK.more {w : World} {e : Nd} {WB OB : Nat} {v : Bool} {a : Nat} {x : Shape} {q : Nat} {wr : World} (h : SoK w e WB OB v a x q wr) (q2 : Nat) : SoK w e WB OB v a x q2 (wr.setCell ⟨OB, 2, none⟩ (.int .i64 (q2 : Int))) := by
  have h2 := h.so.ne
  have h3 := h.ge
  have h4 := h.ne
  exact ⟨⟨h.so.node.beside (by omega) 2 _, h.so.res.beside (by omega) 2 _, h.so.whole.beside (by omega) 2 _, h2, below_set h.so.below (by omega) 2 _⟩, h.ob.set 2 _, h.ne, h.ge⟩
theorem SoK.done {w : World} {e : Nd} {WB OB : Nat} {v : Bool} {a : Nat} {x : Shape} {q : Nat} {wr : World} (h : SoK w e WB OB v a x q wr) (a2 : Nat) : SoJ w e WB v a2 (wr.setCell ⟨WB, 2, none⟩ (.int .i64 (a2 : Int))) := by
  have h2 := h.so.ne
  exact ⟨h.so.node.beside (by omega) 2 _, h.so.res.beside (by omega) 2 _, h.so.whole.set 2 _, h2, below_set h.so.below (by omega) 2 _⟩
theorem take_all {os : List Shape} {j : Nat} {x : Shape} (h : os[j]? = some x) : (os.take (j + 1)).all (·.valid) = ((os.take j).all (·.valid) && x.valid) := by
  rw [List.take_add_one, h]
  simp
theorem nestFrom_at (op : Int) {os : List Shape} {j a : Nat} {o : Shape} (h : os[j]? = some o) : nestFrom op j a (os.drop j) = nestFrom op (j + 1) (max a (o.nest + if level op j o.kind then 1 else 0)) (os.drop (j + 1)) := by
  have hj := (List.getElem?_eq_some_iff.1 h).1
  rw [List.drop_eq_getElem_cons hj, show os[j] = o from Option.some.inj ((List.getElem?_eq_getElem hj).symm.trans h)]
  rfl
set_option maxHeartbeats 8000000 in
theorem shapeOf_core {w : World} {b o cap : Nat} {os : List Shape} (e : Nd) (h : ShsAt w b o os) (hbl : b < w.heap.size) (hl : os.length ≤ cap) (h3 : os.length ≤ 3) (hcap : cap ≤ 9223372036854775807) (hN : ∀ x ∈ os, x.nest ≤ 1000) (hs : e.s.size ≤ maxLen) (ht : e.t.size ≤ maxLen) :
    Calls Tryz.prog 57 #[e.v, .slice (some ⟨b, o, none⟩) os.length cap] w fun r w' => r = .returned (.agg #[.bool (shapeM goodB e os).valid, .int .i64 e.kind, .int .i64 ((shapeM goodB e os).nest : Int)]) ∧ Below w.heap.size w w' := by
  have HF : Hid (ShsAt w b o os ∧ (∀ x ∈ os, x.nest ≤ 1000) ∧ e.s.size ≤ maxLen ∧ e.t.size ≤ maxLen) := ⟨h, hN, hs, ht⟩
  obtain ⟨n, hn⟩ : ∃ n, n = os.length := ⟨_, rfl⟩
  have HL : Hid (n = os.length) := hn
  rw [← hn] at hl h3 ⊢
  clear h hN hs ht hn
  obtain ⟨gd, hgd⟩ : ∃ gd, gd = goodB e := ⟨_, rfl⟩
  have HG : Hid (gd = goodB e) := hgd
  have HVal : Hid (∀ w, Calls Tryz.prog 99 #[.agg #[.int .i64 e.kind, .string e.s, .bool e.hi, .string e.t, .int .u64 e.lo, .int .u64 e.up, .int .i64 e.n]] w fun r w' => r = .returned (.bool gd) ∧ Below w.heap.size w w') := fun w => by
    rw [hgd]; exact valid_is e w HF.out.2.2.1 HF.out.2.2.2
  clear hgd
  obtain ⟨W0, hW0⟩ : ∃ W0 : World, W0 = (w.alloc (Obj.cells #[.int .i64 e.kind, .string e.s, .bool e.hi, .string e.t, .int .u64 e.lo, .int .u64 e.up, .int .i64 e.n] 75)).alloc (Obj.cells #[.bool false, .int .i64 0, .int .i64 0] 96) := ⟨_, rfl⟩
  have HW0 : Hid (BoxAt W0 w.heap.size 75 7 w.heap.size e.seven ∧ BoxAt W0 w.heap.size 96 3 (w.heap.size + 1) [.bool false, .int .i64 0, .int .i64 0] ∧ Below w.heap.size w W0 ∧ W0.heap.size = w.heap.size + 2) := by
    rw [hW0]
    exact ⟨BoxAt.ofHeap (vs := #[.int .i64 e.kind, .string e.s, .bool e.hi, .string e.t, .int .u64 e.lo, .int .u64 e.up, .int .i64 e.n]) (heap_alloc2_old w _ _) (Nat.le_refl _) rfl, BoxAt.ofHeap (vs := #[.bool false, .int .i64 0, .int .i64 0]) (heap_alloc2_new w _ _) (by omega) rfl, ((Below.refl _ _).alloc (Nat.le_refl _) _).alloc (by simp) _, by simp⟩
  have c0 := HW0.out.1.cell (j := 0) rfl
  have c1 := HW0.out.1.cell (j := 1) rfl
  have c2 := HW0.out.1.cell (j := 2) rfl
  have c3 := HW0.out.1.cell (j := 3) rfl
  have c4 := HW0.out.1.cell (j := 4) rfl
  have c5 := HW0.out.1.cell (j := 5) rfl
  have c6 := HW0.out.1.cell (j := 6) rfl
  have hz := HW0.out.2.2.2
  obtain ⟨tot, htot⟩ : ∃ tot, tot = (shapeM goodB e os).nest := ⟨_, rfl⟩
  have HT : Hid (nestFrom e.kind 0 0 os = tot) := by rw [htot]; exact (rfl : nestFrom e.kind 0 0 os = _)
  have HV : Hid ((shapeM goodB e os).valid = (gd && os.all (·.valid))) := by
    show (shapeM goodB e os).valid = _
    rw [HG.out]; rfl
  rw [← htot]
  clear htot
  go_enter Tryz.func57, Tryz.ntmps57
  go_upto_region 1 with fail
  rw [← hW0]
  clear hW0
  go_cut [5] (fun s wx => ∃ WB, s = .pointer (some ⟨WB, 0, none⟩) ∧ SoJ w e WB gd 0 wx)
  case first =>
    have hlt0 : w.heap.size < W0.heap.size := by omega
    have c0a : ∀ o, (W0.alloc o).cell? ⟨w.heap.size, 0, none⟩ = some (.int .i64 e.kind) := fun o => by rw [((Below.refl W0.heap.size W0).alloc (Nat.le_refl _) o).cell (p := ⟨w.heap.size, 0, none⟩) hlt0]; exact c0
    go_region_law ((go_simp; go_at_call 99; refine (HVal.out _).mono ?_; rintro r w' ⟨rfl, hbb⟩; obtain ⟨hcc, hff⟩ := bcell hbb; have hsz' := hbb.size; have k0 : w'.cell? ⟨w.heap.size, 0, none⟩ = some (.int .i64 e.kind) := by { rw [hcc w.heap.size 0 (by simp; omega)]; first | exact c0 | (simp; first | exact c0 | exact c0a _) }; have kl : w.heap.size < w'.heap.size := by { simp at hsz'; omega }; have k0a : ∀ o, (w'.alloc o).cell? ⟨w.heap.size, 0, none⟩ = some (.int .i64 e.kind) := fun o => by { rw [((Below.refl w'.heap.size w').alloc (Nat.le_refl _) o).cell (p := ⟨w.heap.size, 0, none⟩) kl]; exact k0 }))
    all_goals go_wp2_with fail
    all_goals go_meet
    all_goals first
      | exact ⟨_, rfl, so_after HW0.out hbb⟩
      | exact ⟨_, rfl, so_before HW0.out hbb⟩
  case rest =>
  obtain ⟨WB, rfl, hJ⟩ := hcut
  have HJ0 : Hid (SoJ w e WB gd 0 wc) := hJ
  clear hJ c0 c1 c2 c3 c4 c5 c6 hz HW0 HVal
  go_wp2_with fail
  go_loopw [15] (fun iv wr => ∃ (j a : Nat) (v : Bool), iv = .int .i64 (j : Int) ∧ j ≤ n ∧ a ≤ 2000 ∧ v = (gd && (os.take j).all (·.valid)) ∧ nestFrom e.kind j a (os.drop j) = tot ∧ SoJ w e WB v a wr) (fun iv _ => n - (intOf iv).toNat)
  case atStart => exact ⟨0, 0, gd, rfl, Nat.zero_le _, Nat.zero_le _, by simp, HT.out, HJ0.out⟩
  case round =>
    obtain ⟨j, a, v, rfl, hj, ha, hv, hN, hJ⟩ := hrel
    have HJ : Hid (v = (gd && (os.take j).all (·.valid)) ∧ nestFrom e.kind j a (os.drop j) = tot ∧ SoJ w e WB v a wr) := ⟨hv, hN, hJ⟩
    have hWB := hJ.whole.lt
    have hWn := hJ.ne
    clear hv hN hJ HJ0 HT
    by_cases hlt : j < n
    · have zj : (j : Int) < (n : Int) := by omega
      obtain ⟨x, hx⟩ : ∃ x, os[j]? = some x := ⟨_, List.getElem?_eq_getElem (by have := HL.out; omega)⟩
      obtain ⟨d0, d1, d2⟩ := (HF.out.1.below HJ.out.2.2.below hbl) j x hx
      have hxn := HF.out.2.1 x (List.mem_of_getElem? hx)
      have HX : Hid (os[j]? = some x) := hx
      obtain ⟨W1, hW1⟩ : ∃ W1 : World, W1 = wr.alloc (Obj.cells #[.bool x.valid, .int .i64 x.kind, .int .i64 (x.nest : Int)] 96) := ⟨_, rfl⟩
      have HK1 : Hid (SoK w e WB wr.heap.size v a x x.nest W1) := by rw [hW1]; exact HJ.out.2.2.round x
      clear hx
      go_upto_region 5 with fail
      rw [← hW1]
      clear hW1 d0 d1 d2
      obtain ⟨v0, hv0⟩ : ∃ v0, v0 = v := ⟨_, rfl⟩
      have HV0 : Hid (v0 = (gd && (os.take j).all (·.valid))) := by rw [hv0]; exact HJ.out.1
      have HN0 : Hid (nestFrom e.kind j a (os.drop j) = tot) := HJ.out.2.1
      clear HJ
      have w0 := HK1.out.so.whole.cell (j := 0) rfl
      have w0f := HK1.out.so.whole.frozen 0
      have o0 := HK1.out.ob.cell (j := 0) rfl
      have hne := HK1.out.ne
      have hge := HK1.out.ge
      cases v
      · have hv0' : v0 = false := hv0
        clear hv0
        obtain ⟨W2, hW2⟩ : ∃ W2 : World, W2 = W1.setCell ⟨WB, 0, none⟩ (.bool false) := ⟨_, rfl⟩
        have HK2 : Hid (SoK w e WB wr.heap.size false a x x.nest W2) := by rw [hW2]; exact HK1.out.valid false
        have HVn : Hid (false = (gd && (os.take (j + 1)).all (·.valid))) := by
          show false = _
          rw [take_all HX.out, ← Bool.and_assoc, ← HV0.out, hv0']
          simp
        go_upto_region 6 with fail
        rw [← hW2]
        clear hW2 w0 w0f o0 HK1 HV0
        have m0 := HK2.out.so.node.cell (j := 0) rfl
        have o1 := HK2.out.ob.cell (j := 1) rfl
        have o2 := HK2.out.ob.cell (j := 2) rfl
        have o2f := HK2.out.ob.frozen 2
        have w2 := HK2.out.so.whole.cell (j := 2) rfl
        have w2f := HK2.out.so.whole.frozen 2
        have fin : ∀ (y : Nat), y = max a (x.nest + (if level e.kind j x.kind then 1 else 0)) → nestFrom e.kind (j + 1) y (os.drop (j + 1)) = tot := fun y hy => by
          rw [hy, ← nestFrom_at e.kind HX.out]; exact HN0.out
        by_cases h16 : e.kind = 16
        · have hlv : level e.kind j x.kind = true := by unfold level; rw [h16]; rfl
          have z16 : (e.kind == 16) = true := by simpa using h16
          clear h16
          obtain ⟨W3, hW3⟩ : ∃ W3 : World, W3 = W2.setCell ⟨wr.heap.size, 2, none⟩ (.int .i64 ((x.nest : Int) + 1)) := ⟨_, rfl⟩
          have HK3 : Hid (SoK w e WB wr.heap.size false a x (x.nest + 1) W3) := by rw [hW3]; exact HK2.out.more (x.nest + 1)
          go_upto_region 8 with fail
          rw [← hW3]
          clear hW3 m0 o1 o2 o2f w2 w2f HK2
          have o2 := HK3.out.ob.cell (j := 2) rfl
          have w2 := HK3.out.so.whole.cell (j := 2) rfl
          have w2f := HK3.out.so.whole.frozen 2
          obtain ⟨a2, ha2⟩ : ∃ a2, a2 = max a (x.nest + 1) := ⟨_, rfl⟩
          have HFin : Hid (nestFrom e.kind (j + 1) a2 (os.drop (j + 1)) = tot ∧ a2 ≤ 2000) := ⟨fin a2 (by rw [ha2, hlv]; rfl), by omega⟩
          have ha3 : max (a : Int) ((x.nest : Int) + 1) = (a2 : Int) := by omega
          clear fin hlv ha2
          go_wp2_with fail
          go_roundw
          case rel =>
            refine ⟨j + 1, a2, false, by go_num, by omega, HFin.out.2, HVn.out, HFin.out.1, ?_⟩
            exact HK3.out.done a2
          case measure => simp [intOf]; omega
        · have z16 : (e.kind == 16) = false := by simpa using h16
          go_wp2_with fail
          refine (inParens_core e.kind j x.kind _ h16).mono ?_
          rintro r w9 ⟨rfl, hw9⟩
          rw [hw9]
          clear hw9 h16
          cases hlv : level e.kind j x.kind
          · skip
            obtain ⟨a2, ha2⟩ : ∃ a2, a2 = max a (x.nest) := ⟨_, rfl⟩
            have HFin : Hid (nestFrom e.kind (j + 1) a2 (os.drop (j + 1)) = tot ∧ a2 ≤ 2000) := ⟨fin a2 (by rw [ha2, hlv]; rfl), by omega⟩
            have ha3 : max (a : Int) ((x.nest : Int)) = (a2 : Int) := by omega
            clear fin hlv ha2
            go_wp2_with fail
            go_roundw
            case rel =>
              refine ⟨j + 1, a2, false, by go_num, by omega, HFin.out.2, HVn.out, HFin.out.1, ?_⟩
              exact HK2.out.done a2
            case measure => simp [intOf]; omega
          · skip
            obtain ⟨W3, hW3⟩ : ∃ W3 : World, W3 = W2.setCell ⟨wr.heap.size, 2, none⟩ (.int .i64 ((x.nest : Int) + 1)) := ⟨_, rfl⟩
            have HK3 : Hid (SoK w e WB wr.heap.size false a x (x.nest + 1) W3) := by rw [hW3]; exact HK2.out.more (x.nest + 1)
            go_upto_region 8 with fail
            rw [← hW3]
            clear hW3 m0 o1 o2 o2f w2 w2f HK2
            have o2 := HK3.out.ob.cell (j := 2) rfl
            have w2 := HK3.out.so.whole.cell (j := 2) rfl
            have w2f := HK3.out.so.whole.frozen 2
            obtain ⟨a2, ha2⟩ : ∃ a2, a2 = max a (x.nest + 1) := ⟨_, rfl⟩
            have HFin : Hid (nestFrom e.kind (j + 1) a2 (os.drop (j + 1)) = tot ∧ a2 ≤ 2000) := ⟨fin a2 (by rw [ha2, hlv]; rfl), by omega⟩
            have ha3 : max (a : Int) ((x.nest : Int) + 1) = (a2 : Int) := by omega
            clear fin hlv ha2
            go_wp2_with fail
            go_roundw
            case rel =>
              refine ⟨j + 1, a2, false, by go_num, by omega, HFin.out.2, HVn.out, HFin.out.1, ?_⟩
              exact HK3.out.done a2
            case measure => simp [intOf]; omega
      · have hv0' : v0 = true := hv0
        clear hv0
        obtain ⟨W2, hW2⟩ : ∃ W2 : World, W2 = W1.setCell ⟨WB, 0, none⟩ (.bool x.valid) := ⟨_, rfl⟩
        have HK2 : Hid (SoK w e WB wr.heap.size x.valid a x x.nest W2) := by rw [hW2]; exact HK1.out.valid x.valid
        have HVn : Hid (x.valid = (gd && (os.take (j + 1)).all (·.valid))) := by
          show x.valid = _
          rw [take_all HX.out, ← Bool.and_assoc, ← HV0.out, hv0']
          simp
        go_upto_region 6 with fail
        rw [← hW2]
        clear hW2 w0 w0f o0 HK1 HV0
        have m0 := HK2.out.so.node.cell (j := 0) rfl
        have o1 := HK2.out.ob.cell (j := 1) rfl
        have o2 := HK2.out.ob.cell (j := 2) rfl
        have o2f := HK2.out.ob.frozen 2
        have w2 := HK2.out.so.whole.cell (j := 2) rfl
        have w2f := HK2.out.so.whole.frozen 2
        have fin : ∀ (y : Nat), y = max a (x.nest + (if level e.kind j x.kind then 1 else 0)) → nestFrom e.kind (j + 1) y (os.drop (j + 1)) = tot := fun y hy => by
          rw [hy, ← nestFrom_at e.kind HX.out]; exact HN0.out
        by_cases h16 : e.kind = 16
        · have hlv : level e.kind j x.kind = true := by unfold level; rw [h16]; rfl
          have z16 : (e.kind == 16) = true := by simpa using h16
          clear h16
          obtain ⟨W3, hW3⟩ : ∃ W3 : World, W3 = W2.setCell ⟨wr.heap.size, 2, none⟩ (.int .i64 ((x.nest : Int) + 1)) := ⟨_, rfl⟩
          have HK3 : Hid (SoK w e WB wr.heap.size x.valid a x (x.nest + 1) W3) := by rw [hW3]; exact HK2.out.more (x.nest + 1)
          go_upto_region 8 with fail
          rw [← hW3]
          clear hW3 m0 o1 o2 o2f w2 w2f HK2
          have o2 := HK3.out.ob.cell (j := 2) rfl
          have w2 := HK3.out.so.whole.cell (j := 2) rfl
          have w2f := HK3.out.so.whole.frozen 2
          obtain ⟨a2, ha2⟩ : ∃ a2, a2 = max a (x.nest + 1) := ⟨_, rfl⟩
          have HFin : Hid (nestFrom e.kind (j + 1) a2 (os.drop (j + 1)) = tot ∧ a2 ≤ 2000) := ⟨fin a2 (by rw [ha2, hlv]; rfl), by omega⟩
          have ha3 : max (a : Int) ((x.nest : Int) + 1) = (a2 : Int) := by omega
          clear fin hlv ha2
          go_wp2_with fail
          go_roundw
          case rel =>
            refine ⟨j + 1, a2, x.valid, by go_num, by omega, HFin.out.2, HVn.out, HFin.out.1, ?_⟩
            exact HK3.out.done a2
          case measure => simp [intOf]; omega
        · have z16 : (e.kind == 16) = false := by simpa using h16
          go_wp2_with fail
          refine (inParens_core e.kind j x.kind _ h16).mono ?_
          rintro r w9 ⟨rfl, hw9⟩
          rw [hw9]
          clear hw9 h16
          cases hlv : level e.kind j x.kind
          · skip
            obtain ⟨a2, ha2⟩ : ∃ a2, a2 = max a (x.nest) := ⟨_, rfl⟩
            have HFin : Hid (nestFrom e.kind (j + 1) a2 (os.drop (j + 1)) = tot ∧ a2 ≤ 2000) := ⟨fin a2 (by rw [ha2, hlv]; rfl), by omega⟩
            have ha3 : max (a : Int) ((x.nest : Int)) = (a2 : Int) := by omega
            clear fin hlv ha2
            go_wp2_with fail
            go_roundw
            case rel =>
              refine ⟨j + 1, a2, x.valid, by go_num, by omega, HFin.out.2, HVn.out, HFin.out.1, ?_⟩
              exact HK2.out.done a2
            case measure => simp [intOf]; omega
          · skip
            obtain ⟨W3, hW3⟩ : ∃ W3 : World, W3 = W2.setCell ⟨wr.heap.size, 2, none⟩ (.int .i64 ((x.nest : Int) + 1)) := ⟨_, rfl⟩
            have HK3 : Hid (SoK w e WB wr.heap.size x.valid a x (x.nest + 1) W3) := by rw [hW3]; exact HK2.out.more (x.nest + 1)
            go_upto_region 8 with fail
            rw [← hW3]
            clear hW3 m0 o1 o2 o2f w2 w2f HK2
            have o2 := HK3.out.ob.cell (j := 2) rfl
            have w2 := HK3.out.so.whole.cell (j := 2) rfl
            have w2f := HK3.out.so.whole.frozen 2
            obtain ⟨a2, ha2⟩ : ∃ a2, a2 = max a (x.nest + 1) := ⟨_, rfl⟩
            have HFin : Hid (nestFrom e.kind (j + 1) a2 (os.drop (j + 1)) = tot ∧ a2 ≤ 2000) := ⟨fin a2 (by rw [ha2, hlv]; rfl), by omega⟩
            have ha3 : max (a : Int) ((x.nest : Int) + 1) = (a2 : Int) := by omega
            clear fin hlv ha2
            go_wp2_with fail
            go_roundw
            case rel =>
              refine ⟨j + 1, a2, x.valid, by go_num, by omega, HFin.out.2, HVn.out, HFin.out.1, ?_⟩
              exact HK3.out.done a2
            case measure => simp [intOf]; omega
    · have zj : ¬ (j : Int) < (n : Int) := by omega
      have HFi : Hid (a = tot ∧ v = (shapeM goodB e os).valid) := by
        show _ ∧ _
        have h1 := HJ.out.2.1
        have h2 := HJ.out.1
        have hln := HL.out
        rw [List.drop_eq_nil_of_le (by omega)] at h1
        rw [List.take_of_length_le (by omega)] at h2
        exact ⟨h1, by rw [h2, HV.out]⟩
      have w0 := HJ.out.2.2.whole.cell (j := 0) rfl
      have w1 := HJ.out.2.2.whole.cell (j := 1) rfl
      have w2 := HJ.out.2.2.whole.cell (j := 2) rfl
      have r0 := HJ.out.2.2.res.cell (j := 0) rfl
      have r1 := HJ.out.2.2.res.cell (j := 1) rfl
      have r2 := HJ.out.2.2.res.cell (j := 2) rfl
      have f0 := HJ.out.2.2.res.frozen 0
      have f1 := HJ.out.2.2.res.frozen 1
      have f2 := HJ.out.2.2.res.frozen 2
      obtain ⟨W9, hW9⟩ : ∃ W9 : World, W9 = set3 wr (w.heap.size + 1) (.bool v) (.int .i64 e.kind) (.int .i64 (a : Int)) := ⟨_, rfl⟩
      have HW9 : Hid (BoxAt W9 w.heap.size 96 3 (w.heap.size + 1) [.bool v, .int .i64 e.kind, .int .i64 (a : Int)] ∧ Below w.heap.size w W9) := by
        rw [hW9]; exact ⟨HJ.out.2.2.res.set3 _ _ _, below_set3 HJ.out.2.2.below (by omega) _ _ _⟩
      have p0 := HW9.out.1.cell (j := 0) rfl
      have p1 := HW9.out.1.cell (j := 1) rfl
      have p2 := HW9.out.1.cell (j := 2) rfl
      unfold set3 at hW9
      go_wp2_with fail
      rw [← hW9]
      obtain ⟨rfl, hvv⟩ := HFi.out
      rw [← hvv]
      refine bodyPost_ret (v := .agg #[.bool v, .int .i64 e.kind, .int .i64 (a : Int)]) (by simp [results, Tryz.results57, go_sem, p0, p1, p2]) rfl ⟨rfl, HW9.out.2⟩
end Go.Proofs.YtkidabedcgngcaaGreatDoor

/-
  impl.foldTree over shapeOf.
-/
namespace Go.Proofs.YtkidabedcgngcaaGreatDoor
open Go.ChangeShapes Go.WideShapes Go.ChangeAt Go.RowKit Go.Deep
set_option linter.unusedVariables false
set_option linter.unusedSimpArgs false
set_option maxRecDepth 100000

theorem Tryz.infoSh : (Tryz.prog.info? 96).map (fun i => (i.zero, i.size, i.bytes)) = some (some (.agg #[.bool false, .int .i64 0, .int .i64 0]), 3, 24) := by kernel_rfl
/-- One shape appended, at a step of a region that draws. -/
theorem step_append_shape {ops : Array Oper} {oo : Oper} {a : Act} {K : Act → World → Prop} {Q : Exit → Act → World → Prop} {E : Prop} (w : World) (hgd : oo.guard = none) (s x : Operand)
    (ho : oo.op = .call { callee := .builtin .append, args := #[s, x], argTypes := #[138, 138] })
    (base n g cp blk : Nat) (ss : List Shape) (y : Shape) (hn : n = ss.length) (hs : a.eval s = .slice (some ⟨g, 0, none⟩) n cp) (hx : a.eval x = .slice (some ⟨blk, 0, none⟩) 1 1) (hO : OwnSh w base g cp ss)
    (hc : ShsAt w blk 0 [y]) (hlen : ss.length ≤ 1000) (hbase : base ≤ w.heap.size)
    (h : ∀ g' cp' w', OwnSh w' base g' cp' (ss ++ [y]) → w.grownBy w' (some g) → (g = g' ∨ g' = w.heap.size) → K (a.put oo.dst (.slice (some ⟨g', 0, none⟩) (n + 1) cp')) w') : if Region.wanted oo (yielded ops a.tmps) = true then Oper.wp Tryz.prog oo a w K Q else E := by
  subst hn
  obtain ⟨i, hi, hz0, hz1, hz2⟩ := info_parts Tryz.infoSh
  obtain ⟨c0, c1, c2⟩ := hc 0 y rfl
  refine step_append_lies w hgd s x 138 ho base 96 i _ 3 24 Tryz.underlying138 hi hz0 hz1 hz2 rfl (by decide) (.slice (some ⟨g, 0, none⟩) ss.length cp) ss.length (cellsS ss) hs hO ⟨blk, 0, none⟩ 1 1 (cellsS [y]) hx rfl ?_ ?_ (by decide) ?_ ?_ hbase w.heap.size rfl ?_
  · intro j u hu
    have hj : j < 3 := by
      have := (List.getElem?_eq_some_iff.1 hu).1
      rw [length_cellsS] at this
      simpa using this
    rw [Addr.add_mid]
    have hcs : cellsS [y] = y.three := by simp [cellsS]
    rw [hcs] at hu
    match j, hj with
    | 0, _ => simp at hu; rw [← hu]; simpa using c0
    | 1, _ => simp at hu; rw [← hu]; simpa using c1
    | 2, _ => simp at hu; rw [← hu]; simpa using c2
  · intro u hu
    have hcs : cellsS [y] = y.three := by simp [cellsS]
    rw [hcs] at hu
    simp at hu
    rcases hu with rfl | rfl | rfl <;> rfl
  · unfold maxLen; omega
  · omega
  · intro g' cp' w' hO' hgr hat hlt
    refine h g' cp' w' ?_ hgr ?_
    · unfold OwnSh
      rw [List.length_append, cellsS_append]
      exact hO'
    · simp [Value.ownBlock] at hat
      exact hat
theorem fold_nest {xs : List Nd} {ss : List Shape} (h : foldM goodB [] xs = some ss) : ∀ s ∈ ss, s.nest ≤ xs.length := by
  intro s hs
  obtain ⟨ks, rfl, hK⟩ := ShT.kids goodB (fold_tree goodB h)
  obtain ⟨k, hk, h3⟩ := kid_len goodB hK hs
  have h4 := len_flat hk
  have h5 := nest_len goodB _ (Nat.le_refl _) h3
  omega
structure FoJ (w : World) (xs : List Nd) (j g cp : Nat) (ss : List Shape) (wr : World) : Prop where
  fold : foldM goodB [] (xs.take j) = some ss
  own : OwnSh wr (w.heap.size + 1) g cp ss
  res : BoxAt wr w.heap.size 96 3 w.heap.size [.bool false, .int .i64 0, .int .i64 0]
  below : Below w.heap.size w wr
theorem FoJ.move {w : World} {xs : List Nd} {j g cp : Nat} {ss : List Shape} {wr w' : World} (h : FoJ w xs j g cp ss wr) (hb : Below wr.heap.size wr w') : FoJ w xs j g cp ss w' :=
  ⟨h.fold, h.own.below hb, h.res.below hb, h.below.trans (hb.mono h.below.size)⟩
theorem fold_next {xs : List Nd} {j : Nat} {ss : List Shape} {e : Nd} (h : foldM goodB [] (xs.take j) = some ss) (he : xs[j]? = some e) (hl : arity e.kind ≤ ss.length) : foldM goodB [] (xs.take (j + 1)) = some (ss.take (ss.length - arity e.kind) ++ [shapeM goodB e (ss.drop (ss.length - arity e.kind))]) := by
  rw [List.take_add_one, he, foldM_append, h]
  simp only [Option.toList, Option.bind_some, foldM, stepM]
  rw [if_neg (by omega)]
theorem fold_stop {xs : List Nd} {j : Nat} {ss : List Shape} {e : Nd} (h : foldM goodB [] (xs.take j) = some ss) (he : xs[j]? = some e) (hl : ss.length < arity e.kind) : foldM goodB [] xs = none := by
  have hj := (List.getElem?_eq_some_iff.1 he).1
  have : xs = xs.take j ++ e :: xs.drop (j + 1) := by
    conv => lhs; rw [← List.take_append_drop j xs, List.drop_eq_getElem_cons hj]
    rw [show xs[j] = e from Option.some.inj ((List.getElem?_eq_getElem hj).symm.trans he)]
  rw [this, foldM_append, h]
  simp only [Option.bind_some, foldM, stepM]
  rw [if_pos hl]
/-- What foldTree hands back. -/
def FoldPost (xs : List Nd) (w : World) (r : Ending) (w' : World) : Prop := Below w.heap.size w w' ∧ ((∃ s, foldM goodB [] xs = some [s] ∧ r = .returned (.tuple #[.agg #[.bool s.valid, .int .i64 s.kind, .int .i64 (s.nest : Int)], .bool true])) ∨ ((∀ s, ¬ foldM goodB [] xs = some [s]) ∧ r = .returned (.tuple #[.agg #[.bool false, .int .i64 0, .int .i64 0], .bool false])))
end Go.Proofs.YtkidabedcgngcaaGreatDoor

