import Derived.Sort.Grow
import Derived.Shelf.SlSortCmp.WholeK
import Derived.Ground.SlsfProg
import Derived.Test.YtjphalbjimggcaeChecked
import Derived.Test.YtjphalbjimggcaePkAS
import Derived.Test.YtjphalbjimggcaePkAE
/-
  impl.gatherColumns: the map of the columns.
-/
namespace Go.Proofs.Ytjphalbjimggcae
open Go.ChangeShapes Go.WideShapes Go.ChangeAt Go.RowKit Go.Deep Go.Maps
set_option linter.unusedVariables false
set_option maxRecDepth 100000

/-- One step of the columns' map, whatever the way. -/
theorem withEarlier_any (k : CW) (m : Option Nat) (base N : Nat) (e : Ent) (w : World) (hi : Inner w base N m k.f) (hN : N < maxLen) (hw : (Lit.int .u64 e.ts).wf = true) (hbase : base ≤ w.heap.size) :
    Calls Try.prog 76 #[.agg #[.bool k.d, .int .u64 k.u, .map m], e.v] w fun r w' =>
      ∃ m', r = .returned (.agg #[.bool (cwAdd k e).d, .int .u64 (cwAdd k e).u, .map m']) ∧ Inner w' base (N + 1) m' (cwAdd k e).f ∧ (m' = m ∨ (m = none ∧ ∃ b, m' = some b ∧ w.heap.size ≤ b)) ∧ w.grownBy w' m := by
  by_cases hk : e.kind = 2
  · have e1 : cwAdd k e = ⟨true, max k.u e.ts, k.f⟩ := by unfold cwAdd; rw [if_pos hk]
    rw [e1]
    refine (withEarlier_del k.d k.u m e w hk).mono ?_
    rintro r w' ⟨rfl, hb⟩
    exact ⟨m, rfl, (hi.kept (row := none) (grown_of_below hb none) (by cases m <;> simp)).mono (Nat.le_succ _), .inl rfl, grown_of_below hb m⟩
  · by_cases hd : k.d = true ∧ e.ts ≤ k.u
    · have e1 : cwAdd k e = k := by unfold cwAdd; rw [if_neg hk, if_pos hd]
      rw [e1, hd.1]
      refine (withEarlier_gone k.u m e w hk hd.2).mono ?_
      rintro r w' ⟨rfl, hb⟩
      exact ⟨m, rfl, (hi.kept (row := none) (grown_of_below hb none) (by cases m <;> simp)).mono (Nat.le_succ _), .inl rfl, grown_of_below hb m⟩
    · have e1 : cwAdd k e = ⟨k.d, k.u, fun t => if t = e.ts then (if (k.f t).isSome then k.f t else some e) else k.f t⟩ := by unfold cwAdd; rw [if_neg hk, if_neg hd]
      rw [e1]
      have hu : k.d = true → ¬ e.ts ≤ k.u := fun h1 h2 => hd ⟨h1, h2⟩
      rcases hi with ⟨rfl, hf⟩ | ⟨b, n, rfl, hI, hn, hbb⟩
      · refine (withEarlier_new k.d k.u e w hk hu hw).mono ?_
        rintro r w' ⟨b, rfl, hb1, hI, hb⟩
        refine ⟨some b, rfl, .inr ⟨b, 1, rfl, ?_, by omega, by omega⟩, .inr ⟨rfl, b, rfl, hb1⟩, grown_of_below hb none⟩
        rw [hf]
        have : (fun t => if t = e.ts then (if ((fun _ => none : Int → Option Ent) t).isSome then ((fun _ => none : Int → Option Ent) t) else some e) else ((fun _ => none : Int → Option Ent) t)) = (fun t => if t = e.ts then some e else none) := funext fun t => by by_cases q : t = e.ts <;> simp [q]
        show Inn w' b 1 (fun t => if t = e.ts then (if ((fun _ => none : Int → Option Ent) t).isSome then ((fun _ => none : Int → Option Ent) t) else some e) else ((fun _ => none : Int → Option Ent) t))
        rw [this]
        exact hI
      · refine (withEarlier_old k.d k.u b n k.f e w hk hu hI (Nat.lt_of_le_of_lt hn hN) hw).mono ?_
        rintro r w' ⟨rfl, hI', hg⟩
        exact ⟨some b, rfl, .inr ⟨b, n + 1, rfl, hI', Nat.succ_le_succ hn, hbb⟩, .inl rfl, hg⟩

theorem col_okc {e : Ent} (h : e.ok) : Col.okc e.wcol := ⟨h.row, h.fam, h.qual⟩
theorem colsOf_drop {ws : List Ent} {k : Nat} {e : Ent} (h : ws[k]? = some e) : colsOf (ws.drop k) = fun x => if x = e.wcol then some (cwAdd ((colsOf (ws.drop (k + 1)) e.wcol).getD cw0) e) else colsOf (ws.drop (k + 1)) x := by
  have hlt : k < ws.length := (List.getElem?_eq_some_iff.1 h).1
  rw [List.drop_eq_getElem_cons hlt]
  rw [List.getElem?_eq_getElem hlt] at h
  simp at h
  rw [h]
  funext x
  by_cases q : x = e.wcol
  · subst q; simp [colsOf]
  · simp [colsOf, q]

set_option maxHeartbeats 4000000 in
set_option maxRecDepth 100000 in
theorem gather_core (b off cap : Nat) (ws : List Ent) (w : World) (hE : EntsAt w b off ws) (hok : ∀ e ∈ ws, e.ok) (hB : b < w.heap.size) (hlen : ws.length ≤ 1048576) :
    Calls Try.prog 51 #[.slice (some ⟨b, off, none⟩) ws.length cap] w fun r w' =>
      ∃ M, r = .returned (.map (some w.heap.size)) ∧ Outer w' w.heap.size w.heap.size ws.length (colsOf ws) M ∧ Below w.heap.size w w' := by
  have HE : Hid (EntsAt w b off ws) := hE
  have HO : Hid (∀ e ∈ ws, e.ok) := hok
  clear hE hok
  have hmm := @run_makeMap Try.prog
  obtain ⟨W0, hW0⟩ : ∃ W0 : World, W0 = w.alloc (.map #[] 0) := ⟨_, rfl⟩
  have hb0 : Below w.heap.size w W0 := by rw [hW0]; exact (Below.refl _ _).alloc (Nat.le_refl _) _
  have HM0 : Hid (Outer W0 w.heap.size w.heap.size 0 (fun _ => none) (fun _ => none)) := by
    show Outer W0 w.heap.size w.heap.size 0 (fun _ => none) (fun _ => none)
    rw [hW0]; exact Outer.made w _
  go_enter Try.func51, Try.ntmps51
  go_wp2_with fail
  rw [← hW0]
  clear hW0 hmm
  go_loopw [4] (fun i wr => ∃ (k : Nat) (M : Col → Option Nat), k ≤ ws.length ∧ i = .int .i64 ((k : Int) - 1) ∧ Outer wr w.heap.size w.heap.size (ws.length - k) (colsOf (ws.drop k)) M ∧ Below w.heap.size w wr) (fun i _ => (intOf i + 1).toNat)
  case atStart =>
    refine ⟨ws.length, fun _ => none, Nat.le_refl _, rfl, ?_, hb0⟩
    rw [Nat.sub_self, List.drop_length]
    exact HM0.out
  case round =>
    obtain ⟨k, M, hk, rfl, hM, hb⟩ := hrel
    have HM : Hid (Outer wr w.heap.size w.heap.size (ws.length - k) (colsOf (ws.drop k)) M) := hM
    clear hM
    have hs := hb.size
    by_cases hp : 0 < k
    · obtain ⟨j, rfl⟩ : ∃ j, k = j + 1 := ⟨k - 1, by omega⟩
      have hji : (((j + 1 : Nat) : Int) - 1) = (j : Int) := by omega
      rw [hji]
      clear hji
      obtain ⟨e, he⟩ : ∃ e, ws[j]? = some e := ⟨_, List.getElem?_eq_getElem (by omega)⟩
      obtain ⟨c0, c1, c2, c3, c4, c5⟩ := (HE.out.below hb hB) j e he
      have HK : Hid (ws[j]? = some e ∧ e.ok) := ⟨he, HO.out e (List.mem_of_getElem? he)⟩
      clear he
      have z1 : (0 : Int) ≤ (j : Int) := by omega
      have z2 : (j : Int) < (ws.length : Int) := by omega
      go_wp2_with fail
      refine (column_any e _).mono ?_
      rintro r w1 ⟨rfl, hb1⟩
      have hs1 := hb1.size
      obtain ⟨W2, hW2⟩ : ∃ W2 : World, W2 = w1.alloc (Obj.cells #[.string e.row, .string e.fam, .string e.qual] 85) := ⟨_, rfl⟩
      have hb2 : Below w.heap.size w W2 := by rw [hW2]; exact (hb.trans (hb1.mono (by omega))).alloc (by omega) _
      have hg2 : wr.grownBy W2 none := by rw [hW2]; exact grown_of_below (hb1.alloc hs1 _) none
      have hz2 : w1.heap.size < W2.heap.size := by rw [hW2]; simp
      have k0 : W2.cell? ⟨w1.heap.size, 0, none⟩ = some (.string e.row) := by rw [hW2]; simp
      have k1 : W2.cell? ⟨w1.heap.size, 1, none⟩ = some (.string e.fam) := by rw [hW2]; simp
      have k2 : W2.cell? ⟨w1.heap.size, 2, none⟩ = some (.string e.qual) := by rw [hW2]; simp
      have HM2 : Hid (Outer W2 w.heap.size w.heap.size (ws.length - (j + 1)) (colsOf (ws.drop (j + 1))) M) := HM.out.kept hg2
      clear c0 c1 c2 c3 c4 c5 hg2
      go_upto_region 6 with fail
      rw [← hW2]
      clear hW2
      obtain ⟨d0, d1, d2, d3, d4, d5⟩ := (HE.out.below hb2 hB) j e HK.out.1
      have hgd : W2.grownBy W2.drew none := ⟨rfl, rfl, rfl, Nat.le_refl _, fun _ _ _ => rfl⟩
      have hMd := HM2.out.kept hgd
      obtain ⟨K, hK⟩ : ∃ K : CW, K = (colsOf (ws.drop (j + 1)) e.wcol).getD cw0 := ⟨_, rfl⟩
      have hlook0 := hMd.look (col_okc HK.out.2)
      rw [← hK] at hlook0
      have hlook : (Instr.lookup 99 (.map (some w.heap.size)) (.agg #[.string e.row, .string e.fam, .string e.qual]) false).run Try.prog W2.drew = .ok (.agg #[.bool K.d, .int .u64 K.u, .map (M e.wcol)]) W2.drew := hlook0
      clear hlook0
      have hin : Inner W2.drew w.heap.size (ws.length - (j + 1)) (M e.wcol) K.f := by
        cases hq : colsOf (ws.drop (j + 1)) e.wcol with
        | none =>
          rw [hq] at hK
          refine .inl ⟨hMd.nom _ hq, ?_⟩
          rw [hK]; rfl
        | some c =>
          rw [hq] at hK
          rw [hK]
          exact hMd.inner _ c hq
      have HN : Hid (ws.length - (j + 1) < maxLen) := Nat.lt_of_le_of_lt (Nat.sub_le _ _) (Nat.lt_of_le_of_lt hlen (by decide))
      have HC := withEarlier_any K (M e.wcol) w.heap.size (ws.length - (j + 1)) e W2.drew hin HN.out HK.out.2.ts (Nat.le_trans hb2.size (Nat.le_refl _))
      have HPut : Hid (∀ (w' : World) (m' : Option Nat), Inner w' w.heap.size (ws.length - (j + 1) + 1) m' (cwAdd K e).f → (m' = M e.wcol ∨ (M e.wcol = none ∧ ∃ b, m' = some b ∧ W2.drew.heap.size ≤ b)) → W2.drew.grownBy w' (M e.wcol) →
          ∃ w'', (Instr.mapUpdate 99 (.map (some w.heap.size)) (.agg #[.string e.row, .string e.fam, .string e.qual]) (.agg #[.bool (cwAdd K e).d, .int .u64 (cwAdd K e).u, .map m'])).run Try.prog w' = .ok () w'' ∧
            (∃ M', Outer w'' w.heap.size w.heap.size (ws.length - j) (colsOf (ws.drop j)) M') ∧ Below w.heap.size w w'') := by
        intro w' m' h1 h2 h3
        obtain ⟨w'', p1, p2, p3⟩ := hMd.put (col_okc HK.out.2) HN.out h3 (cwAdd K e) m' h1 h2
        refine ⟨w'', p1, ⟨fun x => if x = e.wcol then m' else M x, ?_⟩, ?_⟩
        · rw [colsOf_drop HK.out.1, ← hK, show ws.length - j = ws.length - (j + 1) + 1 by omega]
          exact p2
        · have q1 : Below w.heap.size w w' := hb2.drew.grown h3 (by show w.heap.size ≤ W2.heap.size; exact hb2.size) (fun y hy => (hMd.inLt hy).2)
          exact q1.grown p3 q1.size (fun y hy => by cases hy; exact Nat.le_refl _)
      have HCel : Hid (∀ (w' : World), W2.drew.grownBy w' (M e.wcol) → w'.cell? ⟨w1.heap.size, 0, none⟩ = some (.string e.row) ∧ w'.cell? ⟨w1.heap.size, 1, none⟩ = some (.string e.fam) ∧ w'.cell? ⟨w1.heap.size, 2, none⟩ = some (.string e.qual)) := by
        intro w' h3
        have hne : some w1.heap.size ≠ M e.wcol := fun q => by
          have := (HM.out.inLt q.symm).1
          omega
        have hbk : w'.heap[w1.heap.size]? = W2.heap[w1.heap.size]? := h3.block w1.heap.size hz2 hne
        exact ⟨(World.cell?_of_block (a := ⟨w1.heap.size, 0, none⟩) hbk).trans k0, (World.cell?_of_block (a := ⟨w1.heap.size, 1, none⟩) hbk).trans k1, (World.cell?_of_block (a := ⟨w1.heap.size, 2, none⟩) hbk).trans k2⟩
      have HCC : Hid (Calls Try.prog 76 #[.agg #[.bool K.d, .int .u64 K.u, .map (M e.wcol)], e.v] W2.drew fun r w' => ∃ m', r = .returned (.agg #[.bool (cwAdd K e).d, .int .u64 (cwAdd K e).u, .map m']) ∧ Inner w' w.heap.size (ws.length - (j + 1) + 1) m' (cwAdd K e).f ∧ (m' = M e.wcol ∨ (M e.wcol = none ∧ ∃ b, m' = some b ∧ W2.drew.heap.size ≤ b)) ∧ W2.drew.grownBy w' (M e.wcol)) := HC
      clear HC hin hMd hgd hK
      go_region_with (go_at_call 76; refine HCC.out.mono ?_; rintro r w' ⟨m', rfl, hi', hm', hg'⟩; obtain ⟨w'', hput, hfin⟩ := HPut.out w' m' hi' hm' hg'; have HFin : Hid ((∃ M', Outer w'' w.heap.size w.heap.size (ws.length - j) (colsOf (ws.drop j)) M') ∧ Below w.heap.size w w'') := hfin; obtain ⟨q0, q1, q2⟩ := HCel.out w' hg'; clear hi' hm' hg' hfin)
      all_goals
        clear hlook hput d0 d1 d2 d3 d4 d5 k0 k1 k2 q0 q1 q2
        go_wp2_with fail
        go_roundw
        case rel =>
          obtain ⟨⟨M', hM'⟩, hb'⟩ := HFin.out
          exact ⟨j, M', by omega, rfl, hM', hb'⟩
        case measure => go_light; simp [intOf]
    · obtain rfl : k = 0 := by omega
      go_wp2_with fail
      go_ret
      refine ⟨M, rfl, ?_, hb⟩
      have h := HM.out
      rw [Nat.sub_zero, List.drop_zero] at h
      exact h
end Go.Proofs.Ytjphalbjimggcae

/-
  The order of keys as slices.SortFunc asks it: impl's compare lays blocks, turns none.
-/
namespace Go.Proofs.Ytjphalbjimggcae
open Go.ChangeShapes Go.WideShapes Go.ChangeAt Go.RowKit Go.Deep Go.Sort
set_option linter.unusedVariables false
set_option maxRecDepth 100000

/-- Only new blocks. -/
def Lays (w w' : World) : Prop := ∃ os, w' = grow w os
theorem Lays.refl (w : World) : Lays w w := ⟨#[], by simp⟩
theorem Lays.alloc {w w' : World} (h : Lays w w') (o : Obj) : Lays w (w'.alloc o) := by
  obtain ⟨os, rfl⟩ := h
  exact ⟨os ++ #[o], by rw [alloc_eq_grow, grow_grow]⟩
theorem Lays.trans {a b c : World} (h : Lays a b) (k : Lays b c) : Lays a c := by
  obtain ⟨os, rfl⟩ := h
  obtain ⟨os', rfl⟩ := k
  exact ⟨os ++ os', grow_grow _ _ _⟩
theorem Lays.below {a b : World} (h : Lays a b) : Below a.heap.size a b := by
  obtain ⟨os, rfl⟩ := h
  refine ⟨rfl, rfl, rfl, by simp, fun k hk => ?_⟩
  unfold grow
  simp [Array.getElem?_append_left hk]

set_option maxHeartbeats 400000 in
theorem compareColumns_lays (a b : Ent) (w : World) :
    Calls Try.prog 79 #[a.v, b.v] w fun e w' => e = .returned (.int .i64 (colCmp a b)) ∧ Lays w w' := by
  unfold colCmp firstOf Ent.v
  by_cases h1 : cB a.row b.row = 0
  · have g1 : (cB a.row b.row != 0) = false := by simp [h1]
    rw [if_pos h1]
    clear h1
    by_cases h2 : cB a.fam b.fam = 0
    · have g2 : (cB a.fam b.fam != 0) = false := by simp [h2]
      rw [if_pos h2]
      clear h2
      go_enter Try.func79, Try.ntmps79
      go_wp2_with (go_at_call 103; refine (stringsCompare_any _ _ _).mono ?_; rintro e w' ⟨rfl, rfl⟩)
      go_ret
      exact ⟨rfl, ((Lays.refl _).alloc _).alloc _⟩
    · have g2 : (cB a.fam b.fam != 0) = true := by simp [h2]
      rw [if_neg h2]
      clear h2
      go_enter Try.func79, Try.ntmps79
      go_wp2_with (go_at_call 103; refine (stringsCompare_any _ _ _).mono ?_; rintro e w' ⟨rfl, rfl⟩)
      go_ret
      exact ⟨rfl, ((Lays.refl _).alloc _).alloc _⟩
  · have g1 : (cB a.row b.row != 0) = true := by simp [h1]
    rw [if_neg h1]
    clear h1
    go_enter Try.func79, Try.ntmps79
    go_wp2_with (go_at_call 103; refine (stringsCompare_any _ _ _).mono ?_; rintro e w' ⟨rfl, rfl⟩)
    go_ret
    exact ⟨rfl, ((Lays.refl _).alloc _).alloc _⟩

set_option maxHeartbeats 400000 in
theorem compare_lays (a b : Ent) (w : World) :
    Calls Try.prog 54 #[a.v, b.v] w fun e w' => e = .returned (.int .i64 (keyCmp a b)) ∧ Lays w w' := by
  by_cases h1 : colCmp a b = 0
  · have g1 : (colCmp a b != 0) = false := by simp [h1]
    by_cases ha : a.kind = 2
    · have ga : (a.kind == 2) = true := by simp [ha]
      by_cases hb : b.kind = 2
      · have gb : (b.kind == 2) = true := by simp [hb]
        have H : Hid (keyCmp a b = tsCmp a.ts b.ts) := keyCmp_ts h1 (by simp [ha, hb])
        clear h1 ha hb
        go_enter Try.func54, Try.ntmps54
        go_wp2_with fail
        refine (compareColumns_lays a b _).mono ?_
        rintro e w1 ⟨rfl, hl1⟩
        have hb1 := hl1.below
        obtain ⟨hc1, hf1⟩ := bcell hb1
        have hz1 : w.heap.size + 1 < w1.heap.size := by have := hb1.size; simp at this; omega
        go_wp2_with fail
        refine (cmpU64_any _ _ _).mono ?_
        rintro e w2 ⟨rfl, rfl⟩
        go_wp2_with fail
        go_ret
        exact ⟨ret_int H.out.symm, (((Lays.refl _).alloc _).alloc _).trans hl1⟩
      · have gb : (b.kind == 2) = false := by simp [hb]
        have H : Hid (keyCmp a b = -1) := keyCmp_del1 h1 ha hb
        clear h1 ha hb
        go_enter Try.func54, Try.ntmps54
        go_wp2_with fail
        refine (compareColumns_lays a b _).mono ?_
        rintro e w1 ⟨rfl, hl1⟩
        have hb1 := hl1.below
        obtain ⟨hc1, hf1⟩ := bcell hb1
        have hz1 : w.heap.size + 1 < w1.heap.size := by have := hb1.size; simp at this; omega
        go_wp2_with fail
        go_ret
        exact ⟨ret_int H.out.symm, (((Lays.refl _).alloc _).alloc _).trans hl1⟩
    · have ga : (a.kind == 2) = false := by simp [ha]
      by_cases hb : b.kind = 2
      · have gb : (b.kind == 2) = true := by simp [hb]
        have H : Hid (keyCmp a b = 1) := keyCmp_del2 h1 ha hb
        clear h1 ha hb
        go_enter Try.func54, Try.ntmps54
        go_wp2_with fail
        refine (compareColumns_lays a b _).mono ?_
        rintro e w1 ⟨rfl, hl1⟩
        have hb1 := hl1.below
        obtain ⟨hc1, hf1⟩ := bcell hb1
        have hz1 : w.heap.size + 1 < w1.heap.size := by have := hb1.size; simp at this; omega
        go_wp2_with fail
        go_ret
        exact ⟨ret_int H.out.symm, (((Lays.refl _).alloc _).alloc _).trans hl1⟩
      · have gb : (b.kind == 2) = false := by simp [hb]
        have H : Hid (keyCmp a b = tsCmp a.ts b.ts) := keyCmp_ts h1 (by simp [ha, hb])
        clear h1 ha hb
        go_enter Try.func54, Try.ntmps54
        go_wp2_with fail
        refine (compareColumns_lays a b _).mono ?_
        rintro e w1 ⟨rfl, hl1⟩
        have hb1 := hl1.below
        obtain ⟨hc1, hf1⟩ := bcell hb1
        have hz1 : w.heap.size + 1 < w1.heap.size := by have := hb1.size; simp at this; omega
        go_wp2_with fail
        refine (cmpU64_any _ _ _).mono ?_
        rintro e w2 ⟨rfl, rfl⟩
        go_wp2_with fail
        go_ret
        exact ⟨ret_int H.out.symm, (((Lays.refl _).alloc _).alloc _).trans hl1⟩
  · have g1 : (colCmp a b != 0) = true := by simp [h1]
    have H : Hid (keyCmp a b = colCmp a b) := keyCmp_ne h1
    clear h1
    go_enter Try.func54, Try.ntmps54
    go_wp2_with fail
    refine (compareColumns_lays a b _).mono ?_
    rintro e w1 ⟨rfl, hl1⟩
    have hb1 := hl1.below
    go_wp2_with fail
    go_ret
    exact ⟨ret_int H.out.symm, (((Lays.refl _).alloc _).alloc _).trans hl1⟩


theorem cmp_swo : ∀ x y z : Ent, (keyCmp x y < 0) = (keyCmp x y = -1) ∧ True := fun x y z => ⟨by
  rcases keyCmp_vals x y with h | h | h <;> rw [h] <;> simp, trivial⟩
end Go.Proofs.Ytjphalbjimggcae

/-
  slices.SortFunc at this program, laid in plain words.
-/
namespace Go.Proofs.Ytjphalbjimggcae
open Go.Shelf
def Try.sortE_ren : Go.Shelf.Ren := ⟨fun | 6 => 53 | 15 => 78 | 14 => 77 | 28 => 101 | 29 => 102 | 20 => 93 | 21 => 94 | 22 => 95 | 23 => 96 | 24 => 97 | 25 => 98 | 26 => 99 | 27 => 100 | 46 => 115 | 47 => 116 | 48 => 117 | 49 => 118 | 50 => 119 | 57 => 128 | n => n, fun | 22 => 28 | 24 => 73 | 25 => 106 | 3 => 3 | 39 => 140 | 0 => 0 | 53 => 171 | 55 => 69 | 4 => 4 | 46 => 164 | 45 => 163 | 50 => 168 | 5 => 5 | 9 => 9 | 66 => 190 | 70 => 194 | 76 => 203 | 77 => 204 | n => n, fun | n => n⟩
theorem Try.sortE : Go.Proofs.SlLaysF0.n6 Try.prog Try.sortE_ren := {
  mixed := by kernel_rfl
  f6 := ⟨Try.f53.name, by decide, Try.func53.trans (congrArg some (by kernel_rfl))⟩
  f14 := ⟨Try.f77.name, by decide, Try.func77.trans (congrArg some (by kernel_rfl))⟩
  f15 := Try.func78.trans (congrArg some (by kernel_rfl))
  f20 := ⟨Try.f93.name, by decide, Try.func93.trans (congrArg some (by kernel_rfl))⟩
  f21 := ⟨Try.f94.name, by decide, Try.func94.trans (congrArg some (by kernel_rfl))⟩
  f22 := ⟨Try.f95.name, by decide, Try.func95.trans (congrArg some (by kernel_rfl))⟩
  f23 := ⟨Try.f96.name, by decide, Try.func96.trans (congrArg some (by kernel_rfl))⟩
  f24 := ⟨Try.f97.name, by decide, Try.func97.trans (congrArg some (by kernel_rfl))⟩
  f25 := ⟨Try.f98.name, by decide, Try.func98.trans (congrArg some (by kernel_rfl))⟩
  f26 := ⟨Try.f99.name, by decide, Try.func99.trans (congrArg some (by kernel_rfl))⟩
  f27 := ⟨Try.f100.name, by decide, Try.func100.trans (congrArg some (by kernel_rfl))⟩
  f28 := Try.func101.trans (congrArg some (by kernel_rfl))
  f29 := Try.func102.trans (congrArg some (by kernel_rfl))
  f46 := ⟨Try.f115.name, by decide, Try.func115.trans (congrArg some (by kernel_rfl))⟩
  f47 := Try.func116.trans (congrArg some (by kernel_rfl))
  f48 := Try.func117.trans (congrArg some (by kernel_rfl))
  f49 := ⟨Try.f118.name, by decide, Try.func118.trans (congrArg some (by kernel_rfl))⟩
  f50 := ⟨Try.f119.name, by decide, Try.func119.trans (congrArg some (by kernel_rfl))⟩
  f57 := ⟨Try.f128.name, by decide, Try.func128.trans (congrArg some (by kernel_rfl))⟩
  t0 := Try.underlying0
  a0 := Try.isAgg0
  z0 := Try.sizeOf0
  v0 := Try.zeroValue0
  t3 := Try.underlying3
  a3 := Try.isAgg3
  z3 := Try.sizeOf3
  v3 := Try.zeroValue3
  t4 := Try.underlying4
  a4 := Try.isAgg4
  z4 := Try.sizeOf4
  v4 := Try.zeroValue4
  t5 := Try.underlying5
  a5 := Try.isAgg5
  z5 := Try.sizeOf5
  v5 := Try.zeroValue5
  t9 := Try.underlying9
  a9 := Try.isAgg9
  z9 := Try.sizeOf9
  v9 := Try.zeroValue9
  t22 := Try.underlying28
  a22 := Try.isAgg28
  z22 := Try.sizeOf28
  v22 := Try.zeroValue28
  t25 := Try.underlying106
  a25 := Try.isAgg106
  z25 := Try.sizeOf106
  v25 := Try.zeroValue106
  t39 := Try.underlying140
  a39 := Try.isAgg140
  z39 := Try.sizeOf140
  v39 := Try.zeroValue140
  t45 := Try.underlying163
  a45 := Try.isAgg163
  z45 := Try.sizeOf163
  v45 := Try.zeroValue163
  t46 := Try.underlying164
  a46 := Try.isAgg164
  z46 := Try.sizeOf164
  v46 := Try.zeroValue164
  t50 := Try.underlying168
  a50 := Try.isAgg168
  z50 := Try.sizeOf168
  v50 := Try.zeroValue168
  t53 := Try.underlying171
  a53 := Try.isAgg171
  z53 := Try.sizeOf171
  v53 := Try.zeroValue171
  t55 := Try.underlying69
  a55 := Try.isAgg69
  z55 := Try.sizeOf69
  v55 := Try.zeroValue69
  t66 := Try.underlying190
  a66 := Try.isAgg190
  z66 := Try.sizeOf190
  v66 := Try.zeroValue190
  t70 := Try.underlying194
  a70 := Try.isAgg194
  z70 := Try.sizeOf194
  v70 := Try.zeroValue194
  t76 := Try.underlying203
  a76 := Try.isAgg203
  z76 := Try.sizeOf203
  v76 := Try.zeroValue203
  t77 := Try.underlying204
  a77 := Try.isAgg204
  z77 := Try.sizeOf204
  v77 := Try.zeroValue204 }
end Go.Proofs.Ytjphalbjimggcae

