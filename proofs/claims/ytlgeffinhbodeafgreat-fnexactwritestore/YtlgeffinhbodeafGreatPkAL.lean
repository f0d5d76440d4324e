import Derived.Deep.Upon
import Derived.Test.YtlgeffinhbodeafGreatPkAC
import Derived.Test.YtlgeffinhbodeafGreatPkAK
import Derived.Test.YtlgeffinhbodeafGreatPkAH
import Derived.Test.YtlgeffinhbodeafGreatPkAD
import Derived.Test.YtlgeffinhbodeafGreatPkAG
import Derived.Test.YtlgeffinhbodeafGreatPkAB
/-
  toTablet, toTabletS, toStore.
-/
namespace Go.Proofs.YtlgeffinhbodeafGreat
open Go.ChangeShapes Go.WideShapes Go.ChangeAt Go.RowKit Go.Deep
set_option linter.unusedVariables false
set_option linter.unusedSimpArgs false
set_option maxRecDepth 100000

set_option maxHeartbeats 1000000 in
theorem toTablet_any (t : Tn) (w : World) (h : InRuns w t.u t.rs) (h1 : t.rs.length + tot t.rs ≤ 1048576) :
    Calls Tryz.prog 55 #[.agg #[.string t.lo, t.u]] w fun e w' =>
      ∃ (g : Nat) (l : List (Nat × List Ent)), e = .returned (.agg #[.string t.lo, .slice (some ⟨g, 0, none⟩) l.length l.length]) ∧ OwnRuns w' w.heap.size g l ∧ l.map Prod.snd = esOf t.rs ∧ l.length + totL l ≤ 1048576 ∧ Below w.heap.size w w' := by
  have HE : Hid (InRuns w t.u t.rs) := h
  have hu := h.ucells
  clear h
  go_enter Tryz.func55, Tryz.ntmps55
  go_wp2_with fail
  refine (toRuns_own t.u t.rs _ (HE.out.below ((((Below.refl _ _).alloc (Nat.le_refl _) _).alloc (by simp) _).alloc (by simp; omega) _)) h1).mono ?_
  rintro e w1 ⟨g, l, rfl, hO, hm, hn, hb1⟩
  obtain ⟨hc1, hf1⟩ := bcell hb1
  have k1 : Below w.heap.size w w1 := ((((Below.refl _ _).alloc (Nat.le_refl _) (Obj.cells #[.string t.lo, t.u] 83)).alloc (by simp) (Obj.cells #[.string ⟨#[]⟩, .slice none 0 0] 56)).alloc (by simp; omega) (Obj.cells #[.string t.lo, .slice none 0 0] 56)).trans (hb1.mono (by simp; omega))
  have HO : Hid (OwnRuns w1 (w.heap.size + 1 + 1 + 1) g l ∧ l.map Prod.snd = esOf t.rs ∧ l.length + totL l ≤ 1048576) := by
    refine ⟨?_, hm, hn⟩
    simpa using hO
  clear hO hm hn
  go_wp2_with fail
  refine bodyPost_ret (v := .agg #[.string t.lo, .slice (some ⟨g, 0, none⟩) l.length l.length]) (by simp [results, Tryz.results55, go_sem, hc1]) rfl ⟨g, l, rfl, ?_, HO.out.2.1, HO.out.2.2, ?_⟩
  · have hl := HO.out.1.lt.1
    exact (((HO.out.1.setNe _ _ _ (by omega)).setNe _ _ _ (by omega)).setNe _ _ _ (by omega)).mono (by omega)
  · exact ((k1.setCell (by show w.heap.size ≤ w.heap.size + 1 + 1; omega) _).setCell (by show w.heap.size ≤ w.heap.size + 1; omega) _).setCell (by show w.heap.size ≤ w.heap.size + 1; omega) _

theorem OwnTabs.setNe {w : World} {base g : Nat} {l : List Tw} (h : OwnTabs w base g l) (q o : Nat) (x : Value) (hq : q < g) : OwnTabs (w.setCell ⟨q, o, none⟩ x) base g l :=
  ⟨World.ownsRow.kept h.row (grown_set w q o x) (.inr (fun z => by have : g = q := Option.some.inj z; omega)), fun t ht => (h.tabs t ht).setNe _ _ _ (by have := h.ne t ht; omega), h.ne, h.up, h.short⟩
theorem OwnTabs.mono {w : World} {base base' g : Nat} {ts : List Tw} (h : OwnTabs w base g ts) (hb : base' ≤ base) : OwnTabs w base' g ts :=
  ⟨h.row.mono hb, fun t ht => (h.tabs t ht).mono hb, h.ne, h.up, h.short⟩

set_option maxHeartbeats 2000000 in
theorem toTabletS_any (v : Value) (ts : List Tn) (w : World) (h : InTabs w v ts) (h1 : ts.length + totT ts ≤ 1048576) :
    Calls Tryz.prog 26 #[v] w fun e w' =>
      ∃ (g : Nat) (l : List Tw), e = .returned (.slice (some ⟨g, 0, none⟩) l.length l.length) ∧ OwnTabs w' w.heap.size g l ∧ l.map Tw.tb = ts.map Tn.tb ∧ Below w.heap.size w w' := by
  obtain ⟨i, hi, hz0, hz1, hz2⟩ := info_parts Tryz.infoTab
  have HI : Hid (Tryz.prog.info? 56 = some i ∧ i.zero = some (.agg #[.string ⟨#[]⟩, .slice none 0 0]) ∧ i.size = 2 ∧ i.bytes = 40) := ⟨hi, hz0, hz1, hz2⟩
  clear hi hz0 hz1 hz2
  rcases h with ⟨a, cap, rfl, rfl⟩ | ⟨b, off, cap, rfl, hE, hB, hlen, hcap⟩
  · go_enter Tryz.func26, Tryz.ntmps26
    go_wp2_with (at_make; refine wpList_make_full _ rfl _ _ 28 rfl w.heap.size 56 i _ 2 Tryz.underlying28 HI.out.1 HI.out.2.1 HI.out.2.2.1 _ _ _ _ 0 rfl rfl ?_ ?_ ?hb ?hm ?hs ?_)
    case hb => rw [HI.out.2.2.2]; omega
    case hm => unfold maxLen; omega
    case hs => exact Nat.le_refl _
    · rfl
    · rfl
    intro w1 hown hgrow
    have HW : Hid (OwnP w1 w.heap.size w.heap.size 0 []) := by
      have h0 := made_tabs 0
      rw [Nat.zero_mul] at h0
      rw [h0] at hown
      exact hown
    have hb1 : Below w.heap.size w w1 := (Below.refl _ _).grown hgrow (Nat.le_refl _) (fun k hk => by cases hk)
    clear hown hgrow
    go_wp2_with fail
    go_loopw [4] (fun i wr => i = .int .i64 0 ∧ wr = w1) (fun i _ => 0)
    case atStart => exact ⟨rfl, rfl⟩
    case round =>
      obtain ⟨rfl, rfl⟩ := hrel
      go_wp2_with fail
      go_ret
      exact ⟨_, [], rfl, ⟨HW.out, fun p hp => by simp at hp, fun p hp => by simp at hp, List.Pairwise.nil, fun p hp => by simp at hp⟩, rfl, hb1⟩
  · have HE : Hid (TabsAt w b off ts) := hE
    clear hE
    unfold maxLen at hcap
    go_enter Tryz.func26, Tryz.ntmps26
    go_wp2_with (at_make; refine wpList_make_full _ rfl _ _ 28 rfl w.heap.size 56 i _ 2 Tryz.underlying28 HI.out.1 HI.out.2.1 HI.out.2.2.1 _ _ _ _ ts.length rfl rfl ?_ ?_ ?hb ?hm ?hs ?_)
    case hb => rw [HI.out.2.2.2]; omega
    case hm => unfold maxLen; omega
    case hs => exact Nat.le_refl _
    · rfl
    · rfl
    intro w1 hown hgrow
    rw [made_tabs] at hown
    have hown1 : OwnP w1 w.heap.size w.heap.size ts.length (List.replicate ts.length zeroP) := by
      unfold OwnP; rw [List.length_replicate]; exact hown
    have HW : Hid (OwnP w1 w.heap.size w.heap.size ts.length (List.replicate ts.length zeroP)) := hown1
    have hb1 : Below w.heap.size w w1 := (Below.refl _ _).grown hgrow (Nat.le_refl _) (fun k hk => by cases hk)
    have hs1 := hown1.lt.2
    clear hown hown1 hgrow
    go_wp2_with fail
    go_loopw [4] (fun i wr => ∃ (k : Nat) (l : List Tw), k ≤ ts.length ∧ i = .int .i64 k ∧ l.length = k ∧ l.map Tw.tb = (ts.take k).map Tn.tb ∧ OwnP wr w.heap.size w.heap.size ts.length (l.map Tw.pr ++ List.replicate (ts.length - k) zeroP) ∧
        (∀ t ∈ l, OwnRuns wr w.heap.size t.g t.l ∧ w.heap.size < t.g ∧ t.l.length + totL t.l ≤ 1048576) ∧ l.Pairwise (fun a b => a.g < b.g ∧ ∀ p ∈ a.l, p.1 < b.g) ∧ Below w.heap.size w wr) (fun i _ => ts.length - (intOf i).toNat)
    case atStart => exact ⟨0, [], Nat.zero_le _, rfl, rfl, rfl, HW.out, fun p hp => by simp at hp, List.Pairwise.nil, hb1⟩
    case round =>
      obtain ⟨k, l, hk, rfl, hlk, hes, hR, hO, hup, hb⟩ := hrel
      have HL : Hid (l.length = k ∧ l.map Tw.tb = (ts.take k).map Tn.tb ∧ OwnP wr w.heap.size w.heap.size ts.length (l.map Tw.pr ++ List.replicate (ts.length - k) zeroP) ∧
        (∀ t ∈ l, OwnRuns wr w.heap.size t.g t.l ∧ w.heap.size < t.g ∧ t.l.length + totL t.l ≤ 1048576) ∧ l.Pairwise (fun a b => a.g < b.g ∧ ∀ p ∈ a.l, p.1 < b.g)) := ⟨hlk, hes, hR, hO, hup⟩
      have hg := hR.lt
      have hsz := hb.size
      clear hlk hes hR hO hup
      by_cases hlt : k < ts.length
      · obtain ⟨t, ht⟩ : ∃ t, ts[k]? = some t := ⟨_, List.getElem?_eq_getElem hlt⟩
        obtain ⟨c0, c1, hin⟩ := (HE.out.below hb hB) k t ht
        have HR : Hid (ts[k]? = some t ∧ InRuns wr t.u t.rs ∧ t.rs.length + tot t.rs ≤ 1048576) := ⟨ht, hin, wt_le (by have := totT_mem ht; omega)⟩
        clear ht hin
        go_wp2_with fail
        refine (toTablet_any t _ HR.out.2.1 HR.out.2.2).mono ?_
        rintro e w2 ⟨g', l', rfl, hO', hm', hn', hb2⟩
        have hR2 := HL.out.2.2.1.below hb2 hg.2
        have hs2 := hb2.size
        have hg' := hO'.lt
        have hul : (l.map Tw.pr).length = k := by simp [HL.out.1]
        have hz : (l.map Tw.pr ++ List.replicate (ts.length - k) zeroP)[k]? = some zeroP := by
          rw [List.getElem?_append_right (by omega), hul, Nat.sub_self, List.getElem?_replicate, if_pos (by omega)]
        obtain ⟨d0, d1⟩ := hR2.cells hz
        have hfz := fun j => World.ownsRow.frozenAt hR2 j
        unfold zeroP at d0 d1
        simp only at d0 d1
        have HN : Hid (∃ L : List Tw, L.length = k + 1 ∧ L.map Tw.tb = (ts.take (k + 1)).map Tn.tb ∧ OwnP ((w2.setCell ⟨w.heap.size, k * 2, none⟩ (.string t.lo)).setCell ⟨w.heap.size, k * 2 + 1, none⟩ (.slice (some ⟨g', 0, none⟩) l'.length l'.length)) w.heap.size w.heap.size ts.length (L.map Tw.pr ++ List.replicate (ts.length - (k + 1)) zeroP) ∧
            (∀ t' ∈ L, OwnRuns ((w2.setCell ⟨w.heap.size, k * 2, none⟩ (.string t.lo)).setCell ⟨w.heap.size, k * 2 + 1, none⟩ (.slice (some ⟨g', 0, none⟩) l'.length l'.length)) w.heap.size t'.g t'.l ∧ w.heap.size < t'.g ∧ t'.l.length + totL t'.l ≤ 1048576) ∧ L.Pairwise (fun a b => a.g < b.g ∧ ∀ p ∈ a.l, p.1 < b.g)) := by
          refine ⟨l ++ [⟨t.lo, g', l'⟩], by simp [HL.out.1], ?_, ?_, ?_, ?_⟩
          · rw [tbs_take HR.out.1, List.map_append, HL.out.2.1]
            show _ ++ [Tb.mk t.lo (l'.map Prod.snd)] = _ ++ [Tb.mk t.lo (esOf t.rs)]
            rw [hm']
          · have := hR2.put k zeroP (t.lo, .slice (some ⟨g', 0, none⟩) l'.length l'.length) hz
            rw [← prs_set (t := ⟨t.lo, g', l'⟩) HL.out.1 hlt]; exact this
          · intro p hp
            rcases List.mem_append.1 hp with hp | hp
            · obtain ⟨q1, q2, q3⟩ := HL.out.2.2.2.1 p hp
              exact ⟨((q1.below hb2).setNe _ _ _ q2).setNe _ _ _ q2, q2, q3⟩
            · simp at hp
              subst hp
              exact ⟨((hO'.setNe _ _ _ (by omega)).setNe _ _ _ (by omega)).mono (by omega), by show w.heap.size < g'; omega, hn'⟩
          · refine List.pairwise_append.2 ⟨HL.out.2.2.2.2, by simp, fun p hp q hq => ?_⟩
            simp at hq
            subst hq
            obtain ⟨q1, q2, q3⟩ := HL.out.2.2.2.1 p hp
            refine ⟨?_, fun x hx => ?_⟩
            · have := q1.lt
              show p.g < g'
              omega
            · have := (q1.rows.2 x hx).lt
              show x.1 < g'
              omega
        have hb3 : Below w.heap.size w ((w2.setCell ⟨w.heap.size, k * 2, none⟩ (.string t.lo)).setCell ⟨w.heap.size, k * 2 + 1, none⟩ (.slice (some ⟨g', 0, none⟩) l'.length l'.length)) := ((hb.trans (hb2.mono hsz)).setCell (by show w.heap.size ≤ w.heap.size; omega) _).setCell (by show w.heap.size ≤ w.heap.size; omega) _
        clear hR2 hO' hb2 c0 c1 hul hz hm' hn'
        go_wp2_with fail
        go_roundw
        case rel =>
          go_light
          obtain ⟨L, a1, a2, a3, a4, a5⟩ := HN.out
          exact ⟨k + 1, L, by omega, by go_num, a1, a2, a3, a4, a5, hb3⟩
        case measure => simp [intOf]; omega
      · have hkr : k = ts.length := by omega
        have HF : Hid (l.length = ts.length ∧ l.map Tw.tb = ts.map Tn.tb ∧ OwnP wr w.heap.size w.heap.size ts.length (l.map Tw.pr)) := by
          have h2 := HL.out.2.1
          have h3 := HL.out.2.2.1
          rw [List.take_of_length_le (by omega)] at h2
          rw [show ts.length - k = 0 by omega] at h3
          simp at h3
          exact ⟨by rw [HL.out.1, hkr], h2, h3⟩
        clear hkr
        go_wp2_with fail
        go_ret
        refine ⟨_, l, ?_, ⟨?_, fun t ht => (HL.out.2.2.2.1 t ht).1, fun t ht => (HL.out.2.2.2.1 t ht).2.1, HL.out.2.2.2.2, fun t ht => (HL.out.2.2.2.1 t ht).2.2⟩, HF.out.2.1, hb⟩
        · rw [HF.out.1]; rfl
        · rw [HF.out.1]; exact HF.out.2.2

set_option maxHeartbeats 400000 in
theorem toStore_any (u : Value) (ts : List Tn) (w : World) (h : InTabs w u ts) (h1 : ts.length + totT ts ≤ 1048576) :
    Calls Tryz.prog 8 #[.agg #[u]] w fun e w' =>
      ∃ (g : Nat) (l : List Tw), e = .returned (.agg #[.slice (some ⟨g, 0, none⟩) l.length l.length]) ∧ OwnTabs w' w.heap.size g l ∧ l.map Tw.tb = ts.map Tn.tb ∧ Below w.heap.size w w' := by
  have HE : Hid (InTabs w u ts) := h
  have hu := h.ucells
  clear h
  go_enter Tryz.func8, Tryz.ntmps8
  go_wp2_with fail
  refine (toTabletS_any u ts _ (HE.out.below ((((Below.refl _ _).alloc (Nat.le_refl _) _).alloc (by simp) _).alloc (by simp; omega) _)) h1).mono ?_
  rintro e w1 ⟨g, l, rfl, hO, hm, hb1⟩
  obtain ⟨hc1, hf1⟩ := bcell hb1
  have k1 : Below w.heap.size w w1 := ((((Below.refl _ _).alloc (Nat.le_refl _) (Obj.cells #[u] 24)).alloc (by simp) (Obj.cells #[.slice none 0 0] 30)).alloc (by simp; omega) (Obj.cells #[.slice none 0 0] 30)).trans (hb1.mono (by simp; omega))
  have HO : Hid (OwnTabs w1 (w.heap.size + 1 + 1 + 1) g l ∧ l.map Tw.tb = ts.map Tn.tb) := by
    refine ⟨?_, hm⟩
    simpa using hO
  clear hO hm
  go_wp2_with fail
  refine bodyPost_ret (v := .agg #[.slice (some ⟨g, 0, none⟩) l.length l.length]) (by simp [results, Tryz.results8, go_sem, hc1]) rfl ⟨g, l, rfl, ?_, HO.out.2, ?_⟩
  · have hl := HO.out.1.lt.1
    exact ((HO.out.1.setNe _ _ _ (by omega)).setNe _ _ _ (by omega)).mono (by omega)
  · exact (k1.setCell (by show w.heap.size ≤ w.heap.size + 1 + 1; omega) _).setCell (by show w.heap.size ≤ w.heap.size + 1; omega) _
end Go.Proofs.YtlgeffinhbodeafGreat

/-
  What the law FnExactMergeStore needs besides: stores that are marked, and how much they hold.
-/
namespace Go.Proofs.YtlgeffinhbodeafGreat
open Go.ChangeShapes Go.WideShapes Go.ChangeAt Go.RowKit Go.Deep
set_option linter.unusedVariables false
set_option linter.unusedSimpArgs false

/-- How much a stack of runs holds. -/
def szR : List (List Ent) → Nat
  | [] => 0
  | e :: es => 1 + e.length + szR es
theorem szR_append : ∀ (a b : List (List Ent)), szR (a ++ b) = szR a + szR b
  | [], b => by simp [szR]
  | e :: a, b => by simp [szR, szR_append a b]; omega
theorem szR_len : ∀ (a : List (List Ent)), a.length ≤ szR a
  | [] => Nat.le_refl _
  | e :: a => by have := szR_len a; simp [szR]; omega
def szB : List Tb → Nat
  | [] => 0
  | t :: ts => szR t.rs + szB ts
theorem szB_append : ∀ (a b : List Tb), szB (a ++ b) = szB a + szB b
  | [], b => by simp [szB]
  | e :: a, b => by simp [szB, szB_append a b]; omega
theorem szB_mem {a : List Tb} {t : Tb} (h : t ∈ a) : szR t.rs ≤ szB a := by
  obtain ⟨x, y, rfl⟩ := List.append_of_mem h
  rw [szB_append]
  simp [szB]
  omega
theorem split_two {ts : List Tb} {i : Nat} {a b : Tb} (ha : ts[i]? = some a) (hb : ts[i + 1]? = some b) : ts = ts.take i ++ a :: b :: ts.drop (i + 2) := by
  obtain ⟨h1, h2⟩ := List.getElem?_eq_some_iff.1 ha
  obtain ⟨h3, h4⟩ := List.getElem?_eq_some_iff.1 hb
  rw [← h2, ← h4]
  conv => lhs; rw [← List.take_append_drop i ts]
  congr 1
  rw [List.drop_eq_getElem_cons h1, List.drop_eq_getElem_cons h3]
theorem szB_two {ts : List Tb} {i : Nat} {a b : Tb} (ha : ts[i]? = some a) (hb : ts[i + 1]? = some b) : szR a.rs + szR b.rs ≤ szB ts := by
  rw [split_two ha hb, szB_append]
  simp [szB]
  omega
theorem mrgT_sz {ts out : List Tb} {row : ByteArray} (h : MrgT ts row out) : szB out ≤ szB ts ∧ out.length ≤ ts.length := by
  by_cases hg : GoodS ts
  · obtain ⟨i, hi⟩ := hold_ex hg row
    by_cases hl : i + 1 = ts.length
    · rw [h.last hg i hi hl]; exact ⟨Nat.le_refl _, Nat.le_refl _⟩
    · have ha := List.getElem?_eq_getElem hi.1
      have hb := List.getElem?_eq_getElem (show i + 1 < ts.length by have := hi.1; omega)
      by_cases hf : 50 < (ts[i]'hi.1).rs.length + (ts[i + 1]'(by have := hi.1; omega)).rs.length
      · rw [h.full hg i _ _ hi ha hb hf]; exact ⟨Nat.le_refl _, Nat.le_refl _⟩
      · rw [h.done hg i _ _ hi ha hb (by omega)]
        have h1 := split_two ha hb
        have h2 := congrArg szB h1
        have h3 := congrArg List.length h1
        rw [szB_append] at h2
        simp only [szB, List.length_append, List.length_cons] at h2 h3
        rw [szB_append, szB_append]
        simp only [szB, List.length_append, List.length_cons, List.length_nil, szR_append]
        omega
  · rw [h.bad hg]; exact ⟨Nat.le_refl _, Nat.le_refl _⟩
theorem szR_tot : ∀ (rs : List Rn), szR (esOf rs) = rs.length + tot rs
  | [] => rfl
  | r :: rs => by
    have := szR_tot rs
    unfold esOf at this ⊢
    simp [szR, tot, this]
    omega
theorem szB_tn : ∀ (ts : List Tn), szB (ts.map Tn.tb) ≤ totT ts
  | [] => Nat.le_refl _
  | t :: ts => by
    have := szB_tn ts
    have h2 := szR_tot t.rs
    simp [szB, totT, Tn.tb, wt] at this ⊢
    omega
theorem szR_totM : ∀ (l : List Rm), szR (esM l) = l.length + totM l
  | [] => rfl
  | r :: l => by
    have := szR_totM l
    unfold esM at this ⊢
    simp [szR, totM, this]
    omega
theorem totM_append : ∀ (a b : List Rm), totM (a ++ b) = totM a + totM b
  | [], b => by simp [totM]
  | r :: a, b => by simp [totM, totM_append a b]; omega
theorem szR_totW : ∀ (l : List Rw), szR (l.map Rw.es) = l.length + totW l
  | [] => rfl
  | r :: l => by
    have := szR_totW l
    simp [szR, totW, this]
    omega
theorem totX_sz : ∀ (xs : List Tx), totX xs ≤ xs.length + 6 * szB (xs.map Tx.tb)
  | [] => Nat.le_refl _
  | t :: xs => by
    have := totX_sz xs
    have h2 := szR_totW t.rs
    simp [totX, szB, wx, Tx.tb] at this ⊢
    omega
theorem tx_ok {xs : List Tx} (h : szB (xs.map Tx.tb) ≤ 1048576) : ∀ t ∈ xs, totW t.rs ≤ 1048576 ∧ t.rs.length ≤ 1048576 := by
  intro t ht
  have h1 := szB_mem (List.mem_map.2 ⟨t, ht, rfl⟩ : t.tb ∈ xs.map Tx.tb)
  have h2 := szR_totW t.rs
  simp [Tx.tb] at h1
  omega
theorem tm_ok {ts : List Tm} (h : szB (tbs ts) ≤ 1048576) : ∀ t ∈ ts, t.l.length ≤ 1048576 ∧ totM t.l ≤ 1048576 := by
  intro t ht
  have h1 := szB_mem (List.mem_map.2 ⟨t, ht, rfl⟩ : t.tb ∈ ts.map Tm.tb)
  have h2 := szR_totM t.l
  unfold tbs at h
  have h3 : szR t.tb.rs = szR (esM t.l) := rfl
  omega
theorem tm_two {ts : List Tm} (h : szB (tbs ts) ≤ 1048576) : ∀ (i : Nat) (t n : Tm), ts[i]? = some t → ts[i + 1]? = some n → totM (t.l ++ n.l) ≤ 1048576 := by
  intro i t n ht hn
  have h1 := szB_two (ts := tbs ts) (i := i) (a := t.tb) (b := n.tb) (by rw [tbs_get, ht]; rfl) (by rw [tbs_get, hn]; rfl)
  have h2 := szR_totM t.l
  have h3 := szR_totM n.l
  have h4 : szR t.tb.rs = szR (esM t.l) := rfl
  have h5 : szR n.tb.rs = szR (esM n.l) := rfl
  rw [totM_append]
  omega

/-- A store that the law has made, as one that may be marked. -/
def Tw.tx (t : Tw) : Tx := ⟨t.lo, .slice (some ⟨t.g, 0, none⟩) t.l.length t.l.length, t.l.map fun p => ⟨.slice (some ⟨p.1, 0, none⟩) p.2.length p.2.length, p.2, some p.1⟩⟩
theorem tx_pr (ts : List Tw) : (ts.map Tw.tx).map Tx.pr = ts.map Tw.pr := by
  rw [List.map_map]
  apply List.map_congr_left
  intro t _
  rfl
theorem tx_tb (ts : List Tw) : (ts.map Tw.tx).map Tx.tb = ts.map Tw.tb := by
  rw [List.map_map]
  apply List.map_congr_left
  intro t _
  simp [Tw.tx, Tx.tb, Tw.tb, Function.comp_def]
theorem OwnTabs.st {w : World} {base g : Nat} {ts : List Tw} (h : OwnTabs w base g ts) : OwnSt w base (.slice (some ⟨g, 0, none⟩) ts.length ts.length) (ts.map Tw.tx) := by
  refine ⟨.inr ⟨g, ts.length, by rw [List.length_map], by rw [tx_pr]; exact h.row⟩, fun t ht => ?_, fun t ht r hr => ?_⟩
  · obtain ⟨p, hp, rfl⟩ := List.mem_map.1 ht
    have h1 := (h.tabs p hp).row
    refine .inr ⟨p.g, p.l.length, by simp [Tw.tx], ?_⟩
    unfold OwnR at h1
    have e1 : (usOf p.l).length = p.l.length := by simp [usOf]
    have e2 : p.tx.rs.map Rw.u = usOf p.l := by simp [Tw.tx, usOf, Function.comp_def]
    have e3 : p.tx.rs.length = p.l.length := by simp [Tw.tx]
    rw [e1] at h1
    rw [e2, e3]
    exact h1
  · obtain ⟨p, hp, rfl⟩ := List.mem_map.1 ht
    simp only [Tw.tx, List.mem_map] at hr
    obtain ⟨q, hq, rfl⟩ := hr
    exact .inr ⟨q.1, q.2.length, rfl, rfl, (h.tabs p hp).rows.2 q hq⟩
theorem OwnTabs.apart {w : World} {base g : Nat} {ts : List Tw} (h : OwnTabs w base g ts) : ApartT (ts.map Tw.tx) := by
  unfold ApartT Apart
  rw [List.flatMap_map, List.pairwise_flatMap]
  refine ⟨fun t ht => ?_, ?_⟩
  · show (t.l.map _).Pairwise _
    rw [List.pairwise_map]
    refine (h.tabs t ht).rows.1.imp ?_
    intro p q hpq k h1 h2
    have e1 : p.1 = k := Option.some.inj h1
    have e2 : q.1 = k := Option.some.inj h2
    omega
  · have hu : ts.Pairwise fun a b => (a ∈ ts ∧ b ∈ ts) ∧ a.g < b.g ∧ ∀ p ∈ a.l, p.1 < b.g := by
      have := h.up
      rw [List.pairwise_iff_forall_sublist] at this ⊢
      intro a b hab
      exact ⟨⟨hab.subset (by simp), hab.subset (by simp)⟩, this hab⟩
    refine hu.imp ?_
    rintro a b ⟨⟨ha, hb⟩, h1, h2⟩ x hx y hy k hk hk'
    simp only [Tw.tx, List.mem_map] at hx hy
    obtain ⟨p, hp, rfl⟩ := hx
    obtain ⟨q, hq, rfl⟩ := hy
    have e1 : p.1 = k := Option.some.inj hk
    have e2 : q.1 = k := Option.some.inj hk'
    have h3 := h2 p hp
    have h4 := (h.tabs b hb).ne q hq
    omega
theorem vwX (xs : List Tx) : vwT (xs.map Tx.tn) = (xs.map Tx.tb).map fun t => (t.lo, t.rs) := by
  unfold vwT
  rw [List.map_map, List.map_map]
  apply List.map_congr_left
  intro t ht
  simp [Tx.tn, Tx.tb, esOf, Rw.rn, Function.comp_def]
theorem vwX_eq {l l' : List Tx} (h : l.map Tx.tb = l'.map Tx.tb) : vwT (l.map Tx.tn) = vwT (l'.map Tx.tn) := by rw [vwX, vwX, h]
/-- What the law's own copy shows is what came in. -/
theorem tms_tns {l : List Tw} {ts : List Tn} (h : l.map Tw.tb = ts.map Tn.tb) : tbs (l.map Tw.tm) = ts.map Tn.tb := by
  unfold tbs
  rw [tms_tbs, h]
end Go.Proofs.YtlgeffinhbodeafGreat

/-
  Writes cut into runs: the runs together show what the writes show (no memory).
-/
namespace Go.Proofs.YtlgeffinhbodeafGreat
set_option linter.unusedVariables false
set_option linter.unusedSimpArgs false

/-- The largest delete of a column. -/
theorem largest_of : ∀ (q : List Ent) (v : Ent), v ∈ q → v.kind = 2 → ∃ d ∈ q, d.kind = 2 ∧ sameCol d v = true ∧ v.ts ≤ d.ts ∧ ∀ u ∈ q, u.kind = 2 → sameCol u v = true → u.ts ≤ d.ts
  | [], v, hv, _ => by simp at hv
  | a :: q, v, hv, hk => by
    have hvv : sameCol v v = true := by rw [sameCol_iff]; exact ⟨rfl, rfl, rfl⟩
    by_cases hq : ∃ u ∈ q, u.kind = 2 ∧ sameCol u v = true
    · obtain ⟨u, hu, hu2, huv⟩ := hq
      obtain ⟨d, hd, hd2, hdu, hul, hmax⟩ := largest_of q u hu hu2
      have hdv : sameCol d v = true := by rw [sameCol_iff] at *; exact ⟨hdu.1.trans huv.1, hdu.2.1.trans huv.2.1, hdu.2.2.trans huv.2.2⟩
      have hmax' : ∀ x ∈ q, x.kind = 2 → sameCol x v = true → x.ts ≤ d.ts := fun x hx h2 h3 => hmax x hx h2 (by rw [sameCol_iff] at *; exact ⟨h3.1.trans huv.1.symm, h3.2.1.trans huv.2.1.symm, h3.2.2.trans huv.2.2.symm⟩)
      by_cases ha : a.kind = 2 ∧ sameCol a v = true ∧ d.ts < a.ts
      · refine ⟨a, by simp, ha.1, ha.2.1, ?_, fun x hx h2 h3 => ?_⟩
        · rcases List.mem_cons.1 hv with rfl | hv
          · exact Int.le_refl _
          · have := hmax' v hv hk hvv; omega
        · rcases List.mem_cons.1 hx with rfl | hx
          · exact Int.le_refl _
          · have := hmax' x hx h2 h3; omega
      · have hal : a.kind = 2 → sameCol a v = true → a.ts ≤ d.ts := fun h1 h2 => by
          by_cases h3 : d.ts < a.ts
          · exact absurd ⟨h1, h2, h3⟩ ha
          · omega
        refine ⟨d, List.mem_cons_of_mem _ hd, hd2, hdv, ?_, fun x hx h2 h3 => ?_⟩
        · rcases List.mem_cons.1 hv with rfl | hv
          · exact hal hk hvv
          · exact hmax' v hv hk hvv
        · rcases List.mem_cons.1 hx with rfl | hx
          · exact hal h2 h3
          · exact hmax' x hx h2 h3
    · have hva : v = a := by
        rcases List.mem_cons.1 hv with h | h
        · exact h
        · exact absurd ⟨v, h, hk, hvv⟩ hq
      subst hva
      refine ⟨v, by simp, hk, hvv, Int.le_refl _, fun x hx h2 h3 => ?_⟩
      rcases List.mem_cons.1 hx with rfl | hx
      · exact Int.le_refl _
      · exact absurd ⟨x, hx, h2, h3⟩ hq
theorem kills_iff {v e : Ent} : kills v e = true ↔ sameCol v e = true ∧ ((v.kind = 2 ∧ e.ts ≤ v.ts) ∨ (¬ v.kind = 2 ∧ v.ts = e.ts)) := by
  unfold kills
  by_cases h : v.kind = 2 <;> simp [h]
theorem sameCol_trans {a b c : Ent} (h : sameCol a b = true) (k : sameCol b c = true) : sameCol a c = true := by
  rw [sameCol_iff] at *; exact ⟨h.1.trans k.1, h.2.1.trans k.2.1, h.2.2.trans k.2.2⟩
/-- A column's delete among the writes: the kept one does at least as much. -/
theorem kept_del {p R : List Ent} (hk : Kept p p.length R) {v x : Ent} (hv : v ∈ p) (h2 : v.kind = 2) (hx : kills v x = true) : ∃ d ∈ R, kills d x = true := by
  obtain ⟨d, hd, hd2, hdv, hvd, hmax⟩ := largest_of p v hv h2
  obtain ⟨i, hi⟩ := List.getElem?_of_mem hd
  have hlt := (List.getElem?_eq_some_iff.1 hi).1
  refine ⟨d, (hk.2 d).2 ⟨i, hlt, hi, .inr ⟨hd2, fun u hu hu2 hud => hmax u hu hu2 (sameCol_trans hud hdv)⟩⟩, ?_⟩
  rw [kills_iff] at hx ⊢
  rcases hx.2 with ⟨_, h⟩ | ⟨h, _⟩
  · exact ⟨sameCol_trans hdv hx.1, .inl ⟨hd2, by omega⟩⟩
  · exact absurd h2 h
theorem kept_kills {p R : List Ent} (hk : Kept p p.length R) : ∀ (n i : Nat) (v x : Ent), p.length - i ≤ n → p[i]? = some v → kills v x = true → ∃ d ∈ R, kills d x = true
  | 0, i, v, x, hn, hv, _ => by have := (List.getElem?_eq_some_iff.1 hv).1; omega
  | n + 1, i, v, x, hn, hv, hx => by
    have hlt := (List.getElem?_eq_some_iff.1 hv).1
    by_cases h2 : v.kind = 2
    · exact kept_del hk (List.mem_of_getElem? hv) h2 hx
    · by_cases hs : Stands p i
      · exact ⟨v, (hk.2 v).2 ⟨i, hlt, hv, .inl ⟨h2, hs⟩⟩, hx⟩
      · obtain ⟨j, u, hij, hu, huv⟩ : ∃ j u, i < j ∧ p[j]? = some u ∧ kills u v = true := by
          refine Classical.byContradiction fun hno => hs fun j u e h1 h3 h4 => ?_
          rw [hv] at h4
          simp at h4
          subst h4
          cases hkk : kills u v with
          | false => rfl
          | true => exact absurd ⟨j, u, h1, h3, hkk⟩ hno
        have hux : kills u x = true := by
          rw [kills_iff] at hx huv ⊢
          rcases hx.2 with ⟨h, _⟩ | ⟨_, h⟩
          · exact absurd h h2
          · refine ⟨sameCol_trans huv.1 hx.1, ?_⟩
            rcases huv.2 with ⟨h3, h4⟩ | ⟨h3, h4⟩
            · exact .inl ⟨h3, by omega⟩
            · exact .inr ⟨h3, by omega⟩
        exact kept_kills hk n j u x (by omega) hu hux
theorem kept_sub {p R : List Ent} {k : Nat} (hk : Kept p k R) : ∀ x ∈ R, x ∈ p := fun x hx => by
  obtain ⟨i, _, hi, _⟩ := (hk.2 x).1 hx
  exact List.mem_of_getElem? hi
theorem kept_same {p R : List Ent} (hk : Kept p p.length R) (x : Ent) : (∃ d ∈ R, kills d x = true) ↔ ∃ v ∈ p, kills v x = true := by
  constructor
  · rintro ⟨d, hd, h⟩; exact ⟨d, kept_sub hk d hd, h⟩
  · rintro ⟨v, hv, h⟩
    obtain ⟨i, hi⟩ := List.getElem?_of_mem hv
    exact kept_kills hk p.length i v x (by omega) hi h
theorem kept_nonempty {p R : List Ent} (hk : Kept p p.length R) (hp : 0 < p.length) : 0 < R.length := by
  obtain ⟨v, hv⟩ : ∃ v, p[p.length - 1]? = some v := ⟨_, List.getElem?_eq_getElem (by omega)⟩
  by_cases h2 : v.kind = 2
  · obtain ⟨d, hd, _⟩ := kept_del (x := v) hk (List.mem_of_getElem? hv) h2 (by rw [kills_iff, sameCol_iff]; exact ⟨⟨rfl, rfl, rfl⟩, .inl ⟨h2, Int.le_refl _⟩⟩)
    exact List.length_pos_of_mem hd
  · have : v ∈ R := (hk.2 v).2 ⟨p.length - 1, by omega, hv, .inl ⟨h2, fun j u e h1 h3 _ => by have := (List.getElem?_eq_some_iff.1 h3).1; omega⟩⟩
    exact List.length_pos_of_mem this
/-- Runs, newest first, of writes cut into pieces. -/
inductive Cuts : List Ent → List (List Ent) → Prop where
  | nil : Cuts [] []
  | cut {ws : List Ent} {rs : List (List Ent)} {p R : List Ent} : Cuts ws rs → Kept p p.length R → Cuts (ws ++ p) (R :: rs)
theorem stands_left {ws p : List Ent} {i : Nat} {x : Ent} (hx : ws[i]? = some x) : Stands (ws ++ p) i ↔ Stands ws i ∧ ∀ v ∈ p, kills v x = false := by
  have hi := (List.getElem?_eq_some_iff.1 hx).1
  constructor
  · intro h
    refine ⟨fun j v e h1 h2 h3 => ?_, fun v hv => ?_⟩
    · have hj := (List.getElem?_eq_some_iff.1 h2).1
      exact h j v e h1 (by rw [List.getElem?_append_left hj]; exact h2) (by rw [List.getElem?_append_left hi]; exact h3)
    · obtain ⟨j, hj⟩ := List.getElem?_of_mem hv
      exact h (ws.length + j) v x (by omega) (by rw [List.getElem?_append_right (by omega), show ws.length + j - ws.length = j by omega]; exact hj) (by rw [List.getElem?_append_left hi]; exact hx)
  · rintro ⟨h1, h2⟩ j v e hij hv he
    rw [List.getElem?_append_left hi, hx] at he
    simp at he
    subst he
    by_cases hj : j < ws.length
    · rw [List.getElem?_append_left hj] at hv
      exact h1 j v x hij hv hx
    · rw [List.getElem?_append_right (by omega)] at hv
      exact h2 v (List.mem_of_getElem? hv)
theorem stands_right {ws p : List Ent} {i : Nat} : Stands (ws ++ p) (ws.length + i) ↔ Stands p i := by
  constructor
  · intro h j v e h1 h2 h3
    exact h (ws.length + j) v e (by omega) (by rw [List.getElem?_append_right (by omega), show ws.length + j - ws.length = j by omega]; exact h2) (by rw [List.getElem?_append_right (by omega), show ws.length + i - ws.length = i by omega]; exact h3)
  · intro h j v e h1 h2 h3
    rw [List.getElem?_append_right (by omega)] at h2 h3
    rw [show ws.length + i - ws.length = i by omega] at h3
    exact h (j - ws.length) v e (by omega) h2 h3
theorem cuts_show {ws : List Ent} {rs : List (List Ent)} (h : Cuts ws rs) : ∀ x : Ent, x.kind = 0 → ((∃ i es, rs[i]? = some es ∧ x ∈ es ∧ ¬ HidTo rs i x) ↔ ∃ i, ws[i]? = some x ∧ Stands ws i) := by
  induction h with
  | nil => intro x _; simp
  | @cut ws rs p R hc hk ih =>
    intro x hx
    have hx2 : ¬ x.kind = 2 := by omega
    have hhid : ∀ i, HidTo (R :: rs) (i + 1) x ↔ (∃ d ∈ R, kills d x = true) ∨ HidTo rs i x := by
      intro i
      constructor
      · rintro ⟨m, ds, d, h1, h2, h3, h4⟩
        cases m with
        | zero => simp at h2; subst h2; exact .inl ⟨d, h3, h4⟩
        | succ m => exact .inr ⟨m, ds, d, by omega, by simpa using h2, h3, h4⟩
      · rintro (⟨d, h3, h4⟩ | ⟨m, ds, d, h1, h2, h3, h4⟩)
        · exact ⟨0, R, d, by omega, rfl, h3, h4⟩
        · exact ⟨m + 1, ds, d, by omega, by simpa using h2, h3, h4⟩
    have hall : (¬ ∃ d ∈ R, kills d x = true) ↔ ∀ v ∈ p, kills v x = false := by
      rw [kept_same hk x]
      constructor
      · intro h v hv
        cases hq : kills v x with
        | false => rfl
        | true => exact absurd ⟨v, hv, hq⟩ h
      · rintro h ⟨v, hv, hq⟩
        rw [h v hv] at hq
        cases hq
    constructor
    · rintro ⟨i, es, h1, h2, h3⟩
      cases i with
      | zero =>
        simp at h1
        subst h1
        obtain ⟨j, hj, hp, hkeep⟩ := (hk.2 x).1 h2
        rcases hkeep with ⟨_, hs⟩ | ⟨h, _⟩
        · exact ⟨ws.length + j, by rw [List.getElem?_append_right (by omega), show ws.length + j - ws.length = j by omega]; exact hp, stands_right.2 hs⟩
        · exact absurd h hx2
      | succ i =>
        rw [hhid] at h3
        obtain ⟨j, hj, hs⟩ := (ih x hx).1 ⟨i, es, by simpa using h1, h2, fun q => h3 (.inr q)⟩
        exact ⟨j, by rw [List.getElem?_append_left (List.getElem?_eq_some_iff.1 hj).1]; exact hj, (stands_left hj).2 ⟨hs, hall.1 (fun q => h3 (.inl q))⟩⟩
    · rintro ⟨i, hi, hs⟩
      by_cases hlt : i < ws.length
      · rw [List.getElem?_append_left hlt] at hi
        obtain ⟨h1, h2⟩ := (stands_left hi).1 hs
        obtain ⟨m, es, h3, h4, h5⟩ := (ih x hx).2 ⟨i, hi, h1⟩
        refine ⟨m + 1, es, by simpa using h3, h4, ?_⟩
        rw [hhid]
        rintro (q | q)
        · exact (hall.2 h2) q
        · exact h5 q
      · obtain ⟨j, rfl⟩ : ∃ j, i = ws.length + j := ⟨i - ws.length, by omega⟩
        rw [List.getElem?_append_right (by omega), show ws.length + j - ws.length = j by omega] at hi
        exact ⟨0, R, rfl, (hk.2 x).2 ⟨j, (List.getElem?_eq_some_iff.1 hi).1, hi, .inl ⟨hx2, stands_right.1 hs⟩⟩, hidTo_zero _ _⟩
theorem rep_stands {ws L : List Ent} (h : Rep ws ws.length L) (x : Ent) : x ∈ L ↔ x.kind = 0 ∧ ∃ i, ws[i]? = some x ∧ Stands ws i := by
  refine (h.2 x).trans ⟨?_, ?_⟩
  · rintro ⟨i, hi, h1, h2, h3⟩
    exact ⟨h2, i, h1, fun j v e hij hv he => h3 j v e hij (List.getElem?_eq_some_iff.1 hv).1 hv he⟩
  · rintro ⟨h2, i, h1, h3⟩
    exact ⟨i, (List.getElem?_eq_some_iff.1 h1).1, h1, h2, fun j v e hij _ hv he => h3 j v e hij hv he⟩
/-- What the runs show is what the writes show. -/
theorem cuts_merge {ws L M : List Ent} {rs : List (List Ent)} {inr : ByteArray → Bool} (hc : Cuts ws rs) (hL : Rep ws ws.length L) (hM : Mrg rs inr M) : M = L.filter fun x => inr x.row := by
  refine ord_ext hM.1 (List.Pairwise.filter _ hL.1) (fun x => ?_)
  rw [List.mem_filter, rep_stands hL x, hM.2 x]
  constructor
  · rintro ⟨i, j, ⟨es, h1, h2⟩, h3, h4, h5⟩
    exact ⟨⟨h3, (cuts_show hc x h3).1 ⟨i, es, h1, List.mem_of_getElem? h2, h5⟩⟩, h4⟩
  · rintro ⟨⟨h3, h6⟩, h4⟩
    obtain ⟨i, es, h1, h2, h5⟩ := (cuts_show hc x h3).2 h6
    obtain ⟨j, hj⟩ := List.getElem?_of_mem h2
    exact ⟨i, j, ⟨es, h1, hj⟩, h3, h4, h5⟩
theorem kept_good {p R : List Ent} (hg : GoodW p) (hk : Kept p p.length R) (hl : R.length ≤ p.length) : GoodR R := by
  refine ⟨⟨Nat.le_trans hl hg.1, fun x hx => hg.2 x (kept_sub hk x hx)⟩, fun i a b ha hb => ?_⟩
  have hkey := ord_get hk.1 (Nat.lt_succ_self i) ha hb
  unfold okPair
  simp only [hkey, Bool.and_eq_true, Bool.not_eq_true', beq_iff_eq, true_and]
  cases hq : ((a.kind == 2) && ((b.kind == 2) && sameCol a b)) with
  | false => rfl
  | true =>
    exfalso
    simp only [Bool.and_eq_true, beq_iff_eq] at hq
    obtain ⟨ha2, hb2, hab⟩ := hq
    obtain ⟨_, _, _, ka⟩ := (hk.2 a).1 (List.mem_of_getElem? ha)
    obtain ⟨_, _, _, kb⟩ := (hk.2 b).1 (List.mem_of_getElem? hb)
    have la : Largest p a := by rcases ka with ⟨h, _⟩ | ⟨_, h⟩; exact absurd ha2 h; exact h
    have lb : Largest p b := by rcases kb with ⟨h, _⟩ | ⟨_, h⟩; exact absurd hb2 h; exact h
    have h1 := la b (kept_sub hk b (List.mem_of_getElem? hb)) hb2 (by rw [sameCol_comm]; exact hab)
    have h2 := lb a (kept_sub hk a (List.mem_of_getElem? ha)) ha2 hab
    rw [sameCol_iff] at hab
    have : keyCmp a b = 0 := keyCmp_zero.2 ⟨hab.1, hab.2.1, hab.2.2, by simp [ha2, hb2], by omega⟩
    omega
theorem cuts_len {ws : List Ent} {rs : List (List Ent)} (h : Cuts ws rs) (hg : GoodW ws) (hl : ∀ es ∈ rs, GoodR es) (hn : rs.length ≤ 50) : GoodRs rs := ⟨hn, hl⟩
end Go.Proofs.YtlgeffinhbodeafGreat

/-
  WriteStore as lists.
-/
namespace Go.Proofs.YtlgeffinhbodeafGreat
open Go.ChangeShapes Go.WideShapes Go.ChangeAt Go.RowKit Go.Deep
set_option linter.unusedVariables false

/-- A row is in a tablet's range where the tablet holds it. -/
theorem hold_in {ts : List Tb} (hg : GoodS ts) {i : Nat} {a : Tb} (ha : ts[i]? = some a) (row : ByteArray) : inR a.lo (hasN ts i) (hiN ts i) row = true ↔ HoldAt ts row i := by
  have hil := (List.getElem?_eq_some_iff.1 ha).1
  have hup : ∀ (j k : Nat) (x y : Tb), j < k → ts[j]? = some x → ts[k]? = some y → Op.bytesLess x.lo.toList y.lo.toList = true := fun j k x y hjk hx hy =>
    los_up hg (k - j - 1) j x y hx (by rw [show j + (k - j - 1) + 1 = k by omega]; exact hy)
  unfold inR
  constructor
  · intro h
    simp only [Bool.and_eq_true, Bool.not_eq_true', Bool.or_eq_true] at h
    obtain ⟨h1, h2⟩ := h
    refine ⟨hil, fun j t ht => ⟨fun hj => ?_, fun hj => ?_⟩⟩
    · by_cases e : j = i
      · subst e; rw [ha] at ht; cases ht; exact h1
      · cases hq : Op.bytesLess row.toList t.lo.toList with
        | false => rfl
        | true => have := less_trans hq (hup j i t a (by omega) ht ha); rw [this] at h1; cases h1
    · by_cases e : j ≤ i
      · exact e
      · exfalso
        have hj2 := (List.getElem?_eq_some_iff.1 ht).1
        obtain ⟨n, hn⟩ : ∃ n, ts[i + 1]? = some n := ⟨_, List.getElem?_eq_getElem (by omega)⟩
        have hh : hasN ts i = true := by unfold hasN; simp; omega
        have hv : hiN ts i = n.lo := by unfold hiN; rw [hn]
        rw [hh, hv] at h2
        have h3 : Op.bytesLess row.toList n.lo.toList = true := by simpa using h2
        by_cases e2 : j = i + 1
        · subst e2; rw [hn] at ht; cases ht; rw [h3] at hj; cases hj
        · have := less_trans h3 (hup (i + 1) j n t (by omega) hn ht); rw [this] at hj; cases hj
  · intro h
    have h1 := (h.2 i a ha).1 (Nat.le_refl _)
    simp only [Bool.and_eq_true, Bool.not_eq_true', Bool.or_eq_true]
    refine ⟨h1, ?_⟩
    by_cases e : i + 1 < ts.length
    · right
      obtain ⟨n, hn⟩ : ∃ n, ts[i + 1]? = some n := ⟨_, List.getElem?_eq_getElem e⟩
      have hv : hiN ts i = n.lo := by unfold hiN; rw [hn]
      rw [hv]
      cases hq : Op.bytesLess row.toList n.lo.toList with
      | true => rfl
      | false => have := (h.2 (i + 1) n hn).2 hq; omega
    · left
      unfold hasN; simp; omega
/-- The writes of a tablet. -/
abbrev partI (ts : List Tb) (i : Nat) (a : Tb) (ws : List Ent) : List Ent := inP a.lo (hasN ts i) (hiN ts i) ws
/-- A tablet after writes. -/
def TabW (p : List Ent) (a o : Tb) : Prop := (p.length = 0 ∧ o = a) ∨ (0 < p.length ∧ ∃ R, Kept p p.length R ∧ o = ⟨a.lo, R :: a.rs⟩)
def FullAt (ts : List Tb) (ws : List Ent) : Prop := ∃ i a, ts[i]? = some a ∧ 0 < (partI ts i a ws).length ∧ a.rs.length = 50
/-- What WriteStore makes of a store. -/
def WrT (ts : List Tb) (ws : List Ent) (out : List Tb) : Prop :=
  (¬ (GoodS ts ∧ GoodW ws) ∧ out = ts) ∨ (GoodS ts ∧ GoodW ws ∧ ((FullAt ts ws ∧ out = ts) ∨ (¬ FullAt ts ws ∧ out.length = ts.length ∧ ∀ i a o, ts[i]? = some a → out[i]? = some o → TabW (partI ts i a ws) a o)))
theorem tabW_uniq {p : List Ent} {a o o' : Tb} (h : TabW p a o) (k : TabW p a o') : o = o' := by
  rcases h with ⟨h1, rfl⟩ | ⟨h1, R, hR, rfl⟩ <;> rcases k with ⟨k1, rfl⟩ | ⟨k1, S, hS, rfl⟩
  · rfl
  · omega
  · omega
  · rw [kept_uniq hR hS]
theorem wrT_uniq {ts : List Tb} {ws : List Ent} {o1 o2 : List Tb} (h : WrT ts ws o1) (k : WrT ts ws o2) : o1 = o2 := by
  rcases h with ⟨g1, rfl⟩ | ⟨g1, w1, h⟩ <;> rcases k with ⟨g2, rfl⟩ | ⟨g2, w2, k⟩
  · rfl
  · exact absurd ⟨g2, w2⟩ g1
  · exact absurd ⟨g1, w1⟩ g2
  · rcases h with ⟨f1, rfl⟩ | ⟨f1, l1, h⟩ <;> rcases k with ⟨f2, rfl⟩ | ⟨f2, l2, k⟩
    · rfl
    · exact absurd f1 f2
    · exact absurd f2 f1
    · apply List.ext_getElem?
      intro i
      by_cases hi : i < ts.length
      · have ha := List.getElem?_eq_getElem hi
        have hx := List.getElem?_eq_getElem (show i < o1.length by omega)
        have hy := List.getElem?_eq_getElem (show i < o2.length by omega)
        rw [hx, hy, tabW_uniq (h i _ _ ha hx) (k i _ _ ha hy)]
      · rw [List.getElem?_eq_none (by omega), List.getElem?_eq_none (by omega)]
theorem kept_len {p R : List Ent} (h : Kept p p.length R) : R.length ≤ p.length := nodup_sub_len (nodup_ord h.1) (fun x hx => kept_sub h x hx)
theorem tabW_sz {p : List Ent} {a o : Tb} (h : TabW p a o) : szR o.rs ≤ szR a.rs + p.length + 1 ∧ o.rs.length ≤ a.rs.length + 1 ∧ o.rs.flatten.length ≤ a.rs.flatten.length + p.length := by
  rcases h with ⟨h1, rfl⟩ | ⟨h1, R, hR, rfl⟩
  · omega
  · have := kept_len hR
    simp only [szR, List.length_cons, List.flatten_cons, List.length_append]
    omega
end Go.Proofs.YtlgeffinhbodeafGreat

/-
  A row of runs of the call's own, put behind another one; a tablet's runs replaced in a store of the call's own.
-/
namespace Go.Proofs.YtlgeffinhbodeafGreat
open Go.ChangeShapes Go.WideShapes Go.ChangeAt Go.RowKit Go.Deep
set_option linter.unusedVariables false
set_option linter.unusedSimpArgs false
set_option maxRecDepth 100000

/-- append(s, x...) where 'x' is a row of the call's own, or nothing. -/
theorem step_append_runX {ops : Array Oper} {oo : Oper} {a : Act} {K : Act → World → Prop} {Q : Exit → Act → World → Prop} {E : Prop} (w : World) (hgd : oo.guard = none) (s x : Operand)
    (ho : oo.op = .call { callee := .builtin .append, args := #[s, x], argTypes := #[54, 54] })
    (base g n cp : Nat) (us : List Value) (vx : Value) (rs : List Rw) (hs : a.eval s = .slice (some ⟨g, 0, none⟩) n cp) (hn : n = us.length) (hx : a.eval x = vx) (hX : OwnRow w base vx rs) (hk : ∀ r ∈ rs, OwnK w base r) (hO : w.ownsRow base 58 1 (.slice (some ⟨g, 0, none⟩) n cp) us.length us)
    (hlen : us.length + rs.length ≤ 2 ^ 30) (hbase : base ≤ w.heap.size)
    (h : ∀ v' w', AppR w w' base (.slice (some ⟨g, 0, none⟩) n cp) v' us (rs.map Rw.u) → K (a.put oo.dst v') w') : if Region.wanted oo (yielded ops a.tmps) = true then Oper.wp Tryz.prog oo a w K Q else E := by
  rcases hX with ⟨rfl, ax, c, rfl⟩ | ⟨g2, cp2, rfl, hO2⟩
  · have hw : Region.wanted oo (yielded ops a.tmps) = true := by simp [Region.wanted, hgd]
    rw [if_pos hw]
    obtain ⟨i, hi, hz0, hz1, hz2⟩ := info_parts Tryz.infoRun
    have hle : n ≤ cp := by
      subst hn
      exact (OwnRow.caps hO).1
    have hsrc : Src Tryz.prog i.size 54 (.slice ax 0 c) 0 [] w := by
      cases ax with
      | none => exact Src.ofNil (w := w) Tryz.underlying54 c
      | some aa => exact Src.ofSlice (w := w) Tryz.underlying54 aa 0 c [] (by simp) (by intro j u hu; simp at hu) (by intro u hu; simp at hu)
    have hr := run_append_nothing (P := Tryz.prog) w 54 54 oo.type 58 i Tryz.underlying54 hi (some ⟨g, 0, none⟩) n cp hle (.slice ax 0 c) hsrc
    have hfin := h (.slice (some ⟨g, 0, none⟩) n cp) w ⟨by simpa using hO, ⟨rfl, rfl, rfl, Nat.le_refl _, fun _ _ _ => rfl⟩, by simp, .inl rfl⟩
    unfold Oper.wp
    simp [execOp, ho, resolve, invoke, builtin, hs, hx, hr, Result.andThen]
    exact hfin
  · refine step_append_runO w hgd s x ho base (.slice (some ⟨g, 0, none⟩) n cp) us g2 0 rs.length cp2 (rs.map Rw.u) hs hx (by rw [List.length_map]) hO (fun j u hu => ?_) (fun u hu => ?_) (by rw [List.length_map]; exact hlen) hbase h
    · have hl := (List.getElem?_eq_some_iff.1 hu).1
      rw [List.length_map] at hl
      have := World.ownsRow.cellAt hO2 j (by omega)
      rw [hu] at this
      rw [Nat.zero_add]
      exact this
    · obtain ⟨r, hr, rfl⟩ := List.mem_map.1 hu
      rcases hk r hr with ⟨_, _, a, c, q⟩ | ⟨g, cp, _, q, _⟩ <;> rw [q] <;> rfl
theorem OwnP.setRuns {w : World} {base g cap : Nat} {xs : List Pr} (h : OwnP w base g cap xs) {i : Nat} {p : Pr} (hp : xs[i]? = some p) (v : Value) : OwnP (w.setCell ⟨g, i * 2 + 1, none⟩ v) base g cap (xs.set i (p.1, v)) :=
  h.set i 1 p (p.1, v) v hp (by omega) rfl
/-- The runs of one tablet replaced. -/
theorem OwnSt.setRuns {w : World} {base : Nat} {g cp : Nat} {ys : List Tx} (h : OwnSt w base (.slice (some ⟨g, 0, none⟩) ys.length cp) ys) {i : Nat} {t : Tx} (ht : ys[i]? = some t) {v : Value} {rs : List Rw} (hv : OwnRow w base v rs) (hk : ∀ r ∈ rs, OwnK w base r) : OwnSt (w.setCell ⟨g, i * 2 + 1, none⟩ v) base (.slice (some ⟨g, 0, none⟩) ys.length cp) (ys.set i ⟨t.lo, v, rs⟩) := by
  obtain ⟨hO⟩ : Nonempty (OwnP w base g cp (ys.map Tx.pr)) := by
    rcases h.row with ⟨q, _⟩ | ⟨g', cp', q, hO⟩
    · rw [q] at ht; simp at ht
    · cases q; exact ⟨hO⟩
  have hcg : Chg (fun k => k = g) w (w.setCell ⟨g, i * 2 + 1, none⟩ v) := Chg.of_set _ _ _ _ rfl
  have hgr := grown_set w g (i * 2 + 1) v
  have hts : OwnTs (w.setCell ⟨g, i * 2 + 1, none⟩ v) base ys := OwnTs.grown ⟨h.runs, h.ents⟩ hO hgr
  have hnew : OwnTs (w.setCell ⟨g, i * 2 + 1, none⟩ v) base [⟨t.lo, v, rs⟩] := OwnTs.grown ⟨fun x hx => by simp at hx; subst hx; exact hv, fun x hx => by simp at hx; subst hx; exact hk⟩ hO hgr
  refine ⟨.inr ⟨g, cp, by rw [List.length_set], ?_⟩, fun x hx => ?_, fun x hx => ?_⟩
  · rw [List.map_set]
    exact hO.setRuns (p := t.pr) (by rw [List.getElem?_map, ht]; rfl) v
  · rcases List.mem_or_eq_of_mem_set hx with q | q
    · exact hts.runs x q
    · exact hnew.runs x (by rw [q]; simp)
  · rcases List.mem_or_eq_of_mem_set hx with q | q
    · exact hts.ents x q
    · exact hnew.ents x (by rw [q]; simp)
end Go.Proofs.YtlgeffinhbodeafGreat

/-
  spec.l7Runs: the parts of runs whose rows are in a range, without the empty ones.
-/
namespace Go.Proofs.YtlgeffinhbodeafGreat
open Go.ChangeShapes Go.WideShapes Go.ChangeAt Go.RowKit Go.Deep
set_option linter.unusedVariables false
set_option linter.unusedSimpArgs false
set_option maxRecDepth 100000

def keepP (lo : ByteArray) (hh : Bool) (hi : ByteArray) (ess : List (List Ent)) : List (List Ent) := (ess.map (inP lo hh hi)).filter fun e => decide (0 < e.length)
theorem keepP_yes {lo hi : ByteArray} {hh : Bool} {l : List Rm} {k : Nat} {r : Rm} (h : l[k]? = some r) (hx : 0 < (inP lo hh hi r.es).length) : keepP lo hh hi (esM (l.take (k + 1))) = keepP lo hh hi (esM (l.take k)) ++ [inP lo hh hi r.es] := by
  unfold keepP esM
  rw [List.take_add_one, h, List.map_append, List.map_append, List.filter_append]
  simp [hx]
theorem keepP_no {lo hi : ByteArray} {hh : Bool} {l : List Rm} {k : Nat} {r : Rm} (h : l[k]? = some r) (hx : ¬ 0 < (inP lo hh hi r.es).length) : keepP lo hh hi (esM (l.take (k + 1))) = keepP lo hh hi (esM (l.take k)) := by
  unfold keepP esM
  rw [List.take_add_one, h, List.map_append, List.map_append, List.filter_append]
  have : decide (0 < (inP lo hh hi r.es).length) = false := decide_eq_false hx
  simp only [Option.toList_some, List.map_cons, List.map_nil, List.filter_cons, this, List.filter_nil]
  simp
theorem keepP_len (lo hi : ByteArray) (hh : Bool) (l : List Rm) (k : Nat) : (keepP lo hh hi (esM (l.take k))).length ≤ l.length := by
  unfold keepP esM
  have h1 := List.length_filter_le (fun e : List Ent => decide (0 < e.length)) (((l.take k).map Rm.es).map (inP lo hh hi))
  rw [List.length_map, List.length_map, List.length_take] at h1
  omega
def SpRPost (w : World) (ess : List (List Ent)) (e : Ending) (w' : World) : Prop := ∃ g cp rs, e = .returned (.slice (some ⟨g, 0, none⟩) rs.length cp) ∧ CopyO w' w.heap.size (.slice (some ⟨g, 0, none⟩) rs.length cp) rs ess ∧ Below w.heap.size w w'
theorem CopyO.snoc {w w2 w3 : World} {base : Nat} {v v' : Value} {rs : List Rw} {ess : List (List Ent)} {g' cp' : Nat} {es : List Ent} (h : CopyO w base v rs ess) (hb : Below w.heap.size w w2) (hO : OwnE w2 base g' cp' es)
    (hA : AppR w2 w3 base v v' (rs.map Rw.u) [.slice (some ⟨g', 0, none⟩) es.length cp']) : CopyO w3 base v' (rs ++ [⟨.slice (some ⟨g', 0, none⟩) es.length cp', es, some g'⟩]) (ess ++ [es]) := by
  have h2 := h.below hb
  have hkk : ∀ x : Rw, OwnK w2 base x → OwnK w3 base x := fun x hx => by
    refine hx.kept hA.grown (fun k' hk' q => ?_)
    rcases hx with ⟨h0, _⟩ | ⟨g2, cp2, h1, _, hE⟩
    · rw [h0] at hk'; cases hk'
    · rw [h1] at hk'
      have e3 : g2 = k' := Option.some.inj hk'
      subst e3
      exact own_apart h2.row hE (by decide) _ q rfl
  refine ⟨by rw [List.map_append]; exact hA.row, fun r hr => ?_, by rw [List.map_append, h.same]; rfl⟩
  rcases List.mem_append.1 hr with q | q
  · exact hkk r (h2.ents r q)
  · simp at q
    subst q
    exact hkk _ (.inr ⟨g', cp', rfl, rfl, hO⟩)

end Go.Proofs.YtlgeffinhbodeafGreat

/-
  spec.WriteStore.
-/
namespace Go.Proofs.YtlgeffinhbodeafGreat
open Go.ChangeShapes Go.WideShapes Go.ChangeAt Go.RowKit Go.Deep
set_option linter.unusedVariables false
set_option linter.unusedSimpArgs false
set_option maxRecDepth 100000

/-- What WriteStore of spec hands back. -/
def WrSPost (w : World) (tb : List Tb) (ws : List Ent) (e : Ending) (w' : World) : Prop := ∃ out, WrT tb ws out ∧ CpSPost w out e w'
/-- The store that is written, up to a tablet. -/
structure WI (Wa : World) (ts : List Tm) (ws : List Ent) (OB g cp k : Nat) (ys : List Tx) (wr : World) : Prop where
  len : ys.length = ts.length
  st : OwnSt wr Wa.heap.size (.slice (some ⟨g, 0, none⟩) ts.length cp) ys
  tabs : ∀ j a o, (tbs ts)[j]? = some a → (ys.map Tx.tb)[j]? = some o → (j < k → TabW (partI (tbs ts) j a ws) a o) ∧ (k ≤ j → o = a)
  full : ∀ j a, j < k → (tbs ts)[j]? = some a → 0 < (partI (tbs ts) j a ws).length → a.rs.length ≠ 50
  box : wr.cell? ⟨OB, 0, none⟩ = some (.slice (some ⟨g, 0, none⟩) ts.length cp)
  below : Below Wa.heap.size Wa wr
  ob : OB < wr.heap.size ∧ Wa.heap.size ≤ OB ∧ g ≠ OB ∧ Wa.heap.size ≤ g ∧ g < wr.heap.size
theorem WI.call {Wa : World} {ts : List Tm} {ws : List Ent} {OB g cp k : Nat} {ys : List Tx} {wr w' : World} (h : WI Wa ts ws OB g cp k ys wr) (hb : Below wr.heap.size wr w') : WI Wa ts ws OB g cp k ys w' := by
  have s := hb.size
  have o := h.ob
  exact ⟨h.len, h.st.below hb, h.tabs, h.full, by rw [hb.cell (p := ⟨OB, 0, none⟩) (by exact o.1)]; exact h.box, h.below.trans (hb.mono h.below.size), by omega⟩
theorem WI.idle {Wa : World} {ts : List Tm} {ws : List Ent} {OB g cp k : Nat} {ys : List Tx} {wr : World} (h : WI Wa ts ws OB g cp k ys wr) (hp : ∀ a, (tbs ts)[k]? = some a → (partI (tbs ts) k a ws).length = 0) : WI Wa ts ws OB g cp (k + 1) ys wr := by
  refine ⟨h.len, h.st, fun j a o ha ho => ⟨fun hj => ?_, fun hj => (h.tabs j a o ha ho).2 (by omega)⟩, fun j a hj ha => ?_, h.box, h.below, h.ob⟩
  · by_cases e : j = k
    · subst e
      exact .inl ⟨hp a ha, (h.tabs j a o ha ho).2 (Nat.le_refl _)⟩
    · exact (h.tabs j a o ha ho).1 (by omega)
  · by_cases e : j = k
    · subst e
      have := hp a ha
      omega
    · exact h.full j a (by omega) ha
theorem WI.more {Wa : World} {ts : List Tm} {ws : List Ent} {OB g cp k : Nat} {ys : List Tx} {wr : World} (h : WI Wa ts ws OB g cp k ys wr) {t : Tx} {a : Tb} (ht : ys[k]? = some t) (ha : (tbs ts)[k]? = some a) (hp : 0 < (partI (tbs ts) k a ws).length) (hf : a.rs.length ≠ 50) {R : List Ent} (hK : Kept (partI (tbs ts) k a ws) (partI (tbs ts) k a ws).length R) {v : Value} {rs : List Rw} (hv : OwnRow wr Wa.heap.size v rs) (hk : ∀ r ∈ rs, OwnK wr Wa.heap.size r) (he : rs.map Rw.es = R :: t.rs.map Rw.es) :
    WI Wa ts ws OB g cp (k + 1) (ys.set k ⟨t.lo, v, rs⟩) (wr.setCell ⟨g, k * 2 + 1, none⟩ v) := by
  have o := h.ob
  have hst := h.st
  rw [← h.len] at hst
  have hta : t.tb = a := (h.tabs k a t.tb ha (by rw [List.getElem?_map, ht]; rfl)).2 (Nat.le_refl _)
  refine ⟨by rw [List.length_set]; exact h.len, ?_, fun j x y hx hy => ?_, fun j x hj hx => ?_, ?_, h.below.setCell o.2.2.2.1 _, by simpa using o⟩
  · have := hst.setRuns ht hv hk
    rw [h.len] at this
    exact this
  · rw [List.map_set, List.getElem?_set] at hy
    by_cases e : k = j
    · subst e
      rw [ha] at hx
      cases hx
      have hkl : k < (ys.map Tx.tb).length := by rw [List.length_map]; exact (List.getElem?_eq_some_iff.1 ht).1
      rw [if_pos rfl, if_pos hkl] at hy
      obtain rfl := Option.some.inj hy
      refine ⟨fun _ => .inr ⟨hp, R, hK, ?_⟩, fun q => by omega⟩
      rw [← hta]
      simp only [Tx.tb, he]
    · rw [if_neg e] at hy
      exact ⟨fun q => (h.tabs j x y hx hy).1 (by omega), fun q => (h.tabs j x y hx hy).2 (by omega)⟩
  · by_cases e : j = k
    · subst e
      rw [ha] at hx
      cases hx
      exact fun _ => hf
    · exact h.full j x (by omega) hx
  · rw [World.cell?_setCell_far _ _ _ _ (by exact o.2.2.1)]; exact h.box
theorem WI.done {Wa : World} {ts : List Tm} {ws : List Ent} {OB g cp : Nat} {ys : List Tx} {wr : World} (h : WI Wa ts ws OB g cp ts.length ys wr) (hg : GoodS (tbs ts)) (hw : GoodW ws) : WrT (tbs ts) ws (ys.map Tx.tb) := by
  refine .inr ⟨hg, hw, .inr ⟨?_, by rw [List.length_map, tbs_len]; exact h.len, fun i a o ha ho => (h.tabs i a o ha ho).1 (by have := (List.getElem?_eq_some_iff.1 ha).1; rw [tbs_len] at this; exact this)⟩⟩
  rintro ⟨i, a, ha, hp, h50⟩
  exact h.full i a (by have := (List.getElem?_eq_some_iff.1 ha).1; rw [tbs_len] at this; exact this) ha hp h50
theorem goodW_part {ts : List Tb} {i : Nat} {a : Tb} {ws : List Ent} (h : GoodW ws) : GoodW (partI ts i a ws) :=
  ⟨Nat.le_trans (List.length_filter_le _ _) h.1, fun e he => h.2 e (List.mem_filter.1 he).1⟩

set_option maxHeartbeats 8000000 in
theorem specWrite_store (b off cap : Nat) (ts : List Tm) (r : Rm) (w : World) (h : TmsAt w b off ts) (hok : okTs ts) (hB : b < w.heap.size) (hn : ts.length ≤ 1048576) (hs : ∀ t ∈ ts, t.l.length ≤ 1048576 ∧ totM t.l ≤ 1048576) (hr : r.at w) (hrok : ∀ e ∈ r.es, e.ok) (hrl : r.es.length ≤ 1048576) :
    Calls Tryz.prog 7 #[.agg #[.slice (some ⟨b, off, none⟩) ts.length cap], .slice (some ⟨r.b, r.off, none⟩) r.es.length r.cap] w fun e w' => WrSPost w (tbs ts) r.es e w' := by
  obtain ⟨Wa, hWa⟩ : ∃ Wa : World, Wa = (w.alloc (Obj.cells #[.slice (some ⟨b, off, none⟩) ts.length cap] 30)).alloc (Obj.cells #[.slice none 0 0] 30) := ⟨_, rfl⟩
  have hba : Below w.heap.size w Wa := by rw [hWa]; exact ((Below.refl _ _).alloc (Nat.le_refl _) _).alloc (by simp) _
  have hza : Wa.heap.size = w.heap.size + 1 + 1 := by rw [hWa]; simp
  have HWa : Hid (∀ wx, Below Wa.heap.size Wa wx → wx.cell? ⟨w.heap.size, 0, none⟩ = some (.slice (some ⟨b, off, none⟩) ts.length cap) ∧ wx.cell? ⟨w.heap.size + 1, 0, none⟩ = some (.slice none 0 0) ∧ wx.frozen? ⟨w.heap.size + 1, 0, none⟩ = false ∧ TmsAt wx b off ts ∧ b < wx.heap.size) := by
    intro wx hx
    have sx := hx.size
    refine ⟨?_, ?_, ?_, (h.below hba hB).below hx (by omega), by omega⟩
    · rw [hx.cell (p := ⟨w.heap.size, 0, none⟩) (by show w.heap.size < Wa.heap.size; omega), hWa]; simp [go_sem]
    · rw [hx.cell (p := ⟨w.heap.size + 1, 0, none⟩) (by show w.heap.size + 1 < Wa.heap.size; omega), hWa]; simp [go_sem]
    · rw [hx.frozen (p := ⟨w.heap.size + 1, 0, none⟩) (by show w.heap.size + 1 < Wa.heap.size; omega), hWa]; simp [go_sem]
  have HRa : Hid ((∀ wx, Below Wa.heap.size Wa wx → r.at wx) ∧ (∀ e ∈ r.es, e.ok)) := ⟨fun wx hx => (hr.below hba).below hx, hrok⟩
  have HS : Hid (okTs ts ∧ ∀ t ∈ ts, t.l.length ≤ 1048576 ∧ totM t.l ≤ 1048576) := ⟨hok, hs⟩
  -- a copy of the store as it came
  have HCp : Hid (∀ W, Below Wa.heap.size Wa W → Calls Tryz.prog 20 #[.agg #[.slice (some ⟨b, off, none⟩) ts.length cap]] W fun e w' => ∃ (va : Option Addr) (vn vc : Nat), e = .returned (.agg #[.slice va vn vc]) ∧ w'.cell? ⟨w.heap.size + 1, 0, none⟩ = some (.slice none 0 0) ∧ w'.frozen? ⟨w.heap.size + 1, 0, none⟩ = false ∧ Hid (CpSPost w (tbs ts) (.returned (.agg #[.slice va vn vc])) (w'.setCell ⟨w.heap.size + 1, 0, none⟩ (.slice va vn vc)))) := by
    intro W hW
    obtain ⟨_, _, _, hT, hb'⟩ := HWa.out W hW
    have sW := hW.size
    refine (specCopy_core b off cap ts W hT hb' hn HS.out.2).mono ?_
    rintro e w3 ⟨v, xs, rfl, hS, hx, hb3⟩
    have hb3' : Below Wa.heap.size Wa w3 := hW.trans (hb3.mono sW)
    obtain ⟨_, q1, q2, _⟩ := HWa.out w3 hb3'
    obtain ⟨va, vn, vc, rfl, hc⟩ := st_in (w := w) (R := w.heap.size + 1) (by omega) (by omega) hS (hba.trans (hb3'.mono (by omega)))
    rw [hx] at hc
    exact ⟨va, vn, vc, rfl, q1, q2, hc⟩
  clear h hok hs hr hrok
  obtain ⟨c0, _, _, hT0, hB0⟩ := HWa.out Wa (Below.refl _ _)
  have HT0 : Hid (TmsAt Wa b off ts) := hT0
  clear hT0
  go_enter Tryz.func7, Tryz.ntmps7
  go_upto_region 1 with fail
  rw [← hWa]
  clear hWa
  go_wp2_with fail
  refine (specCopy_core b off cap ts _ HT0.out hB0 hn HS.out.2).mono ?_
  rintro e w1 ⟨v, xs, rfl, hSt, hxt, hb1⟩
  obtain ⟨va, vn, vc, rfl⟩ : ∃ va vn vc, v = .slice va vn vc := by
    rcases hSt.row with ⟨_, a, c, q⟩ | ⟨g, cp, q, _⟩ <;> exact ⟨_, _, _, q⟩
  have s1 := hb1.size
  obtain ⟨OB, hOB⟩ : ∃ OB, OB = w1.heap.size := ⟨_, rfl⟩
  obtain ⟨W1, hW1⟩ : ∃ W1 : World, W1 = w1.alloc (Obj.cells #[.slice va vn vc] 30) := ⟨_, rfl⟩
  have hbW1 : Below w1.heap.size w1 W1 := by rw [hW1]; exact (Below.refl _ _).alloc (Nat.le_refl _) _
  have hzW1 : W1.heap.size = w1.heap.size + 1 := by rw [hW1]; simp
  have k1 : Below Wa.heap.size Wa W1 := hb1.trans (hbW1.mono s1)
  have HX : Hid (∀ wx, Below W1.heap.size W1 wx → wx.cell? ⟨OB, 0, none⟩ = some (.slice va vn vc) ∧ OwnSt wx Wa.heap.size (.slice va vn vc) xs ∧ Below Wa.heap.size Wa wx ∧ OB < wx.heap.size) := by
    intro wx hx
    have sx := hx.size
    refine ⟨?_, (hSt.below hbW1).below hx, k1.trans (hx.mono k1.size), by omega⟩
    rw [hx.cell (p := ⟨OB, 0, none⟩) (by show OB < W1.heap.size; omega), hOB, hW1]; simp
  have HXt : Hid (xs.map Tx.tb = tbs ts ∧ Wa.heap.size ≤ OB) := ⟨hxt, by omega⟩
  have hgo : Hid (∀ g : Nat, va = some ⟨g, 0, none⟩ → OwnTRow w1 Wa.heap.size (.slice va vn vc) xs → xs ≠ [] → Wa.heap.size ≤ g ∧ g < OB) := by
    intro g hg hrow hne
    rcases hrow with ⟨q, _⟩ | ⟨g', cp', q, hO⟩
    · exact absurd q hne
    · cases q; cases hg; have := hO.lt; omega
  have HR1 : Hid (OwnTRow w1 Wa.heap.size (.slice va vn vc) xs) := hSt.row
  have HRt : Hid (∀ wx, Below W1.heap.size W1 wx → CpSPost w (tbs ts) (.returned (.agg #[.slice va vn vc])) (wx.setCell ⟨w.heap.size + 1, 0, none⟩ (.slice va vn vc))) := by
    intro wx hx
    obtain ⟨_, hS, hb, _⟩ := HX.out wx hx
    obtain ⟨a1, a2, a3, q, hc⟩ := st_in (w := w) (R := w.heap.size + 1) (by omega) (by omega) hS (hba.trans (hb.mono (by omega)))
    cases q
    rw [HXt.out.1] at hc
    exact hc
  go_upto_region 2 with fail
  rw [← hW1, ← hOB]
  clear hW1 hSt hxt hbW1 hzW1 c0 hOB hb1
  obtain ⟨c0, _, _, hT1, hB1⟩ := HWa.out W1 k1
  have HT1 : Hid (TmsAt W1 b off ts) := hT1
  clear hT1
  go_wp2_with fail
  refine (specValidStore_core b off cap ts _ HT1.out HS.out.1 hB1 hn).mono ?_
  rintro e w2 ⟨r1, rfl, hr1, hb2⟩
  have HR : Hid (r1 = true ↔ GoodS (tbs ts)) := hr1
  clear hr1 c0
  obtain ⟨x0, _, k2, x3⟩ := HX.out w2 hb2
  obtain ⟨c0, q1, q2, _, _⟩ := HWa.out w2 k2
  cases r1
  case false =>
    have H : Hid (WrT (tbs ts) r.es (tbs ts)) := .inl ⟨fun q => Bool.noConfusion (HR.out.2 q.1), rfl⟩
    have hc := HRt.out w2 hb2
    have HC : Hid (CpSPost w (tbs ts) (.returned (.agg #[.slice va vn vc])) (w2.setCell ⟨w.heap.size + 1, 0, none⟩ (.slice va vn vc))) := hc
    clear hc
    go_wp2_with fail
    exact bodyPost_ret (v := .agg #[.slice va vn vc]) (by simp [results, Tryz.results7, go_sem, q1]) rfl ⟨_, H.out, HC.out⟩
  case true =>
  have HG : Hid (GoodS (tbs ts)) := HR.out.1 rfl
  have hra := HRa.out.1 w2 k2
  have HRa2 : Hid (r.at w2) := hra
  clear hra
  go_wp2_with fail
  refine (goodWrites_core r.b r.off r.cap r.es _ HRa2.out.ents HRa.out.2 HRa2.out.lt hrl).mono ?_
  rintro e w3 ⟨r2, rfl, hr2, hb3⟩
  have HRw : Hid (r2 = true ↔ GoodW r.es) := hr2
  have hb13 : Below W1.heap.size W1 w3 := hb2.trans (hb3.mono hb2.size)
  clear hr2 c0 q1 q2 x0 x3
  obtain ⟨x0, hS3, k3, x3⟩ := HX.out w3 hb13
  have HS3 : Hid (OwnSt w3 Wa.heap.size (.slice va vn vc) xs) := hS3
  clear hS3
  obtain ⟨c0, q1, q2, _, _⟩ := HWa.out w3 k3
  cases r2
  case false =>
    have H : Hid (WrT (tbs ts) r.es (tbs ts)) := .inl ⟨fun q => Bool.noConfusion (HRw.out.2 q.2), rfl⟩
    have hc := HRt.out w3 hb13
    have HC : Hid (CpSPost w (tbs ts) (.returned (.agg #[.slice va vn vc])) (w3.setCell ⟨w.heap.size + 1, 0, none⟩ (.slice va vn vc))) := hc
    clear hc
    go_wp2_with fail
    exact bodyPost_ret (v := .agg #[.slice va vn vc]) (by simp [results, Tryz.results7, go_sem, q1]) rfl ⟨_, H.out, HC.out⟩
  case true =>
  have HW : Hid (GoodW r.es) := HRw.out.1 rfl
  have hn100 : ts.length ≤ 100 := by have := HG.out.le; rw [tbs_len] at this; exact this
  have hxl : xs.length = ts.length := by have := congrArg List.length HXt.out.1; rw [List.length_map, tbs_len] at this; exact this
  have hxne : xs ≠ [] := fun q => by have := HG.out.ne; rw [tbs_len, ← hxl, q] at this; simp at this
  obtain ⟨g, rfl, rfl⟩ : ∃ g, va = some ⟨g, 0, none⟩ ∧ vn = ts.length := by
    rcases HS3.out.row with ⟨q, _⟩ | ⟨g, cp, q, _⟩
    · exact absurd q hxne
    · cases q; exact ⟨g, rfl, hxl⟩
  have hg1 := hgo.out g rfl HR1.out hxne
  have HI0 : Hid (WI Wa ts r.es OB g vc 0 xs w3) := ⟨hxl, HS3.out, fun j a o ha ho => ⟨fun q => by omega, fun _ => by rw [HXt.out.1, ha] at ho; exact (Option.some.inj ho).symm⟩, fun j a q => by omega, x0, k3, by have := HXt.out.2; omega⟩
  clear hxl hxne hgo HR1 hg1 HRt HS3 x0 x3 q1 q2 c0 HX HXt k1 k2 hb2 hb3 hb13
  go_wp2_with fail
  go_loopw [6] (fun i wr => ∃ (k : Nat) (ys : List Tx), k ≤ ts.length ∧ i = .int .i64 k ∧ Hid (WI Wa ts r.es OB g vc k ys wr)) (fun i _ => ts.length - (intOf i).toNat)
  case atStart => exact ⟨0, xs, Nat.zero_le _, rfl, HI0⟩
  case round =>
    obtain ⟨k, ys, hk, rfl, HI⟩ := hrel
    have x0 := HI.out.box
    obtain ⟨c0, q1, q2, hT, hBw⟩ := HWa.out wr HI.out.below
    have HT : Hid (TmsAt wr b off ts) := hT
    clear hT
    by_cases hlt : k < ts.length
    · obtain ⟨t, ht⟩ : ∃ t, ts[k]? = some t := ⟨_, List.getElem?_eq_getElem hlt⟩
      have HTN : Hid (ts[k]? = some t ∧ (tbs ts)[k]? = some t.tb) := ⟨ht, by rw [tbs_get, ht]; rfl⟩
      clear ht
      have zk : (k : Int) < (ts.length : Int) := by omega
      go_wp2_with fail
      refine (specRange_core b off cap ts k t wr HT.out hBw HTN.out.1 hn).mono ?_
      rintro e u1 ⟨rfl, hbu1⟩
      have HI1 : Hid (WI Wa ts r.es OB g vc k ys u1) := HI.out.call hbu1
      have hra := HRa.out.1 u1 HI1.out.below
      have HRu : Hid (r.at u1) := hra
      clear hra
      go_wp2_with fail
      refine (specPart_core r t.lo (hiN (tbs ts) k) (hasN (tbs ts) k) u1 HRu.out hrl).mono ?_
      rintro e u2 ⟨g1, cp1, rfl, hO1, hbu2⟩
      have HI2 : Hid (WI Wa ts r.es OB g vc k ys u2) := HI1.out.call hbu2
      obtain ⟨fs, hfs⟩ : ∃ fs, fs = inP t.lo (hasN (tbs ts) k) (hiN (tbs ts) k) r.es := ⟨_, rfl⟩
      have HO1 : Hid (OwnE u2 u1.heap.size g1 cp1 fs ∧ fs = partI (tbs ts) k t.tb r.es) := ⟨by rw [hfs]; exact hO1, hfs⟩
      have hfl : fs.length ≤ 1048576 := by rw [hfs]; exact Nat.le_trans (List.length_filter_le ..) hrl
      rw [← hfs]
      clear hO1 hfs hbu1 x0 c0 q1 q2
      have x0 := HI2.out.box
      obtain ⟨c0, q1, q2, hT2, hBw2⟩ := HWa.out u2 HI2.out.below
      obtain ⟨e0, e1, _⟩ := hT2 k t HTN.out.1
      clear hT2
      by_cases hp : 0 < fs.length
      · have zp : (0 : Int) < (fs.length : Int) := by omega
        by_cases h50 : t.l.length = 50
        · have z50 : ((t.l.length : Int) == 50) = true := by rw [beq_iff_eq]; omega
          have H : Hid (WrT (tbs ts) r.es (tbs ts)) := .inr ⟨HG.out, HW.out, .inl ⟨⟨k, t.tb, HTN.out.2, by rw [← HO1.out.2]; exact hp, by show (esM t.l).length = 50; rw [List.length_map]; exact h50⟩, rfl⟩⟩
          clear h50
          go_wp2_with fail
          refine (HCp.out _ HI2.out.below).mono ?_
          rintro e w9 ⟨va, vn, vc', rfl, q1', q2', hc⟩
          go_wp2_with fail
          exact bodyPost_ret (v := .agg #[.slice va vn vc']) (by simp [results, Tryz.results7, go_sem, q1']) rfl ⟨_, H.out, hc.out⟩
        have z50 : ((t.l.length : Int) == 50) = false := by rw [beq_eq_false_iff_ne]; omega
        have HF : Hid (t.tb.rs.length ≠ 50) := by show (esM t.l).length ≠ 50; rw [List.length_map]; exact h50
        have z50n : ¬ (t.l.length : Int) = 50 := by omega
        clear h50
        obtain ⟨tk, htk⟩ : ∃ tk, ys[k]? = some tk := ⟨_, List.getElem?_eq_getElem (by have := HI2.out.len; omega)⟩
        obtain ⟨ta, tn, tc, htv⟩ : ∃ ta tn tc, tk.v = .slice ta tn tc := by
          rcases HI2.out.st.runs tk (List.mem_of_getElem? htk) with ⟨_, a, c, q⟩ | ⟨g', cp', q, _⟩ <;> exact ⟨_, _, _, q⟩
        have HTk : Hid (ys[k]? = some tk ∧ tk.v = .slice ta tn tc ∧ tk.rs.length ≤ 1048576) := by
          refine ⟨htk, htv, ?_⟩
          have h1 := (HI2.out.tabs k t.tb tk.tb HTN.out.2 (by rw [List.getElem?_map, htk]; rfl)).2 (Nat.le_refl _)
          have h2 : tk.tb.rs.length = tk.rs.length := by simp [Tx.tb]
          have h3 : t.tb.rs.length = t.l.length := by show (esM t.l).length = _; rw [List.length_map]
          have h4 := (HS.out.2 t (List.mem_of_getElem? HTN.out.1)).1
          rw [h1] at h2
          omega
        have HK : Hid (∀ wx, Below u2.heap.size u2 wx → wx.cell? ⟨OB, 0, none⟩ = some (.slice (some ⟨g, 0, none⟩) ts.length vc) ∧ wx.cell? ⟨g, k * 2 + 1, none⟩ = some (.slice ta tn tc) ∧ wx.frozen? ⟨g, k * 2 + 1, none⟩ = false) := by
          intro wx hx
          have hw := HI2.out.call hx
          rcases hw.st.row with ⟨q, _⟩ | ⟨g', cp', q, hO⟩
          · rw [q] at htk; simp at htk
          · simp only [Value.slice.injEq, Option.some.injEq, Addr.mk.injEq, and_true] at q
            obtain ⟨rfl, _, rfl⟩ := q
            refine ⟨hw.box, ?_, World.ownsRow.frozenAt hO _⟩
            have := (hO.cells (i := k) (p := tk.pr) (by rw [List.getElem?_map, htk]; rfl)).2
            rw [this]
            show some tk.v = _
            rw [htv]
        clear htk htv
        go_upto_region 11 with fail
        have hS : (fun w' : World => w'.cell? ⟨OB, 0, none⟩ = some (.slice (some ⟨g, 0, none⟩) ts.length vc) ∧ w'.cell? ⟨g, k * 2 + 1, none⟩ = some (.slice ta tn tc)) u2.drew := by
          obtain ⟨a1, a2, _⟩ := HK.out u2.drew ((Below.refl _ _).drew)
          exact ⟨a1, a2⟩
        refine wp_region_T 15 (fun w' : World => w'.cell? ⟨OB, 0, none⟩ = some (.slice (some ⟨g, 0, none⟩) ts.length vc) ∧ w'.cell? ⟨g, k * 2 + 1, none⟩ = some (.slice ta tn tc)) (by kernel_rfl) ?_
        refine anyT_take (i := 0) (v := ?vwa0) rfl (by kernel_rfl) (by kernel_rfl) (by kernel_rfl) (by kernel_rfl) (by decide) (fun _ _ _ h => h) (Or.inl ⟨by rfl, ?ywa0⟩) hS ?_
        case ywa0 => (intro wz hSw; (try dsimp only at hSw); go_simp; (try with_reducible rfl))
        try simp only [Act.put, List.setIfInBounds_toArray, List.set_cons_zero, List.set_cons_succ]
        refine anyT_take (i := 1) (v := ?vwa1) rfl (by kernel_rfl) (by kernel_rfl) (by kernel_rfl) (by kernel_rfl) (by decide) (fun _ _ _ h => h) (Or.inl ⟨by rfl, ?ywa1⟩) hS ?_
        case ywa1 => (intro wz hSw; (try dsimp only at hSw); go_simp; (try with_reducible rfl))
        try simp only [Act.put, List.setIfInBounds_toArray, List.set_cons_zero, List.set_cons_succ]
        refine anyT_take (i := 2) (v := ?vwa2) rfl (by kernel_rfl) (by kernel_rfl) (by kernel_rfl) (by kernel_rfl) (by decide) (fun _ _ _ h => h) (Or.inl ⟨by rfl, ?ywa2⟩) hS ?_
        case ywa2 => (intro wz hSw; (try dsimp only at hSw); go_simp; (try with_reducible rfl))
        try simp only [Act.put, List.setIfInBounds_toArray, List.set_cons_zero, List.set_cons_succ]
        refine anyT_take (i := 3) (v := ?vwa3) rfl (by kernel_rfl) (by kernel_rfl) (by kernel_rfl) (by kernel_rfl) (by decide) (fun _ _ _ h => h) (Or.inl ⟨by rfl, ?ywa3⟩) hS ?_
        case ywa3 => (intro wz hSw; (try dsimp only at hSw); go_simp; (try with_reducible rfl))
        try simp only [Act.put, List.setIfInBounds_toArray, List.set_cons_zero, List.set_cons_succ]
        refine anyT_take (i := 6) (v := ?vwa6) rfl (by kernel_rfl) (by kernel_rfl) (by kernel_rfl) (by kernel_rfl) (by decide) (fun _ _ _ h => h) (Or.inl ⟨by rfl, ?ywa6⟩) hS ?_
        case ywa6 => (intro wz hSw; (try dsimp only at hSw); go_simp; (try with_reducible rfl))
        try simp only [Act.put, List.setIfInBounds_toArray, List.set_cons_zero, List.set_cons_succ]
        refine anyT_take (i := 7) (v := ?vwa7) rfl (by kernel_rfl) (by kernel_rfl) (by kernel_rfl) (by kernel_rfl) (by decide) (fun _ _ _ h => h) (Or.inl ⟨by rfl, ?ywa7⟩) hS ?_
        case ywa7 => (intro wz hSw; (try dsimp only at hSw); go_simp; (try with_reducible rfl))
        try simp only [Act.put, List.setIfInBounds_toArray, List.set_cons_zero, List.set_cons_succ]
        refine anyT_take (i := 8) (v := ?vwa8) rfl (by kernel_rfl) (by kernel_rfl) (by kernel_rfl) (by kernel_rfl) (by decide) (fun _ _ _ h => h) (Or.inl ⟨by rfl, ?ywa8⟩) hS ?_
        case ywa8 => (intro wz hSw; (try dsimp only at hSw); go_simp; (try with_reducible rfl))
        try simp only [Act.put, List.setIfInBounds_toArray, List.set_cons_zero, List.set_cons_succ]
        refine anyT_take (i := 9) (v := ?vwa9) rfl (by kernel_rfl) (by kernel_rfl) (by kernel_rfl) (by kernel_rfl) (by decide) (fun _ _ _ h => h) (Or.inl ⟨by rfl, ?ywa9⟩) hS ?_
        case ywa9 => (intro wz hSw; (try dsimp only at hSw); go_simp; (try with_reducible rfl))
        try simp only [Act.put, List.setIfInBounds_toArray, List.set_cons_zero, List.set_cons_succ]
        refine anyT_take (i := 10) (v := ?vwa10) rfl (by kernel_rfl) (by kernel_rfl) (by kernel_rfl) (by kernel_rfl) (by decide) (fun _ _ _ h => h) (Or.inl ⟨by rfl, ?ywa10⟩) hS ?_
        case ywa10 => (intro wz hSw; (try dsimp only at hSw); go_simp; (try with_reducible rfl))
        try simp only [Act.put, List.setIfInBounds_toArray, List.set_cons_zero, List.set_cons_succ]
        refine anyT_take (i := 11) (v := ?vwa11) rfl (by kernel_rfl) (by kernel_rfl) (by kernel_rfl) (by kernel_rfl) (by decide) (fun _ _ _ h => h) (Or.inl ⟨by rfl, ?ywa11⟩) hS ?_
        case ywa11 => (intro wz hSw; (try dsimp only at hSw); go_simp; (try with_reducible rfl))
        try simp only [Act.put, List.setIfInBounds_toArray, List.set_cons_zero, List.set_cons_succ]
        have HOd : Hid (OwnE u2.drew u1.heap.size g1 cp1 fs) := HO1.out.1.below ((Below.refl _ _).drew) HO1.out.1.lt.2
        have HFo : Hid (∀ e ∈ fs, e.ok) := fun e he => by rw [HO1.out.2] at he; exact HRa.out.2 e (List.mem_filter.1 he).1
        refine anyT_one (i := 4) (by kernel_rfl) rfl (fun K hK => ?_)
        go_simp
        go_at_call 25
        refine (specBuild_core g1 0 cp1 fs _ HOd.out.at HFo.out HOd.out.lt.2 hfl).mono ?_
        rintro e v1 ⟨g2, cp2, R, rfl, hO2, hbv, hRl, hKp, _⟩
        have kv1 : Below u2.heap.size u2 v1 := ((Below.refl _ _).drew).trans (hbv.mono (by simp))
        have sv1 := kv1.size
        have HB2 : Hid (OwnE v1 u2.heap.size g2 cp2 R ∧ Kept fs fs.length R) := ⟨hO2.mono (by simp), hKp (by rw [HO1.out.2]; exact goodW_part HW.out)⟩
        obtain ⟨a1, a2, _⟩ := HK.out v1 kv1
        refine hK.out _ _ (.inr ⟨a1, a2⟩) ?_
        clear hK hO2 hbv hRl hKp a1 a2
        try simp only [Act.put, List.setIfInBounds_toArray, List.set_cons_zero, List.set_cons_succ]
        refine anyT_one (i := 5) (by kernel_rfl) rfl (fun K hK => ?_)
        go_simp
        obtain ⟨W5, hW5⟩ : ∃ W5 : World, W5 = v1.alloc (Obj.cells #[.slice (some ⟨g2, 0, none⟩) R.length cp2] 58) := ⟨_, rfl⟩
        have hb5 : Below v1.heap.size v1 W5 := by rw [hW5]; exact (Below.refl _ _).alloc (Nat.le_refl _) _
        have k5 : Below u2.heap.size u2 W5 := kv1.trans (hb5.mono sv1)
        have s5 := k5.size
        have sWa := HI2.out.below.size
        have HO5 : Hid (W5.ownsRow Wa.heap.size 58 1 (.slice (some ⟨v1.heap.size, 0, none⟩) 1 1) [Value.slice (some ⟨g2, 0, none⟩) R.length cp2].length [.slice (some ⟨g2, 0, none⟩) R.length cp2]) := by
          rw [hW5]
          exact World.ownsRow_lit v1 #[.slice (some ⟨g2, 0, none⟩) R.length cp2] 1 (by omega) (by decide) rfl
        rw [← hW5]
        obtain ⟨a1, a2, _⟩ := HK.out W5 k5
        refine hK.out _ _ (.inr ⟨a1, a2⟩) ?_
        clear hK a1 a2 hW5
        try simp only [Act.put, List.setIfInBounds_toArray, List.set_cons_zero, List.set_cons_succ]
        have HX5 : Hid (OwnRow W5 Wa.heap.size (.slice ta tn tc) tk.rs ∧ (∀ x ∈ tk.rs, OwnK W5 Wa.heap.size x) ∧ [Value.slice (some ⟨g2, 0, none⟩) R.length cp2].length + tk.rs.length ≤ 2 ^ 30) := by
          have hm := List.mem_of_getElem? HTk.out.1
          have h6 := (HI2.out.st.runs tk hm).below k5
          rw [HTk.out.2.1] at h6
          refine ⟨h6, fun x hx => (HI2.out.st.ents tk hm x hx).below k5, ?_⟩
          have := HTk.out.2.2
          simp; omega
        refine anyT_one (i := 12) (by kernel_rfl) rfl (fun K hK => ?_)
        refine step_append_runX _ (by rfl) _ _ (by rfl) Wa.heap.size v1.heap.size 1 1 [.slice (some ⟨g2, 0, none⟩) R.length cp2] (.slice ta tn tc) tk.rs (by rfl) (by rfl) (by rfl) HX5.out.1 HX5.out.2.1 HO5.out HX5.out.2.2 (by omega) ?_
        intro v' u3 hA
        obtain ⟨g3, cp3, rfl⟩ := hA.form (fun q => by cases q)
        obtain ⟨N3, hN3⟩ : ∃ N3, N3 = ([Value.slice (some ⟨g2, 0, none⟩) R.length cp2] ++ tk.rs.map Rw.u).length := ⟨_, rfl⟩
        rw [← hN3] at hA ⊢
        have k3 : Below u2.heap.size u2 u3 := k5.grown hA.grown s5 (fun j hj => by cases hj; omega)
        have HA3 : Hid (OwnRow u3 Wa.heap.size (.slice (some ⟨g3, 0, none⟩) N3 cp3) (⟨.slice (some ⟨g2, 0, none⟩) R.length cp2, R, some g2⟩ :: tk.rs) ∧ ∀ x ∈ (⟨.slice (some ⟨g2, 0, none⟩) R.length cp2, R, some g2⟩ :: tk.rs : List Rw), OwnK u3 Wa.heap.size x) := by
          have hN4 : N3 = (⟨.slice (some ⟨g2, 0, none⟩) R.length cp2, R, some g2⟩ :: tk.rs : List Rw).length := by rw [hN3]; simp
          refine ⟨.inr ⟨g3, cp3, by rw [hN4], ?_⟩, fun x hx => ?_⟩
          · have := hA.row
            rw [← hN3] at this
            rw [← hN4]
            exact this
          · rcases List.mem_cons.1 hx with rfl | hx
            · have hO5' : OwnE W5 Wa.heap.size g2 cp2 R := (HB2.out.1.mono sWa).below hb5 HB2.out.1.lt.2
              refine .inr ⟨g2, cp2, rfl, rfl, World.ownsRow.kept hO5' hA.grown (.inr (fun q => ?_))⟩
              have h8 := HB2.out.1.lt.2
              have h9 : g2 = v1.heap.size := Option.some.inj q
              omega
            · exact (HI2.out.st.ents tk (List.mem_of_getElem? HTk.out.1) x hx).below k3
        obtain ⟨a1, a2, a3⟩ := HK.out u3 k3
        refine hK.out _ _ (.inr ⟨a1, a2⟩) ?_
        clear hK hA hN3
        try simp only [Act.put, List.setIfInBounds_toArray, List.set_cons_zero, List.set_cons_succ]
        refine anyT_one (i := 13) (by kernel_rfl) rfl (fun K hK => ?_)
        go_simp
        refine hK.out _ _ (.inr ⟨a1, a2⟩) ?_
        clear hK
        try simp only [Act.put, List.setIfInBounds_toArray, List.set_cons_zero, List.set_cons_succ]
        refine anyT_take (i := 14) (v := ?vwb14) rfl (by kernel_rfl) (by kernel_rfl) (by kernel_rfl) (by kernel_rfl) (by decide) (fun _ _ _ h => h) (Or.inl ⟨by rfl, ?ywb14⟩) (show _ ∧ _ from ⟨a1, a2⟩) ?_
        case ywb14 => (intro wz hSw; (try dsimp only at hSw); go_simp; (try with_reducible rfl))
        try simp only [Act.put, List.setIfInBounds_toArray, List.set_cons_zero, List.set_cons_succ]
        refine anyT_one (i := 15) (by kernel_rfl) rfl (fun K hK => ?_)
        go_simp
        refine hK.out _ _ (.inl rfl) ?_
        clear hK
        try simp only [Act.put, List.setIfInBounds_toArray, List.set_cons_zero, List.set_cons_succ]
        refine anyT_done (by kernel_rfl) ?_
        have HN : Hid (WI Wa ts r.es OB g vc (k + 1) (ys.set k ⟨tk.lo, .slice (some ⟨g3, 0, none⟩) N3 cp3, ⟨.slice (some ⟨g2, 0, none⟩) R.length cp2, R, some g2⟩ :: tk.rs⟩) (u3.setCell ⟨g, k * 2 + 1, none⟩ (.slice (some ⟨g3, 0, none⟩) N3 cp3))) := by
          have hK := HB2.out.2
          have hp' := hp
          rw [HO1.out.2] at hK hp'
          exact (HI2.out.call k3).more HTk.out.1 HTN.out.2 hp' HF.out hK HA3.out.1 HA3.out.2 rfl
        go_wp2_with fail
        go_roundw
        case rel => exact ⟨k + 1, _, by omega, by go_num, HN⟩
        case measure => simp [intOf]; omega
      · have zp : ¬ (0 : Int) < (fs.length : Int) := by omega
        have HN : Hid (WI Wa ts r.es OB g vc (k + 1) ys u2) := HI2.out.idle (fun a ha => by
          rw [HTN.out.2] at ha
          cases ha
          rw [← HO1.out.2]
          omega)
        go_wp2_with fail
        go_roundw
        case rel => exact ⟨k + 1, ys, by omega, by go_num, HN⟩
        case measure => simp [intOf]; omega
    · have zk : ¬ (k : Int) < (ts.length : Int) := by omega
      have hke : k = ts.length := by omega
      have HD : Hid (WrT (tbs ts) r.es (ys.map Tx.tb)) := by
        have := HI.out
        rw [hke] at this
        exact this.done HG.out HW.out
      obtain ⟨a1, a2, a3, q, hc⟩ := st_in (w := w) (R := w.heap.size + 1) (by omega) (by omega) HI.out.st (hba.trans (HI.out.below.mono (by omega)))
      cases q
      have HC : Hid (CpSPost w (ys.map Tx.tb) (.returned (.agg #[.slice (some ⟨g, 0, none⟩) ts.length vc])) (wr.setCell ⟨w.heap.size + 1, 0, none⟩ (.slice (some ⟨g, 0, none⟩) ts.length vc))) := hc
      clear hc hke
      go_wp2_with fail
      exact bodyPost_ret (v := .agg #[.slice (some ⟨g, 0, none⟩) ts.length vc]) (by simp [results, Tryz.results7, go_sem, q1]) rfl ⟨_, HD.out, HC.out⟩
end Go.Proofs.YtlgeffinhbodeafGreat

/-
  A row of rows of entries, each of the call's own; one of them grown.
-/
namespace Go.Proofs.YtlgeffinhbodeafGreat
open Go.ChangeShapes Go.WideShapes Go.ChangeAt Go.RowKit Go.Deep
set_option linter.unusedVariables false
set_option linter.unusedSimpArgs false
set_option maxRecDepth 100000

/-- Entries of the call's own, or none. -/
def EntR (w : World) (base : Nat) (v : Value) (es : List Ent) : Prop := w.ownsRow base 61 6 v es.length (cellsE es)
/-- What an append to entries leaves behind. -/
structure AppN (w w' : World) (base : Nat) (v v' : Value) (fs es : List Ent) : Prop where
  row : EntR w' base v' (fs ++ es)
  grown : w.grownBy w' v.ownBlock
  blk : v'.ownBlock = v.ownBlock ∨ v'.ownBlock = some w.heap.size
theorem step_append_entX {ops : Array Oper} {oo : Oper} {a : Act} {K : Act → World → Prop} {Q : Exit → Act → World → Prop} {E : Prop} (w : World) (hgd : oo.guard = none) (s x : Operand)
    (ho : oo.op = .call { callee := .builtin .append, args := #[s, x], argTypes := #[33, 33] })
    (base : Nat) (v : Value) (fs : List Ent) (b off m cx : Nat) (es : List Ent) (hs : a.eval s = v) (hx : a.eval x = .slice (some ⟨b, off, none⟩) m cx) (hm : m = es.length) (hO : EntR w base v fs)
    (hc : EntsAt w b off es) (hlen : fs.length + es.length ≤ 2 ^ 30) (hbase : base ≤ w.heap.size)
    (h : ∀ v' w', AppN w w' base v v' fs es → K (a.put oo.dst v') w') : if Region.wanted oo (yielded ops a.tmps) = true then Oper.wp Tryz.prog oo a w K Q else E := by
  have hw : Region.wanted oo (yielded ops a.tmps) = true := by simp [Region.wanted, hgd]
  rw [if_pos hw]
  subst hm
  obtain ⟨i, hi, hz0, hz1, hz2⟩ := info_parts Tryz.infoEnt
  obtain ⟨v', w', hr, hO', hgr, hnil, hat⟩ := run_append_own_at (P := Tryz.prog) w base 33 oo.type 61 i _ 6 80 Tryz.underlying33 hi hz0 hz1 hz2 rfl (by decide) v fs.length (cellsE fs) hO ⟨b, off, none⟩ es.length cx (cellsE es) (length_cellsE es) (ents_cells hc) (ents_one es) (by unfold maxLen; omega) (by omega) hbase
  have hfin := h v' w' ⟨by unfold EntR; rw [List.length_append, cellsE_append]; exact hO', hgr, hat⟩
  unfold Oper.wp
  simp [execOp, ho, resolve, invoke, builtin, hs, hx, hr, Result.andThen]
  exact hfin
theorem EntR.form {w : World} {base : Nat} {v : Value} {es : List Ent} (h : EntR w base v es) : ∃ a c, v = .slice a es.length c := by
  rcases h.2 with ⟨h0, h1⟩ | ⟨g, cap', cur, hv, _⟩
  · exact ⟨_, _, by rw [h0, h1]⟩
  · exact ⟨_, _, hv⟩
theorem EntR.below {w w' : World} {base : Nat} {v : Value} {es : List Ent} (h : EntR w base v es) (hb : Below w.heap.size w w') : EntR w' base v es := own_chg (S := fun _ => False) h (Chg.of_below hb) (fun k _ q => q)
theorem EntR.own {w : World} {base : Nat} {v : Value} {es : List Ent} (h : EntR w base v es) (hp : 0 < es.length) : ∃ g cp, v = .slice (some ⟨g, 0, none⟩) es.length cp ∧ OwnE w base g cp es := by
  rcases h.2 with ⟨h0, h1⟩ | ⟨g, cap', cur, hv, _⟩
  · omega
  · subst hv
    exact ⟨g, cap', rfl, h⟩

/-- A row of such rows. -/
structure PI (base PB n : Nat) (ps : List (Value × List Ent)) (wr : World) : Prop where
  len : ps.length = n
  row : wr.ownsRow base 33 1 (.slice (some ⟨PB, 0, none⟩) n n) n (ps.map Prod.fst)
  ents : ∀ p ∈ ps, EntR wr base p.1 p.2
  apart : ∀ (i j : Nat) (p q : Value × List Ent), ps[i]? = some p → ps[j]? = some q → i ≠ j → ∀ k, p.1.ownBlock = some k → q.1.ownBlock ≠ some k
theorem PI.below {base PB n : Nat} {ps : List (Value × List Ent)} {wr w' : World} (h : PI base PB n ps wr) (hb : Below wr.heap.size wr w') : PI base PB n ps w' :=
  ⟨h.len, own_chg (S := fun _ => False) h.row (Chg.of_below hb) (fun k _ q => q), fun p hp => (h.ents p hp).below hb, h.apart⟩
theorem PI.cell {base PB n : Nat} {ps : List (Value × List Ent)} {wr : World} (h : PI base PB n ps wr) {i : Nat} {p : Value × List Ent} (hp : ps[i]? = some p) : wr.cell? ⟨PB, i, none⟩ = some p.1 ∧ wr.frozen? ⟨PB, i, none⟩ = false := by
  have hl := (List.getElem?_eq_some_iff.1 hp).1
  refine ⟨?_, World.ownsRow.frozenAt h.row i⟩
  rw [World.ownsRow.cellAt h.row i (by have := h.len; omega), List.getElem?_map, hp]; rfl
theorem PI.lt {base PB n : Nat} {ps : List (Value × List Ent)} {wr : World} (h : PI base PB n ps wr) : base ≤ PB ∧ PB < wr.heap.size := World.ownsRow.lt h.row PB rfl
theorem PI.put {base PB n : Nat} {ps : List (Value × List Ent)} {wr w2 w3 : World} (h : PI base PB n ps wr) (hb : Below wr.heap.size wr w2) {i : Nat} {p : Value × List Ent} (hp : ps[i]? = some p) {v' : Value} {es : List Ent} (hA : AppN w2 w3 base p.1 v' p.2 es) : PI base PB n (ps.set i (v', p.2 ++ es)) (w3.setCell ⟨PB, i, none⟩ v') := by
  have h2 := h.below hb
  have hpm := List.mem_of_getElem? hp
  have hrow3 : w3.ownsRow base 33 1 (.slice (some ⟨PB, 0, none⟩) n n) n (ps.map Prod.fst) :=
    World.ownsRow.kept h2.row hA.grown (.inr (fun q => own_apart (h2.ents p hpm) h2.row (by decide) PB (by rw [← q]; rfl) rfl))
  have hset : ∀ (x : Value) (fs : List Ent), EntR w3 base x fs → EntR (w3.setCell ⟨PB, i, none⟩ v') base x fs := fun x fs hx =>
    World.ownsRow.kept hx (grown_set w3 PB i v') (.inr (fun q => own_apart hrow3 hx (by decide) PB rfl q))
  have hblk : ∀ (x : Value) (fs : List Ent), EntR w2 base x fs → ∀ k, x.ownBlock = some k → k < w2.heap.size := fun x fs hx k hk => (World.ownsRow.lt hx k hk).2
  have hkeep : ∀ (j : Nat) (q : Value × List Ent), ps[j]? = some q → i ≠ j → EntR w3 base q.1 q.2 := fun j q hq hij => by
    refine World.ownsRow.kept (h2.ents q (List.mem_of_getElem? hq)) hA.grown ?_
    cases hb : q.1.ownBlock with
    | none => exact .inl rfl
    | some k => exact .inr (fun e => h.apart i j p q hp hq hij k (by rw [← e]) hb)
  refine ⟨by rw [List.length_set]; exact h.len, ?_, fun x hx => ?_, fun a b x y hx hy hab k hk => ?_⟩
  · have := (World.ownsRow.stored hrow3 i v').1
    rw [List.map_set]
    exact this
  · obtain ⟨j, hj⟩ := List.getElem?_of_mem hx
    rw [List.getElem?_set] at hj
    by_cases e : i = j
    · subst e
      rw [if_pos rfl, if_pos (List.getElem?_eq_some_iff.1 hp).1] at hj
      obtain rfl := Option.some.inj hj
      exact hset _ _ hA.row
    · rw [if_neg e] at hj
      exact hset _ _ (hkeep j x hj e)
  · have hil := (List.getElem?_eq_some_iff.1 hp).1
    rw [List.getElem?_set] at hx hy
    by_cases ea : i = a
    · subst ea
      rw [if_pos rfl, if_pos hil] at hx
      rw [if_neg hab] at hy
      obtain rfl := Option.some.inj hx
      rcases hA.blk with q | q
      · rw [show ((v', p.2 ++ es) : Value × List Ent).1 = v' from rfl, q] at hk
        exact h.apart i b p y hp hy hab k hk
      · rw [show ((v', p.2 ++ es) : Value × List Ent).1 = v' from rfl, q] at hk
        have := Option.some.inj hk
        intro e
        have := hblk _ _ (h2.ents y (List.mem_of_getElem? hy)) k e
        omega
    · rw [if_neg ea] at hx
      by_cases eb : i = b
      · subst eb
        rw [if_pos rfl, if_pos hil] at hy
        obtain rfl := Option.some.inj hy
        intro e
        rcases hA.blk with q | q
        · rw [show ((v', p.2 ++ es) : Value × List Ent).1 = v' from rfl, q] at e
          exact h.apart a i x p hx hp hab k hk e
        · rw [show ((v', p.2 ++ es) : Value × List Ent).1 = v' from rfl, q] at e
          have := Option.some.inj e
          have := hblk _ _ (h2.ents x (List.mem_of_getElem? hx)) k hk
          omega
      · rw [if_neg eb] at hy
        exact h.apart a b x y hx hy hab k hk
end Go.Proofs.YtlgeffinhbodeafGreat

