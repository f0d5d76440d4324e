/-
  toTablet, toTabletS, toStore.
-/
import Derived.Test.YtlgeffinhbodeaePkC
namespace Go.Proofs.Ytlgeffinhbodeae
open Go.ChangeShapes Go.WideShapes Go.ChangeAt Go.RowKit Go.Deep
set_option linter.unusedVariables false
set_option linter.unusedSimpArgs false
set_option maxRecDepth 100000

set_option maxHeartbeats 1000000 in
theorem toTablet_any (t : Tn) (w : World) (h : InRuns w t.u t.rs) (h1 : t.rs.length + tot t.rs ≤ 1048576) :
    Calls Try.prog 115 #[.agg #[.string t.lo, t.u]] w fun e w' =>
      ∃ (g : Nat) (l : List (Nat × List Ent)), e = .returned (.agg #[.string t.lo, .slice (some ⟨g, 0, none⟩) l.length l.length]) ∧ OwnRuns w' w.heap.size g l ∧ l.map Prod.snd = esOf t.rs ∧ l.length + totL l ≤ 1048576 ∧ Below w.heap.size w w' := by
  have HE : Hid (InRuns w t.u t.rs) := h
  have hu := h.ucells
  clear h
  go_enter Try.func115, Try.ntmps115
  go_wp2_with fail
  refine (toRuns_own t.u t.rs _ (HE.out.below ((((Below.refl _ _).alloc (Nat.le_refl _) _).alloc (by simp) _).alloc (by simp; omega) _)) h1).mono ?_
  rintro e w1 ⟨g, l, rfl, hO, hm, hn, hb1⟩
  obtain ⟨hc1, hf1⟩ := bcell hb1
  have k1 : Below w.heap.size w w1 := ((((Below.refl _ _).alloc (Nat.le_refl _) (Obj.cells #[.string t.lo, t.u] 185)).alloc (by simp) (Obj.cells #[.string ⟨#[]⟩, .slice none 0 0] 133)).alloc (by simp; omega) (Obj.cells #[.string t.lo, .slice none 0 0] 133)).trans (hb1.mono (by simp; omega))
  have HO : Hid (OwnRuns w1 (w.heap.size + 1 + 1 + 1) g l ∧ l.map Prod.snd = esOf t.rs ∧ l.length + totL l ≤ 1048576) := by
    refine ⟨?_, hm, hn⟩
    simpa using hO
  clear hO hm hn
  go_wp2_with fail
  refine bodyPost_ret (v := .agg #[.string t.lo, .slice (some ⟨g, 0, none⟩) l.length l.length]) (by simp [results, Try.results115, go_sem, hc1]) rfl ⟨g, l, rfl, ?_, HO.out.2.1, HO.out.2.2, ?_⟩
  · have hl := HO.out.1.lt.1
    exact (((HO.out.1.setNe _ _ _ (by omega)).setNe _ _ _ (by omega)).setNe _ _ _ (by omega)).mono (by omega)
  · exact ((k1.setCell (by show w.heap.size ≤ w.heap.size + 1 + 1; omega) _).setCell (by show w.heap.size ≤ w.heap.size + 1; omega) _).setCell (by show w.heap.size ≤ w.heap.size + 1; omega) _

theorem OwnTabs.setNe {w : World} {base g : Nat} {l : List Tw} (h : OwnTabs w base g l) (q o : Nat) (x : Value) (hq : q < g) : OwnTabs (w.setCell ⟨q, o, none⟩ x) base g l :=
  ⟨World.ownsRow.kept h.row (grown_set w q o x) (.inr (fun z => by have : g = q := Option.some.inj z; omega)), fun t ht => (h.tabs t ht).setNe _ _ _ (by have := h.ne t ht; omega), h.ne, h.up, h.short⟩
theorem OwnTabs.mono {w : World} {base base' g : Nat} {ts : List Tw} (h : OwnTabs w base g ts) (hb : base' ≤ base) : OwnTabs w base' g ts :=
  ⟨h.row.mono hb, fun t ht => (h.tabs t ht).mono hb, h.ne, h.up, h.short⟩

set_option maxHeartbeats 2000000 in
theorem toTabletS_any (v : Value) (ts : List Tn) (w : World) (h : InTabs w v ts) (h1 : ts.length + totT ts ≤ 1048576) :
    Calls Try.prog 77 #[v] w fun e w' =>
      ∃ (g : Nat) (l : List Tw), e = .returned (.slice (some ⟨g, 0, none⟩) l.length l.length) ∧ OwnTabs w' w.heap.size g l ∧ l.map Tw.tb = ts.map Tn.tb ∧ Below w.heap.size w w' := by
  obtain ⟨i, hi, hz0, hz1, hz2⟩ := info_parts Try.infoTab
  have HI : Hid (Try.prog.info? 133 = some i ∧ i.zero = some (.agg #[.string ⟨#[]⟩, .slice none 0 0]) ∧ i.size = 2 ∧ i.bytes = 40) := ⟨hi, hz0, hz1, hz2⟩
  clear hi hz0 hz1 hz2
  rcases h with ⟨a, cap, rfl, rfl⟩ | ⟨b, off, cap, rfl, hE, hB, hlen, hcap⟩
  · go_enter Try.func77, Try.ntmps77
    go_wp2_with (at_make; refine wpList_make_full _ rfl _ _ 64 rfl w.heap.size 133 i _ 2 Try.underlying64 HI.out.1 HI.out.2.1 HI.out.2.2.1 _ _ _ _ 0 rfl rfl ?_ ?_ ?hb ?hm ?hs ?_)
    case hb => rw [HI.out.2.2.2]; omega
    case hm => unfold maxLen; omega
    case hs => exact Nat.le_refl _
    · rfl
    · rfl
    intro w1 hown hgrow
    have HW : Hid (OwnP w1 w.heap.size w.heap.size 0 []) := by
      have h0 := made_tabs 0
      rw [Nat.zero_mul] at h0
      rw [h0] at hown
      exact hown
    have hb1 : Below w.heap.size w w1 := (Below.refl _ _).grown hgrow (Nat.le_refl _) (fun k hk => by cases hk)
    clear hown hgrow
    go_wp2_with fail
    go_loopw [4] (fun i wr => i = .int .i64 0 ∧ wr = w1) (fun i _ => 0)
    case atStart => exact ⟨rfl, rfl⟩
    case round =>
      obtain ⟨rfl, rfl⟩ := hrel
      go_wp2_with fail
      go_ret
      exact ⟨_, [], rfl, ⟨HW.out, fun p hp => by simp at hp, fun p hp => by simp at hp, List.Pairwise.nil, fun p hp => by simp at hp⟩, rfl, hb1⟩
  · have HE : Hid (TabsAt w b off ts) := hE
    clear hE
    unfold maxLen at hcap
    go_enter Try.func77, Try.ntmps77
    go_wp2_with (at_make; refine wpList_make_full _ rfl _ _ 64 rfl w.heap.size 133 i _ 2 Try.underlying64 HI.out.1 HI.out.2.1 HI.out.2.2.1 _ _ _ _ ts.length rfl rfl ?_ ?_ ?hb ?hm ?hs ?_)
    case hb => rw [HI.out.2.2.2]; omega
    case hm => unfold maxLen; omega
    case hs => exact Nat.le_refl _
    · rfl
    · rfl
    intro w1 hown hgrow
    rw [made_tabs] at hown
    have hown1 : OwnP w1 w.heap.size w.heap.size ts.length (List.replicate ts.length zeroP) := by
      unfold OwnP; rw [List.length_replicate]; exact hown
    have HW : Hid (OwnP w1 w.heap.size w.heap.size ts.length (List.replicate ts.length zeroP)) := hown1
    have hb1 : Below w.heap.size w w1 := (Below.refl _ _).grown hgrow (Nat.le_refl _) (fun k hk => by cases hk)
    have hs1 := hown1.lt.2
    clear hown hown1 hgrow
    go_wp2_with fail
    go_loopw [4] (fun i wr => ∃ (k : Nat) (l : List Tw), k ≤ ts.length ∧ i = .int .i64 k ∧ l.length = k ∧ l.map Tw.tb = (ts.take k).map Tn.tb ∧ OwnP wr w.heap.size w.heap.size ts.length (l.map Tw.pr ++ List.replicate (ts.length - k) zeroP) ∧
        (∀ t ∈ l, OwnRuns wr w.heap.size t.g t.l ∧ w.heap.size < t.g ∧ t.l.length + totL t.l ≤ 1048576) ∧ l.Pairwise (fun a b => a.g < b.g ∧ ∀ p ∈ a.l, p.1 < b.g) ∧ Below w.heap.size w wr) (fun i _ => ts.length - (intOf i).toNat)
    case atStart => exact ⟨0, [], Nat.zero_le _, rfl, rfl, rfl, HW.out, fun p hp => by simp at hp, List.Pairwise.nil, hb1⟩
    case round =>
      obtain ⟨k, l, hk, rfl, hlk, hes, hR, hO, hup, hb⟩ := hrel
      have HL : Hid (l.length = k ∧ l.map Tw.tb = (ts.take k).map Tn.tb ∧ OwnP wr w.heap.size w.heap.size ts.length (l.map Tw.pr ++ List.replicate (ts.length - k) zeroP) ∧
        (∀ t ∈ l, OwnRuns wr w.heap.size t.g t.l ∧ w.heap.size < t.g ∧ t.l.length + totL t.l ≤ 1048576) ∧ l.Pairwise (fun a b => a.g < b.g ∧ ∀ p ∈ a.l, p.1 < b.g)) := ⟨hlk, hes, hR, hO, hup⟩
      have hg := hR.lt
      have hsz := hb.size
      clear hlk hes hR hO hup
      by_cases hlt : k < ts.length
      · obtain ⟨t, ht⟩ : ∃ t, ts[k]? = some t := ⟨_, List.getElem?_eq_getElem hlt⟩
        obtain ⟨c0, c1, hin⟩ := (HE.out.below hb hB) k t ht
        have HR : Hid (ts[k]? = some t ∧ InRuns wr t.u t.rs ∧ t.rs.length + tot t.rs ≤ 1048576) := ⟨ht, hin, wt_le (by have := totT_mem ht; omega)⟩
        clear ht hin
        go_wp2_with fail
        refine (toTablet_any t _ HR.out.2.1 HR.out.2.2).mono ?_
        rintro e w2 ⟨g', l', rfl, hO', hm', hn', hb2⟩
        have hR2 := HL.out.2.2.1.below hb2 hg.2
        have hs2 := hb2.size
        have hg' := hO'.lt
        have hul : (l.map Tw.pr).length = k := by simp [HL.out.1]
        have hz : (l.map Tw.pr ++ List.replicate (ts.length - k) zeroP)[k]? = some zeroP := by
          rw [List.getElem?_append_right (by omega), hul, Nat.sub_self, List.getElem?_replicate, if_pos (by omega)]
        obtain ⟨d0, d1⟩ := hR2.cells hz
        have hfz := fun j => World.ownsRow.frozenAt hR2 j
        unfold zeroP at d0 d1
        simp only at d0 d1
        have HN : Hid (∃ L : List Tw, L.length = k + 1 ∧ L.map Tw.tb = (ts.take (k + 1)).map Tn.tb ∧ OwnP ((w2.setCell ⟨w.heap.size, k * 2, none⟩ (.string t.lo)).setCell ⟨w.heap.size, k * 2 + 1, none⟩ (.slice (some ⟨g', 0, none⟩) l'.length l'.length)) w.heap.size w.heap.size ts.length (L.map Tw.pr ++ List.replicate (ts.length - (k + 1)) zeroP) ∧
            (∀ t' ∈ L, OwnRuns ((w2.setCell ⟨w.heap.size, k * 2, none⟩ (.string t.lo)).setCell ⟨w.heap.size, k * 2 + 1, none⟩ (.slice (some ⟨g', 0, none⟩) l'.length l'.length)) w.heap.size t'.g t'.l ∧ w.heap.size < t'.g ∧ t'.l.length + totL t'.l ≤ 1048576) ∧ L.Pairwise (fun a b => a.g < b.g ∧ ∀ p ∈ a.l, p.1 < b.g)) := by
          refine ⟨l ++ [⟨t.lo, g', l'⟩], by simp [HL.out.1], ?_, ?_, ?_, ?_⟩
          · rw [tbs_take HR.out.1, List.map_append, HL.out.2.1]
            show _ ++ [Tb.mk t.lo (l'.map Prod.snd)] = _ ++ [Tb.mk t.lo (esOf t.rs)]
            rw [hm']
          · have := hR2.put k zeroP (t.lo, .slice (some ⟨g', 0, none⟩) l'.length l'.length) hz
            rw [← prs_set (t := ⟨t.lo, g', l'⟩) HL.out.1 hlt]; exact this
          · intro p hp
            rcases List.mem_append.1 hp with hp | hp
            · obtain ⟨q1, q2, q3⟩ := HL.out.2.2.2.1 p hp
              exact ⟨((q1.below hb2).setNe _ _ _ q2).setNe _ _ _ q2, q2, q3⟩
            · simp at hp
              subst hp
              exact ⟨((hO'.setNe _ _ _ (by omega)).setNe _ _ _ (by omega)).mono (by omega), by show w.heap.size < g'; omega, hn'⟩
          · refine List.pairwise_append.2 ⟨HL.out.2.2.2.2, by simp, fun p hp q hq => ?_⟩
            simp at hq
            subst hq
            obtain ⟨q1, q2, q3⟩ := HL.out.2.2.2.1 p hp
            refine ⟨?_, fun x hx => ?_⟩
            · have := q1.lt
              show p.g < g'
              omega
            · have := (q1.rows.2 x hx).lt
              show x.1 < g'
              omega
        have hb3 : Below w.heap.size w ((w2.setCell ⟨w.heap.size, k * 2, none⟩ (.string t.lo)).setCell ⟨w.heap.size, k * 2 + 1, none⟩ (.slice (some ⟨g', 0, none⟩) l'.length l'.length)) := ((hb.trans (hb2.mono hsz)).setCell (by show w.heap.size ≤ w.heap.size; omega) _).setCell (by show w.heap.size ≤ w.heap.size; omega) _
        clear hR2 hO' hb2 c0 c1 hul hz hm' hn'
        go_wp2_with fail
        go_roundw
        case rel =>
          go_light
          obtain ⟨L, a1, a2, a3, a4, a5⟩ := HN.out
          exact ⟨k + 1, L, by omega, by go_num, a1, a2, a3, a4, a5, hb3⟩
        case measure => simp [intOf]; omega
      · have hkr : k = ts.length := by omega
        have HF : Hid (l.length = ts.length ∧ l.map Tw.tb = ts.map Tn.tb ∧ OwnP wr w.heap.size w.heap.size ts.length (l.map Tw.pr)) := by
          have h2 := HL.out.2.1
          have h3 := HL.out.2.2.1
          rw [List.take_of_length_le (by omega)] at h2
          rw [show ts.length - k = 0 by omega] at h3
          simp at h3
          exact ⟨by rw [HL.out.1, hkr], h2, h3⟩
        clear hkr
        go_wp2_with fail
        go_ret
        refine ⟨_, l, ?_, ⟨?_, fun t ht => (HL.out.2.2.2.1 t ht).1, fun t ht => (HL.out.2.2.2.1 t ht).2.1, HL.out.2.2.2.2, fun t ht => (HL.out.2.2.2.1 t ht).2.2⟩, HF.out.2.1, hb⟩
        · rw [HF.out.1]; rfl
        · rw [HF.out.1]; exact HF.out.2.2

set_option maxHeartbeats 400000 in
theorem toStore_any (u : Value) (ts : List Tn) (w : World) (h : InTabs w u ts) (h1 : ts.length + totT ts ≤ 1048576) :
    Calls Try.prog 27 #[.agg #[u]] w fun e w' =>
      ∃ (g : Nat) (l : List Tw), e = .returned (.agg #[.slice (some ⟨g, 0, none⟩) l.length l.length]) ∧ OwnTabs w' w.heap.size g l ∧ l.map Tw.tb = ts.map Tn.tb ∧ Below w.heap.size w w' := by
  have HE : Hid (InTabs w u ts) := h
  have hu := h.ucells
  clear h
  go_enter Try.func27, Try.ntmps27
  go_wp2_with fail
  refine (toTabletS_any u ts _ (HE.out.below ((((Below.refl _ _).alloc (Nat.le_refl _) _).alloc (by simp) _).alloc (by simp; omega) _)) h1).mono ?_
  rintro e w1 ⟨g, l, rfl, hO, hm, hb1⟩
  obtain ⟨hc1, hf1⟩ := bcell hb1
  have k1 : Below w.heap.size w w1 := ((((Below.refl _ _).alloc (Nat.le_refl _) (Obj.cells #[u] 62)).alloc (by simp) (Obj.cells #[.slice none 0 0] 66)).alloc (by simp; omega) (Obj.cells #[.slice none 0 0] 66)).trans (hb1.mono (by simp; omega))
  have HO : Hid (OwnTabs w1 (w.heap.size + 1 + 1 + 1) g l ∧ l.map Tw.tb = ts.map Tn.tb) := by
    refine ⟨?_, hm⟩
    simpa using hO
  clear hO hm
  go_wp2_with fail
  refine bodyPost_ret (v := .agg #[.slice (some ⟨g, 0, none⟩) l.length l.length]) (by simp [results, Try.results27, go_sem, hc1]) rfl ⟨g, l, rfl, ?_, HO.out.2, ?_⟩
  · have hl := HO.out.1.lt.1
    exact ((HO.out.1.setNe _ _ _ (by omega)).setNe _ _ _ (by omega)).mono (by omega)
  · exact (k1.setCell (by show w.heap.size ≤ w.heap.size + 1 + 1; omega) _).setCell (by show w.heap.size ≤ w.heap.size + 1; omega) _
end Go.Proofs.Ytlgeffinhbodeae
