/-
  The law FnRuns: its walk.
-/
import Derived.Test.YtjphalbjimggcaePkAM
import Derived.Test.YtjphalbjimggcaeQMrgR
namespace Go.Proofs.Ytjphalbjimggcae.fnRuns
open Go.ChangeShapes Go.WideShapes Go.ChangeAt Go.RowKit Go.Deep
set_option linter.unusedVariables false
set_option linter.unusedSimpArgs false
set_option maxRecDepth 100000

set_option maxHeartbeats 8000000 in
theorem walk (hBuild : BuildC) (hReplay : ReplayC) (v : Value) (n : Nat) (u : Value) (m : Nat) (w : World) (h : BytesIn w v n) (k : BytesIn w u m) :
    Calls Try.prog 4 #[v, u] w fun e w' => e = .returned (.bool true) ∧ Below w.heap.size w w' := by
  obtain ⟨a, cap, rfl⟩ := h.slice
  obtain ⟨a', cap', rfl⟩ := k.slice
  have hm := h.1
  have hm' := k.1
  have HB : Hid (BytesIn w (.slice a n cap) n ∧ BytesIn w (.slice a' m cap') m) := ⟨h, k⟩
  clear h k
  by_cases hbig : 1048576 < n
  · have z : (1048576 : Int) < (n : Int) := by omega
    go_enter Try.func4, Try.ntmps4
    go_wp2_with fail
    go_ret
    exact ⟨rfl, Below.refl _ _⟩
  have z : ¬ (1048576 : Int) < (n : Int) := by omega
  by_cases hbig' : 1048576 < m
  · have z' : (1048576 : Int) < (m : Int) := by omega
    go_enter Try.func4, Try.ntmps4
    go_wp2_with fail
    go_ret
    exact ⟨rfl, Below.refl _ _⟩
  have z' : ¬ (1048576 : Int) < (m : Int) := by omega
  have hn : n ≤ 1048576 := by omega
  go_enter Try.func4, Try.ntmps4
  go_wp2_with fail
  clear hm hm' hbig hbig' z z'
  refine (drawReplay_core _ n w (HB.out.1.code hn)).mono ?_
  rintro e w1 ⟨gw, cw, ws, rfl, hD1⟩
  have s1 := hD1.below.size
  have hgw := hD1.row.lt
  obtain ⟨N, hN⟩ : ∃ N : Nat, ws.length = N := ⟨_, rfl⟩
  have HN : Hid (ws.length = N) := hN
  have hNs : N ≤ 100 := by have := hD1.len; omega
  have hcw : Hid (N ≤ cw ∧ cw ≤ maxLen) := by
    show N ≤ cw ∧ cw ≤ maxLen
    rcases hD1.row.2 with ⟨h0, _⟩ | ⟨g', cap', cur, hv, _, _, hn, hcap, _, _⟩
    · cases h0
    · simp only [Value.slice.injEq, Option.some.injEq, Addr.mk.injEq, and_true, true_and] at hv
      obtain ⟨rfl, rfl⟩ := hv
      exact ⟨by omega, hcap⟩
  have HW1 : Hid (EntsAt w1 gw 0 ws ∧ (∀ e ∈ ws, e.ok)) := ⟨hD1.row.at, fun e he => (hD1.ok e he).ok⟩
  have HB1 : Hid (BytesIn w1 (.slice a n cap) n ∧ BytesIn w1 (.slice a' m cap') m) := ⟨HB.out.1.below hD1.below, HB.out.2.below hD1.below⟩
  have k1 : Below w.heap.size w w1 := hD1.below
  rw [hN]
  clear hD1 HB hN
  go_wp2_with fail
  refine (drawMerge_core _ n w1 (HB1.out.1.code hn)).mono ?_
  rintro e w2 ⟨gx, cx, lx, lo, hi, hh, rfl, hD2⟩
  have s2 := hD2.below.size
  obtain ⟨W3, hW3⟩ : ∃ W3 : World, W3 = w2.alloc (Obj.cells #[.string lo, .bool hh, .string hi] 25) := ⟨_, rfl⟩
  have hb3 : Below w2.heap.size w2 W3 := by rw [hW3]; exact (Below.refl _ _).alloc (Nat.le_refl _) _
  have s3 : W3.heap.size = w2.heap.size + 1 := by rw [hW3]; simp
  have k13 : Below w1.heap.size w1 W3 := hD2.below.trans (hb3.mono s2)
  have HC3 : Hid (W3.cell? ⟨w2.heap.size, 0, none⟩ = some (.string lo) ∧ W3.cell? ⟨w2.heap.size, 1, none⟩ = some (.bool hh) ∧ W3.cell? ⟨w2.heap.size, 2, none⟩ = some (.string hi)) := by
    rw [hW3]; refine ⟨?_, ?_, ?_⟩ <;> simp
  have k3 : Below w.heap.size w W3 := k1.trans (k13.mono s1)
  have HE3 : Hid (EntsAt W3 gw 0 ws) := HW1.out.1.below k13 hgw.2
  clear hD2
  go_upto_region 5 with fail
  rw [← hW3]
  clear hW3
  go_wp2_with fail
  have hrep := specReplay_core gw 0 cw ws W3 HE3.out HW1.out.2 (by omega) (by have := HN.out; omega)
  rw [HN.out] at hrep
  refine hrep.mono ?_
  rintro e w4 ⟨gl, cl, L, rfl, hC4, hb4, hLl, hL⟩
  have s4 := hb4.size
  have hgl := hC4.lt
  have HL : Hid (OwnC w4 W3.heap.size gl cl L ∧ RepOf ws L) := ⟨hC4, hL⟩
  obtain ⟨M, hM⟩ : ∃ M : Nat, L.length = M := ⟨_, rfl⟩
  have HM : Hid (L.length = M ∧ M ≤ 100) := ⟨hM, by omega⟩
  rw [hM]
  have HE4 : Hid (EntsAt w4 gw 0 ws) := HE3.out.below hb4 (by omega)
  have k4 : Below w.heap.size w w4 := k3.trans (hb4.mono (by have := k3.size; omega))
  clear hC4 hL hLl hM hrep
  go_upto_region 6 with fail
  go_cut [39] (fun s wx => ∃ b : Bool, s = .bool b ∧ (b = true → ¬ GoodW ws) ∧ (b = false → GoodW ws) ∧ Below w4.heap.size w4 wx)
  case first =>
    by_cases h0 : N = 0
    · have zz : ¬ (0 : Int) < (N : Int) := by omega
      have H0 : Hid (N = 0) := h0
      clear h0
      go_wp2_with fail
      go_meet
      refine ⟨false, rfl, fun q => (by cases q), fun _ => ?_, Below.refl _ _⟩
      have : ws = [] := List.length_eq_zero_iff.1 (by have := HN.out; have := H0.out; omega)
      subst this
      exact ⟨by simp, fun e he => by simp at he⟩
    · have zz : (0 : Int) < (N : Int) := by omega
      go_wp2_with fail
      have hbld := specBuild_core gw 0 cw ws w4 HE4.out HW1.out.2 (by omega) (by have := HN.out; omega)
      rw [HN.out] at hbld
      refine hbld.mono ?_
      rintro e w5 ⟨g5, c5, R, rfl, hO5, hb5, hRl, hK, hNK⟩
      have HK : Hid ((GoodW ws → 0 < R.length) ∧ (¬ GoodW ws → R.length = 0)) := ⟨fun q => kept_nonempty (by have := hK q; rwa [← HN.out] at this) (show 0 < ws.length by have := HN.out; omega), fun q => by rw [hNK q]; rfl⟩
      clear hO5 hRl hK hNK hbld
      have hfl := runField (some ⟨g5, 0, none⟩) R.length c5 w5
      by_cases hG : GoodW ws
      · have y : ¬ R.length = 0 := by have := HK.out.1 hG; omega
        go_wp2_with fail
        go_meet
        exact ⟨false, by simp [y], fun q => (by cases q), fun _ => hG, hb5⟩
      · have y : R.length = 0 := HK.out.2 hG
        rw [y] at hfl ⊢
        go_wp2_with fail
        go_meet
        exact ⟨true, by simp, fun _ => hG, fun q => (by cases q), hb5⟩
  case rest =>
  obtain ⟨b, rfl, hb1, hb2, hbc⟩ := hcut
  have sc := hbc.size
  have HEc : Hid (EntsAt wc gw 0 ws) := HE4.out.below hbc (by omega)
  have kc : Below w.heap.size w wc := k4.trans (hbc.mono (by have := k4.size; omega))
  cases b
  case true =>
    have HG : Hid (¬ GoodW ws) := hb1 rfl
    clear hb1 hb2
    go_wp2_with fail
    have hr6 := hReplay gw 0 cw ws wc HEc.out HW1.out.2 (by omega) (by have := hcw.out; have := HN.out; omega) hcw.out.2 (by have := HN.out; omega)
    rw [HN.out] at hr6
    refine hr6.mono ?_
    rintro e w6 ⟨g6, c6, R, rfl, hC6, hR6, hb6⟩
    have s6 := hb6.size
    obtain rfl : R = [] := hR6.2 HG.out
    have HE6 : Hid (EntsAt w6 gw 0 ws) := HEc.out.below hb6 (by omega)
    rw [show (puts ([] : List Ent)).length = 0 from rfl]
    clear hC6 hR6 hr6
    go_wp2_with fail
    have hr7 := hBuild gw 0 cw ws w6 HE6.out HW1.out.2 (by omega) (by have := hcw.out; have := HN.out; omega) hcw.out.2 (by have := HN.out; omega)
    rw [HN.out] at hr7
    refine hr7.mono ?_
    rintro e w7 ⟨a7, n7, c7, R, rfl, hU7, hR7, hb7⟩
    obtain rfl : R = [] := hR7.2 HG.out
    obtain rfl : n7 = 0 := by
      rcases hU7 with ⟨q, _⟩ | ⟨g', cp', q, _⟩
      · simp at q; exact q.2.1
      · simp at q; exact q.2.1
    clear hU7 hR7 hr7
    have hfl := runField a7 0 c7 w7
    go_wp2_with fail
    go_ret
    exact ⟨rfl, (kc.trans (hb6.mono (by have := kc.size; omega))).trans (hb7.mono (by have := kc.size; omega))⟩
  case false =>
    have HG : Hid (GoodW ws) := hb2 rfl
    clear hb1 hb2
    obtain ⟨W8, hW8⟩ : ∃ W8 : World, W8 = wc.alloc (Obj.cells #[] 30) := ⟨_, rfl⟩
    have H8 : Hid (KInv wc ws 0 0 wc.heap.size 0 [] W8) := by
      have hb8 : Below wc.heap.size wc W8 := by rw [hW8]; exact (Below.refl _ _).alloc (Nat.le_refl _) _
      refine ⟨?_, fun r hr => by simp at hr, fun r hr => by simp at hr, fun es he => by simp at he, .nil, hb8, Nat.le_refl _, Nat.zero_le _, Nat.le_refl _⟩
      rw [hW8]
      exact World.ownsRow_made wc #[] 0 (Nat.le_refl _) (Nat.zero_le _) (by simp)
    have HBc : Hid (BytesIn wc (.slice a' m cap') m) := HB1.out.2.below (k13.trans ((hb4.mono (by omega)).trans (hbc.mono (by omega))))
    have HCc : Hid (wc.cell? ⟨w2.heap.size, 0, none⟩ = some (.string lo) ∧ wc.cell? ⟨w2.heap.size, 1, none⟩ = some (.bool hh) ∧ wc.cell? ⟨w2.heap.size, 2, none⟩ = some (.string hi)) := by
      have hk : Below W3.heap.size W3 wc := hb4.trans (hbc.mono s4)
      refine ⟨?_, ?_, ?_⟩
      · rw [hk.cell (p := ⟨w2.heap.size, 0, none⟩) (by show w2.heap.size < W3.heap.size; omega)]; exact HC3.out.1
      · rw [hk.cell (p := ⟨w2.heap.size, 1, none⟩) (by show w2.heap.size < W3.heap.size; omega)]; exact HC3.out.2.1
      · rw [hk.cell (p := ⟨w2.heap.size, 2, none⟩) (by show w2.heap.size < W3.heap.size; omega)]; exact HC3.out.2.2
    have HLc : Hid (OwnC wc W3.heap.size gl cl L) := HL.out.1.below hbc (by omega)
    go_upto_region 11 with fail
    rw [← hW8]
    clear hW8
    go_loopw [9, 10, 11] (fun s i j wr => ∃ (m' k' g cp : Nat) (l : List Rm), s = .slice (some ⟨g, 0, none⟩) l.length cp ∧ i = .int .i64 m' ∧ j = .int .i64 k' ∧ KInv wc ws m' k' g cp l wr) (fun _ i _ _ => N - (intOf i).toNat)
    case atStart => exact ⟨0, 0, _, 0, [], rfl, rfl, rfl, H8.out⟩
    case round =>
      obtain ⟨m', k', g, cp, l, rfl, rfl, rfl, hK⟩ := hrel
      have HK : Hid (KInv wc ws m' k' g cp l wr) := hK
      have hmN : m' ≤ N := by have := hK.al; have := HN.out; omega
      have hk : k' ≤ m' := hK.ka
      clear hK
      by_cases hlt : m' < N
      · have zl : (m' : Int) < (N : Int) := by omega
        go_wp2_with fail
        refine (lwAt_core _ m k' wr (HBc.out.below HK.out.below) (by omega)).mono ?_
        rintro e w9 ⟨x, rfl, hx0, hx1, rfl⟩
        go_upto_if 68 with fail
        go_cut [12] (fun s wx => ∃ j : Nat, s = .int .i64 j ∧ 1 ≤ j ∧ m' + j ≤ N ∧ wx = w9)
        case first =>
          by_cases hy : (N : Int) - m' < 1 + x % 6
          · go_wp2_with fail
            go_meet
            exact ⟨N - m', by congr 1; omega, by omega, by omega, rfl⟩
          · go_wp2_with fail
            go_meet
            exact ⟨(1 + x % 6).toNat, by congr 1; omega, by omega, by omega, rfl⟩
        case rest =>
        obtain ⟨j, rfl, hj1, hj2, hwc⟩ := hcut
        rw [hwc]
        clear hwc wc
        have hzc := hcw.out
        unfold maxLen at hzc
        have z1 : (m' : Int) ≤ (m' : Int) + (j : Int) := by omega
        have z2 : (m' : Int) + (j : Int) ≤ (cw : Int) := by omega
        have z3 : ¬ m' = cw := by omega
        clear hzc
        go_wp2_with fail
        obtain ⟨p, hp⟩ : ∃ p : List Ent, p = (ws.drop m').take j := ⟨_, rfl⟩
        have hpl : p.length = j := by rw [hp, List.length_take, List.length_drop]; have := HN.out; omega
        have HP : Hid (p = (ws.drop m').take j) := hp
        have hgw9 : gw < wc.heap.size := by omega
        have s9 := HK.out.below.size
        have hpE : EntsAt w9 gw (m' * 6) p := by
          have := ((HEc.out.below HK.out.below hgw9).dropped m').taken j
          rw [← hp, Nat.zero_add] at this
          exact this
        have hbld := hBuild gw (m' * 6) (cw - m') p w9 hpE (fun e he => HW1.out.2 e (List.mem_of_mem_drop (List.mem_of_mem_take (hp ▸ he)))) (by omega) (by have := hcw.out; omega) (by have := hcw.out; omega) (by omega)
        rw [hpl] at hbld
        refine hbld.mono ?_
        rintro e w10 ⟨a10, n10, c10, R, rfl, hU10, hR10, hb10⟩
        have s10 := hb10.size
        have hKp : Kept p p.length R := hR10.1 (by rw [hp]; exact goodW_piece HG.out m' j)
        have hne := kept_nonempty hKp (by omega)
        obtain ⟨g2, hv2, hO2⟩ : ∃ g2, (Value.slice a10 n10 c10) = .slice (some ⟨g2, 0, none⟩) R.length c10 ∧ OwnE w10 w9.heap.size g2 c10 R := by
          rcases hU10 with ⟨_, q⟩ | ⟨g2, cp2, q, hq⟩
          · rw [q] at hne; simp at hne
          · have hc : c10 = cp2 := by simp only [Value.slice.injEq] at q; exact q.2.2
            subst hc
            exact ⟨g2, q, hq⟩
        rw [hv2]
        have HK10 : Hid (KInv wc ws m' k' g cp l w10) := HK.out.call hb10
        have HU : Hid (OwnE w10 w9.heap.size g2 c10 R ∧ Kept p p.length R ∧ Below w9.heap.size w9 w10) := ⟨hO2, hKp, hb10⟩
        obtain ⟨W5, hW5⟩ : ∃ W5 : World, W5 = w10.alloc (Obj.cells #[.slice (some ⟨g2, 0, none⟩) R.length c10] 30) := ⟨_, rfl⟩
        have hb5 : Below w10.heap.size w10 W5 := by rw [hW5]; exact (Below.refl _ _).alloc (Nat.le_refl _) _
        have hz5 : W5.heap.size = w10.heap.size + 1 := by rw [hW5]; simp
        have HK5 : Hid (KInv wc ws m' k' g cp l W5) := HK10.out.call hb5
        have HO5 : Hid (OwnW W5 wc.heap.size w10.heap.size 1 [⟨g2, 0, c10, R⟩]) := by
          show OwnW W5 wc.heap.size w10.heap.size 1 [⟨g2, 0, c10, R⟩]
          rw [hW5]
          exact World.ownsRow_lit w10 #[.slice (some ⟨g2, 0, none⟩) R.length c10] 1 (by omega) (by decide) rfl
        have hcnt : l.length ≤ 100 := by have := HK.out.cnt; omega
        clear hv2 hU10 hR10 hO2 hKp hne hpE hbld hp
        go_wp2_with (at_builtin; rw [← hW5]; refine wpList_append_runs _ rfl _ _ rfl wc.heap.size w10.heap.size 1 1 g l.length cp [⟨g2, 0, c10, R⟩] l rfl rfl rfl rfl ?hO ?hc ?hl ?hb ?_)
        case hO => exact HO5.out
        case hc => exact fun i r' hr' => HK5.out.row.cell hr'
        case hl => simp; omega
        case hb => exact HK5.out.below.size
        intro g' cp' w11 hO' hgr hat
        rw [← hW5] at hgr
        rw [← hz5] at hat
        have HK11 : Hid (KInv wc ws (m' + j) (k' + 1) g' cp' (⟨g2, 0, c10, R⟩ :: l) w11) :=
          HK.out.step HG.out HW1.out.2 hj1 (by have := HN.out; omega) HU.out.1 HU.out.2.2 (by rw [← HP.out]; exact HU.out.2.1) hb5 hz5 hO' hgr hat
        clear hO' hgr hat HO5 HK5 hb5 hz5 hW5 HU HK10 HK hb10
        go_wp2_with fail
        go_roundw
        case rel => exact ⟨m' + j, k' + 1, g', cp', ⟨g2, 0, c10, R⟩ :: l, by simp [Nat.add_comm], by go_num, by go_num, HK11.out⟩
        case measure => go_light; simp [intOf]; omega
      · obtain rfl : m' = N := by omega
        have zl : ¬ (m' : Int) < (m' : Int) := by omega
        by_cases h50 : 50 < l.length
        · have z50 : (50 : Int) < (l.length : Int) := by omega
          go_wp2_with fail
          go_ret
          exact ⟨rfl, kc.trans (HK.out.below.mono (by have := kc.size; omega))⟩
        · have z50 : ¬ (50 : Int) < (l.length : Int) := by omega
          have hk' : Below wc.heap.size wc wr := HK.out.below
          have sr := hk'.size
          obtain rfl := HM.out.1
          have hgr := HK.out.row.lt
          have HR : Hid (RmsAt wr g 0 l ∧ okM l ∧ GoodRs (esM l) ∧ Cuts ws (esM l)) := by
            refine ⟨HK.out.rms, HK.out.ok, ⟨by simp; omega, HK.out.good⟩, ?_⟩
            have := HK.out.cuts
            rwa [List.take_of_length_le (by have := HN.out; omega)] at this
          have HRep : Hid (Rep ws ws.length L) := HL.out.2.1 HG.out
          have hcells : ∀ w' : World, Below wr.heap.size wr w' → w'.cell? ⟨w2.heap.size, 0, none⟩ = some (.string lo) ∧ w'.cell? ⟨w2.heap.size, 1, none⟩ = some (.bool hh) ∧ w'.cell? ⟨w2.heap.size, 2, none⟩ = some (.string hi) := by
            intro w' hb'
            have hb'' : Below wc.heap.size wc w' := hk'.trans (hb'.mono sr)
            refine ⟨?_, ?_, ?_⟩
            · rw [hb''.cell (p := ⟨w2.heap.size, 0, none⟩) (by show w2.heap.size < wc.heap.size; omega)]; exact HCc.out.1
            · rw [hb''.cell (p := ⟨w2.heap.size, 1, none⟩) (by show w2.heap.size < wc.heap.size; omega)]; exact HCc.out.2.1
            · rw [hb''.cell (p := ⟨w2.heap.size, 2, none⟩) (by show w2.heap.size < wc.heap.size; omega)]; exact HCc.out.2.2
          have HCells : Hid (∀ w' : World, Below wr.heap.size wr w' → w'.cell? ⟨w2.heap.size, 0, none⟩ = some (.string lo) ∧ w'.cell? ⟨w2.heap.size, 1, none⟩ = some (.bool hh) ∧ w'.cell? ⟨w2.heap.size, 2, none⟩ = some (.string hi)) := hcells
          obtain ⟨c0, c1, c2⟩ := hcells wr (Below.refl _ _)
          clear hcells
          have HMrg : Hid (∀ w' : World, Below wr.heap.size wr w' → Calls Try.prog 11 #[.slice (some ⟨g, 0, none⟩) l.length cp, .agg #[.string lo, .bool hh, .string hi]] w' fun r w'' =>
              ∃ (gm cm : Nat), r = .returned (.slice (some ⟨gm, 0, none⟩) (L.filter fun x => inR lo hh hi x.row).length cm) ∧ OwnC w'' wr.heap.size gm cm (L.filter fun x => inR lo hh hi x.row) ∧ Below w'.heap.size w' w'' ∧ Below wr.heap.size wr w'') := by
            intro w' hb'
            have hs' := hb'.size
            refine (implMerge_core g 0 cp l lo hi hh w' (HR.out.1.below hb' hgr.2) HR.out.2.1 (by omega) (by omega)).mono ?_
            rintro e w'' ⟨gm, cm, M', rfl, hC, hb, hM⟩
            obtain rfl : M' = L.filter fun x => inR lo hh hi x.row := cuts_merge HR.out.2.2.2 HRep.out (hM.1 HR.out.2.2.1)
            exact ⟨gm, cm, rfl, hC.mono hs', hb, hb'.trans (hb.mono hs')⟩
          have HIn : Hid (∀ w' : World, Below wr.heap.size wr w' → Calls Try.prog 18 #[.slice (some ⟨gl, 0, none⟩) L.length cl, .agg #[.string lo, .bool hh, .string hi]] w' fun r w'' =>
              ∃ (gm cm : Nat), r = .returned (.slice (some ⟨gm, 0, none⟩) (L.filter fun x => inR lo hh hi x.row).length cm) ∧ OwnC w'' wr.heap.size gm cm (L.filter fun x => inR lo hh hi x.row) ∧ Below w'.heap.size w' w'' ∧ Below wr.heap.size wr w'') := by
            intro w' hb'
            have hs' := hb'.size
            refine (lwInRange_core gl 0 cl L lo hi hh w' ((HLc.out.below (hk'.trans (hb'.mono sr)) (by omega)).at) (by omega) (by have := HM.out.2; omega)).mono ?_
            rintro e w'' ⟨gm, cm, rfl, hC, hb⟩
            exact ⟨gm, cm, rfl, hC.mono hs', hb, hb'.trans (hb.mono hs')⟩
          have HRp : Hid (∀ w' : World, Below wr.heap.size wr w' → Calls Try.prog 15 #[.slice (some ⟨gw, 0, none⟩) m' cw] w' fun r w'' =>
              ∃ (gm cm : Nat), r = .returned (.slice (some ⟨gm, 0, none⟩) L.length cm) ∧ OwnC w'' wr.heap.size gm cm L ∧ Below w'.heap.size w' w'' ∧ Below wr.heap.size wr w'') := by
            intro w' hb'
            have hs' := hb'.size
            have h1 := hReplay gw 0 cw ws w' (HEc.out.below (hk'.trans (hb'.mono sr)) (by omega)) HW1.out.2 (by omega) (by have := hcw.out; have := HN.out; omega) hcw.out.2 (by have := HN.out; omega)
            rw [HN.out] at h1
            refine h1.mono ?_
            rintro e w'' ⟨gm, cm, R, rfl, hC, hR, hb⟩
            have hLR : puts R = L := (repOf_puts HL.out.2 hR).symm
            rw [hLR] at hC ⊢
            exact ⟨gm, cm, rfl, hC.mono hs', hb, hb'.trans (hb.mono hs')⟩
          have HLr : Hid (∀ w' : World, Below wr.heap.size wr w' → OwnC w' W3.heap.size gl cl L) := fun w' hb' => HLc.out.below (hk'.trans (hb'.mono sr)) (by omega)
          obtain ⟨F, hF⟩ : ∃ F : List Ent, F = L.filter fun x => inR lo hh hi x.row := ⟨_, rfl⟩
          rw [← hF] at HMrg HIn
          clear hF
          go_upto_region 20 with fail
          go_region_with (first
            | (go_at_call 11; refine (HMrg.out _ ?hB).mono ?_; (case hB => (repeat (first | assumption | exact Below.refl _ _ | refine Below.drew ?_))); rintro e20 w20 ⟨gm, cm, rfl, hC20, hb20, b20⟩; have HC20 : Hid (OwnC w20 wr.heap.size gm cm F) := hC20; obtain ⟨d0, d1, d2⟩ := HCells.out w20 b20; clear hC20 hb20)
            | (go_at_call 18; refine (HIn.out _ ?hB).mono ?_; (case hB => (repeat (first | assumption | exact Below.refl _ _ | refine Below.drew ?_))); rintro e21 w21 ⟨gi, ci, rfl, hC21, hb21, b21⟩; have HC21 : Hid (OwnC w21 wr.heap.size gm cm F ∧ OwnC w21 wr.heap.size gi ci F) := ⟨HC20.out.below hb21 HC20.out.lt.2, hC21⟩; clear hC21 hb21)
            | (go_at_call 15; refine (HRp.out _ ?hB).mono ?_; (case hB => (repeat (first | assumption | exact Below.refl _ _ | refine Below.drew ?_))); rintro e23 w23 ⟨gp, cq, rfl, hC23, hb23, b23⟩; have HC23 : Hid (OwnC w23 wr.heap.size gp cq L ∧ OwnC w23 W3.heap.size gl cl L) := ⟨hC23, HLr.out w23 b23⟩; clear hC23 hb23)
            | (go_at_call 10; refine (lwCells_own HC23.out.1 HC23.out.2).mono ?_; rintro e24 w24 ⟨rfl, hb24⟩; have b24 : Below wr.heap.size wr w24 := b23.trans (hb24.mono b23.size); clear hb24)
            | (go_at_call 10; refine (lwCells_own HC21.out.1 HC21.out.2).mono ?_; rintro e22 w22 ⟨rfl, hb22⟩; have b22 : Below wr.heap.size wr w22 := b21.trans (hb22.mono b21.size); clear hb22))
          all_goals go_wp2_with fail
          all_goals go_ret
          all_goals exact ⟨rfl, (kc.trans (hk'.mono (by have := kc.size; omega))).trans (b24.mono (by have := kc.size; omega))⟩
end Go.Proofs.Ytjphalbjimggcae.fnRuns
