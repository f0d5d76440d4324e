/-
  spec.MergeRuns.
-/
import Derived.Test.YtjphalbjimggcaeQSays
import Derived.Test.YtjphalbjimggcaeQCel
namespace Go.Proofs.Ytjphalbjimggcae
open Go.ChangeShapes Go.WideShapes Go.ChangeAt Go.RowKit Go.Deep
set_option linter.unusedVariables false
set_option linter.unusedSimpArgs false
set_option maxRecDepth 100000

theorem ord_long : ∀ (R ws : List Ent), Ord R → (∀ x ∈ R, x ∈ ws) → R.length ≤ ws.length
  | [], _, _, _ => by simp
  | a :: R, ws, h, hs => by
    have h' := List.pairwise_cons.1 h
    obtain ⟨l1, l2, rfl⟩ := List.append_of_mem (hs a (by simp))
    have := ord_long R (l1 ++ l2) h'.2 (fun x hx => by
      have h1 := hs x (List.mem_cons_of_mem _ hx)
      simp only [List.mem_append, List.mem_cons] at h1 ⊢
      rcases h1 with h1 | rfl | h1
      · exact .inl h1
      · have := h'.1 x hx
        rw [keyCmp_self] at this
        omega
      · exact .inr h1)
    simp at this ⊢
    omega
theorem flat_len : ∀ (rs : List (List Ent)), (∀ es ∈ rs, GoodR es) → rs.flatten.length ≤ 10000 * rs.length
  | [], _ => by simp
  | es :: rs, h => by
    have h1 := (h es (by simp)).1.1
    have h2 := flat_len rs (fun x hx => h x (List.mem_cons_of_mem _ hx))
    rw [List.flatten_cons, List.length_append, List.length_cons]
    omega
theorem mrgTo_short {rs : List (List Ent)} {inr : ByteArray → Bool} {i j : Nat} {L : List Ent} (hG : GoodRs rs) (h : MrgTo rs inr i j L) : L.length ≤ 500000 := by
  have h1 := ord_long L rs.flatten h.1 (mrgTo_len h)
  have h2 := flat_len rs hG.2
  have h3 := hG.1
  omega
theorem OwnC.ne_row {w : World} {base g cp base' g' cp' : Nat} {es fs : List Ent} (h : OwnC w base g cp es) (h' : OwnE w base' g' cp' fs) : g ≠ g' := by
  rcases h.2 with ⟨h0, _⟩ | ⟨g1, cap1, cur, hv, _, hc, _⟩
  · cases h0
  · rcases h'.2 with ⟨h0, _⟩ | ⟨g2, cap2, cur2, hv2, _, hc2, _⟩
    · cases h0
    · simp only [Value.slice.injEq, Option.some.injEq, Addr.mk.injEq, and_true, true_and] at hv hv2
      obtain ⟨rfl, rfl⟩ := hv
      obtain ⟨rfl, rfl⟩ := hv2
      intro q
      rw [q, hc2] at hc
      simp at hc
theorem inRange_is (lo hi row : ByteArray) (hh : Bool) {s : Bool} (hs : inR lo hh hi row = s) (w : World) :
    Calls Try.prog 34 #[.agg #[.string lo, .bool hh, .string hi], .string row] w fun e w' => e = .returned (.bool s) ∧ Below w.heap.size w w' := hs ▸ specInRange_core lo hi row hh w
theorem at_of {l : List Rm} {k j : Nat} {r : Rm} {e : Ent} (hr : l[k]? = some r) (he : r.es[j]? = some e) : At (esM l) k j e := ⟨r.es, by rw [List.getElem?_map, hr]; rfl, he⟩
theorem rms_out {w : World} {b off m : Nat} {l : List Rm} {r : Rm} (h : RmsAt w b off l) (hb : b < w.heap.size) (hr : l[m]? = some r) : (∀ n : Out w, n.u.cell? ⟨b, off + m, none⟩ = some (.slice (some ⟨r.b, r.off, none⟩) r.es.length r.cap)) ∧ ∀ n : Out w, r.at n.u :=
  ⟨fun n => (h.below n.out hb m r hr).1, fun n => (h.below n.out hb m r hr).2⟩

set_option maxHeartbeats 16000000 in
theorem specMerge_core (b off cap : Nat) (l : List Rm) (lo hi : ByteArray) (hh : Bool) (w : World) (hR : RmsAt w b off l) (hok : okM l) (hB : b < w.heap.size) (hlen : l.length ≤ 1048576) :
    Calls Try.prog 8 #[.slice (some ⟨b, off, none⟩) l.length cap, .agg #[.string lo, .bool hh, .string hi]] w fun r w' =>
      ∃ (g cp : Nat) (L : List Ent), r = .returned (.slice (some ⟨g, 0, none⟩) L.length cp) ∧ OwnC w' w.heap.size g cp L ∧ Below w.heap.size w w' ∧ L.length ≤ 500000 ∧ MrgOf (esM l) (inR lo hh hi) L := by
  have HR : Hid (RmsAt w b off l) := hR
  have HO : Hid (okM l) := hok
  clear hR hok
  obtain ⟨Wa, hWa⟩ : ∃ Wa : World, Wa = w.alloc (Obj.cells #[.string lo, .bool hh, .string hi] 25) := ⟨_, rfl⟩
  have hba : Below w.heap.size w Wa := by rw [hWa]; exact (Below.refl _ _).alloc (Nat.le_refl _) _
  have hza : Wa.heap.size = w.heap.size + 1 := by rw [hWa]; simp
  have HGa : Hid (Wa.cell? ⟨w.heap.size, 0, none⟩ = some (.string lo) ∧ Wa.cell? ⟨w.heap.size, 1, none⟩ = some (.bool hh) ∧ Wa.cell? ⟨w.heap.size, 2, none⟩ = some (.string hi)) := by
    refine ⟨?_, ?_, ?_⟩ <;> (rw [hWa]; simp)
  obtain ⟨W0, hW0⟩ : ∃ W0 : World, W0 = Wa.alloc (Obj.cells #[] 71) := ⟨_, rfl⟩
  have hb0 : Below Wa.heap.size Wa W0 := by rw [hW0]; exact (Below.refl _ _).alloc (Nat.le_refl _) _
  have hz0 : W0.heap.size = w.heap.size + 1 + 1 := by rw [hW0]; simp [hza]
  have HC0 : Hid (OwnC W0 w.heap.size (w.heap.size + 1) 0 []) := by
    show OwnC W0 w.heap.size (w.heap.size + 1) 0 []
    rw [hW0, ← hza]; exact (ownC_new Wa).mono (by omega)
  have kb0 : Below w.heap.size w W0 := hba.trans (hb0.mono (by omega))
  have HR0 : Hid (RmsAt W0 b off l) := HR.out.below kb0 hB
  go_enter Try.func8, Try.ntmps8
  go_wp2_with fail
  rw [← hWa, ← hW0]
  clear hWa hW0
  refine (goodRuns_core b off cap l _ HR0.out HO.out (by omega) hlen).mono ?_
  rintro e w1 ⟨r, rfl, hr, hb1⟩
  have HG : Hid (r = true ↔ GoodRs (esM l)) := hr
  clear hr
  have hs1 := hb1.size
  have k1 : Below w.heap.size w w1 := kb0.trans (hb1.mono (by omega))
  have HC1 : Hid (OwnC w1 w.heap.size (w.heap.size + 1) 0 []) := HC0.out.below hb1 (by omega)
  cases r
  · have HN : Hid (¬ GoodRs (esM l)) := fun h => Bool.noConfusion (HG.out.2 h)
    go_wp2_with fail
    go_ret
    exact ⟨_, 0, [], rfl, HC1.out, k1, by simp, fun h => absurd h HN.out, fun _ => rfl⟩
  have HGd : Hid (GoodRs (esM l)) := HG.out.1 rfl
  clear HG
  obtain ⟨W1, hW1⟩ : ∃ W1 : World, W1 = w1.alloc (Obj.cells #[] 73) := ⟨_, rfl⟩
  have hbA : Below w1.heap.size w1 W1 := by rw [hW1]; exact (Below.refl _ _).alloc (Nat.le_refl _) _
  have hzA : w1.heap.size < W1.heap.size := by rw [hW1]; simp
  have HL1 : Hid (OwnE W1 w1.heap.size w1.heap.size 0 []) := by
    show OwnE W1 w1.heap.size w1.heap.size 0 []
    rw [hW1]
    exact World.ownsRow_made w1 #[] 0 (Nat.le_refl _) (Nat.zero_le _) (by simp)
  have HR1 : Hid (RmsAt W1 b off l) := (HR0.out.below hb1 (by omega)).below hbA (by omega)
  have HCA : Hid (OwnC W1 w.heap.size (w.heap.size + 1) 0 []) := HC1.out.below hbA (by omega)
  have HRg : Hid (∀ wx, Below W1.heap.size W1 wx → wx.cell? ⟨w.heap.size, 0, none⟩ = some (.string lo) ∧ wx.cell? ⟨w.heap.size, 1, none⟩ = some (.bool hh) ∧ wx.cell? ⟨w.heap.size, 2, none⟩ = some (.string hi)) := by
    intro wx hx
    have hy : Below Wa.heap.size Wa wx := ((hb0.trans (hb1.mono (by omega))).trans (hbA.mono (by omega))).trans (hx.mono (by omega))
    refine ⟨?_, ?_, ?_⟩
    · rw [hy.cell (p := ⟨w.heap.size, 0, none⟩) (by show w.heap.size < Wa.heap.size; omega)]; exact HGa.out.1
    · rw [hy.cell (p := ⟨w.heap.size, 1, none⟩) (by show w.heap.size < Wa.heap.size; omega)]; exact HGa.out.2.1
    · rw [hy.cell (p := ⟨w.heap.size, 2, none⟩) (by show w.heap.size < Wa.heap.size; omega)]; exact HGa.out.2.2
  go_wp2_with fail
  rw [← hW1]
  clear hW1
  go_loopw [6, 7] (fun o i wr => ∃ (k g cp : Nat) (L : List Ent), k ≤ l.length ∧ i = .int .i64 k ∧ o = .slice (some ⟨g, 0, none⟩) L.length cp ∧ OwnE wr w1.heap.size g cp L ∧ MrgTo (esM l) (inR lo hh hi) k 0 L ∧ Below W1.heap.size W1 wr) (fun _ i _ => l.length - (intOf i).toNat)
  case atStart => exact ⟨0, _, 0, [], Nat.zero_le _, rfl, rfl, HL1.out, mrgTo_zero _ _, Below.refl _ _⟩
  case round =>
    obtain ⟨k, g, cp, L, hk, rfl, rfl, hO, hK, hb⟩ := hrel
    obtain ⟨wo, rfl⟩ : ∃ wo : World, wo = wr := ⟨_, rfl⟩
    have HK : Hid (OwnE wo w1.heap.size g cp L ∧ MrgTo (esM l) (inR lo hh hi) k 0 L) := ⟨hO, hK⟩
    have hLl := mrgTo_short HGd.out hK
    have hs := hb.size
    have hg := hO.lt
    clear hO hK
    by_cases hlt : k < l.length
    · obtain ⟨r, hr⟩ : ∃ r, l[k]? = some r := ⟨_, List.getElem?_eq_getElem hlt⟩
      have HRr : Hid (l[k]? = some r ∧ GoodR r.es) := ⟨hr, goodRs_mem HGd.out (List.mem_of_getElem? hr)⟩
      have hrl : r.es.length ≤ 10000 := HRr.out.2.1.1
      clear hr
      have zk : (k : Int) < (l.length : Int) := by omega
      go_wp2_with fail
      go_loopw [6, 8] (fun o i wr => ∃ (j g cp : Nat) (L : List Ent), j ≤ r.es.length ∧ i = .int .i64 j ∧ o = .slice (some ⟨g, 0, none⟩) L.length cp ∧ OwnE wr w1.heap.size g cp L ∧ MrgTo (esM l) (inR lo hh hi) k j L ∧ Below W1.heap.size W1 wr) (fun _ i _ => r.es.length - (intOf i).toNat)
      case atStart => exact ⟨0, _, _, L, Nat.zero_le _, rfl, rfl, HK.out.1, HK.out.2, hb⟩
      case round =>
        clear HK hb hs hg hLl
        obtain ⟨j, g, cp, L, hj, rfl, rfl, hO, hK, hb⟩ := hrel
        obtain ⟨wi, rfl⟩ : ∃ wi : World, wi = wr := ⟨_, rfl⟩
        have HK : Hid (OwnE wi w1.heap.size g cp L ∧ MrgTo (esM l) (inR lo hh hi) k j L) := ⟨hO, hK⟩
        have hLl := mrgTo_short HGd.out hK
        have hs := hb.size
        have hg := hO.lt
        clear hO hK
        have c0 := ((HR1.out.below hb (by omega)) k r HRr.out.1).1
        by_cases hjl : j < r.es.length
        · obtain ⟨e, he⟩ : ∃ e, r.es[j]? = some e := ⟨_, List.getElem?_eq_getElem hjl⟩
          obtain ⟨c1, c2, c3, c4, c5, c6⟩ := ((HR1.out.below hb (by omega)) k r HRr.out.1).2.ents j e he
          have HAt : Hid (At (esM l) k j e) := at_of HRr.out.1 he
          clear he
          obtain ⟨W2, hW2⟩ : ∃ W2 : World, W2 = wi.alloc (Obj.cells #[.string e.row, .string e.fam, .string e.qual, .int .u64 e.ts, .int .i64 e.kind, .string e.val] 73) := ⟨_, rfl⟩
          have hbW : Below wi.heap.size wi W2 := by rw [hW2]; exact (Below.refl _ _).alloc (Nat.le_refl _) _
          have hzW : W2.heap.size = wi.heap.size + 1 := by rw [hW2]; simp
          have HX2 : Hid (EntsAt W2 wi.heap.size 0 [e]) := by show EntsAt W2 wi.heap.size 0 [e]; rw [hW2]; exact ent_box wi e
          have HL2 : Hid (OwnE W2 w1.heap.size g cp L) := HK.out.1.below hbW hg.2
          have hb2 : Below W1.heap.size W1 W2 := hb.trans (hbW.mono hs)
          have zj : (j : Int) < (r.es.length : Int) := by omega
          go_upto_region 12 with fail
          rw [← hW2]
          clear hW2 c0 c1 c2 c3 c4 c5 c6
          obtain ⟨d0, d1, d2, d3, d4, d5⟩ := HX2.out 0 e rfl
          simp only [Nat.zero_add, Nat.zero_mul] at d0 d1 d2 d3 d4 d5
          obtain ⟨q0, q1, q2⟩ := HRg.out W2 hb2
          cases k0 : (e.kind == 0)
          · have HN : Hid (MrgTo (esM l) (inR lo hh hi) k (j + 1) L) := mrgTo_skip HK.out.2 HAt.out (fun q => by have := q.1; simp at k0; exact k0 this)
            go_wp2_with fail
            go_roundw
            case rel => exact ⟨j + 1, g, cp, L, by omega, by go_num, rfl, HL2.out, HN.out, hb2⟩
            case measure => go_light; simp [intOf]; omega
          · go_wp2_with fail
            cases hir : inR lo hh hi e.row
            · have HN : Hid (MrgTo (esM l) (inR lo hh hi) k (j + 1) L) := mrgTo_skip HK.out.2 HAt.out (fun q => by have := q.2.1; rw [hir] at this; cases this)
              refine (inRange_is lo hi e.row hh hir _).mono ?_
              rintro e' w3 ⟨rfl, hb3⟩
              have hs3 := hb3.size
              have hb4 := hb2.trans (hb3.mono (by omega))
              have HL3 : Hid (OwnE w3 w1.heap.size g cp L) := HL2.out.below hb3 (by omega)
              clear d0 d1 d2 d3 d4 d5 q0 q1 q2
              go_wp2_with fail
              go_roundw
              case rel => exact ⟨j + 1, g, cp, L, by omega, by go_num, rfl, HL3.out, HN.out, hb4⟩
              case measure => go_light; simp [intOf]; omega
            · refine (inRange_is lo hi e.row hh hir _).mono ?_
              rintro e' w3 ⟨rfl, hb3⟩
              have hs3 := hb3.size
              have hb4 := hb2.trans (hb3.mono (by omega))
              have HL3 : Hid (OwnE w3 w1.heap.size g cp L) := HL2.out.below hb3 (by omega)
              have HX3 : Hid (EntsAt w3 wi.heap.size 0 [e]) := HX2.out.below hb3 (by omega)
              have HIR : Hid (e.kind = 0 ∧ inR lo hh hi e.row = true) := ⟨by simpa using k0, hir⟩
              clear d0 d1 d2 d3 d4 d5 q0 q1 q2
              go_wp2_with fail
              go_loopw [10, 11] (fun o i wr => ∃ (m : Nat) (hd : Bool), m ≤ k ∧ i = .int .i64 m ∧ o = .bool hd ∧ (hd = true ↔ HidTo (esM l) m e) ∧ Below w3.heap.size w3 wr) (fun _ i _ => k - (intOf i).toNat)
              case atStart => exact ⟨0, false, Nat.zero_le _, rfl, rfl, iffF (hidTo_zero _ _), Below.refl _ _⟩
              case round =>
                obtain ⟨m, hd, hm, rfl, rfl, hH, hbm⟩ := hrel
                have HH : Hid (hd = true ↔ HidTo (esM l) m e) := hH
                have hsm := hbm.size
                clear hH
                have hbm4 : Below W1.heap.size W1 wr := hb4.trans (hbm.mono (by omega))
                by_cases hmk : m < k
                · obtain ⟨r', hr'⟩ : ∃ r', l[m]? = some r' := ⟨_, List.getElem?_eq_getElem (by omega)⟩
                  have hg' := goodRs_mem HGd.out (List.mem_of_getElem? hr')
                  have hl' : r'.es.length ≤ 1048576 := by have := hg'.1.1; omega
                  obtain ⟨y0, y1⟩ := rms_out (HR1.out.below hbm4 (by omega)) (by omega) hr'
                  obtain ⟨x0, x1, x2, x3, x4, x5⟩ := ents_out (HX3.out.below hbm (by omega)) (by omega) (rfl : [e][0]? = some e)
                  simp only [Nat.zero_add, Nat.zero_mul] at x0 x1 x2 x3 x4 x5
                  have HY : Hid (∀ n : Out wr, r'.at n.u) := y1
                  have HS : Hid (HidTo (esM l) (m + 1) e ↔ HidTo (esM l) m e ∨ (saysF e r'.es 0).1 ≠ 0) := by
                    have h1 := hidTo_succ (rs := esM l) (k := m) (x := e) (ds := r'.es) (by rw [List.getElem?_map, hr']; rfl)
                    have h2 := saysF_kills e r'.es 0 hg'.1.2
                    show _ ↔ _
                    rw [h1, h2]; simp
                  clear y1 hr' hg'
                  have zm : (m : Int) < (l.length : Int) := by omega
                  have inh : Nonempty (Out wr) := ⟨⟨wr, Below.refl _ _⟩⟩
                  go_upto_region 17 with fail
                  refine wp_region_out (by kernel_rfl) (by kernel_rfl) ?_
                  repeat (go_big_quiet_step ((go_at_call 35; exact Calls.out_of (says_core r' e _ (HY.out _) hl'))))
                  refine wpQuiet_nil ?_
                  rintro wy ⟨⟨wx, hby⟩, rfl⟩
                  clear x0 x1 x2 x3 x4 x5 y0
                  have hby' := hbm.trans (hby.mono hsm)
                  generalize (saysF e r'.es 0).1 = sx at *
                  generalize (saysF e r'.es 0).2 = sv at *
                  cases hd
                  · cases hsx : (sx != 0)
                    · have HN : Hid (false = true ↔ HidTo (esM l) (m + 1) e) := iffF (fun q => by
                        rcases HS.out.1 q with q | q
                        · exact Bool.noConfusion (HH.out.2 q)
                        · simp at hsx; exact q hsx)
                      go_wp2_with fail
                      go_roundw
                      case rel => exact ⟨m + 1, false, by omega, by go_num, rfl, HN.out, hby'⟩
                      case measure => go_light; simp [intOf]; omega
                    · have HN : Hid (true = true ↔ HidTo (esM l) (m + 1) e) := iffT (HS.out.2 (.inr (by simpa using hsx)))
                      go_wp2_with fail
                      go_roundw
                      case rel => exact ⟨m + 1, true, by omega, by go_num, rfl, HN.out, hby'⟩
                      case measure => go_light; simp [intOf]; omega
                  · have HN : Hid (true = true ↔ HidTo (esM l) (m + 1) e) := iffT (HS.out.2 (.inl (HH.out.1 rfl)))
                    go_wp2_with fail
                    go_roundw
                    case rel => exact ⟨m + 1, true, by omega, by go_num, rfl, HN.out, hby'⟩
                    case measure => go_light; simp [intOf]; omega
                · obtain rfl : m = k := by omega
                  have HLm : Hid (OwnE wr w1.heap.size g cp L) := HL3.out.below hbm (by omega)
                  have HXm : Hid (EntsAt wr wi.heap.size 0 [e]) := HX3.out.below hbm (by omega)
                  have zmk : ¬ (m : Int) < (m : Int) := by omega
                  cases hd
                  · have HN : Hid (MrgTo (esM l) (inR lo hh hi) m (j + 1) (into L e)) := mrgTo_put HGd.out HK.out.2 HAt.out ⟨HIR.out.1, HIR.out.2, fun q => Bool.noConfusion (HH.out.2 q)⟩
                    obtain ⟨d0, d1, d2, d3, d4, d5⟩ := HXm.out 0 e rfl
                    simp only [Nat.zero_add, Nat.zero_mul] at d0 d1 d2 d3 d4 d5
                    go_wp2_with fail
                    refine (into_core g 0 cp L e _ HLm.out.at (by omega) (by omega)).mono ?_
                    rintro e' w5 ⟨g', cp', rfl, hO', hb5⟩
                    have HO' : Hid (OwnE w5 w1.heap.size g' cp' (into L e)) := hO'.mono (by omega)
                    have hb6 := hbm4.trans (hb5.mono (by omega))
                    clear hO' d0 d1 d2 d3 d4 d5
                    go_wp2_with fail
                    go_roundw
                    case rel => exact ⟨j + 1, g', cp', into L e, by omega, by go_num, rfl, HO'.out, HN.out, hb6⟩
                    case measure => go_light; simp [intOf]; omega
                  · have HN : Hid (MrgTo (esM l) (inR lo hh hi) m (j + 1) L) := mrgTo_skip HK.out.2 HAt.out (fun q => q.2.2 (HH.out.1 rfl))
                    go_wp2_with fail
                    go_roundw
                    case rel => exact ⟨j + 1, g, cp, L, by omega, by go_num, rfl, HLm.out, HN.out, hbm4⟩
                    case measure => go_light; simp [intOf]; omega
        · have HN : Hid (MrgTo (esM l) (inR lo hh hi) (k + 1) 0 L) := mrgTo_row HK.out.2 (es := r.es) (by rw [List.getElem?_map, HRr.out.1]; rfl) (by omega)
          have zj : ¬ (j : Int) < (r.es.length : Int) := by omega
          go_wp2_with fail
          go_roundw
          case rel => exact ⟨k + 1, g, cp, L, by omega, by go_num, rfl, HK.out.1, HN.out, hb⟩
          case measure => go_light; simp [intOf]; omega
    · have HKK : Hid (MrgOf (esM l) (inR lo hh hi) L) := by
        refine ⟨fun _ => mrg_of_to HK.out.2 (by simp; omega), fun h => absurd HGd.out h⟩
      have hbw : Below w.heap.size w wo := (k1.trans (hbA.mono (by omega))).trans (hb.mono (by omega))
      have HCo : Hid (OwnC wo w.heap.size (w.heap.size + 1) 0 []) := HCA.out.below hb (by omega)
      have zk : ¬ (k : Int) < (l.length : Int) := by omega
      go_wp2_with fail
      go_loopw [5, 14] (fun o i wr => ∃ (m g5 cp5 : Nat), m ≤ L.length ∧ i = .int .i64 m ∧ o = .slice (some ⟨g5, 0, none⟩) m cp5 ∧ OwnC wr w.heap.size g5 cp5 (L.take m) ∧ OwnE wr w1.heap.size g cp L ∧ Below w.heap.size w wr) (fun _ i _ => L.length - (intOf i).toNat)
      case atStart => exact ⟨0, _, 0, Nat.zero_le _, rfl, rfl, HCo.out, HK.out.1, hbw⟩
      case round =>
        obtain ⟨m, g5, cp5, hm, rfl, rfl, hC, hL, hbm⟩ := hrel
        have HM : Hid (OwnC wr w.heap.size g5 cp5 (L.take m) ∧ OwnE wr w1.heap.size g cp L) := ⟨hC, hL⟩
        have hg5 := hC.lt
        have hgl := hL.lt
        have hne := hC.ne_row hL
        have hsm := hbm.size
        have HTM : Hid (m = (L.take m).length) := by show m = (L.take m).length; rw [List.length_take]; omega
        clear hC hL
        by_cases hlt : m < L.length
        · obtain ⟨x, hx⟩ : ∃ x, L[m]? = some x := ⟨_, List.getElem?_eq_getElem hlt⟩
          have HX : Hid (L.take (m + 1) = L.take m ++ [x]) := by show L.take (m + 1) = L.take m ++ [x]; rw [List.take_add_one, hx]; rfl
          obtain ⟨c0, c1, c2, c3, c4, c5⟩ := HM.out.2.at m x hx
          simp only [Nat.zero_add, Nat.zero_mul] at c0 c1 c2 c3 c4 c5
          clear hx
          go_wp2_with fail
          refine (specCell_any x _).mono ?_
          rintro e' w3 ⟨rfl, hb3⟩
          have hs3 := hb3.size
          have HM3 : Hid (OwnC w3 w.heap.size g5 cp5 (L.take m) ∧ OwnE w3 w1.heap.size g cp L) := ⟨HM.out.1.below hb3 hg5.2, HM.out.2.below hb3 hgl.2⟩
          have hbm3 : Below w.heap.size w w3 := hbm.trans (hb3.mono (by omega))
          clear c0 c1 c2 c3 c4 c5 hb3
          go_wp2_with (at_builtin; refine wpList_append_cel _ rfl _ _ rfl w.heap.size g5 cp5 _ _ (L.take m) x rfl rfl HTM.out ?hO ?hc ?hl ?hb ?_)
          case hO => exact HM3.out.1.below ((Below.refl _ _).alloc (Nat.le_refl _) _) (by omega)
          case hc => exact cel_new w3 x
          case hl => rw [← HTM.out]; omega
          case hb => simp; omega
          intro g' cp' w' hO' hgr
          have HO' : Hid (OwnC w' w.heap.size g' cp' (L.take (m + 1))) := by show OwnC w' w.heap.size g' cp' (L.take (m + 1)); rw [HX.out]; exact hO'
          have hb' : Below w.heap.size w w' := (hbm3.alloc hbm3.size _).grown hgr (by simp; omega) (fun j hj => by cases hj; omega)
          have HL' : Hid (OwnE w' w1.heap.size g cp L) := World.ownsRow.kept (HM3.out.2.below ((Below.refl _ _).alloc (Nat.le_refl _) _) (by omega)) hgr (.inr (fun q => hne (Option.some.inj q).symm))
          clear hO' hgr
          go_wp2_with fail
          go_roundw
          case rel => exact ⟨m + 1, g', cp', by omega, by go_num, rfl, HO'.out, HL'.out, hb'⟩
          case measure => go_light; simp [intOf]; omega
        · have HT : Hid (L.take m = L) := List.take_of_length_le (by omega)
          go_wp2_with fail
          go_ret
          refine ⟨g5, cp5, L, ?_, ?_, hbm, hLl, HKK.out⟩
          · have e1 : m = L.length := by omega
            show Ending.returned (Value.slice (some ⟨g5, 0, none⟩) m cp5) = _
            rw [e1]
          · have h := HM.out.1
            rw [HT.out] at h
            exact h
end Go.Proofs.Ytjphalbjimggcae
