/-
  The draws: the runs and the range of a merge.
-/
import Derived.Test.YtjphalbjimggcaePkAJ
import Derived.Test.YtjphalbjimggcaeQDraw6
import Derived.Deep.DeepCutAuto
import Derived.Deep.CutRange
namespace Go.Proofs.Ytjphalbjimggcae
open Go.ChangeShapes Go.WideShapes Go.ChangeAt Go.RowKit Go.Deep
set_option linter.unusedVariables false
set_option linter.unusedSimpArgs false
set_option maxRecDepth 100000

theorem OwnW.mono {w : World} {base base' g cp : Nat} {l : List Rm} (h : OwnW w base g cp l) (hb : base' ≤ base) : OwnW w base' g cp l := by
  refine ⟨h.1, ?_⟩
  rcases h.2 with h0 | ⟨g', cap', cur, hv, h1, h2⟩
  · exact .inl h0
  · exact .inr ⟨g', cap', cur, hv, Nat.le_trans hb h1, h2⟩
theorem CodeAt.slice {w : World} {base : Nat} {bv : Value} {n : Nat} (h : CodeAt w base bv n) : ∃ a cap, bv = .slice a n cap := by
  rcases h.2 with ⟨a, cap, rfl, rfl⟩ | ⟨b, off, cap, rfl, _⟩
  · exact ⟨_, _, rfl⟩
  · exact ⟨_, _, rfl⟩
theorem CodeAt.up {w w' : World} {bv : Value} {n : Nat} (h : CodeAt w w.heap.size bv n) (hb : Below w.heap.size w w') : CodeAt w' w'.heap.size bv n := by
  refine ⟨h.1, ?_⟩
  rcases h.2 with h | ⟨b, off, cap, rfl, hlt, hc⟩
  · exact .inl h
  · refine .inr ⟨b, off, cap, rfl, by have := hb.size; omega, fun k hk => ?_⟩
    obtain ⟨x, h1, h2⟩ := hc k hk
    exact ⟨x, by rw [hb.cell (p := ⟨b, off + k, none⟩) hlt]; exact h1, h2⟩
/-- One run of the row is spoilt. -/
theorem RInv.spoil {base cb : Nat} {bv : Value} {n : Nat} {w : World} {g cp : Nat} {l : List Rm} {wr w1 : World} (h : RInv base cb bv n w g cp l wr) {r r' : Rm} (hr : l[0]? = some r) (hl : r.es.length ≤ 100) (hs : SpoilOf wr r.b r.es r' w1) (hd : Drew base cb bv n wr w1) : RInv base cb bv n w g cp (l.set 0 r') (w1.setCell ⟨g, 0, none⟩ r'.u) := by
  have h1 := h.call hd
  have hg := h.row.lt
  have hcb := h.lt
  have hbb := h.hb
  have hrb := h.ats r (List.mem_of_getElem? hr)
  have hz := hd.2.size
  have hcs := h.c.size
  have hcg : Chg (fun k => k = g) w1 (w1.setCell ⟨g, 0, none⟩ r'.u) := Chg.of_set _ _ _ _ rfl
  have hlr := hrb.at_.lt
  refine ⟨h1.row.set 0 r', ?_, h1.d.chg hcg (by omega) (fun k q => by omega), Chg.grown_new h1.c (grown_set w1 g 0 _) (fun k hk => by cases hk; omega), h.lt, h.hb⟩
  intro x hx
  rcases List.mem_or_eq_of_mem_set hx with q | rfl
  · exact (h1.ats x q).chg hcg (h1.ats x q).ne
  · have hne : ¬ x.b = g := by
      rcases hs.blk with q | q
      · rw [q]; exact hrb.ne
      · omega
    refine ⟨hs.at_.chg hcg hne, hs.ok, by have := hs.len; omega, hne, ?_⟩
    rcases hs.blk with q | q
    · rw [q]; exact hrb.new
    · omega
/-- One more run. -/
theorem RInv.push {base cb : Nat} {bv : Value} {n : Nat} {w : World} {g cp : Nat} {l : List Rm} {wr w1 w2 : World} {o : Obj} {g2 cp2 : Nat} {R : List Ent} (h : RInv base cb bv n w g cp l wr) (hL : LInv base cb bv n wr g2 cp2 R w1) (hR : R.length ≤ 100) {g' cp' : Nat}
    (hO : OwnW w2 w.heap.size g' cp' (l ++ [⟨g2, 0, cp2, R⟩])) (hgr : (w1.alloc o).grownBy w2 (some g)) (hat : g' = g ∨ g' = w1.heap.size + 1) : RInv base cb bv n w g' cp' (l ++ [⟨g2, 0, cp2, R⟩]) w2 := by
  have hb : Below w1.heap.size w1 (w1.alloc o) := (Below.refl _ _).alloc (Nat.le_refl _) _
  have h1 := (h.call ⟨hL.d, hL.c⟩).below hb
  have hg := h.row.lt
  have hcb := h.lt
  have hbb := h.hb
  have hz := hL.c.size
  have hzo : (w1.alloc o).heap.size = w1.heap.size + 1 := by simp
  have hcs := h.c.size
  have hg2 := hL.row.lt
  have hcg : Chg (fun k => k = g) (w1.alloc o) w2 := Chg.of_grown hgr (fun k hk => by cases hk; rfl)
  have hcap : R.length ≤ cp2 ∧ cp2 ≤ maxLen := by
    rcases hL.row.2 with ⟨h0, _⟩ | ⟨g', cap', cur, hv, _, _, hn, hcap, _, _⟩
    · cases h0
    · simp only [Value.slice.injEq, Option.some.injEq, Addr.mk.injEq, and_true, true_and] at hv
      obtain ⟨rfl, rfl⟩ := hv
      exact ⟨hn, hcap⟩
  refine ⟨hO, ?_, h1.d.chg hcg (by omega) (fun k q => by omega), Chg.grown_new h1.c hgr (fun k hk => by cases hk; omega), h.lt, h.hb⟩
  intro x hx
  rcases List.mem_append.1 hx with q | q
  · have h0 := h.ats x q
    have h2 := h1.ats x q
    have hl := h0.at_.lt
    refine ⟨h2.at_.chg hcg h2.ne, h2.ok, h2.len, ?_, h2.new⟩
    rcases hat with rfl | rfl
    · exact h2.ne
    · omega
  · simp at q
    subst q
    have ha : (⟨g2, 0, cp2, R⟩ : Rm).at w1 := ⟨hL.row.at, hL.row.lt.2, hcap.1, hcap.2⟩
    refine ⟨(ha.below hb).chg hcg (by show ¬ g2 = g; omega), hL.ok, by show R.length ≤ 101; omega, ?_, by show w.heap.size ≤ g2; omega⟩
    show ¬ g2 = g'
    omega

/-- The range's two variables, beside the runs and the drawing. -/
structure MX (bv : Value) (n : Nat) (w : World) (vb g cp : Nat) (l : List Rm) (vs zs : List Value) (wr : World) : Prop where
  row : OwnW wr (w.heap.size + 2) g cp l
  ats : ∀ r ∈ l, r.drawn (w.heap.size + 2) g wr
  gv : ¬ g = vb
  rv : ∀ r ∈ l, ¬ r.b = vb
  var : wr.ownsRow (w.heap.size + 2) 25 3 (.slice (some ⟨vb, 0, none⟩) 1 1) 1 vs
  res : wr.ownsRow w.heap.size 25 3 (.slice (some ⟨w.heap.size, 0, none⟩) 1 1) 1 zs
  below : Below w.heap.size w wr
theorem MX.chg {bv : Value} {n : Nat} {w : World} {vb g cp : Nat} {l : List Rm} {vs zs : List Value} {wr w1 : World} (h : MX bv n w vb g cp l vs zs wr) (hd : Drew (w.heap.size + 1) (w.heap.size + 1) bv n wr w1) : MX bv n w vb g cp l vs zs w1 := by
  have hg := h.row.lt
  have hv := World.ownsRow.lt h.var vb rfl
  have hs := h.below.size
  exact ⟨h.row.chg hd.2 (by omega), fun r hr => (h.ats r hr).chg hd.2 (by have := (h.ats r hr).new; omega), h.gv, h.rv, own_chg h.var hd.2 (fun k q => by simp [Value.ownBlock] at q; subst q; omega), own_chg h.res hd.2 (fun k q => by simp [Value.ownBlock] at q; subst q; omega), Chg.below h.below hd.2 hs (fun k q => by omega)⟩
theorem MX.drew {bv : Value} {n : Nat} {w : World} {vb g cp : Nat} {l : List Rm} {vs zs : List Value} {wr : World} (h : MX bv n w vb g cp l vs zs wr) : MX bv n w vb g cp l vs zs wr.drew := by
  have hb : Below wr.heap.size wr wr.drew := (Below.refl _ _).drew
  have hc : Chg (fun _ => False) wr wr.drew := Chg.of_below hb
  exact ⟨h.row.chg hc id, fun r hr => (h.ats r hr).chg hc id, h.gv, h.rv, own_chg h.var hc (fun k _ q => q), own_chg h.res hc (fun k _ q => q), h.below.trans (hb.mono h.below.size)⟩
theorem MX.set {bv : Value} {n : Nat} {w : World} {vb g cp : Nat} {l : List Rm} {vs zs : List Value} {wr : World} (h : MX bv n w vb g cp l vs zs wr) (j : Nat) (u : Value) : MX bv n w vb g cp l (vs.set j u) zs (wr.setCell ⟨vb, j, none⟩ u) := by
  have hg := h.row.lt
  have hv := World.ownsRow.lt h.var vb rfl
  have hs := h.below.size
  have hcg : Chg (fun k => k = vb) wr (wr.setCell ⟨vb, j, none⟩ u) := Chg.of_set _ _ _ _ rfl
  exact ⟨h.row.chg hcg h.gv, fun r hr => (h.ats r hr).chg hcg (h.rv r hr), h.gv, h.rv, (World.ownsRow.stored h.var j u).1, own_chg h.res hcg (fun k q => by simp [Value.ownBlock] at q; subst q; omega), Chg.below h.below hcg hs (fun k q => by omega)⟩
theorem MX.setRes {bv : Value} {n : Nat} {w : World} {vb g cp : Nat} {l : List Rm} {vs zs : List Value} {wr : World} (h : MX bv n w vb g cp l vs zs wr) (j : Nat) (u : Value) : MX bv n w vb g cp l vs (zs.set j u) (wr.setCell ⟨w.heap.size, j, none⟩ u) := by
  have hg := h.row.lt
  have hv := World.ownsRow.lt h.var vb rfl
  have hs := h.below.size
  have hcg : Chg (fun k => k = w.heap.size) wr (wr.setCell ⟨w.heap.size, j, none⟩ u) := Chg.of_set _ _ _ _ rfl
  exact ⟨h.row.chg hcg (by omega), fun r hr => (h.ats r hr).chg hcg (by have := (h.ats r hr).new; omega), h.gv, h.rv, own_chg h.var hcg (fun k q => by simp [Value.ownBlock] at q; subst q; omega), (World.ownsRow.stored h.res j u).1, Chg.below h.below hcg hs (fun k q => by omega)⟩
theorem MX.cell {bv : Value} {n : Nat} {w : World} {vb g cp : Nat} {l : List Rm} {vs zs : List Value} {wr : World} (h : MX bv n w vb g cp l vs zs wr) (j : Nat) (hj : j < 3) : wr.cell? ⟨vb, j, none⟩ = vs[j]? ∧ wr.frozen? ⟨vb, j, none⟩ = false :=
  ⟨World.ownsRow.cellAt h.var j (by omega), World.ownsRow.frozenAt h.var j⟩
theorem MX.cellRes {bv : Value} {n : Nat} {w : World} {vb g cp : Nat} {l : List Rm} {vs zs : List Value} {wr : World} (h : MX bv n w vb g cp l vs zs wr) (j : Nat) (hj : j < 3) : wr.cell? ⟨w.heap.size, j, none⟩ = zs[j]? ∧ wr.frozen? ⟨w.heap.size, j, none⟩ = false :=
  ⟨World.ownsRow.cellAt h.res j (by omega), World.ownsRow.frozenAt h.res j⟩

/-- What a drawing of a merge gives. -/
structure DrawnM (w : World) (g cp : Nat) (l : List Rm) (w' : World) : Prop where
  row : OwnW w' w.heap.size g cp l
  ats : ∀ r ∈ l, r.drawn w.heap.size g w'
  len : l.length ≤ 200
  below : Below w.heap.size w w'

theorem MX.drawn {bv : Value} {n : Nat} {w : World} {vb g cp : Nat} {l : List Rm} {vs zs : List Value} {wr : World} (h : MX bv n w vb g cp l vs zs wr) (hl : l.length ≤ 200) : DrawnM w g cp l wr :=
  ⟨OwnW.mono h.row (by omega), fun r hr => by have := h.ats r hr; exact ⟨this.at_, this.ok, this.len, this.ne, by have := this.new; omega⟩, hl, h.below⟩

set_option maxHeartbeats 8000000 in
theorem drawMerge_core (bv : Value) (n : Nat) (w : World) (h : CodeAt w w.heap.size bv n) :
    Calls Try.prog 6 #[bv] w fun x w' => ∃ (g cp : Nat) (l : List Rm) (lo hi : ByteArray) (hh : Bool), x = .returned (.tuple #[.slice (some ⟨g, 0, none⟩) l.length cp, .agg #[.string lo, .bool hh, .string hi]]) ∧ DrawnM w g cp l w' := by
  obtain ⟨a, cap, rfl⟩ := h.slice
  have hn := h.1
  obtain ⟨Wa, hWa⟩ : ∃ Wa : World, Wa = w.alloc (Obj.cells #[.string ⟨#[]⟩, .bool false, .string ⟨#[]⟩] 25) := ⟨_, rfl⟩
  have hba : Below w.heap.size w Wa := by rw [hWa]; exact (Below.refl _ _).alloc (Nat.le_refl _) _
  have hza : Wa.heap.size = w.heap.size + 1 := by rw [hWa]; simp
  have HC : Hid (CodeAt Wa Wa.heap.size (.slice a n cap) n) := h.up hba
  clear h
  go_enter Try.func6, Try.ntmps6
  go_wp2_with fail
  rw [← hWa]
  refine (new_core _ n Wa HC.out).mono ?_
  rintro e w1 ⟨rfl, hd1, hb1⟩
  have hz1 := hb1.size
  rw [hza] at hd1 hz1
  have HD1 : Hid (DrawAt (w.heap.size + 1) (w.heap.size + 1) (.slice a n cap) n w1) := hd1
  have hcb1 := hd1.lt
  clear hd1
  go_wp2_with fail
  refine (size_core a n cap w1 hn).mono ?_
  rintro e w1' ⟨k, rfl, hk, hw⟩
  rw [hw]
  clear hw w1'
  go_wp2_with fail
  refine (l3Runs_core (w.heap.size + 1) (w.heap.size + 1) (.slice a n cap) n k w1 HD1.out (Nat.le_trans hk (by decide))).mono ?_
  rintro e w2 ⟨g, cp, l, rfl, hl, hsh, hR2⟩
  have HSh : Hid (∀ r ∈ l, r.es.length ≤ 100) := hsh
  clear hsh
  have HR2 : Hid (RInv (w.heap.size + 1) (w.heap.size + 1) (.slice a n cap) n w1 g cp l w2) := hR2
  clear hR2
  go_upto_region 3 with fail
  go_cut [20] (fun s wx => ∃ b : Bool, s = .bool b ∧ (b = true → 0 < l.length) ∧ RInv (w.heap.size + 1) (w.heap.size + 1) (.slice a n cap) n w1 g cp l wx)
  case first =>
    go_wp2_with fail
    refine (once_core _ _ _ n 15 _ HR2.out.d (by omega) (by omega)).mono ?_
    rintro e w3 ⟨v, rfl, hv, hd3⟩
    have H3 : Hid (RInv (w.heap.size + 1) (w.heap.size + 1) (.slice a n cap) n w1 g cp l w3) := HR2.out.call hd3
    clear hd3
    rcases hv with rfl | rfl
    · go_wp2_with fail
      go_meet
      exact ⟨decide (0 < l.length), rfl, by simp, H3.out⟩
    · go_wp2_with fail
      go_meet
      exact ⟨false, rfl, (fun q => by cases q), H3.out⟩
  case rest =>
    obtain ⟨b, rfl, hb0, hR3⟩ := hcut
    have HR3 : Hid (RInv (w.heap.size + 1) (w.heap.size + 1) (.slice a n cap) n w1 g cp l wc) := hR3
    clear hR3
    go_upto_if 20 with fail
    go_cut [] (fun wx => ∃ l' : List Rm, l'.length = l.length ∧ RInv (w.heap.size + 1) (w.heap.size + 1) (.slice a n cap) n w1 g cp l' wx)
    case first =>
      cases b
      · go_wp2_with fail
        go_meet
        exact ⟨l, rfl, HR3.out⟩
      · obtain ⟨r, hr⟩ : ∃ r, l[0]? = some r := ⟨_, List.getElem?_eq_getElem (hb0 rfl)⟩
        have HA : Hid (l[0]? = some r ∧ r.drawn w1.heap.size g wc) := ⟨hr, HR3.out.ats r (List.mem_of_getElem? hr)⟩
        have c0 := HR3.out.row.cell hr
        have hl0 := hb0 rfl
        clear hr
        go_wp2_with fail
        refine (spoilR_core _ _ _ n r wc HR3.out.d HA.out.2.at_ HA.out.2.ok (by have := HSh.out r (List.mem_of_getElem? HA.out.1); omega) (by have := HA.out.2.new; have := HR3.out.lt; omega)).mono ?_
        rintro e w4 ⟨r', rfl, hs4, hd4⟩
        have H4 : Hid (RInv (w.heap.size + 1) (w.heap.size + 1) (.slice a n cap) n w1 g cp (l.set 0 r') (w4.setCell ⟨g, 0, none⟩ r'.u)) := HR3.out.spoil HA.out.1 (HSh.out r (List.mem_of_getElem? HA.out.1)) hs4 hd4
        have H4b := (HR3.out.call hd4).row
        have c4 := H4b.cell HA.out.1
        have f4 : w4.frozen? ⟨g, 0, none⟩ = false := World.ownsRow.frozenAt H4b 0
        clear hs4 hd4 H4b c0
        go_wp2_with fail
        go_meet
        exact ⟨l.set 0 r', by simp, H4.out⟩
    case rest =>
      obtain ⟨l', hll, hR5⟩ := hcut
      have HR5 : Hid (RInv (w.heap.size + 1) (w.heap.size + 1) (.slice a n cap) n w1 g cp l' wc) := hR5
      clear hR5 HR3 HSh
      rw [← hll]
      have hl' : l'.length ≤ 100 := by omega
      clear hll hl hb0
      go_upto_region 5 with fail
      go_cut [29] (fun s wx => ∃ b : Bool, s = .bool b ∧ RInv (w.heap.size + 1) (w.heap.size + 1) (.slice a n cap) n w1 g cp l' wx)
      case first =>
        go_wp2_with fail
        refine (once_core _ _ _ n 40 _ HR5.out.d (by omega) (by omega)).mono ?_
        rintro e w3 ⟨v, rfl, hv, hd3⟩
        have H3 : Hid (RInv (w.heap.size + 1) (w.heap.size + 1) (.slice a n cap) n w1 g cp l' w3) := HR5.out.call hd3
        clear hd3
        go_wp2_with fail
        go_meet
        rcases hv with rfl | rfl
        · exact ⟨true, rfl, H3.out⟩
        · exact ⟨false, rfl, H3.out⟩
      case rest =>
        obtain ⟨b, rfl, hR6⟩ := hcut
        have HR6 : Hid (RInv (w.heap.size + 1) (w.heap.size + 1) (.slice a n cap) n w1 g cp l' wc) := hR6
        clear hR6 HR5
        go_upto_if 29 with fail
        go_cut [5] (fun s wx => ∃ (g cp : Nat) (l : List Rm), s = .slice (some ⟨g, 0, none⟩) l.length cp ∧ l.length ≤ 200 ∧ RInv (w.heap.size + 1) (w.heap.size + 1) (.slice a n cap) n w1 g cp l wx)
        case first =>
          cases b
          · go_wp2_with fail
            go_meet
            exact ⟨g, cp, l', rfl, by omega, HR6.out⟩
          · go_wp2_with fail
            refine (below_core _ _ _ n 2 wc HR6.out.d (by omega) (by omega)).mono ?_
            rintro e w3 ⟨y, rfl, hy0, hy1, hd3⟩
            have H3 : Hid (RInv (w.heap.size + 1) (w.heap.size + 1) (.slice a n cap) n w1 g cp l' w3) := HR6.out.call hd3
            clear hd3
            obtain ⟨m, hm⟩ : ∃ m : Nat, (50 : Int) + y = (m : Int) := ⟨(50 + y).toNat, by omega⟩
            have hm1 : m ≤ 51 := by omega
            go_wp2_with fail
            go_loopw [5] (fun s wr => ∃ (g cp : Nat) (l : List Rm), s = .slice (some ⟨g, 0, none⟩) l.length cp ∧ l.length ≤ 100 ∧ RInv (w.heap.size + 1) (w.heap.size + 1) (.slice a n cap) n w1 g cp l wr) (fun s _ => 100 - lenOf s)
            case atStart => exact ⟨g, cp, l', rfl, hl', H3.out⟩
            case round =>
              obtain ⟨g5, cp5, l5, rfl, hl5, hR⟩ := hrel
              have HR : Hid (RInv (w.heap.size + 1) (w.heap.size + 1) (.slice a n cap) n w1 g5 cp5 l5 wr) := hR
              clear hR
              by_cases hlm : l5.length < m
              · have hz : (l5.length : Int) < (m : Int) := by omega
                have hzb := HR.out.c.size
                have hg5 := HR.out.row.lt
                go_wp2_with fail
                refine (run_core _ _ _ n 2 wr HR.out.d (by omega)).mono ?_
                rintro e w4 ⟨g2, cp2, R, rfl, hRl, hL4⟩
                have HL4 : Hid (LInv (w.heap.size + 1) (w.heap.size + 1) (.slice a n cap) n wr g2 cp2 R w4 ∧ R.length ≤ 100) := ⟨hL4, hRl⟩
                have hz4 := hL4.c.size
                clear hL4
                go_wp2_with (at_builtin; refine wpList_append_runs _ rfl _ _ rfl w1.heap.size g5 cp5 l5.length w4.heap.size 1 1 l5 [⟨g2, 0, cp2, R⟩] rfl rfl rfl rfl ?hO ?hc ?hl ?hb ?_)
                case hO => exact ((HR.out.call ⟨HL4.out.1.d, HL4.out.1.c⟩).below ((Below.refl _ _).alloc (Nat.le_refl _) _)).row
                case hc =>
                  intro i r hr
                  cases i with
                  | zero => simp at hr; subst hr; simp
                  | succ i => simp at hr
                case hl => simp; omega
                case hb => simp; omega
                intro g' cp' w6 hO' hgr hat
                have H6 : Hid (RInv (w.heap.size + 1) (w.heap.size + 1) (.slice a n cap) n w1 g' cp' (l5 ++ [⟨g2, 0, cp2, R⟩]) w6) := HR.out.push HL4.out.1 HL4.out.2 hO' hgr hat
                clear hO' hgr hat
                go_wp2_with fail
                go_roundw
                case rel => exact ⟨g', cp', l5 ++ [⟨g2, 0, cp2, R⟩], by simp, by simp; omega, H6.out⟩
                case measure => go_light; simp [lenOf]; omega
              · have hz : ¬ (l5.length : Int) < (m : Int) := by omega
                go_wp2_with fail
                go_meet
                exact ⟨g5, cp5, l5, rfl, by omega, HR.out⟩
        case rest =>
          obtain ⟨gl, cl, L, rfl, hL, hR7⟩ := hcut
          have HR7 : Hid (RInv (w.heap.size + 1) (w.heap.size + 1) (.slice a n cap) n w1 gl cl L wc) := hR7
          clear hR7 HR6
          have hs7 := HR7.out.c.size
          have hg7 := HR7.out.row.lt
          have hcb7 := HR7.out.lt
          obtain ⟨W8, hW8⟩ : ∃ W8 : World, W8 = wc.alloc (Obj.cells #[.string ⟨#[]⟩, .bool false, .string ⟨#[]⟩] 25) := ⟨_, rfl⟩
          have HD8 : Hid (DrawAt (w.heap.size + 1) (w.heap.size + 1) (.slice a n cap) n W8) := HR7.out.d.below (by rw [hW8]; exact (Below.refl _ _).alloc (Nat.le_refl _) _)
          have H8 : Hid (MX (.slice a n cap) n w wc.heap.size gl cl L (rgv ⟨#[]⟩ false ⟨#[]⟩) (rgv ⟨#[]⟩ false ⟨#[]⟩) W8) := by
            have hb8 : Below wc.heap.size wc W8 := by rw [hW8]; exact (Below.refl _ _).alloc (Nat.le_refl _) _
            have hr8 := HR7.out.below hb8
            have kb : Below w.heap.size w wc := Chg.below (hba.trans (hb1.mono (by omega))) HR7.out.c (by omega) (fun k q => by omega)
            refine ⟨OwnW.mono hr8.row (by omega), fun r hr => ?_, by omega, fun r hr => ?_, ?_, ?_, kb.trans (hb8.mono (by omega))⟩
            · have h0 := hr8.ats r hr
              exact ⟨h0.at_, h0.ok, h0.len, h0.ne, by have := h0.new; omega⟩
            · have := (HR7.out.ats r hr).at_.lt
              omega
            · rw [hW8]
              exact World.ownsRow_lit wc #[.string ⟨#[]⟩, .bool false, .string ⟨#[]⟩] 1 (by omega) (by decide) rfl
            · have h0 : Wa.ownsRow w.heap.size 25 3 (.slice (some ⟨w.heap.size, 0, none⟩) 1 1) 1 (rgv ⟨#[]⟩ false ⟨#[]⟩) := by
                rw [hWa]
                exact World.ownsRow_lit w #[.string ⟨#[]⟩, .bool false, .string ⟨#[]⟩] 1 (Nat.le_refl _) (by decide) rfl
              have h1 := own_chg h0 (Chg.of_below (S := fun _ => False) hb1) (fun k _ q => q)
              have h2 := own_chg h1 HR7.out.c (fun k q => by simp [Value.ownBlock] at q; subst q; omega)
              exact own_chg h2 (Chg.of_below (S := fun _ => False) hb8) (fun k _ q => q)
          have hv8 : w.heap.size + 2 ≤ wc.heap.size := by omega
          go_wp2_with fail
          rw [← hW8]
          clear hW8
          generalize wc.heap.size = vb at *
          refine (once_core _ _ _ n 2 W8 HD8.out (by omega) (by omega)).mono ?_
          rintro e w9 ⟨v, rfl, hv, hd9⟩
          have H9 : Hid (MX (.slice a n cap) n w vb gl cl L (rgv ⟨#[]⟩ false ⟨#[]⟩) (rgv ⟨#[]⟩ false ⟨#[]⟩) w9) := H8.out.chg hd9
          have HD9 : Hid (DrawAt (w.heap.size + 1) (w.heap.size + 1) (.slice a n cap) n w9) := hd9.1
          clear hd9 H8 HD8
          rcases hv with rfl | rfl
          · go_wp2_with fail
            refine (range_core _ _ _ n w9 HD9.out).mono ?_
            rintro e wA ⟨lo, hv, hi, rfl, hh, _, _, hdA⟩
            have HA : Hid (MX (.slice a n cap) n w vb gl cl L (rgv ⟨#[]⟩ false ⟨#[]⟩) (rgv ⟨#[]⟩ false ⟨#[]⟩) wA) := H9.out.chg hdA
            obtain ⟨b, rfl⟩ : ∃ b : Bool, hv = .bool b := by
              rcases hh with h | h
              · exact ⟨true, h⟩
              · exact ⟨false, h⟩
            clear hdA hh H9
            obtain ⟨c0, f0⟩ := HA.out.cell 0 (by decide)
            obtain ⟨c1, f1⟩ := HA.out.cell 1 (by decide)
            obtain ⟨c2, f2⟩ := HA.out.cell 2 (by decide)
            simp only [List.getElem?_cons_zero, List.getElem?_cons_succ] at c0 c1 c2
            obtain ⟨WB, hWB⟩ : ∃ WB : World, WB = ((wA.setCell ⟨vb, 0, none⟩ (.string lo)).setCell ⟨vb, 1, none⟩ (.bool b)).setCell ⟨vb, 2, none⟩ (.string hi) := ⟨_, rfl⟩
            have hB := ((HA.out.set 0 (.string lo)).set 1 (.bool b)).set 2 (.string hi)
            rw [← hWB] at hB
            have HB : Hid (MX (.slice a n cap) n w vb gl cl L (rgv lo b hi) (rgv ⟨#[]⟩ false ⟨#[]⟩) WB) := hB
            clear hB HA
            go_upto_region 12 with fail
            rw [← hWB]
            clear hWB c0 c1 c2 f0 f1 f2
            obtain ⟨k0, _⟩ := HB.out.cell 0 (by decide)
            obtain ⟨k1, _⟩ := HB.out.cell 1 (by decide)
            obtain ⟨k2, _⟩ := HB.out.cell 2 (by decide)
            obtain ⟨l0, lf0⟩ := HB.out.cellRes 0 (by decide)
            obtain ⟨l1, lf1⟩ := HB.out.cellRes 1 (by decide)
            obtain ⟨l2, lf2⟩ := HB.out.cellRes 2 (by decide)
            simp only [List.getElem?_cons_zero, List.getElem?_cons_succ] at k0 k1 k2 l0 l1 l2
            obtain ⟨WZ, hWZ⟩ : ∃ WZ : World, WZ = (((WB.setCell ⟨w.heap.size, 0, none⟩ (.string lo)).setCell ⟨w.heap.size, 1, none⟩ (.bool b)).setCell ⟨w.heap.size, 2, none⟩ (.string hi)).drew := ⟨_, rfl⟩
            have HZ := (((HB.out.setRes 0 (.string lo)).setRes 1 (.bool b)).setRes 2 (.string hi)).drew
            rw [← hWZ] at HZ
            have p0 := (HZ.cellRes 0 (by decide)).1
            have p1 := (HZ.cellRes 1 (by decide)).1
            have p2 := (HZ.cellRes 2 (by decide)).1
            simp only [rgv, List.set_cons_zero, List.set_cons_succ, List.getElem?_cons_zero, List.getElem?_cons_succ] at p0 p1 p2
            have HE : Hid (DrawnM w gl cl L WZ) := HZ.drawn hL
            clear HZ
            go_wp2_with fail
            go_region
            go_wp2_with fail
            rw [← hWZ]
            exact bodyPost_ret (v := .tuple #[.slice (some ⟨gl, 0, none⟩) L.length cl, .agg #[.string lo, .bool b, .string hi]]) (by simp [results, Try.results6, go_sem, p0, p1, p2]) rfl ⟨gl, cl, L, lo, hi, b, rfl, HE.out⟩
          · obtain ⟨k0, _⟩ := H9.out.cell 0 (by decide)
            obtain ⟨k1, _⟩ := H9.out.cell 1 (by decide)
            obtain ⟨k2, _⟩ := H9.out.cell 2 (by decide)
            obtain ⟨l0, lf0⟩ := H9.out.cellRes 0 (by decide)
            obtain ⟨l1, lf1⟩ := H9.out.cellRes 1 (by decide)
            obtain ⟨l2, lf2⟩ := H9.out.cellRes 2 (by decide)
            simp only [List.getElem?_cons_zero, List.getElem?_cons_succ] at k0 k1 k2 l0 l1 l2
            obtain ⟨WZ, hWZ⟩ : ∃ WZ : World, WZ = (((w9.setCell ⟨w.heap.size, 0, none⟩ (.string ⟨#[]⟩)).setCell ⟨w.heap.size, 1, none⟩ (.bool false)).setCell ⟨w.heap.size, 2, none⟩ (.string ⟨#[]⟩)).drew := ⟨_, rfl⟩
            have HZ := (((H9.out.setRes 0 (.string ⟨#[]⟩)).setRes 1 (.bool false)).setRes 2 (.string ⟨#[]⟩)).drew
            rw [← hWZ] at HZ
            have p0 := (HZ.cellRes 0 (by decide)).1
            have p1 := (HZ.cellRes 1 (by decide)).1
            have p2 := (HZ.cellRes 2 (by decide)).1
            simp only [rgv, List.set_cons_zero, List.set_cons_succ, List.getElem?_cons_zero, List.getElem?_cons_succ] at p0 p1 p2
            have HE : Hid (DrawnM w gl cl L WZ) := HZ.drawn hL
            clear HZ
            go_wp2_with fail
            go_region
            go_wp2_with fail
            rw [← hWZ]
            exact bodyPost_ret (v := .tuple #[.slice (some ⟨gl, 0, none⟩) L.length cl, .agg #[.string ⟨#[]⟩, .bool false, .string ⟨#[]⟩]]) (by simp [results, Try.results6, go_sem, p0, p1, p2]) rfl ⟨gl, cl, L, ⟨#[]⟩, ⟨#[]⟩, false, rfl, HE.out⟩
end Go.Proofs.Ytjphalbjimggcae
