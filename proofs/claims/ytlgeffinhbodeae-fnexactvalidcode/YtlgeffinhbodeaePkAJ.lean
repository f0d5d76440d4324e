import Derived.Test.YtlgeffinhbodeaePkAH
import Derived.Test.YtlgeffinhbodeaePkAI
import Derived.Test.YtlgeffinhbodeaePkAG
/-
  impl's ways and validFlow.
-/
namespace Go.Proofs.Ytlgeffinhbodeae
open Go.ChangeShapes Go.WideShapes Go.ChangeAt Go.RowKit Go.Deep
set_option linter.unusedVariables false
set_option linter.unusedSimpArgs false
set_option maxRecDepth 100000

/-- A row that holds numbers. -/
def WaysP (js : List Nat) (w : World) (r : Ending) (w' : World) : Prop := ∃ g, r = .returned (.slice (some ⟨g, 0, none⟩) js.length js.length) ∧ (∀ (i j : Nat), js[i]? = some j → w'.cell? ⟨g, i, none⟩ = some (.int .i64 (j : Int))) ∧ w.heap.size ≤ g ∧ g < w'.heap.size ∧ Below w.heap.size w w'
set_option maxHeartbeats 2000000 in
theorem ways_core (x : Ix) (k : Nat) (w : World) (hk : k ≤ 1000000) (hb : (x.op = 5 ∨ x.op = 6) → 0 ≤ x.b) : Calls Try.prog 150 #[x.v, .int .i64 k] w (WaysP (ways k x) w) := by
  obtain ⟨op, a, b, free, ⟨kind, s, hi, t, lo, up, nn⟩⟩ := x
  simp only at hb
  obtain ⟨js, hjs⟩ : ∃ js, js = ways k ⟨op, a, b, free, ⟨kind, s, hi, t, lo, up, nn⟩⟩ := ⟨_, rfl⟩
  rw [← hjs]
  have HJ : Hid (js = ways k ⟨op, a, b, free, ⟨kind, s, hi, t, lo, up, nn⟩⟩) := hjs
  clear hjs
  obtain ⟨W0, hW0⟩ : ∃ W0 : World, W0 = w.alloc (Obj.cells #[.int .i64 op, .int .i64 a, .int .i64 b, .bool free, .int .i64 kind, .string s, .bool hi, .string t, .int .u64 lo, .int .u64 up, .int .i64 nn] 175) := ⟨_, rfl⟩
  have hb0 : Below w.heap.size w W0 := by rw [hW0]; exact (Below.refl _ _).alloc (Nat.le_refl _) _
  have hz0 : W0.heap.size = w.heap.size + 1 := by rw [hW0]; simp
  obtain ⟨c0, c2⟩ : W0.cell? ⟨w.heap.size, 0, none⟩ = some (.int .i64 op) ∧ W0.cell? ⟨w.heap.size, 2, none⟩ = some (.int .i64 b) := by
    rw [hW0]
    exact ⟨by simp, by simp⟩
  have hwk : IntKind.i64.wrap ((k : Int) + 1) = (k : Int) + 1 := by rw [IntKind.wrap_i64]; omega
  have HA : Hid (∀ (vs : List Int), vs = js.map (fun j : Nat => (j : Int)) → WaysP js w (.returned (.slice (some ⟨w.heap.size + 1, 0, none⟩) js.length js.length)) (W0.alloc (Obj.cells (vs.map fun d => Value.int .i64 d).toArray 3))) := by
    intro vs hvs
    have hba : Below W0.heap.size W0 (W0.alloc (Obj.cells (vs.map fun d => Value.int .i64 d).toArray 3)) := (Below.refl _ _).alloc (Nat.le_refl _) _
    refine ⟨w.heap.size + 1, rfl, fun i j hj => ?_, by omega, by rw [← hz0]; simp, hb0.trans (hba.mono (by omega))⟩
    have h1 : (vs.map fun d => Value.int .i64 d)[i]? = some (.int .i64 (j : Int)) := by rw [hvs, List.getElem?_map, List.getElem?_map, hj]; rfl
    rw [← hz0]
    simp [h1]
  go_enter Try.func150, Try.ntmps150
  go_upto_region 1 with fail
  rw [← hW0]
  clear hW0
  by_cases h5 : op = 5
  · subst h5
    have hj : js = [k + 1, b.toNat] := by rw [HJ.out]; rfl
    have hbn := hb (.inl rfl)
    have H : Hid (WaysP js w (.returned (.slice (some ⟨w.heap.size + 1, 0, none⟩) 2 2)) (W0.alloc (Obj.cells #[.int .i64 ((k : Int) + 1), .int .i64 b] 3))) := by
      have := HA.out [(k : Int) + 1, b] (by rw [hj]; simp; omega)
      rw [hj] at this ⊢
      exact this
    clear hj hb
    go_wp2_with fail
    go_ret
    exact H.out
  by_cases h6 : op = 6
  · subst h6
    have hj : js = [b.toNat] := by rw [HJ.out]; rfl
    have hbn := hb (.inr rfl)
    have H : Hid (WaysP js w (.returned (.slice (some ⟨w.heap.size + 1, 0, none⟩) 1 1)) (W0.alloc (Obj.cells #[.int .i64 b] 3))) := by
      have := HA.out [b] (by rw [hj]; simp; omega)
      rw [hj] at this ⊢
      exact this
    clear hj hb
    go_wp2_with fail
    go_ret
    exact H.out
  have hj : js = [k + 1] := by rw [HJ.out]; simp [ways, h5, h6]
  have H : Hid (WaysP js w (.returned (.slice (some ⟨w.heap.size + 1, 0, none⟩) 1 1)) (W0.alloc (Obj.cells #[.int .i64 ((k : Int) + 1)] 3))) := by
    have := HA.out [(k : Int) + 1] (by rw [hj]; simp)
    rw [hj] at this ⊢
    exact this
  clear hj hb
  go_wp2_with fail
  go_ret
  exact H.out
theorem Try.infoInt : (Try.prog.info? 3).map (fun i => (i.zero, i.size, i.bytes)) = some (some (.int .i64 0), 1, 8) := by kernel_rfl
theorem made_zeroZ (n : Nat) : (madeCells #[.int .i64 0] n).toList = (List.replicate n (0 : Int)).map fun d => Value.int .i64 d := by
  apply List.ext_getElem?
  intro j
  by_cases hj : j < n
  · rw [List.getElem?_map, List.getElem?_replicate, if_pos hj]
    simp [madeCells, hj, Nat.mod_one]
  · rw [List.getElem?_map, List.getElem?_replicate, if_neg hj]
    simp [madeCells, hj]
theorem notes_take {d : Int} {js : List Nat} {ds ds' : List Int} {m j : Nat} (h : notes d (js.take m) ds = some ds') (hj : js[m]? = some j) : notes d (js.take (m + 1)) ds = note ds' j d := by
  have gen : ∀ (xs : List Nat) (es : List Int), notes d (xs ++ [j]) es = (notes d xs es).bind fun e => note e j d := by
    intro xs
    induction xs with
    | nil => intro es; simp [notes]
    | cons x xs ih =>
      intro es
      simp only [List.cons_append, notes]
      cases note es x d with
      | none => rfl
      | some e => simp [ih]
  rw [List.take_add_one, hj]
  simp only [Option.toList]
  rw [gen, h]
  rfl
theorem notes_none {d : Int} {js : List Nat} {ds : List Int} {m : Nat} (h : notes d (js.take m) ds = none) : notes d js ds = none := by
  have gen : ∀ (xs ys : List Nat) (es : List Int), notes d xs es = none → notes d (xs ++ ys) es = none := by
    intro xs
    induction xs with
    | nil => intro ys es q; simp [notes] at q
    | cons x xs ih =>
      intro ys es q
      simp only [List.cons_append, notes] at q ⊢
      cases hn : note es x d with
      | none => rfl
      | some e =>
        rw [hn] at q
        exact ih ys e q
  have := gen (js.take m) (js.drop m) ds h
  rw [List.take_append_drop] at this
  exact this
theorem step_go {ds : List Int} {k : Nat} {x : Ix} {e d : Int} (h : ds[k]? = some e) (hl : ¬ e < least x.op) (hd : d = e + more x.op) (h2 : ¬ 250 < d) : stepF ds k x = notes d (ways k x) ds := by
  subst hd
  rw [stepF_eq h, if_neg (by omega)]
theorem step_over {ds : List Int} {k : Nat} {x : Ix} {e d : Int} (h : ds[k]? = some e) (hd : d = e + more x.op) (h2 : 250 < d) : stepF ds k x = none := by
  subst hd
  rw [stepF_eq h, if_pos (.inr h2)]
def FlowP (l : List Ix) : Prop := ∃ ds, flowF l l.length = some ds ∧ ds[l.length]? = some 1
theorem flowP_bad {l : List Ix} {k : Nat} {ds : List Int} {x : Ix} (h : flowF l k = some ds) (hx : l[k]? = some x) (hs : stepF ds k x = none) : ¬ FlowP l := by
  rintro ⟨d, h1, _⟩
  have h2 : flowF l (k + 1) = none := by rw [flow_step h hx, hs]
  rw [flow_none h2 (by have := (List.getElem?_eq_some_iff.1 hx).1; omega)] at h1
  cases h1
set_option maxHeartbeats 32000000 in
theorem validFlow_core (x : Bk) (conds : Nat) (w : World) (h : InIxs w x.v x.l) (h1 : 1 ≤ x.l.length) (h2 : x.l.length ≤ 4000) (hg : ∀ (k : Nat) (y : Ix), x.l[k]? = some y → GoodI y k x.l.length x.cnt conds) : Calls Try.prog 111 #[x.val] w (BoolP (FlowP x.l) w) := by
  obtain ⟨P, hP⟩ : ∃ P : Prop, P = FlowP x.l := ⟨_, rfl⟩
  rw [← hP]
  obtain ⟨v, cnt, l⟩ := x
  simp only at h h1 h2 hg hP
  have HP : Hid (P ↔ FlowP l) := by show P ↔ _; rw [hP]
  have HGd : Hid (∀ (k : Nat) (y : Ix), l[k]? = some y → ((y.op = 5 ∨ y.op = 6) → (k : Int) < y.b ∧ y.b ≤ (l.length : Int))) := by
    intro k y hy
    have := hg k y hy
    simp only [GoodI] at this
    omega
  obtain ⟨b0, off, cap, hvv, HE, hlt, hcap⟩ : ∃ b0 off cap, v = .slice (some ⟨b0, off, none⟩) l.length cap ∧ Hid (IxsAt w b0 off l) ∧ b0 < w.heap.size ∧ (l.length ≤ cap ∧ cap ≤ maxLen) := by
    rcases h with ⟨a, cap', hq, hl⟩ | ⟨b, off, cap', hq, hE, hlt, h1, h2⟩
    · subst hl; simp at h1
    · exact ⟨b, off, cap', hq, hE, hlt, h1, h2⟩
  subst hvv
  unfold maxLen at hcap
  clear h hg hP
  obtain ⟨i, hi, hz0, hz1, hz2⟩ := info_parts Try.infoInt
  have HI : Hid (Try.prog.info? 3 = some i ∧ i.zero = some (.int .i64 0) ∧ i.size = 1 ∧ i.bytes = 8) := ⟨hi, hz0, hz1, hz2⟩
  clear hi hz0 hz1 hz2
  obtain ⟨W0, hW0⟩ : ∃ W0 : World, W0 = w.alloc (Obj.cells #[.slice (some ⟨b0, off, none⟩) l.length cap, .int .i64 cnt] 54) := ⟨_, rfl⟩
  have hb0 : Below w.heap.size w W0 := by rw [hW0]; exact (Below.refl _ _).alloc (Nat.le_refl _) _
  have hz0 : w.heap.size < W0.heap.size := by rw [hW0]; simp
  have HK : Hid (∀ wx, Below W0.heap.size W0 wx → wx.cell? ⟨w.heap.size, 0, none⟩ = some (.slice (some ⟨b0, off, none⟩) l.length cap) ∧ IxsAt wx b0 off l) := by
    intro wx hx
    refine ⟨?_, (HE.out.below hb0 hlt).below hx (by omega)⟩
    rw [hx.cell (p := ⟨w.heap.size, 0, none⟩) hz0, hW0]
    simp
  obtain ⟨k0, _⟩ := HK.out W0 (Below.refl _ _)
  have hwn : IntKind.i64.wrap ((l.length : Int) + 1) = (l.length : Int) + 1 := by rw [IntKind.wrap_i64]; omega
  go_enter Try.func111, Try.ntmps111
  go_upto_region 1 with fail
  rw [← hW0]
  clear hW0
  go_wp2_with (at_make; refine wpList_make_full _ rfl _ _ 232 rfl W0.heap.size 3 i _ 1 Try.underlying232 HI.out.1 HI.out.2.1 HI.out.2.2.1 _ _ _ _ (l.length + 1) rfl rfl ?_ ?_ ?hb ?hm ?hs ?_)
  case hb => rw [HI.out.2.2.2]; omega
  case hm => unfold maxLen; omega
  case hs => exact Nat.le_refl _
  · rfl
  · rfl
  intro w1 hown hgrow
  rw [made_zeroZ] at hown
  have HO1 : Hid (OwnZ 3 w1 W0.heap.size W0.heap.size (l.length + 1) (List.replicate (l.length + 1) 0) .i64) := by
    unfold Hid OwnZ
    rw [List.length_replicate]
    exact hown
  have hb1 : Below W0.heap.size W0 w1 := (Below.refl _ _).grown hgrow (Nat.le_refl _) (fun k hk => by cases hk)
  clear hown hgrow k0
  obtain ⟨e0, e1⟩ := HO1.out.cell (j := 0) (d := 0) rfl
  have HO2 : Hid (OwnZ 3 (w1.setCell ⟨W0.heap.size, 0, none⟩ (.int .i64 1)) W0.heap.size W0.heap.size (l.length + 1) (1 :: List.replicate l.length 0) .i64) := HO1.out.set 0 1
  have hb2 : Below W0.heap.size W0 (w1.setCell ⟨W0.heap.size, 0, none⟩ (.int .i64 1)) := hb1.setCell (Nat.le_refl _) _
  obtain ⟨k0, _⟩ := HK.out _ hb1
  obtain ⟨W2, hW2⟩ : ∃ W2 : World, W2 = w1.setCell ⟨W0.heap.size, 0, none⟩ (.int .i64 1) := ⟨_, rfl⟩
  rw [← hW2] at HO2 hb2
  go_upto_region 3 with fail
  rw [← hW2]
  clear hW2 e0 e1 k0
  obtain ⟨k0, _⟩ := HK.out W2 hb2
  go_wp2_with fail
  go_loopw [21] (fun i wr => ∃ (k : Nat) (ds : List Int), k ≤ l.length ∧ i = .int .i64 k ∧ Hid (flowF l k = some ds ∧ OwnZ 3 wr W0.heap.size W0.heap.size (l.length + 1) ds .i64) ∧ Below W0.heap.size W0 wr) (fun i _ => l.length - (intOf i).toNat)
  case atStart => exact ⟨0, _, Nat.zero_le _, rfl, ⟨rfl, HO2.out⟩, hb2⟩
  case round =>
    clear k0
    obtain ⟨k, ds, hk, rfl, HJ, hb⟩ := hrel
    have hfl := (flow_ok HJ.out.1).len
    obtain ⟨k0, hE⟩ := HK.out wr hb
    by_cases hlt : k < l.length
    · have zk : (k : Int) < (l.length : Int) := by omega
      have zk1 : (k : Int) < (l.length : Int) + 1 := by omega
      obtain ⟨y, hy⟩ : ∃ y, l[k]? = some y := ⟨_, List.getElem?_eq_getElem hlt⟩
      obtain ⟨op, a, b, free, ⟨kind, s, hi, t, lo, up, nn⟩⟩ := y
      have HX : Hid (l[k]? = some ⟨op, a, b, free, ⟨kind, s, hi, t, lo, up, nn⟩⟩) := hy
      have hbb := HGd.out k _ hy
      simp only at hbb
      obtain ⟨c0, c1, c2, c3, c4, c5, c6, c7, c8, c9, c10⟩ := hE k _ hy
      obtain ⟨d, hd⟩ : ∃ d, ds[k]? = some d := ⟨_, List.getElem?_eq_getElem (by omega)⟩
      have HD : Hid (ds[k]? = some d) := hd
      have hdr := (flow_ok HJ.out.1).ran d (List.mem_of_getElem? hd)
      obtain ⟨W3, hW3⟩ : ∃ W3 : World, W3 = wr.alloc (Obj.cells #[.int .i64 op, .int .i64 a, .int .i64 b, .bool free, .int .i64 kind, .string s, .bool hi, .string t, .int .u64 lo, .int .u64 up, .int .i64 nn] 175) := ⟨_, rfl⟩
      have hb3 : Below wr.heap.size wr W3 := by rw [hW3]; exact (Below.refl _ _).alloc (Nat.le_refl _) _
      have hz3 : W3.heap.size = wr.heap.size + 1 := by rw [hW3]; simp
      have kw3 : Below W0.heap.size W0 W3 := hb.trans (hb3.mono hb.size)
      have k3w : Below w.heap.size w W3 := hb0.trans (kw3.mono (by omega))
      have HO3 : Hid (OwnZ 3 W3 W0.heap.size W0.heap.size (l.length + 1) ds .i64) := HJ.out.2.below hb3
      obtain ⟨x0, x1, x2, x3, x4, x5, x6, x7, x8, x9, x10⟩ : W3.cell? ⟨wr.heap.size, 0, none⟩ = some (.int .i64 op) ∧ W3.cell? ⟨wr.heap.size, 1, none⟩ = some (.int .i64 a) ∧ W3.cell? ⟨wr.heap.size, 2, none⟩ = some (.int .i64 b) ∧ W3.cell? ⟨wr.heap.size, 3, none⟩ = some (.bool free) ∧ W3.cell? ⟨wr.heap.size, 4, none⟩ = some (.int .i64 kind) ∧ W3.cell? ⟨wr.heap.size, 5, none⟩ = some (.string s) ∧ W3.cell? ⟨wr.heap.size, 6, none⟩ = some (.bool hi) ∧ W3.cell? ⟨wr.heap.size, 7, none⟩ = some (.string t) ∧ W3.cell? ⟨wr.heap.size, 8, none⟩ = some (.int .u64 lo) ∧ W3.cell? ⟨wr.heap.size, 9, none⟩ = some (.int .u64 up) ∧ W3.cell? ⟨wr.heap.size, 10, none⟩ = some (.int .i64 nn) := by
        rw [hW3]
        refine ⟨?_, ?_, ?_, ?_, ?_, ?_, ?_, ?_, ?_, ?_, ?_⟩ <;> simp
      obtain ⟨e0, e1⟩ := HO3.out.cell hd
      obtain ⟨js, hjs⟩ : ∃ js, js = ways k ⟨op, a, b, free, ⟨kind, s, hi, t, lo, up, nn⟩⟩ := ⟨_, rfl⟩
      have HJS : Hid (js = ways k ⟨op, a, b, free, ⟨kind, s, hi, t, lo, up, nn⟩⟩ ∧ js.length ≤ 2 ∧ ∀ (m j : Nat), js[m]? = some j → j ≤ l.length) := by
        refine ⟨hjs, ?_, fun m j hm => ?_⟩
        · rw [hjs]; unfold ways; split; simp; split <;> simp
        · have hmem : j ∈ js := List.mem_of_getElem? hm
          rw [hjs] at hmem
          unfold ways at hmem
          split at hmem
          · rename_i q
            have := hbb (.inl q)
            simp at hmem
            omega
          · split at hmem
            · rename_i q
              have := hbb (.inr q)
              simp at hmem
              omega
            · simp at hmem
              omega
      have HWy : Hid (Calls Try.prog 150 #[.agg #[.int .i64 op, .int .i64 a, .int .i64 b, .bool free, .int .i64 kind, .string s, .bool hi, .string t, .int .u64 lo, .int .u64 up, .int .i64 nn], .int .i64 k] W3 (WaysP js W3)) := by
        rw [hjs]
        exact ways_core ⟨op, a, b, free, ⟨kind, s, hi, t, lo, up, nn⟩⟩ k W3 (by omega) (fun q => by have := hbb q; show 0 ≤ b; omega)
      have HOl : Hid (ds.length = l.length + 1) := hfl
      clear hjs hbb hE hy hd hfl
      go_upto_region 6 with fail
      rw [← hW3]
      clear hW3 c0 c1 c2 c3 c4 c5 c6 c7 c8 c9 c10 k0
      by_cases h2o : op = 2
      case pos =>
        subst h2o
        by_cases hlow : d < 1
        case pos =>
          have HG : Hid (¬ P) := fun q => flowP_bad HJ.out.1 HX.out (step_low HD.out (by show d < least 2; simp [least]; omega)) (HP.out.1 q)
          go_wp2_with fail
          go_ret
          exact ⟨_, rfl, by simp [HG.out], k3w⟩
        have HM : Hid ((d + 1) = d + more 2) := by show (d + 1) = d + more 2; simp [more]
        have hwl : IntKind.i64.wrap (d + 1) = (d + 1) := by rw [IntKind.wrap_i64]; omega
        by_cases hov : 250 < (d + 1)
        case pos =>
          have HG : Hid (¬ P) := fun q => flowP_bad HJ.out.1 HX.out (step_over HD.out HM.out hov) (HP.out.1 q)
          go_wp2_with fail
          go_ret
          exact ⟨_, rfl, by simp [HG.out], k3w⟩
        have HS : Hid (stepF ds k ⟨2, a, b, free, ⟨kind, s, hi, t, lo, up, nn⟩⟩ = notes (d + 1) js ds) := by
          show _ = _
          rw [HJS.out.1]
          exact step_go HD.out (by intro q; revert q; show ¬ d < least 2; simp [least]; omega) HM.out hov
        go_wp2_with fail
        refine HWy.out.mono ?_
        rintro e w4 ⟨gw, rfl, hcw, hgw1, hgw2, hb4⟩
        have hgne : ¬ gw = W0.heap.size := by have := HO3.out.lt.2; omega
        have HCw : Hid (∀ (i j : Nat), js[i]? = some j → w4.cell? ⟨gw, i, none⟩ = some (.int .i64 (j : Int))) := hcw
        have HO4 : Hid (OwnZ 3 w4 W0.heap.size W0.heap.size (l.length + 1) ds .i64) := HO3.out.below hb4
        have kw4 : Below W0.heap.size W0 w4 := kw3.trans (hb4.mono kw3.size)
        have hjl : js.length ≤ 2 := HJS.out.2.1
        clear hcw x0 x1 x2 x3 x4 x5 x6 x7 x8 x9 x10 e0 e1
        go_wp2_with fail
        go_loopw [54] (fun i wi => ∃ (m : Nat) (es : List Int), m ≤ js.length ∧ i = .int .i64 m ∧ Hid (notes (d + 1) (js.take m) ds = some es ∧ OwnZ 3 wi W0.heap.size W0.heap.size (l.length + 1) es .i64 ∧ Chg (fun q => q = W0.heap.size) w4 wi) ∧ Below W0.heap.size W0 wi) (fun i _ => js.length - (intOf i).toNat)
        case atStart => exact ⟨0, ds, Nat.zero_le _, rfl, ⟨rfl, HO4.out, Chg.refl _ _⟩, kw4⟩
        case round =>
          obtain ⟨m, es, hm, rfl, HN, hbi⟩ := hrel
          have hel : es.length = l.length + 1 := (notes_ok (n := l.length) (d := (d + 1)) (by omega) _ ⟨HOl.out, (flow_ok HJ.out.1).ran⟩ HN.out.1).len
          by_cases hml : m < js.length
          · have zm : (m : Int) < (js.length : Int) := by omega
            obtain ⟨j, hj⟩ : ∃ j, js[m]? = some j := ⟨_, List.getElem?_eq_getElem hml⟩
            have HJm : Hid (js[m]? = some j) := hj
            have hjn : j ≤ l.length := HJS.out.2.2 m j hj
            have zj : (j : Int) < (l.length : Int) + 1 := by omega
            obtain ⟨e', he'⟩ : ∃ e', es[j]? = some e' := ⟨_, List.getElem?_eq_getElem (by omega)⟩
            have HEs : Hid (es[j]? = some e') := he'
            obtain ⟨f0, f1⟩ := HN.out.2.1.cell he'
            have w0 : wr.cell? ⟨gw, m, none⟩ = some (.int .i64 (j : Int)) := by
              rw [HN.out.2.2.cell (p := ⟨gw, m, none⟩) hgw2 hgne]
              exact HCw.out m j hj
            clear hj he' hel
            have kiw : Below w.heap.size w wr := hb0.trans (hbi.mono (by omega))
            by_cases he0 : e' = 0 ∨ e' = (d + 1)
            · have HN2 : Hid (notes (d + 1) (js.take (m + 1)) ds = some (es.set j (d + 1)) ∧ OwnZ 3 (wr.setCell ⟨W0.heap.size, j, none⟩ (.int .i64 (d + 1))) W0.heap.size W0.heap.size (l.length + 1) (es.set j (d + 1)) .i64 ∧ Chg (fun q => q = W0.heap.size) w4 (wr.setCell ⟨W0.heap.size, j, none⟩ (.int .i64 (d + 1)))) := ⟨by rw [notes_take HN.out.1 HJm.out, note_some HEs.out he0], HN.out.2.1.set j (d + 1), HN.out.2.2.trans (Chg.of_set _ W0.heap.size j _ rfl)⟩
              have kb5 : Below W0.heap.size W0 (wr.setCell ⟨W0.heap.size, j, none⟩ (.int .i64 (d + 1))) := hbi.setCell (Nat.le_refl _) _
              by_cases hez : e' = 0
              · subst hez
                clear he0
                go_wp2_with fail
                go_roundw
                case rel => exact ⟨m + 1, _, by omega, by go_num, HN2, kb5⟩
                case measure => simp [intOf]; omega
              · have hed : e' = (d + 1) := by omega
                have hez2 : (e' == 0) = false := by rw [beq_eq_false_iff_ne]; exact hez
                clear he0
                go_wp2_with fail
                go_roundw
                case rel => exact ⟨m + 1, _, by omega, by go_num, HN2, kb5⟩
                case measure => simp [intOf]; omega
            · have HG : Hid (¬ P) := fun q => flowP_bad HJ.out.1 HX.out (by rw [HS.out]; exact notes_none (m := m + 1) (by rw [notes_take HN.out.1 HJm.out, note_bad HEs.out he0])) (HP.out.1 q)
              have hez : ¬ e' = 0 := fun q => he0 (.inl q)
              have hed : ¬ e' = (d + 1) := fun q => he0 (.inr q)
              have hez3 : (e' != 0) = true := bne_iff_ne.2 hez
              have hed3 : (e' != (d + 1)) = true := bne_iff_ne.2 hed
              clear he0
              go_wp2_with fail
              go_ret
              exact ⟨_, rfl, by simp [HG.out], kiw⟩
          · have zm : ¬ (m : Int) < (js.length : Int) := by omega
            have HF2 : Hid (flowF l (k + 1) = some es) := by
              show _ = _
              rw [flow_step HJ.out.1 HX.out, HS.out]
              have := HN.out.1
              rw [List.take_of_length_le (by omega)] at this
              exact this
            clear hel
            go_wp2_with fail
            go_roundw
            case rel => exact ⟨k + 1, es, by omega, by go_num, ⟨HF2.out, HN.out.2.1⟩, hbi⟩
            case measure => simp [intOf]; omega
      by_cases h3o : op = 3
      case pos =>
        subst h3o
        by_cases hlow : d < 2
        case pos =>
          have HG : Hid (¬ P) := fun q => flowP_bad HJ.out.1 HX.out (step_low HD.out (by show d < least 3; simp [least]; omega)) (HP.out.1 q)
          go_wp2_with fail
          go_ret
          exact ⟨_, rfl, by simp [HG.out], k3w⟩
        have HM : Hid (d = d + more 3) := by show d = d + more 3; simp [more]
        have hov : ¬ 250 < d := by omega
        have HS : Hid (stepF ds k ⟨3, a, b, free, ⟨kind, s, hi, t, lo, up, nn⟩⟩ = notes d js ds) := by
          show _ = _
          rw [HJS.out.1]
          exact step_go HD.out (by intro q; revert q; show ¬ d < least 3; simp [least]; omega) HM.out hov
        go_wp2_with fail
        refine HWy.out.mono ?_
        rintro e w4 ⟨gw, rfl, hcw, hgw1, hgw2, hb4⟩
        have hgne : ¬ gw = W0.heap.size := by have := HO3.out.lt.2; omega
        have HCw : Hid (∀ (i j : Nat), js[i]? = some j → w4.cell? ⟨gw, i, none⟩ = some (.int .i64 (j : Int))) := hcw
        have HO4 : Hid (OwnZ 3 w4 W0.heap.size W0.heap.size (l.length + 1) ds .i64) := HO3.out.below hb4
        have kw4 : Below W0.heap.size W0 w4 := kw3.trans (hb4.mono kw3.size)
        have hjl : js.length ≤ 2 := HJS.out.2.1
        clear hcw x0 x1 x2 x3 x4 x5 x6 x7 x8 x9 x10 e0 e1
        go_wp2_with fail
        go_loopw [54] (fun i wi => ∃ (m : Nat) (es : List Int), m ≤ js.length ∧ i = .int .i64 m ∧ Hid (notes d (js.take m) ds = some es ∧ OwnZ 3 wi W0.heap.size W0.heap.size (l.length + 1) es .i64 ∧ Chg (fun q => q = W0.heap.size) w4 wi) ∧ Below W0.heap.size W0 wi) (fun i _ => js.length - (intOf i).toNat)
        case atStart => exact ⟨0, ds, Nat.zero_le _, rfl, ⟨rfl, HO4.out, Chg.refl _ _⟩, kw4⟩
        case round =>
          obtain ⟨m, es, hm, rfl, HN, hbi⟩ := hrel
          have hel : es.length = l.length + 1 := (notes_ok (n := l.length) (d := d) (by omega) _ ⟨HOl.out, (flow_ok HJ.out.1).ran⟩ HN.out.1).len
          by_cases hml : m < js.length
          · have zm : (m : Int) < (js.length : Int) := by omega
            obtain ⟨j, hj⟩ : ∃ j, js[m]? = some j := ⟨_, List.getElem?_eq_getElem hml⟩
            have HJm : Hid (js[m]? = some j) := hj
            have hjn : j ≤ l.length := HJS.out.2.2 m j hj
            have zj : (j : Int) < (l.length : Int) + 1 := by omega
            obtain ⟨e', he'⟩ : ∃ e', es[j]? = some e' := ⟨_, List.getElem?_eq_getElem (by omega)⟩
            have HEs : Hid (es[j]? = some e') := he'
            obtain ⟨f0, f1⟩ := HN.out.2.1.cell he'
            have w0 : wr.cell? ⟨gw, m, none⟩ = some (.int .i64 (j : Int)) := by
              rw [HN.out.2.2.cell (p := ⟨gw, m, none⟩) hgw2 hgne]
              exact HCw.out m j hj
            clear hj he' hel
            have kiw : Below w.heap.size w wr := hb0.trans (hbi.mono (by omega))
            by_cases he0 : e' = 0 ∨ e' = d
            · have HN2 : Hid (notes d (js.take (m + 1)) ds = some (es.set j d) ∧ OwnZ 3 (wr.setCell ⟨W0.heap.size, j, none⟩ (.int .i64 d)) W0.heap.size W0.heap.size (l.length + 1) (es.set j d) .i64 ∧ Chg (fun q => q = W0.heap.size) w4 (wr.setCell ⟨W0.heap.size, j, none⟩ (.int .i64 d))) := ⟨by rw [notes_take HN.out.1 HJm.out, note_some HEs.out he0], HN.out.2.1.set j d, HN.out.2.2.trans (Chg.of_set _ W0.heap.size j _ rfl)⟩
              have kb5 : Below W0.heap.size W0 (wr.setCell ⟨W0.heap.size, j, none⟩ (.int .i64 d)) := hbi.setCell (Nat.le_refl _) _
              by_cases hez : e' = 0
              · subst hez
                clear he0
                go_wp2_with fail
                go_roundw
                case rel => exact ⟨m + 1, _, by omega, by go_num, HN2, kb5⟩
                case measure => simp [intOf]; omega
              · have hed : e' = d := by omega
                have hez2 : (e' == 0) = false := by rw [beq_eq_false_iff_ne]; exact hez
                clear he0
                go_wp2_with fail
                go_roundw
                case rel => exact ⟨m + 1, _, by omega, by go_num, HN2, kb5⟩
                case measure => simp [intOf]; omega
            · have HG : Hid (¬ P) := fun q => flowP_bad HJ.out.1 HX.out (by rw [HS.out]; exact notes_none (m := m + 1) (by rw [notes_take HN.out.1 HJm.out, note_bad HEs.out he0])) (HP.out.1 q)
              have hez : ¬ e' = 0 := fun q => he0 (.inl q)
              have hed : ¬ e' = d := fun q => he0 (.inr q)
              have hez3 : (e' != 0) = true := bne_iff_ne.2 hez
              have hed3 : (e' != d) = true := bne_iff_ne.2 hed
              clear he0
              go_wp2_with fail
              go_ret
              exact ⟨_, rfl, by simp [HG.out], kiw⟩
          · have zm : ¬ (m : Int) < (js.length : Int) := by omega
            have HF2 : Hid (flowF l (k + 1) = some es) := by
              show _ = _
              rw [flow_step HJ.out.1 HX.out, HS.out]
              have := HN.out.1
              rw [List.take_of_length_le (by omega)] at this
              exact this
            clear hel
            go_wp2_with fail
            go_roundw
            case rel => exact ⟨k + 1, es, by omega, by go_num, ⟨HF2.out, HN.out.2.1⟩, hbi⟩
            case measure => simp [intOf]; omega
      by_cases h4o : op = 4
      case pos =>
        subst h4o
        by_cases hlow : d < 2
        case pos =>
          have HG : Hid (¬ P) := fun q => flowP_bad HJ.out.1 HX.out (step_low HD.out (by show d < least 4; simp [least]; omega)) (HP.out.1 q)
          go_wp2_with fail
          go_ret
          exact ⟨_, rfl, by simp [HG.out], k3w⟩
        have HM : Hid ((d + -1) = d + more 4) := by show (d + -1) = d + more 4; simp [more]
        have hwl : IntKind.i64.wrap (d + -1) = (d + -1) := by rw [IntKind.wrap_i64]; omega
        have hov : ¬ 250 < (d + -1) := by omega
        have HS : Hid (stepF ds k ⟨4, a, b, free, ⟨kind, s, hi, t, lo, up, nn⟩⟩ = notes (d + -1) js ds) := by
          show _ = _
          rw [HJS.out.1]
          exact step_go HD.out (by intro q; revert q; show ¬ d < least 4; simp [least]; omega) HM.out hov
        go_wp2_with fail
        refine HWy.out.mono ?_
        rintro e w4 ⟨gw, rfl, hcw, hgw1, hgw2, hb4⟩
        have hgne : ¬ gw = W0.heap.size := by have := HO3.out.lt.2; omega
        have HCw : Hid (∀ (i j : Nat), js[i]? = some j → w4.cell? ⟨gw, i, none⟩ = some (.int .i64 (j : Int))) := hcw
        have HO4 : Hid (OwnZ 3 w4 W0.heap.size W0.heap.size (l.length + 1) ds .i64) := HO3.out.below hb4
        have kw4 : Below W0.heap.size W0 w4 := kw3.trans (hb4.mono kw3.size)
        have hjl : js.length ≤ 2 := HJS.out.2.1
        clear hcw x0 x1 x2 x3 x4 x5 x6 x7 x8 x9 x10 e0 e1
        go_wp2_with fail
        go_loopw [54] (fun i wi => ∃ (m : Nat) (es : List Int), m ≤ js.length ∧ i = .int .i64 m ∧ Hid (notes (d + -1) (js.take m) ds = some es ∧ OwnZ 3 wi W0.heap.size W0.heap.size (l.length + 1) es .i64 ∧ Chg (fun q => q = W0.heap.size) w4 wi) ∧ Below W0.heap.size W0 wi) (fun i _ => js.length - (intOf i).toNat)
        case atStart => exact ⟨0, ds, Nat.zero_le _, rfl, ⟨rfl, HO4.out, Chg.refl _ _⟩, kw4⟩
        case round =>
          obtain ⟨m, es, hm, rfl, HN, hbi⟩ := hrel
          have hel : es.length = l.length + 1 := (notes_ok (n := l.length) (d := (d + -1)) (by omega) _ ⟨HOl.out, (flow_ok HJ.out.1).ran⟩ HN.out.1).len
          by_cases hml : m < js.length
          · have zm : (m : Int) < (js.length : Int) := by omega
            obtain ⟨j, hj⟩ : ∃ j, js[m]? = some j := ⟨_, List.getElem?_eq_getElem hml⟩
            have HJm : Hid (js[m]? = some j) := hj
            have hjn : j ≤ l.length := HJS.out.2.2 m j hj
            have zj : (j : Int) < (l.length : Int) + 1 := by omega
            obtain ⟨e', he'⟩ : ∃ e', es[j]? = some e' := ⟨_, List.getElem?_eq_getElem (by omega)⟩
            have HEs : Hid (es[j]? = some e') := he'
            obtain ⟨f0, f1⟩ := HN.out.2.1.cell he'
            have w0 : wr.cell? ⟨gw, m, none⟩ = some (.int .i64 (j : Int)) := by
              rw [HN.out.2.2.cell (p := ⟨gw, m, none⟩) hgw2 hgne]
              exact HCw.out m j hj
            clear hj he' hel
            have kiw : Below w.heap.size w wr := hb0.trans (hbi.mono (by omega))
            by_cases he0 : e' = 0 ∨ e' = (d + -1)
            · have HN2 : Hid (notes (d + -1) (js.take (m + 1)) ds = some (es.set j (d + -1)) ∧ OwnZ 3 (wr.setCell ⟨W0.heap.size, j, none⟩ (.int .i64 (d + -1))) W0.heap.size W0.heap.size (l.length + 1) (es.set j (d + -1)) .i64 ∧ Chg (fun q => q = W0.heap.size) w4 (wr.setCell ⟨W0.heap.size, j, none⟩ (.int .i64 (d + -1)))) := ⟨by rw [notes_take HN.out.1 HJm.out, note_some HEs.out he0], HN.out.2.1.set j (d + -1), HN.out.2.2.trans (Chg.of_set _ W0.heap.size j _ rfl)⟩
              have kb5 : Below W0.heap.size W0 (wr.setCell ⟨W0.heap.size, j, none⟩ (.int .i64 (d + -1))) := hbi.setCell (Nat.le_refl _) _
              by_cases hez : e' = 0
              · subst hez
                clear he0
                go_wp2_with fail
                go_roundw
                case rel => exact ⟨m + 1, _, by omega, by go_num, HN2, kb5⟩
                case measure => simp [intOf]; omega
              · have hed : e' = (d + -1) := by omega
                have hez2 : (e' == 0) = false := by rw [beq_eq_false_iff_ne]; exact hez
                clear he0
                go_wp2_with fail
                go_roundw
                case rel => exact ⟨m + 1, _, by omega, by go_num, HN2, kb5⟩
                case measure => simp [intOf]; omega
            · have HG : Hid (¬ P) := fun q => flowP_bad HJ.out.1 HX.out (by rw [HS.out]; exact notes_none (m := m + 1) (by rw [notes_take HN.out.1 HJm.out, note_bad HEs.out he0])) (HP.out.1 q)
              have hez : ¬ e' = 0 := fun q => he0 (.inl q)
              have hed : ¬ e' = (d + -1) := fun q => he0 (.inr q)
              have hez3 : (e' != 0) = true := bne_iff_ne.2 hez
              have hed3 : (e' != (d + -1)) = true := bne_iff_ne.2 hed
              clear he0
              go_wp2_with fail
              go_ret
              exact ⟨_, rfl, by simp [HG.out], kiw⟩
          · have zm : ¬ (m : Int) < (js.length : Int) := by omega
            have HF2 : Hid (flowF l (k + 1) = some es) := by
              show _ = _
              rw [flow_step HJ.out.1 HX.out, HS.out]
              have := HN.out.1
              rw [List.take_of_length_le (by omega)] at this
              exact this
            clear hel
            go_wp2_with fail
            go_roundw
            case rel => exact ⟨k + 1, es, by omega, by go_num, ⟨HF2.out, HN.out.2.1⟩, hbi⟩
            case measure => simp [intOf]; omega
      have h3 := h3o
      have h4 := h4o
      by_cases hlow : d < 1
      case pos =>
        have HG : Hid (¬ P) := fun q => flowP_bad HJ.out.1 HX.out (step_low HD.out (by show d < least op; simp [least, h3, h4]; omega)) (HP.out.1 q)
        go_wp2_with fail
        go_ret
        exact ⟨_, rfl, by simp [HG.out], k3w⟩
      have HM : Hid (d = d + more op) := by show d = d + more op; simp [more, h2o, h4]
      have hov : ¬ 250 < d := by omega
      have HS : Hid (stepF ds k ⟨op, a, b, free, ⟨kind, s, hi, t, lo, up, nn⟩⟩ = notes d js ds) := by
        show _ = _
        rw [HJS.out.1]
        exact step_go HD.out (by intro q; revert q; show ¬ d < least op; simp [least, h3, h4]; omega) HM.out hov
      go_wp2_with fail
      refine HWy.out.mono ?_
      rintro e w4 ⟨gw, rfl, hcw, hgw1, hgw2, hb4⟩
      have hgne : ¬ gw = W0.heap.size := by have := HO3.out.lt.2; omega
      have HCw : Hid (∀ (i j : Nat), js[i]? = some j → w4.cell? ⟨gw, i, none⟩ = some (.int .i64 (j : Int))) := hcw
      have HO4 : Hid (OwnZ 3 w4 W0.heap.size W0.heap.size (l.length + 1) ds .i64) := HO3.out.below hb4
      have kw4 : Below W0.heap.size W0 w4 := kw3.trans (hb4.mono kw3.size)
      have hjl : js.length ≤ 2 := HJS.out.2.1
      clear hcw x0 x1 x2 x3 x4 x5 x6 x7 x8 x9 x10 e0 e1
      go_wp2_with fail
      go_loopw [54] (fun i wi => ∃ (m : Nat) (es : List Int), m ≤ js.length ∧ i = .int .i64 m ∧ Hid (notes d (js.take m) ds = some es ∧ OwnZ 3 wi W0.heap.size W0.heap.size (l.length + 1) es .i64 ∧ Chg (fun q => q = W0.heap.size) w4 wi) ∧ Below W0.heap.size W0 wi) (fun i _ => js.length - (intOf i).toNat)
      case atStart => exact ⟨0, ds, Nat.zero_le _, rfl, ⟨rfl, HO4.out, Chg.refl _ _⟩, kw4⟩
      case round =>
        obtain ⟨m, es, hm, rfl, HN, hbi⟩ := hrel
        have hel : es.length = l.length + 1 := (notes_ok (n := l.length) (d := d) (by omega) _ ⟨HOl.out, (flow_ok HJ.out.1).ran⟩ HN.out.1).len
        by_cases hml : m < js.length
        · have zm : (m : Int) < (js.length : Int) := by omega
          obtain ⟨j, hj⟩ : ∃ j, js[m]? = some j := ⟨_, List.getElem?_eq_getElem hml⟩
          have HJm : Hid (js[m]? = some j) := hj
          have hjn : j ≤ l.length := HJS.out.2.2 m j hj
          have zj : (j : Int) < (l.length : Int) + 1 := by omega
          obtain ⟨e', he'⟩ : ∃ e', es[j]? = some e' := ⟨_, List.getElem?_eq_getElem (by omega)⟩
          have HEs : Hid (es[j]? = some e') := he'
          obtain ⟨f0, f1⟩ := HN.out.2.1.cell he'
          have w0 : wr.cell? ⟨gw, m, none⟩ = some (.int .i64 (j : Int)) := by
            rw [HN.out.2.2.cell (p := ⟨gw, m, none⟩) hgw2 hgne]
            exact HCw.out m j hj
          clear hj he' hel
          have kiw : Below w.heap.size w wr := hb0.trans (hbi.mono (by omega))
          by_cases he0 : e' = 0 ∨ e' = d
          · have HN2 : Hid (notes d (js.take (m + 1)) ds = some (es.set j d) ∧ OwnZ 3 (wr.setCell ⟨W0.heap.size, j, none⟩ (.int .i64 d)) W0.heap.size W0.heap.size (l.length + 1) (es.set j d) .i64 ∧ Chg (fun q => q = W0.heap.size) w4 (wr.setCell ⟨W0.heap.size, j, none⟩ (.int .i64 d))) := ⟨by rw [notes_take HN.out.1 HJm.out, note_some HEs.out he0], HN.out.2.1.set j d, HN.out.2.2.trans (Chg.of_set _ W0.heap.size j _ rfl)⟩
            have kb5 : Below W0.heap.size W0 (wr.setCell ⟨W0.heap.size, j, none⟩ (.int .i64 d)) := hbi.setCell (Nat.le_refl _) _
            by_cases hez : e' = 0
            · subst hez
              clear he0
              go_wp2_with fail
              go_roundw
              case rel => exact ⟨m + 1, _, by omega, by go_num, HN2, kb5⟩
              case measure => simp [intOf]; omega
            · have hed : e' = d := by omega
              have hez2 : (e' == 0) = false := by rw [beq_eq_false_iff_ne]; exact hez
              clear he0
              go_wp2_with fail
              go_roundw
              case rel => exact ⟨m + 1, _, by omega, by go_num, HN2, kb5⟩
              case measure => simp [intOf]; omega
          · have HG : Hid (¬ P) := fun q => flowP_bad HJ.out.1 HX.out (by rw [HS.out]; exact notes_none (m := m + 1) (by rw [notes_take HN.out.1 HJm.out, note_bad HEs.out he0])) (HP.out.1 q)
            have hez : ¬ e' = 0 := fun q => he0 (.inl q)
            have hed : ¬ e' = d := fun q => he0 (.inr q)
            have hez3 : (e' != 0) = true := bne_iff_ne.2 hez
            have hed3 : (e' != d) = true := bne_iff_ne.2 hed
            clear he0
            go_wp2_with fail
            go_ret
            exact ⟨_, rfl, by simp [HG.out], kiw⟩
        · have zm : ¬ (m : Int) < (js.length : Int) := by omega
          have HF2 : Hid (flowF l (k + 1) = some es) := by
            show _ = _
            rw [flow_step HJ.out.1 HX.out, HS.out]
            have := HN.out.1
            rw [List.take_of_length_le (by omega)] at this
            exact this
          clear hel
          go_wp2_with fail
          go_roundw
          case rel => exact ⟨k + 1, es, by omega, by go_num, ⟨HF2.out, HN.out.2.1⟩, hbi⟩
          case measure => simp [intOf]; omega
    · have zk : ¬ (k : Int) < (l.length : Int) := by omega
      have hkl : k = l.length := by omega
      subst hkl
      obtain ⟨d, hd⟩ : ∃ d, ds[l.length]? = some d := ⟨_, List.getElem?_eq_getElem (by omega)⟩
      obtain ⟨e0, e1⟩ := HJ.out.2.cell hd
      have HF : Hid (P ↔ d = 1) := by
        show P ↔ _
        rw [HP.out]
        constructor
        · rintro ⟨ds', q1, q2⟩
          rw [HJ.out.1] at q1
          cases q1
          rw [hd] at q2
          exact Option.some.inj q2
        · intro q
          exact ⟨ds, HJ.out.1, by rw [hd, q]⟩
      have kw : Below w.heap.size w wr := hb0.trans (hb.mono (by omega))
      have zl : (l.length : Int) < (l.length : Int) + 1 := by omega
      clear hd hfl hE
      by_cases hd1 : d = 1
      · have HG : Hid P := HF.out.2 hd1
        go_wp2_with fail
        go_ret
        exact ⟨_, rfl, by simp [HG.out, hd1], kw⟩
      · have HG : Hid (¬ P) := fun q => hd1 (HF.out.1 q)
        go_wp2_with fail
        go_ret
        exact ⟨_, rfl, by simp [HG.out, hd1], kw⟩
end Go.Proofs.Ytlgeffinhbodeae

/-
  impl.ValidCode.
-/
namespace Go.Proofs.Ytlgeffinhbodeae
open Go.ChangeShapes Go.WideShapes Go.ChangeAt Go.RowKit Go.Deep
set_option linter.unusedVariables false
set_option linter.unusedSimpArgs false
set_option maxRecDepth 100000

set_option maxHeartbeats 4000000 in
theorem valid_core (x : Bk) (conds : Nat) (w : World) (h : InIxs w x.v x.l) (ho : x.ok) (hcd : conds ≤ 1000) : Calls Try.prog 68 #[x.val, .int .i64 conds] w (BoolP (GoodB x.l x.cnt conds) w) := by
  obtain ⟨P, hP⟩ : ∃ P : Prop, P = GoodB x.l x.cnt conds := ⟨_, rfl⟩
  rw [← hP]
  obtain ⟨v, cnt, l⟩ := x
  have HP : Hid (P ↔ GoodB l cnt conds) := by show P ↔ _; rw [hP]
  have HH : Hid (InIxs w v l ∧ (∀ e ∈ l, e.ok)) := ⟨h, ho.ins⟩
  obtain ⟨va, cap, hvv⟩ : ∃ va cap, v = .slice va l.length cap := by
    rcases h with ⟨a, cap, hq, hl⟩ | ⟨b, off, cap, hq, _⟩
    · simp only at hq hl; subst hl; exact ⟨_, _, hq⟩
    · exact ⟨_, _, hq⟩
  subst hvv
  clear h ho hP
  obtain ⟨W0, hW0⟩ : ∃ W0 : World, W0 = w.alloc (Obj.cells #[.slice va l.length cap, .int .i64 cnt] 54) := ⟨_, rfl⟩
  have hb0 : Below w.heap.size w W0 := by rw [hW0]; exact (Below.refl _ _).alloc (Nat.le_refl _) _
  have hz0 : w.heap.size < W0.heap.size := by rw [hW0]; simp
  have HK : Hid (∀ wx, Below W0.heap.size W0 wx → wx.cell? ⟨w.heap.size, 0, none⟩ = some (.slice va l.length cap) ∧ wx.cell? ⟨w.heap.size, 1, none⟩ = some (.int .i64 cnt) ∧ InIxs wx (.slice va l.length cap) l) := by
    intro wx hx
    refine ⟨?_, ?_, (HH.out.1.below hb0 (Nat.le_refl _)).below hx (Nat.le_refl _)⟩
    all_goals rw [hx.cell (by exact hz0), hW0]
    all_goals simp
  obtain ⟨k0, k1, _⟩ := HK.out W0 (Below.refl _ _)
  go_enter Try.func68, Try.ntmps68
  go_upto_region 1 with fail
  rw [← hW0]
  clear hW0
  by_cases p0 : 1 ≤ l.length
  case neg =>
    have z : (l.length : Int) < 1 := by omega
    have HG : Hid (¬ P) := fun q => p0 (HP.out.1 q).1
    clear p0
    go_wp2_with fail
    go_ret
    exact ⟨_, rfl, by simp [HG.out], hb0⟩
  have z0 : ¬ (l.length : Int) < 1 := by omega
  by_cases p1 : l.length ≤ 4000
  case neg =>
    have z : (4000 : Int) < (l.length : Int) := by omega
    have HG : Hid (¬ P) := fun q => p1 (HP.out.1 q).2.1
    clear p0 p1
    go_wp2_with fail
    go_ret
    exact ⟨_, rfl, by simp [HG.out], hb0⟩
  have z1 : ¬ (4000 : Int) < (l.length : Int) := by omega
  by_cases p2 : 0 ≤ cnt
  case neg =>
    have z : cnt < 0 := by omega
    have HG : Hid (¬ P) := fun q => p2 (HP.out.1 q).2.2.1
    clear p0 p1
    go_wp2_with fail
    go_ret
    exact ⟨_, rfl, by simp [HG.out], hb0⟩
  have z2 : ¬ cnt < 0 := by omega
  by_cases p3 : cnt ≤ 200
  case neg =>
    have z : 200 < cnt := by omega
    have HG : Hid (¬ P) := fun q => p3 (HP.out.1 q).2.2.2.1
    clear p0 p1
    go_wp2_with fail
    go_ret
    exact ⟨_, rfl, by simp [HG.out], hb0⟩
  have z3 : ¬ 200 < cnt := by omega
  go_wp2_with fail
  go_loopw [29] (fun i wr => ∃ (k : Nat), k ≤ l.length ∧ i = .int .i64 k ∧ Hid (∀ (j : Nat) (y : Ix), j < k → l[j]? = some y → GoodI y j l.length cnt conds) ∧ Below W0.heap.size W0 wr) (fun i _ => l.length - (intOf i).toNat)
  case atStart => exact ⟨0, Nat.zero_le _, rfl, fun j y hj => by omega, Below.refl _ _⟩
  case round =>
    obtain ⟨k, hk, rfl, HJ, hb⟩ := hrel
    have sb := hb.size
    clear k0 k1
    obtain ⟨k0, k1, hI⟩ := HK.out wr hb
    have HI : Hid (InIxs wr (.slice va l.length cap) l) := hI
    clear hI
    by_cases hlt : k < l.length
    · obtain ⟨y, hy⟩ : ∃ y, l[k]? = some y := ⟨_, List.getElem?_eq_getElem hlt⟩
      have zk : (k : Int) < (l.length : Int) := by omega
      have HY : Hid (l[k]? = some y ∧ y.ok) := ⟨hy, HH.out.2 y (List.mem_of_getElem? hy)⟩
      clear hy
      go_wp2_with fail
      refine (validIns_core ⟨.slice va l.length cap, cnt, l⟩ k conds y _ HI.out HY.out.1 HY.out.2).mono ?_
      rintro e w3 ⟨r, rfl, hr, hb3⟩
      have HR : Hid (r = true ↔ GoodI y k l.length cnt conds) := hr
      have kb3 : Below W0.heap.size W0 w3 := hb.trans (hb3.mono sb)
      have k3w : Below w.heap.size w w3 := hb0.trans (kb3.mono (by omega))
      clear hr k0 k1
      cases r
      case false =>
        have HG : Hid (¬ P) := fun q => Bool.noConfusion (HR.out.2 (goodB_ins (HP.out.1 q) HY.out.1))
        go_wp2_with fail
        go_ret
        exact ⟨_, rfl, by simp [HG.out], k3w⟩
      case true =>
      have HN : Hid (∀ (j : Nat) (z : Ix), j < k + 1 → l[j]? = some z → GoodI z j l.length cnt conds) := fun j z hj hz => by
        by_cases e : j = k
        · subst e
          have := HY.out.1
          rw [hz] at this
          cases this
          exact HR.out.1 rfl
        · exact HJ.out j z (by omega) hz
      go_wp2_with fail
      go_roundw
      case rel => exact ⟨k + 1, by omega, by go_num, HN, kb3⟩
      case measure => simp [intOf]; omega
    · have zk : ¬ (k : Int) < (l.length : Int) := by omega
      have HGd : Hid (∀ (j : Nat) (z : Ix), l[j]? = some z → GoodI z j l.length cnt conds) := fun j z hz => HJ.out j z (by have := (List.getElem?_eq_some_iff.1 hz).1; omega) hz
      go_wp2_with fail
      refine (validFlow_core ⟨.slice va l.length cap, cnt, l⟩ conds _ HI.out p0 p1 HGd.out).mono ?_
      rintro e w3 ⟨r, rfl, hr, hb3⟩
      have HR : Hid (r = true ↔ P) := by
        show r = true ↔ P
        rw [hr, HP.out]
        exact ⟨fun q => ⟨p0, p1, p2, p3, HGd.out, q⟩, fun q => q.2.2.2.2.2⟩
      have kb3 : Below W0.heap.size W0 w3 := hb.trans (hb3.mono sb)
      have k3w : Below w.heap.size w w3 := hb0.trans (kb3.mono (by omega))
      clear hr k0 k1 p0 p1
      go_wp2_with fail
      go_ret
      exact ⟨_, rfl, HR.out, k3w⟩
set_option maxHeartbeats 4000000 in
theorem validCodeI_core (u : Value) (bs : List Bk) (m : Bk) (w : World) (h : InBks w u bs) (hok : ∀ x ∈ bs, x.ok) (hm : InIxs w m.v m.l) (hmo : m.ok) :
    Calls Try.prog 23 #[.agg #[u, m.v, .int .i64 m.cnt]] w (BoolP (GoodC bs m) w) := by
  obtain ⟨P, hP⟩ : ∃ P : Prop, P = GoodC bs m := ⟨_, rfl⟩
  rw [← hP]
  have HP : Hid (P ↔ GoodC bs m) := by show P ↔ _; rw [hP]
  have HH : Hid (InBks w u bs ∧ (∀ x ∈ bs, x.ok) ∧ InIxs w m.v m.l ∧ m.ok) := ⟨h, hok, hm, hmo⟩
  obtain ⟨ua, cap, huu⟩ : ∃ ua cap, u = .slice ua bs.length cap := by
    rcases h with ⟨a, cap, hq, hl⟩ | ⟨b, off, cap, hq, _⟩
    · subst hl; exact ⟨_, _, hq⟩
    · exact ⟨_, _, hq⟩
  subst huu
  have hu2 := hm.cells
  clear h hok hm hmo hP
  obtain ⟨W0, hW0⟩ : ∃ W0 : World, W0 = w.alloc (Obj.cells #[.slice ua bs.length cap, m.v, .int .i64 m.cnt] 56) := ⟨_, rfl⟩
  have hb0 : Below w.heap.size w W0 := by rw [hW0]; exact (Below.refl _ _).alloc (Nat.le_refl _) _
  have hz0 : w.heap.size < W0.heap.size := by rw [hW0]; simp
  have HK : Hid (∀ wx, Below W0.heap.size W0 wx → wx.cell? ⟨w.heap.size, 0, none⟩ = some (.slice ua bs.length cap) ∧ wx.cell? ⟨w.heap.size, 1, none⟩ = some m.v ∧ wx.cell? ⟨w.heap.size, 2, none⟩ = some (.int .i64 m.cnt) ∧ InBks wx (.slice ua bs.length cap) bs ∧ InIxs wx m.v m.l) := by
    intro wx hx
    refine ⟨?_, ?_, ?_, (HH.out.1.below hb0).below hx, (HH.out.2.2.1.below hb0 (Nat.le_refl _)).below hx (Nat.le_refl _)⟩
    all_goals rw [hx.cell (by exact hz0), hW0]
    all_goals simp
  obtain ⟨k0, k1, k2, _, _⟩ := HK.out W0 (Below.refl _ _)
  go_enter Try.func23, Try.ntmps23
  go_upto_region 1 with fail
  rw [← hW0]
  clear hW0
  by_cases p0 : bs.length ≤ 200
  case neg =>
    have z : (200 : Int) < (bs.length : Int) := by omega
    have HG : Hid (¬ P) := fun q => p0 (HP.out.1 q).1
    clear p0
    go_wp2_with fail
    go_ret
    exact ⟨_, rfl, by simp [HG.out], hb0⟩
  have z0 : ¬ (200 : Int) < (bs.length : Int) := by omega
  go_wp2_with fail
  clear k0 k1 k2
  go_loopw [12] (fun i wr => ∃ (k : Nat), k ≤ bs.length ∧ i = .int .i64 k ∧ Hid (∀ (j : Nat) (x : Bk), j < k → bs[j]? = some x → GoodB x.l x.cnt j) ∧ Below W0.heap.size W0 wr) (fun i _ => bs.length - (intOf i).toNat)
  case atStart => exact ⟨0, Nat.zero_le _, rfl, fun j x hj => by omega, Below.refl _ _⟩
  case round =>
    obtain ⟨k, hk, rfl, HJ, hb⟩ := hrel
    have sb := hb.size
    obtain ⟨k0, k1, k2, hI, hM⟩ := HK.out wr hb
    have HM : Hid (InIxs wr m.v m.l) := hM
    clear hM
    by_cases hlt : k < bs.length
    · obtain ⟨x, hx⟩ : ∃ x, bs[k]? = some x := ⟨_, List.getElem?_eq_getElem hlt⟩
      have zk : (k : Int) < (bs.length : Int) := by omega
      obtain ⟨b0, off, hua, c0, c1, hX⟩ : ∃ b0 off, ua = some ⟨b0, off, none⟩ ∧ wr.cell? ⟨b0, off + k * 2, none⟩ = some x.v ∧ wr.cell? ⟨b0, off + k * 2 + 1, none⟩ = some (.int .i64 x.cnt) ∧ InIxs wr x.v x.l := by
        rcases hI with ⟨a, cap', hq, hl⟩ | ⟨b, off, cap', hq, hE, _⟩
        · subst hl; simp at hlt
        · cases hq
          obtain ⟨c0, c1, c2⟩ := hE k x hx
          exact ⟨b, off, rfl, c0, c1, c2⟩
      obtain ⟨xv, xcnt, xl⟩ := x
      obtain ⟨xa, xn, xc, hxv, hxn⟩ := hX.one
      simp only at hxv hxn c0 c1 hX
      subst hxn
      subst hxv
      obtain ⟨W1, hW1⟩ : ∃ W1 : World, W1 = wr.alloc (Obj.cells #[.slice xa xl.length xc, .int .i64 xcnt] 54) := ⟨_, rfl⟩
      have hb1 : Below wr.heap.size wr W1 := by rw [hW1]; exact (Below.refl _ _).alloc (Nat.le_refl _) _
      have HX : Hid (InIxs W1 (.slice xa xl.length xc) xl ∧ (⟨.slice xa xl.length xc, xcnt, xl⟩ : Bk).ok ∧ bs[k]? = some ⟨.slice xa xl.length xc, xcnt, xl⟩) := ⟨hX.below hb1 (Nat.le_refl _), HH.out.2.1 _ (List.mem_of_getElem? hx), hx⟩
      have n0 : W1.cell? ⟨wr.heap.size, 0, none⟩ = some (.slice xa xl.length xc) := by rw [hW1]; simp
      have n1 : W1.cell? ⟨wr.heap.size, 1, none⟩ = some (.int .i64 xcnt) := by rw [hW1]; simp
      have kb1 : Below W0.heap.size W0 W1 := hb.trans (hb1.mono sb)
      subst hua
      clear hI hX hx
      go_upto_region 6 with fail
      rw [← hW1]
      clear hW1 c0 c1 k0 k1 k2
      go_wp2_with fail
      refine (valid_core ⟨.slice xa xl.length xc, xcnt, xl⟩ k _ HX.out.1 HX.out.2.1 (by omega)).mono ?_
      rintro e w3 ⟨r, rfl, hr, hb3⟩
      have HR : Hid (r = true ↔ GoodB xl xcnt k) := hr
      have kb3 : Below W0.heap.size W0 w3 := kb1.trans (hb3.mono kb1.size)
      have k3w : Below w.heap.size w w3 := hb0.trans (kb3.mono (by omega))
      clear hr n0 n1
      cases r
      case false =>
        have HG : Hid (¬ P) := fun q => Bool.noConfusion (HR.out.2 ((HP.out.1 q).2.2 k _ HX.out.2.2))
        go_wp2_with fail
        go_ret
        exact ⟨_, rfl, by simp [HG.out], k3w⟩
      case true =>
      have HN : Hid (∀ (j : Nat) (y : Bk), j < k + 1 → bs[j]? = some y → GoodB y.l y.cnt j) := fun j y hj hy => by
        by_cases e : j = k
        · subst e
          have := HX.out.2.2
          rw [hy] at this
          cases this
          exact HR.out.1 rfl
        · exact HJ.out j y (by omega) hy
      go_wp2_with fail
      go_roundw
      case rel => exact ⟨k + 1, by omega, by go_num, HN, kb3⟩
      case measure => simp [intOf]; omega
    · have zk : ¬ (k : Int) < (bs.length : Int) := by omega
      have HB : Hid (∀ (j : Nat) (x : Bk), bs[j]? = some x → GoodB x.l x.cnt j) := fun j x hx => HJ.out j x (by have := (List.getElem?_eq_some_iff.1 hx).1; omega) hx
      clear hI
      go_wp2_with fail
      refine (valid_core m bs.length _ HM.out HH.out.2.2.2 (by omega)).mono ?_
      rintro e w3 ⟨r, rfl, hr, hb3⟩
      have HR : Hid (r = true ↔ P) := by
        show r = true ↔ P
        rw [hr, HP.out]
        exact ⟨fun q => ⟨p0, q, HB.out⟩, fun q => q.2.1⟩
      have kb3 : Below W0.heap.size W0 w3 := hb.trans (hb3.mono sb)
      have k3w : Below w.heap.size w w3 := hb0.trans (kb3.mono (by omega))
      clear hr k0 k1 k2 p0
      go_wp2_with fail
      go_ret
      exact ⟨_, rfl, HR.out, k3w⟩
end Go.Proofs.Ytlgeffinhbodeae

/-
  Blocks and code that come in: copied, compared, opened.
-/
namespace Go.Proofs.Ytlgeffinhbodeae
open Go.ChangeShapes Go.WideShapes Go.ChangeAt Go.RowKit Go.Deep
set_option linter.unusedVariables false
set_option linter.unusedSimpArgs false
set_option maxRecDepth 100000

theorem OwnX.mono {w : World} {base base' g cap : Nat} {es : List Ix} (h : OwnX w base g cap es) (hb : base' ≤ base) : OwnX w base' g cap es := by
  refine ⟨h.1, ?_⟩
  rcases h.2 with hn | ⟨g', cap', cur, hv, h1, rest⟩
  · exact .inl hn
  · exact .inr ⟨g', cap', cur, hv, Nat.le_trans hb h1, rest⟩
set_option maxHeartbeats 400000 in
theorem toBlock_core (x : Bk) (w : World) (h : InIxs w x.v x.l) (h1 : x.l.length ≤ 1048576) :
    Calls Try.prog 67 #[x.val] w fun e w' =>
      ∃ g, e = .returned (.agg #[.slice (some ⟨g, 0, none⟩) x.l.length x.l.length, .int .i64 x.cnt]) ∧ OwnX w' w.heap.size g x.l.length x.l ∧ Below w.heap.size w w' := by
  have HE : Hid (InIxs w x.v x.l) := h
  have hu := h.cells
  obtain ⟨v, cnt, l⟩ := x
  simp only at hu h1
  clear h
  go_enter Try.func67, Try.ntmps67
  go_wp2_with fail
  refine (toInsS_any v l _ (HE.out.below ((((Below.refl _ _).alloc (Nat.le_refl _) _).alloc (by simp) _).alloc (by simp; omega) _) (Nat.le_refl _)) h1).mono ?_
  rintro e w1 ⟨g, rfl, hO, hb1⟩
  obtain ⟨hc1, hf1⟩ := bcell hb1
  have k1 : Below w.heap.size w w1 := ((((Below.refl _ _).alloc (Nat.le_refl _) (Obj.cells #[v, .int .i64 cnt] 46)).alloc (by simp) (Obj.cells #[.slice none 0 0, .int .i64 0] 54)).alloc (by simp; omega) (Obj.cells #[.slice none 0 0, .int .i64 0] 54)).trans (hb1.mono (by simp; omega))
  have HO : Hid (OwnX w1 (w.heap.size + 1 + 1 + 1) g l.length l) := by
    show OwnX w1 (w.heap.size + 1 + 1 + 1) g l.length l
    simpa using hO
  clear hO
  go_wp2_with fail
  refine bodyPost_ret (v := .agg #[.slice (some ⟨g, 0, none⟩) l.length l.length, .int .i64 cnt]) (by simp [results, Try.results67, go_sem, hc1]) rfl ⟨g, rfl, ?_, ?_⟩
  · exact OwnX.mono (ownsRow_setCell_below (ownsRow_setCell_below (ownsRow_setCell_below (ownsRow_setCell_below HO.out (by show w.heap.size + 1 + 1 < _; omega) _) (by show w.heap.size + 1 + 1 < _; omega) _) (by show w.heap.size + 1 < _; omega) _) (by show w.heap.size + 1 < _; omega) _) (by omega)
  · exact (((k1.setCell (by show w.heap.size ≤ w.heap.size + 1 + 1; omega) _).setCell (by show w.heap.size ≤ w.heap.size + 1 + 1; omega) _).setCell (by show w.heap.size ≤ w.heap.size + 1; omega) _).setCell (by show w.heap.size ≤ w.heap.size + 1; omega) _

def cellsB (bs : List Bk) : List Value := bs.flatMap Bk.two
theorem cellsB_cons (e : Bk) (es : List Bk) : cellsB (e :: es) = e.two ++ cellsB es := by simp [cellsB]
theorem length_cellsB (es : List Bk) : (cellsB es).length = es.length * 2 := by
  induction es with
  | nil => rfl
  | cons e es ih => rw [cellsB_cons, List.length_append, ih]; simp; omega
theorem cellsB_get (es : List Bk) : ∀ (k : Nat) (e : Bk), es[k]? = some e → ∀ j, j < 2 → (cellsB es)[k * 2 + j]? = e.two[j]? := by
  induction es with
  | nil => intro k e h; simp at h
  | cons f es ih =>
    intro k e h j hj
    rw [cellsB_cons]
    cases k with
    | zero =>
      simp at h; subst h
      rw [List.getElem?_append_left (by show 0 * 2 + j < 2; omega)]
      simp
    | succ k =>
      simp at h
      rw [List.getElem?_append_right (by show 2 ≤ (k + 1) * 2 + j; omega)]
      have : (k + 1) * 2 + j - f.two.length = k * 2 + j := by show (k + 1) * 2 + j - 2 = _; omega
      rw [this]; exact ih k e h j hj
theorem cellsB_set (es : List Bk) : ∀ (k : Nat) (e e' : Bk) (u : Value) (j : Nat), es[k]? = some e → j < 2 → e'.two = e.two.set j u → (cellsB es).set (k * 2 + j) u = cellsB (es.set k e') := by
  induction es with
  | nil => intro k e e' u j h; simp at h
  | cons f es ih =>
    intro k e e' u j h hj hc
    rw [cellsB_cons]
    cases k with
    | zero =>
      simp at h; subst h
      rw [List.set_append_left _ _ (by show 0 * 2 + j < 2; omega), List.set_cons_zero, cellsB_cons, hc]
      simp
    | succ k =>
      simp at h
      rw [List.set_append_right _ _ (by show 2 ≤ (k + 1) * 2 + j; omega), List.set_cons_succ, cellsB_cons]
      have : (k + 1) * 2 + j - f.two.length = k * 2 + j := by show (k + 1) * 2 + j - 2 = _; omega
      rw [this, ih k e e' u j h hj hc]
def OwnBk (w : World) (base g : Nat) (bs : List Bk) : Prop := w.ownsRow base 54 2 (.slice (some ⟨g, 0, none⟩) bs.length bs.length) bs.length (cellsB bs)
theorem OwnBk.cell {w : World} {base g : Nat} {bs : List Bk} (h : OwnBk w base g bs) {i : Nat} {x : Bk} (hx : bs[i]? = some x) : w.cell? ⟨g, i * 2, none⟩ = some x.v ∧ w.cell? ⟨g, i * 2 + 1, none⟩ = some (.int .i64 x.cnt) := by
  have hi : i < bs.length := (List.getElem?_eq_some_iff.1 hx).1
  have c := fun j (hj : j < 2) => (World.ownsRow.cellAt h (i * 2 + j) (by omega)).trans (cellsB_get bs i x hx j hj)
  exact ⟨by simpa using c 0 (by omega), by simpa using c 1 (by omega)⟩
theorem OwnBk.lt {w : World} {base g : Nat} {bs : List Bk} (h : OwnBk w base g bs) : base ≤ g ∧ g < w.heap.size := World.ownsRow.lt h g rfl
theorem OwnBk.below {w w' : World} {base g : Nat} {bs : List Bk} (h : OwnBk w base g bs) (hb : Below w.heap.size w w') : OwnBk w' base g bs := own_chg (S := fun _ => False) h (Chg.of_below hb) (fun k _ q => q)
theorem OwnBk.put {w : World} {base g : Nat} {bs : List Bk} (h : OwnBk w base g bs) (k : Nat) (f e : Bk) (hk : bs[k]? = some f) :
    OwnBk ((w.setCell ⟨g, k * 2, none⟩ e.v).setCell ⟨g, k * 2 + 1, none⟩ (.int .i64 e.cnt)) base g (bs.set k e) := by
  have hlt : k < bs.length := (List.getElem?_eq_some_iff.1 hk).1
  have h1 := (World.ownsRow.stored h (k * 2 + 0) e.v).1
  rw [cellsB_set bs k f ⟨e.v, f.cnt, f.l⟩ e.v 0 hk (by omega) rfl] at h1
  have h2 := (World.ownsRow.stored h1 (k * 2 + 1) (.int .i64 e.cnt)).1
  rw [cellsB_set (bs.set k ⟨e.v, f.cnt, f.l⟩) k ⟨e.v, f.cnt, f.l⟩ e (.int .i64 e.cnt) 1 (by simp [hlt]) (by omega) rfl, List.set_set] at h2
  unfold OwnBk
  rw [List.length_set]
  exact h2
def zeroB : Bk := ⟨.slice none 0 0, 0, []⟩
theorem Try.infoB : (Try.prog.info? 54).map (fun i => (i.zero, i.size, i.bytes)) = some (some (.agg #[.slice none 0 0, .int .i64 0]), 2, 32) := by kernel_rfl
theorem made_zeroB (n : Nat) : (madeCells #[.slice none 0 0, .int .i64 0] (n * 2)).toList = cellsB (List.replicate n zeroB) := by
  apply List.ext_getElem?
  intro j
  by_cases hj : j < n * 2
  · have h := cellsB_get (List.replicate n zeroB) (j / 2) zeroB (by rw [List.getElem?_replicate, if_pos (by omega)]) (j % 2) (Nat.mod_lt _ (by omega))
    rw [show j / 2 * 2 + j % 2 = j by omega] at h
    rw [h]
    have h6 : j % 2 < 2 := Nat.mod_lt _ (by omega)
    simp [madeCells, hj]
    generalize j % 2 = m at *
    match m, h6 with
    | 0, _ => rfl
    | 1, _ => rfl
  · have h1 : (cellsB (List.replicate n zeroB)).length ≤ j := by rw [length_cellsB, List.length_replicate]; omega
    rw [List.getElem?_eq_none h1]
    simp [madeCells, hj]
/-- Blocks copied so far: their rows lie behind the row of blocks. -/
structure CopB (G : Nat) (bs : List Bk) (k : Nat) (fs : List Bk) (wr : World) : Prop where
  len : fs.length = bs.length
  vw : (fs.take k).map Bk.vw = (bs.take k).map Bk.vw
  own : OwnBk wr G G fs
  ins : ∀ i x, i < k → fs[i]? = some x → InIxs wr x.v x.l ∧ ∀ g n c, x.v = .slice (some g) n c → G < g.block
/-- Blocks that stay whatever turns ahead of 'base'. -/
def AllBks (base : Nat) (w : World) (v : Value) (fs : List Bk) : Prop := ∀ (S : Nat → Prop) (wx : World), Chg S w wx → (∀ k, S k → k < base) → InBks wx v fs
theorem AllBks.in {base : Nat} {w : World} {v : Value} {fs : List Bk} (h : AllBks base w v fs) : InBks w v fs := h (fun _ => False) w (Chg.of_below (Below.refl _ _)) (fun k q => q.elim)
theorem CopB.in {G : Nat} {bs fs : List Bk} {wr : World} (h : CopB G bs bs.length fs wr) (hl : bs.length ≤ maxLen) : AllBks G wr (.slice (some ⟨G, 0, none⟩) bs.length bs.length) fs ∧ fs.map Bk.vw = bs.map Bk.vw := by
  have hv := h.vw
  have hlen := h.len
  rw [List.take_of_length_le (by omega), List.take_of_length_le (by omega)] at hv
  refine ⟨fun S wx hc hS => .inr ⟨G, 0, bs.length, by rw [hlen], fun i x hx => ?_, by have := hc.size; have := h.own.lt.2; omega, by omega, hl⟩, hv⟩
  have hi := (List.getElem?_eq_some_iff.1 hx).1
  rw [Nat.zero_add]
  have hn : ¬ S G := fun q => by have := hS G q; omega
  obtain ⟨h1, h2⟩ := h.ins i x (by omega) hx
  exact ⟨by rw [hc.cell (p := ⟨G, i * 2, none⟩) h.own.lt.2 hn]; exact (h.own.cell hx).1, by rw [hc.cell (p := ⟨G, i * 2 + 1, none⟩) h.own.lt.2 hn]; exact (h.own.cell hx).2, h1.chg hc (fun g n c hq _ q => by have := h2 g n c hq; have := hS _ q; omega)⟩
theorem CopB.step {G : Nat} {bs fs : List Bk} {k g : Nat} {x : Bk} {wr w2 : World} (h : CopB G bs k fs wr) (hx : bs[k]? = some x) (hb : Below wr.heap.size wr w2) (hO : OwnX w2 wr.heap.size g x.l.length x.l) :
    CopB G bs (k + 1) (fs.set k ⟨.slice (some ⟨g, 0, none⟩) x.l.length x.l.length, x.cnt, x.l⟩) ((w2.setCell ⟨G, k * 2, none⟩ (.slice (some ⟨g, 0, none⟩) x.l.length x.l.length)).setCell ⟨G, k * 2 + 1, none⟩ (.int .i64 x.cnt)) := by
  have hk := (List.getElem?_eq_some_iff.1 hx).1
  have hlen := h.len
  obtain ⟨f, hf⟩ : ∃ f, fs[k]? = some f := ⟨_, List.getElem?_eq_getElem (by omega)⟩
  have hG := h.own.lt
  have hc : Chg (fun q => q = G) w2 ((w2.setCell ⟨G, k * 2, none⟩ (.slice (some ⟨g, 0, none⟩) x.l.length x.l.length)).setCell ⟨G, k * 2 + 1, none⟩ (.int .i64 x.cnt)) := (Chg.of_set w2 G (k * 2) _ (S := fun q => q = G) rfl).trans (Chg.of_set _ G (k * 2 + 1) _ (S := fun q => q = G) rfl)
  refine ⟨by rw [List.length_set]; exact h.len, ?_, (h.own.below hb).put k f ⟨.slice (some ⟨g, 0, none⟩) x.l.length x.l.length, x.cnt, x.l⟩ hf, fun i y hi hy => ?_⟩
  · rw [List.take_add_one, List.take_add_one (l := bs), hx]
    rw [List.getElem?_set, if_pos rfl, if_pos (by omega)]
    rw [List.take_set_of_le (by omega)]
    simp only [Option.toList, List.map_append, h.vw]
    rfl
  · rw [List.getElem?_set] at hy
    by_cases e : k = i
    · subst e
      rw [if_pos rfl, if_pos (by omega)] at hy
      obtain rfl := Option.some.inj hy
      have hg := hO.lt.1
      refine ⟨InIxs.chg (InIxs.own hO rfl) hc (fun g' n c hq _ => ?_), fun g' n c hq => ?_⟩
      · cases hq
        show ¬ g = G
        omega
      · cases hq
        show G < g
        omega
    · rw [if_neg e] at hy
      obtain ⟨h1, h2⟩ := h.ins i y (by omega) hy
      refine ⟨(h1.below hb (Nat.le_refl _)).chg hc (fun g' n c hq _ => ?_), h2⟩
      have := h2 g' n c hq
      show ¬ g'.block = G
      omega
set_option maxHeartbeats 1000000 in
theorem toBlockS_core (b off cap : Nat) (bs : List Bk) (w : World) (hE : BksAt w b off bs) (hB : b < w.heap.size) (hlen : bs.length ≤ cap) (hcap : cap ≤ maxLen) (h1 : bs.length + totB bs ≤ 1048576) :
    Calls Try.prog 66 #[.slice (some ⟨b, off, none⟩) bs.length cap] w fun e w' =>
      ∃ g fs, e = .returned (.slice (some ⟨g, 0, none⟩) bs.length bs.length) ∧ AllBks w.heap.size w' (.slice (some ⟨g, 0, none⟩) bs.length bs.length) fs ∧ fs.map Bk.vw = bs.map Bk.vw ∧ Below w.heap.size w w' := by
  have HE : Hid (BksAt w b off bs) := hE
  clear hE
  unfold maxLen at hcap
  obtain ⟨i, hi, hz0, hz1, hz2⟩ := info_parts Try.infoB
  have HI : Hid (Try.prog.info? 54 = some i ∧ i.zero = some (.agg #[.slice none 0 0, .int .i64 0]) ∧ i.size = 2 ∧ i.bytes = 32) := ⟨hi, hz0, hz1, hz2⟩
  clear hi hz0 hz1 hz2
  go_enter Try.func66, Try.ntmps66
  go_wp2_with (at_make; refine wpList_make_full _ rfl _ _ 51 rfl w.heap.size 54 i _ 2 Try.underlying51 HI.out.1 HI.out.2.1 HI.out.2.2.1 _ _ _ _ bs.length rfl rfl ?_ ?_ ?hb ?hm ?hs ?_)
  case hb => rw [HI.out.2.2.2]; omega
  case hm => unfold maxLen; omega
  case hs => exact Nat.le_refl _
  · rfl
  · rfl
  intro w1 hown hgrow
  rw [made_zeroB] at hown
  have HW : Hid (CopB w.heap.size bs 0 (List.replicate bs.length zeroB) w1) := by
    refine ⟨List.length_replicate .., rfl, ?_, fun i x hi => by omega⟩
    unfold OwnBk; rw [List.length_replicate]; exact hown
  have hb1 : Below w.heap.size w w1 := (Below.refl _ _).grown hgrow (Nat.le_refl _) (fun k hk => by cases hk)
  clear hown hgrow
  go_wp2_with fail
  go_loopw [4] (fun i wr => ∃ (k : Nat) (fs : List Bk), k ≤ bs.length ∧ i = .int .i64 k ∧ Hid (CopB w.heap.size bs k fs wr) ∧ Below w.heap.size w wr) (fun i _ => bs.length - (intOf i).toNat)
  case atStart => exact ⟨0, _, Nat.zero_le _, rfl, HW, hb1⟩
  case round =>
    obtain ⟨k, fs, hk, rfl, HC, hb⟩ := hrel
    have sb := hb.size
    by_cases hlt : k < bs.length
    · obtain ⟨x, hx⟩ : ∃ x, bs[k]? = some x := ⟨_, List.getElem?_eq_getElem hlt⟩
      have zk : (k : Int) < (bs.length : Int) := by omega
      have hbw := HE.out k x hx
      have c0 : wr.cell? ⟨b, off + k * 2, none⟩ = some x.v := by rw [hb.cell (p := ⟨b, off + k * 2, none⟩) hB]; exact hbw.1
      have c1 : wr.cell? ⟨b, off + k * 2 + 1, none⟩ = some (.int .i64 x.cnt) := by rw [hb.cell (p := ⟨b, off + k * 2 + 1, none⟩) hB]; exact hbw.2.1
      have hu := hbw.2.2.cells
      have HX : Hid (InIxs wr x.v x.l ∧ bs[k]? = some x) := ⟨hbw.2.2.below hb (Nat.le_refl _), hx⟩
      have hxl : x.l.length ≤ 1048576 := by have := totB_mem (List.mem_of_getElem? hx); omega
      clear hx hbw
      go_wp2_with fail
      refine (toBlock_core x _ HX.out.1 hxl).mono ?_
      rintro e w2 ⟨g, rfl, hO, hb2⟩
      have hOwn := HC.out.own.below hb2
      obtain ⟨f, hf⟩ : ∃ f, fs[k]? = some f := ⟨_, List.getElem?_eq_getElem (by rw [HC.out.len]; exact hlt)⟩
      obtain ⟨d0, d1⟩ := hOwn.cell hf
      have hfz := fun j => World.ownsRow.frozenAt hOwn j
      have HN : Hid (CopB w.heap.size bs (k + 1) (fs.set k ⟨.slice (some ⟨g, 0, none⟩) x.l.length x.l.length, x.cnt, x.l⟩) ((w2.setCell ⟨w.heap.size, k * 2, none⟩ (.slice (some ⟨g, 0, none⟩) x.l.length x.l.length)).setCell ⟨w.heap.size, k * 2 + 1, none⟩ (.int .i64 x.cnt))) := HC.out.step HX.out.2 hb2 hO
      have k2 : Below w.heap.size w ((w2.setCell ⟨w.heap.size, k * 2, none⟩ (.slice (some ⟨g, 0, none⟩) x.l.length x.l.length)).setCell ⟨w.heap.size, k * 2 + 1, none⟩ (.int .i64 x.cnt)) := ((hb.trans (hb2.mono sb)).setCell (Nat.le_refl _) _).setCell (Nat.le_refl _) _
      clear c0 c1 hO hOwn hf
      go_wp2_with fail
      go_roundw
      case rel => exact ⟨k + 1, _, by omega, by go_num, HN, k2⟩
      case measure => simp [intOf]; omega
    · have zk : ¬ (k : Int) < (bs.length : Int) := by omega
      have hkl : k = bs.length := by omega
      subst hkl
      obtain ⟨h2, h3⟩ := HC.out.in (by unfold maxLen; omega)
      have H2 : Hid (AllBks w.heap.size wr (.slice (some ⟨w.heap.size, 0, none⟩) bs.length bs.length) fs ∧ fs.map Bk.vw = bs.map Bk.vw) := ⟨h2, h3⟩
      clear h2 h3
      go_wp2_with fail
      go_ret
      exact ⟨_, rfl, fs, H2.out.1, H2.out.2, hb⟩
set_option maxHeartbeats 400000 in
theorem toBlockS_zero (a : Option Addr) (cap : Nat) (w : World) :
    Calls Try.prog 66 #[.slice a 0 cap] w fun e w' =>
      ∃ g, e = .returned (.slice (some ⟨g, 0, none⟩) 0 0) ∧ g < w'.heap.size ∧ Below w.heap.size w w' := by
  obtain ⟨i, hi, hz0, hz1, hz2⟩ := info_parts Try.infoB
  have HI : Hid (Try.prog.info? 54 = some i ∧ i.zero = some (.agg #[.slice none 0 0, .int .i64 0]) ∧ i.size = 2 ∧ i.bytes = 32) := ⟨hi, hz0, hz1, hz2⟩
  clear hi hz0 hz1 hz2
  go_enter Try.func66, Try.ntmps66
  go_wp2_with (at_make; refine wpList_make_full _ rfl _ _ 51 rfl w.heap.size 54 i _ 2 Try.underlying51 HI.out.1 HI.out.2.1 HI.out.2.2.1 _ _ _ _ 0 rfl rfl ?_ ?_ ?hb ?hm ?hs ?_)
  case hb => rw [HI.out.2.2.2]; omega
  case hm => unfold maxLen; omega
  case hs => exact Nat.le_refl _
  · rfl
  · rfl
  intro w1 hown hgrow
  have hg : w.heap.size < w1.heap.size := (World.ownsRow.lt hown w.heap.size rfl).2
  have hb1 : Below w.heap.size w w1 := (Below.refl _ _).grown hgrow (Nat.le_refl _) (fun k hk => by cases hk)
  clear hown hgrow
  go_wp2_with fail
  go_loopw [4] (fun i wr => i = .int .i64 0 ∧ wr = w1) (fun i _ => 0)
  case atStart => exact ⟨rfl, rfl⟩
  case round =>
    obtain ⟨rfl, rfl⟩ := hrel
    go_wp2_with fail
    go_ret
    exact ⟨_, rfl, hg, hb1⟩
theorem toBlockS_any (v : Value) (bs : List Bk) (w : World) (h : InBks w v bs) (h1 : bs.length + totB bs ≤ 1048576) :
    Calls Try.prog 66 #[v] w fun e w' =>
      ∃ g fs, e = .returned (.slice (some ⟨g, 0, none⟩) bs.length bs.length) ∧ AllBks w.heap.size w' (.slice (some ⟨g, 0, none⟩) bs.length bs.length) fs ∧ fs.map Bk.vw = bs.map Bk.vw ∧ Below w.heap.size w w' := by
  rcases h with ⟨a, cap, rfl, rfl⟩ | ⟨b, off, cap, rfl, hE, hlt, g1, g2⟩
  · refine (toBlockS_zero a cap w).mono ?_
    rintro e w' ⟨g, rfl, _, hb⟩
    exact ⟨g, [], rfl, fun _ _ _ _ => .inl ⟨_, _, rfl, rfl⟩, rfl, hb⟩
  · exact toBlockS_core b off cap bs w hE hlt g1 g2 h1
set_option maxHeartbeats 1000000 in
theorem toCode_any (v : Value) (bs : List Bk) (m : Bk) (w : World) (h : InBks w v bs) (hm : InIxs w m.v m.l) (h1 : bs.length + totB bs + m.l.length ≤ 1048576) :
    Calls Try.prog 22 #[.agg #[v, m.v, .int .i64 m.cnt]] w fun e w' =>
      ∃ g gm fs, e = .returned (.agg #[.slice (some ⟨g, 0, none⟩) bs.length bs.length, .slice (some ⟨gm, 0, none⟩) m.l.length m.l.length, .int .i64 m.cnt]) ∧ InBks w' (.slice (some ⟨g, 0, none⟩) bs.length bs.length) fs ∧ fs.map Bk.vw = bs.map Bk.vw ∧ InIxs w' (.slice (some ⟨gm, 0, none⟩) m.l.length m.l.length) m.l ∧ Below w.heap.size w w' := by
  have HE : Hid (InBks w v bs ∧ InIxs w m.v m.l) := ⟨h, hm⟩
  have hu := h.cells
  have hu2 := hm.cells
  clear h hm
  obtain ⟨W0, hW0⟩ : ∃ W0 : World, W0 = ((w.alloc (Obj.cells #[v, m.v, .int .i64 m.cnt] 48)).alloc (Obj.cells #[.slice none 0 0, .slice none 0 0, .int .i64 0] 56)).alloc (Obj.cells #[.slice none 0 0, .slice none 0 0, .int .i64 0] 56) := ⟨_, rfl⟩
  have hb0 : Below w.heap.size w W0 := by rw [hW0]; exact (((Below.refl _ _).alloc (Nat.le_refl _) _).alloc (by simp) _).alloc (by simp; omega) _
  have hz0 : W0.heap.size = w.heap.size + 1 + 1 + 1 := by rw [hW0]; simp
  have HI0 : Hid (InBks W0 v bs) := HE.out.1.below hb0
  have HZ : Hid (W0.cell? ⟨w.heap.size, 0, none⟩ = some v ∧ W0.cell? ⟨w.heap.size, 1, none⟩ = some m.v ∧ W0.cell? ⟨w.heap.size, 2, none⟩ = some (.int .i64 m.cnt)) := by
    rw [hW0]
    refine ⟨?_, ?_, ?_⟩ <;> simp [go_sem]
  have HR : Hid (∀ b, b = w.heap.size + 1 ∨ b = w.heap.size + 1 + 1 → W0.cell? ⟨b, 0, none⟩ = some (.slice none 0 0) ∧ W0.cell? ⟨b, 1, none⟩ = some (.slice none 0 0) ∧ W0.cell? ⟨b, 2, none⟩ = some (.int .i64 0) ∧ ∀ j, W0.frozen? ⟨b, j, none⟩ = false) := by
    intro b hb
    rw [hW0]
    rcases hb with rfl | rfl
    · refine ⟨?_, ?_, ?_, fun j => ?_⟩ <;> simp [go_sem]
    · refine ⟨?_, ?_, ?_, fun j => ?_⟩ <;> simp [go_sem]
  obtain ⟨a0, a1, a2⟩ := HZ.out
  go_enter Try.func22, Try.ntmps22
  go_upto_region 2 with fail
  rw [← hW0]
  clear hW0
  go_wp2_with fail
  refine (toBlockS_any v bs _ HI0.out (by omega)).mono ?_
  rintro e w1 ⟨g, fs, rfl, hI1, hv1, hb1⟩
  have s1 := hb1.size
  have HF : Hid (AllBks W0.heap.size w1 (.slice (some ⟨g, 0, none⟩) bs.length bs.length) fs ∧ fs.map Bk.vw = bs.map Bk.vw) := ⟨hI1, hv1⟩
  clear hI1 hv1 a0 a1 a2
  have hpc : ∀ b o, b < W0.heap.size → w1.cell? ⟨b, o, none⟩ = W0.cell? ⟨b, o, none⟩ := fun b o h => hb1.cell (p := ⟨b, o, none⟩) h
  have hpf : ∀ b o, b < W0.heap.size → w1.frozen? ⟨b, o, none⟩ = W0.frozen? ⟨b, o, none⟩ := fun b o h => hb1.frozen (p := ⟨b, o, none⟩) h
  have HP : Hid (∀ b, b = w.heap.size + 1 ∨ b = w.heap.size + 1 + 1 → w1.cell? ⟨b, 0, none⟩ = some (.slice none 0 0) ∧ w1.cell? ⟨b, 1, none⟩ = some (.slice none 0 0) ∧ w1.cell? ⟨b, 2, none⟩ = some (.int .i64 0) ∧ ∀ j, w1.frozen? ⟨b, j, none⟩ = false) := by
    intro b hb
    have hlt : b < W0.heap.size := by omega
    obtain ⟨r0, r1, r2, rf⟩ := HR.out b hb
    exact ⟨(hpc _ _ hlt).trans r0, (hpc _ _ hlt).trans r1, (hpc _ _ hlt).trans r2, fun j => (hpf _ _ hlt).trans (rf j)⟩
  have HPC : Hid (∀ b o, b < W0.heap.size → w1.cell? ⟨b, o, none⟩ = W0.cell? ⟨b, o, none⟩) := hpc
  clear hpc hpf
  obtain ⟨p0, p1, p2, pf⟩ := HP.out _ (.inr rfl)
  go_upto_region 3 with fail
  obtain ⟨W2, hW2⟩ : ∃ W2 : World, W2 = w1.setCell ⟨w.heap.size + 1 + 1, 0, none⟩ (.slice (some ⟨g, 0, none⟩) bs.length bs.length) := ⟨_, rfl⟩
  have hz2 : W2.heap.size = w1.heap.size := by rw [hW2]; simp
  have hC2 : Chg (fun q => q = w.heap.size + 1 ∨ q = w.heap.size + 1 + 1) w1 W2 := by rw [hW2]; exact Chg.of_set _ _ _ _ (.inr rfl)
  have hb2 : Below w.heap.size w W2 := by rw [hW2]; exact (hb0.trans (hb1.mono (by omega))).setCell (by show _ ≤ w.heap.size + 1 + 1; omega) _
  have HI2 : Hid (InIxs W2 m.v m.l) := HE.out.2.below hb2 (Nat.le_refl _)
  obtain ⟨q1, q2⟩ : W2.cell? ⟨w.heap.size, 1, none⟩ = some m.v ∧ W2.cell? ⟨w.heap.size, 2, none⟩ = some (.int .i64 m.cnt) := by
    obtain ⟨_, z1, z2⟩ := HZ.out
    exact ⟨by rw [hC2.cell (p := ⟨w.heap.size, 1, none⟩) (by show w.heap.size < _; omega) (by show ¬ (w.heap.size = w.heap.size + 1 ∨ w.heap.size = w.heap.size + 1 + 1); omega)]; exact (HPC.out _ _ (by omega)).trans z1, by rw [hC2.cell (p := ⟨w.heap.size, 2, none⟩) (by show w.heap.size < _; omega) (by show ¬ (w.heap.size = w.heap.size + 1 ∨ w.heap.size = w.heap.size + 1 + 1); omega)]; exact (HPC.out _ _ (by omega)).trans z2⟩
  have HR2 : Hid ((W2.cell? ⟨w.heap.size + 1 + 1, 0, none⟩ = some (.slice (some ⟨g, 0, none⟩) bs.length bs.length) ∧ W2.cell? ⟨w.heap.size + 1 + 1, 1, none⟩ = some (.slice none 0 0) ∧ W2.cell? ⟨w.heap.size + 1 + 1, 2, none⟩ = some (.int .i64 0) ∧ ∀ j, W2.frozen? ⟨w.heap.size + 1 + 1, j, none⟩ = false) ∧ (W2.cell? ⟨w.heap.size + 1, 0, none⟩ = some (.slice none 0 0) ∧ W2.cell? ⟨w.heap.size + 1, 1, none⟩ = some (.slice none 0 0) ∧ W2.cell? ⟨w.heap.size + 1, 2, none⟩ = some (.int .i64 0) ∧ ∀ j, W2.frozen? ⟨w.heap.size + 1, j, none⟩ = false)) := by
    obtain ⟨r0, r1, r2, rf⟩ := HP.out _ (.inl rfl)
    rw [hW2]
    refine ⟨⟨?_, ?_, ?_, fun j => ?_⟩, ?_, ?_, ?_, fun j => ?_⟩ <;> simp [go_sem, p0, p1, p2, pf, r0, r1, r2, rf]
  rw [← hW2]
  clear hW2 p0 p1 p2 pf
  go_wp2_with fail
  refine (toBlock_core m _ HI2.out (by omega)).mono ?_
  rintro e w3 ⟨gm, rfl, hO3, hb3⟩
  have s3 := hb3.size
  have hC3 : Chg (fun q => q = w.heap.size + 1 ∨ q = w.heap.size + 1 + 1) w1 w3 := hC2.trans (Chg.of_below hb3)
  have HO3 : Hid (OwnX w3 W2.heap.size gm m.l.length m.l) := hO3
  have hgm := hO3.lt
  have k3 : Below w.heap.size w w3 := hb2.trans (hb3.mono hb2.size)
  clear hO3 q1 q2
  have HP3 : Hid ((w3.cell? ⟨w.heap.size + 1 + 1, 0, none⟩ = some (.slice (some ⟨g, 0, none⟩) bs.length bs.length) ∧ w3.cell? ⟨w.heap.size + 1 + 1, 1, none⟩ = some (.slice none 0 0) ∧ w3.cell? ⟨w.heap.size + 1 + 1, 2, none⟩ = some (.int .i64 0) ∧ ∀ j, w3.frozen? ⟨w.heap.size + 1 + 1, j, none⟩ = false) ∧ (w3.cell? ⟨w.heap.size + 1, 0, none⟩ = some (.slice none 0 0) ∧ w3.cell? ⟨w.heap.size + 1, 1, none⟩ = some (.slice none 0 0) ∧ w3.cell? ⟨w.heap.size + 1, 2, none⟩ = some (.int .i64 0) ∧ ∀ j, w3.frozen? ⟨w.heap.size + 1, j, none⟩ = false)) := by
    have hpc : ∀ b o, b < W2.heap.size → w3.cell? ⟨b, o, none⟩ = W2.cell? ⟨b, o, none⟩ := fun b o h => hb3.cell (p := ⟨b, o, none⟩) h
    have hpf : ∀ b o, b < W2.heap.size → w3.frozen? ⟨b, o, none⟩ = W2.frozen? ⟨b, o, none⟩ := fun b o h => hb3.frozen (p := ⟨b, o, none⟩) h
    obtain ⟨⟨r0, r1, r2, rf⟩, t0, t1, t2, tf⟩ := HR2.out
    have e1 : w.heap.size + 1 + 1 < W2.heap.size := by omega
    have e2 : w.heap.size + 1 < W2.heap.size := by omega
    exact ⟨⟨(hpc _ _ e1).trans r0, (hpc _ _ e1).trans r1, (hpc _ _ e1).trans r2, fun j => (hpf _ _ e1).trans (rf j)⟩, (hpc _ _ e2).trans t0, (hpc _ _ e2).trans t1, (hpc _ _ e2).trans t2, fun j => (hpf _ _ e2).trans (tf j)⟩
  obtain ⟨⟨p0, p1, p2, pf⟩, t0, t1, t2, tf⟩ := HP3.out
  go_wp2_with fail
  refine bodyPost_ret (v := .agg #[.slice (some ⟨g, 0, none⟩) bs.length bs.length, .slice (some ⟨gm, 0, none⟩) m.l.length m.l.length, .int .i64 m.cnt]) (by simp [results, Try.results22, go_sem, t0, t1, t2]) rfl ⟨g, gm, fs, rfl, ?_⟩
  have e1 : w.heap.size ≤ w.heap.size + 1 + 1 := by omega
  have e2 : w.heap.size ≤ w.heap.size + 1 := by omega
  obtain ⟨W5, hW5⟩ : ∃ W5 : World, W5 = ((((w3.setCell ⟨w.heap.size + 1 + 1, 1, none⟩ (.slice (some ⟨gm, 0, none⟩) m.l.length m.l.length)).setCell ⟨w.heap.size + 1 + 1, 2, none⟩ (.int .i64 m.cnt)).setCell ⟨w.heap.size + 1, 0, none⟩ (.slice (some ⟨g, 0, none⟩) bs.length bs.length)).setCell ⟨w.heap.size + 1, 1, none⟩ (.slice (some ⟨gm, 0, none⟩) m.l.length m.l.length)).setCell ⟨w.heap.size + 1, 2, none⟩ (.int .i64 m.cnt) := ⟨_, rfl⟩
  have hC5 : Chg (fun q => q = w.heap.size + 1 ∨ q = w.heap.size + 1 + 1) w3 W5 := by
    rw [hW5]
    exact ((((Chg.of_set w3 (w.heap.size + 1 + 1) 1 _ (S := fun q => q = w.heap.size + 1 ∨ q = w.heap.size + 1 + 1) (.inr rfl)).trans (Chg.of_set _ (w.heap.size + 1 + 1) 2 _ (.inr rfl))).trans (Chg.of_set _ (w.heap.size + 1) 0 _ (.inl rfl))).trans (Chg.of_set _ (w.heap.size + 1) 1 _ (.inl rfl))).trans (Chg.of_set _ (w.heap.size + 1) 2 _ (.inl rfl))
  have k5 : Below w.heap.size w W5 := by
    rw [hW5]
    exact ((((k3.setCell e1 _).setCell e1 _).setCell e2 _).setCell e2 _).setCell e2 _
  rw [← hW5]
  exact ⟨HF.out.1 _ _ (hC3.trans hC5) (fun k hk => by omega), HF.out.2, InIxs.chg (InIxs.own HO3.out rfl) hC5 (fun g' n c hq _ q => by
    cases hq
    have : gm = w.heap.size + 1 ∨ gm = w.heap.size + 1 + 1 := q
    omega), k5⟩

end Go.Proofs.Ytlgeffinhbodeae

