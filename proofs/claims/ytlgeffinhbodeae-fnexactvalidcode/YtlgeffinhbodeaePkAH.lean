import Derived.Deep.RegionLaw
import Derived.Test.YtlgeffinhbodeaePkAG
import Derived.Test.YtlgeffinhbodeaePkAF
/-
  spec.l6GoodBlock.
-/
namespace Go.Proofs.Ytlgeffinhbodeae
open Go.ChangeShapes Go.WideShapes Go.ChangeAt Go.RowKit Go.Deep
set_option linter.unusedVariables false
set_option linter.unusedSimpArgs false
set_option maxRecDepth 100000

theorem stepF_eq {ds : List Int} {k : Nat} {x : Ix} {e : Int} (h : ds[k]? = some e) : stepF ds k x = if e < least x.op ∨ 250 < e + more x.op then none else notes (e + more x.op) (ways k x) ds := by
  unfold stepF; rw [h]
theorem step_low {ds : List Int} {k : Nat} {x : Ix} {e : Int} (h : ds[k]? = some e) (hl : e < least x.op) : stepF ds k x = none := by
  rw [stepF_eq h, if_pos (.inl hl)]
theorem note_step {ds : List Int} {k j : Nat} {x : Ix} {e e1 d : Int} {js : List Nat} (hk : ds[k]? = some e) (hl : ¬ e < least x.op) (hd : d = e + more x.op) (h1 : 1 ≤ d) (hj : ds[j]? = some e1) (hw : ways k x = j :: js) :
    (((e1 = 0 ∨ e1 = d) ∧ 1 ≤ d ∧ d ≤ 250) → stepF ds k x = notes d js (ds.set j d)) ∧ (¬ ((e1 = 0 ∨ e1 = d) ∧ 1 ≤ d ∧ d ≤ 250) → stepF ds k x = none) := by
  subst hd
  refine ⟨fun h => ?_, fun h => ?_⟩
  · rw [stepF_eq hk, if_neg (by omega), hw, notes, note_some hj h.1]
    rfl
  · by_cases h2 : 250 < e + more x.op
    · rw [stepF_eq hk, if_pos (.inr h2)]
    · rw [stepF_eq hk, if_neg (by omega), hw, notes, note_bad hj (fun q => h ⟨q, h1, by omega⟩)]
      rfl
theorem flow_bad {l : List Ix} {cnt : Int} {conds k : Nat} {ds : List Int} {x : Ix} (h : flowF l k = some ds) (hx : l[k]? = some x) (hs : stepF ds k x = none) : ¬ GoodB l cnt conds := fun q =>
  goodB_flow q (k := k + 1) (by have := (List.getElem?_eq_some_iff.1 hx).1; omega) (by rw [flow_step h hx, hs])
/-- The flow so far, and the instructions so far. -/
structure FlowI (l : List Ix) (cnt : Int) (conds k : Nat) (ds : List Int) : Prop where
  flow : flowF l k = some ds
  good : ∀ (j : Nat) (x : Ix), j < k → l[j]? = some x → GoodI x j l.length cnt conds
theorem FlowI.next {l : List Ix} {cnt : Int} {conds k : Nat} {ds ds' : List Int} {x : Ix} (h : FlowI l cnt conds k ds) (hx : l[k]? = some x) (hg : GoodI x k l.length cnt conds) (hs : stepF ds k x = some ds') : FlowI l cnt conds (k + 1) ds' :=
  ⟨by rw [flow_step h.flow hx, hs], fun j y hj hy => by
    by_cases e : j = k
    · subst e; rw [hx] at hy; cases hy; exact hg
    · exact h.good j y (by omega) hy⟩
theorem FlowI.end {l : List Ix} {cnt : Int} {conds : Nat} {ds : List Int} {e : Int} (h : FlowI l cnt conds l.length ds) (h1 : 1 ≤ l.length) (h2 : l.length ≤ 4000) (h3 : 0 ≤ cnt) (h4 : cnt ≤ 200) (he : ds[l.length]? = some e) : GoodB l cnt conds ↔ e = 1 := by
  constructor
  · rintro ⟨_, _, _, _, _, ds', hf, hd⟩
    rw [h.flow] at hf
    cases hf
    rw [he] at hd
    exact Option.some.inj hd
  · intro q
    subst q
    exact ⟨h1, h2, h3, h4, fun k x hx => h.good k x (List.getElem?_eq_some_iff.1 hx).1 hx, ds, h.flow, he⟩
theorem Try.infoI64 : (Try.prog.info? 2).map (fun i => (i.zero, i.size, i.bytes)) = some (some (.int .i64 0), 1, 8) := by kernel_rfl
theorem wpList_append_i64 {ops : Array Oper} {rest : List Oper} {oo : Oper} {a : Act} {Q : Exit → Act → World → Prop} (w : World) (hgd : oo.guard = none) (s x : Operand)
    (ho : oo.op = .call { callee := .builtin .append, args := #[s, x], argTypes := #[171, 171] })
    (base gq cp n b m cx : Nat) (us vs : List Int) (hs : a.eval s = .slice (some ⟨gq, 0, none⟩) n cp) (hx : a.eval x = .slice (some ⟨b, 0, none⟩) m cx) (hn : n = us.length) (hm : m = vs.length) (hO : OwnZ 2 w base gq cp us .i64)
    (hc : ∀ (j : Nat) v, vs[j]? = some v → w.cell? ⟨b, j, none⟩ = some (.int .i64 v)) (hlen : us.length + vs.length ≤ 10000) (hbase : base ≤ w.heap.size)
    (h : ∀ g' cp' w', OwnZ 2 w' base g' cp' (us ++ vs) .i64 → w.grownBy w' (some gq) → wpList Try.prog ops Q rest (a.put oo.dst (.slice (some ⟨g', 0, none⟩) (n + m) cp')) w') : wpList Try.prog ops Q (oo :: rest) a w := by
  subst hn hm
  obtain ⟨i, hi, hz0, hz1, hz2⟩ := info_parts Try.infoI64
  refine wpList_append_own_at w hgd s x 171 ho base 2 i _ 1 8 Try.underlying171 hi hz0 hz1 hz2 rfl (by decide) (.slice (some ⟨gq, 0, none⟩) us.length cp) us.length (us.map fun d => .int .i64 d) hs hO ⟨b, 0, none⟩ vs.length cx (vs.map fun d => .int .i64 d) hx (by simp) ?_ ?_ ?_ ?_ hbase ?_
  · intro j u hu
    rw [List.getElem?_map] at hu
    cases hq : vs[j]? with
    | none => rw [hq] at hu; cases hu
    | some d => rw [hq] at hu; obtain rfl := Option.some.inj hu; rw [Addr.add_mid, Nat.zero_add]; exact hc j d hq
  · intro v hv
    obtain ⟨d, _, rfl⟩ := List.mem_map.1 hv
    rfl
  · unfold maxLen; omega
  · omega
  · intro v' w' hO' hgr hnil hat
    rcases hO'.2 with ⟨h0, _⟩ | ⟨g', cap', cur, hv, _, _, hn, hcap, _, _⟩
    · have := (hnil.1 h0).1
      cases this
    · subst hv
      refine h g' cap' w' ?_ hgr
      unfold OwnZ
      rw [List.length_append, List.map_append]
      exact hO'
theorem rep_snoc (k : Nat) : (1 : Int) :: (List.replicate k 0 ++ [0]) = 1 :: List.replicate (k + 1) 0 := by
  congr 1
  rw [List.replicate_succ']
set_option maxHeartbeats 16000000 in
theorem goodBlockS_core (x : Bk) (conds : Nat) (w : World) (h : InIxs w x.v x.l) (ho : x.ok) (hcd : conds ≤ 1000) : Calls Try.prog 65 #[x.val, .int .i64 conds] w (BoolP (GoodB x.l x.cnt conds) w) := by
  obtain ⟨P, hP⟩ : ∃ P : Prop, P = GoodB x.l x.cnt conds := ⟨_, rfl⟩
  rw [← hP]
  obtain ⟨v, cnt, l⟩ := x
  have HP : Hid (P ↔ GoodB l cnt conds) := by show P ↔ _; rw [hP]
  have hu := h.cells
  simp only at hu
  have HH : Hid (InIxs w v l ∧ (∀ e ∈ l, e.ok)) := ⟨h, ho.ins⟩
  obtain ⟨va, cap, hvv⟩ : ∃ va cap, v = .slice va l.length cap := by
    rcases h with ⟨a, cap, hq, hl⟩ | ⟨b, off, cap, hq, _⟩
    · simp only at hq hl; subst hl; exact ⟨_, _, hq⟩
    · exact ⟨_, _, hq⟩
  subst hvv
  clear h ho hP
  obtain ⟨W0, hW0⟩ : ∃ W0 : World, W0 = w.alloc (Obj.cells #[.slice va l.length cap, .int .i64 cnt] 54) := ⟨_, rfl⟩
  have hb0 : Below w.heap.size w W0 := by rw [hW0]; exact (Below.refl _ _).alloc (Nat.le_refl _) _
  have hz0 : w.heap.size < W0.heap.size := by rw [hW0]; simp
  have HK : Hid (∀ wx, Below W0.heap.size W0 wx → wx.cell? ⟨w.heap.size, 0, none⟩ = some (.slice va l.length cap) ∧ wx.cell? ⟨w.heap.size, 1, none⟩ = some (.int .i64 cnt)) := by
    intro wx hx
    rw [hx.cell (p := ⟨w.heap.size, 0, none⟩) hz0, hx.cell (p := ⟨w.heap.size, 1, none⟩) hz0, hW0]
    exact ⟨by simp, by simp⟩
  obtain ⟨k0, k1⟩ := HK.out W0 (Below.refl _ _)
  go_enter Try.func65, Try.ntmps65
  go_upto_region 1 with fail
  rw [← hW0]
  clear hW0
  by_cases p0 : 1 ≤ l.length
  case neg =>
    have z : (l.length : Int) < 1 := by omega
    have HG : Hid (¬ P) := fun q => p0 (HP.out.1 q).1
    clear p0
    go_wp2_with fail
    go_ret
    exact ⟨_, rfl, by simp [HG.out], hb0⟩
  have z0 : ¬ (l.length : Int) < 1 := by omega
  by_cases p1 : l.length ≤ 4000
  case neg =>
    have z : (4000 : Int) < (l.length : Int) := by omega
    have HG : Hid (¬ P) := fun q => p1 (HP.out.1 q).2.1
    clear p0 p1
    go_wp2_with fail
    go_ret
    exact ⟨_, rfl, by simp [HG.out], hb0⟩
  have z1 : ¬ (4000 : Int) < (l.length : Int) := by omega
  by_cases p2 : 0 ≤ cnt
  case neg =>
    have z : cnt < 0 := by omega
    have HG : Hid (¬ P) := fun q => p2 (HP.out.1 q).2.2.1
    clear p0 p1
    go_wp2_with fail
    go_ret
    exact ⟨_, rfl, by simp [HG.out], hb0⟩
  have z2 : ¬ cnt < 0 := by omega
  by_cases p3 : cnt ≤ 200
  case neg =>
    have z : 200 < cnt := by omega
    have HG : Hid (¬ P) := fun q => p3 (HP.out.1 q).2.2.2.1
    clear p0 p1
    go_wp2_with fail
    go_ret
    exact ⟨_, rfl, by simp [HG.out], hb0⟩
  have z3 : ¬ 200 < cnt := by omega
  obtain ⟨b0, off, hva, HE⟩ : ∃ b0 off, va = some ⟨b0, off, none⟩ ∧ Hid (∀ wx, Below W0.heap.size W0 wx → IxsAt wx b0 off l) := by
    rcases HH.out.1 with ⟨a, cap', hq, hl⟩ | ⟨b, off, cap', hq, hE, hlt, h1, h2⟩
    · subst hl; simp at p0
    · cases hq
      exact ⟨b, off, rfl, fun wx hx => (hE.below hb0 hlt).below hx (by omega)⟩
  subst hva
  obtain ⟨W1, hW1⟩ : ∃ W1 : World, W1 = W0.alloc (Obj.cells #[.int .i64 1] 2) := ⟨_, rfl⟩
  have hb1 : Below W0.heap.size W0 W1 := by rw [hW1]; exact (Below.refl _ _).alloc (Nat.le_refl _) _
  have HO1 : Hid (OwnZ 2 W1 W0.heap.size W0.heap.size 1 (1 :: List.replicate 0 0) .i64) := by
    rw [hW1]
    exact World.ownsRow_lit W0 #[.int .i64 1] 1 (Nat.le_refl _) (by decide) rfl
  go_upto_region 5 with fail
  rw [← hW1]
  clear hW1 k0 k1
  go_wp2_with fail
  go_loopw [6, 7] (fun d i wr => ∃ (k g cp : Nat), k ≤ l.length ∧ i = .int .i64 k ∧ d = .slice (some ⟨g, 0, none⟩) (k + 1) cp ∧ Hid (OwnZ 2 wr W0.heap.size g cp (1 :: List.replicate k 0) .i64) ∧ Below W0.heap.size W0 wr) (fun _ i _ => l.length - (intOf i).toNat)
  case atStart => exact ⟨0, _, _, Nat.zero_le _, rfl, rfl, HO1, hb1⟩
  case round =>
    obtain ⟨k, g, cp, hk, rfl, rfl, HO, hb⟩ := hrel
    have sb := hb.size
    by_cases hlt : k < l.length
    · have zk : (k : Int) < (l.length : Int) := by omega
      have ba : Below wr.heap.size wr (wr.alloc (Obj.cells #[.int .i64 0] 2)) := (Below.refl _ _).alloc (Nat.le_refl _) _
      have HOa : Hid (OwnZ 2 (wr.alloc (Obj.cells #[.int .i64 0] 2)) W0.heap.size g cp (1 :: List.replicate k 0) .i64) := HO.out.below ba
      go_wp2_with (at_builtin; refine wpList_append_i64 _ rfl _ _ rfl W0.heap.size g cp (k + 1) wr.heap.size 1 1 (1 :: List.replicate k 0) [0] rfl rfl (by simp) rfl HOa.out ?hc ?hl ?hb ?_)
      case hc => intro j d hd; (have hj : j = 0 := by (have := (List.getElem?_eq_some_iff.1 hd).1; simp at this; omega)); subst hj; obtain rfl := Option.some.inj hd; simp
      case hl => simp; omega
      case hb => simp; omega
      intro g' cp' w' hO' hgr
      have HO' : Hid (OwnZ 2 w' W0.heap.size g' cp' (1 :: List.replicate (k + 1) 0) .i64) := by rw [rep_snoc] at hO'; exact hO'
      have b1 := hb.trans (ba.mono sb)
      have hb' : Below W0.heap.size W0 w' := b1.grown hgr b1.size (fun j hj => by have := HOa.out.lt.1; cases hj; omega)
      clear hO' hgr
      go_wp2_with fail
      go_roundw
      case rel => exact ⟨k + 1, g', cp', by omega, by go_num, rfl, HO', hb'⟩
      case measure => simp [intOf]; omega
    · have zk : ¬ (k : Int) < (l.length : Int) := by omega
      have hkl : k = l.length := by omega
      subst hkl
      have HF0 : Hid (FlowI l cnt conds 0 (1 :: List.replicate l.length 0)) := ⟨rfl, fun j x hj => by omega⟩
      go_wp2_with fail
      go_loopw [8] (fun i wr => ∃ (k : Nat) (ds : List Int), k ≤ l.length ∧ i = .int .i64 k ∧ Hid (FlowI l cnt conds k ds ∧ OwnZ 2 wr W0.heap.size g cp ds .i64) ∧ Below W0.heap.size W0 wr) (fun i _ => l.length - (intOf i).toNat)
      case atStart => exact ⟨0, _, Nat.zero_le _, rfl, ⟨HF0.out, HO.out⟩, hb⟩
      case round =>
        obtain ⟨k, ds, hk, rfl, HJ, hb⟩ := hrel
        have hfl := (flow_ok HJ.out.1.flow).len
        obtain ⟨k0, k1⟩ := HK.out wr hb
        by_cases hlt : k < l.length
        · have zk : (k : Int) < (l.length : Int) := by omega
          have zk1 : (k : Int) < (l.length : Int) + 1 := by omega
          obtain ⟨x, hx⟩ : ∃ x, l[k]? = some x := ⟨_, List.getElem?_eq_getElem hlt⟩
          obtain ⟨op, a, b, free, ⟨kind, s, hi, t, lo, up, nn⟩⟩ := x
          have HX : Hid (l[k]? = some ⟨op, a, b, free, ⟨kind, s, hi, t, lo, up, nn⟩⟩ ∧ (⟨op, a, b, free, ⟨kind, s, hi, t, lo, up, nn⟩⟩ : Ix).ok) := ⟨hx, HH.out.2 _ (List.mem_of_getElem? hx)⟩
          obtain ⟨c0, c1, c2, c3, c4, c5, c6, c7, c8, c9, c10⟩ := HE.out wr hb k _ hx
          obtain ⟨d, hd⟩ : ∃ d, ds[k]? = some d := ⟨_, List.getElem?_eq_getElem (by omega)⟩
          have HD : Hid (ds[k]? = some d) := hd
          have hdr := (flow_ok HJ.out.1.flow).ran d (List.mem_of_getElem? hd)
          obtain ⟨W2, hW2⟩ : ∃ W2 : World, W2 = wr.alloc (Obj.cells #[.int .i64 op, .int .i64 a, .int .i64 b, .bool free, .int .i64 kind, .string s, .bool hi, .string t, .int .u64 lo, .int .u64 up, .int .i64 nn] 175) := ⟨_, rfl⟩
          have hb2 : Below wr.heap.size wr W2 := by rw [hW2]; exact (Below.refl _ _).alloc (Nat.le_refl _) _
          have hz2 : W2.heap.size = wr.heap.size + 1 := by rw [hW2]; simp
          have HX2 : Hid (∀ wx, (Chg (fun q => q = g) W2 wx) → wx.cell? ⟨wr.heap.size, 0, none⟩ = some (.int .i64 op) ∧ wx.cell? ⟨wr.heap.size, 1, none⟩ = some (.int .i64 a) ∧ wx.cell? ⟨wr.heap.size, 2, none⟩ = some (.int .i64 b) ∧ wx.cell? ⟨wr.heap.size, 3, none⟩ = some (.bool free) ∧ wx.cell? ⟨wr.heap.size, 4, none⟩ = some (.int .i64 kind) ∧ wx.cell? ⟨wr.heap.size, 5, none⟩ = some (.string s) ∧ wx.cell? ⟨wr.heap.size, 6, none⟩ = some (.bool hi) ∧ wx.cell? ⟨wr.heap.size, 7, none⟩ = some (.string t) ∧ wx.cell? ⟨wr.heap.size, 8, none⟩ = some (.int .u64 lo) ∧ wx.cell? ⟨wr.heap.size, 9, none⟩ = some (.int .u64 up) ∧ wx.cell? ⟨wr.heap.size, 10, none⟩ = some (.int .i64 nn)) := by
            intro wx hc
            have hne : ¬ wr.heap.size = g := by have := HJ.out.2.lt.2; omega
            refine ⟨?_, ?_, ?_, ?_, ?_, ?_, ?_, ?_, ?_, ?_, ?_⟩
            all_goals rw [hc.cell (by show wr.heap.size < _; omega) (by exact hne), hW2]
            all_goals simp
          have HO2 : Hid (OwnZ 2 W2 W0.heap.size g cp ds .i64) := HJ.out.2.below hb2
          have kw2 : Below W0.heap.size W0 W2 := hb.trans (hb2.mono hb.size)
          obtain ⟨m0, m1⟩ := HK.out W2 kw2
          obtain ⟨e0, e1⟩ := HO2.out.cell hd
          obtain ⟨x0, x1, x2, x3, x4, x5, x6, x7, x8, x9, x10⟩ := HX2.out W2 (Chg.refl _ _)
          clear hx hd hfl
          go_upto_region 13 with fail
          rw [← hW2]
          clear hW2 c0 c1 c2 c3 c4 c5 c6 c7 c8 c9 c10 k0 k1
          go_wp2_with fail
          refine (goodInsS_core ⟨op, a, b, free, ⟨kind, s, hi, t, lo, up, nn⟩⟩ (k : Int) (l.length : Int) cnt (conds : Int) _ HX.out.2).mono ?_
          rintro e w3 ⟨r, rfl, hr, hb3⟩
          have HR : Hid (r = true ↔ GoodI ⟨op, a, b, free, ⟨kind, s, hi, t, lo, up, nn⟩⟩ (k : Int) (l.length : Int) cnt (conds : Int)) := hr
          have hC3 : Chg (fun q => q = g) W2 w3 := Chg.of_below hb3
          have kw3 : Below W0.heap.size W0 w3 := kw2.trans (hb3.mono kw2.size)
          have k3w : Below w.heap.size w w3 := hb0.trans (kw3.mono (by omega))
          clear hr m0 m1 e0 e1 x0 x1 x2 x3 x4 x5 x6 x7 x8 x9 x10
          obtain ⟨x0, x1, x2, x3, x4, x5, x6, x7, x8, x9, x10⟩ := HX2.out w3 hC3
          cases r
          case false =>
            have HG : Hid (¬ P) := fun q => Bool.noConfusion (HR.out.2 (goodB_ins (HP.out.1 q) HX.out.1))
            go_wp2_with fail
            go_ret
            exact ⟨_, rfl, by simp [HG.out], k3w⟩
          case true =>
          have HGI : Hid (GoodI ⟨op, a, b, free, ⟨kind, s, hi, t, lo, up, nn⟩⟩ (k : Int) (l.length : Int) cnt (conds : Int)) := HR.out.1 rfl
          have HO3 : Hid (OwnZ 2 w3 W0.heap.size g cp ds .i64) := HO2.out.below hb3
          have hop : (op = 1 ∨ op = 2 ∨ op = 3 ∨ op = 4) ∨ (op = 5 ∧ (k : Int) < b ∧ b ≤ (l.length : Int)) ∨ (op = 6 ∧ (k : Int) < b ∧ b ≤ (l.length : Int)) := by
            have := HGI.out
            simp only [GoodI] at this
            omega
          have HLn : Hid (ds.length = l.length + 1) := (flow_ok HJ.out.1.flow).len
          have HNt : Hid (∀ (wx : World) (ds' : List Int) (j : Nat) (jj left e' : Int), OwnZ 2 wx W0.heap.size g cp ds' .i64 → ds'.length = l.length + 1 → jj = (j : Int) → ds'[j]? = some e' → Calls Try.prog 107 #[.slice (some ⟨g, 0, none⟩) (l.length + 1) cp, .int .i64 jj, .int .i64 left] wx (NoteP e' left W0.heap.size g cp j ds' wx)) := by
            intro wx ds' j jj left e' h1 h2 h3 h4
            subst h3
            have := noteS_core W0.heap.size g cp ds' j left e' wx h1 h4 (by omega)
            rw [h2] at this
            exact this
          have hgl : W0.heap.size ≤ g := HO3.out.lt.1
          have hwk : IntKind.i64.wrap ((k : Int) + 1) = (k : Int) + 1 := by rw [IntKind.wrap_i64]; omega
          have hwp : IntKind.i64.wrap (d + 1) = d + 1 := by rw [IntKind.wrap_i64]; omega
          have hwm : IntKind.i64.wrap (d - 1) = d - 1 := by rw [IntKind.wrap_i64]; omega
          rcases hop with hop | ⟨rfl, hkb, hbn⟩ | ⟨rfl, hkb, hbn⟩
          · rcases hop with rfl | rfl | rfl | rfl
            · by_cases hd0 : d = 0
              case pos =>
                have HG : Hid (¬ P) := fun q => flow_bad HJ.out.1.flow HX.out.1 (step_low HD.out (by show d < least 1; simp [least]; omega)) (HP.out.1 q)
                go_wp2_with fail
                go_ret
                exact ⟨_, rfl, by simp [HG.out], k3w⟩
              have hdz : (d == 0) = false := by rw [beq_eq_false_iff_ne]; exact hd0
              obtain ⟨e1, he1⟩ : ∃ e1, ds[k + 1]? = some e1 := ⟨_, List.getElem?_eq_getElem (by have := HLn.out; omega)⟩
              have HS : Hid ((((e1 = 0 ∨ e1 = d) ∧ 1 ≤ d ∧ d ≤ 250) → stepF ds k ⟨1, a, b, free, ⟨kind, s, hi, t, lo, up, nn⟩⟩ = notes (d) [] (ds.set (k + 1) (d))) ∧ (¬ ((e1 = 0 ∨ e1 = d) ∧ 1 ≤ d ∧ d ≤ 250) → stepF ds k ⟨1, a, b, free, ⟨kind, s, hi, t, lo, up, nn⟩⟩ = none)) := note_step HD.out (by show ¬ d < least 1; simp [least]; omega) (by show d = d + more 1; simp [more] <;> omega) (by omega) he1 (by simp [ways])
              have HE1 : Hid (ds[k + 1]? = some e1) := he1
              clear he1
              go_wp2_with fail
              refine (HNt.out _ ds (k + 1) ((k : Int) + 1) (d) e1 HO3.out HLn.out (by omega) HE1.out).mono ?_
              rintro e w4 ⟨r2, rfl, hr2, hO4, hC4⟩
              have HR2 : Hid ((r2 = true ↔ (e1 = 0 ∨ e1 = d) ∧ 1 ≤ d ∧ d ≤ 250) ∧ (r2 = true → OwnZ 2 w4 W0.heap.size g cp (ds.set (k + 1) (d)) .i64)) := ⟨hr2, hO4⟩
              have hC24 : Chg (fun q => q = g) W2 w4 := hC3.trans hC4
              have kw4 : Below W0.heap.size W0 w4 := Chg.below kw3 hC4 kw3.size (fun q hq => by omega)
              have k4w : Below w.heap.size w w4 := hb0.trans (kw4.mono (by omega))
              clear hr2 hO4 x0 x1 x2 x3 x4 x5 x6 x7 x8 x9 x10
              obtain ⟨x0, x1, x2, x3, x4, x5, x6, x7, x8, x9, x10⟩ := HX2.out w4 hC24
              cases r2
              case false =>
                have HG : Hid (¬ P) := fun q => flow_bad HJ.out.1.flow HX.out.1 (HS.out.2 (fun z => Bool.noConfusion (HR2.out.1.2 z))) (HP.out.1 q)
                go_wp2_with fail
                go_ret
                exact ⟨_, rfl, by simp [HG.out], k4w⟩
              case true =>
              go_wp2_with fail
              refine (isJumpS_core 1 _).mono ?_
              rintro e w5 ⟨r3, rfl, hr3, hb5⟩
              have hC25 : Chg (fun q => q = g) W2 w5 := hC24.trans (Chg.of_below hb5)
              have kw5 : Below W0.heap.size W0 w5 := kw4.trans (hb5.mono kw4.size)
              have k5w : Below w.heap.size w w5 := hb0.trans (kw5.mono (by omega))
              clear x0 x1 x2 x3 x4 x5 x6 x7 x8 x9 x10
              obtain ⟨x0, x1, x2, x3, x4, x5, x6, x7, x8, x9, x10⟩ := HX2.out w5 hC25
              obtain rfl : r3 = false := by cases r3; rfl; exact absurd (hr3.1 rfl) (by omega)
              clear hr3
              have HN : Hid (FlowI l cnt conds (k + 1) (ds.set (k + 1) (d)) ∧ OwnZ 2 w5 W0.heap.size g cp (ds.set (k + 1) (d)) .i64) := ⟨HJ.out.1.next HX.out.1 HGI.out (by rw [HS.out.1 (HR2.out.1.1 (by simp))]; rfl), (HR2.out.2 (by simp)).below hb5⟩
              go_wp2_with fail
              go_roundw
              case rel => exact ⟨k + 1, _, by omega, by go_num, HN, kw5⟩
              case measure => simp [intOf]; omega
            · by_cases hd0 : d = 0
              case pos =>
                have HG : Hid (¬ P) := fun q => flow_bad HJ.out.1.flow HX.out.1 (step_low HD.out (by show d < least 2; simp [least]; omega)) (HP.out.1 q)
                go_wp2_with fail
                go_ret
                exact ⟨_, rfl, by simp [HG.out], k3w⟩
              have hdz : (d == 0) = false := by rw [beq_eq_false_iff_ne]; exact hd0
              obtain ⟨e1, he1⟩ : ∃ e1, ds[k + 1]? = some e1 := ⟨_, List.getElem?_eq_getElem (by have := HLn.out; omega)⟩
              have HS : Hid ((((e1 = 0 ∨ e1 = d + 1) ∧ 1 ≤ d + 1 ∧ d + 1 ≤ 250) → stepF ds k ⟨2, a, b, free, ⟨kind, s, hi, t, lo, up, nn⟩⟩ = notes (d + 1) [] (ds.set (k + 1) (d + 1))) ∧ (¬ ((e1 = 0 ∨ e1 = d + 1) ∧ 1 ≤ d + 1 ∧ d + 1 ≤ 250) → stepF ds k ⟨2, a, b, free, ⟨kind, s, hi, t, lo, up, nn⟩⟩ = none)) := note_step HD.out (by show ¬ d < least 2; simp [least]; omega) (by show d + 1 = d + more 2; simp [more] <;> omega) (by omega) he1 (by simp [ways])
              have HE1 : Hid (ds[k + 1]? = some e1) := he1
              clear he1
              go_wp2_with fail
              refine (HNt.out _ ds (k + 1) ((k : Int) + 1) (d + 1) e1 HO3.out HLn.out (by omega) HE1.out).mono ?_
              rintro e w4 ⟨r2, rfl, hr2, hO4, hC4⟩
              have HR2 : Hid ((r2 = true ↔ (e1 = 0 ∨ e1 = d + 1) ∧ 1 ≤ d + 1 ∧ d + 1 ≤ 250) ∧ (r2 = true → OwnZ 2 w4 W0.heap.size g cp (ds.set (k + 1) (d + 1)) .i64)) := ⟨hr2, hO4⟩
              have hC24 : Chg (fun q => q = g) W2 w4 := hC3.trans hC4
              have kw4 : Below W0.heap.size W0 w4 := Chg.below kw3 hC4 kw3.size (fun q hq => by omega)
              have k4w : Below w.heap.size w w4 := hb0.trans (kw4.mono (by omega))
              clear hr2 hO4 x0 x1 x2 x3 x4 x5 x6 x7 x8 x9 x10
              obtain ⟨x0, x1, x2, x3, x4, x5, x6, x7, x8, x9, x10⟩ := HX2.out w4 hC24
              cases r2
              case false =>
                have HG : Hid (¬ P) := fun q => flow_bad HJ.out.1.flow HX.out.1 (HS.out.2 (fun z => Bool.noConfusion (HR2.out.1.2 z))) (HP.out.1 q)
                go_wp2_with fail
                go_ret
                exact ⟨_, rfl, by simp [HG.out], k4w⟩
              case true =>
              go_wp2_with fail
              refine (isJumpS_core 2 _).mono ?_
              rintro e w5 ⟨r3, rfl, hr3, hb5⟩
              have hC25 : Chg (fun q => q = g) W2 w5 := hC24.trans (Chg.of_below hb5)
              have kw5 : Below W0.heap.size W0 w5 := kw4.trans (hb5.mono kw4.size)
              have k5w : Below w.heap.size w w5 := hb0.trans (kw5.mono (by omega))
              clear x0 x1 x2 x3 x4 x5 x6 x7 x8 x9 x10
              obtain ⟨x0, x1, x2, x3, x4, x5, x6, x7, x8, x9, x10⟩ := HX2.out w5 hC25
              obtain rfl : r3 = false := by cases r3; rfl; exact absurd (hr3.1 rfl) (by omega)
              clear hr3
              have HN : Hid (FlowI l cnt conds (k + 1) (ds.set (k + 1) (d + 1)) ∧ OwnZ 2 w5 W0.heap.size g cp (ds.set (k + 1) (d + 1)) .i64) := ⟨HJ.out.1.next HX.out.1 HGI.out (by rw [HS.out.1 (HR2.out.1.1 (by simp))]; rfl), (HR2.out.2 (by simp)).below hb5⟩
              go_wp2_with fail
              go_roundw
              case rel => exact ⟨k + 1, _, by omega, by go_num, HN, kw5⟩
              case measure => simp [intOf]; omega
            · by_cases hd0 : d = 0
              case pos =>
                have HG : Hid (¬ P) := fun q => flow_bad HJ.out.1.flow HX.out.1 (step_low HD.out (by show d < least 3; simp [least]; omega)) (HP.out.1 q)
                go_wp2_with fail
                go_ret
                exact ⟨_, rfl, by simp [HG.out], k3w⟩
              have hdz : (d == 0) = false := by rw [beq_eq_false_iff_ne]; exact hd0
              by_cases hd1 : d < 2
              case pos =>
                have HG : Hid (¬ P) := fun q => flow_bad HJ.out.1.flow HX.out.1 (step_low HD.out (by show d < least 3; simp [least]; omega)) (HP.out.1 q)
                go_wp2_with fail
                go_ret
                exact ⟨_, rfl, by simp [HG.out], k3w⟩
              obtain ⟨e1, he1⟩ : ∃ e1, ds[k + 1]? = some e1 := ⟨_, List.getElem?_eq_getElem (by have := HLn.out; omega)⟩
              have HS : Hid ((((e1 = 0 ∨ e1 = d) ∧ 1 ≤ d ∧ d ≤ 250) → stepF ds k ⟨3, a, b, free, ⟨kind, s, hi, t, lo, up, nn⟩⟩ = notes (d) [] (ds.set (k + 1) (d))) ∧ (¬ ((e1 = 0 ∨ e1 = d) ∧ 1 ≤ d ∧ d ≤ 250) → stepF ds k ⟨3, a, b, free, ⟨kind, s, hi, t, lo, up, nn⟩⟩ = none)) := note_step HD.out (by show ¬ d < least 3; simp [least]; omega) (by show d = d + more 3; simp [more] <;> omega) (by omega) he1 (by simp [ways])
              have HE1 : Hid (ds[k + 1]? = some e1) := he1
              clear he1
              go_wp2_with fail
              try any_goals (exfalso; omega)
              refine (HNt.out _ ds (k + 1) ((k : Int) + 1) (d) e1 HO3.out HLn.out (by omega) HE1.out).mono ?_
              rintro e w4 ⟨r2, rfl, hr2, hO4, hC4⟩
              have HR2 : Hid ((r2 = true ↔ (e1 = 0 ∨ e1 = d) ∧ 1 ≤ d ∧ d ≤ 250) ∧ (r2 = true → OwnZ 2 w4 W0.heap.size g cp (ds.set (k + 1) (d)) .i64)) := ⟨hr2, hO4⟩
              have hC24 : Chg (fun q => q = g) W2 w4 := hC3.trans hC4
              have kw4 : Below W0.heap.size W0 w4 := Chg.below kw3 hC4 kw3.size (fun q hq => by omega)
              have k4w : Below w.heap.size w w4 := hb0.trans (kw4.mono (by omega))
              clear hr2 hO4 x0 x1 x2 x3 x4 x5 x6 x7 x8 x9 x10
              obtain ⟨x0, x1, x2, x3, x4, x5, x6, x7, x8, x9, x10⟩ := HX2.out w4 hC24
              cases r2
              case false =>
                have HG : Hid (¬ P) := fun q => flow_bad HJ.out.1.flow HX.out.1 (HS.out.2 (fun z => Bool.noConfusion (HR2.out.1.2 z))) (HP.out.1 q)
                go_wp2_with fail
                go_ret
                exact ⟨_, rfl, by simp [HG.out], k4w⟩
              case true =>
              go_wp2_with fail
              refine (isJumpS_core 3 _).mono ?_
              rintro e w5 ⟨r3, rfl, hr3, hb5⟩
              have hC25 : Chg (fun q => q = g) W2 w5 := hC24.trans (Chg.of_below hb5)
              have kw5 : Below W0.heap.size W0 w5 := kw4.trans (hb5.mono kw4.size)
              have k5w : Below w.heap.size w w5 := hb0.trans (kw5.mono (by omega))
              clear x0 x1 x2 x3 x4 x5 x6 x7 x8 x9 x10
              obtain ⟨x0, x1, x2, x3, x4, x5, x6, x7, x8, x9, x10⟩ := HX2.out w5 hC25
              obtain rfl : r3 = false := by cases r3; rfl; exact absurd (hr3.1 rfl) (by omega)
              clear hr3
              have HN : Hid (FlowI l cnt conds (k + 1) (ds.set (k + 1) (d)) ∧ OwnZ 2 w5 W0.heap.size g cp (ds.set (k + 1) (d)) .i64) := ⟨HJ.out.1.next HX.out.1 HGI.out (by rw [HS.out.1 (HR2.out.1.1 (by simp))]; rfl), (HR2.out.2 (by simp)).below hb5⟩
              go_wp2_with fail
              go_roundw
              case rel => exact ⟨k + 1, _, by omega, by go_num, HN, kw5⟩
              case measure => simp [intOf]; omega
            · by_cases hd0 : d = 0
              case pos =>
                have HG : Hid (¬ P) := fun q => flow_bad HJ.out.1.flow HX.out.1 (step_low HD.out (by show d < least 4; simp [least]; omega)) (HP.out.1 q)
                go_wp2_with fail
                go_ret
                exact ⟨_, rfl, by simp [HG.out], k3w⟩
              have hdz : (d == 0) = false := by rw [beq_eq_false_iff_ne]; exact hd0
              by_cases hd1 : d < 2
              case pos =>
                have HG : Hid (¬ P) := fun q => flow_bad HJ.out.1.flow HX.out.1 (step_low HD.out (by show d < least 4; simp [least]; omega)) (HP.out.1 q)
                go_wp2_with fail
                go_ret
                exact ⟨_, rfl, by simp [HG.out], k3w⟩
              obtain ⟨e1, he1⟩ : ∃ e1, ds[k + 1]? = some e1 := ⟨_, List.getElem?_eq_getElem (by have := HLn.out; omega)⟩
              have HS : Hid ((((e1 = 0 ∨ e1 = d - 1) ∧ 1 ≤ d - 1 ∧ d - 1 ≤ 250) → stepF ds k ⟨4, a, b, free, ⟨kind, s, hi, t, lo, up, nn⟩⟩ = notes (d - 1) [] (ds.set (k + 1) (d - 1))) ∧ (¬ ((e1 = 0 ∨ e1 = d - 1) ∧ 1 ≤ d - 1 ∧ d - 1 ≤ 250) → stepF ds k ⟨4, a, b, free, ⟨kind, s, hi, t, lo, up, nn⟩⟩ = none)) := note_step HD.out (by show ¬ d < least 4; simp [least]; omega) (by show d - 1 = d + more 4; simp [more] <;> omega) (by omega) he1 (by simp [ways])
              have HE1 : Hid (ds[k + 1]? = some e1) := he1
              clear he1
              go_wp2_with fail
              try any_goals (exfalso; omega)
              refine (HNt.out _ ds (k + 1) ((k : Int) + 1) (d - 1) e1 HO3.out HLn.out (by omega) HE1.out).mono ?_
              rintro e w4 ⟨r2, rfl, hr2, hO4, hC4⟩
              have HR2 : Hid ((r2 = true ↔ (e1 = 0 ∨ e1 = d - 1) ∧ 1 ≤ d - 1 ∧ d - 1 ≤ 250) ∧ (r2 = true → OwnZ 2 w4 W0.heap.size g cp (ds.set (k + 1) (d - 1)) .i64)) := ⟨hr2, hO4⟩
              have hC24 : Chg (fun q => q = g) W2 w4 := hC3.trans hC4
              have kw4 : Below W0.heap.size W0 w4 := Chg.below kw3 hC4 kw3.size (fun q hq => by omega)
              have k4w : Below w.heap.size w w4 := hb0.trans (kw4.mono (by omega))
              clear hr2 hO4 x0 x1 x2 x3 x4 x5 x6 x7 x8 x9 x10
              obtain ⟨x0, x1, x2, x3, x4, x5, x6, x7, x8, x9, x10⟩ := HX2.out w4 hC24
              cases r2
              case false =>
                have HG : Hid (¬ P) := fun q => flow_bad HJ.out.1.flow HX.out.1 (HS.out.2 (fun z => Bool.noConfusion (HR2.out.1.2 z))) (HP.out.1 q)
                go_wp2_with fail
                go_ret
                exact ⟨_, rfl, by simp [HG.out], k4w⟩
              case true =>
              go_wp2_with fail
              refine (isJumpS_core 4 _).mono ?_
              rintro e w5 ⟨r3, rfl, hr3, hb5⟩
              have hC25 : Chg (fun q => q = g) W2 w5 := hC24.trans (Chg.of_below hb5)
              have kw5 : Below W0.heap.size W0 w5 := kw4.trans (hb5.mono kw4.size)
              have k5w : Below w.heap.size w w5 := hb0.trans (kw5.mono (by omega))
              clear x0 x1 x2 x3 x4 x5 x6 x7 x8 x9 x10
              obtain ⟨x0, x1, x2, x3, x4, x5, x6, x7, x8, x9, x10⟩ := HX2.out w5 hC25
              obtain rfl : r3 = false := by cases r3; rfl; exact absurd (hr3.1 rfl) (by omega)
              clear hr3
              have HN : Hid (FlowI l cnt conds (k + 1) (ds.set (k + 1) (d - 1)) ∧ OwnZ 2 w5 W0.heap.size g cp (ds.set (k + 1) (d - 1)) .i64) := ⟨HJ.out.1.next HX.out.1 HGI.out (by rw [HS.out.1 (HR2.out.1.1 (by simp))]; rfl), (HR2.out.2 (by simp)).below hb5⟩
              go_wp2_with fail
              go_roundw
              case rel => exact ⟨k + 1, _, by omega, by go_num, HN, kw5⟩
              case measure => simp [intOf]; omega
          · by_cases hd0 : d = 0
            case pos =>
              have HG : Hid (¬ P) := fun q => flow_bad HJ.out.1.flow HX.out.1 (step_low HD.out (by show d < least 5; simp [least]; omega)) (HP.out.1 q)
              go_wp2_with fail
              go_ret
              exact ⟨_, rfl, by simp [HG.out], k3w⟩
            have hdz : (d == 0) = false := by rw [beq_eq_false_iff_ne]; exact hd0
            obtain ⟨e1, he1⟩ : ∃ e1, ds[k + 1]? = some e1 := ⟨_, List.getElem?_eq_getElem (by have := HLn.out; omega)⟩
            have HS : Hid ((((e1 = 0 ∨ e1 = d) ∧ 1 ≤ d ∧ d ≤ 250) → stepF ds k ⟨5, a, b, free, ⟨kind, s, hi, t, lo, up, nn⟩⟩ = notes (d) [b.toNat] (ds.set (k + 1) (d))) ∧ (¬ ((e1 = 0 ∨ e1 = d) ∧ 1 ≤ d ∧ d ≤ 250) → stepF ds k ⟨5, a, b, free, ⟨kind, s, hi, t, lo, up, nn⟩⟩ = none)) := note_step HD.out (by show ¬ d < least 5; simp [least]; omega) (by show d = d + more 5; simp [more] <;> omega) (by omega) he1 (by simp [ways])
            have HE1 : Hid (ds[k + 1]? = some e1) := he1
            clear he1
            go_wp2_with fail
            refine (HNt.out _ ds (k + 1) ((k : Int) + 1) (d) e1 HO3.out HLn.out (by omega) HE1.out).mono ?_
            rintro e w4 ⟨r2, rfl, hr2, hO4, hC4⟩
            have HR2 : Hid ((r2 = true ↔ (e1 = 0 ∨ e1 = d) ∧ 1 ≤ d ∧ d ≤ 250) ∧ (r2 = true → OwnZ 2 w4 W0.heap.size g cp (ds.set (k + 1) (d)) .i64)) := ⟨hr2, hO4⟩
            have hC24 : Chg (fun q => q = g) W2 w4 := hC3.trans hC4
            have kw4 : Below W0.heap.size W0 w4 := Chg.below kw3 hC4 kw3.size (fun q hq => by omega)
            have k4w : Below w.heap.size w w4 := hb0.trans (kw4.mono (by omega))
            clear hr2 hO4 x0 x1 x2 x3 x4 x5 x6 x7 x8 x9 x10
            obtain ⟨x0, x1, x2, x3, x4, x5, x6, x7, x8, x9, x10⟩ := HX2.out w4 hC24
            cases r2
            case false =>
              have HG : Hid (¬ P) := fun q => flow_bad HJ.out.1.flow HX.out.1 (HS.out.2 (fun z => Bool.noConfusion (HR2.out.1.2 z))) (HP.out.1 q)
              go_wp2_with fail
              go_ret
              exact ⟨_, rfl, by simp [HG.out], k4w⟩
            case true =>
            go_wp2_with fail
            refine (isJumpS_core 5 _).mono ?_
            rintro e w5 ⟨r3, rfl, hr3, hb5⟩
            have hC25 : Chg (fun q => q = g) W2 w5 := hC24.trans (Chg.of_below hb5)
            have kw5 : Below W0.heap.size W0 w5 := kw4.trans (hb5.mono kw4.size)
            have k5w : Below w.heap.size w w5 := hb0.trans (kw5.mono (by omega))
            clear x0 x1 x2 x3 x4 x5 x6 x7 x8 x9 x10
            obtain ⟨x0, x1, x2, x3, x4, x5, x6, x7, x8, x9, x10⟩ := HX2.out w5 hC25
            obtain rfl : r3 = true := hr3.2 (by omega)
            clear hr3
            have hln : (ds.set (k + 1) d).length = l.length + 1 := by rw [List.length_set]; exact HLn.out
            obtain ⟨e2, he2⟩ : ∃ e2, (ds.set (k + 1) d)[b.toNat]? = some e2 := ⟨_, List.getElem?_eq_getElem (by omega)⟩
            have HE2 : Hid ((ds.set (k + 1) d)[b.toNat]? = some e2 ∧ (ds.set (k + 1) d).length = l.length + 1) := ⟨he2, hln⟩
            clear he2 hln
            have hb0n : (0 : Int) ≤ b := by omega
            go_wp2_with fail
            refine (HNt.out _ (ds.set (k + 1) d) b.toNat b d e2 ((HR2.out.2 (by simp)).below hb5) HE2.out.2 (by omega) HE2.out.1).mono ?_
            rintro e w6 ⟨r4, rfl, hr4, hO6, hC6⟩
            have kw6 : Below W0.heap.size W0 w6 := Chg.below kw5 hC6 kw5.size (fun q hq => by omega)
            have k6w : Below w.heap.size w w6 := hb0.trans (kw6.mono (by omega))
            have HR4 : Hid ((r4 = true ↔ (e2 = 0 ∨ e2 = d) ∧ 1 ≤ d ∧ d ≤ 250) ∧ (r4 = true → OwnZ 2 w6 W0.heap.size g cp ((ds.set (k + 1) d).set b.toNat d) .i64)) := ⟨hr4, hO6⟩
            clear hr4 hO6
            cases r4
            case false =>
              have HG : Hid (¬ P) := fun q => flow_bad HJ.out.1.flow HX.out.1 (by rw [HS.out.1 (HR2.out.1.1 (by simp)), notes, note_bad HE2.out.1 (fun z => Bool.noConfusion (HR4.out.1.2 ⟨z, (HR2.out.1.1 (by simp)).2⟩))]; rfl) (HP.out.1 q)
              go_wp2_with fail
              go_ret
              exact ⟨_, rfl, by simp [HG.out], k6w⟩
            case true =>
            have HN : Hid (FlowI l cnt conds (k + 1) ((ds.set (k + 1) d).set b.toNat d) ∧ OwnZ 2 w6 W0.heap.size g cp ((ds.set (k + 1) d).set b.toNat d) .i64) := ⟨HJ.out.1.next HX.out.1 HGI.out (by rw [HS.out.1 (HR2.out.1.1 (by simp)), notes, note_some HE2.out.1 (HR4.out.1.1 (by simp)).1]; rfl), HR4.out.2 (by simp)⟩
            go_wp2_with fail
            go_roundw
            case rel => exact ⟨k + 1, _, by omega, by go_num, HN, kw6⟩
            case measure => simp [intOf]; omega
          · by_cases hd0 : d = 0
            case pos =>
              have HG : Hid (¬ P) := fun q => flow_bad HJ.out.1.flow HX.out.1 (step_low HD.out (by show d < least 6; simp [least]; omega)) (HP.out.1 q)
              go_wp2_with fail
              go_ret
              exact ⟨_, rfl, by simp [HG.out], k3w⟩
            have hdz : (d == 0) = false := by rw [beq_eq_false_iff_ne]; exact hd0
            obtain ⟨e1, he1⟩ : ∃ e1, ds[b.toNat]? = some e1 := ⟨_, List.getElem?_eq_getElem (by have := HLn.out; omega)⟩
            have HS : Hid ((((e1 = 0 ∨ e1 = d) ∧ 1 ≤ d ∧ d ≤ 250) → stepF ds k ⟨6, a, b, free, ⟨kind, s, hi, t, lo, up, nn⟩⟩ = notes (d) [] (ds.set (b.toNat) (d))) ∧ (¬ ((e1 = 0 ∨ e1 = d) ∧ 1 ≤ d ∧ d ≤ 250) → stepF ds k ⟨6, a, b, free, ⟨kind, s, hi, t, lo, up, nn⟩⟩ = none)) := note_step HD.out (by show ¬ d < least 6; simp [least]; omega) (by show d = d + more 6; simp [more] <;> omega) (by omega) he1 (by simp [ways])
            have HE1 : Hid (ds[b.toNat]? = some e1) := he1
            clear he1
            have hC24 := hC3
            have kw4 := kw3
            have k4w := k3w
            go_wp2_with fail
            refine (isJumpS_core 6 _).mono ?_
            rintro e w5 ⟨r3, rfl, hr3, hb5⟩
            have hC25 : Chg (fun q => q = g) W2 w5 := hC24.trans (Chg.of_below hb5)
            have kw5 : Below W0.heap.size W0 w5 := kw4.trans (hb5.mono kw4.size)
            have k5w : Below w.heap.size w w5 := hb0.trans (kw5.mono (by omega))
            clear x0 x1 x2 x3 x4 x5 x6 x7 x8 x9 x10
            obtain ⟨x0, x1, x2, x3, x4, x5, x6, x7, x8, x9, x10⟩ := HX2.out w5 hC25
            obtain rfl : r3 = true := hr3.2 (by omega)
            clear hr3
            have hb0n : (0 : Int) ≤ b := by omega
            go_wp2_with fail
            refine (HNt.out _ ds b.toNat b d e1 (HO3.out.below hb5) HLn.out (by omega) HE1.out).mono ?_
            rintro e w6 ⟨r4, rfl, hr4, hO6, hC6⟩
            have kw6 : Below W0.heap.size W0 w6 := Chg.below kw5 hC6 kw5.size (fun q hq => by omega)
            have k6w : Below w.heap.size w w6 := hb0.trans (kw6.mono (by omega))
            have HR4 : Hid ((r4 = true ↔ (e1 = 0 ∨ e1 = d) ∧ 1 ≤ d ∧ d ≤ 250) ∧ (r4 = true → OwnZ 2 w6 W0.heap.size g cp (ds.set b.toNat d) .i64)) := ⟨hr4, hO6⟩
            clear hr4 hO6
            cases r4
            case false =>
              have HG : Hid (¬ P) := fun q => flow_bad HJ.out.1.flow HX.out.1 (HS.out.2 (fun z => Bool.noConfusion (HR4.out.1.2 z))) (HP.out.1 q)
              go_wp2_with fail
              go_ret
              exact ⟨_, rfl, by simp [HG.out], k6w⟩
            case true =>
            have HN : Hid (FlowI l cnt conds (k + 1) (ds.set b.toNat d) ∧ OwnZ 2 w6 W0.heap.size g cp (ds.set b.toNat d) .i64) := ⟨HJ.out.1.next HX.out.1 HGI.out (by rw [HS.out.1 (HR4.out.1.1 (by simp))]; rfl), HR4.out.2 (by simp)⟩
            go_wp2_with fail
            go_roundw
            case rel => exact ⟨k + 1, _, by omega, by go_num, HN, kw6⟩
            case measure => simp [intOf]; omega
        · have zk : ¬ (k : Int) < (l.length : Int) := by omega
          have hkl : k = l.length := by omega
          subst hkl
          obtain ⟨d, hd⟩ : ∃ d, ds[l.length]? = some d := ⟨_, List.getElem?_eq_getElem (by omega)⟩
          obtain ⟨e0, e1⟩ := HJ.out.2.cell hd
          have HF : Hid (P ↔ d = 1) := by
            show P ↔ _
            rw [HP.out]
            exact HJ.out.1.end p0 p1 p2 p3 hd
          have kw : Below w.heap.size w wr := hb0.trans (hb.mono (by omega))
          clear hd hfl p0 p1
          by_cases hd1 : d = 1
          · have HG : Hid P := HF.out.2 hd1
            go_wp2_with fail
            go_ret
            exact ⟨_, rfl, by simp [HG.out, hd1], kw⟩
          · have HG : Hid (¬ P) := fun q => hd1 (HF.out.1 q)
            go_wp2_with fail
            go_ret
            exact ⟨_, rfl, by simp [HG.out, hd1], kw⟩
end Go.Proofs.Ytlgeffinhbodeae

/-
  spec.ValidCode.
-/
namespace Go.Proofs.Ytlgeffinhbodeae
open Go.ChangeShapes Go.WideShapes Go.ChangeAt Go.RowKit Go.Deep
set_option linter.unusedVariables false
set_option linter.unusedSimpArgs false
set_option maxRecDepth 100000

/-- What makes code valid. -/
def GoodC (bs : List Bk) (m : Bk) : Prop := bs.length ≤ 200 ∧ GoodB m.l m.cnt bs.length ∧ ∀ (k : Nat) (x : Bk), bs[k]? = some x → GoodB x.l x.cnt k
theorem goodC_mono {bs fs : List Bk} {m n : Bk} (h : bs.map Bk.vw = fs.map Bk.vw) (hm : m.vw = n.vw) (g : GoodC bs m) : GoodC fs n := by
  have hl := congrArg List.length h
  simp only [List.length_map] at hl
  simp only [Bk.vw, Prod.mk.injEq] at hm
  refine ⟨by rw [← hl]; exact g.1, by rw [← hl, ← hm.1, ← hm.2]; exact g.2.1, fun k x hx => ?_⟩
  have hk := (List.getElem?_eq_some_iff.1 hx).1
  obtain ⟨y, hy⟩ : ∃ y, bs[k]? = some y := ⟨_, List.getElem?_eq_getElem (by omega)⟩
  have h2 := congrArg (fun l => l[k]?) h
  simp only [List.getElem?_map, hx, hy, Option.map_some, Option.some.injEq, Bk.vw, Prod.mk.injEq] at h2
  rw [← h2.1, ← h2.2]
  exact g.2.2 k y hy
theorem goodC_vw {bs fs : List Bk} {m n : Bk} (h : bs.map Bk.vw = fs.map Bk.vw) (hm : m.vw = n.vw) : GoodC bs m ↔ GoodC fs n := ⟨goodC_mono h hm, goodC_mono h.symm hm.symm⟩
set_option maxHeartbeats 4000000 in
theorem validCodeS_core (u : Value) (bs : List Bk) (m : Bk) (w : World) (h : InBks w u bs) (hok : ∀ x ∈ bs, x.ok) (hm : InIxs w m.v m.l) (hmo : m.ok) :
    Calls Try.prog 21 #[.agg #[u, m.v, .int .i64 m.cnt]] w (BoolP (GoodC bs m) w) := by
  obtain ⟨P, hP⟩ : ∃ P : Prop, P = GoodC bs m := ⟨_, rfl⟩
  rw [← hP]
  have HP : Hid (P ↔ GoodC bs m) := by show P ↔ _; rw [hP]
  have HH : Hid (InBks w u bs ∧ (∀ x ∈ bs, x.ok) ∧ InIxs w m.v m.l ∧ m.ok) := ⟨h, hok, hm, hmo⟩
  obtain ⟨ua, cap, huu⟩ : ∃ ua cap, u = .slice ua bs.length cap := by
    rcases h with ⟨a, cap, hq, hl⟩ | ⟨b, off, cap, hq, _⟩
    · subst hl; exact ⟨_, _, hq⟩
    · exact ⟨_, _, hq⟩
  subst huu
  have hu2 := hm.cells
  clear h hok hm hmo hP
  obtain ⟨W0, hW0⟩ : ∃ W0 : World, W0 = w.alloc (Obj.cells #[.slice ua bs.length cap, m.v, .int .i64 m.cnt] 56) := ⟨_, rfl⟩
  have hb0 : Below w.heap.size w W0 := by rw [hW0]; exact (Below.refl _ _).alloc (Nat.le_refl _) _
  have hz0 : w.heap.size < W0.heap.size := by rw [hW0]; simp
  have HK : Hid (∀ wx, Below W0.heap.size W0 wx → wx.cell? ⟨w.heap.size, 0, none⟩ = some (.slice ua bs.length cap) ∧ wx.cell? ⟨w.heap.size, 1, none⟩ = some m.v ∧ wx.cell? ⟨w.heap.size, 2, none⟩ = some (.int .i64 m.cnt) ∧ InBks wx (.slice ua bs.length cap) bs ∧ InIxs wx m.v m.l) := by
    intro wx hx
    refine ⟨?_, ?_, ?_, (HH.out.1.below hb0).below hx, (HH.out.2.2.1.below hb0 (Nat.le_refl _)).below hx (Nat.le_refl _)⟩
    all_goals rw [hx.cell (by exact hz0), hW0]
    all_goals simp
  obtain ⟨k0, k1, k2, _, hI⟩ := HK.out W0 (Below.refl _ _)
  have HI : Hid (InIxs W0 m.v m.l) := hI
  clear hI
  go_enter Try.func21, Try.ntmps21
  go_upto_region 1 with fail
  rw [← hW0]
  clear hW0
  by_cases p0 : bs.length ≤ 200
  case neg =>
    have z : (200 : Int) < (bs.length : Int) := by omega
    have HG : Hid (¬ P) := fun q => p0 (HP.out.1 q).1
    clear p0
    go_wp2_with fail
    go_ret
    exact ⟨_, rfl, by simp [HG.out], hb0⟩
  have z0 : ¬ (200 : Int) < (bs.length : Int) := by omega
  go_wp2_with fail
  refine (goodBlockS_core m bs.length _ HI.out HH.out.2.2.2 (by omega)).mono ?_
  rintro e w1 ⟨r, rfl, hr, hb1⟩
  have HR : Hid (r = true ↔ GoodB m.l m.cnt bs.length) := hr
  have s1 := hb1.size
  have k1w : Below w.heap.size w w1 := hb0.trans (hb1.mono (by omega))
  clear hr k0 k1 k2
  cases r
  case false =>
    have HG : Hid (¬ P) := fun q => Bool.noConfusion (HR.out.2 (HP.out.1 q).2.1)
    go_wp2_with fail
    go_ret
    exact ⟨_, rfl, by simp [HG.out], k1w⟩
  case true =>
  have HM : Hid (GoodB m.l m.cnt bs.length) := HR.out.1 rfl
  go_wp2_with fail
  go_loopw [3] (fun i wr => ∃ (k : Nat), k ≤ bs.length ∧ i = .int .i64 k ∧ Hid (∀ (j : Nat) (x : Bk), j < k → bs[j]? = some x → GoodB x.l x.cnt j) ∧ Below W0.heap.size W0 wr) (fun i _ => bs.length - (intOf i).toNat)
  case atStart => exact ⟨0, Nat.zero_le _, rfl, fun j x hj => by omega, hb1⟩
  case round =>
    obtain ⟨k, hk, rfl, HJ, hb⟩ := hrel
    have sb := hb.size
    obtain ⟨k0, _, _, hI, _⟩ := HK.out wr hb
    by_cases hlt : k < bs.length
    · obtain ⟨x, hx⟩ : ∃ x, bs[k]? = some x := ⟨_, List.getElem?_eq_getElem hlt⟩
      have zk : (k : Int) < (bs.length : Int) := by omega
      obtain ⟨b0, off, hua, c0, c1, hX⟩ : ∃ b0 off, ua = some ⟨b0, off, none⟩ ∧ wr.cell? ⟨b0, off + k * 2, none⟩ = some x.v ∧ wr.cell? ⟨b0, off + k * 2 + 1, none⟩ = some (.int .i64 x.cnt) ∧ InIxs wr x.v x.l := by
        rcases hI with ⟨a, cap', hq, hl⟩ | ⟨b, off, cap', hq, hE, _⟩
        · subst hl; simp at hlt
        · cases hq
          obtain ⟨c0, c1, c2⟩ := hE k x hx
          exact ⟨b, off, rfl, c0, c1, c2⟩
      have HX : Hid (InIxs wr x.v x.l ∧ x.ok ∧ bs[k]? = some x) := ⟨hX, HH.out.2.1 x (List.mem_of_getElem? hx), hx⟩
      have hu := hX.cells
      subst hua
      clear hI hX hx
      go_wp2_with fail
      refine (goodBlockS_core x k _ HX.out.1 HX.out.2.1 (by omega)).mono ?_
      rintro e w3 ⟨r, rfl, hr, hb3⟩
      have HR : Hid (r = true ↔ GoodB x.l x.cnt k) := hr
      have kb3 : Below W0.heap.size W0 w3 := hb.trans (hb3.mono sb)
      have k3w : Below w.heap.size w w3 := hb0.trans (kb3.mono (by omega))
      clear hr k0 c0 c1
      cases r
      case false =>
        have HG : Hid (¬ P) := fun q => Bool.noConfusion (HR.out.2 ((HP.out.1 q).2.2 k x HX.out.2.2))
        go_wp2_with fail
        go_ret
        exact ⟨_, rfl, by simp [HG.out], k3w⟩
      case true =>
      have HN : Hid (∀ (j : Nat) (y : Bk), j < k + 1 → bs[j]? = some y → GoodB y.l y.cnt j) := fun j y hj hy => by
        by_cases e : j = k
        · subst e
          have := HX.out.2.2
          rw [hy] at this
          cases this
          exact HR.out.1 rfl
        · exact HJ.out j y (by omega) hy
      go_wp2_with fail
      go_roundw
      case rel => exact ⟨k + 1, by omega, by go_num, HN, kb3⟩
      case measure => simp [intOf]; omega
    · have zk : ¬ (k : Int) < (bs.length : Int) := by omega
      have HG : Hid P := HP.out.2 ⟨p0, HM.out, fun j x hx => HJ.out j x (by have := (List.getElem?_eq_some_iff.1 hx).1; omega) hx⟩
      have kw : Below w.heap.size w wr := hb0.trans (hb.mono (by omega))
      clear hI p0
      go_wp2_with fail
      go_ret
      exact ⟨_, rfl, by simp [HG.out], kw⟩
end Go.Proofs.Ytlgeffinhbodeae

/-
  impl.operandCount, strength, inParens, shapeOf.
-/
namespace Go.Proofs.Ytlgeffinhbodeae
open Go.ChangeShapes Go.WideShapes Go.ChangeAt Go.RowKit Go.Deep
set_option linter.unusedVariables false
set_option linter.unusedSimpArgs false
set_option maxRecDepth 100000

set_option maxHeartbeats 1000000 in
theorem operandCount_core (k : Int) (w : World) : Calls Try.prog 198 #[.int .i64 k] w fun e w' => e = .returned (.int .i64 (arity k : Int)) ∧ w' = w := by
  by_cases h14 : k = 14
  · subst h14
    go_enter Try.func198, Try.ntmps198
    go_wp2_with fail
    go_ret
    exact ⟨rfl, rfl⟩
  by_cases h15 : k = 15
  · subst h15
    go_enter Try.func198, Try.ntmps198
    go_wp2_with fail
    go_ret
    exact ⟨rfl, rfl⟩
  by_cases h16 : k = 16
  · subst h16
    go_enter Try.func198, Try.ntmps198
    go_wp2_with fail
    go_ret
    exact ⟨rfl, rfl⟩
  have z14 : (k == 14) = false := by simpa using h14
  have z15 : (k == 15) = false := by simpa using h15
  have z16 : (k == 16) = false := by simpa using h16
  have H : Hid (arity k = 0) := by show arity k = 0; unfold arity; rw [if_neg (by omega), if_neg h16]
  go_enter Try.func198, Try.ntmps198
  go_wp2_with fail
  go_ret
  exact ⟨by rw [H.out]; rfl, rfl⟩
set_option maxHeartbeats 1000000 in
theorem strength_core (k : Int) (w : World) : Calls Try.prog 207 #[.int .i64 k] w fun e w' => e = .returned (.int .i64 (strong k : Int)) ∧ w' = w := by
  by_cases h15 : k = 15
  · subst h15
    go_enter Try.func207, Try.ntmps207
    go_wp2_with fail
    go_ret
    exact ⟨rfl, rfl⟩
  by_cases h14 : k = 14
  · subst h14
    go_enter Try.func207, Try.ntmps207
    go_wp2_with fail
    go_ret
    exact ⟨rfl, rfl⟩
  have z14 : (k == 14) = false := by simpa using h14
  have z15 : (k == 15) = false := by simpa using h15
  have H : Hid (strong k = 3) := by show strong k = 3; unfold strong; rw [if_neg h15, if_neg h14]
  go_enter Try.func207, Try.ntmps207
  go_wp2_with fail
  go_ret
  exact ⟨by rw [H.out]; rfl, rfl⟩
set_option maxHeartbeats 1000000 in
theorem inParens_core (op : Int) (i : Nat) (kid : Int) (w : World) (hop : ¬ op = 16) : Calls Try.prog 200 #[.int .i64 op, .int .i64 (i : Int), .int .i64 kid] w fun e w' => e = .returned (.bool (level op i kid)) ∧ w' = w := by
  by_cases hi : i = 0
  · subst hi
    have HL : Hid (level op 0 kid = decide (strong kid < strong op)) := by
      show level op 0 kid = _
      unfold level; simp [hop]
    clear hop
    go_enter Try.func200, Try.ntmps200
    go_wp2_with (go_at_call 207; refine (strength_core _ _).mono ?_; rintro e' w' ⟨rfl, rfl⟩)
    go_ret
    exact ⟨by rw [HL.out]; rfl, rfl⟩
  · have zi : ((i : Int) == 0) = false := by simpa using hi
    have HL : Hid (level op i kid = decide (strong kid ≤ strong op)) := by
      show level op i kid = _
      unfold level; simp [hop, hi]
    clear hop
    go_enter Try.func200, Try.ntmps200
    go_wp2_with (go_at_call 207; refine (strength_core _ _).mono ?_; rintro e' w' ⟨rfl, rfl⟩)
    go_ret
    exact ⟨by rw [HL.out]; rfl, rfl⟩
abbrev Shape.three (s : Shape) : List Value := [.bool s.valid, .int .i64 s.kind, .int .i64 (s.nest : Int)]
def cellsS (ss : List Shape) : List Value := ss.flatMap Shape.three
theorem length_cellsS (ss : List Shape) : (cellsS ss).length = ss.length * 3 := by
  induction ss with
  | nil => rfl
  | cons e es ih => simp only [cellsS, List.flatMap_cons, List.length_append] at ih ⊢; rw [ih]; simp; omega
theorem cellsS_append (es fs : List Shape) : cellsS (es ++ fs) = cellsS es ++ cellsS fs := by simp [cellsS]
theorem cellsS_get (es : List Shape) : ∀ (k : Nat) (e : Shape), es[k]? = some e → ∀ j, j < 3 → (cellsS es)[k * 3 + j]? = e.three[j]? := by
  induction es with
  | nil => intro k e h; simp at h
  | cons f es ih =>
    intro k e h j hj
    have hc : cellsS (f :: es) = f.three ++ cellsS es := by simp [cellsS]
    rw [hc]
    cases k with
    | zero =>
      simp at h; subst h
      rw [List.getElem?_append_left (by show 0 * 3 + j < 3; omega)]
      simp
    | succ k =>
      simp at h
      rw [List.getElem?_append_right (by show 3 ≤ (k + 1) * 3 + j; omega)]
      have : (k + 1) * 3 + j - f.three.length = k * 3 + j := by show (k + 1) * 3 + j - 3 = _; omega
      rw [this]; exact ih k e h j hj
theorem cellsS_take (es : List Shape) (k : Nat) : cellsS (es.take k) = (cellsS es).take (k * 3) := by
  induction es generalizing k with
  | nil => simp [cellsS]
  | cons f es ih =>
    cases k with
    | zero => simp [cellsS]
    | succ k =>
      have hc : cellsS (f :: es) = f.three ++ cellsS es := by simp [cellsS]
      have hd : cellsS (f :: es.take k) = f.three ++ cellsS (es.take k) := by simp [cellsS]
      have e1 : (k + 1) * 3 = f.three.length + k * 3 := by show (k + 1) * 3 = 3 + k * 3; omega
      rw [List.take_succ_cons, hd, hc, ih, e1, List.take_length_add_append]
/-- Shapes at ⟨b, o⟩. -/
def ShsAt (w : World) (b o : Nat) (ss : List Shape) : Prop := ∀ i s, ss[i]? = some s → w.cell? ⟨b, o + i * 3, none⟩ = some (.bool s.valid) ∧ w.cell? ⟨b, o + i * 3 + 1, none⟩ = some (.int .i64 s.kind) ∧ w.cell? ⟨b, o + i * 3 + 2, none⟩ = some (.int .i64 (s.nest : Int))
theorem ShsAt.below {B : Nat} {w w' : World} {b o : Nat} {ss : List Shape} (h : ShsAt w b o ss) (hb : Below B w w') (hlt : b < B) : ShsAt w' b o ss := by
  intro i e he
  have := h i e he
  refine ⟨?_, ?_, ?_⟩
  all_goals rw [hb.cell (by exact hlt)]
  · exact this.1
  · exact this.2.1
  · exact this.2.2
theorem ShsAt.drop {w : World} {b o : Nat} {ss : List Shape} (h : ShsAt w b o ss) (k : Nat) : ShsAt w b (o + k * 3) (ss.drop k) := by
  intro i s hs
  have := h (k + i) s (by rw [← List.getElem?_drop]; exact hs)
  rw [Nat.add_mul, ← Nat.add_assoc] at this
  exact this
def OwnSh (w : World) (base g cp : Nat) (ss : List Shape) : Prop := w.ownsRow base 275 3 (.slice (some ⟨g, 0, none⟩) ss.length cp) ss.length (cellsS ss)
theorem OwnSh.lt {w : World} {base g cp : Nat} {ss : List Shape} (h : OwnSh w base g cp ss) : base ≤ g ∧ g < w.heap.size := World.ownsRow.lt h g rfl
theorem OwnSh.below {w w' : World} {base g cp : Nat} {ss : List Shape} (h : OwnSh w base g cp ss) (hb : Below w.heap.size w w') : OwnSh w' base g cp ss := own_chg h (Chg.of_below hb) (S := fun _ => False) (fun k q z => z)
theorem OwnSh.at {w : World} {base g cp : Nat} {ss : List Shape} (h : OwnSh w base g cp ss) : ShsAt w g 0 ss := by
  intro i e he
  have hi : i < ss.length := (List.getElem?_eq_some_iff.1 he).1
  have c := fun j (hj : j < 3) => (World.ownsRow.cellAt h (i * 3 + j) (by omega)).trans (cellsS_get ss i e he j hj)
  refine ⟨?_, ?_, ?_⟩
  · simpa using c 0 (by omega)
  · simpa using c 1 (by omega)
  · simpa using c 2 (by omega)
theorem OwnSh.caps {w : World} {base g cp : Nat} {ss : List Shape} (h : OwnSh w base g cp ss) : ss.length ≤ cp ∧ cp ≤ maxLen := by
  rcases h.2 with ⟨h0, _⟩ | ⟨g', cap', cur, hv, _, _, hn, hcap, _, _⟩
  · cases h0
  · simp only [Value.slice.injEq, Option.some.injEq, Addr.mk.injEq, and_true, true_and] at hv
    obtain ⟨rfl, rfl⟩ := hv
    exact ⟨hn, hcap⟩
theorem OwnSh.take {w : World} {base g cp : Nat} {ss : List Shape} (h : OwnSh w base g cp ss) {k : Nat} (hk : k ≤ ss.length) : OwnSh w base g cp (ss.take k) := by
  rcases h.2 with ⟨h0, _⟩ | ⟨g', cap', cur, hv, h1, h2, h3, h4, h5, h6⟩
  · cases h0
  · simp only [Value.slice.injEq, Option.some.injEq, Addr.mk.injEq, and_true, true_and] at hv
    obtain ⟨rfl, rfl⟩ := hv
    have hl : (ss.take k).length = k := by rw [List.length_take]; omega
    refine ⟨by rw [length_cellsS], .inr ⟨g, cp, cur, rfl, h1, h2, by omega, h4, h5, ?_⟩⟩
    rw [hl, cellsS_take, ← h6, List.take_take]
    congr 1
    omega
theorem ownSh_new (w : World) {base : Nat} (hb : base ≤ w.heap.size) : OwnSh (w.alloc (Obj.cells #[] 275)) base w.heap.size 0 [] :=
  World.ownsRow_made w #[] 0 hb (Nat.zero_le _) (by simp)
/-- The state of shapeOf. -/
structure SoJ (w : World) (e : Nd) (WB : Nat) (v : Bool) (a : Nat) (wr : World) : Prop where
  node : BoxAt wr w.heap.size 173 7 w.heap.size e.seven
  res : BoxAt wr w.heap.size 275 3 (w.heap.size + 1) [.bool false, .int .i64 0, .int .i64 0]
  whole : BoxAt wr w.heap.size 275 3 WB [.bool v, .int .i64 e.kind, .int .i64 (a : Int)]
  ne : w.heap.size + 2 ≤ WB
  below : Below w.heap.size w wr
theorem SoJ.move {w : World} {e : Nd} {WB : Nat} {v : Bool} {a : Nat} {wr w' : World} (h : SoJ w e WB v a wr) (hb : Below wr.heap.size wr w') : SoJ w e WB v a w' :=
  ⟨h.node.below hb, h.res.below hb, h.whole.below hb, h.ne, h.below.trans (hb.mono h.below.size)⟩
theorem valid_is (e : Nd) (w : World) (hs : e.s.size ≤ maxLen) (ht : e.t.size ≤ maxLen) : Calls Try.prog 199 #[.agg #[.int .i64 e.kind, .string e.s, .bool e.hi, .string e.t, .int .u64 e.lo, .int .u64 e.up, .int .i64 e.n]] w fun r w' => r = .returned (.bool (goodB e)) ∧ Below w.heap.size w w' := by
  refine (validNode_core e w hs ht).mono ?_
  rintro r w' ⟨b, rfl, hb, hb2⟩
  refine ⟨?_, hb2⟩
  congr 2
  rw [Bool.eq_iff_iff, hb, goodB_iff]
end Go.Proofs.Ytlgeffinhbodeae

/-
  impl.shapeOf.
-/
namespace Go.Proofs.Ytlgeffinhbodeae
open Go.ChangeShapes Go.WideShapes Go.ChangeAt Go.RowKit Go.Deep
set_option linter.unusedVariables false
set_option linter.unusedSimpArgs false
set_option maxRecDepth 100000

theorem lift0 {P : Program} {f : Nat} {args : Array Value} {w : World} {v : Value} (W0 : World) (h : Below W0.heap.size W0 w) (c : Calls P f args w fun e w' => e = .returned v ∧ Below w.heap.size w w') :
    Calls P f args w fun e w' => e = .returned v ∧ Below W0.heap.size W0 w' ∧ (∀ b o, b < W0.heap.size → w'.cell? ⟨b, o, none⟩ = W0.cell? ⟨b, o, none⟩) := by
  refine c.mono ?_
  rintro e w' ⟨he, hb⟩
  have k := h.trans (hb.mono h.size)
  exact ⟨he, k, fun b o hlt => k.cell (p := ⟨b, o, none⟩) hlt⟩
def SoA (w : World) (e : Nd) (W0 : World) : Prop := BoxAt W0 w.heap.size 173 7 w.heap.size e.seven ∧ BoxAt W0 w.heap.size 275 3 (w.heap.size + 1) [.bool false, .int .i64 0, .int .i64 0] ∧ Below w.heap.size w W0 ∧ W0.heap.size = w.heap.size + 2
theorem so_after {w W0 w' : World} {e : Nd} {gd : Bool} (hA : SoA w e W0) (hb : Below W0.drew.heap.size W0.drew w') : SoJ w e w'.heap.size gd 0 (w'.alloc (Obj.cells #[.bool gd, .int .i64 e.kind, .int .i64 0] 275)) := by
  have h1 : Below W0.heap.size W0 w' := ((Below.refl W0.heap.size W0).drew).trans hb
  have h2 := h1.size
  have h3 : Below W0.heap.size W0 (w'.alloc (Obj.cells #[.bool gd, .int .i64 e.kind, .int .i64 0] 275)) := h1.alloc h2 _
  have h4 := hA.2.2.2
  exact ⟨hA.1.below h3, hA.2.1.below h3, boxAt_new w' _ (by omega) rfl, by omega, hA.2.2.1.trans (h3.mono (by omega))⟩
theorem so_before {w W0 w' : World} {e : Nd} {gd : Bool} (hA : SoA w e W0) (hb : Below (W0.drew.alloc (Obj.cells #[.bool false, .int .i64 0, .int .i64 0] 275)).heap.size (W0.drew.alloc (Obj.cells #[.bool false, .int .i64 0, .int .i64 0] 275)) w') :
    SoJ w e (w.heap.size + 2) gd 0 (((w'.setCell ⟨w.heap.size + 2, 0, none⟩ (.bool gd)).setCell ⟨w.heap.size + 2, 1, none⟩ (.int .i64 e.kind)).setCell ⟨w.heap.size + 2, 2, none⟩ (.int .i64 0)) := by
  have h4 := hA.2.2.2
  have hd : W0.drew.heap.size = W0.heap.size := by simp
  have h0 : Below W0.heap.size W0 (W0.drew.alloc (Obj.cells #[.bool false, .int .i64 0, .int .i64 0] 275)) := ((Below.refl W0.heap.size W0).drew).alloc (by simp) _
  have h1 : Below W0.heap.size W0 w' := h0.trans (hb.mono (by simp))
  have hB : BoxAt w' w.heap.size 275 3 (w.heap.size + 2) [.bool false, .int .i64 0, .int .i64 0] := by
    have := boxAt_new W0.drew (base := w.heap.size) (t := 275) (sz := 3) #[.bool false, .int .i64 0, .int .i64 0] (by simp; omega) rfl
    rw [hd, h4] at this
    exact this.below hb
  refine ⟨(((hA.1.below h1).beside (by omega) 0 _).beside (by omega) 1 _).beside (by omega) 2 _, (((hA.2.1.below h1).beside (by omega) 0 _).beside (by omega) 1 _).beside (by omega) 2 _, ((hB.set 0 _).set 1 _).set 2 _, Nat.le_refl _, ?_⟩
  exact below_set (below_set (below_set (hA.2.2.1.trans (h1.mono (by omega))) (by omega) 0 _) (by omega) 1 _) (by omega) 2 _
/-- One round of shapeOf: the operand's block, then the stores. -/
structure SoK (w : World) (e : Nd) (WB OB : Nat) (v : Bool) (a : Nat) (x : Shape) (q : Nat) (wr : World) : Prop where
  so : SoJ w e WB v a wr
  ob : BoxAt wr w.heap.size 275 3 OB [.bool x.valid, .int .i64 x.kind, .int .i64 (q : Int)]
  ne : ¬ OB = WB
  ge : w.heap.size + 2 ≤ OB
theorem SoJ.round {w : World} {e : Nd} {WB : Nat} {v : Bool} {a : Nat} {wr : World} (h : SoJ w e WB v a wr) (x : Shape) : SoK w e WB wr.heap.size v a x x.nest (wr.alloc (Obj.cells #[.bool x.valid, .int .i64 x.kind, .int .i64 (x.nest : Int)] 275)) := by
  have hb : Below wr.heap.size wr (wr.alloc (Obj.cells #[.bool x.valid, .int .i64 x.kind, .int .i64 (x.nest : Int)] 275)) := (Below.refl _ _).alloc (Nat.le_refl _) _
  have h1 := h.whole.lt.2
  have h2 := h.ne
  exact ⟨h.move hb, boxAt_new wr _ h.below.size rfl, by omega, by omega⟩
theorem SoK.valid {w : World} {e : Nd} {WB OB : Nat} {v : Bool} {a : Nat} {x : Shape} {q : Nat} {wr : World} (h : SoK w e WB OB v a x q wr) (v2 : Bool) : SoK w e WB OB v2 a x q (wr.setCell ⟨WB, 0, none⟩ (.bool v2)) := by
  have h2 := h.so.ne
  exact ⟨⟨h.so.node.beside (by omega) 0 _, h.so.res.beside (by omega) 0 _, h.so.whole.set 0 _, h2, below_set h.so.below (by omega) 0 _⟩, h.ob.beside h.ne 0 _, h.ne, h.ge⟩
theorem SoK.more {w : World} {e : Nd} {WB OB : Nat} {v : Bool} {a : Nat} {x : Shape} {q : Nat} {wr : World} (h : SoK w e WB OB v a x q wr) (q2 : Nat) : SoK w e WB OB v a x q2 (wr.setCell ⟨OB, 2, none⟩ (.int .i64 (q2 : Int))) := by
  have h2 := h.so.ne
  have h3 := h.ge
  have h4 := h.ne
  exact ⟨⟨h.so.node.beside (by omega) 2 _, h.so.res.beside (by omega) 2 _, h.so.whole.beside (by omega) 2 _, h2, below_set h.so.below (by omega) 2 _⟩, h.ob.set 2 _, h.ne, h.ge⟩
theorem SoK.done {w : World} {e : Nd} {WB OB : Nat} {v : Bool} {a : Nat} {x : Shape} {q : Nat} {wr : World} (h : SoK w e WB OB v a x q wr) (a2 : Nat) : SoJ w e WB v a2 (wr.setCell ⟨WB, 2, none⟩ (.int .i64 (a2 : Int))) := by
  have h2 := h.so.ne
  exact ⟨h.so.node.beside (by omega) 2 _, h.so.res.beside (by omega) 2 _, h.so.whole.set 2 _, h2, below_set h.so.below (by omega) 2 _⟩
theorem take_all {os : List Shape} {j : Nat} {x : Shape} (h : os[j]? = some x) : (os.take (j + 1)).all (·.valid) = ((os.take j).all (·.valid) && x.valid) := by
  rw [List.take_add_one, h]
  simp
theorem nestFrom_at (op : Int) {os : List Shape} {j a : Nat} {o : Shape} (h : os[j]? = some o) : nestFrom op j a (os.drop j) = nestFrom op (j + 1) (max a (o.nest + if level op j o.kind then 1 else 0)) (os.drop (j + 1)) := by
  have hj := (List.getElem?_eq_some_iff.1 h).1
  rw [List.drop_eq_getElem_cons hj, show os[j] = o from Option.some.inj ((List.getElem?_eq_getElem hj).symm.trans h)]
  rfl
set_option maxHeartbeats 8000000 in
theorem shapeOf_core {w : World} {b o cap : Nat} {os : List Shape} (e : Nd) (h : ShsAt w b o os) (hbl : b < w.heap.size) (hl : os.length ≤ cap) (h3 : os.length ≤ 3) (hcap : cap ≤ 9223372036854775807) (hN : ∀ x ∈ os, x.nest ≤ 1000) (hs : e.s.size ≤ maxLen) (ht : e.t.size ≤ maxLen) :
    Calls Try.prog 190 #[e.v, .slice (some ⟨b, o, none⟩) os.length cap] w fun r w' => r = .returned (.agg #[.bool (shapeM goodB e os).valid, .int .i64 e.kind, .int .i64 ((shapeM goodB e os).nest : Int)]) ∧ Below w.heap.size w w' := by
  have HF : Hid (ShsAt w b o os ∧ (∀ x ∈ os, x.nest ≤ 1000) ∧ e.s.size ≤ maxLen ∧ e.t.size ≤ maxLen) := ⟨h, hN, hs, ht⟩
  obtain ⟨n, hn⟩ : ∃ n, n = os.length := ⟨_, rfl⟩
  have HL : Hid (n = os.length) := hn
  rw [← hn] at hl h3 ⊢
  clear h hN hs ht hn
  obtain ⟨gd, hgd⟩ : ∃ gd, gd = goodB e := ⟨_, rfl⟩
  have HG : Hid (gd = goodB e) := hgd
  have HVal : Hid (∀ w, Calls Try.prog 199 #[.agg #[.int .i64 e.kind, .string e.s, .bool e.hi, .string e.t, .int .u64 e.lo, .int .u64 e.up, .int .i64 e.n]] w fun r w' => r = .returned (.bool gd) ∧ Below w.heap.size w w') := fun w => by
    rw [hgd]; exact valid_is e w HF.out.2.2.1 HF.out.2.2.2
  clear hgd
  obtain ⟨W0, hW0⟩ : ∃ W0 : World, W0 = (w.alloc (Obj.cells #[.int .i64 e.kind, .string e.s, .bool e.hi, .string e.t, .int .u64 e.lo, .int .u64 e.up, .int .i64 e.n] 173)).alloc (Obj.cells #[.bool false, .int .i64 0, .int .i64 0] 275) := ⟨_, rfl⟩
  have HW0 : Hid (BoxAt W0 w.heap.size 173 7 w.heap.size e.seven ∧ BoxAt W0 w.heap.size 275 3 (w.heap.size + 1) [.bool false, .int .i64 0, .int .i64 0] ∧ Below w.heap.size w W0 ∧ W0.heap.size = w.heap.size + 2) := by
    rw [hW0]
    exact ⟨BoxAt.ofHeap (vs := #[.int .i64 e.kind, .string e.s, .bool e.hi, .string e.t, .int .u64 e.lo, .int .u64 e.up, .int .i64 e.n]) (heap_alloc2_old w _ _) (Nat.le_refl _) rfl, BoxAt.ofHeap (vs := #[.bool false, .int .i64 0, .int .i64 0]) (heap_alloc2_new w _ _) (by omega) rfl, ((Below.refl _ _).alloc (Nat.le_refl _) _).alloc (by simp) _, by simp⟩
  have c0 := HW0.out.1.cell (j := 0) rfl
  have c1 := HW0.out.1.cell (j := 1) rfl
  have c2 := HW0.out.1.cell (j := 2) rfl
  have c3 := HW0.out.1.cell (j := 3) rfl
  have c4 := HW0.out.1.cell (j := 4) rfl
  have c5 := HW0.out.1.cell (j := 5) rfl
  have c6 := HW0.out.1.cell (j := 6) rfl
  have hz := HW0.out.2.2.2
  obtain ⟨tot, htot⟩ : ∃ tot, tot = (shapeM goodB e os).nest := ⟨_, rfl⟩
  have HT : Hid (nestFrom e.kind 0 0 os = tot) := by rw [htot]; exact (rfl : nestFrom e.kind 0 0 os = _)
  have HV : Hid ((shapeM goodB e os).valid = (gd && os.all (·.valid))) := by
    show (shapeM goodB e os).valid = _
    rw [HG.out]; rfl
  rw [← htot]
  clear htot
  go_enter Try.func190, Try.ntmps190
  go_upto_region 1 with fail
  rw [← hW0]
  clear hW0
  go_cut [5] (fun s wx => ∃ WB, s = .pointer (some ⟨WB, 0, none⟩) ∧ SoJ w e WB gd 0 wx)
  case first =>
    have hlt0 : w.heap.size < W0.heap.size := by omega
    have c0a : ∀ o, (W0.alloc o).cell? ⟨w.heap.size, 0, none⟩ = some (.int .i64 e.kind) := fun o => by rw [((Below.refl W0.heap.size W0).alloc (Nat.le_refl _) o).cell (p := ⟨w.heap.size, 0, none⟩) hlt0]; exact c0
    go_region_law ((go_simp; go_at_call 199; refine (HVal.out _).mono ?_; rintro r w' ⟨rfl, hbb⟩; obtain ⟨hcc, hff⟩ := bcell hbb; have hsz' := hbb.size; have k0 : w'.cell? ⟨w.heap.size, 0, none⟩ = some (.int .i64 e.kind) := by { rw [hcc w.heap.size 0 (by simp; omega)]; first | exact c0 | (simp; first | exact c0 | exact c0a _) }; have kl : w.heap.size < w'.heap.size := by { simp at hsz'; omega }; have k0a : ∀ o, (w'.alloc o).cell? ⟨w.heap.size, 0, none⟩ = some (.int .i64 e.kind) := fun o => by { rw [((Below.refl w'.heap.size w').alloc (Nat.le_refl _) o).cell (p := ⟨w.heap.size, 0, none⟩) kl]; exact k0 }))
    all_goals go_wp2_with fail
    all_goals go_meet
    all_goals first
      | exact ⟨_, rfl, so_after HW0.out hbb⟩
      | exact ⟨_, rfl, so_before HW0.out hbb⟩
  case rest =>
  obtain ⟨WB, rfl, hJ⟩ := hcut
  have HJ0 : Hid (SoJ w e WB gd 0 wc) := hJ
  clear hJ c0 c1 c2 c3 c4 c5 c6 hz HW0 HVal
  go_wp2_with fail
  go_loopw [15] (fun iv wr => ∃ (j a : Nat) (v : Bool), iv = .int .i64 (j : Int) ∧ j ≤ n ∧ a ≤ 2000 ∧ v = (gd && (os.take j).all (·.valid)) ∧ nestFrom e.kind j a (os.drop j) = tot ∧ SoJ w e WB v a wr) (fun iv _ => n - (intOf iv).toNat)
  case atStart => exact ⟨0, 0, gd, rfl, Nat.zero_le _, Nat.zero_le _, by simp, HT.out, HJ0.out⟩
  case round =>
    obtain ⟨j, a, v, rfl, hj, ha, hv, hN, hJ⟩ := hrel
    have HJ : Hid (v = (gd && (os.take j).all (·.valid)) ∧ nestFrom e.kind j a (os.drop j) = tot ∧ SoJ w e WB v a wr) := ⟨hv, hN, hJ⟩
    have hWB := hJ.whole.lt
    have hWn := hJ.ne
    clear hv hN hJ HJ0 HT
    by_cases hlt : j < n
    · have zj : (j : Int) < (n : Int) := by omega
      obtain ⟨x, hx⟩ : ∃ x, os[j]? = some x := ⟨_, List.getElem?_eq_getElem (by have := HL.out; omega)⟩
      obtain ⟨d0, d1, d2⟩ := (HF.out.1.below HJ.out.2.2.below hbl) j x hx
      have hxn := HF.out.2.1 x (List.mem_of_getElem? hx)
      have HX : Hid (os[j]? = some x) := hx
      obtain ⟨W1, hW1⟩ : ∃ W1 : World, W1 = wr.alloc (Obj.cells #[.bool x.valid, .int .i64 x.kind, .int .i64 (x.nest : Int)] 275) := ⟨_, rfl⟩
      have HK1 : Hid (SoK w e WB wr.heap.size v a x x.nest W1) := by rw [hW1]; exact HJ.out.2.2.round x
      clear hx
      go_upto_region 5 with fail
      rw [← hW1]
      clear hW1 d0 d1 d2
      obtain ⟨v0, hv0⟩ : ∃ v0, v0 = v := ⟨_, rfl⟩
      have HV0 : Hid (v0 = (gd && (os.take j).all (·.valid))) := by rw [hv0]; exact HJ.out.1
      have HN0 : Hid (nestFrom e.kind j a (os.drop j) = tot) := HJ.out.2.1
      clear HJ
      have w0 := HK1.out.so.whole.cell (j := 0) rfl
      have w0f := HK1.out.so.whole.frozen 0
      have o0 := HK1.out.ob.cell (j := 0) rfl
      have hne := HK1.out.ne
      have hge := HK1.out.ge
      cases v
      · have hv0' : v0 = false := hv0
        clear hv0
        obtain ⟨W2, hW2⟩ : ∃ W2 : World, W2 = W1.setCell ⟨WB, 0, none⟩ (.bool false) := ⟨_, rfl⟩
        have HK2 : Hid (SoK w e WB wr.heap.size false a x x.nest W2) := by rw [hW2]; exact HK1.out.valid false
        have HVn : Hid (false = (gd && (os.take (j + 1)).all (·.valid))) := by
          show false = _
          rw [take_all HX.out, ← Bool.and_assoc, ← HV0.out, hv0']
          simp
        go_upto_region 6 with fail
        rw [← hW2]
        clear hW2 w0 w0f o0 HK1 HV0
        have m0 := HK2.out.so.node.cell (j := 0) rfl
        have o1 := HK2.out.ob.cell (j := 1) rfl
        have o2 := HK2.out.ob.cell (j := 2) rfl
        have o2f := HK2.out.ob.frozen 2
        have w2 := HK2.out.so.whole.cell (j := 2) rfl
        have w2f := HK2.out.so.whole.frozen 2
        have fin : ∀ (y : Nat), y = max a (x.nest + (if level e.kind j x.kind then 1 else 0)) → nestFrom e.kind (j + 1) y (os.drop (j + 1)) = tot := fun y hy => by
          rw [hy, ← nestFrom_at e.kind HX.out]; exact HN0.out
        by_cases h16 : e.kind = 16
        · have hlv : level e.kind j x.kind = true := by unfold level; rw [h16]; rfl
          have z16 : (e.kind == 16) = true := by simpa using h16
          clear h16
          obtain ⟨W3, hW3⟩ : ∃ W3 : World, W3 = W2.setCell ⟨wr.heap.size, 2, none⟩ (.int .i64 ((x.nest : Int) + 1)) := ⟨_, rfl⟩
          have HK3 : Hid (SoK w e WB wr.heap.size false a x (x.nest + 1) W3) := by rw [hW3]; exact HK2.out.more (x.nest + 1)
          go_upto_region 8 with fail
          rw [← hW3]
          clear hW3 m0 o1 o2 o2f w2 w2f HK2
          have o2 := HK3.out.ob.cell (j := 2) rfl
          have w2 := HK3.out.so.whole.cell (j := 2) rfl
          have w2f := HK3.out.so.whole.frozen 2
          obtain ⟨a2, ha2⟩ : ∃ a2, a2 = max a (x.nest + 1) := ⟨_, rfl⟩
          have HFin : Hid (nestFrom e.kind (j + 1) a2 (os.drop (j + 1)) = tot ∧ a2 ≤ 2000) := ⟨fin a2 (by rw [ha2, hlv]; rfl), by omega⟩
          have ha3 : max (a : Int) ((x.nest : Int) + 1) = (a2 : Int) := by omega
          clear fin hlv ha2
          go_wp2_with fail
          go_roundw
          case rel =>
            refine ⟨j + 1, a2, false, by go_num, by omega, HFin.out.2, HVn.out, HFin.out.1, ?_⟩
            exact HK3.out.done a2
          case measure => simp [intOf]; omega
        · have z16 : (e.kind == 16) = false := by simpa using h16
          go_wp2_with fail
          refine (inParens_core e.kind j x.kind _ h16).mono ?_
          rintro r w9 ⟨rfl, hw9⟩
          rw [hw9]
          clear hw9 h16
          cases hlv : level e.kind j x.kind
          · skip
            obtain ⟨a2, ha2⟩ : ∃ a2, a2 = max a (x.nest) := ⟨_, rfl⟩
            have HFin : Hid (nestFrom e.kind (j + 1) a2 (os.drop (j + 1)) = tot ∧ a2 ≤ 2000) := ⟨fin a2 (by rw [ha2, hlv]; rfl), by omega⟩
            have ha3 : max (a : Int) ((x.nest : Int)) = (a2 : Int) := by omega
            clear fin hlv ha2
            go_wp2_with fail
            go_roundw
            case rel =>
              refine ⟨j + 1, a2, false, by go_num, by omega, HFin.out.2, HVn.out, HFin.out.1, ?_⟩
              exact HK2.out.done a2
            case measure => simp [intOf]; omega
          · skip
            obtain ⟨W3, hW3⟩ : ∃ W3 : World, W3 = W2.setCell ⟨wr.heap.size, 2, none⟩ (.int .i64 ((x.nest : Int) + 1)) := ⟨_, rfl⟩
            have HK3 : Hid (SoK w e WB wr.heap.size false a x (x.nest + 1) W3) := by rw [hW3]; exact HK2.out.more (x.nest + 1)
            go_upto_region 8 with fail
            rw [← hW3]
            clear hW3 m0 o1 o2 o2f w2 w2f HK2
            have o2 := HK3.out.ob.cell (j := 2) rfl
            have w2 := HK3.out.so.whole.cell (j := 2) rfl
            have w2f := HK3.out.so.whole.frozen 2
            obtain ⟨a2, ha2⟩ : ∃ a2, a2 = max a (x.nest + 1) := ⟨_, rfl⟩
            have HFin : Hid (nestFrom e.kind (j + 1) a2 (os.drop (j + 1)) = tot ∧ a2 ≤ 2000) := ⟨fin a2 (by rw [ha2, hlv]; rfl), by omega⟩
            have ha3 : max (a : Int) ((x.nest : Int) + 1) = (a2 : Int) := by omega
            clear fin hlv ha2
            go_wp2_with fail
            go_roundw
            case rel =>
              refine ⟨j + 1, a2, false, by go_num, by omega, HFin.out.2, HVn.out, HFin.out.1, ?_⟩
              exact HK3.out.done a2
            case measure => simp [intOf]; omega
      · have hv0' : v0 = true := hv0
        clear hv0
        obtain ⟨W2, hW2⟩ : ∃ W2 : World, W2 = W1.setCell ⟨WB, 0, none⟩ (.bool x.valid) := ⟨_, rfl⟩
        have HK2 : Hid (SoK w e WB wr.heap.size x.valid a x x.nest W2) := by rw [hW2]; exact HK1.out.valid x.valid
        have HVn : Hid (x.valid = (gd && (os.take (j + 1)).all (·.valid))) := by
          show x.valid = _
          rw [take_all HX.out, ← Bool.and_assoc, ← HV0.out, hv0']
          simp
        go_upto_region 6 with fail
        rw [← hW2]
        clear hW2 w0 w0f o0 HK1 HV0
        have m0 := HK2.out.so.node.cell (j := 0) rfl
        have o1 := HK2.out.ob.cell (j := 1) rfl
        have o2 := HK2.out.ob.cell (j := 2) rfl
        have o2f := HK2.out.ob.frozen 2
        have w2 := HK2.out.so.whole.cell (j := 2) rfl
        have w2f := HK2.out.so.whole.frozen 2
        have fin : ∀ (y : Nat), y = max a (x.nest + (if level e.kind j x.kind then 1 else 0)) → nestFrom e.kind (j + 1) y (os.drop (j + 1)) = tot := fun y hy => by
          rw [hy, ← nestFrom_at e.kind HX.out]; exact HN0.out
        by_cases h16 : e.kind = 16
        · have hlv : level e.kind j x.kind = true := by unfold level; rw [h16]; rfl
          have z16 : (e.kind == 16) = true := by simpa using h16
          clear h16
          obtain ⟨W3, hW3⟩ : ∃ W3 : World, W3 = W2.setCell ⟨wr.heap.size, 2, none⟩ (.int .i64 ((x.nest : Int) + 1)) := ⟨_, rfl⟩
          have HK3 : Hid (SoK w e WB wr.heap.size x.valid a x (x.nest + 1) W3) := by rw [hW3]; exact HK2.out.more (x.nest + 1)
          go_upto_region 8 with fail
          rw [← hW3]
          clear hW3 m0 o1 o2 o2f w2 w2f HK2
          have o2 := HK3.out.ob.cell (j := 2) rfl
          have w2 := HK3.out.so.whole.cell (j := 2) rfl
          have w2f := HK3.out.so.whole.frozen 2
          obtain ⟨a2, ha2⟩ : ∃ a2, a2 = max a (x.nest + 1) := ⟨_, rfl⟩
          have HFin : Hid (nestFrom e.kind (j + 1) a2 (os.drop (j + 1)) = tot ∧ a2 ≤ 2000) := ⟨fin a2 (by rw [ha2, hlv]; rfl), by omega⟩
          have ha3 : max (a : Int) ((x.nest : Int) + 1) = (a2 : Int) := by omega
          clear fin hlv ha2
          go_wp2_with fail
          go_roundw
          case rel =>
            refine ⟨j + 1, a2, x.valid, by go_num, by omega, HFin.out.2, HVn.out, HFin.out.1, ?_⟩
            exact HK3.out.done a2
          case measure => simp [intOf]; omega
        · have z16 : (e.kind == 16) = false := by simpa using h16
          go_wp2_with fail
          refine (inParens_core e.kind j x.kind _ h16).mono ?_
          rintro r w9 ⟨rfl, hw9⟩
          rw [hw9]
          clear hw9 h16
          cases hlv : level e.kind j x.kind
          · skip
            obtain ⟨a2, ha2⟩ : ∃ a2, a2 = max a (x.nest) := ⟨_, rfl⟩
            have HFin : Hid (nestFrom e.kind (j + 1) a2 (os.drop (j + 1)) = tot ∧ a2 ≤ 2000) := ⟨fin a2 (by rw [ha2, hlv]; rfl), by omega⟩
            have ha3 : max (a : Int) ((x.nest : Int)) = (a2 : Int) := by omega
            clear fin hlv ha2
            go_wp2_with fail
            go_roundw
            case rel =>
              refine ⟨j + 1, a2, x.valid, by go_num, by omega, HFin.out.2, HVn.out, HFin.out.1, ?_⟩
              exact HK2.out.done a2
            case measure => simp [intOf]; omega
          · skip
            obtain ⟨W3, hW3⟩ : ∃ W3 : World, W3 = W2.setCell ⟨wr.heap.size, 2, none⟩ (.int .i64 ((x.nest : Int) + 1)) := ⟨_, rfl⟩
            have HK3 : Hid (SoK w e WB wr.heap.size x.valid a x (x.nest + 1) W3) := by rw [hW3]; exact HK2.out.more (x.nest + 1)
            go_upto_region 8 with fail
            rw [← hW3]
            clear hW3 m0 o1 o2 o2f w2 w2f HK2
            have o2 := HK3.out.ob.cell (j := 2) rfl
            have w2 := HK3.out.so.whole.cell (j := 2) rfl
            have w2f := HK3.out.so.whole.frozen 2
            obtain ⟨a2, ha2⟩ : ∃ a2, a2 = max a (x.nest + 1) := ⟨_, rfl⟩
            have HFin : Hid (nestFrom e.kind (j + 1) a2 (os.drop (j + 1)) = tot ∧ a2 ≤ 2000) := ⟨fin a2 (by rw [ha2, hlv]; rfl), by omega⟩
            have ha3 : max (a : Int) ((x.nest : Int) + 1) = (a2 : Int) := by omega
            clear fin hlv ha2
            go_wp2_with fail
            go_roundw
            case rel =>
              refine ⟨j + 1, a2, x.valid, by go_num, by omega, HFin.out.2, HVn.out, HFin.out.1, ?_⟩
              exact HK3.out.done a2
            case measure => simp [intOf]; omega
    · have zj : ¬ (j : Int) < (n : Int) := by omega
      have HFi : Hid (a = tot ∧ v = (shapeM goodB e os).valid) := by
        show _ ∧ _
        have h1 := HJ.out.2.1
        have h2 := HJ.out.1
        have hln := HL.out
        rw [List.drop_eq_nil_of_le (by omega)] at h1
        rw [List.take_of_length_le (by omega)] at h2
        exact ⟨h1, by rw [h2, HV.out]⟩
      have w0 := HJ.out.2.2.whole.cell (j := 0) rfl
      have w1 := HJ.out.2.2.whole.cell (j := 1) rfl
      have w2 := HJ.out.2.2.whole.cell (j := 2) rfl
      have r0 := HJ.out.2.2.res.cell (j := 0) rfl
      have r1 := HJ.out.2.2.res.cell (j := 1) rfl
      have r2 := HJ.out.2.2.res.cell (j := 2) rfl
      have f0 := HJ.out.2.2.res.frozen 0
      have f1 := HJ.out.2.2.res.frozen 1
      have f2 := HJ.out.2.2.res.frozen 2
      obtain ⟨W9, hW9⟩ : ∃ W9 : World, W9 = set3 wr (w.heap.size + 1) (.bool v) (.int .i64 e.kind) (.int .i64 (a : Int)) := ⟨_, rfl⟩
      have HW9 : Hid (BoxAt W9 w.heap.size 275 3 (w.heap.size + 1) [.bool v, .int .i64 e.kind, .int .i64 (a : Int)] ∧ Below w.heap.size w W9) := by
        rw [hW9]; exact ⟨HJ.out.2.2.res.set3 _ _ _, below_set3 HJ.out.2.2.below (by omega) _ _ _⟩
      have p0 := HW9.out.1.cell (j := 0) rfl
      have p1 := HW9.out.1.cell (j := 1) rfl
      have p2 := HW9.out.1.cell (j := 2) rfl
      unfold set3 at hW9
      go_wp2_with fail
      rw [← hW9]
      obtain ⟨rfl, hvv⟩ := HFi.out
      rw [← hvv]
      refine bodyPost_ret (v := .agg #[.bool v, .int .i64 e.kind, .int .i64 (a : Int)]) (by simp [results, Try.results190, go_sem, p0, p1, p2]) rfl ⟨rfl, HW9.out.2⟩
end Go.Proofs.Ytlgeffinhbodeae

