import Derived.Deep.DeepCutAuto
import Derived.Test.YtlgeffinhbodeaePkAJ
/-
  Blocks and code compared; code that comes in, opened.
-/
namespace Go.Proofs.Ytlgeffinhbodeae
open Go.ChangeShapes Go.WideShapes Go.ChangeAt Go.RowKit Go.Deep
set_option linter.unusedVariables false
set_option linter.unusedSimpArgs false
set_option maxRecDepth 100000

set_option maxHeartbeats 400000 in
theorem eqBlock_any (x y : Bk) (w : World) (h : InIxs w x.v x.l) (h' : InIxs w y.v y.l) (hv : x.vw = y.vw) :
    Calls Try.prog 70 #[x.val, y.val] w fun e w' => e = .returned (.bool true) ∧ Below w.heap.size w w' := by
  have hu := h.cells
  have hu' := h'.cells
  obtain ⟨v, cnt, l⟩ := x
  obtain ⟨v', cnt', l'⟩ := y
  simp only [Bk.vw, Prod.mk.injEq] at hv
  obtain ⟨rfl, rfl⟩ := hv
  have HE : Hid (InIxs w v l ∧ InIxs w v' l) := ⟨h, h'⟩
  simp only at hu hu'
  clear h h'
  go_enter Try.func70, Try.ntmps70
  go_wp2_with fail
  have k0 : Below w.heap.size w ((w.alloc (Obj.cells #[v, .int .i64 cnt] 54)).alloc (Obj.cells #[v', .int .i64 cnt] 54)) := ((Below.refl _ _).alloc (Nat.le_refl _) _).alloc (by simp) _
  refine (eqInsS_any v v' l _ (HE.out.1.below k0 (Nat.le_refl _)) (HE.out.2.below k0 (Nat.le_refl _))).mono ?_
  rintro e w1 ⟨rfl, hb1⟩
  obtain ⟨hc1, hf1⟩ := bcell hb1
  go_wp2_with fail
  go_ret
  exact ⟨rfl, k0.trans (hb1.mono (by simp; omega))⟩
set_option maxHeartbeats 1000000 in
theorem eqBlockS_same (b off cap b' off' cap' : Nat) (bs bs' : List Bk) (w : World) (hE : BksAt w b off bs) (hE' : BksAt w b' off' bs') (hv : bs.map Bk.vw = bs'.map Bk.vw) (hB : b < w.heap.size) (hB' : b' < w.heap.size) (hlen : bs.length ≤ maxLen) :
    Calls Try.prog 69 #[.slice (some ⟨b, off, none⟩) bs.length cap, .slice (some ⟨b', off', none⟩) bs.length cap'] w fun e w' =>
      e = .returned (.bool true) ∧ Below w.heap.size w w' := by
  have HE : Hid (BksAt w b off bs ∧ BksAt w b' off' bs' ∧ bs.map Bk.vw = bs'.map Bk.vw) := ⟨hE, hE', hv⟩
  clear hE hE' hv
  unfold maxLen at hlen
  go_enter Try.func69, Try.ntmps69
  go_wp2
  go_loopw [5] (fun i wr => ∃ (k : Nat), k ≤ bs.length ∧ i = .int .i64 k ∧ Below w.heap.size w wr) (fun i _ => bs.length - (intOf i).toNat)
  case atStart => exact ⟨0, Nat.zero_le _, rfl, Below.refl _ _⟩
  case round =>
    obtain ⟨k, hk, rfl, hb⟩ := hrel
    have hs2 := hb.size
    by_cases hlt : k < bs.length
    · obtain ⟨x, hx⟩ : ∃ x, bs[k]? = some x := ⟨_, List.getElem?_eq_getElem hlt⟩
      have hll := congrArg List.length HE.out.2.2
      simp only [List.length_map] at hll
      obtain ⟨y, hy⟩ : ∃ y, bs'[k]? = some y := ⟨_, List.getElem?_eq_getElem (by omega)⟩
      obtain ⟨c0, c1, hI⟩ := HE.out.1.below hb hB k x hx
      obtain ⟨d0, d1, hJ⟩ := HE.out.2.1.below hb hB' k y hy
      have hvw : x.vw = y.vw := by
        have := congrArg (fun l => l[k]?) HE.out.2.2
        simp only [List.getElem?_map, hx, hy] at this
        exact Option.some.inj this
      have HX : Hid (InIxs wr x.v x.l ∧ InIxs wr y.v y.l ∧ x.vw = y.vw) := ⟨hI, hJ, hvw⟩
      have hu := hI.cells
      have hu' := hJ.cells
      clear hx hy hI hJ hvw hll
      go_upto_region 6 with fail
      go_cut [26] (fun s wx => s = .bool false ∧ Below w.heap.size w wx)
      case first =>
        have z2 : (k : Int) < (bs.length : Int) := by omega
        go_region_with (go_at_call 70; refine (eqBlock_any x y _ (HX.out.1.below (Below.refl _ _).drew (Nat.le_refl _)) (HX.out.2.1.below (Below.refl _ _).drew (Nat.le_refl _)) HX.out.2.2).mono ?_; rintro e' w' ⟨rfl, hbb⟩)
        all_goals go_wp2_with fail
        all_goals go_meet
        all_goals exact ⟨rfl, hb.drew.trans (hbb.mono (by simp; omega))⟩
      case rest =>
      obtain ⟨rfl, h3⟩ := hcut
      clear c0 c1 d0 d1
      go_wp2_with fail
      go_roundw
      case rel => exact ⟨k + 1, by omega, by go_num, h3⟩
      case measure => simp [intOf]; omega
    · go_wp2_with fail
      go_ret
      exact ⟨rfl, hb⟩
set_option maxHeartbeats 400000 in
theorem eqBlockS_zero (a a' : Option Addr) (cap cap' : Nat) (w : World) :
    Calls Try.prog 69 #[.slice a 0 cap, .slice a' 0 cap'] w fun e w' => e = .returned (.bool true) ∧ Below w.heap.size w w' := by
  go_enter Try.func69, Try.ntmps69
  go_wp2
  go_loopw [5] (fun i wr => i = .int .i64 0 ∧ Below w.heap.size w wr) (fun i _ => 0)
  case atStart => exact ⟨rfl, Below.refl _ _⟩
  case round =>
    obtain ⟨rfl, hb⟩ := hrel
    go_wp2_with fail
    go_ret
    exact ⟨rfl, hb⟩
theorem eqBlockS_any (u u' : Value) (bs bs' : List Bk) (w : World) (h : InBks w u bs) (h' : InBks w u' bs') (hv : bs.map Bk.vw = bs'.map Bk.vw) :
    Calls Try.prog 69 #[u, u'] w fun e w' => e = .returned (.bool true) ∧ Below w.heap.size w w' := by
  have hll := congrArg List.length hv
  simp only [List.length_map] at hll
  rcases h with ⟨a, cap, rfl, rfl⟩ | ⟨b, off, cap, rfl, hE, hlt, g1, g2⟩
  · rcases h' with ⟨a', cap', rfl, _⟩ | ⟨b', off', cap', rfl, hE', hlt', g1', g2'⟩
    · exact eqBlockS_zero a a' cap cap' w
    · rw [← hll]; exact eqBlockS_zero a _ cap cap' w
  · rcases h' with ⟨a', cap', rfl, rfl⟩ | ⟨b', off', cap', rfl, hE', hlt', g1', g2'⟩
    · rw [hll]; exact eqBlockS_zero _ a' cap cap' w
    · rw [← hll]; exact eqBlockS_same b off cap b' off' cap' bs bs' w hE hE' hv hlt hlt' (Nat.le_trans g1 g2)
set_option maxHeartbeats 1000000 in
theorem eqCode_any (u u' : Value) (bs bs' : List Bk) (m m' : Bk) (w : World) (h : InBks w u bs) (h' : InBks w u' bs') (hv : bs.map Bk.vw = bs'.map Bk.vw) (hm : InIxs w m.v m.l) (hm' : InIxs w m'.v m'.l) (hmv : m.vw = m'.vw) :
    Calls Try.prog 24 #[.agg #[u, m.v, .int .i64 m.cnt], .agg #[u', m'.v, .int .i64 m'.cnt]] w fun e w' => e = .returned (.bool true) ∧ Below w.heap.size w w' := by
  have HE : Hid (InBks w u bs ∧ InBks w u' bs' ∧ bs.map Bk.vw = bs'.map Bk.vw ∧ InIxs w m.v m.l ∧ InIxs w m'.v m'.l ∧ m.vw = m'.vw) := ⟨h, h', hv, hm, hm', hmv⟩
  have hu := h.cells
  have hu' := h'.cells
  have hu2 := hm.cells
  have hu2' := hm'.cells
  clear h h' hv hm hm' hmv
  obtain ⟨W0, hW0⟩ : ∃ W0 : World, W0 = (w.alloc (Obj.cells #[u, m.v, .int .i64 m.cnt] 56)).alloc (Obj.cells #[u', m'.v, .int .i64 m'.cnt] 56) := ⟨_, rfl⟩
  have k0 : Below w.heap.size w W0 := by rw [hW0]; exact ((Below.refl _ _).alloc (Nat.le_refl _) _).alloc (by simp) _
  have hz0 : W0.heap.size = w.heap.size + 1 + 1 := by rw [hW0]; simp
  have HK : Hid (∀ wx, Below W0.heap.size W0 wx → wx.cell? ⟨w.heap.size, 0, none⟩ = some u ∧ wx.cell? ⟨w.heap.size, 1, none⟩ = some m.v ∧ wx.cell? ⟨w.heap.size, 2, none⟩ = some (.int .i64 m.cnt) ∧ wx.cell? ⟨w.heap.size + 1, 0, none⟩ = some u' ∧ wx.cell? ⟨w.heap.size + 1, 1, none⟩ = some m'.v ∧ wx.cell? ⟨w.heap.size + 1, 2, none⟩ = some (.int .i64 m'.cnt)) := by
    intro wx hx
    have e1 : w.heap.size < W0.heap.size := by omega
    have e2 : w.heap.size + 1 < W0.heap.size := by omega
    rw [hx.cell (p := ⟨w.heap.size, 0, none⟩) e1, hx.cell (p := ⟨w.heap.size, 1, none⟩) e1, hx.cell (p := ⟨w.heap.size, 2, none⟩) e1, hx.cell (p := ⟨w.heap.size + 1, 0, none⟩) e2, hx.cell (p := ⟨w.heap.size + 1, 1, none⟩) e2, hx.cell (p := ⟨w.heap.size + 1, 2, none⟩) e2, hW0]
    refine ⟨?_, ?_, ?_, ?_, ?_, ?_⟩ <;> simp [go_sem]
  obtain ⟨a0, a1, a2, b0, b1, b2⟩ := HK.out W0 (Below.refl _ _)
  go_enter Try.func24, Try.ntmps24
  go_upto_region 1 with fail
  rw [← hW0]
  clear hW0
  go_wp2_with fail
  refine (eqBlockS_any u u' bs bs' _ (HE.out.1.below k0) (HE.out.2.1.below k0) HE.out.2.2.1).mono ?_
  rintro e w1 ⟨rfl, hb1⟩
  have s1 := hb1.size
  have k1 : Below w.heap.size w w1 := k0.trans (hb1.mono (by omega))
  clear a0 a1 a2 b0 b1 b2
  obtain ⟨a0, a1, a2, b0, b1, b2⟩ := HK.out w1 hb1
  go_wp2_with fail
  refine (eqBlock_any m m' _ (HE.out.2.2.2.1.below k1 (Nat.le_refl _)) (HE.out.2.2.2.2.1.below k1 (Nat.le_refl _)) HE.out.2.2.2.2.2).mono ?_
  rintro e w2 ⟨rfl, hb2⟩
  go_wp2_with fail
  go_ret
  exact ⟨rfl, k1.trans (hb2.mono (by omega))⟩

theorem Try.cellsBk : Try.prog.cellsOf 46 = 2 := by kernel_rfl
theorem Try.cellsIxs : Try.prog.cellsOf 44 = 1 := by kernel_rfl
theorem list2 {α : Type} {cs : List α} (h : cs.length = 2) : ∃ c0 c1, cs = [c0, c1] := by
  match cs, h with
  | [c0, c1], _ => exact ⟨c0, c1, rfl⟩
theorem bk_of_trod {H : Type} {enc : TypeId × Value → H} {w : World} {base : Nat} {held : Bool} {fuel : Nat} {cs : List Value} {x : DataW H × List MemPlace}
    (h : DataW.trod enc Try.prog w base (fun _ => true) held fuel 46 cs = some x) : ∃ e : Bk, e.ok ∧ cs = e.two ∧ InIxs w e.v e.l := by
  obtain ⟨xs, n, _, _, hl, hlen, hf⟩ := DataW.trod_struct Try.underlying46 h
  rw [Try.cellsBk] at hl
  obtain ⟨c0, c1, rfl⟩ := list2 hl
  obtain ⟨x0, x1, rfl⟩ := list2 (cs := xs) hlen
  have h0 := hf 0 _ rfl
  have h1 := hf 1 _ rfl
  simp [Try.cellsIxs, Try.cellsI64] at h0 h1
  obtain ⟨es, hes, ok⟩ := ixs_of_trod h0
  obtain ⟨a1, e1, _, b1⟩ := DataW.trod_int Try.underlying2 h1
  simp only [List.cons.injEq, and_true] at e1
  exact ⟨⟨c0, a1, es⟩, ⟨b1, ok⟩, by rw [e1], hes⟩
theorem bks_of_trod {H : Type} {enc : TypeId × Value → H} {w : World} {base : Nat} {held : Bool} {fuel : Nat} {v : Value} {x : DataW H × List MemPlace}
    (h : DataW.trod enc Try.prog w base (fun _ => true) held fuel 43 [v] = some x) : ∃ es : List Bk, InBks w v es ∧ ∀ e ∈ es, e.ok := by
  rcases open_slice Try.underlying43 h with ⟨hcs, _⟩ | ⟨a, len, cap, m, n, D, Pl, hcs, hba, hl, hm, hmm, _, hel⟩
  · simp only [List.cons.injEq, and_true] at hcs
    exact ⟨[], .inl ⟨none, 0, hcs, rfl⟩, by simp⟩
  · simp only [List.cons.injEq, and_true] at hcs
    subst hcs
    rw [if_pos rfl] at hmm
    subst hmm
    have hel6 : ∀ i, i < m → ∃ cs', w.cells? base (a.add (i * 2)) 2 = some cs' ∧ DataW.trod enc Try.prog w base (fun _ => true) held n 46 cs' = some (D i, Pl i) := fun i hi => by
      have := hel i hi
      rw [Try.cellsBk] at this
      exact this
    clear hel
    have HM : Hid (m ≤ maxLen) := hm
    clear hm
    by_cases h0 : len = 0
    · subst h0; exact ⟨[], .inl ⟨_, _, rfl, rfl⟩, by simp⟩
    · obtain ⟨b, off, spot⟩ := a
      have hspot : spot = none := by
        obtain ⟨cs', hc, _⟩ := hel6 0 (by omega)
        obtain ⟨_, hlen, hget⟩ := World.cells?_some hc
        have h1 := hget 0 (by omega)
        have h2 : (w.cell? ((Addr.add ⟨b, off, spot⟩ (0 * 2)).add 0)).isSome = true := by rw [h1]; simp; omega
        obtain ⟨u, hu⟩ := Option.isSome_iff_exists.1 h2
        simpa [Addr.add] using World.cell?_spot hu
      subst hspot
      obtain ⟨es, hes, hp⟩ := list_of_forall (P := fun i (e : Bk) => e.ok ∧ (w.cell? ⟨b, off + i * 2, none⟩ = some e.v ∧ w.cell? ⟨b, off + i * 2 + 1, none⟩ = some (.int .i64 e.cnt) ∧ InIxs w e.v e.l)) len (fun i hi => by
        obtain ⟨cs', hc, ht⟩ := hel6 i (by omega)
        obtain ⟨e, ok, rfl, hI⟩ := bk_of_trod ht
        obtain ⟨_, hlen, hget⟩ := World.cells?_some hc
        refine ⟨e, ok, ?_, ?_, hI⟩
        · simpa [Addr.add_mid] using hget 0 (by omega)
        · simpa [Addr.add_mid] using hget 1 (by omega))
      have hlt : b < w.heap.size := by
        obtain ⟨cs', hc, _⟩ := hel6 0 (by omega)
        simpa [Addr.add] using World.cells?_block hc (by omega)
      subst hes
      refine ⟨es, .inr ⟨b, off, m, rfl, fun i e he => (hp i e he).2, hlt, hl, HM.out⟩, fun e he => ?_⟩
      obtain ⟨i, hi⟩ := List.getElem?_of_mem he
      exact (hp i e hi).1
set_option maxRecDepth 100000 in
theorem open_code {H : Type} {enc : TypeId × Value → H} {w : World} {base b0 : Nat} {held : Bool} {r : Reach} {v : Value} {d : DataW H} {p : List MemPlace}
    (hv : Value.okWide Try.prog w r b0 48 v) (h : DataW.Trod enc Try.prog w base (fun _ => true) held 48 v d p) :
    ∃ (u : Value) (bs : List Bk) (m : Bk), v = .agg #[u, m.v, .int .i64 m.cnt] ∧ InBks w u bs ∧ (∀ x ∈ bs, x.ok) ∧ InIxs w m.v m.l ∧ m.ok := by
  obtain ⟨cs, rfl, hsz⟩ := okWide_struct Try.underlying48 hv
  obtain ⟨fuel, hf⟩ := h
  have h1 : Try.prog.cellsOf 48 = 3 := by kernel_rfl
  have h2 : Try.prog.cellsOf 43 = 1 := by kernel_rfl
  obtain ⟨xs, n, _, _, hl, hlen, hff⟩ := DataW.trod_struct Try.underlying48 hf
  rw [h1] at hsz
  obtain ⟨l⟩ := cs
  match l, hsz with
  | [u, c1, c2], _ =>
    obtain ⟨x0, x1, rfl⟩ := list2 (cs := xs) hlen
    have t0 := hff 0 _ rfl
    have t1 := hff 1 _ rfl
    simp [h2, Try.cellsBk, Value.cells] at t0 t1
    obtain ⟨bs, hb, ok⟩ := bks_of_trod t0
    obtain ⟨m, mok, he, hI⟩ := bk_of_trod t1
    simp only [List.cons.injEq, and_true] at he
    exact ⟨u, bs, m, by rw [he.1, he.2], hb, ok, hI, mok⟩
end Go.Proofs.Ytlgeffinhbodeae

/-
  The law FnExactValidCode.
-/
namespace Go.Proofs.Ytlgeffinhbodeae.exValidCode
open Go.ChangeShapes Go.WideShapes Go.ChangeAt Go.RowKit Go.Deep
set_option linter.unusedVariables false
set_option linter.unusedSimpArgs false
set_option maxRecDepth 100000

theorem own : ownKnob Try.prog.godebug = none := by kernel_rfl
theorem laidOut : laidOutB Try.prog = true := by kernel_rfl
theorem bool_of_iff {a b : Bool} {p : Prop} (h : a = true ↔ p) (k : b = true ↔ p) : a = b := by
  rw [Bool.eq_iff_iff, h, k]
/-- Code that is read. -/
structure InCo (w : World) (u v : Value) (bs : List Bk) (m : Bk) : Prop where
  bks : InBks w u bs
  ins : InIxs w v m.l
theorem InCo.below {w w' : World} {u v : Value} {bs : List Bk} {m : Bk} (h : InCo w u v bs m) (hb : Below w.heap.size w w') : InCo w' u v bs m := ⟨h.bks.below hb, h.ins.below hb (Nat.le_refl _)⟩
theorem ok_vw {bs fs : List Bk} (h : fs.map Bk.vw = bs.map Bk.vw) (ho : ∀ x ∈ bs, x.ok) : ∀ x ∈ fs, x.ok := by
  intro x hx
  obtain ⟨i, hi⟩ := List.getElem?_of_mem hx
  have hl := congrArg List.length h
  simp only [List.length_map] at hl
  have hil := (List.getElem?_eq_some_iff.1 hi).1
  obtain ⟨y, hy⟩ : ∃ y, bs[i]? = some y := ⟨_, List.getElem?_eq_getElem (by omega)⟩
  have h2 := congrArg (fun l => l[i]?) h
  simp only [List.getElem?_map, hi, hy, Option.map_some, Option.some.injEq, Bk.vw, Prod.mk.injEq] at h2
  have oy := ho y (List.mem_of_getElem? hy)
  exact ⟨by rw [h2.1]; exact oy.cnt, by rw [h2.2]; exact oy.ins⟩
theorem toCode_in (W0 : World) (u : Value) (bs : List Bk) (m : Bk) (w : World) (hb : Below W0.heap.size W0 w) (h : Hid (InCo W0 u m.v bs m)) (h1 : bs.length + totB bs + m.l.length ≤ 1048576) :
    Calls Try.prog 22 #[.agg #[u, m.v, .int .i64 m.cnt]] w fun e w' =>
      ∃ g gm fs, e = .returned (.agg #[.slice (some ⟨g, 0, none⟩) bs.length bs.length, .slice (some ⟨gm, 0, none⟩) m.l.length m.l.length, .int .i64 m.cnt]) ∧ Hid (InCo w' (.slice (some ⟨g, 0, none⟩) bs.length bs.length) (.slice (some ⟨gm, 0, none⟩) m.l.length m.l.length) fs m ∧ fs.map Bk.vw = bs.map Bk.vw) ∧ Below W0.heap.size W0 w' ∧ (∀ b o, b < W0.heap.size → w'.cell? ⟨b, o, none⟩ = W0.cell? ⟨b, o, none⟩) := by
  have h2 := h.out.below hb
  refine (toCode_any u bs m w h2.bks h2.ins h1).mono ?_
  rintro e w' ⟨g, gm, fs, rfl, hI, hv, hM, hb'⟩
  have k := hb.trans (hb'.mono hb.size)
  exact ⟨g, gm, fs, rfl, ⟨⟨hI, hM⟩, hv⟩, k, fun b o hlt => k.cell (p := ⟨b, o, none⟩) hlt⟩
theorem eqCode_in (W0 : World) (u v u' v' : Value) (bs bs' : List Bk) (m : Bk) (w : World) (hb : Below W0.heap.size W0 w) (h : Hid (InCo W0 u v bs m)) (h' : Hid (InCo w u' v' bs' m)) (hv : Hid (bs.map Bk.vw = bs'.map Bk.vw)) :
    Calls Try.prog 24 #[.agg #[u, v, .int .i64 m.cnt], .agg #[u', v', .int .i64 m.cnt]] w fun e w' => e = .returned (.bool true) ∧ Below W0.heap.size W0 w' := by
  have h2 := h.out.below hb
  refine (eqCode_any u u' bs bs' ⟨v, m.cnt, m.l⟩ ⟨v', m.cnt, m.l⟩ w h2.bks h'.out.bks hv.out h2.ins h'.out.ins rfl).mono ?_
  rintro e w' ⟨he, hb'⟩
  exact ⟨he, hb.trans (hb'.mono hb.size)⟩

set_option maxHeartbeats 4000000 in
theorem walk (u : Value) (bs : List Bk) (m : Bk) (w : World) (h : InBks w u bs) (hok : ∀ x ∈ bs, x.ok) (hm : InIxs w m.v m.l) (hmo : m.ok) :
    Calls Try.prog 5 #[.agg #[u, m.v, .int .i64 m.cnt]] w fun e w' => e = .returned (.bool true) ∧ Below w.heap.size w w' := by
  have HE : Hid (InCo w u m.v bs m ∧ (∀ x ∈ bs, x.ok) ∧ m.ok) := ⟨⟨h, hm⟩, hok, hmo⟩
  have hu := h.cells
  have hu2 := hm.cells
  clear h hok hm hmo
  obtain ⟨W0, hW0⟩ : ∃ W0 : World, W0 = w.alloc (Obj.cells #[u, m.v, .int .i64 m.cnt] 48) := ⟨_, rfl⟩
  have hb0 : Below w.heap.size w W0 := by rw [hW0]; exact (Below.refl _ _).alloc (Nat.le_refl _) _
  have hz0 : w.heap.size < W0.heap.size := by rw [hW0]; simp
  have HK : Hid (∀ wx, Below W0.heap.size W0 wx → wx.cell? ⟨w.heap.size, 0, none⟩ = some u ∧ wx.cell? ⟨w.heap.size, 1, none⟩ = some m.v ∧ wx.cell? ⟨w.heap.size, 2, none⟩ = some (.int .i64 m.cnt) ∧ InCo wx u m.v bs m) := by
    intro wx hx
    refine ⟨?_, ?_, ?_, (HE.out.1.below hb0).below hx⟩
    all_goals rw [hx.cell (by exact hz0), hW0]
    all_goals simp
  obtain ⟨a0, a1, a2, hI0⟩ := HK.out W0 (Below.refl _ _)
  have HI0 : Hid (InCo W0 u m.v bs m) := hI0
  clear hI0
  go_enter Try.func5, Try.ntmps5
  go_upto_region 2 with fail
  rw [← hW0]
  clear hW0
  go_wp2_with fail
  refine (szCode_any u bs m _ _ HI0.out.bks HE.out.2.1 HI0.out.ins HE.out.2.2 (by omega) (by omega)).mono ?_
  rintro e w1 ⟨x, rfl, hx, hb1⟩
  have hs1 := hb1.size
  by_cases hx0 : x < 0
  · clear hx
    go_wp2_with fail
    go_ret
    exact ⟨rfl, hb0.trans (hb1.mono (by omega))⟩
  have hn : bs.length + totB bs + m.l.length ≤ 1048576 := by omega
  clear hx a0 a1 a2
  obtain ⟨a0, a1, a2, hI1⟩ := HK.out w1 hb1
  have HI1 : Hid (InCo w1 u m.v bs m) := hI1
  clear hI1
  go_wp2_with fail
  refine (toCode_any u bs m _ HI1.out.bks HI1.out.ins hn).mono ?_
  rintro e w2 ⟨g, gm, fs, rfl, hF, hfv, hFm, hb2⟩
  have k02 : Below W0.heap.size W0 w2 := hb1.trans (hb2.mono hs1)
  have HF : Hid (InBks w2 (.slice (some ⟨g, 0, none⟩) bs.length bs.length) fs ∧ InIxs w2 (.slice (some ⟨gm, 0, none⟩) m.l.length m.l.length) m.l ∧ fs.map Bk.vw = bs.map Bk.vw) := ⟨hF, hFm, hfv⟩
  clear hF hfv hFm hb2 a0 a1 a2
  go_wp2_with fail
  refine (validCodeS_core _ fs ⟨.slice (some ⟨gm, 0, none⟩) m.l.length m.l.length, m.cnt, m.l⟩ _ HF.out.1 (ok_vw HF.out.2.2 HE.out.2.1) HF.out.2.1 ⟨HE.out.2.2.cnt, HE.out.2.2.ins⟩).mono ?_
  rintro e w3 ⟨r1, rfl, hr1, hb3⟩
  have HR1 : Hid (r1 = true ↔ GoodC bs m) := by
    show r1 = true ↔ _
    rw [hr1]
    exact goodC_vw HF.out.2.2 rfl
  have k03 : Below W0.heap.size W0 w3 := k02.trans (hb3.mono k02.size)
  clear hr1 hb3
  obtain ⟨a0, a1, a2, hI3⟩ := HK.out w3 k03
  have HI3 : Hid (InCo w3 u m.v bs m) := hI3
  clear hI3
  go_wp2_with fail
  refine (toCode_any u bs m _ HI3.out.bks HI3.out.ins hn).mono ?_
  rintro e w4 ⟨g2, gm2, fs2, rfl, hF2, hfv2, hFm2, hb4⟩
  have s4 := hb4.size
  obtain ⟨W5, hW5⟩ : ∃ W5 : World, W5 = w4.alloc (Obj.cells #[.slice (some ⟨g2, 0, none⟩) bs.length bs.length, .slice (some ⟨gm2, 0, none⟩) m.l.length m.l.length, .int .i64 m.cnt] 56) := ⟨_, rfl⟩
  have hb5 : Below w4.heap.size w4 W5 := by rw [hW5]; exact (Below.refl _ _).alloc (Nat.le_refl _) _
  have hz5 : w4.heap.size < W5.heap.size := by rw [hW5]; simp
  have HK5 : Hid (∀ wx, Below W5.heap.size W5 wx → wx.cell? ⟨w4.heap.size, 0, none⟩ = some (.slice (some ⟨g2, 0, none⟩) bs.length bs.length) ∧ wx.cell? ⟨w4.heap.size, 1, none⟩ = some (.slice (some ⟨gm2, 0, none⟩) m.l.length m.l.length) ∧ wx.cell? ⟨w4.heap.size, 2, none⟩ = some (.int .i64 m.cnt)) := by
    intro wx hx
    refine ⟨?_, ?_, ?_⟩
    all_goals rw [hx.cell (by exact hz5), hW5]
    all_goals simp
  have HF5 : Hid (InCo W5 (.slice (some ⟨g2, 0, none⟩) bs.length bs.length) (.slice (some ⟨gm2, 0, none⟩) m.l.length m.l.length) fs2 m ∧ fs2.map Bk.vw = bs.map Bk.vw) := ⟨InCo.below ⟨hF2, hFm2⟩ hb5, hfv2⟩
  have k04 : Below W0.heap.size W0 w4 := k03.trans (hb4.mono k03.size)
  have k05 : Below W0.heap.size W0 W5 := k04.trans (hb5.mono k04.size)
  clear hF2 hfv2 hFm2 a0 a1 a2
  obtain ⟨x0, x1, x2⟩ := HK5.out W5 (Below.refl _ _)
  go_upto_region 7 with fail
  rw [← hW5]
  clear hW5
  go_wp2_with fail
  refine (validCodeI_core _ fs2 ⟨.slice (some ⟨gm2, 0, none⟩) m.l.length m.l.length, m.cnt, m.l⟩ _ HF5.out.1.bks (ok_vw HF5.out.2 HE.out.2.1) HF5.out.1.ins ⟨HE.out.2.2.cnt, HE.out.2.2.ins⟩).mono ?_
  rintro e w6 ⟨r2, rfl, hr2, hb6⟩
  have hr2' : r2 = true ↔ GoodC bs m := by
    rw [hr2]
    exact goodC_vw HF5.out.2 rfl
  obtain rfl : r2 = r1 := bool_of_iff hr2' HR1.out
  clear hr2 hr2' x0 x1 x2
  have s6 := hb6.size
  have k06 : Below W0.heap.size W0 w6 := k05.trans (hb6.mono k05.size)
  obtain ⟨x0, x1, x2⟩ := HK5.out w6 hb6
  obtain ⟨a0, a1, a2, hI6⟩ := HK.out w6 k06
  have HI6 : Hid (InCo w6 u m.v bs m) := hI6
  have HX6 : Hid (InCo w6 (.slice (some ⟨g2, 0, none⟩) bs.length bs.length) (.slice (some ⟨gm2, 0, none⟩) m.l.length m.l.length) fs2 m) := HF5.out.1.below hb6
  clear hI6
  go_upto_region 10 with fail
  go_cut [26] (fun s wx => s = .bool false ∧ Below w6.heap.size w6 wx)
  case first =>
    have hz6 : w4.heap.size < w6.heap.size := by omega
    have hza : w.heap.size < w6.heap.size := by have := k06.size; omega
    have HV : Hid (∀ gs : List Bk, gs.map Bk.vw = bs.map Bk.vw → fs2.map Bk.vw = gs.map Bk.vw) := fun gs q => by rw [HF5.out.2, q]
    go_region_with (first
      | (go_at_call 22; refine (toCode_in w6 u bs m _ ?hB HI6 hn).mono ?_; (case hB => (repeat (first | assumption | exact Below.refl _ _ | refine Below.drew ?_))); rintro e w' ⟨g3, gm3, fs3, rfl, HG3, hbb, hcc⟩)
      | (go_at_call 24; refine (eqCode_in w6 _ _ _ _ fs2 fs3 m _ ?hB HX6 HG3.out.1 (HV.out fs3 HG3.out.2)).mono ?_; (case hB => (repeat (first | assumption | exact Below.refl _ _ | refine Below.drew ?_))); rintro e w' ⟨rfl, hbb2⟩))
    all_goals go_wp2_with fail
    all_goals go_meet
    all_goals exact ⟨rfl, by assumption⟩
  case rest =>
  obtain ⟨rfl, h3⟩ := hcut
  go_wp2_with fail
  go_ret
  exact ⟨rfl, (hb0.trans (k06.mono (by omega))).trans (h3.mono (by have := k06.size; omega))⟩

set_option maxRecDepth 100000 in
theorem lifted (os : Os) (started : os.Started) (H : Type) (enc : TypeId × Value → H) :
    ReturnsInHanded {} Try.checked os 5 .any (Rows.fnExactValidCodeSpec.pre6 enc Try.prog Try.f5 Rows.fnExactValidCodeRow.domain false) (Rows.fnExactValidCodeSpec.post enc Try.prog Try.f5 false true false false) := by
  refine returnsInHanded_of_change (C := Try.checked) own started (by kernel_rfl) Try.func5
    (ChangeSpec.witness6 (enc := enc) (C := Try.checked) false ⟨#[], #[.agg #[.slice none 0 0, .slice none 0 0, .int .i64 0]], []⟩ 8 (by kernel_rfl) (by kernel_rfl) (by kernel_rfl) (by kernel_rfl)) ?_
  intro W base args ds gs before hval0 hW hcnd _
  have hval : ∀ (j : Nat) t v, Try.f5.params[j]? = some t → args[j]? = some v → Value.okWide Try.prog W .any base t v := hval0
  have hW' := hW
  obtain ⟨p, q, hA0, hV, rfl, hfz, hnd⟩ := hW
  have hA : DataW.TrodAll enc Try.prog W 0 (fun _ => true) true Try.f5.params.toList args.toList ds p := hA0
  rw [Try.params5] at hA hval
  obtain ⟨v0, vs0, d0, ds0, p0, q0, hargs, rfl, rfl, h0, r0⟩ := trodAll_cons hA
  obtain ⟨rfl, rfl, rfl⟩ := trodAll_nil r0
  obtain rfl : args = #[v0] := by cases args; simp_all
  obtain ⟨rfl, rfl⟩ := trodVars_none hV
  have k0 := h0
  have lt0 : ∀ x ∈ p0, x.block < W.heap.size := by obtain ⟨m, hm⟩ := k0; exact DataW.trod_lt m _ _ _ hm
  obtain ⟨u, bs, m, rfl, hin, ok0, hin1, ok1⟩ := open_code (hval 0 48 v0 rfl rfl) h0
  clear hA0 hval0
  refine (walk u bs m W hin ok0 hin1 ok1).mono fun e W' ⟨he, bel⟩ => ?_
  subst he
  exact ⟨_, rfl, _, _, _, [], _, [], hW', trodAll_mk1 (shut_bool Try.underlying4 _), (trodAll_cons_mk (Below.trod laidOut (by kernel_rfl) (of_decide_eq_true (by kernel_rfl)) k0 bel lt0) trodAll_mk0), rfl, bel.frame _, fun h => by cases h⟩

theorem over : Rows.fnExactValidCodeRow.holds Try.pinned (OpenSpec.ofChange Rows.fnExactValidCodeSpec) :=
  OpenClaim.holds_of_wide 5 Try.f5 rfl rfl rfl rfl rfl rfl rfl ⟨rfl, rfl, rfl, rfl, rfl⟩ rfl rfl rfl rfl rfl (by kernel_rfl) Try.func5 (by kernel_rfl)
    (of_decide_eq_true (by kernel_rfl)) (by unfold Func.isWrapper; first | (rw [if_pos (by decide +kernel)]; kernel_rfl) | (rw [if_neg (by decide +kernel)]; exact ⟨rfl, rfl⟩))
    (fun os started H enc _ => lifted os started H enc)

end Go.Proofs.Ytlgeffinhbodeae.exValidCode
namespace Go.Proofs.Ytlgeffinhbodeae
theorem exactValidCode_holds : Rows.FnExactValidCodeSaid := exValidCode.over
#print axioms exactValidCode_holds
end Go.Proofs.Ytlgeffinhbodeae

