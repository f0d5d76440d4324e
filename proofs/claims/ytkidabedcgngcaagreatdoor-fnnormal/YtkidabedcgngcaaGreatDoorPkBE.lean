import Derived.Test.YtkidabedcgngcaaGreatDoorTie
import Derived.Test.YtkidabedcgngcaaGreatDoorCards
import Derived.ProofKit
import Derived.LaidMore
import Derived.OpenShut
import Derived.Lib.LaidTab
import Derived.Stop.Joined
import Derived.Test.YtkidabedcgngcaaGreatDoorPkBD
import Derived.Test.YtkidabedcgngcaaGreatDoorPkBC
import Derived.Test.YtkidabedcgngcaaGreatDoorPkAJ
import Derived.Test.YtkidabedcgngcaaGreatDoorQNkM
/-
  impl.Normal; what both hand back.
-/
namespace Go.Proofs.YtkidabedcgngcaaGreatDoor
open Go.ChangeShapes Go.WideShapes Go.ChangeAt Go.RowKit Go.Deep
set_option linter.unusedVariables false
set_option linter.unusedSimpArgs false
set_option maxRecDepth 100000

/-- The nodes that Normal hands back. -/
def NrmOf (xs R : List Nd) : Prop := (¬ GoodF xs ∧ R = []) ∨ (GoodF xs ∧ NormF xs R)
theorem nrmOf_one {xs R S : List Nd} (h : NrmOf xs R) (k : NrmOf xs S) : R = S := by
  rcases h with ⟨h1, rfl⟩ | ⟨h1, h2⟩
  · rcases k with ⟨_, rfl⟩ | ⟨k1, _⟩
    · rfl
    · exact absurd k1 h1
  · rcases k with ⟨k1, _⟩ | ⟨_, k2⟩
    · exact absurd h1 k1
    · exact normF_one h2 k2
theorem nrmOf_len {xs R : List Nd} (h : NrmOf xs R) : R.length ≤ 200 := by
  rcases h with ⟨_, rfl⟩ | ⟨h1, h2⟩
  · simp
  · obtain ⟨y, hy, _, hl, _⟩ := goodF_norm h1
    rw [normF_one h2 hy]; exact hl
def NrmU (xs : List Nd) (w : World) (r : Ending) (w' : World) : Prop := ∃ (a : Option Addr) (n c : Nat) (R : List Nd), r = .returned (.agg #[.slice a n c]) ∧ OwnUN w' w.heap.size (.slice a n c) R ∧ NrmOf xs R ∧ Below w.heap.size w w'
theorem OwnNd.up {w : World} {base base' g cap : Nat} {es : List Nd} (h : OwnNd w base g cap es) (hb : base' ≤ g) : OwnNd w base' g cap es := by
  refine ⟨h.1, ?_⟩
  rcases h.2 with hn | ⟨g', cap', cur, hv, h1, rest⟩
  · exact .inl hn
  · cases hv
    exact .inr ⟨_, _, cur, rfl, hb, rest⟩
set_option maxHeartbeats 4000000 in
theorem implNormal_win {w : World} {g o cp : Nat} {xs : List Nd} (h : WdN w g o cp xs) (hok : ∀ e ∈ xs, e.ok) : Calls Tryz.prog 18 #[.agg #[.slice (some ⟨g, o, none⟩) xs.length cp]] w (NrmU xs w) := by
  have HO : Hid (WdN w g o cp xs ∧ ∀ e ∈ xs, e.ok) := ⟨h, hok⟩
  have hgl := h.lt
  have hcp := h.caps
  obtain ⟨W0, hW0⟩ : ∃ W0 : World, W0 = (w.alloc (Obj.cells #[.slice (some ⟨g, o, none⟩) xs.length cp] 32)).alloc (Obj.cells #[.slice none 0 0] 32) := ⟨_, rfl⟩
  have hb0 : Below w.heap.size w W0 := by rw [hW0]; exact ((Below.refl _ _).alloc (Nat.le_refl _) _).alloc (by simp) _
  have hz0 : W0.heap.size = w.heap.size + 1 + 1 := by rw [hW0]; simp
  have HK : Hid (∀ wx, Below W0.heap.size W0 wx → wx.cell? ⟨w.heap.size, 0, none⟩ = some (.slice (some ⟨g, o, none⟩) xs.length cp) ∧ wx.cell? ⟨w.heap.size + 1, 0, none⟩ = some (.slice none 0 0) ∧ wx.frozen? ⟨w.heap.size + 1, 0, none⟩ = false ∧ WdN wx g o cp xs) := by
    intro wx hx
    refine ⟨?_, ?_, ?_, (HO.out.1.below hb0 hgl).below hx (by omega)⟩
    · rw [hx.cell (p := ⟨w.heap.size, 0, none⟩) (by show w.heap.size < _; omega), hW0]; simp [go_sem]
    · rw [hx.cell (p := ⟨w.heap.size + 1, 0, none⟩) (by show w.heap.size + 1 < _; omega), hW0]; simp [go_sem]
    · rw [hx.frozen (p := ⟨w.heap.size + 1, 0, none⟩) (by show w.heap.size + 1 < _; omega), hW0]; simp [go_sem]
  clear h hok
  obtain ⟨c0, _, _, hO0⟩ := HK.out W0 (Below.refl _ _)
  have HO0 : Hid (WdN W0 g o cp xs) := hO0
  clear hO0
  go_enter Tryz.func18, Tryz.ntmps18
  go_upto_region 1 with fail
  rw [← hW0]
  clear hW0
  go_wp2_with fail
  refine (implFilter_win HO0.out HO.out.2).mono ?_
  rintro e w1 ⟨r, rfl, hr, hb1⟩
  have HR : Hid (r = true ↔ GoodF xs) := hr
  have s1 := hb1.size
  have k1 : Below w.heap.size w w1 := hb0.trans (hb1.mono (by omega))
  clear hr c0
  obtain ⟨c0, c1, c2, hO1⟩ := HK.out w1 hb1
  have HO1 : Hid (WdN w1 g o cp xs) := hO1
  clear hO1
  cases r
  case false =>
    have HG : Hid (NrmU xs w (.returned (.agg #[.slice none 0 0])) (w1.setCell ⟨w.heap.size + 1, 0, none⟩ (.slice none 0 0))) := ⟨_, _, _, [], rfl, .inl ⟨rfl, rfl⟩, .inl ⟨fun q => Bool.noConfusion (HR.out.2 q), rfl⟩, k1.setCell (by show _ ≤ w.heap.size + 1; omega) _⟩
    go_wp2_with fail
    exact bodyPost_ret (v := .agg #[.slice none 0 0]) (by simp [results, Tryz.results18, go_sem, c1]) rfl HG.out
  case true =>
  have hG : GoodF xs := HR.out.1 rfl
  obtain ⟨y, hy, hne, hyl, _⟩ := goodF_norm hG
  have HY : Hid (NormF xs y ∧ GoodF xs) := ⟨hy, hG⟩
  have HC : Hid (Calls Tryz.prog 45 #[.slice (some ⟨g, o, none⟩) xs.length cp, .func (Fn.func 46) #[] #[]] w1 (FnPost xs w1)) := foldNorm_win HO1.out.at (by omega) (goodF_all hG) hG.1
  clear hy hne hG c1 c2 hyl
  go_wp2_with fail
  refine HC.out.mono ?_
  rintro e w3 ⟨hb3, (⟨u, y', hf, rfl, hopd⟩ | ⟨hf, rfl⟩)⟩
  case inr =>
    exfalso
    refine hf y ?_
    have h9 := TrV.fold _ HY.out.1 []
    simpa using h9
  obtain rfl : y' = y := by
    have h9 := TrV.fold _ HY.out.1 []
    rw [hf] at h9
    simpa using h9
  obtain ⟨vg, vc, rfl, hv⟩ := hopd.own
  have hvb : w1.heap.size ≤ vg := hopd.blk _ _ _ rfl
  have s3 := hb3.size
  have kw3 : Below W0.heap.size W0 w3 := hb1.trans (hb3.mono s1)
  have HG : Hid (NrmU xs w (.returned (.agg #[.slice (some ⟨vg, 0, none⟩) y'.length vc])) (w3.setCell ⟨w.heap.size + 1, 0, none⟩ (.slice (some ⟨vg, 0, none⟩) y'.length vc))) := by
    refine ⟨_, _, _, y', rfl, .inr ⟨vg, vc, rfl, ?_⟩, .inr ⟨HY.out.2, HY.out.1⟩, (k1.trans (hb3.mono k1.size)).setCell (by show _ ≤ w.heap.size + 1; omega) _⟩
    have h8 : OwnNd w3 (w.heap.size + 1 + 1) vg vc y' := hv.up (by omega)
    exact OwnNd.mono (ownsRow_setCell_below h8 (by show w.heap.size + 1 < _; omega) _) (by omega)
  clear hopd hv hf
  obtain ⟨c0, c1, c2, _⟩ := HK.out w3 kw3
  go_wp2_with fail
  exact bodyPost_ret (v := .agg #[.slice (some ⟨vg, 0, none⟩) y'.length vc]) (by simp [results, Tryz.results18, go_sem, c1]) rfl (by simpa using HG.out)
theorem implNormal_core {w : World} {base g cp : Nat} {xs : List Nd} (h : OwnNd w base g cp xs) (hok : ∀ e ∈ xs, e.ok) : Calls Tryz.prog 18 #[.agg #[.slice (some ⟨g, 0, none⟩) xs.length cp]] w (NrmU xs w) := implNormal_win h.wd hok
end Go.Proofs.YtkidabedcgngcaaGreatDoor

/-
  The walk of the law FnNormal.
-/
namespace Go.Proofs.YtkidabedcgngcaaGreatDoor
open Go.ChangeShapes Go.WideShapes Go.ChangeAt Go.RowKit Go.Deep
set_option linter.unusedVariables false
set_option linter.unusedSimpArgs false
set_option maxRecDepth 100000

/-- What stands when the law has drawn: the filter in its variable, its normal form in another, the cells. -/
structure NwI (w0 : World) (tf tn b o c nf : Nat) (an : Option Addr) (nn cn : Nat) (gc cc nc : Nat) (ys R : List Nd) (es : List Ent) (w : World) : Prop where
  bf : BoxAt w w0.heap.size 32 1 tf [.slice (some ⟨b, o, none⟩) nf c]
  bn : BoxAt w w0.heap.size 32 1 tn [.slice an nn cn]
  wd : WdN w b o c ys
  un : OwnUN w w0.heap.size (.slice an nn cn) R
  ce : OwnC w w0.heap.size gc cc es
  tab : TabD w
  below : Below w0.heap.size w0 w
  lf : nf = ys.length
  lc : nc = es.length
theorem NwI.up {w0 : World} {tf tn b o c nf : Nat} {an : Option Addr} {nn cn gc cc nc : Nat} {ys R : List Nd} {es : List Ent} {w w' : World} (h : NwI w0 tf tn b o c nf an nn cn gc cc nc ys R es w) (hb : Below w.heap.size w w') : NwI w0 tf tn b o c nf an nn cn gc cc nc ys R es w' :=
  ⟨h.bf.below hb, h.bn.below hb, h.wd.below hb h.wd.lt, h.un.below hb, h.ce.below hb h.ce.lt.2, h.tab.chg (S := fun _ => False) (Chg.of_below hb) (fun q => q), h.below.trans (hb.mono h.below.size), h.lf, h.lc⟩
set_option maxHeartbeats 16000000 in
theorem fnNormal_walk (v0 v1 : Value) (n0 n1 : Nat) (w : World) (h0 : BytesIn w v0 n0) (h1 : BytesIn w v1 n1) (hg : TabD w) : Calls Tryz.prog 4 #[v0, v1] w fun e w' => e = .returned (.bool true) ∧ Below w.heap.size w w' := by
  obtain ⟨a0, cap0, hv0⟩ := h0.slice
  subst hv0
  obtain ⟨a1, cap1, hv1⟩ := h1.slice
  subst hv1
  have HI : Hid (BytesIn w (.slice a0 n0 cap0) n0 ∧ BytesIn w (.slice a1 n1 cap1) n1 ∧ TabD w) := ⟨h0, h1, hg⟩
  have hr0 := h0.1
  have hr1 := h1.1
  unfold maxLen at hr0 hr1
  clear h0 h1 hg
  by_cases hbig : 1048576 < n0
  · have z : (1048576 : Int) < (n0 : Int) := by omega
    go_enter Tryz.func4, Tryz.ntmps4
    go_wp2_with fail
    go_ret
    exact ⟨rfl, Below.refl _ _⟩
  have z : ¬ (1048576 : Int) < (n0 : Int) := by omega
  by_cases hbig1 : 1048576 < n1
  · have z1 : (1048576 : Int) < (n1 : Int) := by omega
    go_enter Tryz.func4, Tryz.ntmps4
    go_wp2_with fail
    go_ret
    exact ⟨rfl, Below.refl _ _⟩
  have z1 : ¬ (1048576 : Int) < (n1 : Int) := by omega
  have h10 : n0 ≤ 1048576 := by omega
  have h11 : n1 ≤ 1048576 := by omega
  go_enter Tryz.func4, Tryz.ntmps4
  go_wp2_with fail
  refine (drawNormal_core _ n0 _ (HI.out.1.code h10)).mono ?_
  rintro e w1 ⟨b, o, c, ys, rfl, hyl, H1⟩
  have hb1 : Below w.heap.size w w1 := H1.out.2
  obtain ⟨W1, hW1⟩ : ∃ W1 : World, W1 = w1.alloc (Obj.cells #[.slice (some ⟨b, o, none⟩) ys.length c] 32) := ⟨_, rfl⟩
  obtain ⟨tf, htf⟩ : ∃ tf, tf = w1.heap.size := ⟨_, rfl⟩
  obtain ⟨nf, hnf⟩ : ∃ nf, nf = ys.length := ⟨_, rfl⟩
  rw [← hnf] at hW1 hyl ⊢
  have s1 := hb1.size
  have kW1 : Below w1.heap.size w1 W1 := by rw [hW1]; exact (Below.refl _ _).alloc (Nat.le_refl _) _
  have hB1 : BoxAt W1 w.heap.size 32 1 tf [.slice (some ⟨b, o, none⟩) nf c] := by
    rw [hW1, htf]; exact boxAt_new w1 _ s1 rfl
  have kw1 : Below w.heap.size w W1 := hb1.trans (kW1.mono s1)
  have HW1 : Hid (BoxAt W1 w.heap.size 32 1 tf [.slice (some ⟨b, o, none⟩) nf c] ∧ WdN W1 b o c ys ∧ (∀ e ∈ ys, e.ok) ∧ nf = ys.length ∧ Below w.heap.size w W1) := by
    have h9 := H1.out.1
    exact ⟨hB1, (WdN.mk h9.2.1 h9.2.2.1.2 h9.2.2.2).below kW1 h9.2.2.1.2, h9.1, hnf, kw1⟩
  clear H1 hb1 hnf
  go_upto_region 4 with fail
  rw [← hW1, ← htf]
  clear hW1 htf s1 kW1 hB1
  go_wp2_with fail
  refine (drawMeaning_core _ n1 _ ((HI.out.2.1.code h11).up kw1)).mono ?_
  rintro e w2 ⟨b2, o2, c2, ys2, gc, cc, es, rfl, _, hel, H2⟩
  have hb2 : Below W1.heap.size W1 w2 := H2.out.2.2
  obtain ⟨W2, hW2⟩ : ∃ W2 : World, W2 = w2.alloc (Obj.cells #[.slice (some ⟨b2, o2, none⟩) ys2.length c2] 32) := ⟨_, rfl⟩
  have s2 := hb2.size
  have sW1 := kw1.size
  have kW2 : Below w2.heap.size w2 W2 := by rw [hW2]; exact (Below.refl _ _).alloc (Nat.le_refl _) _
  have k2 : Below W1.heap.size W1 W2 := hb2.trans (kW2.mono s2)
  obtain ⟨nc, hnc⟩ : ∃ nc, nc = es.length := ⟨_, rfl⟩
  rw [← hnc] at hel ⊢
  have HW2 : Hid (BoxAt W2 w.heap.size 32 1 tf [.slice (some ⟨b, o, none⟩) nf c] ∧ WdN W2 b o c ys ∧ OwnC W2 w.heap.size gc cc es ∧ (∀ e ∈ es, e.ok) ∧ (∀ e ∈ es, e.kind = 0) ∧ nc = es.length ∧ Below w.heap.size w W2) := by
    have h9 := H2.out.2.1
    exact ⟨HW1.out.1.below k2, HW1.out.2.1.below k2 HW1.out.2.1.lt, (h9.1.mono sW1).below kW2 h9.1.lt.2, h9.2.1, h9.2.2, hnc, HW1.out.2.2.2.2.trans (k2.mono sW1)⟩
  clear H2 hb2 hnc
  have c1 := HW2.out.1.cell (j := 0) rfl
  go_upto_region 5 with fail
  rw [← hW2]
  clear hW2 s2 kW2 k2 sW1 kw1
  have HNrm : Hid (Calls Tryz.prog 18 #[.agg #[.slice (some ⟨b, o, none⟩) nf c]] W2 (NrmU ys W2)) := by
    rw [HW1.out.2.2.2.1]; exact implNormal_win HW2.out.2.1 HW1.out.2.2.1
  go_wp2_with fail
  refine HNrm.out.mono ?_
  rintro e w3 ⟨an, nn, cn, R, rfl, hU3, hR3, hb3⟩
  obtain ⟨W3, hW3⟩ : ∃ W3 : World, W3 = w3.alloc (Obj.cells #[.slice an nn cn] 32) := ⟨_, rfl⟩
  obtain ⟨tn, htn⟩ : ∃ tn, tn = w3.heap.size := ⟨_, rfl⟩
  have HW3 : Hid (NwI w tf tn b o c nf an nn cn gc cc nc ys R es W3) := by
    have s2 := HW2.out.2.2.2.2.2.2.size
    have s3 := hb3.size
    have kW3 : Below w3.heap.size w3 W3 := by rw [hW3]; exact (Below.refl _ _).alloc (Nat.le_refl _) _
    have k3 : Below W2.heap.size W2 W3 := hb3.trans (kW3.mono s3)
    have hBn : BoxAt W3 w.heap.size 32 1 tn [.slice an nn cn] := by rw [hW3, htn]; exact boxAt_new w3 _ (by omega) rfl
    have kk : Below w.heap.size w W3 := HW2.out.2.2.2.2.2.2.trans (k3.mono s2)
    refine ⟨HW2.out.1.below k3, hBn, HW2.out.2.1.below k3 HW2.out.2.1.lt, ?_, HW2.out.2.2.1.below k3 HW2.out.2.2.1.lt.2, HI.out.2.2.chg (S := fun _ => False) (Chg.of_below kk) (fun q => q), kk, HW1.out.2.2.2.1, HW2.out.2.2.2.2.2.1⟩
    have h9 := hU3.below kW3
    rcases h9 with h9 | ⟨g', cp', h9, h10⟩
    · exact .inl h9
    · exact .inr ⟨g', cp', h9, h10.mono s2⟩
  have HR : Hid (NrmOf ys R ∧ (∀ e ∈ ys, e.ok) ∧ (∀ e ∈ es, e.ok) ∧ (∀ e ∈ es, e.kind = 0) ∧ nc ≤ 100) := ⟨hR3, HW1.out.2.2.1, HW2.out.2.2.2.1, HW2.out.2.2.2.2.1, hel⟩
  clear hU3 hR3 hb3 HNrm c1 hel
  have c1 := HW3.out.bf.cell (j := 0) rfl
  go_upto_region 6 with fail
  rw [← hW3, ← htn]
  clear hW3 htn HW1 HW2
  have HVf : Hid (Calls Tryz.prog 19 #[.agg #[.slice (some ⟨b, o, none⟩) nf c]] W3 (FltPost ys W3)) := by
    rw [HW3.out.lf]; exact specFilter_win HW3.out.wd HR.out.2.1
  go_wp2_with fail
  refine HVf.out.mono ?_
  rintro e w4 ⟨r, rfl, hr, hb4⟩
  have HW4 : Hid (NwI w tf tn b o c nf an nn cn gc cc nc ys R es w4) := HW3.out.up hb4
  have HG : Hid (r = true ↔ GoodF ys) := hr
  clear hr hb4 c1 HVf HW3
  cases r
  case false =>
    have hno : ¬ GoodF ys := fun q => Bool.noConfusion (HG.out.2 q)
    have hRn : R = [] := by
      rcases HR.out.1 with q | q
      · exact q.2
      · exact absurd q.1 hno
    have hnn : nn = 0 := by
      rcases HW4.out.un with ⟨q, _⟩ | ⟨g', cp', q, _⟩
      · cases q; rfl
      · rw [hRn] at q; cases q; rfl
    subst hnn
    have c2 := HW4.out.bn.cell (j := 0) rfl
    have HB4 : Hid (Below w.heap.size w w4) := HW4.out.below
    clear hno hRn
    go_wp2_with fail
    go_ret
    exact ⟨rfl, HB4.out⟩
  case true =>
  have hgf : GoodF ys := HG.out.1 (by first | rfl | trivial)
  have hNf : NormF ys R := by
    rcases HR.out.1 with q | q
    · exact absurd hgf q.1
    · exact q.2
  obtain ⟨y, hy, hyne, hyl2, hym⟩ := goodF_norm hgf
  obtain rfl := normF_one hNf hy
  obtain ⟨hgR, hlR, hRR, hME⟩ := norm_good hgf hNf
  have hok9 : ∀ e ∈ R, e.ok := fun e he => HR.out.2.1 e (hym e he)
  obtain ⟨g, cp, hq, hOR⟩ : ∃ g cp, Value.slice an nn cn = .slice (some ⟨g, 0, none⟩) R.length cp ∧ OwnNd w4 w.heap.size g cp R := by
    rcases HW4.out.un with ⟨_, q⟩ | q
    · exact absurd q hyne
    · exact q
  have hlen : nn = R.length := by cases hq; rfl
  have hle2 : nn ≤ nf := by rw [hlen, HW4.out.lf]; exact hlR
  have hn200 : nn ≤ 200 := by rw [hlen]; exact hyl2
  obtain ⟨rfl, rfl⟩ : an = some ⟨g, 0, none⟩ ∧ cn = cp := by cases hq; exact ⟨rfl, rfl⟩
  have HM : Hid (GoodF R ∧ NormF R R ∧ (∀ es R', (∀ e ∈ es, e.kind = 0) → (∀ e ∈ es, e.ok) → MeaOf ys es R' → MeaOf R es R') ∧ (∀ e ∈ R, e.ok) ∧ nn = R.length ∧ (∀ e ∈ ys, e.ok) ∧ (∀ e ∈ es, e.ok) ∧ (∀ e ∈ es, e.kind = 0) ∧ nc ≤ 100 ∧ R ≠ []) := ⟨hgR, hRR, hME, hok9, hlen, HR.out.2.1, HR.out.2.2.1, HR.out.2.2.2.1, HR.out.2.2.2.2, hyne⟩
  have HN : Hid (∀ wx, Below w4.heap.size w4 wx → NwI w tf tn b o c nf (some ⟨g, 0, none⟩) nn cn gc cc nc ys R es wx ∧ OwnNd wx w.heap.size g cn R) := fun wx hx => ⟨HW4.out.up hx, hOR.below hx hOR.lt.2⟩
  clear hgf hNf hy hyne hyl2 hym hgR hlR hRR hME hok9 hq hOR hlen HG HR
  have zl : ¬ (nf : Int) < (nn : Int) := by omega
  have hdl : decide ((nf : Int) < (nn : Int)) = false := by simp [zl]
  go_upto_region 8 with fail
  have HBd : Hid (Below w4.heap.size w4 w4.drew) := (Below.refl _ _).drew
  have hS0 : (fun w' : World => w'.cell? ⟨tn, 0, none⟩ = some (.slice (some ⟨g, 0, none⟩) nn cn) ∧ w'.cell? ⟨tf, 0, none⟩ = some (.slice (some ⟨b, o, none⟩) nf c)) w4.drew := ⟨((HN.out w4.drew HBd.out).1.bn.cell (j := 0) rfl), ((HN.out w4.drew HBd.out).1.bf.cell (j := 0) rfl)⟩
  have HVn : Hid (Calls Tryz.prog 19 #[.agg #[.slice (some ⟨g, 0, none⟩) nn cn]] w4.drew (FltPost R w4.drew)) := by
    rw [HM.out.2.2.2.2.1]; exact specFilter_win (HN.out _ HBd.out).2.wd HM.out.2.2.2.1
  refine wp_region_T 99 (fun w' : World => w'.cell? ⟨tn, 0, none⟩ = some (.slice (some ⟨g, 0, none⟩) nn cn) ∧ w'.cell? ⟨tf, 0, none⟩ = some (.slice (some ⟨b, o, none⟩) nf c)) (by kernel_rfl) ?_
  refine anyT_takeN (i := 0) (v := ?vfw1x0) rfl (by kernel_rfl) (by kernel_rfl) (by kernel_rfl) (by rfl) (fun _ _ _ h => h) (Or.inl ⟨by rfl, ?yfw1x0⟩) hS0 ?_
  case yfw1x0 => (intro wz hSw; obtain ⟨hz0, hz1⟩ := hSw; go_simp; (try with_reducible rfl))
  try simp only [Act.put, List.getElem_toArray, List.getElem_cons_zero, List.getElem_cons_succ, List.setIfInBounds_toArray, List.set_cons_zero, List.set_cons_succ]
  refine anyT_one (i := 1) (by kernel_rfl) rfl (fun K hK => ?_)
  go_simp
  go_at_call 19
  refine (HVn.out).mono ?_
  rintro e w5 ⟨r5, rfl, hr5, hb5⟩
  obtain rfl : r5 = true := hr5.2 HM.out.1
  have HB5 : Hid (Below w4.heap.size w4 w5) := HBd.out.trans (hb5.mono HBd.out.size)
  have hS5 : (fun w' : World => w'.cell? ⟨tn, 0, none⟩ = some (.slice (some ⟨g, 0, none⟩) nn cn) ∧ w'.cell? ⟨tf, 0, none⟩ = some (.slice (some ⟨b, o, none⟩) nf c)) w5 := ⟨((HN.out w5 HB5.out).1.bn.cell (j := 0) rfl), ((HN.out w5 HB5.out).1.bf.cell (j := 0) rfl)⟩
  clear hr5 hb5 HVn hS0
  refine hK.out _ _ (.inr hS5) ?_
  clear hK
  try simp only [Act.put, List.getElem_toArray, List.getElem_cons_zero, List.getElem_cons_succ, List.setIfInBounds_toArray, List.set_cons_zero, List.set_cons_succ]
  refine anyT_takeN (i := 2) (v := .bool false) rfl (by kernel_rfl) (by kernel_rfl) (by kernel_rfl) (by rfl) (fun _ _ _ h => h) (Or.inl ⟨by rfl, ?yfw2x2⟩) hS5 ?_
  case yfw2x2 => (intro wz hSw; obtain ⟨hz0, hz1⟩ := hSw; go_simp; (try with_reducible rfl))
  try simp only [Act.put, List.getElem_toArray, List.getElem_cons_zero, List.getElem_cons_succ, List.setIfInBounds_toArray, List.set_cons_zero, List.set_cons_succ]
  refine anyT_takeN (i := 3) (v := ?vfw3x3) rfl (by kernel_rfl) (by kernel_rfl) (by kernel_rfl) (by rfl) (fun _ _ _ h => h) (Or.inl ⟨by rfl, ?yfw3x3⟩) hS5 ?_
  case yfw3x3 => (intro wz hSw; obtain ⟨hz0, hz1⟩ := hSw; go_simp; (try with_reducible rfl))
  try simp only [Act.put, List.getElem_toArray, List.getElem_cons_zero, List.getElem_cons_succ, List.setIfInBounds_toArray, List.set_cons_zero, List.set_cons_succ]
  refine anyT_takeN (i := 4) (v := ?vfw4x4) rfl (by kernel_rfl) (by kernel_rfl) (by kernel_rfl) (by rfl) (fun _ _ _ h => h) (Or.inl ⟨by rfl, ?yfw4x4⟩) hS5 ?_
  case yfw4x4 => (intro wz hSw; obtain ⟨hz0, hz1⟩ := hSw; go_simp; (try with_reducible rfl))
  try simp only [Act.put, List.getElem_toArray, List.getElem_cons_zero, List.getElem_cons_succ, List.setIfInBounds_toArray, List.set_cons_zero, List.set_cons_succ]
  refine anyT_takeN (i := 5) (v := ?vfw5x5) rfl (by kernel_rfl) (by kernel_rfl) (by kernel_rfl) (by rfl) (fun _ _ _ h => h) (Or.inl ⟨by rfl, ?yfw5x5⟩) hS5 ?_
  case yfw5x5 => (intro wz hSw; obtain ⟨hz0, hz1⟩ := hSw; go_simp; (try with_reducible rfl))
  try simp only [Act.put, List.getElem_toArray, List.getElem_cons_zero, List.getElem_cons_succ, List.setIfInBounds_toArray, List.set_cons_zero, List.set_cons_succ]
  refine anyT_takeN (i := 6) (v := ?vfw6x6) rfl (by kernel_rfl) (by kernel_rfl) (by kernel_rfl) (by rfl) (fun _ _ _ h => h) (Or.inl ⟨by rfl, ?yfw6x6⟩) hS5 ?_
  case yfw6x6 => (intro wz hSw; obtain ⟨hz0, hz1⟩ := hSw; go_simp; (try with_reducible rfl))
  try simp only [Act.put, List.getElem_toArray, List.getElem_cons_zero, List.getElem_cons_succ, List.setIfInBounds_toArray, List.set_cons_zero, List.set_cons_succ]
  refine anyT_takeN (i := 7) (v := ?vfw7x7) rfl (by kernel_rfl) (by kernel_rfl) (by kernel_rfl) (by rfl) (fun _ _ _ h => h) (Or.inl ⟨by rfl, ?yfw7x7⟩) hS5 ?_
  case yfw7x7 => (intro wz hSw; obtain ⟨hz0, hz1⟩ := hSw; go_simp; (try with_reducible rfl))
  try simp only [Act.put, List.getElem_toArray, List.getElem_cons_zero, List.getElem_cons_succ, List.setIfInBounds_toArray, List.set_cons_zero, List.set_cons_succ]
  refine anyT_takeN (i := 8) (v := ?vfw8x8) rfl (by kernel_rfl) (by kernel_rfl) (by kernel_rfl) (by rfl) (fun _ _ _ h => h) (Or.inl ⟨by rfl, ?yfw8x8⟩) hS5 ?_
  case yfw8x8 => (intro wz hSw; obtain ⟨hz0, hz1⟩ := hSw; go_simp; (try with_reducible rfl))
  try simp only [Act.put, List.getElem_toArray, List.getElem_cons_zero, List.getElem_cons_succ, List.setIfInBounds_toArray, List.set_cons_zero, List.set_cons_succ]
  refine anyT_takeN (i := 9) (v := ?vfw9x9) rfl (by kernel_rfl) (by kernel_rfl) (by kernel_rfl) (by rfl) (fun _ _ _ h => h) (Or.inl ⟨by rfl, ?yfw9x9⟩) hS5 ?_
  case yfw9x9 => (intro wz hSw; obtain ⟨hz0, hz1⟩ := hSw; go_simp; (try with_reducible rfl))
  try simp only [Act.put, List.getElem_toArray, List.getElem_cons_zero, List.getElem_cons_succ, List.setIfInBounds_toArray, List.set_cons_zero, List.set_cons_succ]
  refine anyT_takeN (i := 10) (v := .bool false) rfl (by kernel_rfl) (by kernel_rfl) (by kernel_rfl) (by rfl) (fun _ _ _ h => h) (Or.inl ⟨by rfl, ?yfw10x10⟩) hS5 ?_
  case yfw10x10 => (intro wz hSw; obtain ⟨hz0, hz1⟩ := hSw; go_simp; (try simp only [hdl]); (try simp); (try with_reducible rfl))
  try simp only [Act.put, List.getElem_toArray, List.getElem_cons_zero, List.getElem_cons_succ, List.setIfInBounds_toArray, List.set_cons_zero, List.set_cons_succ]
  refine anyT_takeN (i := 11) (v := ?vfw11x11) rfl (by kernel_rfl) (by kernel_rfl) (by kernel_rfl) (by rfl) (fun _ _ _ h => h) (Or.inl ⟨by rfl, ?yfw11x11⟩) hS5 ?_
  case yfw11x11 => (intro wz hSw; obtain ⟨hz0, hz1⟩ := hSw; go_simp; (try with_reducible rfl))
  try simp only [Act.put, List.getElem_toArray, List.getElem_cons_zero, List.getElem_cons_succ, List.setIfInBounds_toArray, List.set_cons_zero, List.set_cons_succ]
  refine anyT_takeN (i := 12) (v := ?vfw12x12) rfl (by kernel_rfl) (by kernel_rfl) (by kernel_rfl) (by rfl) (fun _ _ _ h => h) (Or.inl ⟨by rfl, ?yfw12x12⟩) hS5 ?_
  case yfw12x12 => (intro wz hSw; obtain ⟨hz0, hz1⟩ := hSw; go_simp; (try with_reducible rfl))
  try simp only [Act.put, List.getElem_toArray, List.getElem_cons_zero, List.getElem_cons_succ, List.setIfInBounds_toArray, List.set_cons_zero, List.set_cons_succ]
  refine anyT_takeN (i := 13) (v := ?vfw13x13) rfl (by kernel_rfl) (by kernel_rfl) (by kernel_rfl) (by rfl) (fun _ _ _ h => h) (Or.inl ⟨by rfl, ?yfw13x13⟩) hS5 ?_
  case yfw13x13 => (intro wz hSw; obtain ⟨hz0, hz1⟩ := hSw; go_simp; (try with_reducible rfl))
  try simp only [Act.put, List.getElem_toArray, List.getElem_cons_zero, List.getElem_cons_succ, List.setIfInBounds_toArray, List.set_cons_zero, List.set_cons_succ]
  refine anyT_takeN (i := 15) (v := ?vfw14x15) rfl (by kernel_rfl) (by kernel_rfl) (by kernel_rfl) (by rfl) (fun _ _ _ h => h) (Or.inl ⟨by rfl, ?yfw14x15⟩) hS5 ?_
  case yfw14x15 => (intro wz hSw; obtain ⟨hz0, hz1⟩ := hSw; go_simp; (try with_reducible rfl))
  try simp only [Act.put, List.getElem_toArray, List.getElem_cons_zero, List.getElem_cons_succ, List.setIfInBounds_toArray, List.set_cons_zero, List.set_cons_succ]
  have HNn : Hid (Calls Tryz.prog 18 #[.agg #[.slice (some ⟨g, 0, none⟩) nn cn]] w5 (NrmU R w5)) := by
    rw [HM.out.2.2.2.2.1]; exact implNormal_core (HN.out _ HB5.out).2 HM.out.2.2.2.1
  refine anyT_one (i := 14) (by kernel_rfl) rfl (fun K hK => ?_)
  go_simp
  go_at_call 18
  refine (HNn.out).mono ?_
  rintro e w6 ⟨a6, n6, c6, R6, rfl, hU6, hR6, hb6⟩
  have HB6 : Hid (Below w4.heap.size w4 w6) := HB5.out.trans (hb6.mono HB5.out.size)
  obtain rfl : R = R6 := (nrmOf_one hR6 (.inr ⟨HM.out.1, HM.out.2.1⟩)).symm
  obtain ⟨g6, cp6, hq6, hO6⟩ : ∃ g6 cp6, Value.slice a6 n6 c6 = .slice (some ⟨g6, 0, none⟩) R.length cp6 ∧ OwnNd w6 w5.heap.size g6 cp6 R := by
    rcases hU6 with ⟨_, q⟩ | q
    · exact absurd q HM.out.2.2.2.2.2.2.2.2.2
    · exact q
  obtain ⟨rfl, hn6, rfl⟩ : a6 = some ⟨g6, 0, none⟩ ∧ n6 = R.length ∧ c6 = cp6 := by cases hq6; exact ⟨rfl, rfl, rfl⟩
  obtain rfl : nn = n6 := by rw [hn6, HM.out.2.2.2.2.1]
  have hS6 : (fun w' : World => w'.cell? ⟨tn, 0, none⟩ = some (.slice (some ⟨g, 0, none⟩) nn cn) ∧ w'.cell? ⟨tf, 0, none⟩ = some (.slice (some ⟨b, o, none⟩) nf c)) w6 := ⟨((HN.out w6 HB6.out).1.bn.cell (j := 0) rfl), ((HN.out w6 HB6.out).1.bf.cell (j := 0) rfl)⟩
  have HLw : Hid (Calls Tryz.prog 20 #[.agg #[.slice (some ⟨g6, 0, none⟩) nn c6], .agg #[.slice (some ⟨g, 0, none⟩) nn cn]] w6 fun e w' => e = .returned (.bool true) ∧ Below w6.heap.size w6 w') := by
    have h9 := (HN.out _ HB6.out).2
    rw [HM.out.2.2.2.2.1]; exact lwFilter_same hO6.at hO6.lt.2 h9.at h9.lt.2 (by have := HM.out.2.2.2.2.1; omega)
  clear hU6 hR6 hb6 hq6 hO6 hn6 HNn hS5
  refine hK.out _ _ (.inr hS6) ?_
  clear hK
  try simp only [Act.put, List.getElem_toArray, List.getElem_cons_zero, List.getElem_cons_succ, List.setIfInBounds_toArray, List.set_cons_zero, List.set_cons_succ]
  refine anyT_one (i := 16) (by kernel_rfl) rfl (fun K hK => ?_)
  go_simp
  go_at_call 20
  refine (HLw.out).mono ?_
  rintro e w7 ⟨rfl, hb7⟩
  have HB7 : Hid (Below w4.heap.size w4 w7) := HB6.out.trans (hb7.mono HB6.out.size)
  have hS7 : (fun w' : World => w'.cell? ⟨tn, 0, none⟩ = some (.slice (some ⟨g, 0, none⟩) nn cn) ∧ w'.cell? ⟨tf, 0, none⟩ = some (.slice (some ⟨b, o, none⟩) nf c)) w7 := ⟨((HN.out w7 HB7.out).1.bn.cell (j := 0) rfl), ((HN.out w7 HB7.out).1.bf.cell (j := 0) rfl)⟩
  clear hb7 HLw hS6
  refine hK.out _ _ (.inr hS7) ?_
  clear hK
  try simp only [Act.put, List.getElem_toArray, List.getElem_cons_zero, List.getElem_cons_succ, List.setIfInBounds_toArray, List.set_cons_zero, List.set_cons_succ]
  refine anyT_takeN (i := 17) (v := .bool false) rfl (by kernel_rfl) (by kernel_rfl) (by kernel_rfl) (by rfl) (fun _ _ _ h => h) (Or.inl ⟨by rfl, ?yfw15x17⟩) hS7 ?_
  case yfw15x17 => (intro wz hSw; obtain ⟨hz0, hz1⟩ := hSw; go_simp; (try with_reducible rfl))
  try simp only [Act.put, List.getElem_toArray, List.getElem_cons_zero, List.getElem_cons_succ, List.setIfInBounds_toArray, List.set_cons_zero, List.set_cons_succ]
  refine anyT_takeN (i := 18) (v := ?vfw16x18) rfl (by kernel_rfl) (by kernel_rfl) (by kernel_rfl) (by rfl) (fun _ _ _ h => h) (Or.inl ⟨by rfl, ?yfw16x18⟩) hS7 ?_
  case yfw16x18 => (intro wz hSw; obtain ⟨hz0, hz1⟩ := hSw; go_simp; (try with_reducible rfl))
  try simp only [Act.put, List.getElem_toArray, List.getElem_cons_zero, List.getElem_cons_succ, List.setIfInBounds_toArray, List.set_cons_zero, List.set_cons_succ]
  refine anyT_done (by kernel_rfl) ?_
  go_upto_region 10 with fail
  have HBe : Hid (Below w4.heap.size w4 w7.drew) := HB7.out.trans ((Below.refl _ _).drew.mono HB7.out.size)
  clear hS7
  have hS8 : (fun w' : World => w'.cell? ⟨tn, 0, none⟩ = some (.slice (some ⟨g, 0, none⟩) nn cn) ∧ w'.cell? ⟨tf, 0, none⟩ = some (.slice (some ⟨b, o, none⟩) nf c)) w7.drew := ⟨((HN.out w7.drew HBe.out).1.bn.cell (j := 0) rfl), ((HN.out w7.drew HBe.out).1.bf.cell (j := 0) rfl)⟩
  have HSm : Hid (∀ wx, Below w4.heap.size w4 wx → Calls Tryz.prog 7 #[.agg #[.slice (some ⟨g, 0, none⟩) nn cn], .slice (some ⟨gc, 0, none⟩) nc cc] wx (MeaP R es wx)) := fun wx hx => by
    have h9 := HN.out wx hx
    rw [HM.out.2.2.2.2.1, h9.1.lc]; exact specMeaning_win h9.2.wd HM.out.2.2.2.1 h9.1.ce HM.out.2.2.2.2.2.2.1 HM.out.2.2.2.2.2.2.2.1 (by have := HM.out.2.2.2.2.2.2.2.2.1; have := h9.1.lc; omega)
  have HSf : Hid (∀ wx, Below w4.heap.size w4 wx → Calls Tryz.prog 7 #[.agg #[.slice (some ⟨b, o, none⟩) nf c], .slice (some ⟨gc, 0, none⟩) nc cc] wx (MeaP ys es wx)) := fun wx hx => by
    have h9 := HN.out wx hx
    rw [h9.1.lf, h9.1.lc]; exact specMeaning_win h9.1.wd HM.out.2.2.2.2.2.1 h9.1.ce HM.out.2.2.2.2.2.2.1 HM.out.2.2.2.2.2.2.2.1 (by have := HM.out.2.2.2.2.2.2.2.2.1; have := h9.1.lc; omega)
  have HIm : Hid (∀ wx, Below w4.heap.size w4 wx → Calls Tryz.prog 10 #[.agg #[.slice (some ⟨g, 0, none⟩) nn cn], .slice (some ⟨gc, 0, none⟩) nc cc] wx (MeaP R es wx)) := fun wx hx => by
    have h9 := HN.out wx hx
    rw [HM.out.2.2.2.2.1, h9.1.lc]; exact implMeaning_core h9.2 HM.out.2.2.2.1 h9.1.ce HM.out.2.2.2.2.2.2.1 HM.out.2.2.2.2.2.2.2.1 (by have := HM.out.2.2.2.2.2.2.2.2.1; have := h9.1.lc; omega) h9.1.tab
  refine wp_region_T 99 (fun w' : World => w'.cell? ⟨tn, 0, none⟩ = some (.slice (some ⟨g, 0, none⟩) nn cn) ∧ w'.cell? ⟨tf, 0, none⟩ = some (.slice (some ⟨b, o, none⟩) nf c)) (by kernel_rfl) ?_
  refine anyT_takeN (i := 0) (v := ?vfw17x0) rfl (by kernel_rfl) (by kernel_rfl) (by kernel_rfl) (by rfl) (fun _ _ _ h => h) (Or.inl ⟨by rfl, ?yfw17x0⟩) hS8 ?_
  case yfw17x0 => (intro wz hSw; obtain ⟨hz0, hz1⟩ := hSw; go_simp; (try with_reducible rfl))
  try simp only [Act.put, List.getElem_toArray, List.getElem_cons_zero, List.getElem_cons_succ, List.setIfInBounds_toArray, List.set_cons_zero, List.set_cons_succ]
  refine anyT_takeN (i := 1) (v := ?vfw18x1) rfl (by kernel_rfl) (by kernel_rfl) (by kernel_rfl) (by rfl) (fun _ _ _ h => h) (Or.inl ⟨by rfl, ?yfw18x1⟩) hS8 ?_
  case yfw18x1 => (intro wz hSw; obtain ⟨hz0, hz1⟩ := hSw; go_simp; (try with_reducible rfl))
  try simp only [Act.put, List.getElem_toArray, List.getElem_cons_zero, List.getElem_cons_succ, List.setIfInBounds_toArray, List.set_cons_zero, List.set_cons_succ]
  refine anyT_takeN (i := 3) (v := ?vfw19x3) rfl (by kernel_rfl) (by kernel_rfl) (by kernel_rfl) (by rfl) (fun _ _ _ h => h) (Or.inl ⟨by rfl, ?yfw19x3⟩) hS8 ?_
  case yfw19x3 => (intro wz hSw; obtain ⟨hz0, hz1⟩ := hSw; go_simp; (try with_reducible rfl))
  try simp only [Act.put, List.getElem_toArray, List.getElem_cons_zero, List.getElem_cons_succ, List.setIfInBounds_toArray, List.set_cons_zero, List.set_cons_succ]
  refine anyT_takeN (i := 4) (v := ?vfw20x4) rfl (by kernel_rfl) (by kernel_rfl) (by kernel_rfl) (by rfl) (fun _ _ _ h => h) (Or.inl ⟨by rfl, ?yfw20x4⟩) hS8 ?_
  case yfw20x4 => (intro wz hSw; obtain ⟨hz0, hz1⟩ := hSw; go_simp; (try with_reducible rfl))
  try simp only [Act.put, List.getElem_toArray, List.getElem_cons_zero, List.getElem_cons_succ, List.setIfInBounds_toArray, List.set_cons_zero, List.set_cons_succ]
  refine anyT_one (i := 2) (by kernel_rfl) rfl (fun K hK => ?_)
  go_simp
  go_at_call 7
  refine (HSm.out w7.drew HBe.out).mono ?_
  rintro e x1 ⟨ga, ca, La, rfl, Hx1⟩
  have HX1 : Hid (Below w4.heap.size w4 x1) := HBe.out.trans (Hx1.out.2.2.mono HBe.out.size)
  have hmx1 : MeaOf R es La := Hx1.out.1
  have HO1 : Hid (OwnC x1 w7.drew.heap.size ga ca La ∧ MeaOf R es La) := ⟨Hx1.out.2.1, hmx1⟩
  clear hmx1 Hx1
  have hS9 : (fun w' : World => w'.cell? ⟨tn, 0, none⟩ = some (.slice (some ⟨g, 0, none⟩) nn cn) ∧ w'.cell? ⟨tf, 0, none⟩ = some (.slice (some ⟨b, o, none⟩) nf c)) x1 := ⟨((HN.out x1 HX1.out).1.bn.cell (j := 0) rfl), ((HN.out x1 HX1.out).1.bf.cell (j := 0) rfl)⟩
  refine hK.out _ _ (.inr hS9) ?_
  clear hK
  try simp only [Act.put, List.getElem_toArray, List.getElem_cons_zero, List.getElem_cons_succ, List.setIfInBounds_toArray, List.set_cons_zero, List.set_cons_succ]
  refine anyT_one (i := 5) (by kernel_rfl) rfl (fun K hK => ?_)
  go_simp
  go_at_call 7
  refine (HSf.out x1 HX1.out).mono ?_
  rintro e x2 ⟨gb, cb, Lb, rfl, Hx2⟩
  have HX2 : Hid (Below w4.heap.size w4 x2) := HX1.out.trans (Hx2.out.2.2.mono HX1.out.size)
  have hmx2 : MeaOf R es Lb := HM.out.2.2.1 es Lb HM.out.2.2.2.2.2.2.2.1 HM.out.2.2.2.2.2.2.1 Hx2.out.1
  obtain rfl : La = Lb := (meaOf_one hmx2 HO1.out.2).symm
  have HO2 : Hid (OwnC x2 x1.heap.size gb cb La ∧ OwnC x2 w7.drew.heap.size ga ca La) := ⟨Hx2.out.2.1, HO1.out.1.below Hx2.out.2.2 HO1.out.1.lt.2⟩
  clear hmx2 Hx2 hS9
  have hS10 : (fun w' : World => w'.cell? ⟨tn, 0, none⟩ = some (.slice (some ⟨g, 0, none⟩) nn cn) ∧ w'.cell? ⟨tf, 0, none⟩ = some (.slice (some ⟨b, o, none⟩) nf c)) x2 := ⟨((HN.out x2 HX2.out).1.bn.cell (j := 0) rfl), ((HN.out x2 HX2.out).1.bf.cell (j := 0) rfl)⟩
  refine hK.out _ _ (.inr hS10) ?_
  clear hK
  try simp only [Act.put, List.getElem_toArray, List.getElem_cons_zero, List.getElem_cons_succ, List.setIfInBounds_toArray, List.set_cons_zero, List.set_cons_succ]
  refine anyT_one (i := 6) (by kernel_rfl) rfl (fun K hK => ?_)
  go_simp
  go_at_call 21
  refine (lwCells_own HO2.out.2 HO2.out.1).mono ?_
  rintro e x3 ⟨rfl, hx3⟩
  have HX3 : Hid (Below w4.heap.size w4 x3) := HX2.out.trans (hx3.mono HX2.out.size)
  have hS11 : (fun w' : World => w'.cell? ⟨tn, 0, none⟩ = some (.slice (some ⟨g, 0, none⟩) nn cn) ∧ w'.cell? ⟨tf, 0, none⟩ = some (.slice (some ⟨b, o, none⟩) nf c)) x3 := ⟨((HN.out x3 HX3.out).1.bn.cell (j := 0) rfl), ((HN.out x3 HX3.out).1.bf.cell (j := 0) rfl)⟩
  clear hx3 hS10
  refine hK.out _ _ (.inr hS11) ?_
  clear hK
  try simp only [Act.put, List.getElem_toArray, List.getElem_cons_zero, List.getElem_cons_succ, List.setIfInBounds_toArray, List.set_cons_zero, List.set_cons_succ]
  refine anyT_takeN (i := 7) (v := ?vfw21x7) rfl (by kernel_rfl) (by kernel_rfl) (by kernel_rfl) (by rfl) (fun _ _ _ h => h) (Or.inl ⟨by rfl, ?yfw21x7⟩) hS11 ?_
  case yfw21x7 => (intro wz hSw; obtain ⟨hz0, hz1⟩ := hSw; go_simp; (try with_reducible rfl))
  try simp only [Act.put, List.getElem_toArray, List.getElem_cons_zero, List.getElem_cons_succ, List.setIfInBounds_toArray, List.set_cons_zero, List.set_cons_succ]
  refine anyT_takeN (i := 8) (v := ?vfw22x8) rfl (by kernel_rfl) (by kernel_rfl) (by kernel_rfl) (by rfl) (fun _ _ _ h => h) (Or.inl ⟨by rfl, ?yfw22x8⟩) hS11 ?_
  case yfw22x8 => (intro wz hSw; obtain ⟨hz0, hz1⟩ := hSw; go_simp; (try with_reducible rfl))
  try simp only [Act.put, List.getElem_toArray, List.getElem_cons_zero, List.getElem_cons_succ, List.setIfInBounds_toArray, List.set_cons_zero, List.set_cons_succ]
  refine anyT_takeN (i := 9) (v := ?vfw23x9) rfl (by kernel_rfl) (by kernel_rfl) (by kernel_rfl) (by rfl) (fun _ _ _ h => h) (Or.inl ⟨by rfl, ?yfw23x9⟩) hS11 ?_
  case yfw23x9 => (intro wz hSw; obtain ⟨hz0, hz1⟩ := hSw; go_simp; (try with_reducible rfl))
  try simp only [Act.put, List.getElem_toArray, List.getElem_cons_zero, List.getElem_cons_succ, List.setIfInBounds_toArray, List.set_cons_zero, List.set_cons_succ]
  refine anyT_takeN (i := 11) (v := ?vfw24x11) rfl (by kernel_rfl) (by kernel_rfl) (by kernel_rfl) (by rfl) (fun _ _ _ h => h) (Or.inl ⟨by rfl, ?yfw24x11⟩) hS11 ?_
  case yfw24x11 => (intro wz hSw; obtain ⟨hz0, hz1⟩ := hSw; go_simp; (try with_reducible rfl))
  try simp only [Act.put, List.getElem_toArray, List.getElem_cons_zero, List.getElem_cons_succ, List.setIfInBounds_toArray, List.set_cons_zero, List.set_cons_succ]
  refine anyT_takeN (i := 12) (v := ?vfw25x12) rfl (by kernel_rfl) (by kernel_rfl) (by kernel_rfl) (by rfl) (fun _ _ _ h => h) (Or.inl ⟨by rfl, ?yfw25x12⟩) hS11 ?_
  case yfw25x12 => (intro wz hSw; obtain ⟨hz0, hz1⟩ := hSw; go_simp; (try with_reducible rfl))
  try simp only [Act.put, List.getElem_toArray, List.getElem_cons_zero, List.getElem_cons_succ, List.setIfInBounds_toArray, List.set_cons_zero, List.set_cons_succ]
  refine anyT_one (i := 10) (by kernel_rfl) rfl (fun K hK => ?_)
  go_simp
  go_at_call 10
  refine (HIm.out x3 HX3.out).mono ?_
  rintro e x4 ⟨gd, cd, Ld, rfl, Hx4⟩
  have HX4 : Hid (Below w4.heap.size w4 x4) := HX3.out.trans (Hx4.out.2.2.mono HX3.out.size)
  have hmx4 : MeaOf R es Ld := Hx4.out.1
  obtain rfl : La = Ld := (meaOf_one hmx4 HO1.out.2).symm
  have HO4 : Hid (OwnC x4 x3.heap.size gd cd La ∧ MeaOf R es La) := ⟨Hx4.out.2.1, hmx4⟩
  clear hmx4 Hx4 hS11
  have hS12 : (fun w' : World => w'.cell? ⟨tn, 0, none⟩ = some (.slice (some ⟨g, 0, none⟩) nn cn) ∧ w'.cell? ⟨tf, 0, none⟩ = some (.slice (some ⟨b, o, none⟩) nf c)) x4 := ⟨((HN.out x4 HX4.out).1.bn.cell (j := 0) rfl), ((HN.out x4 HX4.out).1.bf.cell (j := 0) rfl)⟩
  refine hK.out _ _ (.inr hS12) ?_
  clear hK
  try simp only [Act.put, List.getElem_toArray, List.getElem_cons_zero, List.getElem_cons_succ, List.setIfInBounds_toArray, List.set_cons_zero, List.set_cons_succ]
  refine anyT_one (i := 13) (by kernel_rfl) rfl (fun K hK => ?_)
  go_simp
  go_at_call 7
  refine (HSf.out x4 HX4.out).mono ?_
  rintro e x5 ⟨ge, ce, Le, rfl, Hx5⟩
  have HX5 : Hid (Below w4.heap.size w4 x5) := HX4.out.trans (Hx5.out.2.2.mono HX4.out.size)
  have hmx5 : MeaOf R es Le := HM.out.2.2.1 es Le HM.out.2.2.2.2.2.2.2.1 HM.out.2.2.2.2.2.2.1 Hx5.out.1
  obtain rfl : La = Le := (meaOf_one hmx5 HO4.out.2).symm
  have HO5 : Hid (OwnC x5 x4.heap.size ge ce La ∧ OwnC x5 x3.heap.size gd cd La) := ⟨Hx5.out.2.1, HO4.out.1.below Hx5.out.2.2 HO4.out.1.lt.2⟩
  clear hmx5 Hx5 hS12
  have hS13 : (fun w' : World => w'.cell? ⟨tn, 0, none⟩ = some (.slice (some ⟨g, 0, none⟩) nn cn) ∧ w'.cell? ⟨tf, 0, none⟩ = some (.slice (some ⟨b, o, none⟩) nf c)) x5 := ⟨((HN.out x5 HX5.out).1.bn.cell (j := 0) rfl), ((HN.out x5 HX5.out).1.bf.cell (j := 0) rfl)⟩
  refine hK.out _ _ (.inr hS13) ?_
  clear hK
  try simp only [Act.put, List.getElem_toArray, List.getElem_cons_zero, List.getElem_cons_succ, List.setIfInBounds_toArray, List.set_cons_zero, List.set_cons_succ]
  refine anyT_one (i := 14) (by kernel_rfl) rfl (fun K hK => ?_)
  go_simp
  go_at_call 21
  refine (lwCells_own HO5.out.2 HO5.out.1).mono ?_
  rintro e x6 ⟨rfl, hx6⟩
  have HX6 : Hid (Below w4.heap.size w4 x6) := HX5.out.trans (hx6.mono HX5.out.size)
  have hS14 : (fun w' : World => w'.cell? ⟨tn, 0, none⟩ = some (.slice (some ⟨g, 0, none⟩) nn cn) ∧ w'.cell? ⟨tf, 0, none⟩ = some (.slice (some ⟨b, o, none⟩) nf c)) x6 := ⟨((HN.out x6 HX6.out).1.bn.cell (j := 0) rfl), ((HN.out x6 HX6.out).1.bf.cell (j := 0) rfl)⟩
  clear hx6 hS13
  refine hK.out _ _ (.inr hS14) ?_
  clear hK
  try simp only [Act.put, List.getElem_toArray, List.getElem_cons_zero, List.getElem_cons_succ, List.setIfInBounds_toArray, List.set_cons_zero, List.set_cons_succ]
  refine anyT_takeN (i := 15) (v := ?vfw26x15) rfl (by kernel_rfl) (by kernel_rfl) (by kernel_rfl) (by rfl) (fun _ _ _ h => h) (Or.inl ⟨by rfl, ?yfw26x15⟩) hS14 ?_
  case yfw26x15 => (intro wz hSw; obtain ⟨hz0, hz1⟩ := hSw; go_simp; (try with_reducible rfl))
  try simp only [Act.put, List.getElem_toArray, List.getElem_cons_zero, List.getElem_cons_succ, List.setIfInBounds_toArray, List.set_cons_zero, List.set_cons_succ]
  refine anyT_takeN (i := 16) (v := ?vfw27x16) rfl (by kernel_rfl) (by kernel_rfl) (by kernel_rfl) (by rfl) (fun _ _ _ h => h) (Or.inl ⟨by rfl, ?yfw27x16⟩) hS14 ?_
  case yfw27x16 => (intro wz hSw; obtain ⟨hz0, hz1⟩ := hSw; go_simp; (try with_reducible rfl))
  try simp only [Act.put, List.getElem_toArray, List.getElem_cons_zero, List.getElem_cons_succ, List.setIfInBounds_toArray, List.set_cons_zero, List.set_cons_succ]
  refine anyT_done (by kernel_rfl) ?_
  have HBF : Hid (Below w.heap.size w x6) := (HN.out x6 HX6.out).1.below
  go_wp2_with fail
  go_ret
  exact ⟨rfl, HBF.out⟩
end Go.Proofs.YtkidabedcgngcaaGreatDoor

/-
  The law FnNormal.
-/
namespace Go.Proofs.YtkidabedcgngcaaGreatDoor.exFnNormal
open Go.ChangeMaps (open_string shut_string)
open Go.ChangeShapes Go.WideShapes Go.ChangeAt Go.WideMaps Go.WideElems Go.RowKit Go.Deep
set_option linter.unusedVariables false
set_option linter.unusedSimpArgs false
set_option maxRecDepth 100000

theorem own : ownKnob Tryz.prog.godebug = none := by kernel_rfl
theorem laidOut : laidOutB Tryz.prog = true := by kernel_rfl
theorem gD64 : Tryz.prog.globalNamed "math/bits.deBruijn64tab" = some 1 := by kernel_rfl
theorem tD64 : (Tryz.prog.globals[1]?).map (·.type) = some 236 := by kernel_rfl
theorem cU8 : Tryz.prog.cellsOf 5 = 1 := by kernel_rfl
theorem cD64 : Tryz.prog.cellsOf 236 = 64 := by kernel_rfl
theorem var_lt {P : Program} {W : World} {n : String} {g : Nat} {cs : Array Value} (hg : P.globalNamed n = some g) (h : W.var? P n = some cs) : g < W.heap.size := by
  unfold World.var? at h
  rw [hg] at h
  simp only [Option.bind_some] at h
  by_cases hlt : g < W.heap.size
  · exact hlt
  · rw [Array.getElem?_eq_none (by omega)] at h
    simp at h
theorem of_laid {W : World} (h : laidMetH Tryz.prog Rows.fnNormalRow.laid W) : TabD W := by
  have h' : laidMetH Tryz.prog [("math/bits.deBruijn64tab", Rows.laid_math_bits_deBruijn64tab)] W := h
  clear h
  rw [MakeChecks.laidMetH_plain _ _ _ (by kernel_rfl)] at h'
  obtain ⟨ps, ⟨g0, t0, cs0, f0, p0, q0, hg0, ht0, hv0, hd0, _, _⟩, _⟩ := h'
  obtain rfl := Option.some.inj (gD64.symm.trans hg0)
  obtain rfl := Option.some.inj (tD64.symm.trans ht0)
  have hc := Lib.cells_of_tab (zs := Lib.deBruijn64tab.map Int.ofNat) Tryz.underlying236 Tryz.underlying5 cU8 cD64 hd0
  intro j hj
  rw [World.var?_cell hg0 hv0 j]
  have hl : (cs0.toList)[j]? = some (.int .u8 (Lib.deBruijn64tab.getD j 0)) := by
    rw [hc, List.getElem?_map, List.getElem?_map]
    have : j < Lib.deBruijn64tab.length := hj
    rw [List.getElem?_eq_getElem this]
    simp [List.getD, List.getElem?_eq_getElem this]
  simpa using hl
/-- The door's own heap meets the condition. -/
theorem door_met (os : Os) (args : Array Value) : laidMetH Tryz.prog Rows.fnNormalRow.laid ((World.doorLaid Tryz.prog 400 os).forCall (fun _ _ => 0) ⟨#[], args, []⟩).memory :=
  laidMetH_of_parts3 (fuel := 8) (laidMet_of_run' 8 (by kernel_rfl) (by kernel_rfl)) (by kernel_rfl) (by kernel_rfl)
theorem var?_below {P : Program} {B g : Nat} {W W' : World} {n : String} {cs : Array Value} (h : Below B W W') (hg : P.globalNamed n = some g) (hgB : g < B) (hv : W.var? P n = some cs) : W'.var? P n = some cs := by
  unfold World.var? at hv ⊢
  simp only [hg, Option.bind_some] at hv ⊢
  rw [h.block g hgB]
  exact hv

set_option maxRecDepth 100000 in
theorem lifted (os : Os) (started : os.Started) (H : Type) (enc : TypeId × Value → H) :
    ReturnsInHanded {} Tryz.checked os 4 .any (fun w args => (Rows.fnNormalSpec.pre enc Tryz.prog Tryz.f4 [] false w args ∧ laidMetH Tryz.prog Rows.fnNormalRow.laid w) ∧ sizedMet enc Tryz.prog Tryz.f4 (OpenSpec.ofChange Rows.fnNormalSpec) false w args)
      (Rows.fnNormalSpec.post enc Tryz.prog Tryz.f4 false true false false) := by
  refine returnsInHanded_of_change_and (C := Tryz.checked) (X := fun w _ => laidMetH Tryz.prog Rows.fnNormalRow.laid w) (fun _ _ _ hh h => h.of_heap hh) own started (by kernel_rfl) Tryz.func4
    (ChangeSpec.witness_shaped (enc := enc) (C := Tryz.checked) (os := os) (X := fun w _ => laidMetH Tryz.prog Rows.fnNormalRow.laid w) false (World.doorLaid Tryz.prog 400 os) #[.slice none 0 0, .slice none 0 0] 8 rfl (World.shaped_of_RefB (by kernel_rfl) (by kernel_rfl)) (by kernel_rfl) (by kernel_rfl) (by kernel_rfl) (door_met os _)) ?_
  intro W base args ds gs before hval0 hW _ _ hL _
  have hval : ∀ (j : Nat) t v, Tryz.f4.params[j]? = some t → args[j]? = some v → Value.okWide Tryz.prog W .any base t v := hval0
  have hW' := hW
  obtain ⟨p, q, hA0, hV, rfl, hfz, hnd⟩ := hW
  have hA : DataW.TrodAll enc Tryz.prog W 0 (fun _ => true) true Tryz.f4.params.toList args.toList ds p := hA0
  rw [Tryz.params4] at hA hval
  obtain ⟨v0, vs0, d0, ds0, p0, q0, hargs, rfl, rfl, h0, r0⟩ := trodAll_cons hA
  obtain ⟨v1, vs1, d1, ds1, p1, q1, rfl, rfl, rfl, h1, r1⟩ := trodAll_cons r0
  obtain ⟨rfl, rfl, rfl⟩ := trodAll_nil r1
  obtain rfl : args = #[v0, v1] := by cases args; simp_all
  obtain ⟨rfl, rfl⟩ := trodVars_none hV
  have k0 := h0
  have kk1 := h1
  have lt0 : ∀ x ∈ p0, x.block < W.heap.size := by obtain ⟨m, hm⟩ := k0; exact DataW.trod_lt m _ _ _ hm
  have lt1 : ∀ x ∈ p1, x.block < W.heap.size := by obtain ⟨m, hm⟩ := kk1; exact DataW.trod_lt m _ _ _ hm
  obtain ⟨n0, hx0⟩ : ∃ n, BytesIn W v0 n := by
    obtain ⟨a0, len0, cap0, rfl⟩ := okWide_slice Tryz.underlying40 (hval 0 40 v0 rfl rfl)
    obtain ⟨fuel, hf⟩ := h0
    exact bytes_of_trod (x := (d0, p0)) (by simpa [Value.cells] using hf) lt0
  obtain ⟨n1, hx1⟩ : ∃ n, BytesIn W v1 n := by
    obtain ⟨a0, len0, cap0, rfl⟩ := okWide_slice Tryz.underlying40 (hval 1 40 v1 rfl rfl)
    obtain ⟨fuel, hf⟩ := h1
    exact bytes_of_trod (x := (d1, p1)) (by simpa [Value.cells] using hf) lt1
  clear hA0 hval0
  have hG := of_laid hL
  refine (fnNormal_walk v0 v1 n0 n1 W hx0 hx1 hG).mono fun e W' ⟨he, bel⟩ => ?_
  subst he
  exact ⟨_, rfl, _, _, _, [], _, [], hW', trodAll_mk1 (shut_bool Tryz.underlying4 _), (trodAll_cons_mk (Below.trod laidOut (by kernel_rfl) (of_decide_eq_true (by kernel_rfl)) k0 bel lt0) (trodAll_cons_mk (Below.trod laidOut (by kernel_rfl) (of_decide_eq_true (by kernel_rfl)) kk1 bel lt1) trodAll_mk0)), rfl, bel.frame _, fun h => by cases h⟩

theorem over : Rows.FnNormalSaid :=
  OpenClaim.holds_of_wide 4 Tryz.f4 rfl rfl rfl rfl rfl rfl rfl ⟨rfl, rfl, rfl, rfl, rfl⟩ rfl rfl rfl rfl rfl (by kernel_rfl) Tryz.func4 (by kernel_rfl)
    (of_decide_eq_true (by kernel_rfl)) (by unfold Func.isWrapper; first | (rw [if_pos (by decide +kernel)]; kernel_rfl) | (rw [if_neg (by decide +kernel)]; exact ⟨rfl, rfl⟩))
    (fun os started H enc _ => lifted os started H enc)

theorem card : Rows.FnNormalCardSaid :=
  Claim7.holds_tied_plain_at .later [] [.data] true Rows.fnNormalCard.stood.harness true
    over (fun _ h => by cases h) (by kernel_rfl) (fun _ h => by cases h) fnNormal_row_tie rfl ⟨rfl, rfl⟩ (by kernel_rfl) rfl
    (fun f fn hf hfn => by
      obtain rfl : f = 4 := Option.some.inj ((show Tryz.prog.funcNamed "loop.example/s01854/laws.FnNormal" = some 4 by kernel_rfl).symm.trans hf) |>.symm
      obtain rfl : fn = Tryz.f4 := (Option.some.inj (Tryz.func4.symm.trans hfn)).symm
      exact ⟨by kernel_rfl, fun j t ht => by
        rw [Tryz.params4] at ht
        have h3 : t = 40 := by
          rcases j with _ | _ | j
          · simpa using ht.symm
          · simpa using ht.symm
          · simp at ht
        subst h3
        exact (show Tryz.prog.wantsStandIn 40 = false by kernel_rfl)⟩)
    (by kernel_rfl)
end Go.Proofs.YtkidabedcgngcaaGreatDoor.exFnNormal
namespace Go.Proofs.YtkidabedcgngcaaGreatDoor
theorem fnNormal_holds : Rows.FnNormalCardSaid := exFnNormal.card
#print axioms fnNormal_holds
end Go.Proofs.YtkidabedcgngcaaGreatDoor

