import Derived.OwnWalk
import Derived.Deep.DeepCutAuto
import Derived.Test.YtddemgkbfdhpnaaDoorTie
import Derived.Test.YtddemgkbfdhpnaaDoorCards
import Derived.ProofKit
import Derived.LaidMore
import Derived.OpenShut
import Derived.Lib.LaidTab
import Derived.Stop.Joined
import Derived.Test.YtddemgkbfdhpnaaDoorPkAE
import Derived.Test.YtddemgkbfdhpnaaDoorPkAJ
import Derived.Test.YtddemgkbfdhpnaaDoorPkAH
/-
  Nodes with marks: markNodeS, heldNodeS, markFilter, heldFilter.
-/
namespace Go.Proofs.YtddemgkbfdhpnaaDoor
open Go.ChangeShapes Go.WideShapes Go.ChangeAt Go.RowKit Go.Deep
set_option linter.unusedVariables false
set_option linter.unusedSimpArgs false
set_option maxRecDepth 100000

/-- Whether a third mark. -/
def thirdB (k : Int) : Bool := k % 3 == 0
/-- The node that the marks from 'k' on make. -/
def mNd (k : Int) : Nd := ⟨k, mText (k + 1).toNat, thirdB (k + 1 + 1), mText (k + 1 + 1 + 1).toNat, k + 1 + 1 + 1 + 1, k + 1 + 1 + 1 + 1 + 1, k + 1 + 1 + 1 + 1 + 1 + 1⟩
/-- The first 'i' of the nodes are marked, from 'k' on. -/
def markedN (k : Int) (es : List Nd) (i : Nat) : Prop := ∀ j : Nat, j < i → es[j]? = some (mNd (k + j * 7))
theorem OwnNd.upd {w : World} {base g cap m j : Nat} {fs : List Nd} {f f' : Nd} {u : Value} (h : OwnNd w base g cap (fs.set m f)) (hm : m < fs.length) (hj : j < 7) (hc : f'.seven = f.seven.set j u) :
    OwnNd (w.setCell ⟨g, m * 7 + j, none⟩ u) base g cap (fs.set m f') := by
  have := h.set m j f f' u (by simp [hm]) hj hc
  rwa [List.set_set] at this
theorem markedN_set {k : Int} {fs : List Nd} {m : Nat} (h : markedN k fs m) (hm : m < fs.length) : markedN k (fs.set m (mNd (k + m * 7))) (m + 1) := by
  intro j hj
  by_cases e : j = m
  · subst e; simp [hm]
  · rw [List.getElem?_set_ne (by omega)]; exact h j (by omega)
set_option maxHeartbeats 2000000 in
theorem markNodeS_core (base g cap : Nat) (es : List Nd) (k : Int) (w : World) (hO : OwnNd w base g cap es) (h0 : 0 < k) (h1 : k ≤ 2 ^ 30) (hn : es.length ≤ 1048576) :
    Calls Tryd.prog 21 #[.slice (some ⟨g, 0, none⟩) es.length cap, .int .i64 k] w fun e w' =>
      ∃ fs, e = .returned (.int .i64 (k + es.length * 7)) ∧ OwnNd w' base g cap fs ∧ fs.length = es.length ∧ markedN k fs es.length ∧ w.grownBy w' (some g) := by
  have HO : Hid (OwnNd w base g cap es) := hO
  clear hO
  go_enter Tryd.func21, Tryd.ntmps21
  go_wp2
  go_loopw [1, 5] (fun c i wr => ∃ (m : Nat) (a : Int) (fs : List Nd), m ≤ es.length ∧ i = .int .i64 m ∧ c = .int .i64 a ∧ a = k + m * 7 ∧ OwnNd wr base g cap fs ∧ fs.length = es.length ∧ markedN k fs m ∧ w.grownBy wr (some g)) (fun _ i _ => es.length - (intOf i).toNat)
  case atStart => exact ⟨0, k, es, Nat.zero_le _, rfl, rfl, by simp, HO.out, rfl, fun j hj => by omega, grown_of_below (Below.refl _ _) _⟩
  case round =>
    obtain ⟨m, a, fs, hm, rfl, rfl, ha, hO, hfl, hmk, hgr⟩ := hrel
    have HR : Hid (a = k + m * 7 ∧ OwnNd wr base g cap fs ∧ fs.length = es.length ∧ markedN k fs m) := ⟨ha, hO, hfl, hmk⟩
    have ha0 : 0 < a := by omega
    have ha1 : a ≤ 2 ^ 31 := by omega
    have HG : Hid (w.grownBy wr (some g)) := hgr
    clear hO hfl hmk ha hgr
    by_cases hlt : m < es.length
    · obtain ⟨f, hf⟩ : ∃ f, fs[m]? = some f := ⟨_, List.getElem?_eq_getElem (by rw [HR.out.2.2.1]; exact hlt)⟩
      have HF : Hid (fs[m]? = some f ∧ m < fs.length) := ⟨hf, by rw [HR.out.2.2.1]; exact hlt⟩
      clear hf
      have c0 := (HR.out.2.1.at m f HF.out.1).1
      simp only [Nat.zero_add] at c0
      have z0 := fun j => World.ownsRow.frozenAt HR.out.2.1 j
      have H0 : Hid (OwnNd (wr.setCell ⟨g, m * 7, none⟩ (.int .i64 a)) base g cap (fs.set m { f with kind := a }) ∧ w.grownBy (wr.setCell ⟨g, m * 7, none⟩ (.int .i64 a)) (some g)) :=
        ⟨HR.out.2.1.set m 0 f { f with kind := a } (.int .i64 a) HF.out.1 (by omega) rfl, HG.out.trans (grown_set _ _ _ _)⟩
      go_wp2_with fail
      refine (markText_any (a + 1) _ (by omega) (by omega)).mono ?_
      rintro e w1 ⟨rfl, hb1⟩
      have hO1 := H0.out.1.below hb1 H0.out.1.lt.2
      obtain ⟨_, c1, c2, _⟩ := hO1.at m _ (by simp [HF.out.2]; rfl)
      simp only [Nat.zero_add] at c1 c2
      have z1 := fun j => World.ownsRow.frozenAt hO1 j
      have hO2 := (hO1.upd (j := 1) (u := .string (mText (a + 1).toNat)) (f' := { f with kind := a, s := mText (a + 1).toNat }) HF.out.2 (by omega) rfl).upd (j := 2) (u := .bool ((a + 1 + 1) % 3 == 0)) (f' := { f with kind := a, s := mText (a + 1).toNat, hi := ((a + 1 + 1) % 3 == 0) }) HF.out.2 (by omega) rfl
      have H1 : Hid (OwnNd ((w1.setCell ⟨g, m * 7 + 1, none⟩ (.string (mText (a + 1).toNat))).setCell ⟨g, m * 7 + 2, none⟩ (.bool ((a + 1 + 1) % 3 == 0))) base g cap (fs.set m { f with kind := a, s := mText (a + 1).toNat, hi := ((a + 1 + 1) % 3 == 0) }) ∧ w.grownBy ((w1.setCell ⟨g, m * 7 + 1, none⟩ (.string (mText (a + 1).toNat))).setCell ⟨g, m * 7 + 2, none⟩ (.bool ((a + 1 + 1) % 3 == 0))) (some g)) :=
        ⟨hO2, ((H0.out.2.trans (grown_of_below hb1 _)).trans (grown_set _ _ _ _)).trans (grown_set _ _ _ _)⟩
      clear hO1 hO2 hb1 c0 z0
      go_wp2_with fail
      refine (markText_any (a + 1 + 1 + 1) _ (by omega) (by omega)).mono ?_
      rintro e w2 ⟨rfl, hb2⟩
      have hO3 := H1.out.1.below hb2 H1.out.1.lt.2
      obtain ⟨_, _, _, c3, c4, c5, c6⟩ := hO3.at m _ (by simp [HF.out.2]; rfl)
      simp only [Nat.zero_add] at c3 c4 c5 c6
      have z3 := fun j => World.ownsRow.frozenAt hO3 j
      have hO4 := (((hO3.upd (j := 3) (u := .string (mText (a + 1 + 1 + 1).toNat)) (f' := { f with kind := a, s := mText (a + 1).toNat, hi := ((a + 1 + 1) % 3 == 0), t := mText (a + 1 + 1 + 1).toNat }) HF.out.2 (by omega) rfl).upd (j := 4) (u := .int .u64 (a + 1 + 1 + 1 + 1))
        (f' := { f with kind := a, s := mText (a + 1).toNat, hi := ((a + 1 + 1) % 3 == 0), t := mText (a + 1 + 1 + 1).toNat, lo := a + 1 + 1 + 1 + 1 }) HF.out.2 (by omega) rfl).upd (j := 5) (u := .int .u64 (a + 1 + 1 + 1 + 1 + 1))
        (f' := { f with kind := a, s := mText (a + 1).toNat, hi := ((a + 1 + 1) % 3 == 0), t := mText (a + 1 + 1 + 1).toNat, lo := a + 1 + 1 + 1 + 1, up := a + 1 + 1 + 1 + 1 + 1 }) HF.out.2 (by omega) rfl).upd (j := 6) (u := .int .i64 (a + 1 + 1 + 1 + 1 + 1 + 1)) (f' := mNd a) HF.out.2 (by omega) rfl
      have hG4 := ((((H1.out.2.trans (grown_of_below hb2 _)).trans (grown_set w2 g (m * 7 + 3) (.string (mText (a + 1 + 1 + 1).toNat)))).trans (grown_set _ g (m * 7 + 4) (.int .u64 (a + 1 + 1 + 1 + 1)))).trans (grown_set _ g (m * 7 + 5) (.int .u64 (a + 1 + 1 + 1 + 1 + 1)))).trans (grown_set _ g (m * 7 + 6) (.int .i64 (a + 1 + 1 + 1 + 1 + 1 + 1)))
      have H4 : Hid (_ ∧ _) := ⟨hO4, hG4⟩
      have HE : Hid (a = k + m * 7) := HR.out.1
      clear hO3 hO4 hG4 hb2 c1 c2 z1
      go_wp2_with fail
      refine ⟨⟨m + 1, a + 1 + 1 + 1 + 1 + 1 + 1 + 1, fs.set m (mNd a), by omega, by go_num, rfl, ?_, H4.out.1, by rw [List.length_set]; exact HR.out.2.2.1, ?_, H4.out.2⟩, ?_⟩
      · go_light
        have := HE.out
        omega
      · go_light
        have := markedN_set HR.out.2.2.2 HF.out.2
        rw [← HE.out] at this
        exact this
      · go_light
        simp [intOf]; omega
    · go_wp2_with fail
      go_ret
      have e1 : m = es.length := by omega
      refine ⟨fs, ?_, HR.out.2.1, HR.out.2.2.1, ?_, HG.out⟩
      · rw [HR.out.1, e1]; rfl
      · rw [← e1]; exact HR.out.2.2.2
/-- A slice of the call's own, or nil. -/
def OwnUN (w : World) (base : Nat) (u : Value) (R : List Nd) : Prop := (u = .slice none 0 0 ∧ R = []) ∨ ∃ g cp, u = .slice (some ⟨g, 0, none⟩) R.length cp ∧ OwnNd w base g cp R
theorem OwnUN.ins {w : World} {base : Nat} {u : Value} {R : List Nd} (h : OwnUN w base u R) : InNds w u R := by
  rcases h with ⟨rfl, rfl⟩ | ⟨g, cp, rfl, hO⟩
  · exact .inl ⟨_, _, rfl, rfl⟩
  · exact InNds.own hO rfl
theorem OwnUN.row {w : World} {base : Nat} {u : Value} {R : List Nd} (h : OwnUN w base u R) : ∀ g, u.ownBlock = some g → base ≤ g ∧ g < w.heap.size := by
  intro g hg
  rcases h with ⟨rfl, _⟩ | ⟨g', cp, rfl, hO⟩
  · cases hg
  · have : g' = g := Option.some.inj hg
    subst this
    exact hO.lt
theorem OwnUN.keptNe {w w' : World} {base : Nat} {u : Value} {R : List Nd} {row : Option Nat} (h : OwnUN w base u R) (hg : w.grownBy w' row) (hne : ∀ g, u.ownBlock = some g → row ≠ some g) : OwnUN w' base u R := by
  rcases h with h | ⟨g, cp, rfl, hO⟩
  · exact .inl h
  · exact .inr ⟨g, cp, rfl, World.ownsRow.kept hO hg (.inr (fun q => hne g rfl q.symm))⟩
theorem OwnUN.below {w w' : World} {base : Nat} {u : Value} {R : List Nd} (h : OwnUN w base u R) (hb : Below w.heap.size w w') : OwnUN w' base u R := h.keptNe (grown_of_below hb none) (fun g q z => by cases z)
theorem OwnUN.ownCells {w : World} {base : Nat} {u : Value} {R : List Nd} (h : OwnUN w base u R) : u.cells = #[u] := by
  rcases h with ⟨rfl, _⟩ | ⟨g, cp, rfl, _⟩ <;> rfl
set_option maxHeartbeats 400000 in
theorem markNodeS_zero (a : Option Addr) (cap : Nat) (k : Int) (w : World) :
    Calls Tryd.prog 21 #[.slice a 0 cap, .int .i64 k] w fun e w' => e = .returned (.int .i64 k) ∧ Below w.heap.size w w' := by
  go_enter Tryd.func21, Tryd.ntmps21
  go_wp2
  go_loopw [1, 5] (fun c i wr => c = .int .i64 k ∧ i = .int .i64 0 ∧ wr = w) (fun _ i _ => 0)
  case atStart => exact ⟨rfl, rfl, rfl⟩
  case round =>
    obtain ⟨rfl, rfl, rfl⟩ := hrel
    go_wp2_with fail
    go_ret
    exact ⟨rfl, Below.refl _ _⟩
theorem markNodeS_own (base : Nat) (u : Value) (R : List Nd) (k : Int) (w : World) (h : OwnUN w base u R) (h0 : 0 < k) (h1 : k ≤ 2 ^ 30) (hn : R.length ≤ 1048576) :
    Calls Tryd.prog 21 #[u, .int .i64 k] w fun e w' =>
      ∃ R', e = .returned (.int .i64 (k + R.length * 7)) ∧ OwnUN w' base u R' ∧ R'.length = R.length ∧ markedN k R' R'.length ∧ w.grownBy w' u.ownBlock := by
  rcases h with ⟨rfl, rfl⟩ | ⟨g, cp, rfl, hO⟩
  · refine (markNodeS_zero none 0 k w).mono ?_
    rintro e w' ⟨rfl, hb⟩
    exact ⟨[], by simp, .inl ⟨rfl, rfl⟩, rfl, fun j hj => by simp at hj, grown_of_below hb _⟩
  · refine (markNodeS_core base g cp R k w hO h0 h1 hn).mono ?_
    rintro e w' ⟨fs, rfl, hO', hl, hm, hg⟩
    exact ⟨fs, rfl, .inr ⟨g, cp, by rw [hl], hO'⟩, hl, by rw [hl]; exact hm, hg⟩
set_option maxHeartbeats 400000 in
theorem markFilter_own (base : Nat) (u : Value) (R : List Nd) (k : Int) (w : World) (h : OwnUN w base u R) (h0 : 0 < k) (h1 : k ≤ 2 ^ 30) (hn : R.length ≤ 1048576) :
    Calls Tryd.prog 10 #[.agg #[u], .int .i64 k] w fun e w' =>
      ∃ R', e = .returned (.int .i64 (k + R.length * 7)) ∧ OwnUN w' base u R' ∧ R'.length = R.length ∧ markedN k R' R'.length ∧ w.grownBy w' u.ownBlock := by
  have hu := h.ownCells
  have hb0 : Below w.heap.size w (w.alloc (Obj.cells #[u] 30)) := (Below.refl _ _).alloc (Nat.le_refl _) _
  have HU : Hid (OwnUN (w.alloc (Obj.cells #[u] 30)) base u R) := h.below hb0
  clear h
  go_enter Tryd.func10, Tryd.ntmps10
  go_wp2_with fail
  refine (markNodeS_own base u R k _ HU.out h0 h1 hn).mono ?_
  rintro e w1 ⟨R', rfl, hU', hl, hm, hb1⟩
  have HF : Hid (OwnUN w1 base u R' ∧ R'.length = R.length ∧ markedN k R' R'.length) := ⟨hU', hl, hm⟩
  clear hU' hl hm
  go_wp2_with fail
  go_ret
  exact ⟨R', rfl, HF.out.1, HF.out.2.1, HF.out.2.2, (grown_of_below hb0 _).trans hb1⟩
end Go.Proofs.YtddemgkbfdhpnaaDoor

/-
  A run that came back: of the call's own, or nil; its marks.
-/
namespace Go.Proofs.YtddemgkbfdhpnaaDoor
open Go.ChangeShapes Go.WideShapes Go.ChangeAt Go.RowKit Go.Deep
set_option linter.unusedVariables false
set_option maxRecDepth 100000

end Go.Proofs.YtddemgkbfdhpnaaDoor

/-
  laws.toByteS, laws.eqByteS.
-/
namespace Go.Proofs.YtddemgkbfdhpnaaDoor
open Go.ChangeShapes Go.WideShapes Go.ChangeAt Go.RowKit Go.Deep
set_option linter.unusedVariables false
set_option linter.unusedSimpArgs false
set_option maxRecDepth 100000

theorem OwnY.set {w : World} {base g cp : Nat} {xs : List UInt8} (h : OwnY w base g cp xs) (k : Nat) (x : UInt8) : OwnY (w.setCell ⟨g, k, none⟩ (ub x)) base g cp (xs.set k x) := by
  have := (World.ownsRow.stored h k (ub x)).1
  unfold OwnY
  rw [List.length_set, List.map_set]
  exact this
set_option maxHeartbeats 1000000 in
theorem eqByteS_same (b off cap b' off' cap' : Nat) (xs : List UInt8) (w : World) (h : BysAt w b off xs) (h' : BysAt w b' off' xs) (hb : b < w.heap.size) (hb' : b' < w.heap.size) (hlen : xs.length ≤ maxLen) :
    Calls Tryd.prog 8 #[.slice (some ⟨b, off, none⟩) xs.length cap, .slice (some ⟨b', off', none⟩) xs.length cap'] w fun e w' => e = .returned (.bool true) ∧ Below w.heap.size w w' := by
  have HE : Hid (BysAt w b off xs ∧ BysAt w b' off' xs) := ⟨h, h'⟩
  clear h h'
  unfold maxLen at hlen
  go_enter Tryd.func8, Tryd.ntmps8
  go_wp2_with fail
  go_loopw [5] (fun i wr => ∃ (k : Nat), k ≤ xs.length ∧ i = .int .i64 k ∧ Below w.heap.size w wr) (fun i _ => xs.length - (intOf i).toNat)
  case atStart => exact ⟨0, Nat.zero_le _, rfl, Below.refl _ _⟩
  case round =>
    obtain ⟨k, hk, rfl, hbr⟩ := hrel
    by_cases hlt : k < xs.length
    · obtain ⟨x, hx⟩ : ∃ x, xs[k]? = some x := ⟨_, List.getElem?_eq_getElem hlt⟩
      have c0 := (HE.out.1.below hbr hb) k x hx
      have c1 := (HE.out.2.below hbr hb') k x hx
      have z : (k : Int) < (xs.length : Int) := by omega
      clear hx
      go_upto_region 6 with fail
      go_cut [25] (fun s wx => s = .bool false ∧ Below w.heap.size w wx)
      case first =>
        go_region
        all_goals go_wp2_with fail
        all_goals go_meet
        all_goals exact ⟨by simp, hbr.drew⟩
      case rest =>
      obtain ⟨rfl, h3⟩ := hcut
      clear c0 c1
      go_wp2_with fail
      go_roundw
      case rel => exact ⟨k + 1, by omega, by go_num, h3⟩
      case measure => simp [intOf]; omega
    · have z : ¬ (k : Int) < (xs.length : Int) := by omega
      go_wp2_with fail
      go_ret
      exact ⟨rfl, hbr⟩

theorem made_zeroY (n : Nat) : (madeCells #[.int .u8 0] n).toList = (List.replicate n (0 : UInt8)).map ub := by
  apply List.ext_getElem?
  intro j
  by_cases hj : j < n
  · rw [List.getElem?_map, List.getElem?_replicate, if_pos hj]
    simp [madeCells, hj, Nat.mod_one]
  · rw [List.getElem?_map, List.getElem?_replicate, if_neg hj]
    simp [madeCells, hj]
end Go.Proofs.YtddemgkbfdhpnaaDoor

/-
  A text of bytes that comes in, opened.
-/
namespace Go.Proofs.YtddemgkbfdhpnaaDoor
open Go.ChangeShapes Go.WideShapes Go.ChangeAt Go.RowKit Go.Deep
set_option linter.unusedVariables false
set_option linter.unusedSimpArgs false
set_option maxRecDepth 100000

def BysIn (w : World) (v : Value) (xs : List UInt8) : Prop :=
  xs.length ≤ maxLen ∧ ((xs = [] ∧ ∃ a cap, v = .slice a 0 cap) ∨ ∃ b off cap, v = .slice (some ⟨b, off, none⟩) xs.length cap ∧ b < w.heap.size ∧ BysAt w b off xs)
theorem BysIn.slice {w : World} {v : Value} {xs : List UInt8} (h : BysIn w v xs) : ∃ a cap, v = .slice a xs.length cap := by
  rcases h.2 with ⟨rfl, a, cap, rfl⟩ | ⟨b, off, cap, rfl, _⟩
  · exact ⟨_, _, rfl⟩
  · exact ⟨_, _, rfl⟩
theorem BysIn.below {w w' : World} {v : Value} {xs : List UInt8} (h : BysIn w v xs) (hb : Below w.heap.size w w') : BysIn w' v xs := by
  refine ⟨h.1, ?_⟩
  rcases h.2 with k | ⟨b, off, cap, hv, hlt, hA⟩
  · exact .inl k
  · exact .inr ⟨b, off, cap, hv, Nat.lt_of_lt_of_le hlt hb.size, hA.below hb hlt⟩
theorem bysIn_of_trod {H : Type} {enc : TypeId × Value → H} {w : World} {fuel : Nat} {v : Value} {x : DataW H × List MemPlace}
    (h : DataW.trod enc Tryd.prog w 0 (fun _ => true) true fuel 26 [v] = some x) (hlt : ∀ p ∈ x.2, p.block < w.heap.size) : ∃ xs, BysIn w v xs := by
  have hc : Tryd.prog.cellsOf 5 = 1 := by kernel_rfl
  rcases open_ints Tryd.underlying26 Tryd.underlying5 hc h with ⟨hcs, hx⟩ | ⟨a, len, cap, zs, hcs, _, hl, hm, hz, hx, hcell, hwz⟩
  · simp only [List.cons.injEq, and_true] at hcs
    exact ⟨[], Nat.zero_le _, .inl ⟨rfl, none, 0, hcs⟩⟩
  · simp only [List.cons.injEq, and_true] at hcs
    simp only [if_true] at hz
    by_cases h0 : len = 0
    · subst h0; exact ⟨[], Nat.zero_le _, .inl ⟨rfl, some a, cap, hcs⟩⟩
    · obtain ⟨ab, ao, spot⟩ := a
      have hspot : spot = none := by simpa [Addr.add] using World.cell?_spot (hcell 0 (by omega))
      subst hspot
      have hlen : ((zs.take len).map fun z => UInt8.ofNat z.toNat).length = len := by
        rw [List.length_map, List.length_take]; omega
      refine ⟨(zs.take len).map fun z => UInt8.ofNat z.toNat, by rw [hlen]; omega, .inr ⟨ab, ao, cap, by rw [hlen]; exact hcs, ?_, ?_⟩⟩
      · rw [hx] at hlt
        exact hlt (.cell ab (ao + 0)) (by simp only [MemPlace.row, List.mem_map, List.mem_range]; exact ⟨0, by omega, rfl⟩)
      · intro k y hy
        have hk : k < len := by
          have := (List.getElem?_eq_some_iff.1 hy).1
          rw [hlen] at this
          exact this
        have h1 := hcell k (by omega)
        rw [Addr.add_lit] at h1
        have hb := range_u8 hwz k
        rw [List.getD_eq_getElem?_getD] at h1
        rw [h1]
        rw [List.getElem?_map, List.getElem?_take_of_lt hk] at hy
        cases hq : zs[k]? with
        | none => rw [hq] at hy; cases hy
        | some z =>
          rw [hq] at hy hb
          simp only [Option.getD_some, Option.map_some, Option.some.injEq] at hy hb ⊢
          rw [← hy]
          show Value.int .u8 z = Value.int .u8 ((UInt8.ofNat z.toNat).toNat : Int)
          congr 1
          rw [UInt8.toNat_ofNat']
          have : z.toNat % 2 ^ 8 = z.toNat := Nat.mod_eq_of_lt (by omega)
          rw [this]; omega

end Go.Proofs.YtddemgkbfdhpnaaDoor

/-
  laws' eqFileRes, markFileRes, heldFileRes, markByteS.
-/
namespace Go.Proofs.YtddemgkbfdhpnaaDoor
open Go.ChangeShapes Go.WideShapes Go.ChangeAt Go.RowKit Go.Deep
set_option linter.unusedVariables false
set_option linter.unusedSimpArgs false
set_option maxRecDepth 100000

set_option maxHeartbeats 1000000 in
theorem markByteS_own (base g cp : Nat) (xs : List UInt8) (w : World) (h : OwnY w base g cp xs) (hn : xs.length ≤ 1048576) :
    Calls Tryd.prog 11 #[.slice (some ⟨g, 0, none⟩) xs.length cp, .int .i64 1] w fun e w' => e = .returned (.int .i64 (1 + xs.length)) ∧ w.grownBy w' (some g) := by
  have HO : Hid (OwnY w base g cp xs) := h
  clear h
  go_enter Tryd.func11, Tryd.ntmps11
  go_wp2_with fail
  go_loopw [1, 5] (fun c i wr => ∃ (k : Nat) (ys : List UInt8), k ≤ xs.length ∧ c = .int .i64 (1 + (k : Int)) ∧ i = .int .i64 k ∧ ys.length = xs.length ∧ OwnY wr base g cp ys ∧ w.grownBy wr (some g)) (fun _ i _ => xs.length - (intOf i).toNat)
  case atStart => exact ⟨0, xs, Nat.zero_le _, rfl, rfl, rfl, HO.out, grown_of_below (Below.refl _ _) _⟩
  case round =>
    obtain ⟨k, ys, hk, rfl, rfl, hyl, hY, hG⟩ := hrel
    have HY : Hid (OwnY wr base g cp ys ∧ w.grownBy wr (some g) ∧ ys.length = xs.length) := ⟨hY, hG, hyl⟩
    clear hY hG hyl
    by_cases hlt : k < xs.length
    · obtain ⟨y, hy⟩ : ∃ y, ys[k]? = some y := ⟨_, List.getElem?_eq_getElem (by rw [HY.out.2.2]; exact hlt)⟩
      have d0 := HY.out.1.at k y hy
      rw [Nat.zero_add] at d0
      have fz : wr.frozen? ⟨g, k, none⟩ = false := World.ownsRow.frozenAt HY.out.1 k
      have z : (k : Int) < (xs.length : Int) := by omega
      obtain ⟨x, hx⟩ : ∃ x : UInt8, x = UInt8.ofNat (1 + k) := ⟨_, rfl⟩
      have hv : IntKind.u8.wrap (1 + (k : Int)) = (x.toNat : Int) := by
        rw [hx, UInt8.toNat_ofNat']
        simp only [IntKind.wrap, IntKind.bits, IntKind.signed, Bool.false_and, Bool.false_eq_true, if_false]
        omega
      have HN : Hid (OwnY (wr.setCell ⟨g, k, none⟩ (ub x)) base g cp (ys.set k x) ∧ w.grownBy (wr.setCell ⟨g, k, none⟩ (ub x)) (some g)) := ⟨HY.out.1.set k x, HY.out.2.1.trans (grown_set wr g k (ub x))⟩
      clear hy hx
      go_wp2_with fail
      exact ⟨⟨k + 1, ys.set k x, by omega, by (first | rfl | (congr 1 <;> omega)), by go_num, by rw [List.length_set]; exact HY.out.2.2, HN.out.1, HN.out.2⟩, by simp [intOf]; omega⟩
    · have z : ¬ (k : Int) < (xs.length : Int) := by omega
      obtain rfl : k = xs.length := by omega
      go_wp2_with fail
      go_ret
      exact ⟨rfl, HY.out.2.1⟩
end Go.Proofs.YtddemgkbfdhpnaaDoor

/-
  The file of blocks (mathematics).
-/
namespace Go.Proofs.YtddemgkbfdhpnaaDoor
set_option linter.unusedVariables false
set_option linter.unusedSimpArgs false

/-- The first row of a block. -/
def row0 : List Ent → List UInt8
  | [] => []
  | e :: _ => bl e.row
def sumOf (xs : List UInt8) : List UInt8 := fixed (crc xs).toNat
theorem sumOf_len (xs : List UInt8) : (sumOf xs).length = 4 := rfl
def fblock (es : List Ent) : List UInt8 := body [] es ++ sumOf (body [] es)
def fblocks (bs : List (List Ent)) : List UInt8 := bs.flatMap fblock
def fone (es : List Ent) : List UInt8 := num (body [] es).length ++ num es.length ++ strB (row0 es)
def fones (bs : List (List Ent)) : List UInt8 := bs.flatMap fone
def findex (bs : List (List Ent)) : List UInt8 := num bs.length ++ fones bs
def headB : List UInt8 := [82, 85, 78, 49]
def fileM (bs : List (List Ent)) : List UInt8 := headB ++ fblocks bs ++ findex bs ++ sumOf (findex bs) ++ fixed (findex bs).length
theorem fblocks_snoc (bs : List (List Ent)) (es : List Ent) : fblocks (bs ++ [es]) = fblocks bs ++ body [] es ++ sumOf (body [] es) := by
  simp [fblocks, fblock]
theorem fones_snoc (bs : List (List Ent)) (es : List Ent) : fones (bs ++ [es]) = fones bs ++ num (body [] es).length ++ num es.length ++ strB (row0 es) := by
  simp [fones, fone]
/-- What a block may be. -/
structure OkB (es : List Ent) : Prop where
  vld : ∀ e ∈ es, e.vld = true
  ok : ∀ e ∈ es, e.ok
  ne : 0 < es.length
theorem OkB.ts {es : List Ent} (h : OkB es) : ∀ e ∈ es, e.ts.toNat < 2 ^ 64 := fun e he => by have := wf_u64 (h.ok e he).ts; omega
theorem row0_len {es : List Ent} (h : OkB es) : (row0 es).length ≤ 64 := by
  cases es with
  | nil => simp [row0]
  | cons e es => have := vld_parts (h.vld e (by simp)); simp only [row0, bl_len]; omega
theorem fblocks_len : ∀ (bs : List (List Ent)), (∀ es ∈ bs, OkB es) → (fblocks bs).length ≤ 500 * bs.flatten.length + 4 * bs.length
  | [], _ => by simp [fblocks]
  | es :: bs, h => by
    have h1 := body_len es [] (h es (by simp)).vld (h es (by simp)).ts
    have h2 := fblocks_len bs (fun x hx => h x (by simp [hx]))
    simp only [fblocks, List.flatMap_cons, List.length_append, fblock, sumOf_len, List.flatten_cons, List.length_cons] at h2 ⊢
    omega
theorem fone_len {es : List Ent} (h : OkB es) (hl : es.length ≤ 10000) : (fone es).length ≤ 100 := by
  have h1 := body_len es [] h.vld h.ts
  have l1 := num_len64 (n := (body [] es).length) (by omega)
  have l2 := num_len64 (n := es.length) (by omega)
  have l3 := row0_len h
  have l4 := strB_len (s := row0 es) (by omega)
  simp only [fone, List.length_append]
  omega
theorem fones_len : ∀ (bs : List (List Ent)), (∀ es ∈ bs, OkB es) → bs.flatten.length ≤ 10000 → (fones bs).length ≤ 100 * bs.length
  | [], _, _ => by simp [fones]
  | es :: bs, h, hl => by
    simp only [List.flatten_cons, List.length_append] at hl
    have h1 := fone_len (h es (by simp)) (by omega)
    have h2 := fones_len bs (fun x hx => h x (by simp [hx])) (by omega)
    simp only [fones, List.flatMap_cons, List.length_append, List.length_cons] at h2 ⊢
    omega
theorem flatten_take (bs : List (List Ent)) (k : Nat) : (bs.take k).flatten.length ≤ bs.flatten.length := by
  have : bs.flatten = (bs.take k).flatten ++ (bs.drop k).flatten := by rw [← List.flatten_append, List.take_append_drop]
  rw [this, List.length_append]
  omega
theorem flatten_mem {bs : List (List Ent)} {es : List Ent} (h : es ∈ bs) : es.length ≤ bs.flatten.length := by
  obtain ⟨s, t, rfl⟩ := List.append_of_mem h
  simp
  omega
theorem blocks_many : ∀ (bs : List (List Ent)), (∀ es ∈ bs, OkB es) → bs.length ≤ bs.flatten.length
  | [], _ => by simp
  | es :: bs, h => by
    have h1 := (h es (by simp)).ne
    have h2 := blocks_many bs (fun x hx => h x (by simp [hx]))
    simp only [List.flatten_cons, List.length_append, List.length_cons]
    omega
end Go.Proofs.YtddemgkbfdhpnaaDoor

/-
  A run cut into blocks (mathematics).
-/
namespace Go.Proofs.YtddemgkbfdhpnaaDoor
set_option linter.unusedVariables false
set_option linter.unusedSimpArgs false

def chunks (p : Nat) (es : List Ent) : List (List Ent) :=
  if h : p < es.length ∧ 0 < p then es.take p :: chunks p (es.drop p) else if es.length = 0 then [] else [es]
termination_by es.length
decreasing_by simp; omega
theorem chunks_more {p : Nat} {es : List Ent} (h : p < es.length) (hp : 0 < p) : chunks p es = es.take p :: chunks p (es.drop p) := by
  rw [chunks, dif_pos ⟨h, hp⟩]
theorem chunks_nil (p : Nat) : chunks p [] = [] := by
  rw [chunks, dif_neg (by simp)]; rfl
theorem chunks_last {p : Nat} {es : List Ent} (h : ¬ p < es.length) (h0 : 0 < es.length) : chunks p es = [es] := by
  rw [chunks, dif_neg (by omega), if_neg (by omega)]
theorem chunks_flatten (p : Nat) : ∀ (n : Nat) (es : List Ent), es.length ≤ n → (chunks p es).flatten = es
  | 0, es, h => by rw [List.length_eq_zero_iff.1 (Nat.le_zero.1 h), chunks_nil]; rfl
  | n + 1, es, h => by
    by_cases h1 : p < es.length ∧ 0 < p
    · rw [chunks_more h1.1 h1.2, List.flatten_cons, chunks_flatten p n (es.drop p) (by simp; omega), List.take_append_drop]
    · by_cases h0 : es.length = 0
      · rw [List.length_eq_zero_iff.1 h0, chunks_nil]; rfl
      · rw [chunks, dif_neg h1, if_neg h0]; simp
theorem chunks_mem (p : Nat) : ∀ (n : Nat) (es : List Ent), es.length ≤ n → ∀ c ∈ chunks p es, 0 < c.length ∧ (0 < p → c.length ≤ p) ∧ ∀ e ∈ c, e ∈ es
  | 0, es, h, c, hc => by rw [List.length_eq_zero_iff.1 (Nat.le_zero.1 h), chunks_nil] at hc; simp at hc
  | n + 1, es, h, c, hc => by
    by_cases h1 : p < es.length ∧ 0 < p
    · rw [chunks_more h1.1 h1.2] at hc
      rcases List.mem_cons.1 hc with rfl | hc
      · exact ⟨by simp; omega, fun _ => by simp; omega, fun e he => List.mem_of_mem_take he⟩
      · obtain ⟨q1, q2, q3⟩ := chunks_mem p n (es.drop p) (by simp; omega) c hc
        exact ⟨q1, q2, fun e he => List.mem_of_mem_drop (q3 e he)⟩
    · by_cases h0 : es.length = 0
      · rw [List.length_eq_zero_iff.1 h0, chunks_nil] at hc; simp at hc
      · rw [chunks, dif_neg h1, if_neg h0] at hc
        simp at hc
        subst hc
        exact ⟨by omega, fun hp => by omega, fun e he => he⟩
theorem chunks_ok {p : Nat} {es : List Ent} (hv : ∀ e ∈ es, e.vld = true) (hk : ∀ e ∈ es, e.ok) : ∀ c ∈ chunks p es, OkB c := by
  intro c hc
  obtain ⟨h1, _, h3⟩ := chunks_mem p _ es (Nat.le_refl _) c hc
  exact ⟨fun e he => hv e (h3 e he), fun e he => hk e (h3 e he), h1⟩
/-- What spec.EncodeRun answers. -/
def EncOf (es : List Ent) (per : Int) (xs : List UInt8) : Prop := (GoodR es ∧ 1 ≤ per ∧ per ≤ 1000 → xs = fileM (chunks per.toNat es)) ∧ (¬ (GoodR es ∧ 1 ≤ per ∧ per ≤ 1000) → xs = [])
theorem encOf_uniq {es : List Ent} {per : Int} {xs ys : List UInt8} (h : EncOf es per xs) (k : EncOf es per ys) : xs = ys := by
  by_cases g : GoodR es ∧ 1 ≤ per ∧ per ≤ 1000
  · rw [h.1 g, k.1 g]
  · rw [h.2 g, k.2 g]
end Go.Proofs.YtddemgkbfdhpnaaDoor

/-
  The laws' marks of bytes, laid and looked for; how long a file of a run is.
-/
namespace Go.Proofs.YtddemgkbfdhpnaaDoor
open Go.ChangeShapes Go.WideShapes Go.ChangeAt Go.RowKit Go.Deep
set_option linter.unusedVariables false
set_option maxRecDepth 100000

theorem encOf_len {es : List Ent} {per : Int} {xs : List UInt8} (h : EncOf es per xs) (hok : ∀ e ∈ es, e.ok) : xs.length ≤ 20000000 := by
  by_cases hg : GoodR es ∧ 1 ≤ per ∧ per ≤ 1000
  · have hx := h.1 hg
    have h1 : ∀ c ∈ chunks per.toNat es, OkB c := chunks_ok hg.1.1.2 hok
    have h2 : (chunks per.toNat es).flatten.length ≤ 10000 := by rw [chunks_flatten _ _ es (Nat.le_refl _)]; exact hg.1.1.1
    have h3 := blocks_many _ h1
    have h4 := fblocks_len _ h1
    have h5 := fones_len _ h1 h2
    have h6 := num_len64 (n := (chunks per.toNat es).length) (by omega)
    rw [hx]
    unfold fileM findex
    have h7 : headB.length = 4 := rfl
    have h8 : ∀ l, (sumOf l).length = 4 := sumOf_len
    have h9 : ∀ n, (fixed n).length = 4 := fun _ => rfl
    simp only [List.length_append, h7, h8, h9]
    omega
  · rw [h.2 hg]; simp

/-- The bytes from 'k' on are marks. -/
def MarkY (ys : List UInt8) (n : Nat) : Prop := ∀ i y, i < n → ys[i]? = some y → IntKind.u8.wrap (1 + (i : Int)) = (y.toNat : Int)

set_option maxHeartbeats 1000000 in
theorem markByteS_all (base g cp : Nat) (xs : List UInt8) (w : World) (h : OwnY w base g cp xs) (hn : xs.length ≤ 20000000) :
    Calls Tryd.prog 11 #[.slice (some ⟨g, 0, none⟩) xs.length cp, .int .i64 1] w fun e w' => e = .returned (.int .i64 (1 + xs.length)) ∧ w.grownBy w' (some g) ∧ ∃ ys, ys.length = xs.length ∧ OwnY w' base g cp ys ∧ MarkY ys ys.length := by
  have HO : Hid (OwnY w base g cp xs) := h
  clear h
  go_enter Tryd.func11, Tryd.ntmps11
  go_wp2_with fail
  go_loopw [1, 5] (fun c i wr => ∃ (k : Nat) (ys : List UInt8), k ≤ xs.length ∧ c = .int .i64 (1 + (k : Int)) ∧ i = .int .i64 k ∧ ys.length = xs.length ∧ OwnY wr base g cp ys ∧ w.grownBy wr (some g) ∧ MarkY ys k) (fun _ i _ => xs.length - (intOf i).toNat)
  case atStart => exact ⟨0, xs, Nat.zero_le _, rfl, rfl, rfl, HO.out, grown_of_below (Below.refl _ _) _, fun i y q => absurd q (Nat.not_lt_zero _)⟩
  case round =>
    obtain ⟨k, ys, hk, rfl, rfl, hyl, hY, hG, hMk⟩ := hrel
    have HY : Hid (OwnY wr base g cp ys ∧ w.grownBy wr (some g) ∧ ys.length = xs.length ∧ MarkY ys k) := ⟨hY, hG, hyl, hMk⟩
    clear hY hG hyl hMk
    by_cases hlt : k < xs.length
    · obtain ⟨y, hy⟩ : ∃ y, ys[k]? = some y := ⟨_, List.getElem?_eq_getElem (by rw [HY.out.2.2.1]; exact hlt)⟩
      have d0 := HY.out.1.at k y hy
      rw [Nat.zero_add] at d0
      have fz : wr.frozen? ⟨g, k, none⟩ = false := World.ownsRow.frozenAt HY.out.1 k
      have z : (k : Int) < (xs.length : Int) := by omega
      obtain ⟨x, hx⟩ : ∃ x : UInt8, x = UInt8.ofNat (1 + k) := ⟨_, rfl⟩
      have hv : IntKind.u8.wrap (1 + (k : Int)) = (x.toNat : Int) := by
        rw [hx, UInt8.toNat_ofNat']
        simp only [IntKind.wrap, IntKind.bits, IntKind.signed, Bool.false_and, Bool.false_eq_true, if_false]
        omega
      have HN : Hid (OwnY (wr.setCell ⟨g, k, none⟩ (ub x)) base g cp (ys.set k x) ∧ w.grownBy (wr.setCell ⟨g, k, none⟩ (ub x)) (some g) ∧ MarkY (ys.set k x) (k + 1)) := by
        refine ⟨HY.out.1.set k x, HY.out.2.1.trans (grown_set wr g k (ub x)), ?_⟩
        intro i y' hi hy'
        by_cases hik : i = k
        · subst hik
          rw [List.getElem?_set_self (by rw [HY.out.2.2.1]; exact hlt)] at hy'
          cases hy'
          exact hv
        · rw [List.getElem?_set_ne (fun q => hik q.symm)] at hy'
          exact HY.out.2.2.2 i y' (by omega) hy'
      clear hy hx
      go_wp2_with fail
      exact ⟨⟨k + 1, ys.set k x, by omega, by (first | rfl | (congr 1 <;> omega)), by go_num, by rw [List.length_set]; exact HY.out.2.2.1, HN.out.1, HN.out.2.1, HN.out.2.2⟩, by simp [intOf]; omega⟩
    · have z : ¬ (k : Int) < (xs.length : Int) := by omega
      obtain rfl : k = xs.length := by omega
      go_wp2_with fail
      go_ret
      exact ⟨rfl, HY.out.2.1, ys, HY.out.2.2.1, HY.out.1, by rw [HY.out.2.2.1]; exact HY.out.2.2.2⟩

set_option maxHeartbeats 1000000 in
theorem heldByteS_own (base g cp m : Nat) (ys : List UInt8) (w : World) (h : OwnY w base g cp ys) (hm : MarkY ys ys.length) (hl : ys.length = m) (hn : m ≤ 20000000) :
    Calls Tryd.prog 12 #[.slice (some ⟨g, 0, none⟩) m cp, .int .i64 1] w fun e w' => e = .returned (.int .i64 (1 + m)) ∧ Below w.heap.size w w' := by
  have HO : Hid (OwnY w base g cp ys ∧ MarkY ys ys.length ∧ ys.length = m) := ⟨h, hm, hl⟩
  clear h hm hl
  go_enter Tryd.func12, Tryd.ntmps12
  go_wp2_with fail
  go_loopw [1, 5] (fun c i wr => ∃ (k : Nat), k ≤ m ∧ c = .int .i64 (1 + (k : Int)) ∧ i = .int .i64 k ∧ Below w.heap.size w wr) (fun _ i _ => m - (intOf i).toNat)
  case atStart => exact ⟨0, Nat.zero_le _, rfl, rfl, Below.refl _ _⟩
  case round =>
    obtain ⟨k, hk, rfl, rfl, hB⟩ := hrel
    have HB : Hid (Below w.heap.size w wr) := hB
    by_cases hlt : k < m
    · obtain ⟨y, hy⟩ : ∃ y, ys[k]? = some y := ⟨_, List.getElem?_eq_getElem (by rw [HO.out.2.2]; exact hlt)⟩
      have d0 := (HO.out.1.below hB).at k y hy
      rw [Nat.zero_add] at d0
      have z : (k : Int) < (m : Int) := by omega
      have hv := HO.out.2.1 k y (by rw [HO.out.2.2]; exact hlt) hy
      clear hy hB
      go_wp2_with fail
      exact ⟨⟨k + 1, by omega, by (first | rfl | (congr 1 <;> omega)), by go_num, by have := HB.out; exact this⟩, by simp [intOf]; omega⟩
    · have z : ¬ (k : Int) < (m : Int) := by omega
      obtain rfl : k = m := by omega
      clear hB
      go_wp2_with fail
      go_ret
      exact ⟨rfl, HB.out⟩
end Go.Proofs.YtddemgkbfdhpnaaDoor

/-
  The law FnExactPrintFilter: the walk.
-/
namespace Go.Proofs.YtddemgkbfdhpnaaDoor.exPrint
open Go.ChangeShapes Go.WideShapes Go.ChangeAt Go.RowKit Go.Deep
set_option linter.unusedVariables false
set_option linter.unusedSimpArgs false
set_option maxRecDepth 100000

theorem toFilter_in (W0 : World) (u : Value) (es : List Nd) (w : World) (hb : Below W0.heap.size W0 w) (h : Hid (InNds W0 u es)) (h1 : es.length ≤ 1048576) :
    Calls Tryd.prog 6 #[.agg #[u]] w fun e w' =>
      ∃ g, e = .returned (.agg #[.slice (some ⟨g, 0, none⟩) es.length es.length]) ∧ Hid (InNds w' (.slice (some ⟨g, 0, none⟩) es.length es.length) es) ∧ Below W0.heap.size W0 w' ∧ (∀ b o, b < W0.heap.size → w'.cell? ⟨b, o, none⟩ = W0.cell? ⟨b, o, none⟩) := by
  refine (toFilter_any u es w (h.out.below hb (Nat.le_refl _)) h1).mono ?_
  rintro e w' ⟨g, he, hO, hb'⟩
  have k := hb.trans (hb'.mono hb.size)
  exact ⟨g, he, InNds.own hO rfl, k, fun b o hlt => k.cell (p := ⟨b, o, none⟩) hlt⟩
theorem eqFilter_in (W0 : World) (u u' : Value) (es : List Nd) (w : World) (hb : Below W0.heap.size W0 w) (h : Hid (InNds W0 u es)) (h' : Hid (InNds w u' es)) :
    Calls Tryd.prog 9 #[.agg #[u], .agg #[u']] w fun e w' => e = .returned (.bool true) ∧ Below W0.heap.size W0 w' := by
  refine (eqFilter_any u u' es w (h.out.below hb (Nat.le_refl _)) h'.out).mono ?_
  rintro e w' ⟨he, hb'⟩
  exact ⟨he, hb.trans (hb'.mono hb.size)⟩

set_option maxHeartbeats 8000000 in
theorem walk (u : Value) (es : List Nd) (w : World) (h : InNds w u es) (hok : ∀ e ∈ es, e.ok) (hGl : Gl w) (hB : 5 ≤ w.heap.size) :
    Calls Tryd.prog 3 #[.agg #[u]] w fun e w' => e = .returned (.bool true) ∧ Below w.heap.size w w' := by
  have HE : Hid (InNds w u es ∧ (∀ e ∈ es, e.ok) ∧ Gl w) := ⟨h, hok, hGl⟩
  have hu : u.cells = #[u] := by
    rcases h with ⟨a, cap, rfl, _⟩ | ⟨b, off, cap, rfl, _⟩ <;> rfl
  clear h hok hGl
  obtain ⟨W0, hW0⟩ : ∃ W0 : World, W0 = w.alloc (Obj.cells #[u] 24) := ⟨_, rfl⟩
  have hb0 : Below w.heap.size w W0 := by rw [hW0]; exact (Below.refl _ _).alloc (Nat.le_refl _) _
  have hz0 : w.heap.size < W0.heap.size := by rw [hW0]; simp
  have ca : W0.cell? ⟨w.heap.size, 0, none⟩ = some u := by rw [hW0]; simp
  have HE0 : Hid (InNds W0 u es) := HE.out.1.below hb0 (Nat.le_refl _)
  have HA : Hid (∀ wx, Below W0.heap.size W0 wx → wx.cell? ⟨w.heap.size, 0, none⟩ = some u ∧ InNds wx u es ∧ Gl wx) := fun wx hx => ⟨by rw [hx.cell (p := ⟨w.heap.size, 0, none⟩) hz0]; exact ca, HE0.out.below hx (Nat.le_refl _), (HE.out.2.2.on hb0 hB).on hx (by omega)⟩
  go_enter Tryd.func3, Tryd.ntmps3
  go_wp2_with fail
  rw [← hW0]
  clear hW0
  refine (szFilter_any u es _ _ HE0.out HE.out.2.1 (by omega) (by omega)).mono ?_
  rintro e w1 ⟨x, rfl, hx, hb1⟩
  have hs1 := hb1.size
  by_cases hx0 : x < 0
  · clear hx
    go_wp2_with fail
    go_ret
    exact ⟨rfl, hb0.trans (hb1.mono (by omega))⟩
  have hn : es.length ≤ 1048576 := by omega
  clear hx ca
  obtain ⟨ca, hE1, _⟩ := HA.out w1 hb1
  have HE1 : Hid (InNds w1 u es) := hE1
  clear hE1
  go_wp2_with fail
  refine (toFilter_any u es _ HE1.out hn).mono ?_
  rintro e w2 ⟨g, rfl, hO, hb2⟩
  have hs2 := hb2.size
  have HO : Hid (OwnNd w2 w1.heap.size g es.length es) := hO
  have j2 : Below W0.heap.size W0 w2 := hb1.trans (hb2.mono (by omega))
  clear hO ca
  go_wp2_with fail
  refine (specPrint_core HO.out HE.out.2.1 (by omega)).mono ?_
  rintro e w3 ⟨b0, c0, R, rfl, hU3, hR3, hb3⟩
  have s3 := hb3.size
  have hRl : R.length ≤ 400000 := prtOf_len hR3 HE.out.2.1
  have hl0 := hU3.le
  have hl0' := hU3.lt
  have HU3 : Hid (WrB w3 w2.heap.size b0 c0 R ∧ PrtOf es R) := ⟨hU3, hR3⟩
  clear hU3 hR3
  have j3 : Below W0.heap.size W0 w3 := j2.trans (hb3.mono (by omega))
  obtain ⟨ca, hE3, _⟩ := HA.out w3 j3
  have HE3 : Hid (InNds w3 u es) := hE3
  clear hE3
  go_wp2_with fail
  refine (toFilter_any u es _ HE3.out hn).mono ?_
  rintro e w5 ⟨gx, rfl, hO5, hb5⟩
  have s5 := hb5.size
  have hgx := hO5.lt
  have HX5 : Hid (OwnNd w5 w3.heap.size gx es.length es) := hO5
  clear hO5 ca
  obtain ⟨W6, hW6⟩ : ∃ W6 : World, W6 = w5.alloc (Obj.cells #[.slice (some ⟨gx, 0, none⟩) es.length es.length] 30) := ⟨_, rfl⟩
  have hb6 : Below w5.heap.size w5 W6 := by rw [hW6]; exact (Below.refl _ _).alloc (Nat.le_refl _) _
  have s6 : W6.heap.size = w5.heap.size + 1 := by rw [hW6]; simp
  have HC6 : Hid (W6.cell? ⟨w5.heap.size, 0, none⟩ = some (.slice (some ⟨gx, 0, none⟩) es.length es.length)) := by show W6.cell? _ = _; rw [hW6]; simp
  have HX6 : Hid (OwnNd W6 w3.heap.size gx es.length es) := HX5.out.below hb6 HX5.out.lt.2
  have k36 : Below w3.heap.size w3 W6 := hb5.trans (hb6.mono (by omega))
  have j6 : Below W0.heap.size W0 W6 := j3.trans (k36.mono j3.size)
  go_upto_region 7 with fail
  rw [← hW6]
  clear hW6
  have cx := HC6.out
  have s0 := j6.size
  go_wp2_with fail
  refine (implPrint_core HX6.out HE.out.2.1 (HA.out W6 j6).2.2 (by omega)).mono ?_
  rintro e w7 ⟨b1, c1, R', rfl, hU7, hR7, hb7⟩
  have s7 := hb7.size
  obtain rfl : R = R' := prtOf_one HU3.out.2 hR7
  have hl1 := hU7.lt
  have HU7 : Hid (OwnY w7 W6.heap.size b1 c1 R ∧ WrB w7 w2.heap.size b0 c0 R ∧ OwnNd w7 w3.heap.size gx es.length es) := ⟨hU7, (HU3.out.1.below k36).below hb7, HX6.out.below hb7 HX6.out.lt.2⟩
  have j7 : Below W0.heap.size W0 w7 := j6.trans (hb7.mono j6.size)
  clear hU7 hR7 cx
  have HC7 : Hid (w7.cell? ⟨w5.heap.size, 0, none⟩ = some (.slice (some ⟨gx, 0, none⟩) es.length es.length)) := by
    show w7.cell? _ = _
    rw [hb7.cell (p := ⟨w5.heap.size, 0, none⟩) (by show w5.heap.size < W6.heap.size; omega)]; exact HC6.out
  go_wp2_with fail
  refine (eqByteS_same b1 0 c1 b0 0 c0 R _ HU7.out.1.wr.at_ HU7.out.2.1.at_ hl1.2 (by omega) (by unfold maxLen; omega)).mono ?_
  rintro e w9 ⟨rfl, hb9⟩
  have s9 := hb9.size
  have j9 : Below W0.heap.size W0 w9 := j7.trans (hb9.mono j7.size)
  have HC9 : Hid (w9.cell? ⟨w5.heap.size, 0, none⟩ = some (.slice (some ⟨gx, 0, none⟩) es.length es.length)) := by
    show w9.cell? _ = _
    rw [hb9.cell (p := ⟨w5.heap.size, 0, none⟩) (by show w5.heap.size < w7.heap.size; omega)]; exact HC7.out
  have HU9 : Hid (OwnY w9 W6.heap.size b1 c1 R ∧ WrB w9 w2.heap.size b0 c0 R ∧ OwnNd w9 w3.heap.size gx es.length es) := ⟨HU7.out.1.below hb9, HU7.out.2.1.below hb9, HU7.out.2.2.below hb9 (by omega)⟩
  obtain ⟨cx9, ca9⟩ : w9.cell? ⟨w5.heap.size, 0, none⟩ = some (.slice (some ⟨gx, 0, none⟩) es.length es.length) ∧ w9.cell? ⟨w.heap.size, 0, none⟩ = some u := ⟨HC9.out, (HA.out w9 j9).1⟩
  have HE9 : Hid (InNds w9 u es) := (HA.out w9 j9).2.1
  go_upto_region 10 with fail
  go_cut [31] (fun s wx => s = .bool false ∧ Below w9.heap.size w9 wx)
  case first =>
    have hz9 : w5.heap.size < w9.heap.size := by omega
    have hza : w.heap.size < w9.heap.size := by omega
    have HX9 : Hid (InNds w9 (.slice (some ⟨gx, 0, none⟩) es.length es.length) es) := InNds.own HU9.out.2.2 rfl
    go_region_with (first
      | (go_at_call 6; refine (toFilter_in w9 u es _ ?hB HE9 hn).mono ?_; (case hB => (repeat (first | assumption | exact Below.refl _ _ | refine Below.drew ?_))); rintro e w' ⟨g3, rfl, HG, hbb, hcc⟩)
      | (go_at_call 9; refine (eqFilter_in w9 _ _ es _ ?hB HX9 ?hC).mono ?_; (case hB => (repeat (first | assumption | exact Below.refl _ _ | refine Below.drew ?_))); (case hC => assumption); rintro e w' ⟨rfl, hbb2⟩))
    all_goals go_wp2_with fail
    all_goals go_meet
    all_goals exact ⟨rfl, by assumption⟩
  case rest =>
  obtain ⟨rfl, hb10⟩ := hcut
  obtain ⟨w10, hw10⟩ : ∃ w10 : World, w10 = wc := ⟨_, rfl⟩
  subst hw10
  have s10 := hb10.size
  have HC10 : Hid (w10.cell? ⟨w5.heap.size, 0, none⟩ = some (.slice (some ⟨gx, 0, none⟩) es.length es.length)) := by
    show w10.cell? _ = _
    rw [hb10.cell (p := ⟨w5.heap.size, 0, none⟩) (by show w5.heap.size < w9.heap.size; omega)]; exact HC9.out
  have HU10 : Hid (OwnY w10 W6.heap.size b1 c1 R ∧ WrB w10 w2.heap.size b0 c0 R ∧ OwnUN w10 w3.heap.size (.slice (some ⟨gx, 0, none⟩) es.length es.length) es) := ⟨HU9.out.1.below hb10, HU9.out.2.1.below hb10, .inr ⟨gx, es.length, rfl, HU9.out.2.2.below hb10 (by omega)⟩⟩
  have j10 : Below W0.heap.size W0 w10 := j9.trans (hb10.mono j9.size)
  clear cx9 ca9
  have cx10 := HC10.out
  go_wp2_with fail
  refine (markFilter_own w3.heap.size _ es 1 _ HU10.out.2.2 (by omega) (by omega) hn).mono ?_
  rintro e w11 ⟨E1, rfl, _, _, _, hg11⟩
  have hg11' : w10.grownBy w11 (some gx) := hg11
  clear hg11
  have s11 := hg11'.size
  have HU11 : Hid (OwnY w11 W6.heap.size b1 c1 R ∧ WrB w11 w2.heap.size b0 c0 R) :=
    ⟨HU10.out.1.chg (Chg.of_grown (S := fun k => k = gx) hg11' (fun k hk => by cases hk; rfl)) (fun q => by omega), HU10.out.2.1.chg (Chg.of_grown (S := fun k => k = gx) hg11' (fun k hk => by cases hk; rfl)) (fun q => by omega)⟩
  have j11 : Below W0.heap.size W0 w11 := j10.grown hg11' j10.size (fun k hk => by cases hk; have := j3.size; omega)
  clear hg11' cx10
  have hk1 : ¬ (1 + (es.length : Int) * 7 < 0) := by omega
  go_wp2_with fail
  refine (eqByteS_same b1 0 c1 b0 0 c0 R _ HU11.out.1.wr.at_ HU11.out.2.at_ (by omega) (by omega) (by unfold maxLen; omega)).mono ?_
  rintro e w12 ⟨rfl, hb12⟩
  have s12 := hb12.size
  have HU12 : Hid (OwnY w12 W6.heap.size b1 c1 R ∧ WrB w12 w2.heap.size b0 c0 R) := ⟨HU11.out.1.below hb12, HU11.out.2.below hb12⟩
  have j12 : Below W0.heap.size W0 w12 := j11.trans (hb12.mono j11.size)
  clear hk1
  go_wp2_with fail
  refine (markByteS_all W6.heap.size b1 c1 R _ HU12.out.1 (by omega)).mono ?_
  rintro e w13 ⟨rfl, hg13, R1, hl13, hU13, hm13⟩
  have s13 := hg13.size
  have HU13 : Hid (WrB w13 w2.heap.size b0 c0 R) := HU12.out.2.chg (Chg.of_grown (S := fun k => k = b1) hg13 (fun k hk => by cases hk; rfl)) (fun q => by omega)
  have HM13 : Hid (OwnY w13 W6.heap.size b1 c1 R1 ∧ MarkY R1 R1.length) := ⟨hU13, hm13⟩
  have j13 : Below W0.heap.size W0 w13 := j12.grown hg13 j12.size (fun j hj => by cases hj; have := j6.size; omega)
  have HRl : Hid (R1.length = R.length) := hl13
  clear hU13 hm13 hg13 hl13
  go_wp2_with fail
  refine (heldByteS_own W6.heap.size b1 c1 R.length R1 _ HM13.out.1 HM13.out.2 HRl.out (by omega)).mono ?_
  rintro e w14 ⟨rfl, hb14⟩
  have s14 := hb14.size
  have HU14 : Hid (WrB w14 w2.heap.size b0 c0 R) := HU13.out.below hb14
  have j14 : Below W0.heap.size W0 w14 := j13.trans (hb14.mono j13.size)
  have hk2 : (0 : Int) ≤ 1 + (R.length : Int) := by omega
  obtain ⟨ca, hE14, _⟩ := HA.out w14 j14
  have HE14 : Hid (InNds w14 u es) := hE14
  clear hE14
  go_wp2_with fail
  refine (toFilter_any u es _ HE14.out hn).mono ?_
  rintro e w15 ⟨gz, rfl, hO15, hb15⟩
  have s15 := hb15.size
  have HZ15 : Hid (OwnNd w15 w14.heap.size gz es.length es) := hO15
  have j15 : Below W0.heap.size W0 w15 := j14.trans (hb15.mono j14.size)
  clear hO15 ca
  go_wp2_with fail
  refine (implPrint_core HZ15.out HE.out.2.1 (HA.out w15 j15).2.2 (by omega)).mono ?_
  rintro e w16 ⟨b2, c2, R2, rfl, hU16, hR16, hb16⟩
  have s16 := hb16.size
  have hl2 := hU16.lt
  obtain rfl : R = R2 := prtOf_one HU3.out.2 hR16
  have HU16 : Hid (OwnY w16 w15.heap.size b2 c2 R ∧ WrB w16 w2.heap.size b0 c0 R) := ⟨hU16, (HU14.out.below hb15).below hb16⟩
  have j16 : Below W0.heap.size W0 w16 := j15.trans (hb16.mono j15.size)
  clear hU16 hR16
  go_wp2_with fail
  refine (eqByteS_same b2 0 c2 b0 0 c0 R _ HU16.out.1.wr.at_ HU16.out.2.at_ hl2.2 (by omega) (by unfold maxLen; omega)).mono ?_
  rintro e w18 ⟨rfl, hb18⟩
  have k18 : Below w.heap.size w w18 := hb0.trans ((j16.trans (hb18.mono j16.size)).mono (by omega))
  go_wp2_with fail
  go_ret
  exact ⟨rfl, k18⟩
end Go.Proofs.YtddemgkbfdhpnaaDoor.exPrint

/-
  What the tables' premise says.
-/
namespace Go.Proofs.YtddemgkbfdhpnaaDoor.exPrint
open Go.ChangeShapes Go.WideShapes Go.ChangeAt Go.WideMaps Go.WideElems Go.RowKit
set_option linter.unusedVariables false
set_option linter.unusedSimpArgs false
set_option maxRecDepth 100000

theorem gWords : Tryd.prog.globalNamed "loop.example/s01854/impl.nodeWords" = some 0 := by kernel_rfl
theorem tWords : (Tryd.prog.globals[0]?).map (·.type) = some 70 := by kernel_rfl
theorem tPows : (Tryd.prog.globals[2]?).map (·.type) = some 120 := by kernel_rfl
theorem gD64 : Tryd.prog.globalNamed "math/bits.deBruijn64tab" = some 4 := by kernel_rfl
theorem cStr : Tryd.prog.cellsOf 9 = 1 := by kernel_rfl
theorem cU64 : Tryd.prog.cellsOf 49 = 1 := by kernel_rfl
theorem cPows : Tryd.prog.cellsOf 120 = 20 := by kernel_rfl
theorem var_lt {P : Program} {W : World} {n : String} {g : Nat} {cs : Array Value} (hg : P.globalNamed n = some g) (h : W.var? P n = some cs) : g < W.heap.size := by
  unfold World.var? at h
  rw [hg] at h
  simp only [Option.bind_some] at h
  by_cases hlt : g < W.heap.size
  · exact hlt
  · rw [Array.getElem?_eq_none (by omega)] at h
    simp at h
/-- A table of strings, its cells. -/
theorem strs_of_tab {H : Type} {enc : TypeId × Value → H} {P : Program} {w : World} {base : Nat} {sp : Nat → Bool} {held : Bool} {fuel : Nat} {t e : TypeId} {n : Nat} {cs : List Value} {zs : List (List UInt8)} {p : List MemPlace}
    (ht : P.underlying t = some (.array n e)) (he : P.underlying e = some .string) (hce : P.cellsOf e = 1)
    (h : DataW.trod enc P w base sp held fuel t cs = some (.agg (zs.map fun z => .lit (.string z)), p)) : ∀ (i : Nat) (z : List UInt8), zs[i]? = some z → cs[i]? = some (Value.string ⟨z.toArray⟩) := by
  obtain ⟨xs, m, rfl, hx, hl, hn, hel⟩ := DataW.trod_array ht h
  simp only [Prod.mk.injEq, DataW.agg.injEq] at hx
  intro i z hz
  have hlen : zs.length = n := by have := congrArg List.length hx.1; simpa [hn] using this
  have hi : i < n := by have := (List.getElem?_eq_some_iff.1 hz).1; omega
  have h1 := hel i hi
  rw [hce, Nat.mul_one] at h1
  obtain ⟨y, hy⟩ : ∃ y, xs[i]? = some y := ⟨_, List.getElem?_eq_getElem (by omega)⟩
  rw [hy] at h1
  obtain ⟨s, hc, rfl, _⟩ := DataW.trod_string he h1
  have h2 := congrArg (fun l => l[i]?) hx.1
  simp only [List.getElem?_map, hz, hy, Option.map_some, Option.some.injEq, DataW.lit.injEq, Lit.string.injEq] at h2
  have h3 : cs[i]? = some (.string s) := by
    have : ((cs.drop i).take 1)[0]? = some (.string s) := by rw [hc]; rfl
    simpa [List.getElem?_take, List.getElem?_drop] using this
  rw [h3, h2, Lib.mk_data]

theorem of_laid {W : World} (h : laidMetH Tryd.prog Rows.fnExactPrintFilterRow.laid W) : Gl W ∧ 5 ≤ W.heap.size := by
  have h' : laidMetH Tryd.prog [("math/bits.deBruijn32tab", Rows.laid_math_bits_deBruijn32tab), ("math/bits.deBruijn64tab", Rows.laid_math_bits_deBruijn64tab), ("internal/strconv.uint64pow10", Rows.laid_internal_strconv_uint64pow10), ("loop.example/s01854/impl.nodeWords", Rows.laid_loop_example_s01854_impl_nodeWords)] W := h
  clear h
  rw [MakeChecks.laidMetH_plain _ _ _ (by kernel_rfl)] at h'
  obtain ⟨ps, ⟨g0, t0, cs0, f0, p0, q0, hg0, ht0, hv0, hd0, ⟨g1, t1, cs1, f1, p1, q1, hg1, ht1, hv1, hd1, ⟨g2, t2, cs2, f2, p2, q2, hg2, ht2, hv2, hd2, ⟨g3, t3, cs3, f3, p3, q3, hg3, ht3, hv3, hd3, _, _⟩, _⟩, _⟩, _⟩, _⟩ := h'
  obtain rfl := Option.some.inj (gD64.symm.trans hg1)
  obtain rfl := Option.some.inj (pow_named.symm.trans hg2)
  obtain rfl := Option.some.inj (gWords.symm.trans hg3)
  obtain rfl := Option.some.inj (tPows.symm.trans ht2)
  obtain rfl := Option.some.inj (tWords.symm.trans ht3)
  refine ⟨⟨fun k hk => ?_, ?_⟩, var_lt hg1 hv1⟩
  · rw [World.var?_cell hg3 hv3 k]
    have hw := strs_of_tab (zs := (List.range 17).map (fun k => (wordG k).data.toList)) Tryd.underlying70 Tryd.underlying9 cStr (h := hd3) k (wordG k).data.toList (by rw [List.getElem?_map, List.getElem?_range (by omega)]; rfl)
    rw [Lib.mk_data] at hw
    simpa using hw
  · have hc := Lib.cells_of_tab (zs := Lib.pow10Tab) Tryd.underlying120 Tryd.underlying49 cU64 cPows hd2
    unfold Lib.TabIs
    rw [hv2, ← hc]
end Go.Proofs.YtddemgkbfdhpnaaDoor.exPrint

/-
  The law FnExactPrintFilter.
-/
namespace Go.Proofs.YtddemgkbfdhpnaaDoor.exPrint
open Go.ChangeShapes Go.WideShapes Go.ChangeAt Go.WideMaps Go.WideElems Go.RowKit Go.Deep
set_option linter.unusedVariables false
set_option linter.unusedSimpArgs false
set_option maxRecDepth 100000

theorem own : ownKnob Tryd.prog.godebug = none := by kernel_rfl
theorem laidOut : laidOutB Tryd.prog = true := by kernel_rfl
/-- The door's own heap meets the condition. -/
theorem door_met (os : Os) (args : Array Value) : laidMetH Tryd.prog Rows.fnExactPrintFilterRow.laid ((World.doorLaid Tryd.prog 400 os).forCall (fun _ _ => 0) ⟨#[], args, []⟩).memory :=
  laidMetH_of_parts3 (fuel := 8) (laidMet_of_run' 8 (by kernel_rfl) (by kernel_rfl)) (by kernel_rfl) (by kernel_rfl)
theorem var?_below {P : Program} {B g : Nat} {W W' : World} {n : String} {cs : Array Value} (h : Below B W W') (hg : P.globalNamed n = some g) (hgB : g < B) (hv : W.var? P n = some cs) : W'.var? P n = some cs := by
  unfold World.var? at hv ⊢
  simp only [hg, Option.bind_some] at hv ⊢
  rw [h.block g hgB]
  exact hv

set_option maxRecDepth 100000 in
theorem lifted (os : Os) (started : os.Started) (H : Type) (enc : TypeId × Value → H) :
    ReturnsInHanded {} Tryd.checked os 3 .any (fun w args => (Rows.fnExactPrintFilterSpec.pre enc Tryd.prog Tryd.f3 [] false w args ∧ laidMetH Tryd.prog Rows.fnExactPrintFilterRow.laid w) ∧ sizedMet enc Tryd.prog Tryd.f3 (OpenSpec.ofChange Rows.fnExactPrintFilterSpec) false w args)
      (Rows.fnExactPrintFilterSpec.post enc Tryd.prog Tryd.f3 false true false false) := by
  refine returnsInHanded_of_change_and (C := Tryd.checked) (X := fun w _ => laidMetH Tryd.prog Rows.fnExactPrintFilterRow.laid w) (fun _ _ _ hh h => h.of_heap hh) own started (by kernel_rfl) Tryd.func3
    (ChangeSpec.witness_shaped (enc := enc) (C := Tryd.checked) (os := os) (X := fun w _ => laidMetH Tryd.prog Rows.fnExactPrintFilterRow.laid w) false (World.doorLaid Tryd.prog 400 os) #[.agg #[.slice none 0 0]] 8 rfl (World.shaped_of_RefB (by kernel_rfl) (by kernel_rfl)) (by kernel_rfl) (by kernel_rfl) (by kernel_rfl) (door_met os _)) ?_
  intro W base args ds gs before hval0 hW _ _ hL _
  have hval : ∀ (j : Nat) t v, Tryd.f3.params[j]? = some t → args[j]? = some v → Value.okWide Tryd.prog W .any base t v := hval0
  have hW' := hW
  obtain ⟨p, q, hA0, hV, rfl, hfz, hnd⟩ := hW
  have hA : DataW.TrodAll enc Tryd.prog W 0 (fun _ => true) true Tryd.f3.params.toList args.toList ds p := hA0
  rw [Tryd.params3] at hA hval
  obtain ⟨v0, vs0, d0, ds0, p0, q0, hargs, rfl, rfl, h0, r0⟩ := trodAll_cons hA
  obtain ⟨rfl, rfl, rfl⟩ := trodAll_nil r0
  obtain rfl : args = #[v0] := by cases args; simp_all
  have hV1 : DataW.TrodVars enc Tryd.prog W (fun _ => true) ["loop.example/s01854/impl.nodeWords"] gs q := hV
  obtain ⟨gv, tv, cv, fv, dv, pv, rfl, k1, k2, k3, k4, rfl⟩ := trodVars_one hV1
  obtain rfl := Option.some.inj (gWords.symm.trans k1)
  obtain rfl := Option.some.inj (tWords.symm.trans k2)
  have k0 := h0
  have lt0 : ∀ x ∈ p0, x.block < W.heap.size := by obtain ⟨m, hm⟩ := k0; exact DataW.trod_lt m _ _ _ hm
  have ltv : ∀ x ∈ pv, x.block < W.heap.size := DataW.trod_lt fv _ _ _ k4
  obtain ⟨u, es, rfl, hin, ok0⟩ := open_filter (hval 0 24 v0 rfl rfl) h0
  clear hA0 hval0 hV
  obtain ⟨hG, hB⟩ := of_laid hL
  refine (walk u es W hin ok0 hG hB).mono fun e W' ⟨he, bel⟩ => ?_
  subst he
  have k4' : DataW.trod enc Tryd.prog W' 0 (fun b => decide (b < W.heap.size)) true fv 70 cv.toList = some (dv, pv) :=
    DataW.trod_stays (kids_book laidOut (t0 := 70) (by kernel_rfl)) (book_sized (by kernel_rfl)) (fun h => by cases h) ⟨of_decide_eq_true (by kernel_rfl), book_self _⟩ k4 (fun x hx => bel.same (ltv x hx)) (fun x hx => by simpa using ltv x hx)
  exact ⟨_, rfl, _, _, _, [], _, _, hW', trodAll_mk1 (shut_bool Tryd.underlying4 _), (trodAll_cons_mk (Below.trod laidOut (by kernel_rfl) (of_decide_eq_true (by kernel_rfl)) k0 bel lt0) trodAll_mk0), trodVars_mk1 k1 k2 (var?_below bel k1 (var_lt k1 k3) k3) k4', bel.frame _, fun h => by cases h⟩

theorem over : Rows.FnExactPrintFilterSaid :=
  OpenClaim.holds_of_wide 3 Tryd.f3 rfl rfl rfl rfl rfl rfl rfl ⟨rfl, rfl, rfl, rfl, rfl⟩ rfl rfl rfl rfl rfl (by kernel_rfl) Tryd.func3 (by kernel_rfl)
    (of_decide_eq_true (by kernel_rfl)) (by unfold Func.isWrapper; first | (rw [if_pos (by decide +kernel)]; kernel_rfl) | (rw [if_neg (by decide +kernel)]; exact ⟨rfl, rfl⟩))
    (fun os started H enc _ => lifted os started H enc)

theorem card : Rows.FnExactPrintFilterCardSaid :=
  Claim7.holds_tied_plain_at .later [] [.data, .data, .data, .data] true Rows.fnExactPrintFilterCard.stood.harness true
    over (fun _ h => by cases h) (by kernel_rfl) (fun _ h => by cases h) fnExactPrintFilter_row_tie rfl ⟨rfl, rfl⟩ (by kernel_rfl) rfl
    (fun f fn hf hfn => by
      obtain rfl : f = 3 := Option.some.inj ((show Tryd.prog.funcNamed "loop.example/s01854/laws.FnExactPrintFilter" = some 3 by kernel_rfl).symm.trans hf) |>.symm
      obtain rfl : fn = Tryd.f3 := (Option.some.inj (Tryd.func3.symm.trans hfn)).symm
      exact ⟨by kernel_rfl, fun j t ht => by
        rw [Tryd.params3] at ht
        have h3 : t = 24 := by
          rcases j with _ | j
          · simpa using ht.symm
          · simp at ht
        subst h3
        exact (show Tryd.prog.wantsStandIn 24 = false by kernel_rfl)⟩)
    (by kernel_rfl)
end Go.Proofs.YtddemgkbfdhpnaaDoor.exPrint
namespace Go.Proofs.YtddemgkbfdhpnaaDoor
theorem exactPrintFilter_holds : Rows.FnExactPrintFilterCardSaid := exPrint.card
#print axioms exactPrintFilter_holds
end Go.Proofs.YtddemgkbfdhpnaaDoor

