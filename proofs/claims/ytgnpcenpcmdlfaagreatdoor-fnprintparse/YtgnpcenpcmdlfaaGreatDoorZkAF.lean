import Derived.BigQuiet
import Derived.Deep.QuietTactic
import Derived.Test.YtgnpcenpcmdlfaaGreatDoorZkAC
import Derived.Test.YtgnpcenpcmdlfaaGreatDoorZkAE
import Derived.Test.YtgnpcenpcmdlfaaGreatDoorRFdA
/-
  Nodes that come in: lists of nodes and filters opened, copied and compared.
-/
namespace Go.Proofs.YtgnpcenpcmdlfaaGreatDoor
open Go.ChangeShapes Go.WideShapes Go.ChangeAt Go.RowKit Go.Deep
set_option linter.unusedVariables false
set_option linter.unusedSimpArgs false
set_option maxRecDepth 100000

theorem list7 {α : Type} {cs : List α} (h : cs.length = 7) : ∃ c0 c1 c2 c3 c4 c5 c6, cs = [c0, c1, c2, c3, c4, c5, c6] := by
  match cs, h with
  | [c0, c1, c2, c3, c4, c5, c6], _ => exact ⟨c0, c1, c2, c3, c4, c5, c6, rfl⟩
/-- What is read of a slice of cells that came in. -/
def InNds (w : World) (v : Value) (es : List Nd) : Prop :=
  (∃ a cap, v = .slice a 0 cap ∧ es = []) ∨
  ∃ b off cap, v = .slice (some ⟨b, off, none⟩) es.length cap ∧ NdsAt w b off es ∧ b < w.heap.size ∧ es.length ≤ cap ∧ cap ≤ maxLen
theorem InNds.below {B : Nat} {w w' : World} {v : Value} {es : List Nd} (h : InNds w v es) (hb : Below B w w') (hB : w.heap.size ≤ B) : InNds w' v es := by
  rcases h with h | ⟨b, off, cap, hv, hE, hlt, h1, h2⟩
  · exact .inl h
  · exact .inr ⟨b, off, cap, hv, hE.below hb (by omega), by have := hb.size; omega, h1, h2⟩
theorem made_zeroN (n : Nat) : (madeCells #[.int .i64 0, .string ⟨#[]⟩, .bool false, .string ⟨#[]⟩, .int .u64 0, .int .u64 0, .int .i64 0] (n * 7)).toList = cellsN (List.replicate n zeroN) := by
  apply List.ext_getElem?
  intro j
  by_cases hj : j < n * 7
  · have h := cellsN_get (List.replicate n zeroN) (j / 7) zeroN (by rw [List.getElem?_replicate, if_pos (by omega)]) (j % 7) (Nat.mod_lt _ (by omega))
    rw [show j / 7 * 7 + j % 7 = j by omega] at h
    rw [h]
    have h6 : j % 7 < 7 := Nat.mod_lt _ (by omega)
    simp [madeCells, hj]
    generalize j % 7 = m at *
    match m, h6 with
    | 0, _ => rfl
    | 1, _ => rfl
    | 2, _ => rfl
    | 3, _ => rfl
    | 4, _ => rfl
    | 5, _ => rfl
    | 6, _ => rfl
  · have h1 : (cellsN (List.replicate n zeroN)).length ≤ j := by rw [length_cellsN, List.length_replicate]; omega
    rw [List.getElem?_eq_none h1]
    simp [madeCells, hj]
set_option maxHeartbeats 1000000 in
theorem eqNodeS_same (b off cap b' off' cap' : Nat) (es : List Nd) (w : World) (hE : NdsAt w b off es) (hE' : NdsAt w b' off' es) (hB : b < w.heap.size) (hB' : b' < w.heap.size) (hlen : es.length ≤ maxLen) :
    Calls Tryz.prog 65 #[.slice (some ⟨b, off, none⟩) es.length cap, .slice (some ⟨b', off', none⟩) es.length cap'] w fun e w' =>
      e = .returned (.bool true) ∧ Below w.heap.size w w' := by
  have HE : Hid (NdsAt w b off es ∧ NdsAt w b' off' es) := ⟨hE, hE'⟩
  clear hE hE'
  unfold maxLen at hlen
  go_enter Tryz.func65, Tryz.ntmps65
  go_wp2
  go_loopw [5] (fun i wr => ∃ (k : Nat), k ≤ es.length ∧ i = .int .i64 k ∧ Below w.heap.size w wr) (fun i _ => es.length - (intOf i).toNat)
  case atStart => exact ⟨0, Nat.zero_le _, rfl, Below.refl _ _⟩
  case round =>
    obtain ⟨k, hk, rfl, hb⟩ := hrel
    have hs2 := hb.size
    by_cases hlt : k < es.length
    · obtain ⟨e, he⟩ : ∃ e, es[k]? = some e := ⟨_, List.getElem?_eq_getElem hlt⟩
      obtain ⟨c0, c1, c2, c3, c4, c5, c6⟩ := HE.out.1.below hb hB k e he
      obtain ⟨d0, d1, d2, d3, d4, d5, d6⟩ := HE.out.2.below hb hB' k e he
      clear he
      go_upto_region 6 with fail
      go_cut [26] (fun s wx => s = .bool false ∧ Below w.heap.size w wx)
      case first =>
        have z2 : (k : Int) < (es.length : Int) := by omega
        go_region_with (go_at_call 97; refine (eqNode_same e _).mono ?_; rintro e' w' ⟨rfl, hbb⟩)
        all_goals go_wp2_with fail
        all_goals go_meet
        all_goals exact ⟨rfl, hb.drew.trans (hbb.mono (by simp; omega))⟩
      case rest =>
      obtain ⟨rfl, h3⟩ := hcut
      clear c0 c1 c2 c3 c4 c5 c6 d0 d1 d2 d3 d4 d5 d6
      go_wp2_with fail
      go_roundw
      case rel => exact ⟨k + 1, by omega, by go_num, h3⟩
      case measure => simp [intOf]; omega
    · go_wp2_with fail
      go_ret
      exact ⟨rfl, hb⟩
theorem eqNodeS_own {w : World} {base g cp base' g' cp' : Nat} {es : List Nd} (h : OwnNd w base g cp es) (h' : OwnNd w base' g' cp' es) :
    Calls Tryz.prog 65 #[.slice (some ⟨g, 0, none⟩) es.length cp, .slice (some ⟨g', 0, none⟩) es.length cp'] w fun e w' => e = .returned (.bool true) ∧ Below w.heap.size w w' :=
  eqNodeS_same g 0 cp g' 0 cp' es w h.at h'.at h.lt.2 h'.lt.2 (Nat.le_trans h.caps.1 h.caps.2)
set_option maxHeartbeats 400000 in
theorem eqNodeS_zero (a a' : Option Addr) (cap cap' : Nat) (w : World) :
    Calls Tryz.prog 65 #[.slice a 0 cap, .slice a' 0 cap'] w fun e w' => e = .returned (.bool true) ∧ Below w.heap.size w w' := by
  go_enter Tryz.func65, Tryz.ntmps65
  go_wp2
  go_loopw [5] (fun i wr => i = .int .i64 0 ∧ Below w.heap.size w wr) (fun i _ => 0)
  case atStart => exact ⟨rfl, Below.refl _ _⟩
  case round =>
    obtain ⟨rfl, hb⟩ := hrel
    go_wp2_with fail
    go_ret
    exact ⟨rfl, hb⟩
theorem InNds.own {w : World} {base g n cap : Nat} {es : List Nd} (h : OwnNd w base g cap es) (hn : n = es.length) : InNds w (.slice (some ⟨g, 0, none⟩) n cap) es := by
  subst hn
  exact .inr ⟨g, 0, cap, rfl, h.at, h.lt.2, h.caps.1, h.caps.2⟩
theorem eqNodeS_any (u u' : Value) (es : List Nd) (w : World) (h : InNds w u es) (h' : InNds w u' es) :
    Calls Tryz.prog 65 #[u, u'] w fun e w' => e = .returned (.bool true) ∧ Below w.heap.size w w' := by
  rcases h with ⟨a, cap, rfl, rfl⟩ | ⟨b, off, cap, rfl, hE, hlt, g1, g2⟩
  · rcases h' with ⟨a', cap', rfl, _⟩ | ⟨b', off', cap', rfl, hE', hlt', g1', g2'⟩
    · exact eqNodeS_zero a a' cap cap' w
    · exact eqNodeS_zero a _ cap cap' w
  · rcases h' with ⟨a', cap', rfl, rfl⟩ | ⟨b', off', cap', rfl, hE', hlt', g1', g2'⟩
    · exact eqNodeS_zero _ a' cap cap' w
    · exact eqNodeS_same b off cap b' off' cap' es w hE hE' hlt hlt' (Nat.le_trans g1 g2)
set_option maxHeartbeats 400000 in
theorem eqFilter_any (u u' : Value) (es : List Nd) (w : World) (h : InNds w u es) (h' : InNds w u' es) :
    Calls Tryz.prog 28 #[.agg #[u], .agg #[u']] w fun e w' => e = .returned (.bool true) ∧ Below w.heap.size w w' := by
  have HE : Hid (InNds w u es ∧ InNds w u' es) := ⟨h, h'⟩
  have hu : u.cells = #[u] := by
    rcases h with ⟨a, cap, rfl, _⟩ | ⟨b, off, cap, rfl, _⟩ <;> rfl
  have hu' : u'.cells = #[u'] := by
    rcases h' with ⟨a, cap, rfl, _⟩ | ⟨b, off, cap, rfl, _⟩ <;> rfl
  clear h h'
  go_enter Tryz.func28, Tryz.ntmps28
  go_wp2_with fail
  have k0 : Below w.heap.size w ((w.alloc (Obj.cells #[u] 25)).alloc (Obj.cells #[u'] 25)) := ((Below.refl _ _).alloc (Nat.le_refl _) _).alloc (by simp) _
  refine (eqNodeS_any u u' es _ (HE.out.1.below k0 (Nat.le_refl _)) (HE.out.2.below k0 (Nat.le_refl _))).mono ?_
  rintro e w1 ⟨rfl, hb1⟩
  go_wp2_with fail
  go_ret
  exact ⟨rfl, k0.trans (hb1.mono (by simp; omega))⟩
end Go.Proofs.YtgnpcenpcmdlfaaGreatDoor

/-
  spec.ValidFilter.
-/
namespace Go.Proofs.YtgnpcenpcmdlfaaGreatDoor
open Go.ChangeShapes Go.WideShapes Go.ChangeAt Go.RowKit Go.Deep
set_option linter.unusedVariables false
set_option linter.unusedSimpArgs false
set_option maxRecDepth 100000

open Classical in
/-- Whether a node is valid. -/
noncomputable def goodB (e : Nd) : Bool := decide (GoodN e)
theorem goodB_iff (e : Nd) : goodB e = true ↔ GoodN e := by unfold goodB; simp
/-- What ValidFilter says of nodes. -/
def GoodF (xs : List Nd) : Prop := xs.length ≤ 200 ∧ ∃ s, ShT goodB [s] xs ∧ s.valid = true ∧ s.nest ≤ 20
theorem goodF_all {xs : List Nd} (h : GoodF xs) : ∀ e ∈ xs, GoodN e := by
  obtain ⟨_, s, hs, hv, _⟩ := h
  have := ShT.valid goodB hs
  simp [hv] at this
  exact fun e he => (goodB_iff e).1 (this e he)
theorem sh_one {xs : List Nd} {s t : Shape} (h : ShT goodB [s] xs) (k : ShT goodB [t] xs) : s = t := by
  have a := ShT.fold goodB h []
  have b := ShT.fold goodB k []
  rw [a] at b
  simpa using b
def FltPost (xs : List Nd) (w : World) (r : Ending) (w' : World) : Prop := ∃ b, r = .returned (.bool b) ∧ (b = true ↔ GoodF xs) ∧ Below w.heap.size w w'
/-- Nodes in a window of memory. -/
structure WdN (w : World) (g o cp : Nat) (xs : List Nd) : Prop where
  nds : NdsAt w g o xs
  lt : g < w.heap.size
  caps : xs.length ≤ cp ∧ cp ≤ maxLen
theorem WdN.at {w : World} {g o cp : Nat} {xs : List Nd} (h : WdN w g o cp xs) : NdsAt w g o xs := h.nds
theorem WdN.below {B : Nat} {w w' : World} {g o cp : Nat} {xs : List Nd} (h : WdN w g o cp xs) (hb : Below B w w') (hg : g < B) : WdN w' g o cp xs :=
  ⟨h.at.below hb hg, by have := hb.size; have := h.lt; omega, h.caps⟩
theorem OwnNd.wd {w : World} {base g cp : Nat} {xs : List Nd} (h : OwnNd w base g cp xs) : WdN w g 0 cp xs := ⟨h.at, h.lt.2, h.caps⟩
set_option maxHeartbeats 4000000 in
theorem specFilter_win {w : World} {g o cp : Nat} {xs : List Nd} (h : WdN w g o cp xs) (hok : ∀ e ∈ xs, e.ok) : Calls Tryz.prog 16 #[.agg #[.slice (some ⟨g, o, none⟩) xs.length cp]] w (FltPost xs w) := by
  have HO : Hid (WdN w g o cp xs ∧ ∀ e ∈ xs, e.ok) := ⟨h, hok⟩
  have hg := h.lt
  have hcp := h.caps
  obtain ⟨n, hn⟩ : ∃ n, n = xs.length := ⟨_, rfl⟩
  have HN : Hid (n = xs.length) := hn
  rw [← hn] at hcp ⊢
  unfold maxLen at hcp
  clear h hok hn
  obtain ⟨W0, hW0⟩ : ∃ W0 : World, W0 = w.alloc (Obj.cells #[.slice (some ⟨g, o, none⟩) n cp] 25) := ⟨_, rfl⟩
  have HW0 : Hid (BoxAt W0 w.heap.size 25 1 w.heap.size [.slice (some ⟨g, o, none⟩) n cp] ∧ Below w.heap.size w W0) := by
    rw [hW0]; exact ⟨boxAt_new w _ (Nat.le_refl _) rfl, (Below.refl _ _).alloc (Nat.le_refl _) _⟩
  have c0 := HW0.out.1.cell (j := 0) rfl
  have s0 := HW0.out.2.size
  go_enter Tryz.func16, Tryz.ntmps16
  go_upto_region 1 with fail
  rw [← hW0]
  clear hW0
  by_cases hbig : 200 < n
  · have zb : (200 : Int) < (n : Int) := by omega
    have HF : Hid (¬ GoodF xs) := fun q => by have := q.1; have := HN.out; omega
    go_wp2_with fail
    go_ret
    exact ⟨_, rfl, by simp [HF.out], HW0.out.2⟩
  have zb : ¬ (200 : Int) < (n : Int) := by omega
  go_wp2_with fail
  clear c0
  go_loopw [3] (fun iv wr => ∃ (j : Nat), iv = .int .i64 (j : Int) ∧ j ≤ n ∧ (∀ e ∈ xs.take j, GoodN e) ∧ BoxAt wr w.heap.size 25 1 w.heap.size [.slice (some ⟨g, o, none⟩) n cp] ∧ Below w.heap.size w wr) (fun iv _ => n - (intOf iv).toNat)
  case atStart => exact ⟨0, rfl, Nat.zero_le _, by simp, HW0.out⟩
  case round =>
    obtain ⟨j, rfl, hj, hG, hB, hb⟩ := hrel
    have HJ : Hid ((∀ e ∈ xs.take j, GoodN e) ∧ BoxAt wr w.heap.size 25 1 w.heap.size [.slice (some ⟨g, o, none⟩) n cp] ∧ Below w.heap.size w wr) := ⟨hG, hB, hb⟩
    have c0 := hB.cell (j := 0) rfl
    have sr := hb.size
    clear hG hB hb HW0
    by_cases hlt : j < n
    · have zj : (j : Int) < (n : Int) := by omega
      obtain ⟨e, he⟩ : ∃ e, xs[j]? = some e := ⟨_, List.getElem?_eq_getElem (by have := HN.out; omega)⟩
      obtain ⟨d0, d1, d2, d3, d4, d5, d6⟩ := (HO.out.1.at.below HJ.out.2.2 hg) j e he
      have ok := HO.out.2 e (List.mem_of_getElem? he)
      have HE : Hid (e.s.size ≤ maxLen ∧ e.t.size ≤ maxLen ∧ e ∈ xs ∧ xs.take (j + 1) = xs.take j ++ [e]) := ⟨ok.s, ok.t, List.mem_of_getElem? he, by rw [List.take_add_one, he]; rfl⟩
      clear ok he
      go_wp2_with fail
      refine (good_core e wr HE.out.1 HE.out.2.1).mono ?_
      rintro r w2 ⟨b, rfl, hb, hb2⟩
      have HB : Hid (b = true ↔ GoodN e) := hb
      have HJ2 : Hid (BoxAt w2 w.heap.size 25 1 w.heap.size [.slice (some ⟨g, o, none⟩) n cp] ∧ Below w.heap.size w w2) := ⟨HJ.out.2.1.below hb2, HJ.out.2.2.trans (hb2.mono sr)⟩
      clear hb hb2 c0 d0 d1 d2 d3 d4 d5 d6
      cases b
      · have HF : Hid (¬ GoodF xs) := fun q => by
          have := HB.out.2 (goodF_all q e HE.out.2.2.1)
          cases this
        go_wp2_with fail
        go_ret
        exact ⟨_, rfl, by simp [HF.out], HJ2.out.2⟩
      · go_wp2_with fail
        go_roundw
        case rel =>
          refine ⟨j + 1, by go_num, by omega, ?_, HJ2.out.1, HJ2.out.2⟩
          intro e' he'
          rw [HE.out.2.2.2] at he'
          rcases List.mem_append.1 he' with h | h
          · exact HJ.out.1 e' h
          · simp at h; subst h; exact HB.out.1 (by first | rfl | trivial)
        case measure => simp [intOf]; omega
    · have zj : ¬ (j : Int) < (n : Int) := by omega
      have HA : Hid (∀ e ∈ xs, GoodN e) := by
        have h1 := HJ.out.1
        rw [List.take_of_length_le (by have := HN.out; omega)] at h1
        exact h1
      have hWin : Win wr g o cp xs := ⟨HO.out.1.at.below HJ.out.2.2 hg, by omega, by rw [← HN.out]; exact hcp.1, by omega, by have := HN.out; omega⟩
      have HT : Hid (Calls Tryz.prog 39 #[.slice (some ⟨g, o, none⟩) n cp] wr fun r w' => w' = wr ∧ ((r = .returned (.bool true) ∧ IsT 1 xs) ∨ (r = .returned (.bool false) ∧ ¬ IsT 1 xs))) := by
        rw [HN.out]; exact l5Tree_core hWin
      have HNe : Hid (∀ s, ShT goodB [s] xs → Calls Tryz.prog 40 #[.slice (some ⟨g, o, none⟩) n cp] wr fun r w' => r = .returned (.int .i64 (s.nest : Int)) ∧ Below wr.heap.size wr w') := fun s hs => by
        rw [HN.out]; exact nest_all goodB xs.length wr g o cp xs s (Nat.le_refl _) hWin hs
      clear hWin
      go_wp2_with fail
      refine HT.out.mono ?_
      rintro r w2 ⟨hw2, (⟨rfl, hT⟩ | ⟨rfl, hT⟩)⟩
      · rw [hw2]
        clear hw2
        obtain ⟨ss, hl, hs⟩ := IsT.shapes goodB hT
        obtain ⟨s, rfl⟩ : ∃ s, ss = [s] := by
          match ss, hl with
          | [s], _ => exact ⟨s, rfl⟩
        have HSh : Hid (ShT goodB [s] xs) := hs
        have HV : Hid (s.valid = true) := by
          show s.valid = true
          have h1 := ShT.valid goodB hs
          have h2 : xs.all goodB = true := List.all_eq_true.2 (fun e he => (goodB_iff e).2 (HA.out e he))
          rw [h2] at h1
          simpa using h1
        have HF : Hid (GoodF xs ↔ s.nest ≤ 20) := by
          show GoodF xs ↔ _
          constructor
          · rintro ⟨_, t, ht, _, hn⟩
            rw [sh_one hs ht]; exact hn
          · intro hn
            exact ⟨by have := HN.out; omega, s, hs, HV.out, hn⟩
        clear hT hl hs
        go_wp2_with fail
        refine (HNe.out s HSh.out).mono ?_
        rintro r w3 ⟨rfl, hb3⟩
        have HB3 : Hid (Below w.heap.size w w3) := HJ.out.2.2.trans (hb3.mono sr)
        clear hb3 c0
        go_wp2_with fail
        go_ret
        exact ⟨_, rfl, by rw [HF.out]; simp <;> omega, HB3.out⟩
      · rw [hw2]
        clear hw2
        have HF : Hid (¬ GoodF xs) := fun q => by
          obtain ⟨_, s, hs, _⟩ := q
          exact hT hs.tree
        clear hT
        go_wp2_with fail
        go_ret
        exact ⟨_, rfl, by simp [HF.out], HJ.out.2.2⟩
theorem specFilter_core {w : World} {base g cp : Nat} {xs : List Nd} (h : OwnNd w base g cp xs) (hok : ∀ e ∈ xs, e.ok) (hc : cp ≤ 281474976710656) : Calls Tryz.prog 16 #[.agg #[.slice (some ⟨g, 0, none⟩) xs.length cp]] w (FltPost xs w) := specFilter_win h.wd hok
end Go.Proofs.YtgnpcenpcmdlfaaGreatDoor

/-
  Trees folded by any visit; the normal form of a filter.
-/
namespace Go.Proofs.YtgnpcenpcmdlfaaGreatDoor
open Go.ChangeShapes Go.WideShapes Go.ChangeAt Go.RowKit Go.Deep
set_option linter.unusedVariables false

section
variable {T : Type} (V : Nd → List T → T)
/-- What a visit makes of trees, one behind another. -/
inductive TrV : List T → List Nd → Prop
  | nil : TrV [] []
  | snoc {ss os : List T} {xs : List Nd} (n : Nd) (ho : os.length = arity n.kind) (h : TrV (ss ++ os) xs) : TrV (ss ++ [V n os]) (xs ++ [n])
def stepV (st : List T) (n : Nd) : Option (List T) :=
  if st.length < arity n.kind then none else some (st.take (st.length - arity n.kind) ++ [V n (st.drop (st.length - arity n.kind))])
def foldV (st : List T) : List Nd → Option (List T)
  | [] => some st
  | n :: ns => (stepV V st n).bind fun s => foldV s ns
theorem foldV_append (st : List T) (xs ys : List Nd) : foldV V st (xs ++ ys) = (foldV V st xs).bind (fun s => foldV V s ys) := by
  induction xs generalizing st with
  | nil => rfl
  | cons x xs ih =>
    simp only [List.cons_append, foldV]
    cases stepV V st x with
    | none => rfl
    | some s => exact ih s
theorem IsT.trv {k : Nat} {xs : List Nd} (h : IsT k xs) : ∃ ss, ss.length = k ∧ TrV V ss xs := by
  induction h with
  | nil => exact ⟨[], rfl, .nil⟩
  | @snoc k xs n h ih =>
    obtain ⟨ss, hl, hs⟩ := ih
    refine ⟨ss.take k ++ [V n (ss.drop k)], by simp; omega, .snoc n (by simp; omega) ?_⟩
    rw [List.take_append_drop]; exact hs
theorem TrV.tree {ss : List T} {xs : List Nd} (h : TrV V ss xs) : IsT ss.length xs := by
  induction h with
  | nil => exact .nil
  | @snoc ss os xs n ho h ih =>
    rw [List.length_append]
    refine IsT.snoc n ?_
    rw [← ho, ← List.length_append]; exact ih
theorem TrV.fold {ss : List T} {xs : List Nd} (h : TrV V ss xs) : ∀ st, foldV V st xs = some (st ++ ss) := by
  induction h with
  | nil => intro st; simp [foldV]
  | @snoc ss os xs n ho h ih =>
    intro st
    rw [foldV_append, ih]
    simp only [Option.bind_some, foldV, stepV]
    rw [if_neg (by simp; omega)]
    have hl : (st ++ (ss ++ os)).length - arity n.kind = (st ++ ss).length := by simp; omega
    rw [hl, ← List.append_assoc, List.take_left, List.drop_left, List.append_assoc]
    simp
theorem TrV.one {ss ts : List T} {xs : List Nd} (h : TrV V ss xs) (k : TrV V ts xs) : ss = ts := by
  have a := h.fold V []
  have b := k.fold V []
  rw [a] at b
  simpa using b
theorem TrV.split {ss : List T} {xs : List Nd} (h : TrV V ss xs) : ∀ {a b : List T}, ss = a ++ b → ∃ ys zs, xs = ys ++ zs ∧ TrV V a ys ∧ TrV V b zs := by
  induction h with
  | nil => intro a b e; obtain ⟨rfl, rfl⟩ : a = [] ∧ b = [] := by simpa using e.symm
           exact ⟨[], [], rfl, .nil, .nil⟩
  | @snoc ss os xs n ho h ih =>
    intro a b e
    rcases List.eq_nil_or_concat b with rfl | ⟨b', z, rfl⟩
    · simp at e; subst e
      exact ⟨xs ++ [n], [], by simp, .snoc n ho h, .nil⟩
    · rw [List.concat_eq_append, ← List.append_assoc] at e
      have e2 := List.append_inj' e rfl
      obtain ⟨e3, e4⟩ := e2
      simp at e4
      subst e3 e4
      obtain ⟨ys, zs, rfl, h1, h2⟩ := ih (a := a) (b := b' ++ os) (by simp)
      refine ⟨ys, zs ++ [n], by simp, h1, ?_⟩
      rw [List.concat_eq_append]
      exact .snoc n ho h2
theorem TrV.inv {s : T} {xs : List Nd} (h : TrV V [s] xs) : ∃ ys n os, xs = ys ++ [n] ∧ os.length = arity n.kind ∧ TrV V os ys ∧ s = V n os := by
  generalize hs : [s] = ss at h
  cases h with
  | nil => cases hs
  | @snoc ss os xs n ho h =>
    have e := List.append_inj' (s₁ := []) (t₁ := [s]) hs rfl
    obtain ⟨e1, e2⟩ := e
    subst e1
    simp at e2
    exact ⟨xs, n, os, rfl, ho, h, e2⟩
/-- The operands of a node, one by one. -/
inductive KidV : List T → List (List Nd) → Prop
  | nil : KidV [] []
  | cons {o : T} {os : List T} {k : List Nd} {ks : List (List Nd)} (h : TrV V [o] k) (t : KidV os ks) : KidV (o :: os) (k :: ks)
theorem TrV.kids : ∀ {os : List T} {ys : List Nd}, TrV V os ys → ∃ ks, ys = ks.flatten ∧ KidV V os ks
  | [], ys, h => by
    have := (TrV.tree V h).zero
    subst this
    exact ⟨[], rfl, .nil⟩
  | o :: os, ys, h => by
    obtain ⟨a, b, rfl, h1, h2⟩ := TrV.split V h (a := [o]) (b := os) rfl
    obtain ⟨ks, rfl, hk⟩ := TrV.kids h2
    exact ⟨a :: ks, rfl, .cons h1 hk⟩
theorem KidV.length {os : List T} {ks : List (List Nd)} (h : KidV V os ks) : os.length = ks.length := by
  induction h with
  | nil => rfl
  | cons _ _ ih => simp [ih]
theorem KidV.tree {os : List T} {ks : List (List Nd)} (h : KidV V os ks) : ∀ k ∈ ks, IsT 1 k := by
  induction h with
  | nil => intro k hk; cases hk
  | cons h1 _ ih =>
    intro k hk
    rcases List.mem_cons.1 hk with rfl | hk
    · exact h1.tree
    · exact ih k hk
theorem KidV.nth {os : List T} {ks : List (List Nd)} (h : KidV V os ks) : ∀ {j : Nat} {k : List Nd}, ks[j]? = some k → ∃ o, os[j]? = some o ∧ TrV V [o] k := by
  induction h with
  | nil => intro j k hk; simp at hk
  | cons h1 _ ih =>
    intro j k hk
    cases j with
    | zero => simp at hk; subst hk; exact ⟨_, rfl, h1⟩
    | succ j => simp at hk; simpa using ih hk
end

/-- One node alone, of a kind. -/
def isK (xs : List Nd) (k : Int) : Prop := ∃ n, xs = [n] ∧ n.kind = k
open Classical in
/-- The normal form of a node over those of its operands. -/
noncomputable def normOf (e : Nd) (ns : List (List Nd)) : List Nd :=
  match ns with
  | [a, b] =>
    if e.kind = 14 then
      if isK a 1 ∨ isK b 2 then b else if isK b 1 ∨ isK a 2 ∨ (isK a 3 ∧ isK b 3) then a else a ++ b ++ [e]
    else
      if isK a 2 then b else if isK b 2 ∨ isK a 1 ∨ a = b then a else a ++ b ++ [e]
  | [p, a, b] => if isK p 1 then a else if isK p 2 then b else if a = b then a else p ++ a ++ b ++ [e]
  | _ => [e]
theorem norm_mem {e : Nd} {ns : List (List Nd)} {x : Nd} (h : x ∈ normOf e ns) : x = e ∨ ∃ k ∈ ns, x ∈ k := by
  unfold normOf at h
  split at h
  · rename_i a b
    have fin : x ∈ a ++ b ++ [e] → x = e ∨ ∃ k ∈ [a, b], x ∈ k := fun q => by
      simp at q
      rcases q with q | q | q
      · exact .inr ⟨a, by simp, q⟩
      · exact .inr ⟨b, by simp, q⟩
      · exact .inl q
    split at h
    · split at h
      · exact .inr ⟨b, by simp, h⟩
      · split at h
        · exact .inr ⟨a, by simp, h⟩
        · exact fin h
    · split at h
      · exact .inr ⟨b, by simp, h⟩
      · split at h
        · exact .inr ⟨a, by simp, h⟩
        · exact fin h
  · rename_i p a b
    split at h
    · exact .inr ⟨a, by simp, h⟩
    · split at h
      · exact .inr ⟨b, by simp, h⟩
      · split at h
        · exact .inr ⟨a, by simp, h⟩
        · simp at h
          rcases h with q | q | q | q
          · exact .inr ⟨p, by simp, q⟩
          · exact .inr ⟨a, by simp, q⟩
          · exact .inr ⟨b, by simp, q⟩
          · exact .inl q
  · simp at h; exact .inl h
theorem norm_len {e : Nd} {ns : List (List Nd)} : (normOf e ns).length ≤ ns.flatten.length + 1 := by
  unfold normOf
  split
  · repeat' split
    all_goals simp
    all_goals omega
  · repeat' split
    all_goals simp
    all_goals omega
  · simp
/-- Nodes of a normal form are nodes of the filter. -/
theorem trv_mem : ∀ (n : Nat) {y : List Nd} {xs : List Nd}, xs.length ≤ n → TrV normOf [y] xs → (∀ x ∈ y, x ∈ xs) ∧ y.length ≤ xs.length
  | 0, y, xs, hn, h => by
    obtain ⟨ys, e, os, rfl, _⟩ := TrV.inv _ h
    simp at hn
  | n + 1, y, xs, hn, h => by
    obtain ⟨ys, e, os, rfl, _, h2, rfl⟩ := TrV.inv _ h
    obtain ⟨ks, rfl, hK⟩ := TrV.kids _ h2
    simp only [List.length_append, List.length_singleton] at hn
    have hk : ∀ (j : Nat) (o : List Nd), os[j]? = some o → ∃ k ∈ ks, (∀ x ∈ o, x ∈ k) ∧ o.length ≤ k.length := fun j o ho => by
      have hj := (List.getElem?_eq_some_iff.1 ho).1
      obtain ⟨k, hk⟩ : ∃ k, ks[j]? = some k := ⟨_, List.getElem?_eq_getElem (by have := KidV.length _ hK; omega)⟩
      obtain ⟨o', ho', ht⟩ := KidV.nth _ hK hk
      rw [ho] at ho'
      cases ho'
      have hm := List.mem_of_getElem? hk
      have := len_flat hm
      exact ⟨k, hm, trv_mem n (by omega) ht⟩
    refine ⟨fun x hx => ?_, ?_⟩
    · rcases norm_mem hx with rfl | ⟨o, ho, hxo⟩
      · simp
      · obtain ⟨j, hj⟩ := List.getElem?_of_mem ho
        obtain ⟨k, hm, h3, _⟩ := hk j o hj
        exact List.mem_append_left _ (List.mem_flatten.2 ⟨k, hm, h3 x hxo⟩)
    · have h4 : ∀ {os : List (List Nd)} {ks : List (List Nd)}, KidV normOf os ks → (∀ k ∈ ks, k.length ≤ n) → os.flatten.length ≤ ks.flatten.length := by
        intro os ks h
        induction h with
        | nil => intro _; simp
        | cons h1 t ih =>
          intro hb
          have h5 := (trv_mem n (hb _ (by simp)) h1).2
          have h6 := ih (fun k hk => hb k (by simp [hk]))
          simp only [List.flatten_cons, List.length_append]
          omega
      have h7 := h4 hK (fun k hk => by have := len_flat hk; omega)
      have h8 := norm_len (e := e) (ns := os)
      simp only [List.length_append, List.length_singleton]
      omega
/-- The normal form of a filter. -/
def NormF (xs y : List Nd) : Prop := TrV normOf [y] xs
theorem normF_one {xs y z : List Nd} (h : NormF xs y) (k : NormF xs z) : y = z := by
  have := TrV.one _ h k
  simpa using this
theorem normF_ex {xs : List Nd} (h : IsT 1 xs) : ∃ y, NormF xs y := by
  obtain ⟨ss, hl, hs⟩ := IsT.trv normOf h
  match ss, hl with
  | [y], _ => exact ⟨y, hs⟩
theorem baInj {a b : ByteArray} (h : a.toList = b.toList) : a = b := by
  rw [ByteArray.toList_eq, ByteArray.toList_eq] at h
  cases a with
  | mk a => cases b with
    | mk b =>
      simp only at h
      congr 1
      exact Array.toList_inj.1 h
/-- A node that has its kind alone. -/
def bareNd (k : Int) : Nd := ⟨k, ⟨#[]⟩, false, ⟨#[]⟩, 0, 0, 0⟩
theorem good_bare {e : Nd} (h : GoodN e) (hk : e.kind = 1 ∨ e.kind = 2 ∨ e.kind = 3 ∨ e.kind = 14 ∨ e.kind = 15 ∨ e.kind = 16) : e = bareNd e.kind := by
  have hE : (⟨#[]⟩ : ByteArray).toList = [] := by rw [ByteArray.toList_eq]
  obtain ⟨kind, s, hi, t, lo, up, n⟩ := e
  obtain ⟨_, _, _, h4⟩ := h
  simp only at hk h4
  have h5 : s.toList = [] ∧ hi = false ∧ t.toList = [] ∧ lo = 0 ∧ up = 0 ∧ n = 0 := by
    rcases h4 with ⟨q, _⟩ | ⟨q, _⟩ | ⟨q, _⟩ | ⟨q, _⟩ | ⟨_, q⟩
    · omega
    · omega
    · omega
    · omega
    · exact q
  obtain ⟨h1, rfl, h2, rfl, rfl, rfl⟩ := h5
  have e1 : s = ⟨#[]⟩ := baInj (by rw [h1, hE])
  have e2 : t = ⟨#[]⟩ := baInj (by rw [h2, hE])
  rw [e1, e2]
  rfl
theorem isK_good {xs : List Nd} {k : Int} (h : isK xs k) (hg : ∀ x ∈ xs, GoodN x) (hk : k = 1 ∨ k = 2 ∨ k = 3) : xs = [bareNd k] := by
  obtain ⟨n, rfl, rfl⟩ := h
  rw [good_bare (hg n (by simp)) (by omega)]
  rfl
end Go.Proofs.YtgnpcenpcmdlfaaGreatDoor

/-
  spec.l5Is, l5Same, l5Join.
-/
namespace Go.Proofs.YtgnpcenpcmdlfaaGreatDoor
open Go.ChangeShapes Go.WideShapes Go.ChangeAt Go.RowKit Go.Deep
set_option linter.unusedVariables false
set_option linter.unusedSimpArgs false
set_option maxRecDepth 100000

open Classical in
noncomputable def isKB (xs : List Nd) (k : Int) : Bool := decide (isK xs k)
theorem isKB_iff (xs : List Nd) (k : Int) : isKB xs k = true ↔ isK xs k := by unfold isKB; simp
open Classical in
noncomputable def sameB (xs ys : List Nd) : Bool := decide (xs = ys)
theorem sameB_iff (xs ys : List Nd) : sameB xs ys = true ↔ xs = ys := by unfold sameB; simp
theorem isKB_no {xs : List Nd} {k : Int} (h : ¬ isK xs k) : isKB xs k = false := by
  cases q : isKB xs k with
  | false => rfl
  | true => exact absurd ((isKB_iff xs k).1 q) h
theorem sameB_no {xs ys : List Nd} (h : ¬ xs = ys) : sameB xs ys = false := by
  cases q : sameB xs ys with
  | false => rfl
  | true => exact absurd ((sameB_iff xs ys).1 q) h
theorem InNds.form {w : World} {v : Value} {xs : List Nd} (h : InNds w v xs) : ∃ a c, v = .slice a xs.length c ∧ (xs ≠ [] → ∃ b o, a = some ⟨b, o, none⟩ ∧ NdsAt w b o xs ∧ b < w.heap.size ∧ xs.length ≤ c ∧ c ≤ maxLen) := by
  rcases h with ⟨a, cap, rfl, rfl⟩ | ⟨b, off, cap, rfl, hE, hlt, h1, h2⟩
  · exact ⟨a, cap, rfl, fun q => absurd rfl q⟩
  · exact ⟨_, cap, rfl, fun _ => ⟨b, off, rfl, hE, hlt, h1, h2⟩⟩
theorem ndNe_any (x y : Nd) : ∃ B : Bool, (B = false ↔ x = y) ∧ ∀ wx, (binOp .neq 65 (.agg #[.int .i64 x.kind, .string x.s, .bool x.hi, .string x.t, .int .u64 x.lo, .int .u64 x.up, .int .i64 x.n]) (.agg #[.int .i64 y.kind, .string y.s, .bool y.hi, .string y.t, .int .u64 y.lo, .int .u64 y.up, .int .i64 y.n])).run Tryz.prog wx = .ok (.bool B) wx := by
  obtain ⟨k, s, h, t, l, u, n⟩ := x
  obtain ⟨k', s', h', t', l', u', n'⟩ := y
  refine ⟨! decide (k = k' ∧ s.toList = s'.toList ∧ h = h' ∧ t.toList = t'.toList ∧ l = l' ∧ u = u' ∧ n = n'), ?_, fun wx => ?_⟩
  · rw [Bool.not_eq_eq_eq_not, Bool.not_false, decide_eq_true_eq]
    constructor
    · rintro ⟨rfl, h1, rfl, h2, rfl, rfl, rfl⟩
      rw [baInj h1, baInj h2]
    · intro q
      cases q
      exact ⟨rfl, rfl, rfl, rfl, rfl, rfl, rfl⟩
  · go_simp
    repeat' split
    all_goals simp_all
end Go.Proofs.YtgnpcenpcmdlfaaGreatDoor

/-
  Nodes appended; spec.l5Join.
-/
namespace Go.Proofs.YtgnpcenpcmdlfaaGreatDoor
open Go.ChangeShapes Go.WideShapes Go.ChangeAt Go.RowKit Go.Deep
set_option linter.unusedVariables false
set_option linter.unusedSimpArgs false
set_option maxRecDepth 100000

theorem cellsN_append (es fs : List Nd) : cellsN (es ++ fs) = cellsN es ++ cellsN fs := by simp [cellsN]
theorem nds_cells {w : World} {b off : Nat} {es : List Nd} (h : NdsAt w b off es) : ∀ j u, (cellsN es)[j]? = some u → w.cell? ((⟨b, off, none⟩ : Addr).add j) = some u := by
  intro j u hu
  have hj : j < es.length * 7 := by rw [← length_cellsN]; exact (List.getElem?_eq_some_iff.1 hu).1
  obtain ⟨e, he⟩ : ∃ e, es[j / 7]? = some e := ⟨_, List.getElem?_eq_getElem (by omega)⟩
  have hg := cellsN_get es (j / 7) e he (j % 7) (Nat.mod_lt _ (by omega))
  rw [show j / 7 * 7 + j % 7 = j by omega, hu] at hg
  obtain ⟨c0, c1, c2, c3, c4, c5, c6⟩ := h (j / 7) e he
  rw [Addr.add_mid, show off + j = off + j / 7 * 7 + j % 7 by omega]
  have hm : j % 7 < 7 := Nat.mod_lt _ (by omega)
  generalize j % 7 = m at *
  match m, hm, hg with
  | 0, _, hg => rw [Nat.add_zero, c0, hg]; rfl
  | 1, _, hg => rw [c1, hg]; rfl
  | 2, _, hg => rw [c2, hg]; rfl
  | 3, _, hg => rw [c3, hg]; rfl
  | 4, _, hg => rw [c4, hg]; rfl
  | 5, _, hg => rw [c5, hg]; rfl
  | 6, _, hg => rw [c6, hg]; rfl
theorem nds_one (es : List Nd) : ∀ u ∈ cellsN es, u.oneCell' = true := by
  intro u hu
  unfold cellsN at hu
  obtain ⟨e, _, he⟩ := List.mem_flatMap.1 hu
  simp at he
  rcases he with rfl | rfl | rfl | rfl | rfl | rfl | rfl <;> rfl
/-- Nodes appended to a row of the call's own. -/
theorem wpList_append_nd {ops : Array Oper} {rest : List Oper} {o : Oper} {a : Act} {Q : Exit → Act → World → Prop} (w : World) (hgd : o.guard = none) (s x : Operand)
    (ho : o.op = .call { callee := .builtin .append, args := #[s, x], argTypes := #[23, 23] })
    (base g cp n b off m cx : Nat) (fs es : List Nd) (hs : a.eval s = .slice (some ⟨g, 0, none⟩) n cp) (hx : a.eval x = .slice (some ⟨b, off, none⟩) m cx) (hn : n = fs.length) (hm : m = es.length) (hO : OwnNd w base g cp fs)
    (hc : NdsAt w b off es) (hlen : fs.length + es.length ≤ 2 ^ 30) (hbase : base ≤ w.heap.size)
    (h : ∀ g' cp' w', OwnNd w' base g' cp' (fs ++ es) → w.grownBy w' (some g) → (g' = g ∨ g' = w.heap.size) → wpList Tryz.prog ops Q rest (a.put o.dst (.slice (some ⟨g', 0, none⟩) (n + m) cp')) w') : wpList Tryz.prog ops Q (o :: rest) a w := by
  subst hn hm
  obtain ⟨i, hi, hz0, hz1, hz2⟩ := info_parts Tryz.infoNd
  refine wpList_append_own_at w hgd s x 23 ho base 65 i _ 7 72 Tryz.underlying23 hi hz0 hz1 hz2 rfl (by decide) (.slice (some ⟨g, 0, none⟩) fs.length cp) fs.length (cellsN fs) hs hO ⟨b, off, none⟩ es.length cx (cellsN es) hx (length_cellsN es) (nds_cells hc) (nds_one es) ?_ ?_ hbase ?_
  · unfold maxLen; omega
  · omega
  · intro v' w' hO' hgr hnil hat
    rcases hO'.2 with ⟨h0, _⟩ | ⟨g', cap', cur, hv, _, _, hn, hcap, _, _⟩
    · have := (hnil.1 h0).1
      cases this
    · subst hv
      refine h g' cap' w' ?_ hgr ?_
      · unfold OwnNd
        rw [List.length_append, cellsN_append]
        exact hO'
      · simp [Value.ownBlock] at hat
        exact hat
theorem flat_take {α : Type} {ns : List (List α)} {k : Nat} {y : List α} (h : ns[k]? = some y) : (ns.take (k + 1)).flatten = (ns.take k).flatten ++ y := by
  rw [List.take_add_one, h]
  simp
theorem flat_le {α : Type} (ns : List (List α)) (k : Nat) : (ns.take k).flatten.length ≤ ns.flatten.length := by
  have h : ns.flatten = (ns.take k).flatten ++ (ns.drop k).flatten := by
    rw [← List.flatten_append, List.take_append_drop]
  rw [h, List.length_append]
  omega
end Go.Proofs.YtgnpcenpcmdlfaaGreatDoor

/-
  The draws: trees of a filter.
-/
namespace Go.Proofs.YtgnpcenpcmdlfaaGreatDoor
open Go.ChangeShapes Go.WideShapes Go.ChangeAt Go.RowKit Go.Deep
set_option linter.unusedVariables false
set_option linter.unusedSimpArgs false
set_option maxRecDepth 100000

structure DInv (base cb : Nat) (bv : Value) (n : Nat) (w wr : World) : Prop where
  d : DrawAt base cb bv n wr
  c : Chg (fun k => k = cb) w wr
  lt : cb < w.heap.size
  hb : base ≤ w.heap.size
theorem DInv.start {base cb : Nat} {bv : Value} {n : Nat} {w : World} (h : DrawAt base cb bv n w) : DInv base cb bv n w w := ⟨h, Chg.of_below (Below.refl _ _), h.lt.2, h.base⟩
theorem DInv.call {base cb : Nat} {bv : Value} {n : Nat} {w wr w1 : World} (h : DInv base cb bv n w wr) (hd : Drew base cb bv n wr w1) : DInv base cb bv n w w1 := ⟨hd.1, h.c.trans hd.2, h.lt, h.hb⟩
theorem DInv.below {base cb : Nat} {bv : Value} {n : Nat} {w wr w1 : World} (h : DInv base cb bv n w wr) (hd : Below wr.heap.size wr w1) : DInv base cb bv n w w1 := ⟨h.d.below hd, h.c.trans (Chg.of_below hd), h.lt, h.hb⟩
theorem DInv.grow {base cb : Nat} {bv : Value} {n : Nat} {w wr w1 : World} (h : DInv base cb bv n w wr) {row : Option Nat} (hg : wr.grownBy w1 row) (hr : ∀ k, row = some k → w.heap.size ≤ k) : DInv base cb bv n w w1 := by
  have hc : Chg (fun k => row = some k) wr w1 := Chg.of_grown hg (fun k q => q)
  have hl := h.lt
  have hbb := h.hb
  exact ⟨h.d.chg hc (fun q => by have := hr _ q; omega) (fun k q => by have := hr _ q; omega), Chg.grown_new h.c hg hr, h.lt, h.hb⟩
theorem OwnNd.up2 {w : World} {base base' g cap : Nat} {es : List Nd} (h : OwnNd w base g cap es) (hb : base' ≤ base) : OwnNd w base' g cap es := h.mono hb
theorem OwnNd.chg {S : Nat → Prop} {w w' : World} {base g cap : Nat} {es : List Nd} (h : OwnNd w base g cap es) (hc : Chg S w w') (hn : ¬ S g) : OwnNd w' base g cap es := own_chg h hc (fun k q => by simp [Value.ownBlock] at q; subst q; exact hn)
theorem ownNd_one (w : World) (base : Nat) (f : Nd) (hb : base ≤ w.heap.size) : OwnNd (w.alloc (Obj.cells #[.int .i64 f.kind, .string f.s, .bool f.hi, .string f.t, .int .u64 f.lo, .int .u64 f.up, .int .i64 f.n] 65)) base w.heap.size 1 [f] :=
  World.ownsRow_lit (base := base) (e := 65) (size := 7) w #[.int .i64 f.kind, .string f.s, .bool f.hi, .string f.t, .int .u64 f.lo, .int .u64 f.up, .int .i64 f.n] 1 hb (by decide) rfl
/-- Nodes drawn. -/
def TreP (base cb : Nat) (bv : Value) (n m : Nat) (w : World) (e : Ending) (w' : World) : Prop := ∃ (g cp : Nat) (xs : List Nd), e = .returned (.slice (some ⟨g, 0, none⟩) xs.length cp) ∧ xs.length ≤ m ∧ 0 < xs.length ∧ Hid ((∀ e ∈ xs, e.small) ∧ OwnNd w' w.heap.size g cp xs ∧ DInv base cb bv n w w')
def TreC (base cb : Nat) (bv : Value) (n : Nat) (z : Int) (m : Nat) : Prop := ∀ w, DrawAt base cb bv n w → Calls Tryz.prog 99 #[.pointer (some ⟨cb, 0, none⟩), .int .i64 z] w (TreP base cb bv n m w)
theorem small_kind (k : Int) (h : 0 ≤ k ∧ k ≤ 100000) : (⟨k, ⟨#[]⟩, false, ⟨#[]⟩, 0, 0, 0⟩ : Nd).small := ⟨Nat.zero_le _, Nat.zero_le _, (by show (0 : Int) ≤ 0 ∧ (0 : Int) ≤ 100000; omega), (by show (0 : Int) ≤ 0 ∧ (0 : Int) ≤ 100000; omega), (by show (0 : Int) ≤ 0 ∧ (0 : Int) ≤ 100000; omega), h⟩
theorem TreP.up {base cb : Nat} {bv : Value} {n m m' : Nat} {w : World} {e : Ending} {w' : World} (h : TreP base cb bv n m w e w') (hm : m ≤ m') : TreP base cb bv n m' w e w' := by
  obtain ⟨g, cp, xs, h1, h2, h3, h4⟩ := h
  exact ⟨g, cp, xs, h1, by omega, h3, h4⟩
/-- Two rows, and the node behind them. -/
structure Two (base cb : Nat) (bv : Value) (n : Nat) (w : World) (ga ca gb cc : Nat) (A B : List Nd) (wr : World) : Prop where
  a : OwnNd wr w.heap.size ga ca A
  b : OwnNd wr w.heap.size gb cc B
  ne : ¬ ga = gb
  d : DInv base cb bv n w wr
  sa : ∀ e ∈ A, e.small
  sb : ∀ e ∈ B, e.small
set_option maxHeartbeats 8000000 in
theorem tree_step (base cb : Nat) (bv : Value) (n : Nat) (z : Int) (m : Nat) (hz0 : 0 ≤ z) (hz1 : z ≤ 100) (hm : m ≤ 10000) (HT0 : 0 < z → TreC base cb bv n (z - 1) m) : TreC base cb bv n z (3 * m + 1) := by
  intro w h
  have HT : Hid (0 < z → TreC base cb bv n (z - 1) m) := HT0
  have HD : Hid (DInv base cb bv n w w) := DInv.start h
  clear h HT0
  have leafArm : ∀ (wx : World), DInv base cb bv n w wx → Calls Tryz.prog 118 #[.pointer (some ⟨cb, 0, none⟩)] wx (LefP base cb bv n wx) := fun wx hx => drawLeaf_core base cb bv n wx hx.d
  have HL : Hid (∀ (wx : World), DInv base cb bv n w wx → Calls Tryz.prog 118 #[.pointer (some ⟨cb, 0, none⟩)] wx (LefP base cb bv n wx)) := leafArm
  clear leafArm
  go_enter Tryz.func99, Tryz.ntmps99
  go_wp2_with fail
  refine (below_core base cb bv n 10 _ HD.out.d (by omega) (by omega)).mono ?_
  rintro e w1 ⟨x, rfl, hx0, hx1, hd1⟩
  have H1 : Hid (DInv base cb bv n w w1) := HD.out.call hd1
  have hs1 := hd1.2.size
  clear hd1
  by_cases hz : z = 0 ∨ x < 2
  · have fin : ∀ (wx wy : World) (f : Nd), DInv base cb bv n w wx → f.small → wy = wx.alloc (Obj.cells #[.int .i64 f.kind, .string f.s, .bool f.hi, .string f.t, .int .u64 f.lo, .int .u64 f.up, .int .i64 f.n] 65) → TreP base cb bv n (3 * m + 1) w (.returned (.slice (some ⟨wx.heap.size, 0, none⟩) 1 1)) wy := fun wx wy f hx hf hy => by
      subst hy
      refine ⟨wx.heap.size, 1, [f], rfl, by simp, by simp, fun e he => by simp at he; subst he; exact hf, ownNd_one wx _ f hx.c.size, hx.below ((Below.refl _ _).alloc (Nat.le_refl _) _)⟩
    have HF : Hid (∀ (wx wy : World) (f : Nd), DInv base cb bv n w wx → f.small → wy = wx.alloc (Obj.cells #[.int .i64 f.kind, .string f.s, .bool f.hi, .string f.t, .int .u64 f.lo, .int .u64 f.up, .int .i64 f.n] 65) → TreP base cb bv n (3 * m + 1) w (.returned (.slice (some ⟨wx.heap.size, 0, none⟩) 1 1)) wy) := fin
    clear fin
    by_cases hz' : z = 0
    · subst hz'
      go_wp2_with fail
      refine (HL.out _ H1.out).mono ?_
      rintro e w2 ⟨f, rfl, hf, hd2⟩
      have H2 : Hid (DInv base cb bv n w w2 ∧ f.small) := ⟨H1.out.call hd2, hf⟩
      clear hd2 hf
      go_wp2_with fail
      go_ret
      exact HF.out w2 _ f H2.out.1 H2.out.2 rfl
    · have hx2 : x < 2 := by omega
      have hzb : (z == 0) = false := by rw [beq_eq_false_iff_ne]; exact hz'
      go_wp2_with fail
      refine (HL.out _ H1.out).mono ?_
      rintro e w2 ⟨f, rfl, hf, hd2⟩
      have H2 : Hid (DInv base cb bv n w w2 ∧ f.small) := ⟨H1.out.call hd2, hf⟩
      clear hd2 hf
      go_wp2_with fail
      go_ret
      exact HF.out w2 _ f H2.out.1 H2.out.2 rfl
  · have hzb : (z == 0) = false := by rw [beq_eq_false_iff_ne]; omega
    have hx2 : ¬ x < 2 := by omega
    have HC : Hid (∀ wx, DInv base cb bv n w wx → Calls Tryz.prog 99 #[.pointer (some ⟨cb, 0, none⟩), .int .i64 (z - 1)] wx (TreP base cb bv n m wx)) := fun wx hx => HT.out (by omega) wx hx.d
    have hzw : 1 ≤ z := by omega
    clear hz
    go_wp2_with fail
    refine (HC.out _ H1.out).mono ?_
    rintro e w2 ⟨ga, ca, A, rfl, hAl, hA0, K2⟩
    have H2 : Hid (DInv base cb bv n w w2) := ⟨K2.out.2.2.d, H1.out.c.trans K2.out.2.2.c, H1.out.lt, H1.out.hb⟩
    have hs2 := K2.out.2.2.c.size
    have hga := K2.out.2.1.lt
    go_wp2_with fail
    refine (HC.out _ H2.out).mono ?_
    rintro e w3 ⟨gb, cc, B, rfl, hBl, hB0, K3⟩
    have hs3 := K3.out.2.2.c.size
    have hgb := K3.out.2.1.lt
    have H3 : Hid (Two base cb bv n w ga ca gb cc A B w3) := by
      have hcl := H1.out.lt
      refine ⟨(K2.out.2.1.mono (by omega)).chg K3.out.2.2.c (by omega), K3.out.2.1.mono (by omega), by omega, ⟨K3.out.2.2.d, H2.out.c.trans K3.out.2.2.c, H1.out.lt, H1.out.hb⟩, K2.out.1, K3.out.1⟩
    clear K2 K3 H2 HD
    by_cases hx6 : x < 6
    · skip
      go_wp2_with (at_builtin; refine wpList_append_nd _ rfl _ _ rfl w.heap.size ga ca A.length gb 0 B.length cc A B rfl rfl rfl rfl H3.out.a H3.out.b.at ?hl1 ?hb1 ?_)
      case hl1 => omega
      case hb1 => exact H3.out.d.c.size
      intro g4 c4 w4 hO4 hgr4 hat4
      obtain ⟨Q, hQ⟩ : ∃ Q, Q = A ++ B := ⟨_, rfl⟩
      rw [← hQ] at hO4
      have HQ : Hid (Q.length = A.length + B.length) := by show _ = _; rw [hQ]; simp
      have H4 : Hid (OwnNd w4 w.heap.size g4 c4 Q ∧ DInv base cb bv n w w4 ∧ (∀ e ∈ Q, e.small)) := ⟨hO4, H3.out.d.grow hgr4 (fun k q => by cases q; exact H3.out.a.lt.1), fun e he => by rw [hQ] at he; exact (List.mem_append.1 he).elim (fun q => H3.out.sa e q) (fun q => H3.out.sb e q)⟩
      clear hO4 hgr4 hat4 hQ
      obtain ⟨W5, hW5⟩ : ∃ W5 : World, W5 = w4.alloc (Obj.cells #[.int .i64 14, .string ⟨#[]⟩, .bool false, .string ⟨#[]⟩, .int .u64 0, .int .u64 0, .int .i64 0] 65) := ⟨_, rfl⟩
      have H5 : Hid (OwnNd W5 w.heap.size g4 c4 Q ∧ DInv base cb bv n w W5 ∧ NdsAt W5 w4.heap.size 0 [(⟨14, ⟨#[]⟩, false, ⟨#[]⟩, 0, 0, 0⟩ : Nd)]) := by
        have hb5 : Below w4.heap.size w4 W5 := by rw [hW5]; exact (Below.refl _ _).alloc (Nat.le_refl _) _
        exact ⟨H4.out.1.below hb5 H4.out.1.lt.2, H4.out.2.1.below hb5, by rw [hW5]; exact (ownNd_one w4 w.heap.size ⟨14, ⟨#[]⟩, false, ⟨#[]⟩, 0, 0, 0⟩ H4.out.2.1.c.size).at⟩
      have HW5 : Hid (W5 = w4.alloc (Obj.cells #[.int .i64 14, .string ⟨#[]⟩, .bool false, .string ⟨#[]⟩, .int .u64 0, .int .u64 0, .int .i64 0] 65)) := hW5
      clear hW5
      go_wp2_with (at_builtin; rw [← HW5.out]; refine wpList_append_nd _ rfl _ _ rfl w.heap.size g4 c4 (A.length + B.length) w4.heap.size 0 1 1 Q [(⟨14, ⟨#[]⟩, false, ⟨#[]⟩, 0, 0, 0⟩ : Nd)] rfl rfl HQ.out.symm rfl H5.out.1 H5.out.2.2 ?hl2 ?hb2 ?_)
      case hl2 => rw [HQ.out]; simp; omega
      case hb2 => exact H5.out.2.1.c.size
      intro g6 c6 w6 hO6 hgr6 hat6
      have H6 : Hid (TreP base cb bv n (3 * m + 1) w (.returned (.slice (some ⟨g6, 0, none⟩) (A.length + B.length + 1) c6)) w6) := by
        have hq := HQ.out
        refine ⟨g6, c6, Q ++ [(⟨14, ⟨#[]⟩, false, ⟨#[]⟩, 0, 0, 0⟩ : Nd)], by rw [List.length_append, hq]; rfl, by rw [List.length_append, hq]; simp; omega, by simp, fun e he => ?_, hO6, H5.out.2.1.grow hgr6 (fun k q => by cases q; exact H5.out.1.lt.1)⟩
        rcases List.mem_append.1 he with q | q
        · exact H4.out.2.2 e q
        · simp at q; subst q; exact small_kind 14 (by omega)
      clear hO6 hgr6 hat6 HW5
      go_wp2_with fail
      go_ret
      exact H6.out
    · by_cases hx8 : x < 8
      · skip
        go_wp2_with (at_builtin; refine wpList_append_nd _ rfl _ _ rfl w.heap.size ga ca A.length gb 0 B.length cc A B rfl rfl rfl rfl H3.out.a H3.out.b.at ?hl1 ?hb1 ?_)
        case hl1 => omega
        case hb1 => exact H3.out.d.c.size
        intro g4 c4 w4 hO4 hgr4 hat4
        obtain ⟨Q, hQ⟩ : ∃ Q, Q = A ++ B := ⟨_, rfl⟩
        rw [← hQ] at hO4
        have HQ : Hid (Q.length = A.length + B.length) := by show _ = _; rw [hQ]; simp
        have H4 : Hid (OwnNd w4 w.heap.size g4 c4 Q ∧ DInv base cb bv n w w4 ∧ (∀ e ∈ Q, e.small)) := ⟨hO4, H3.out.d.grow hgr4 (fun k q => by cases q; exact H3.out.a.lt.1), fun e he => by rw [hQ] at he; exact (List.mem_append.1 he).elim (fun q => H3.out.sa e q) (fun q => H3.out.sb e q)⟩
        clear hO4 hgr4 hat4 hQ
        obtain ⟨W5, hW5⟩ : ∃ W5 : World, W5 = w4.alloc (Obj.cells #[.int .i64 15, .string ⟨#[]⟩, .bool false, .string ⟨#[]⟩, .int .u64 0, .int .u64 0, .int .i64 0] 65) := ⟨_, rfl⟩
        have H5 : Hid (OwnNd W5 w.heap.size g4 c4 Q ∧ DInv base cb bv n w W5 ∧ NdsAt W5 w4.heap.size 0 [(⟨15, ⟨#[]⟩, false, ⟨#[]⟩, 0, 0, 0⟩ : Nd)]) := by
          have hb5 : Below w4.heap.size w4 W5 := by rw [hW5]; exact (Below.refl _ _).alloc (Nat.le_refl _) _
          exact ⟨H4.out.1.below hb5 H4.out.1.lt.2, H4.out.2.1.below hb5, by rw [hW5]; exact (ownNd_one w4 w.heap.size ⟨15, ⟨#[]⟩, false, ⟨#[]⟩, 0, 0, 0⟩ H4.out.2.1.c.size).at⟩
        have HW5 : Hid (W5 = w4.alloc (Obj.cells #[.int .i64 15, .string ⟨#[]⟩, .bool false, .string ⟨#[]⟩, .int .u64 0, .int .u64 0, .int .i64 0] 65)) := hW5
        clear hW5
        go_wp2_with (at_builtin; rw [← HW5.out]; refine wpList_append_nd _ rfl _ _ rfl w.heap.size g4 c4 (A.length + B.length) w4.heap.size 0 1 1 Q [(⟨15, ⟨#[]⟩, false, ⟨#[]⟩, 0, 0, 0⟩ : Nd)] rfl rfl HQ.out.symm rfl H5.out.1 H5.out.2.2 ?hl2 ?hb2 ?_)
        case hl2 => rw [HQ.out]; simp; omega
        case hb2 => exact H5.out.2.1.c.size
        intro g6 c6 w6 hO6 hgr6 hat6
        have H6 : Hid (TreP base cb bv n (3 * m + 1) w (.returned (.slice (some ⟨g6, 0, none⟩) (A.length + B.length + 1) c6)) w6) := by
          have hq := HQ.out
          refine ⟨g6, c6, Q ++ [(⟨15, ⟨#[]⟩, false, ⟨#[]⟩, 0, 0, 0⟩ : Nd)], by rw [List.length_append, hq]; rfl, by rw [List.length_append, hq]; simp; omega, by simp, fun e he => ?_, hO6, H5.out.2.1.grow hgr6 (fun k q => by cases q; exact H5.out.1.lt.1)⟩
          rcases List.mem_append.1 he with q | q
          · exact H4.out.2.2 e q
          · simp at q; subst q; exact small_kind 15 (by omega)
        clear hO6 hgr6 hat6 HW5
        go_wp2_with fail
        go_ret
        exact H6.out
      · by_cases hx9 : x = 8
        · subst hx9
          have HON : Hid (∀ wx, DInv base cb bv n w wx → Calls Tryz.prog 33 #[.pointer (some ⟨cb, 0, none⟩), .int .i64 3] wx fun e w' => ∃ v : Value, e = .returned v ∧ (v = .bool true ∨ v = .bool false) ∧ Drew base cb bv n wx w') := fun wx hx => once_core base cb bv n 3 wx hx.d (by omega) (by omega)
          go_wp2_with fail
          refine (HON.out _ H3.out.d).mono ?_
          rintro e w3' ⟨v, rfl, hv, hd⟩
          have H3b : Hid (Two base cb bv n w ga ca gb cc A B w3') := by
            have hcl := H1.out.lt
            exact ⟨H3.out.a.chg hd.2 (by have := H3.out.a.lt.1; omega), H3.out.b.chg hd.2 (by have := H3.out.b.lt.1; omega), H3.out.ne, H3.out.d.call hd, H3.out.sa, H3.out.sb⟩
          clear H3 hd HON
          rcases hv with rfl | rfl
          · skip
            go_wp2_with (at_builtin; refine wpList_append_nd _ rfl _ _ rfl w.heap.size ga ca A.length ga 0 A.length ca A A rfl rfl rfl rfl H3b.out.a H3b.out.a.at ?hl1 ?hb1 ?_)
            case hl1 => omega
            case hb1 => exact H3b.out.d.c.size
            intro g4 c4 w4 hO4 hgr4 hat4
            obtain ⟨Q, hQ⟩ : ∃ Q, Q = A ++ A := ⟨_, rfl⟩
            rw [← hQ] at hO4
            have HQ : Hid (Q.length = A.length + A.length) := by show _ = _; rw [hQ]; simp
            have H4 : Hid (OwnNd w4 w.heap.size g4 c4 Q ∧ DInv base cb bv n w w4 ∧ (∀ e ∈ Q, e.small)) := ⟨hO4, H3b.out.d.grow hgr4 (fun k q => by cases q; exact H3b.out.a.lt.1), fun e he => by rw [hQ] at he; exact (List.mem_append.1 he).elim (fun q => H3b.out.sa e q) (fun q => H3b.out.sa e q)⟩
            clear hO4 hgr4 hat4 hQ
            obtain ⟨W5, hW5⟩ : ∃ W5 : World, W5 = w4.alloc (Obj.cells #[.int .i64 15, .string ⟨#[]⟩, .bool false, .string ⟨#[]⟩, .int .u64 0, .int .u64 0, .int .i64 0] 65) := ⟨_, rfl⟩
            have H5 : Hid (OwnNd W5 w.heap.size g4 c4 Q ∧ DInv base cb bv n w W5 ∧ NdsAt W5 w4.heap.size 0 [(⟨15, ⟨#[]⟩, false, ⟨#[]⟩, 0, 0, 0⟩ : Nd)]) := by
              have hb5 : Below w4.heap.size w4 W5 := by rw [hW5]; exact (Below.refl _ _).alloc (Nat.le_refl _) _
              exact ⟨H4.out.1.below hb5 H4.out.1.lt.2, H4.out.2.1.below hb5, by rw [hW5]; exact (ownNd_one w4 w.heap.size ⟨15, ⟨#[]⟩, false, ⟨#[]⟩, 0, 0, 0⟩ H4.out.2.1.c.size).at⟩
            have HW5 : Hid (W5 = w4.alloc (Obj.cells #[.int .i64 15, .string ⟨#[]⟩, .bool false, .string ⟨#[]⟩, .int .u64 0, .int .u64 0, .int .i64 0] 65)) := hW5
            clear hW5
            go_wp2_with (at_builtin; rw [← HW5.out]; refine wpList_append_nd _ rfl _ _ rfl w.heap.size g4 c4 (A.length + A.length) w4.heap.size 0 1 1 Q [(⟨15, ⟨#[]⟩, false, ⟨#[]⟩, 0, 0, 0⟩ : Nd)] rfl rfl HQ.out.symm rfl H5.out.1 H5.out.2.2 ?hl2 ?hb2 ?_)
            case hl2 => rw [HQ.out]; simp; omega
            case hb2 => exact H5.out.2.1.c.size
            intro g6 c6 w6 hO6 hgr6 hat6
            have H6 : Hid (TreP base cb bv n (3 * m + 1) w (.returned (.slice (some ⟨g6, 0, none⟩) (A.length + A.length + 1) c6)) w6) := by
              have hq := HQ.out
              refine ⟨g6, c6, Q ++ [(⟨15, ⟨#[]⟩, false, ⟨#[]⟩, 0, 0, 0⟩ : Nd)], by rw [List.length_append, hq]; rfl, by rw [List.length_append, hq]; simp; omega, by simp, fun e he => ?_, hO6, H5.out.2.1.grow hgr6 (fun k q => by cases q; exact H5.out.1.lt.1)⟩
              rcases List.mem_append.1 he with q | q
              · exact H4.out.2.2 e q
              · simp at q; subst q; exact small_kind 15 (by omega)
            clear hO6 hgr6 hat6 HW5
            go_wp2_with fail
            go_ret
            exact H6.out
          · skip
            have H3d : Hid (DInv base cb bv n w w3') := H3b.out.d
            go_wp2_with fail
            refine (HC.out _ H3d.out).mono ?_
            rintro e w7 ⟨gc, cd, C, rfl, hCl, hC0, K7⟩
            have hs7 := K7.out.2.2.c.size
            have hgc := K7.out.2.1.lt
            have H7 : Hid (Two base cb bv n w ga ca gb cc A B w7 ∧ OwnNd w7 w.heap.size gc cd C ∧ (∀ e ∈ C, e.small) ∧ ¬ gc = ga) := by
              have hcl := H1.out.lt
              have hza := H3b.out.a.lt
              have hzw := H3b.out.d.c.size
              exact ⟨⟨H3b.out.a.chg K7.out.2.2.c (by omega), H3b.out.b.chg K7.out.2.2.c (by have := H3b.out.b.lt.1; omega), H3b.out.ne, ⟨K7.out.2.2.d, H3b.out.d.c.trans K7.out.2.2.c, H1.out.lt, H1.out.hb⟩, H3b.out.sa, H3b.out.sb⟩, K7.out.2.1.mono (by omega), K7.out.1, by omega⟩
            clear K7 H3d H3b
            go_wp2_with (at_builtin; refine wpList_append_nd _ rfl _ _ rfl w.heap.size ga ca A.length gb 0 B.length cc A B rfl rfl rfl rfl H7.out.1.a H7.out.1.b.at ?hl1 ?hb1 ?_)
            case hl1 => omega
            case hb1 => exact H7.out.1.d.c.size
            intro g4 c4 w4 hO4 hgr4 hat4
            obtain ⟨Q, hQ⟩ : ∃ Q, Q = A ++ B := ⟨_, rfl⟩
            rw [← hQ] at hO4
            have HQ : Hid (Q.length = A.length + B.length) := by show _ = _; rw [hQ]; simp
            have H4 : Hid (OwnNd w4 w.heap.size g4 c4 Q ∧ DInv base cb bv n w w4 ∧ (∀ e ∈ Q, e.small) ∧ OwnNd w4 w.heap.size gc cd C) := ⟨hO4, H7.out.1.d.grow hgr4 (fun k q => by cases q; exact H7.out.1.a.lt.1), fun e he => by rw [hQ] at he; exact (List.mem_append.1 he).elim (fun q => H7.out.1.sa e q) (fun q => H7.out.1.sb e q), H7.out.2.1.chg (Chg.of_grown (S := fun k => k = ga) hgr4 (fun k q => by cases q; rfl)) H7.out.2.2.2⟩
            clear hO4 hgr4 hat4 hQ
            go_wp2_with (at_builtin; refine wpList_append_nd _ rfl _ _ rfl w.heap.size g4 c4 (A.length + B.length) gc 0 C.length cd Q C rfl rfl HQ.out.symm rfl H4.out.1 H4.out.2.2.2.at ?hl2 ?hb2 ?_)
            case hl2 => rw [HQ.out]; omega
            case hb2 => exact H4.out.2.1.c.size
            intro g8 c8 w8 hO8 hgr8 hat8
            obtain ⟨T, hTq⟩ : ∃ T, T = Q ++ C := ⟨_, rfl⟩
            rw [← hTq] at hO8
            have HTl : Hid (T.length = A.length + B.length + C.length) := by show _ = _; rw [hTq, List.length_append, HQ.out]
            have H8 : Hid (OwnNd w8 w.heap.size g8 c8 T ∧ DInv base cb bv n w w8 ∧ (∀ e ∈ T, e.small)) := ⟨hO8, H4.out.2.1.grow hgr8 (fun k q => by cases q; exact H4.out.1.lt.1), fun e he => by rw [hTq] at he; exact (List.mem_append.1 he).elim (fun q => H4.out.2.2.1 e q) (fun q => H7.out.2.2.1 e q)⟩
            clear hO8 hgr8 hat8 hTq
            obtain ⟨W5, hW5⟩ : ∃ W5 : World, W5 = w8.alloc (Obj.cells #[.int .i64 16, .string ⟨#[]⟩, .bool false, .string ⟨#[]⟩, .int .u64 0, .int .u64 0, .int .i64 0] 65) := ⟨_, rfl⟩
            have H5 : Hid (OwnNd W5 w.heap.size g8 c8 T ∧ DInv base cb bv n w W5 ∧ NdsAt W5 w8.heap.size 0 [(⟨16, ⟨#[]⟩, false, ⟨#[]⟩, 0, 0, 0⟩ : Nd)]) := by
              have hb5 : Below w8.heap.size w8 W5 := by rw [hW5]; exact (Below.refl _ _).alloc (Nat.le_refl _) _
              exact ⟨H8.out.1.below hb5 H8.out.1.lt.2, H8.out.2.1.below hb5, by rw [hW5]; exact (ownNd_one w8 w.heap.size ⟨16, ⟨#[]⟩, false, ⟨#[]⟩, 0, 0, 0⟩ H8.out.2.1.c.size).at⟩
            have HW5 : Hid (W5 = w8.alloc (Obj.cells #[.int .i64 16, .string ⟨#[]⟩, .bool false, .string ⟨#[]⟩, .int .u64 0, .int .u64 0, .int .i64 0] 65)) := hW5
            clear hW5
            go_wp2_with (at_builtin; rw [← HW5.out]; refine wpList_append_nd _ rfl _ _ rfl w.heap.size g8 c8 (A.length + B.length + C.length) w8.heap.size 0 1 1 T [(⟨16, ⟨#[]⟩, false, ⟨#[]⟩, 0, 0, 0⟩ : Nd)] rfl rfl HTl.out.symm rfl H5.out.1 H5.out.2.2 ?hl3 ?hb3 ?_)
            case hl3 => rw [HTl.out]; simp; omega
            case hb3 => exact H5.out.2.1.c.size
            intro g6 c6 w6 hO6 hgr6 hat6
            have H6 : Hid (TreP base cb bv n (3 * m + 1) w (.returned (.slice (some ⟨g6, 0, none⟩) (A.length + B.length + C.length + 1) c6)) w6) := by
              have hq := HTl.out
              refine ⟨g6, c6, T ++ [(⟨16, ⟨#[]⟩, false, ⟨#[]⟩, 0, 0, 0⟩ : Nd)], by rw [List.length_append, hq]; rfl, by rw [List.length_append, hq]; simp; omega, by simp, fun e he => ?_, hO6, H5.out.2.1.grow hgr6 (fun k q => by cases q; exact H5.out.1.lt.1)⟩
              rcases List.mem_append.1 he with q | q
              · exact H8.out.2.2 e q
              · simp at q; subst q; exact small_kind 16 (by omega)
            clear hO6 hgr6 hat6 HW5
            go_wp2_with fail
            go_ret
            exact H6.out
        · have hxb : (x == 8) = false := by rw [beq_eq_false_iff_ne]; exact hx9
          have H3d : Hid (DInv base cb bv n w w3) := H3.out.d
          go_wp2_with fail
          refine (HC.out _ H3d.out).mono ?_
          rintro e w7 ⟨gc, cd, C, rfl, hCl, hC0, K7⟩
          have hs7 := K7.out.2.2.c.size
          have hgc := K7.out.2.1.lt
          have H7 : Hid (Two base cb bv n w ga ca gb cc A B w7 ∧ OwnNd w7 w.heap.size gc cd C ∧ (∀ e ∈ C, e.small) ∧ ¬ gc = ga) := by
            have hcl := H1.out.lt
            have hza := H3.out.a.lt
            have hzw := H3.out.d.c.size
            exact ⟨⟨H3.out.a.chg K7.out.2.2.c (by omega), H3.out.b.chg K7.out.2.2.c (by have := H3.out.b.lt.1; omega), H3.out.ne, ⟨K7.out.2.2.d, H3.out.d.c.trans K7.out.2.2.c, H1.out.lt, H1.out.hb⟩, H3.out.sa, H3.out.sb⟩, K7.out.2.1.mono (by omega), K7.out.1, by omega⟩
          clear K7 H3d H3
          go_wp2_with (at_builtin; refine wpList_append_nd _ rfl _ _ rfl w.heap.size ga ca A.length gb 0 B.length cc A B rfl rfl rfl rfl H7.out.1.a H7.out.1.b.at ?hl1 ?hb1 ?_)
          case hl1 => omega
          case hb1 => exact H7.out.1.d.c.size
          intro g4 c4 w4 hO4 hgr4 hat4
          obtain ⟨Q, hQ⟩ : ∃ Q, Q = A ++ B := ⟨_, rfl⟩
          rw [← hQ] at hO4
          have HQ : Hid (Q.length = A.length + B.length) := by show _ = _; rw [hQ]; simp
          have H4 : Hid (OwnNd w4 w.heap.size g4 c4 Q ∧ DInv base cb bv n w w4 ∧ (∀ e ∈ Q, e.small) ∧ OwnNd w4 w.heap.size gc cd C) := ⟨hO4, H7.out.1.d.grow hgr4 (fun k q => by cases q; exact H7.out.1.a.lt.1), fun e he => by rw [hQ] at he; exact (List.mem_append.1 he).elim (fun q => H7.out.1.sa e q) (fun q => H7.out.1.sb e q), H7.out.2.1.chg (Chg.of_grown (S := fun k => k = ga) hgr4 (fun k q => by cases q; rfl)) H7.out.2.2.2⟩
          clear hO4 hgr4 hat4 hQ
          go_wp2_with (at_builtin; refine wpList_append_nd _ rfl _ _ rfl w.heap.size g4 c4 (A.length + B.length) gc 0 C.length cd Q C rfl rfl HQ.out.symm rfl H4.out.1 H4.out.2.2.2.at ?hl2 ?hb2 ?_)
          case hl2 => rw [HQ.out]; omega
          case hb2 => exact H4.out.2.1.c.size
          intro g8 c8 w8 hO8 hgr8 hat8
          obtain ⟨T, hTq⟩ : ∃ T, T = Q ++ C := ⟨_, rfl⟩
          rw [← hTq] at hO8
          have HTl : Hid (T.length = A.length + B.length + C.length) := by show _ = _; rw [hTq, List.length_append, HQ.out]
          have H8 : Hid (OwnNd w8 w.heap.size g8 c8 T ∧ DInv base cb bv n w w8 ∧ (∀ e ∈ T, e.small)) := ⟨hO8, H4.out.2.1.grow hgr8 (fun k q => by cases q; exact H4.out.1.lt.1), fun e he => by rw [hTq] at he; exact (List.mem_append.1 he).elim (fun q => H4.out.2.2.1 e q) (fun q => H7.out.2.2.1 e q)⟩
          clear hO8 hgr8 hat8 hTq
          obtain ⟨W5, hW5⟩ : ∃ W5 : World, W5 = w8.alloc (Obj.cells #[.int .i64 16, .string ⟨#[]⟩, .bool false, .string ⟨#[]⟩, .int .u64 0, .int .u64 0, .int .i64 0] 65) := ⟨_, rfl⟩
          have H5 : Hid (OwnNd W5 w.heap.size g8 c8 T ∧ DInv base cb bv n w W5 ∧ NdsAt W5 w8.heap.size 0 [(⟨16, ⟨#[]⟩, false, ⟨#[]⟩, 0, 0, 0⟩ : Nd)]) := by
            have hb5 : Below w8.heap.size w8 W5 := by rw [hW5]; exact (Below.refl _ _).alloc (Nat.le_refl _) _
            exact ⟨H8.out.1.below hb5 H8.out.1.lt.2, H8.out.2.1.below hb5, by rw [hW5]; exact (ownNd_one w8 w.heap.size ⟨16, ⟨#[]⟩, false, ⟨#[]⟩, 0, 0, 0⟩ H8.out.2.1.c.size).at⟩
          have HW5 : Hid (W5 = w8.alloc (Obj.cells #[.int .i64 16, .string ⟨#[]⟩, .bool false, .string ⟨#[]⟩, .int .u64 0, .int .u64 0, .int .i64 0] 65)) := hW5
          clear hW5
          go_wp2_with (at_builtin; rw [← HW5.out]; refine wpList_append_nd _ rfl _ _ rfl w.heap.size g8 c8 (A.length + B.length + C.length) w8.heap.size 0 1 1 T [(⟨16, ⟨#[]⟩, false, ⟨#[]⟩, 0, 0, 0⟩ : Nd)] rfl rfl HTl.out.symm rfl H5.out.1 H5.out.2.2 ?hl3 ?hb3 ?_)
          case hl3 => rw [HTl.out]; simp; omega
          case hb3 => exact H5.out.2.1.c.size
          intro g6 c6 w6 hO6 hgr6 hat6
          have H6 : Hid (TreP base cb bv n (3 * m + 1) w (.returned (.slice (some ⟨g6, 0, none⟩) (A.length + B.length + C.length + 1) c6)) w6) := by
            have hq := HTl.out
            refine ⟨g6, c6, T ++ [(⟨16, ⟨#[]⟩, false, ⟨#[]⟩, 0, 0, 0⟩ : Nd)], by rw [List.length_append, hq]; rfl, by rw [List.length_append, hq]; simp; omega, by simp, fun e he => ?_, hO6, H5.out.2.1.grow hgr6 (fun k q => by cases q; exact H5.out.1.lt.1)⟩
            rcases List.mem_append.1 he with q | q
            · exact H8.out.2.2 e q
            · simp at q; subst q; exact small_kind 16 (by omega)
          clear hO6 hgr6 hat6 HW5
          go_wp2_with fail
          go_ret
          exact H6.out
end Go.Proofs.YtgnpcenpcmdlfaaGreatDoor

/-
  The draws: a filter.
-/
namespace Go.Proofs.YtgnpcenpcmdlfaaGreatDoor
open Go.ChangeShapes Go.WideShapes Go.ChangeAt Go.RowKit Go.Deep
set_option linter.unusedVariables false
set_option linter.unusedSimpArgs false
set_option maxRecDepth 100000

theorem tree_any (base cb : Nat) (bv : Value) (n : Nat) (z : Int) (h0 : 0 ≤ z) (h3 : z ≤ 3) : TreC base cb bv n z 40 := by
  have t0 : TreC base cb bv n 0 1 := tree_step base cb bv n 0 0 (by omega) (by omega) (by omega) (fun q => absurd q (by omega))
  have t1 : TreC base cb bv n 1 4 := tree_step base cb bv n 1 1 (by omega) (by omega) (by omega) (fun _ => t0)
  have t2 : TreC base cb bv n 2 13 := tree_step base cb bv n 2 4 (by omega) (by omega) (by omega) (fun _ => t1)
  have t3 : TreC base cb bv n 3 40 := tree_step base cb bv n 3 13 (by omega) (by omega) (by omega) (fun _ => t2)
  have hz : z = 0 ∨ z = 1 ∨ z = 2 ∨ z = 3 := by omega
  rcases hz with rfl | rfl | rfl | rfl
  · exact fun w hw => (t0 w hw).mono fun e w' h => h.up (by omega)
  · exact fun w hw => (t1 w hw).mono fun e w' h => h.up (by omega)
  · exact fun w hw => (t2 w hw).mono fun e w' h => h.up (by omega)
  · exact t3
/-- A filter drawn, its nodes in a row of the call's own. -/
def FilP (base cb : Nat) (bv : Value) (n m : Nat) (w : World) (e : Ending) (w' : World) : Prop := ∃ (g cp : Nat) (xs : List Nd), e = .returned (.agg #[.slice (some ⟨g, 0, none⟩) xs.length cp]) ∧ xs.length ≤ m ∧ 0 < xs.length ∧ Hid ((∀ e ∈ xs, e.small) ∧ OwnNd w' w.heap.size g cp xs ∧ DInv base cb bv n w w')
set_option maxHeartbeats 4000000 in
theorem drawFilter_core (base cb : Nat) (bv : Value) (n : Nat) (w : World) (h : DrawAt base cb bv n w) :
    Calls Tryz.prog 69 #[.pointer (some ⟨cb, 0, none⟩)] w (FilP base cb bv n 40 w) := by
  obtain ⟨Wa, hWa⟩ : ∃ Wa : World, Wa = w.alloc (Obj.cells #[.slice none 0 0] 25) := ⟨_, rfl⟩
  have hba : Below w.heap.size w Wa := by rw [hWa]; exact (Below.refl _ _).alloc (Nat.le_refl _) _
  have HA : Hid (DInv base cb bv n w Wa ∧ BoxAt Wa w.heap.size 25 1 w.heap.size [.slice none 0 0]) := ⟨(DInv.start h).below hba, by rw [hWa]; exact boxAt_new w #[.slice none 0 0] (Nat.le_refl _) rfl⟩
  clear h hba
  go_enter Tryz.func69, Tryz.ntmps69
  go_wp2_with fail
  rw [← hWa]
  clear hWa
  refine (below_core base cb bv n 3 _ HA.out.1.d (by omega) (by omega)).mono ?_
  rintro e w1 ⟨x, rfl, hx0, hx1, hd1⟩
  have H1 : Hid (DInv base cb bv n w w1 ∧ BoxAt w1 w.heap.size 25 1 w.heap.size [.slice none 0 0]) := ⟨HA.out.1.call hd1, HA.out.2.chg hd1.2 (by have := HA.out.1.lt; omega)⟩
  clear hd1 HA
  have HC : Hid (Calls Tryz.prog 99 #[.pointer (some ⟨cb, 0, none⟩), .int .i64 (1 + x)] w1 (TreP base cb bv n 40 w1)) := tree_any base cb bv n (1 + x) (by omega) (by omega) w1 H1.out.1.d
  go_wp2_with fail
  refine HC.out.mono ?_
  rintro e w2 ⟨g, cp, xs, rfl, hl, h0, K2⟩
  have H2 : Hid (BoxAt w2 w.heap.size 25 1 w.heap.size [.slice none 0 0]) := H1.out.2.chg K2.out.2.2.c (by have := H1.out.1.lt; omega)
  obtain ⟨N, hN⟩ : ∃ N, N = xs.length := ⟨_, rfl⟩
  have HN : Hid (N = xs.length) := hN
  rw [← hN] at hl h0 ⊢
  clear hN
  obtain ⟨W3, hW3⟩ : ∃ W3 : World, W3 = w2.setCell ⟨w.heap.size, 0, none⟩ (.slice (some ⟨g, 0, none⟩) N cp) := ⟨_, rfl⟩
  have H3 : Hid (FilP base cb bv n 40 w (.returned (.agg #[.slice (some ⟨g, 0, none⟩) N cp])) W3) := by
    have hgl := K2.out.2.1.lt
    have hz1 := H1.out.2.lt.2
    have hc3 : Chg (fun k => k = w.heap.size) w2 W3 := by rw [hW3]; exact Chg.of_set _ _ _ _ rfl
    refine ⟨g, cp, xs, by rw [HN.out], by rw [← HN.out]; exact hl, by rw [← HN.out]; exact h0, K2.out.1, (K2.out.2.1.mono (by omega)).chg hc3 (by omega), ?_⟩
    have hd2 : DInv base cb bv n w w2 := ⟨K2.out.2.2.d, H1.out.1.c.trans K2.out.2.2.c, H1.out.1.lt, H1.out.1.hb⟩
    rw [hW3]
    exact hd2.grow (grown_set w2 w.heap.size 0 _) (fun k q => by cases q; exact Nat.le_refl _)
  have p0 : W3.cell? ⟨w.heap.size, 0, none⟩ = some (.slice (some ⟨g, 0, none⟩) N cp) := by
    rw [hW3]; exact (H2.out.set 0 (.slice (some ⟨g, 0, none⟩) N cp)).cell (j := 0) rfl
  have c0 := H2.out.cell (j := 0) rfl
  have f0 := H2.out.frozen 0
  clear K2 HC
  go_wp2_with fail
  rw [← hW3]
  exact bodyPost_ret (by simp [results, Tryz.results69, go_sem, p0]) rfl H3.out
end Go.Proofs.YtgnpcenpcmdlfaaGreatDoor

