/-
  spec.ValidFilter.
-/
import Derived.Test.YthkmecppjhcidacNdH
import Derived.Test.YthkmecppjhcidacNdN
import Derived.Test.YthkmecppjhcidacNdIn
namespace Go.Proofs.Ythkmecppjhcidac
open Go.ChangeShapes Go.WideShapes Go.ChangeAt Go.RowKit Go.Deep
set_option linter.unusedVariables false
set_option linter.unusedSimpArgs false
set_option maxRecDepth 100000

open Classical in
/-- Whether a node is valid. -/
noncomputable def goodB (e : Nd) : Bool := decide (GoodN e)
theorem goodB_iff (e : Nd) : goodB e = true ↔ GoodN e := by unfold goodB; simp
/-- What ValidFilter says of nodes. -/
def GoodF (xs : List Nd) : Prop := xs.length ≤ 200 ∧ ∃ s, ShT goodB [s] xs ∧ s.valid = true ∧ s.nest ≤ 20
theorem goodF_all {xs : List Nd} (h : GoodF xs) : ∀ e ∈ xs, GoodN e := by
  obtain ⟨_, s, hs, hv, _⟩ := h
  have := ShT.valid goodB hs
  simp [hv] at this
  exact fun e he => (goodB_iff e).1 (this e he)
theorem sh_one {xs : List Nd} {s t : Shape} (h : ShT goodB [s] xs) (k : ShT goodB [t] xs) : s = t := by
  have a := ShT.fold goodB h []
  have b := ShT.fold goodB k []
  rw [a] at b
  simpa using b
def FltPost (xs : List Nd) (w : World) (r : Ending) (w' : World) : Prop := ∃ b, r = .returned (.bool b) ∧ (b = true ↔ GoodF xs) ∧ Below w.heap.size w w'
set_option maxHeartbeats 4000000 in
theorem specFilter_core {w : World} {base g cp : Nat} {xs : List Nd} (h : OwnNd w base g cp xs) (hok : ∀ e ∈ xs, e.ok) (hc : cp ≤ 281474976710656) : Calls Try.prog 16 #[.agg #[.slice (some ⟨g, 0, none⟩) xs.length cp]] w (FltPost xs w) := by
  have HO : Hid (OwnNd w base g cp xs ∧ ∀ e ∈ xs, e.ok) := ⟨h, hok⟩
  have hg := h.lt.2
  have hcp := h.caps
  obtain ⟨n, hn⟩ : ∃ n, n = xs.length := ⟨_, rfl⟩
  have HN : Hid (n = xs.length) := hn
  rw [← hn] at hcp ⊢
  unfold maxLen at hcp
  clear h hok hn
  obtain ⟨W0, hW0⟩ : ∃ W0 : World, W0 = w.alloc (Obj.cells #[.slice (some ⟨g, 0, none⟩) n cp] 40) := ⟨_, rfl⟩
  have HW0 : Hid (BoxAt W0 w.heap.size 40 1 w.heap.size [.slice (some ⟨g, 0, none⟩) n cp] ∧ Below w.heap.size w W0) := by
    rw [hW0]; exact ⟨boxAt_new w _ (Nat.le_refl _) rfl, (Below.refl _ _).alloc (Nat.le_refl _) _⟩
  have c0 := HW0.out.1.cell (j := 0) rfl
  have s0 := HW0.out.2.size
  go_enter Try.func16, Try.ntmps16
  go_upto_region 1 with fail
  rw [← hW0]
  clear hW0
  by_cases hbig : 200 < n
  · have zb : (200 : Int) < (n : Int) := by omega
    have HF : Hid (¬ GoodF xs) := fun q => by have := q.1; have := HN.out; omega
    go_wp2_with fail
    go_ret
    exact ⟨_, rfl, by simp [HF.out], HW0.out.2⟩
  have zb : ¬ (200 : Int) < (n : Int) := by omega
  go_wp2_with fail
  clear c0
  go_loopw [3] (fun iv wr => ∃ (j : Nat), iv = .int .i64 (j : Int) ∧ j ≤ n ∧ (∀ e ∈ xs.take j, GoodN e) ∧ BoxAt wr w.heap.size 40 1 w.heap.size [.slice (some ⟨g, 0, none⟩) n cp] ∧ Below w.heap.size w wr) (fun iv _ => n - (intOf iv).toNat)
  case atStart => exact ⟨0, rfl, Nat.zero_le _, by simp, HW0.out⟩
  case round =>
    obtain ⟨j, rfl, hj, hG, hB, hb⟩ := hrel
    have HJ : Hid ((∀ e ∈ xs.take j, GoodN e) ∧ BoxAt wr w.heap.size 40 1 w.heap.size [.slice (some ⟨g, 0, none⟩) n cp] ∧ Below w.heap.size w wr) := ⟨hG, hB, hb⟩
    have c0 := hB.cell (j := 0) rfl
    have sr := hb.size
    clear hG hB hb HW0
    by_cases hlt : j < n
    · have zj : (j : Int) < (n : Int) := by omega
      obtain ⟨e, he⟩ : ∃ e, xs[j]? = some e := ⟨_, List.getElem?_eq_getElem (by have := HN.out; omega)⟩
      obtain ⟨d0, d1, d2, d3, d4, d5, d6⟩ := (HO.out.1.at.below HJ.out.2.2 hg) j e he
      simp only [Nat.zero_add] at d0 d1 d2 d3 d4 d5 d6
      have ok := HO.out.2 e (List.mem_of_getElem? he)
      have HE : Hid (e.s.size ≤ maxLen ∧ e.t.size ≤ maxLen ∧ e ∈ xs ∧ xs.take (j + 1) = xs.take j ++ [e]) := ⟨ok.s, ok.t, List.mem_of_getElem? he, by rw [List.take_add_one, he]; rfl⟩
      clear ok he
      go_wp2_with fail
      refine (good_core e wr HE.out.1 HE.out.2.1).mono ?_
      rintro r w2 ⟨b, rfl, hb, hb2⟩
      have HB : Hid (b = true ↔ GoodN e) := hb
      have HJ2 : Hid (BoxAt w2 w.heap.size 40 1 w.heap.size [.slice (some ⟨g, 0, none⟩) n cp] ∧ Below w.heap.size w w2) := ⟨HJ.out.2.1.below hb2, HJ.out.2.2.trans (hb2.mono sr)⟩
      clear hb hb2 c0 d0 d1 d2 d3 d4 d5 d6
      cases b
      · have HF : Hid (¬ GoodF xs) := fun q => by
          have := HB.out.2 (goodF_all q e HE.out.2.2.1)
          cases this
        go_wp2_with fail
        go_ret
        exact ⟨_, rfl, by simp [HF.out], HJ2.out.2⟩
      · go_wp2_with fail
        go_roundw
        case rel =>
          refine ⟨j + 1, by go_num, by omega, ?_, HJ2.out.1, HJ2.out.2⟩
          intro e' he'
          rw [HE.out.2.2.2] at he'
          rcases List.mem_append.1 he' with h | h
          · exact HJ.out.1 e' h
          · simp at h; subst h; exact HB.out.1 (by first | rfl | trivial)
        case measure => simp [intOf]; omega
    · have zj : ¬ (j : Int) < (n : Int) := by omega
      have HA : Hid (∀ e ∈ xs, GoodN e) := by
        have h1 := HJ.out.1
        rw [List.take_of_length_le (by have := HN.out; omega)] at h1
        exact h1
      have hWin : Win wr g 0 cp xs := ⟨HO.out.1.at.below HJ.out.2.2 hg, by omega, by rw [← HN.out]; exact hcp.1, hc⟩
      have HT : Hid (Calls Try.prog 42 #[.slice (some ⟨g, 0, none⟩) n cp] wr fun r w' => w' = wr ∧ ((r = .returned (.bool true) ∧ IsT 1 xs) ∨ (r = .returned (.bool false) ∧ ¬ IsT 1 xs))) := by
        rw [HN.out]; exact l5Tree_core hWin
      have HNe : Hid (∀ s, ShT goodB [s] xs → Calls Try.prog 43 #[.slice (some ⟨g, 0, none⟩) n cp] wr fun r w' => r = .returned (.int .i64 (s.nest : Int)) ∧ Below wr.heap.size wr w') := fun s hs => by
        rw [HN.out]; exact nest_all goodB xs.length wr g 0 cp xs s (Nat.le_refl _) hWin hs
      clear hWin
      go_wp2_with fail
      refine HT.out.mono ?_
      rintro r w2 ⟨hw2, (⟨rfl, hT⟩ | ⟨rfl, hT⟩)⟩
      · rw [hw2]
        clear hw2
        obtain ⟨ss, hl, hs⟩ := IsT.shapes goodB hT
        obtain ⟨s, rfl⟩ : ∃ s, ss = [s] := by
          match ss, hl with
          | [s], _ => exact ⟨s, rfl⟩
        have HSh : Hid (ShT goodB [s] xs) := hs
        have HV : Hid (s.valid = true) := by
          show s.valid = true
          have h1 := ShT.valid goodB hs
          have h2 : xs.all goodB = true := List.all_eq_true.2 (fun e he => (goodB_iff e).2 (HA.out e he))
          rw [h2] at h1
          simpa using h1
        have HF : Hid (GoodF xs ↔ s.nest ≤ 20) := by
          show GoodF xs ↔ _
          constructor
          · rintro ⟨_, t, ht, _, hn⟩
            rw [sh_one hs ht]; exact hn
          · intro hn
            exact ⟨by have := HN.out; omega, s, hs, HV.out, hn⟩
        clear hT hl hs
        go_wp2_with fail
        refine (HNe.out s HSh.out).mono ?_
        rintro r w3 ⟨rfl, hb3⟩
        have HB3 : Hid (Below w.heap.size w w3) := HJ.out.2.2.trans (hb3.mono sr)
        clear hb3 c0
        go_wp2_with fail
        go_ret
        exact ⟨_, rfl, by rw [HF.out]; simp <;> omega, HB3.out⟩
      · rw [hw2]
        clear hw2
        have HF : Hid (¬ GoodF xs) := fun q => by
          obtain ⟨_, s, hs, _⟩ := q
          exact hT hs.tree
        clear hT
        go_wp2_with fail
        go_ret
        exact ⟨_, rfl, by simp [HF.out], HJ.out.2.2⟩
end Go.Proofs.Ythkmecppjhcidac
