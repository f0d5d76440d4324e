/-
  spec.l5Arity, l5From, l5Top, l5Strength, l5Wrapped, l5Tree.
-/
import Derived.Test.YthkmecppjhcidacNdR
namespace Go.Proofs.Ythkmecppjhcidac
open Go.ChangeShapes Go.WideShapes Go.ChangeAt Go.RowKit Go.Deep
set_option linter.unusedVariables false
set_option linter.unusedSimpArgs false
set_option maxRecDepth 100000

set_option maxHeartbeats 1000000 in
theorem l5Arity_core (k : Int) (w : World) : Calls Try.prog 96 #[.int .i64 k] w fun e w' => e = .returned (.int .i64 (arity k : Int)) ∧ w' = w := by
  by_cases h14 : k = 14
  · subst h14
    go_enter Try.func96, Try.ntmps96
    go_wp2_with fail
    go_ret
    exact ⟨rfl, rfl⟩
  by_cases h15 : k = 15
  · subst h15
    go_enter Try.func96, Try.ntmps96
    go_wp2_with fail
    go_ret
    exact ⟨rfl, rfl⟩
  by_cases h16 : k = 16
  · subst h16
    go_enter Try.func96, Try.ntmps96
    go_wp2_with fail
    go_ret
    exact ⟨rfl, rfl⟩
  have z14 : (k == 14) = false := by simpa using h14
  have z15 : (k == 15) = false := by simpa using h15
  have z16 : (k == 16) = false := by simpa using h16
  have H : Hid (arity k = 0) := by show arity k = 0; unfold arity; rw [if_neg (by omega), if_neg h16]
  go_enter Try.func96, Try.ntmps96
  go_wp2_with fail
  go_ret
  exact ⟨by rw [H.out]; rfl, rfl⟩
set_option maxHeartbeats 1000000 in
theorem l5Strength_core (k : Int) (w : World) : Calls Try.prog 97 #[.int .i64 k] w fun e w' => e = .returned (.int .i64 (strong k : Int)) ∧ w' = w := by
  by_cases h15 : k = 15
  · subst h15
    go_enter Try.func97, Try.ntmps97
    go_wp2_with fail
    go_ret
    exact ⟨rfl, rfl⟩
  by_cases h14 : k = 14
  · subst h14
    go_enter Try.func97, Try.ntmps97
    go_wp2_with fail
    go_ret
    exact ⟨rfl, rfl⟩
  have z14 : (k == 14) = false := by simpa using h14
  have z15 : (k == 15) = false := by simpa using h15
  have H : Hid (strong k = 3) := by show strong k = 3; unfold strong; rw [if_neg h15, if_neg h14]
  go_enter Try.func97, Try.ntmps97
  go_wp2_with fail
  go_ret
  exact ⟨by rw [H.out]; rfl, rfl⟩
set_option maxHeartbeats 1000000 in
theorem l5Wrapped_core (op : Int) (i : Nat) (kid : Int) (w : World) (hop : ¬ op = 16) : Calls Try.prog 71 #[.int .i64 op, .int .i64 (i : Int), .int .i64 kid] w fun e w' => e = .returned (.bool (level op i kid)) ∧ w' = w := by
  have zop : (op == 16) = false := by simpa using hop
  by_cases hi : i = 0
  · subst hi
    have HL : Hid (level op 0 kid = decide (strong kid < strong op)) := by
      show level op 0 kid = _
      unfold level; simp [hop]
    go_enter Try.func71, Try.ntmps71
    go_wp2_with (go_at_call 97; refine (l5Strength_core _ _).mono ?_; rintro e' w' ⟨rfl, rfl⟩)
    go_ret
    exact ⟨by rw [HL.out]; rfl, rfl⟩
  · have zi : ((i : Int) == 0) = false := by simpa using hi
    have HL : Hid (level op i kid = decide (strong kid ≤ strong op)) := by
      show level op i kid = _
      unfold level; simp [hop, hi]
    go_enter Try.func71, Try.ntmps71
    go_wp2_with (go_at_call 97; refine (l5Strength_core _ _).mono ?_; rintro e' w' ⟨rfl, rfl⟩)
    go_ret
    exact ⟨by rw [HL.out]; rfl, rfl⟩
/-- Nodes in a window of a block. -/
structure Win (w : World) (b off cap : Nat) (xs : List Nd) : Prop where
  at_ : NdsAt w b off xs
  lt : b < w.heap.size
  len : xs.length ≤ cap
  cap : cap ≤ 281474976710656
theorem Win.below {w w' : World} {b off cap : Nat} {xs : List Nd} (h : Win w b off cap xs) (hb : Below w.heap.size w w') : Win w' b off cap xs :=
  ⟨h.at_.below hb h.lt, by have := hb.size; have := h.lt; omega, h.len, h.cap⟩
theorem Win.kind {w : World} {b off cap : Nat} {xs : List Nd} (h : Win w b off cap xs) {i : Nat} {e : Nd} (he : xs[i]? = some e) : w.cell? ⟨b, off + i * 7, none⟩ = some (.int .i64 e.kind) := (h.at_ i e he).1
set_option maxHeartbeats 1000000 in
theorem l5Top_core {w : World} {b off cap : Nat} {xs : List Nd} {e : Nd} (h : Win w b off cap (xs ++ [e])) : Calls Try.prog 69 #[.slice (some ⟨b, off, none⟩) (xs.length + 1) cap] w fun r w' => r = .returned (.int .i64 e.kind) ∧ w' = w := by
  have hk := h.kind (i := xs.length) (e := e) (by simp)
  obtain ⟨n, hn⟩ : ∃ n, n = xs.length := ⟨_, rfl⟩
  have h1 := h.len
  have h2 := h.cap
  rw [List.length_append, List.length_singleton] at h1
  rw [← hn] at hk h1 ⊢
  clear h hn
  go_enter Try.func69, Try.ntmps69
  go_wp2_with fail
  go_ret
  exact ⟨rfl, rfl⟩
/-- What l5From answers. -/
def FromPost (xs : List Nd) (w : World) (r : Ending) (w' : World) : Prop := w' = w ∧ ((∃ i : Nat, r = .returned (.int .i64 (i : Int)) ∧ i ≤ xs.length ∧ IsT 1 (xs.drop i)) ∨ (r = .returned (.int .i64 (-1)) ∧ ∀ j, j ≤ xs.length → ¬ IsT 1 (xs.drop j)))
set_option maxHeartbeats 2000000 in
theorem l5From_core {w : World} {b off cap : Nat} {xs : List Nd} (h : Win w b off cap xs) : Calls Try.prog 68 #[.slice (some ⟨b, off, none⟩) xs.length cap] w (FromPost xs w) := by
  have HW : Hid (Win w b off cap xs) := h
  have h1 := h.len
  have h2 := h.cap
  obtain ⟨n, hn⟩ : ∃ n, n = xs.length := ⟨_, rfl⟩
  have HN : Hid (n = xs.length) := hn
  rw [← hn] at h1 ⊢
  clear h hn
  go_enter Try.func68, Try.ntmps68
  go_wp2_with fail
  go_loopw [3, 4] (fun nv iv wr => ∃ (i m : Nat), iv = .int .i64 (i : Int) ∧ nv = .int .i64 (m : Int) ∧ i ≤ n ∧ m ≤ 1 + 3 * (n - i) ∧ Sc m (xs.drop i) ∧ wr = w) (fun _ iv _ => (intOf iv).toNat)
  case atStart => exact ⟨n, 1, rfl, rfl, Nat.le_refl _, by omega, by rw [HN.out, List.drop_length]; exact .nil, rfl⟩
  case round =>
    obtain ⟨i, m, rfl, rfl, hi, hm, hS, rfl⟩ := hrel
    have HS : Hid (Sc m (xs.drop i)) := hS
    clear hS
    by_cases hm0 : m = 0
    · subst hm0
      go_wp2_with fail
      go_ret
      refine ⟨rfl, .inl ⟨i, rfl, by have := HN.out; omega, ?_⟩⟩
      have := HS.out.tree (pre := [])
      exact this.1 .nil
    · obtain ⟨m', rfl⟩ : ∃ m', m = m' + 1 := ⟨m - 1, by omega⟩
      have zm : (0 : Int) < (m' : Int) + 1 := by omega
      by_cases hi0 : i = 0
      · subst hi0
        go_wp2_with fail
        go_ret
        exact ⟨rfl, .inr ⟨rfl, fun j hj => sc_none HS.out j (Nat.zero_le _) hj⟩⟩
      · obtain ⟨i', rfl⟩ : ∃ i', i = i' + 1 := ⟨i - 1, by omega⟩
        obtain ⟨e, he⟩ : ∃ e, xs[i']? = some e := ⟨_, List.getElem?_eq_getElem (by have := HN.out; omega)⟩
        have hk := HW.out.kind he
        have hlt : i' < xs.length := by have := HN.out; omega
        have HS2 : Hid (Sc (m' + arity e.kind) (xs.drop i')) := by
          show Sc _ _
          rw [List.drop_eq_getElem_cons hlt, show xs[i'] = e from Option.some.inj ((List.getElem?_eq_getElem hlt).symm.trans he)]
          exact .cons e HS.out
        have ha := arity_le e.kind
        have zi : ¬ (i' : Int) < 0 := by omega
        clear he hlt
        go_wp2_with fail
        refine (l5Arity_core e.kind _).mono ?_
        rintro r w2 ⟨rfl, hw2⟩
        rw [hw2]
        clear hw2
        go_wp2_with fail
        go_roundw
        case rel => exact ⟨i', m' + arity e.kind, by go_num, by go_num, by omega, by omega, HS2.out, by first | rfl | trivial⟩
        case measure => simp [intOf] <;> omega
set_option maxHeartbeats 2000000 in
theorem l5Tree_core {w : World} {b off cap : Nat} {xs : List Nd} (h : Win w b off cap xs) : Calls Try.prog 42 #[.slice (some ⟨b, off, none⟩) xs.length cap] w fun r w' => w' = w ∧ ((r = .returned (.bool true) ∧ IsT 1 xs) ∨ (r = .returned (.bool false) ∧ ¬ IsT 1 xs)) := by
  have HW : Hid (Win w b off cap xs) := h
  have h1 := h.len
  have h2 := h.cap
  obtain ⟨n, hn⟩ : ∃ n, n = xs.length := ⟨_, rfl⟩
  have HN : Hid (n = xs.length) := hn
  have HF : Hid (Calls Try.prog 68 #[.slice (some ⟨b, off, none⟩) n cap] w (FromPost xs w)) := by
    rw [hn]; exact l5From_core h
  rw [← hn] at h1 ⊢
  clear h hn
  by_cases hn0 : n = 0
  · subst hn0
    have HE : Hid (¬ IsT 1 xs) := fun q => by
      have := q.len
      have := HN.out
      omega
    go_enter Try.func42, Try.ntmps42
    go_wp2_with fail
    go_ret
    exact ⟨rfl, .inr ⟨rfl, HE.out⟩⟩
  · have zn : (0 : Int) < (n : Int) := by omega
    go_enter Try.func42, Try.ntmps42
    go_wp2_with fail
    refine HF.out.mono ?_
    rintro r w2 ⟨hw2, (⟨i, rfl, hi, hT⟩ | ⟨rfl, hT⟩)⟩
    · rw [hw2]
      clear hw2
      have HT : Hid (i ≤ xs.length ∧ IsT 1 (xs.drop i)) := ⟨hi, hT⟩
      clear hi hT
      by_cases hi0 : i = 0
      · subst hi0
        go_wp2_with fail
        go_ret
        exact ⟨rfl, .inl ⟨rfl, by simpa using HT.out.2⟩⟩
      · have zi : ((i : Int) == 0) = false := by simpa using hi0
        go_wp2_with fail
        go_ret
        refine ⟨rfl, .inr ⟨rfl, fun q => hi0 ?_⟩⟩
        exact (tree_one (xs := xs) (i := 0) (j := i) (by simpa using q) HT.out.2 (Nat.zero_le _) HT.out.1).symm
    · rw [hw2]
      clear hw2
      have HT : Hid (¬ IsT 1 xs) := fun q => hT 0 (Nat.zero_le _) (by simpa using q)
      clear hT
      go_wp2_with fail
      go_ret
      exact ⟨rfl, .inr ⟨rfl, HT.out⟩⟩
end Go.Proofs.Ythkmecppjhcidac
