/-
  spec.l4AtomEnd.
-/
import Derived.Test.YthkmecppjhcidaaSpD
import Derived.Test.YthkmecppjhcidaaRxT
namespace Go.Proofs.Ythkmecppjhcidaa
open Go.ChangeShapes Go.WideShapes Go.ChangeAt Go.RowKit Go.Deep
set_option linter.unusedVariables false
set_option linter.unusedSimpArgs false
set_option maxRecDepth 100000

theorem cut_head {p : List UInt8} {j m : Nat} {c : UInt8} {zs : List UInt8} (h : cut p j m = c :: zs) (hm : m ≤ p.length) : p[j]? = some c ∧ cut p (j + 1) m = zs ∧ j < m := by
  have hl := congrArg List.length h
  rw [cut_len hm] at hl
  simp at hl
  have hj : j < m := by omega
  obtain ⟨d, hd⟩ : ∃ d, p[j]? = some d := ⟨_, List.getElem?_eq_getElem (by omega)⟩
  rw [cut_cat (show j ≤ j + 1 by omega) (show j + 1 ≤ m by omega), cut_one hd] at h
  simp at h
  exact ⟨by rw [hd, h.1], h.2, hj⟩
theorem cut_two {p : List UInt8} {j m : Nat} {xs zs : List UInt8} (h : cut p j m = xs ++ zs) (hm : m ≤ p.length) : cut p j (j + xs.length) = xs ∧ cut p (j + xs.length) m = zs ∧ j + xs.length ≤ max j m := by
  have hl := congrArg List.length h
  rw [cut_len hm, List.length_append] at hl
  by_cases hjm : j ≤ m
  · have h1 := cut_cat (p := p) (show j ≤ j + xs.length by omega) (show j + xs.length ≤ m by omega)
    rw [h] at h1
    have h2 := List.append_inj h1 (by rw [cut_len (by omega)]; omega)
    exact ⟨h2.1.symm, h2.2.symm, by omega⟩
  · have hx : xs = [] := List.length_eq_zero_iff.1 (by omega)
    subst hx
    refine ⟨by simp [cut_nil], by simpa using h, by simp; omega⟩
theorem tok_step {A : List UInt8 → Pat → Prop} {xs : List UInt8} (h : TokG A xs) (hA : ∀ ys t, A ys t → ys ≠ []) : xs = [] ∨ (∃ c zs, xs = c :: zs ∧ (c = 124 ∨ isOp c) ∧ TokG A zs) ∨ (∃ ys zs t, xs = ys ++ zs ∧ A ys t ∧ TokG A zs) := by
  cases h with
  | nil => exact .inl rfl
  | sign hc h => exact .inr (.inl ⟨_, _, rfl, hc, h⟩)
  | atom ha h => exact .inr (.inr ⟨_, _, _, rfl, ha, h⟩)

/-- The contract, up to a depth. -/
def EndC (p : ByteArray) (n : Nat) : Prop := ∀ (i k : Nat) (t : Pat) (w : World), AtomG n (cut (sb p) i k) t → k ≤ p.size → Calls Try.prog 38 #[.string p, .int .i64 (i : Int)] w fun e w' => e = .returned (.int .i64 (k : Int)) ∧ Below w.heap.size w w'
set_option maxHeartbeats 8000000 in
theorem end_of {p : ByteArray} (hp : p.size ≤ 200) {n : Nat} (H : EndC p n) : EndC p (n + 1) := by
  intro i k t w hA hk
  have hkl : k ≤ (sb p).length := by rw [sb_len]; exact hk
  obtain ⟨c, ys, hc, _⟩ := hA.first
  obtain ⟨hpi, _, hik⟩ := cut_head hc hkl
  obtain ⟨hi, gi⟩ := sb_get hpi
  have zi : (i : Int) < (p.size : Int) := by omega
  have hlen := cut_len (p := sb p) (i := i) hkl
  have HP : Hid ((sb p)[i]? = some c ∧ (cut (sb p) i k).length = k - i) := ⟨hpi, hlen⟩
  clear hc hpi hlen
  have one : ∀ d, ¬ d = 92 → ¬ d = 91 → ¬ d = 40 → c = d → k = i + 1 → Calls Try.prog 38 #[.string p, .int .i64 (i : Int)] w fun e w' => e = .returned (.int .i64 (k : Int)) ∧ Below w.heap.size w w' := fun d h92 h91 h40 hcd hk1 => by
    subst hcd hk1
    have z92 : ((c.toNat : Int) == 92) = false := beq_eq_false_iff_ne.2 (ne_u8 (c := 92) h92)
    have z91 : ((c.toNat : Int) == 91) = false := beq_eq_false_iff_ne.2 (ne_u8 (c := 91) h91)
    have z40 : ((c.toNat : Int) != 40) = true := by have := ne_u8 (c := 40) h40; simpa using this
    go_enter Try.func38, Try.ntmps38
    go_wp2_with fail
    go_ret
    exact ⟨rfl, Below.refl _ _⟩
  have hA' := hA
  rcases hA with ⟨d, h1, hs, _⟩ | ⟨h1, _⟩ | ⟨d, h1, _⟩ | ⟨zs, os, h1, hT, _⟩ | ⟨q, j, m, f, h1, h2, h3, _⟩
  · have hk1 : k = i + 1 := by have := HP.out.2; rw [h1] at this; simp at this; omega
    have hcd : c = d := by have := (cut_head h1 hkl).1; rw [HP.out.1] at this; exact Option.some.inj this
    exact one d (fun q => hs (.inr (.inr (.inr (.inr q))))) (fun q => hs (.inr (.inr (.inl q)))) (fun q => hs (.inr (.inl q))) hcd hk1
  · have hk1 : k = i + 1 := by have := HP.out.2; rw [h1] at this; simp at this; omega
    have hcd : c = 46 := by have := (cut_head h1 hkl).1; rw [HP.out.1] at this; exact Option.some.inj this
    exact one 46 (by decide) (by decide) (by decide) hcd hk1
  · have hk1 : k = i + 2 := by have := HP.out.2; rw [h1] at this; simp at this; omega
    have hcd : c = 92 := by have := (cut_head h1 hkl).1; rw [HP.out.1] at this; exact Option.some.inj this
    subst hcd hk1
    clear one
    go_enter Try.func38, Try.ntmps38
    go_wp2_with fail
    go_ret
    exact ⟨rfl, Below.refl _ _⟩
  · obtain ⟨hp40, hrest, _⟩ := cut_head (zs := zs ++ [41]) (by simpa using h1) hkl
    have hc40 : c = 40 := by rw [HP.out.1] at hp40; exact Option.some.inj hp40
    subst hc40
    obtain ⟨hz1, hz2, hz3⟩ := cut_two hrest hkl
    obtain ⟨e, he⟩ : ∃ e, e = i + 1 + zs.length := ⟨_, rfl⟩
    rw [← he] at hz1 hz2 hz3
    obtain ⟨h41, hz4, hek⟩ := cut_head hz2 hkl
    have hk1 : k = e + 1 := by
      have h3 := cut_len (p := sb p) (i := e + 1) hkl
      rw [hz4] at h3
      simp at h3
      omega
    obtain ⟨hel, ge⟩ := sb_get h41
    have HT : Hid (TokG (AtomG n) (cut (sb p) (i + 1) e)) := by
      show TokG (AtomG n) (cut (sb p) (i + 1) e)
      rw [hz1]; exact hT.tok
    have hie : i + 1 ≤ e := by omega
    have HK : Hid (k = e + 1) := hk1
    have HH : Hid (EndC p n) := H
    clear one h1 hT hA' hrest hz1 hz2 hz3 hz4 h41 hp40 he hk1 H
    go_enter Try.func38, Try.ntmps38
    go_wp2_with fail
    go_loopw [7] (fun jv wr => ∃ (j : Nat), jv = .int .i64 (j : Int) ∧ i + 1 ≤ j ∧ j ≤ e ∧ TokG (AtomG n) (cut (sb p) j e) ∧ Below w.heap.size w wr) (fun jv _ => e - (intOf jv).toNat)
    case atStart => exact ⟨i + 1, by go_num, Nat.le_refl _, hie, HT.out, Below.refl _ _⟩
    case round =>
      obtain ⟨j, rfl, hj1, hj2, hTok, hb⟩ := hrel
      have HTk : Hid (TokG (AtomG n) (cut (sb p) j e)) := hTok
      have hs := hb.size
      clear hTok HT
      have hel2 : e ≤ (sb p).length := by rw [sb_len]; omega
      have hjp : j < p.size := by omega
      have zj : (j : Int) < (p.size : Int) := by omega
      by_cases hje : j = e
      · subst hje
        go_wp2_with fail
        go_ret
        exact ⟨by rw [HK.out]; rfl, hb⟩
      · have hst := tok_step HTk.out (fun ys t q => by obtain ⟨c, zs, h, _⟩ := q.first; rw [h]; simp)
        rcases hst with h0 | ⟨c', zs', h0, hsg, hTk'⟩ | ⟨ys', zs', t', h0, hA1, hTk'⟩
        · have h3 := cut_len (p := sb p) (i := j) hel2
          rw [h0] at h3
          simp at h3
          omega
        · obtain ⟨hpj, hcj, hlt⟩ := cut_head h0 hel2
          obtain ⟨_, gj⟩ := sb_get hpj
          have HN : Hid (TokG (AtomG n) (cut (sb p) (j + 1) e)) := by
            show TokG (AtomG n) (cut (sb p) (j + 1) e)
            rw [hcj]; exact hTk'
          have n41 : ((c'.toNat : Int) != 41) = true := by
            have h5 : ¬ c' = 41 := fun q => by subst q; rcases hsg with q | q | q | q <;> exact absurd q (by decide)
            have := ne_u8 (c := 41) h5
            simpa using this
          clear hpj hcj h0 hTk' HTk
          by_cases h124 : c' = 124
          · subst h124
            clear hsg
            go_wp2_with fail
            go_roundw
            case rel => exact ⟨j + 1, by go_num, by omega, by omega, HN.out, hb⟩
            case measure => simp [intOf]; omega
          · have z124 : ((c'.toNat : Int) == 124) = false := beq_eq_false_iff_ne.2 (ne_u8 (c := 124) h124)
            have hop : isOp c' := hsg.elim (fun q => absurd q h124) (fun q => q)
            have HOp : Hid (Calls Try.prog 34 #[.int .u8 (c'.toNat : Int)] wr fun e w' => e = .returned (.bool true) ∧ w' = wr) := by
              have := l4Op_core c' wr
              rw [decide_eq_true hop] at this
              exact this
            clear hsg hop
            go_wp2_with fail
            refine HOp.out.mono ?_
            rintro e' w5 ⟨rfl, hw5⟩
            rw [hw5]
            clear hw5
            go_wp2_with fail
            go_roundw
            case rel => exact ⟨j + 1, by go_num, by omega, by omega, HN.out, hb⟩
            case measure => simp [intOf]; omega
        · obtain ⟨hy1, hy2, hy3⟩ := cut_two h0 hel2
          obtain ⟨c', yt, hyc, n41, n124, nop⟩ := hA1.first
          have hylen : 0 < ys'.length := by rw [hyc]; simp
          have hje2 : j + ys'.length ≤ e := by omega
          obtain ⟨hpj, _, _⟩ := cut_head (c := c') (zs := yt) (by rw [hy1]; exact hyc) (by rw [sb_len]; omega)
          obtain ⟨_, gj⟩ := sb_get hpj
          have z41 : ((c'.toNat : Int) != 41) = true := by have := ne_u8 (c := 41) n41; simpa using this
          have z124 : ((c'.toNat : Int) == 124) = false := beq_eq_false_iff_ne.2 (ne_u8 (c := 124) n124)
          have HOp : Hid (Calls Try.prog 34 #[.int .u8 (c'.toNat : Int)] wr fun e w' => e = .returned (.bool false) ∧ w' = wr) := by
            have := l4Op_core c' wr
            rw [decide_eq_false nop] at this
            exact this
          have HN : Hid (TokG (AtomG n) (cut (sb p) (j + ys'.length) e)) := by
            show TokG (AtomG n) (cut (sb p) (j + ys'.length) e)
            rw [hy2]; exact hTk'
          obtain ⟨m, hm⟩ : ∃ m, m = j + ys'.length := ⟨_, rfl⟩
          have HCall : Hid (Calls Try.prog 38 #[.string p, .int .i64 (j : Int)] wr fun e w' => e = .returned (.int .i64 (m : Int)) ∧ Below wr.heap.size wr w') := by
            rw [hm]
            exact HH.out j (j + ys'.length) t' wr (by rw [hy1]; exact hA1) (by omega)
          rw [← hm] at HN hje2
          have hjm : j < m := by omega
          clear h0 hTk' HTk hA1 hy1 hy2 hy3 hyc hpj n41 n124 nop hm hylen
          go_wp2_with fail
          refine HOp.out.mono ?_
          rintro e' w5 ⟨rfl, hw5⟩
          rw [hw5]
          clear hw5
          go_wp2_with fail
          refine HCall.out.mono ?_
          rintro e' w6 ⟨rfl, hb6⟩
          have hb7 := hb.trans (hb6.mono hs)
          clear hb6
          go_wp2_with fail
          go_roundw
          case rel => exact ⟨m, rfl, by omega, hje2, HN.out, hb7⟩
          case measure => simp [intOf]; omega
  · have hcd := class_here h1 h2 h3 hkl hik
    have hc91 : c = 91 := by have := hcd.1; rw [HP.out.1] at this; exact Option.some.inj this
    subst hc91
    have HCl : Hid (classM (sb p) (i + 1) = .inl (f, k)) := hcd.2
    clear one h1 h2 h3 hcd hA'
    go_enter Try.func38, Try.ntmps38
    go_wp2_with fail
    refine (l4Class_core p i w hp hi).mono ?_
    rintro e w4 ⟨hP, hb4⟩
    rcases hP with ⟨f', k', hk', rfl⟩ | ⟨c4, k', hk', rfl⟩
    case inr => rw [HCl.out] at hk'; cases hk'
    obtain ⟨rfl, rfl⟩ : f = f' ∧ k = k' := by rw [HCl.out] at hk'; simpa using hk'
    go_wp2_with fail
    go_ret
    exact ⟨rfl, hb4.trans ((Below.refl _ _).alloc hb4.size _)⟩
theorem end_all {p : ByteArray} (hp : p.size ≤ 200) : ∀ n, EndC p n
  | 0 => fun i k t w h => h.elim
  | n + 1 => end_of hp (end_all hp n)
end Go.Proofs.Ythkmecppjhcidaa
