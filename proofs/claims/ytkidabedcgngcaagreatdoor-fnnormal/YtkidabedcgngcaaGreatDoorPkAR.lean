import Derived.Test.YtkidabedcgngcaaGreatDoorPkAC
import Derived.Test.YtkidabedcgngcaaGreatDoorPkAQ
import Derived.Test.YtkidabedcgngcaaGreatDoorPkAK
/-
  spec.l4AtomEnd.
-/
namespace Go.Proofs.YtkidabedcgngcaaGreatDoor
open Go.ChangeShapes Go.WideShapes Go.ChangeAt Go.RowKit Go.Deep
set_option linter.unusedVariables false
set_option linter.unusedSimpArgs false
set_option maxRecDepth 100000

theorem cut_head {p : List UInt8} {j m : Nat} {c : UInt8} {zs : List UInt8} (h : cut p j m = c :: zs) (hm : m ≤ p.length) : p[j]? = some c ∧ cut p (j + 1) m = zs ∧ j < m := by
  have hl := congrArg List.length h
  rw [cut_len hm] at hl
  simp at hl
  have hj : j < m := by omega
  obtain ⟨d, hd⟩ : ∃ d, p[j]? = some d := ⟨_, List.getElem?_eq_getElem (by omega)⟩
  rw [cut_cat (show j ≤ j + 1 by omega) (show j + 1 ≤ m by omega), cut_one hd] at h
  simp at h
  exact ⟨by rw [hd, h.1], h.2, hj⟩
theorem cut_two {p : List UInt8} {j m : Nat} {xs zs : List UInt8} (h : cut p j m = xs ++ zs) (hm : m ≤ p.length) : cut p j (j + xs.length) = xs ∧ cut p (j + xs.length) m = zs ∧ j + xs.length ≤ max j m := by
  have hl := congrArg List.length h
  rw [cut_len hm, List.length_append] at hl
  by_cases hjm : j ≤ m
  · have h1 := cut_cat (p := p) (show j ≤ j + xs.length by omega) (show j + xs.length ≤ m by omega)
    rw [h] at h1
    have h2 := List.append_inj h1 (by rw [cut_len (by omega)]; omega)
    exact ⟨h2.1.symm, h2.2.symm, by omega⟩
  · have hx : xs = [] := List.length_eq_zero_iff.1 (by omega)
    subst hx
    refine ⟨by simp [cut_nil], by simpa using h, by simp; omega⟩
theorem tok_step {A : List UInt8 → Pat → Prop} {xs : List UInt8} (h : TokG A xs) (hA : ∀ ys t, A ys t → ys ≠ []) : xs = [] ∨ (∃ c zs, xs = c :: zs ∧ (c = 124 ∨ isOp c) ∧ TokG A zs) ∨ (∃ ys zs t, xs = ys ++ zs ∧ A ys t ∧ TokG A zs) := by
  cases h with
  | nil => exact .inl rfl
  | sign hc h => exact .inr (.inl ⟨_, _, rfl, hc, h⟩)
  | atom ha h => exact .inr (.inr ⟨_, _, _, rfl, ha, h⟩)

/-- The contract, up to a depth. -/
def EndC (p : ByteArray) (n : Nat) : Prop := ∀ (i k : Nat) (t : Pat) (w : World), AtomG n (cut (sb p) i k) t → k ≤ p.size → Calls Tryz.prog 176 #[.string p, .int .i64 (i : Int)] w fun e w' => e = .returned (.int .i64 (k : Int)) ∧ Below w.heap.size w w'
set_option maxHeartbeats 8000000 in
theorem end_of {p : ByteArray} (hp : p.size ≤ 200) {n : Nat} (H : EndC p n) : EndC p (n + 1) := by
  intro i k t w hA hk
  have hkl : k ≤ (sb p).length := by rw [sb_len]; exact hk
  obtain ⟨c, ys, hc, _⟩ := hA.first
  obtain ⟨hpi, _, hik⟩ := cut_head hc hkl
  obtain ⟨hi, gi⟩ := sb_get hpi
  have zi : (i : Int) < (p.size : Int) := by omega
  have hlen := cut_len (p := sb p) (i := i) hkl
  have HP : Hid ((sb p)[i]? = some c ∧ (cut (sb p) i k).length = k - i) := ⟨hpi, hlen⟩
  clear hc hpi hlen
  have one : ∀ d, ¬ d = 92 → ¬ d = 91 → ¬ d = 40 → c = d → k = i + 1 → Calls Tryz.prog 176 #[.string p, .int .i64 (i : Int)] w fun e w' => e = .returned (.int .i64 (k : Int)) ∧ Below w.heap.size w w' := fun d h92 h91 h40 hcd hk1 => by
    subst hcd hk1
    have z92 : ((c.toNat : Int) == 92) = false := beq_eq_false_iff_ne.2 (ne_u8 (c := 92) h92)
    have z91 : ((c.toNat : Int) == 91) = false := beq_eq_false_iff_ne.2 (ne_u8 (c := 91) h91)
    have z40 : ((c.toNat : Int) != 40) = true := by have := ne_u8 (c := 40) h40; simpa using this
    go_enter Tryz.func176, Tryz.ntmps176
    go_wp2_with fail
    go_ret
    exact ⟨rfl, Below.refl _ _⟩
  have hA' := hA
  rcases hA with ⟨d, h1, hs, _⟩ | ⟨h1, _⟩ | ⟨d, h1, _⟩ | ⟨zs, os, h1, hT, _⟩ | ⟨q, j, m, f, h1, h2, h3, _⟩
  · have hk1 : k = i + 1 := by have := HP.out.2; rw [h1] at this; simp at this; omega
    have hcd : c = d := by have := (cut_head h1 hkl).1; rw [HP.out.1] at this; exact Option.some.inj this
    exact one d (fun q => hs (.inr (.inr (.inr (.inr q))))) (fun q => hs (.inr (.inr (.inl q)))) (fun q => hs (.inr (.inl q))) hcd hk1
  · have hk1 : k = i + 1 := by have := HP.out.2; rw [h1] at this; simp at this; omega
    have hcd : c = 46 := by have := (cut_head h1 hkl).1; rw [HP.out.1] at this; exact Option.some.inj this
    exact one 46 (by decide) (by decide) (by decide) hcd hk1
  · have hk1 : k = i + 2 := by have := HP.out.2; rw [h1] at this; simp at this; omega
    have hcd : c = 92 := by have := (cut_head h1 hkl).1; rw [HP.out.1] at this; exact Option.some.inj this
    subst hcd hk1
    clear one
    go_enter Tryz.func176, Tryz.ntmps176
    go_wp2_with fail
    go_ret
    exact ⟨rfl, Below.refl _ _⟩
  · obtain ⟨hp40, hrest, _⟩ := cut_head (zs := zs ++ [41]) (by simpa using h1) hkl
    have hc40 : c = 40 := by rw [HP.out.1] at hp40; exact Option.some.inj hp40
    subst hc40
    obtain ⟨hz1, hz2, hz3⟩ := cut_two hrest hkl
    obtain ⟨e, he⟩ : ∃ e, e = i + 1 + zs.length := ⟨_, rfl⟩
    rw [← he] at hz1 hz2 hz3
    obtain ⟨h41, hz4, hek⟩ := cut_head hz2 hkl
    have hk1 : k = e + 1 := by
      have h3 := cut_len (p := sb p) (i := e + 1) hkl
      rw [hz4] at h3
      simp at h3
      omega
    obtain ⟨hel, ge⟩ := sb_get h41
    have HT : Hid (TokG (AtomG n) (cut (sb p) (i + 1) e)) := by
      show TokG (AtomG n) (cut (sb p) (i + 1) e)
      rw [hz1]; exact hT.tok
    have hie : i + 1 ≤ e := by omega
    have HK : Hid (k = e + 1) := hk1
    have HH : Hid (EndC p n) := H
    clear one h1 hT hA' hrest hz1 hz2 hz3 hz4 h41 hp40 he hk1 H
    go_enter Tryz.func176, Tryz.ntmps176
    go_wp2_with fail
    go_loopw [7] (fun jv wr => ∃ (j : Nat), jv = .int .i64 (j : Int) ∧ i + 1 ≤ j ∧ j ≤ e ∧ TokG (AtomG n) (cut (sb p) j e) ∧ Below w.heap.size w wr) (fun jv _ => e - (intOf jv).toNat)
    case atStart => exact ⟨i + 1, by go_num, Nat.le_refl _, hie, HT.out, Below.refl _ _⟩
    case round =>
      obtain ⟨j, rfl, hj1, hj2, hTok, hb⟩ := hrel
      have HTk : Hid (TokG (AtomG n) (cut (sb p) j e)) := hTok
      have hs := hb.size
      clear hTok HT
      have hel2 : e ≤ (sb p).length := by rw [sb_len]; omega
      have hjp : j < p.size := by omega
      have zj : (j : Int) < (p.size : Int) := by omega
      by_cases hje : j = e
      · subst hje
        go_wp2_with fail
        go_ret
        exact ⟨by rw [HK.out]; rfl, hb⟩
      · have hst := tok_step HTk.out (fun ys t q => by obtain ⟨c, zs, h, _⟩ := q.first; rw [h]; simp)
        rcases hst with h0 | ⟨c', zs', h0, hsg, hTk'⟩ | ⟨ys', zs', t', h0, hA1, hTk'⟩
        · have h3 := cut_len (p := sb p) (i := j) hel2
          rw [h0] at h3
          simp at h3
          omega
        · obtain ⟨hpj, hcj, hlt⟩ := cut_head h0 hel2
          obtain ⟨_, gj⟩ := sb_get hpj
          have HN : Hid (TokG (AtomG n) (cut (sb p) (j + 1) e)) := by
            show TokG (AtomG n) (cut (sb p) (j + 1) e)
            rw [hcj]; exact hTk'
          have n41 : ((c'.toNat : Int) != 41) = true := by
            have h5 : ¬ c' = 41 := fun q => by subst q; rcases hsg with q | q | q | q <;> exact absurd q (by decide)
            have := ne_u8 (c := 41) h5
            simpa using this
          clear hpj hcj h0 hTk' HTk
          by_cases h124 : c' = 124
          · subst h124
            clear hsg
            go_wp2_with fail
            go_roundw
            case rel => exact ⟨j + 1, by go_num, by omega, by omega, HN.out, hb⟩
            case measure => simp [intOf]; omega
          · have z124 : ((c'.toNat : Int) == 124) = false := beq_eq_false_iff_ne.2 (ne_u8 (c := 124) h124)
            have hop : isOp c' := hsg.elim (fun q => absurd q h124) (fun q => q)
            have HOp : Hid (Calls Tryz.prog 119 #[.int .u8 (c'.toNat : Int)] wr fun e w' => e = .returned (.bool true) ∧ w' = wr) := by
              have := l4Op_core c' wr
              rw [decide_eq_true hop] at this
              exact this
            clear hsg hop
            go_wp2_with fail
            refine HOp.out.mono ?_
            rintro e' w5 ⟨rfl, hw5⟩
            rw [hw5]
            clear hw5
            go_wp2_with fail
            go_roundw
            case rel => exact ⟨j + 1, by go_num, by omega, by omega, HN.out, hb⟩
            case measure => simp [intOf]; omega
        · obtain ⟨hy1, hy2, hy3⟩ := cut_two h0 hel2
          obtain ⟨c', yt, hyc, n41, n124, nop⟩ := hA1.first
          have hylen : 0 < ys'.length := by rw [hyc]; simp
          have hje2 : j + ys'.length ≤ e := by omega
          obtain ⟨hpj, _, _⟩ := cut_head (c := c') (zs := yt) (by rw [hy1]; exact hyc) (by rw [sb_len]; omega)
          obtain ⟨_, gj⟩ := sb_get hpj
          have z41 : ((c'.toNat : Int) != 41) = true := by have := ne_u8 (c := 41) n41; simpa using this
          have z124 : ((c'.toNat : Int) == 124) = false := beq_eq_false_iff_ne.2 (ne_u8 (c := 124) n124)
          have HOp : Hid (Calls Tryz.prog 119 #[.int .u8 (c'.toNat : Int)] wr fun e w' => e = .returned (.bool false) ∧ w' = wr) := by
            have := l4Op_core c' wr
            rw [decide_eq_false nop] at this
            exact this
          have HN : Hid (TokG (AtomG n) (cut (sb p) (j + ys'.length) e)) := by
            show TokG (AtomG n) (cut (sb p) (j + ys'.length) e)
            rw [hy2]; exact hTk'
          obtain ⟨m, hm⟩ : ∃ m, m = j + ys'.length := ⟨_, rfl⟩
          have HCall : Hid (Calls Tryz.prog 176 #[.string p, .int .i64 (j : Int)] wr fun e w' => e = .returned (.int .i64 (m : Int)) ∧ Below wr.heap.size wr w') := by
            rw [hm]
            exact HH.out j (j + ys'.length) t' wr (by rw [hy1]; exact hA1) (by omega)
          rw [← hm] at HN hje2
          have hjm : j < m := by omega
          clear h0 hTk' HTk hA1 hy1 hy2 hy3 hyc hpj n41 n124 nop hm hylen
          go_wp2_with fail
          refine HOp.out.mono ?_
          rintro e' w5 ⟨rfl, hw5⟩
          rw [hw5]
          clear hw5
          go_wp2_with fail
          refine HCall.out.mono ?_
          rintro e' w6 ⟨rfl, hb6⟩
          have hb7 := hb.trans (hb6.mono hs)
          clear hb6
          go_wp2_with fail
          go_roundw
          case rel => exact ⟨m, rfl, by omega, hje2, HN.out, hb7⟩
          case measure => simp [intOf]; omega
  · have hcd := class_here h1 h2 h3 hkl hik
    have hc91 : c = 91 := by have := hcd.1; rw [HP.out.1] at this; exact Option.some.inj this
    subst hc91
    have HCl : Hid (classM (sb p) (i + 1) = .inl (f, k)) := hcd.2
    clear one h1 h2 h3 hcd hA'
    go_enter Tryz.func176, Tryz.ntmps176
    go_wp2_with fail
    refine (l4Class_core p i w hp hi).mono ?_
    rintro e w4 ⟨hP, hb4⟩
    rcases hP with ⟨f', k', hk', rfl⟩ | ⟨c4, k', hk', rfl⟩
    case inr => rw [HCl.out] at hk'; cases hk'
    obtain ⟨rfl, rfl⟩ : f = f' ∧ k = k' := by rw [HCl.out] at hk'; simpa using hk'
    go_wp2_with fail
    go_ret
    exact ⟨rfl, hb4.trans ((Below.refl _ _).alloc hb4.size _)⟩
theorem end_all {p : ByteArray} (hp : p.size ≤ 200) : ∀ n, EndC p n
  | 0 => fun i k t w h => h.elim
  | n + 1 => end_of hp (end_all hp n)
end Go.Proofs.YtkidabedcgngcaaGreatDoor

/-
  spec.l4Special, l4Parts, PrefixOf.
-/
namespace Go.Proofs.YtkidabedcgngcaaGreatDoor
open Go.ChangeShapes Go.WideShapes Go.ChangeAt Go.RowKit Go.Deep
set_option linter.unusedVariables false
set_option linter.unusedSimpArgs false
set_option maxRecDepth 100000

/-- A list of strings of the call's own. -/
def OwnStr (w : World) (base g cp : Nat) (us : List Value) : Prop := w.ownsRow base 9 1 (.slice (some ⟨g, 0, none⟩) us.length cp) us.length us
theorem OwnStr.lt {w : World} {base g cp : Nat} {us : List Value} (h : OwnStr w base g cp us) : base ≤ g ∧ g < w.heap.size := World.ownsRow.lt h g rfl
theorem OwnStr.below {w w' : World} {base g cp : Nat} {us : List Value} (h : OwnStr w base g cp us) (hb : Below w.heap.size w w') : OwnStr w' base g cp us := own_chg h (Chg.of_below hb) (S := fun _ => False) (fun k q z => z)
theorem ownStr_new (w : World) {base : Nat} (hb : base ≤ w.heap.size) : OwnStr (w.alloc (Obj.cells #[] 9)) base w.heap.size 0 [] :=
  World.ownsRow_made w #[] 0 hb (Nat.zero_le _) (by simp)
theorem Tryz.infoStr : (Tryz.prog.info? 9).map (fun i => (i.zero, i.size, i.bytes)) = some (some (.string ⟨#[]⟩), 1, 16) := by kernel_rfl
/-- One string appended to a list of strings. -/
theorem wpList_append_str {ops : Array Oper} {rest : List Oper} {oo : Oper} {a : Act} {Q : Exit → Act → World → Prop} (w : World) (hgd : oo.guard = none) (s x : Operand)
    (ho : oo.op = .call { callee := .builtin .append, args := #[s, x], argTypes := #[149, 149] })
    (base gq cp n b : Nat) (us : List Value) (y : Value) (hs : a.eval s = .slice (some ⟨gq, 0, none⟩) n cp) (hx : a.eval x = .slice (some ⟨b, 0, none⟩) 1 1) (hn : n = us.length) (hO : OwnStr w base gq cp us)
    (hc : w.cell? ⟨b, 0, none⟩ = some y) (hy : y.oneCell' = true) (hlen : us.length ≤ 1000) (hbase : base ≤ w.heap.size)
    (h : ∀ g' cp' w', OwnStr w' base g' cp' (us ++ [y]) → w.grownBy w' (some gq) → (g' = gq ∨ g' = w.heap.size) → wpList Tryz.prog ops Q rest (a.put oo.dst (.slice (some ⟨g', 0, none⟩) (n + 1) cp')) w') : wpList Tryz.prog ops Q (oo :: rest) a w := by
  subst hn
  obtain ⟨i, hi, hz0, hz1, hz2⟩ := info_parts Tryz.infoStr
  refine wpList_append_own_at w hgd s x 149 ho base 9 i _ 1 16 Tryz.underlying149 hi hz0 hz1 hz2 rfl (by decide) (.slice (some ⟨gq, 0, none⟩) us.length cp) us.length us hs hO ⟨b, 0, none⟩ 1 1 [y] hx rfl ?_ ?_ ?_ ?_ hbase ?_
  · intro j u hu
    have hj : j = 0 := by have := (List.getElem?_eq_some_iff.1 hu).1; simpa using this
    subst hj
    simp at hu
    rw [Addr.add_mid, ← hu]; exact hc
  · intro u hu
    simp at hu; subst hu; exact hy
  · unfold maxLen; omega
  · omega
  · intro v' w' hO' hgr hnil hat
    rcases hO'.2 with ⟨h0, _⟩ | ⟨g', cap', cur, hv, _, _, hn, hcap, _, _⟩
    · have := (hnil.1 h0).1
      cases this
    · subst hv
      refine h g' cap' w' ?_ hgr ?_
      · unfold OwnStr
        rw [List.length_append]
        exact hO'
      · simp [Value.ownBlock] at hat
        exact hat
theorem tokn_le {A : List UInt8 → Pat → Prop} {k : Nat} {xs : List UInt8} (h : TokN A k xs) : k ≤ xs.length := by
  induction h with
  | nil => exact Nat.le_refl _
  | bar _ ih => simpa using ih
  | op _ _ ih => simp; omega
  | atom _ _ ih => simp; omega
structure PaJ (p : ByteArray) (n k : Nat) (w : World) (j m g cp : Nat) (us : List Value) (wr : World) : Prop where
  tok : TokN (AtomG n) m (cut (sb p) j p.size)
  cnt : us.length + m = k
  own : OwnStr wr w.heap.size g cp us
  below : Below w.heap.size w wr
theorem PaJ.move {p : ByteArray} {n k : Nat} {w : World} {j m g cp : Nat} {us : List Value} {wr w' : World} (h : PaJ p n k w j m g cp us wr) (hb : Below wr.heap.size wr w') {j' m' : Nat} (ht : TokN (AtomG n) m' (cut (sb p) j' p.size)) (hm : m = m') : PaJ p n k w j' m' g cp us w' :=
  ⟨ht, by rw [← hm]; exact h.cnt, h.own.below hb, h.below.trans (hb.mono h.below.size)⟩
set_option maxHeartbeats 8000000 in
theorem l4Parts_core {p : ByteArray} (hp : p.size ≤ 200) {n k : Nat} (h : TokN (AtomG n) k (cut (sb p) 0 p.size)) (w : World) : Calls Tryz.prog 169 #[.string p] w fun e w' => ∃ g cp, e = .returned (.slice (some ⟨g, 0, none⟩) (k + 1) cp) ∧ Below w.heap.size w w' := by
  have hkl : k ≤ 200 := by
    have h1 := tokn_le h
    rw [cut_len (by rw [sb_len]; exact Nat.le_refl _)] at h1
    omega
  have hsl : p.size ≤ (sb p).length := by rw [sb_len]; exact Nat.le_refl _
  have HSl : Hid (p.size ≤ (sb p).length) := hsl
  obtain ⟨W0, hW0⟩ : ∃ W0 : World, W0 = w.alloc (Obj.cells #[] 9) := ⟨_, rfl⟩
  have HW0 : Hid (PaJ p n k w 0 k w.heap.size 0 [] W0) := by
    rw [hW0]
    exact ⟨h, by simp, ownStr_new w (Nat.le_refl _), (Below.refl _ _).alloc (Nat.le_refl _) _⟩
  clear h hsl
  go_enter Tryz.func169, Tryz.ntmps169
  go_upto_region 2 with fail
  rw [← hW0]
  clear hW0
  go_wp2_with fail
  go_loopw [3, 4, 5] (fun o fv jv wr => ∃ (j f m g cp : Nat) (us : List Value), jv = .int .i64 (j : Int) ∧ fv = .int .i64 (f : Int) ∧ f ≤ j ∧ j ≤ p.size ∧ us.length ≤ k ∧ o = .slice (some ⟨g, 0, none⟩) us.length cp ∧ PaJ p n k w j m g cp us wr) (fun _ _ jv _ => p.size - (intOf jv).toNat)
  case atStart => exact ⟨0, 0, k, _, 0, [], rfl, rfl, Nat.le_refl _, Nat.zero_le _, Nat.zero_le _, rfl, HW0.out⟩
  case round =>
    obtain ⟨j, f, m, g, cp, us, rfl, rfl, hfj, hjp, hul, rfl, hJ⟩ := hrel
    have HJ : Hid (PaJ p n k w j m g cp us wr) := hJ
    have hgl := hJ.own.lt
    have hsz := hJ.below.size
    clear hJ HW0
    have z1 : (f : Int) ≤ (j : Int) := by omega
    have z2 : (j : Int) ≤ (p.size : Int) := by omega
    by_cases hlt : j < p.size
    · have zj : (j : Int) < (p.size : Int) := by omega
      rcases tokn_step HJ.out.tok with ⟨h0, _⟩ | ⟨m', zs, h0, hm, hT⟩ | ⟨c, zs, h0, hop, hT⟩ | ⟨ys, zs, t, h0, hA, hT⟩
      · have h3 := cut_len (p := sb p) (i := j) HSl.out
        rw [h0] at h3
        simp at h3
        omega
      · obtain ⟨hpj, hcj, _⟩ := cut_head h0 HSl.out
        obtain ⟨_, gj⟩ := sb_get hpj
        have HT : Hid (TokN (AtomG n) m' (cut (sb p) (j + 1) p.size) ∧ m = m' + 1) := ⟨by rw [hcj]; exact hT, hm⟩
        clear h0 hT hm hpj hcj
        go_wp2_with (at_builtin; refine wpList_append_str _ rfl _ _ rfl w.heap.size g cp us.length wr.heap.size us (.string (p.extract f j)) rfl rfl rfl ?hO ?hc ?hy ?hl ?hb ?_)
        case hO => exact HJ.out.own.below ((Below.refl _ _).alloc (Nat.le_refl _) _)
        case hc => simp
        case hy => rfl
        case hl => omega
        case hb => simp; omega
        intro g' cp' w' hO' hgr hat
        have HJ2 : Hid (∃ y, PaJ p n k w (j + 1) m' g' cp' (us ++ [y]) w' ∧ us.length + 1 ≤ k) := by
          refine ⟨_, ⟨HT.out.1, by have := HJ.out.cnt; have := HT.out.2; simp; omega, hO', ?_⟩, by have := HJ.out.cnt; have := HT.out.2; omega⟩
          exact (HJ.out.below.trans ((Below.refl _ _).alloc hsz _)).grown hgr (by simp; omega) (fun j hj => by cases hj; omega)
        clear hO' hgr hat
        obtain ⟨y, hJ2, hk2⟩ := HJ2.out
        have HJ3 : Hid (PaJ p n k w (j + 1) m' g' cp' (us ++ [y]) w') := hJ2
        clear hJ2 HJ2
        go_wp2_with fail
        go_roundw
        case rel => exact ⟨j + 1, j + 1, m', g', cp', us ++ [y], by go_num, by go_num, Nat.le_refl _, by omega, by simp; omega, by simp, HJ3.out⟩
        case measure => simp [intOf]; omega
      · obtain ⟨hpj, hcj, _⟩ := cut_head h0 HSl.out
        obtain ⟨_, gj⟩ := sb_get hpj
        have HT : Hid (TokN (AtomG n) m (cut (sb p) (j + 1) p.size)) := by
          show TokN (AtomG n) m (cut (sb p) (j + 1) p.size)
          rw [hcj]; exact hT
        have z124 : ((c.toNat : Int) == 124) = false := beq_eq_false_iff_ne.2 (ne_u8 (c := 124) (fun q => by subst q; exact absurd hop (by decide)))
        have HOp : Hid (Calls Tryz.prog 119 #[.int .u8 (c.toNat : Int)] wr fun e w' => e = .returned (.bool true) ∧ w' = wr) := by
          have := l4Op_core c wr
          rw [decide_eq_true hop] at this
          exact this
        clear h0 hT hpj hcj hop
        go_wp2_with fail
        refine HOp.out.mono ?_
        rintro e' w5 ⟨rfl, hw5⟩
        rw [hw5]
        clear hw5
        go_wp2_with fail
        go_roundw
        case rel => exact ⟨j + 1, f, m, g, cp, us, by go_num, rfl, by omega, by omega, hul, rfl, HJ.out.move (Below.refl _ _) HT.out rfl⟩
        case measure => simp [intOf]; omega
      · obtain ⟨hy1, hy2, hy3⟩ := cut_two h0 HSl.out
        obtain ⟨c, yt, hyc, n41, n124, nop⟩ := hA.first
        have hylen : 0 < ys.length := by rw [hyc]; simp
        have hje2 : j + ys.length ≤ p.size := by omega
        obtain ⟨hpj, _, _⟩ := cut_head (c := c) (zs := yt) (by rw [hy1]; exact hyc) (by rw [sb_len]; omega)
        obtain ⟨_, gj⟩ := sb_get hpj
        have z124 : ((c.toNat : Int) == 124) = false := beq_eq_false_iff_ne.2 (ne_u8 (c := 124) n124)
        have HOp : Hid (Calls Tryz.prog 119 #[.int .u8 (c.toNat : Int)] wr fun e w' => e = .returned (.bool false) ∧ w' = wr) := by
          have := l4Op_core c wr
          rw [decide_eq_false nop] at this
          exact this
        obtain ⟨i2, hi2⟩ : ∃ i2, i2 = j + ys.length := ⟨_, rfl⟩
        have HT : Hid (TokN (AtomG n) m (cut (sb p) i2 p.size)) := by
          show TokN (AtomG n) m (cut (sb p) i2 p.size)
          rw [hi2, hy2]; exact hT
        have HCall : Hid (Calls Tryz.prog 176 #[.string p, .int .i64 (j : Int)] wr fun e w' => e = .returned (.int .i64 (i2 : Int)) ∧ Below wr.heap.size wr w') := by
          rw [hi2]
          exact end_all hp n j (j + ys.length) t wr (by rw [hy1]; exact hA) (by omega)
        have hj2 : j < i2 := by omega
        have hj3 : i2 ≤ p.size := by omega
        clear h0 hT hA hy1 hy2 hy3 hyc hpj n41 n124 nop hi2 hylen hje2
        go_wp2_with fail
        refine HOp.out.mono ?_
        rintro e' w5 ⟨rfl, hw5⟩
        rw [hw5]
        clear hw5
        go_wp2_with fail
        refine HCall.out.mono ?_
        rintro e' w6 ⟨rfl, hb6⟩
        have HJ6 : Hid (PaJ p n k w i2 m g cp us w6) := HJ.out.move hb6 HT.out rfl
        clear hb6
        go_wp2_with fail
        go_roundw
        case rel => exact ⟨i2, f, m, g, cp, us, rfl, rfl, by omega, by omega, hul, rfl, HJ6.out⟩
        case measure => simp [intOf]; omega
    · have zj : ¬ (j : Int) < (p.size : Int) := by omega
      obtain rfl : j = p.size := by omega
      have hm0 : m = 0 := by
        rcases tokn_step HJ.out.tok with ⟨_, h0⟩ | ⟨m', zs, h0, hm, hT⟩ | ⟨c, zs, h0, hop, hT⟩ | ⟨ys, zs, t, h0, hA, hT⟩
        · exact h0
        · rw [cut_nil] at h0; cases h0
        · rw [cut_nil] at h0; cases h0
        · rw [cut_nil] at h0
          obtain ⟨c, yt, hyc, _⟩ := hA.first
          rw [hyc] at h0
          cases h0
      have HM : Hid (us.length = k) := by
        have := HJ.out.cnt
        show us.length = k
        omega
      go_wp2_with (at_builtin; refine wpList_append_str _ rfl _ _ rfl w.heap.size g cp us.length wr.heap.size us (.string (p.extract f p.size)) rfl rfl rfl ?hO ?hc ?hy ?hl ?hb ?_)
      case hO => exact HJ.out.own.below ((Below.refl _ _).alloc (Nat.le_refl _) _)
      case hy => rfl
      case hl => omega
      case hb => first | omega | (simp; omega)
      intro g' cp' w' hO' hgr hat
      have HB : Hid (Below w.heap.size w w') := (HJ.out.below.trans ((Below.refl _ _).alloc hsz _)).grown hgr (by simp; omega) (fun j hj => by cases hj; omega)
      clear hO' hgr hat
      go_wp2_with fail
      go_ret
      refine ⟨g', cp', ?_, HB.out⟩
      rw [← HM.out]
      first | rfl | trace_state
end Go.Proofs.YtkidabedcgngcaaGreatDoor

/-
  spec's l4Parts, with what the parts are.
-/
namespace Go.Proofs.YtkidabedcgngcaaGreatDoor
open Go.ChangeShapes Go.WideShapes Go.ChangeAt Go.RowKit Go.Deep
set_option linter.unusedVariables false
set_option linter.unusedSimpArgs false
set_option maxRecDepth 100000

theorem sb_extract (p : ByteArray) {f j : Nat} (hj : j ≤ p.size) : sb (p.extract f j) = cut (sb p) f j := by
  unfold sb cut
  simp [ByteArray.data_extract, List.extract_eq_take_drop]
/-- A part is being gone over: i parts are done, the present one began at f, r is what is left of it at j. -/
structure PaS (n : Nat) (p : List UInt8) (os : List (List Pat)) (j f i : Nat) (r : List UInt8) : Prop where
  ri : r = cut p j (j + r.length)
  rl : j + r.length ≤ p.length
  fj : f ≤ j
  tok : TokN (AtomG n) 0 r
  cur : ∃ ts, os[i]? = some ts ∧ SeqG (AtomG n) ts (cut p f (j + r.length))
  rest : (j + r.length = p.length ∧ i + 1 = os.length) ∨ (p[j + r.length]? = some 124 ∧ AltG (AtomG n) (os.drop (i + 1)) (cut p (j + r.length + 1) p.length))
theorem paS_open {n : Nat} {p : List UInt8} {os : List (List Pat)} {j i : Nat} (hj : j ≤ p.length) (h : AltG (AtomG n) (os.drop i) (cut p j p.length)) : ∃ r, PaS n p os j j i r := by
  rcases hd : os.drop i with _ | ⟨ts, _ | ⟨o, os'⟩⟩
  · rw [hd] at h; exact h.elim
  · rw [hd] at h
    have hl := cut_len (p := p) (i := j) (k := p.length) (Nat.le_refl _)
    have hlen : i + 1 = os.length := by have := congrArg List.length hd; simp at this; omega
    have h0 : os[i]? = some ts := by have := congrArg (fun l => l[0]?) hd; simpa using this
    refine ⟨cut p j p.length, ?_, by omega, Nat.le_refl _, SeqG.tokn h, ⟨ts, h0, ?_⟩, .inl ⟨by omega, hlen⟩⟩
    · rw [hl, show j + (p.length - j) = p.length by omega]
    · rw [hl, show j + (p.length - j) = p.length by omega]; exact h
  · rw [hd] at h
    obtain ⟨ys, zs, h1, h2, h3⟩ := h
    obtain ⟨k1, k2, k3⟩ := cutTwo h1 (Nat.le_refl _) hj
    obtain ⟨g1, g2, g3⟩ := cutHead k2 (Nat.le_refl _)
    have h0 : os[i]? = some ts := by have := congrArg (fun l => l[0]?) hd; simpa using this
    have hd2 : os.drop (i + 1) = o :: os' := by have := congrArg List.tail hd; simpa using this
    exact ⟨ys, k1.symm, k3, Nat.le_refl _, SeqG.tokn h2, ⟨ts, h0, by rw [k1]; exact h2⟩, .inr ⟨g1, by rw [hd2, g2]; exact h3⟩⟩
theorem PaS.next {n : Nat} {p : List UInt8} {os : List (List Pat)} {j f i : Nat} {x r : List UInt8} (h : PaS n p os j f i (x ++ r)) (ht : TokN (AtomG n) 0 r) : PaS n p os (j + x.length) f i r := by
  have hl : j + x.length + r.length = j + (x ++ r).length := by simp; omega
  have hri := h.ri
  have hrl := h.rl
  rw [← hl] at hri hrl
  obtain ⟨_, k2, _⟩ := cutTwo hri.symm hrl (by omega)
  refine ⟨?_, hrl, by have := h.fj; omega, ht, ?_, ?_⟩
  · exact k2.symm
  · rw [hl]; exact h.cur
  · rw [hl]; exact h.rest
/-- The parts, as strings. -/
def StrsOf (n : Nat) (os : List (List Pat)) (us : List Value) (m : Nat) : Prop := ∀ (t : Nat) (u : Value), us[t]? = some u → ∃ s ts, u = .string s ∧ os[t]? = some ts ∧ SeqG (AtomG n) ts (sb s) ∧ s.size ≤ m
theorem StrsOf.snoc {n : Nat} {os : List (List Pat)} {us : List Value} {m : Nat} (h : StrsOf n os us m) {s : ByteArray} {ts : List Pat} (ho : os[us.length]? = some ts) (hs : SeqG (AtomG n) ts (sb s)) (hm : s.size ≤ m) : StrsOf n os (us ++ [.string s]) m := by
  intro t u hu
  rcases Nat.lt_or_ge t us.length with q | q
  · rw [List.getElem?_append_left q] at hu; exact h t u hu
  · have ht : t = us.length := by have := (List.getElem?_eq_some_iff.1 hu).1; simp at this; omega
    subst ht
    simp at hu
    subst hu
    exact ⟨s, ts, rfl, ho, hs, hm⟩
structure PaK (p : ByteArray) (n : Nat) (os : List (List Pat)) (w : World) (j f g cp : Nat) (us : List Value) (wr : World) : Prop where
  st : ∃ r, PaS n (sb p) os j f us.length r
  strs : StrsOf n os us p.size
  own : OwnStr wr w.heap.size g cp us
  below : Below w.heap.size w wr
theorem PaK.move {p : ByteArray} {n : Nat} {os : List (List Pat)} {w : World} {j f g cp : Nat} {us : List Value} {wr w' : World} (h : PaK p n os w j f g cp us wr) (hb : Below wr.heap.size wr w') {j' : Nat} (hs : ∃ r, PaS n (sb p) os j' f us.length r) : PaK p n os w j' f g cp us w' :=
  ⟨hs, h.strs, h.own.below hb, h.below.trans (hb.mono h.below.size)⟩
def PrtP (n : Nat) (os : List (List Pat)) (m : Nat) (w : World) (e : Ending) (w' : World) : Prop := ∃ g cp us, e = .returned (.slice (some ⟨g, 0, none⟩) os.length cp) ∧ us.length = os.length ∧ Hid (OwnStr w' w.heap.size g cp us ∧ StrsOf n os us m) ∧ Below w.heap.size w w'
set_option maxHeartbeats 8000000 in
theorem l4Parts_says {p : ByteArray} (hp : p.size ≤ 200) {n : Nat} {os : List (List Pat)} (h : AltG (AtomG n) os (sb p)) (w : World) : Calls Tryz.prog 169 #[.string p] w (PrtP n os p.size w) := by
  have hsl : p.size = (sb p).length := (sb_len p).symm
  have hcut : cut (sb p) 0 p.size = sb p := by
    show (List.drop 0 (sb p)).take (p.size - 0) = sb p
    rw [List.drop_zero, Nat.sub_zero, List.take_of_length_le (Nat.le_of_eq hsl.symm)]
  have hol : os.length ≤ 201 := by
    obtain ⟨k, h1, h2⟩ := h.tokn
    have := tokn_le h2
    rw [← hsl] at this
    omega
  have HSl : Hid (p.size = (sb p).length) := hsl
  obtain ⟨W0, hW0⟩ : ∃ W0 : World, W0 = w.alloc (Obj.cells #[] 9) := ⟨_, rfl⟩
  have HW0 : Hid (PaK p n os w 0 0 w.heap.size 0 [] W0) := by
    rw [hW0]
    refine ⟨paS_open (Nat.zero_le _) ?_, fun t u hu => by simp at hu, ownStr_new w (Nat.le_refl _), (Below.refl _ _).alloc (Nat.le_refl _) _⟩
    rw [← hsl, hcut]; exact h
  clear h hsl hcut
  go_enter Tryz.func169, Tryz.ntmps169
  go_upto_region 2 with fail
  rw [← hW0]
  clear hW0
  go_wp2_with fail
  go_loopw [3, 4, 5] (fun o fv jv wr => ∃ (j f g cp m : Nat) (us : List Value), jv = .int .i64 (j : Int) ∧ fv = .int .i64 (f : Int) ∧ f ≤ j ∧ j ≤ p.size ∧ m ≤ 201 ∧ o = .slice (some ⟨g, 0, none⟩) m cp ∧ Hid (PaK p n os w j f g cp us wr ∧ m = us.length)) (fun _ _ jv _ => p.size - (intOf jv).toNat)
  case atStart => exact ⟨0, 0, _, 0, 0, [], rfl, rfl, Nat.le_refl _, Nat.zero_le _, Nat.zero_le _, rfl, HW0.out, rfl⟩
  case round =>
    obtain ⟨j, f, g, cp, m, us, rfl, rfl, hfj, hjp, hml, rfl, HJ⟩ := hrel
    have hgl := HJ.out.1.own.lt
    have hsz := HJ.out.1.below.size
    clear HW0
    have z1 : (f : Int) ≤ (j : Int) := by omega
    have z2 : (j : Int) ≤ (p.size : Int) := by omega
    obtain ⟨r, hS⟩ := HJ.out.1.st
    have HP : Hid (PaS n (sb p) os j f us.length r) := hS
    clear hS
    by_cases hlt : j < p.size
    · have zj : (j : Int) < (p.size : Int) := by omega
      rcases tokn_step HP.out.tok with ⟨h0, _⟩ | ⟨m', zs, h0, hm, hT⟩ | ⟨c, zs, h0, hop, hT⟩ | ⟨ys, zs, t, h0, hA, hT⟩
      · have hrest : (sb p)[j]? = some 124 ∧ AltG (AtomG n) (os.drop (us.length + 1)) (cut (sb p) (j + 1) (sb p).length) := by
          rcases HP.out.rest with ⟨q, _⟩ | q
          · rw [h0] at q; simp at q; have := HSl.out; omega
          · rw [h0] at q; simpa using q
        obtain ⟨ts, hts, hsq⟩ := HP.out.cur
        rw [h0] at hsq
        simp only [List.length_nil, Nat.add_zero] at hsq
        obtain ⟨_, gj⟩ := sb_get hrest.1
        have HT : Hid (AltG (AtomG n) (os.drop (us.length + 1)) (cut (sb p) (j + 1) (sb p).length) ∧ os[us.length]? = some ts ∧ SeqG (AtomG n) ts (sb (p.extract f j)) ∧ us.length + 1 ≤ os.length) := by
          refine ⟨hrest.2, hts, by rw [sb_extract p hjp]; exact hsq, (List.getElem?_eq_some_iff.1 hts).1⟩
        have HM : Hid (m = us.length) := HJ.out.2
        clear h0 hrest hts hsq
        go_wp2_with (at_builtin; refine wpList_append_str _ rfl _ _ rfl w.heap.size g cp m wr.heap.size us (.string (p.extract f j)) rfl rfl HM.out ?hO ?hc ?hy ?hl ?hb ?_)
        case hO => exact HJ.out.1.own.below ((Below.refl _ _).alloc (Nat.le_refl _) _)
        case hy => rfl
        case hl => rw [← HM.out]; omega
        case hb => first | omega | (simp; omega)
        intro g' cp' w' hO' hgr hat
        have HJ2 : Hid (PaK p n os w (j + 1) (j + 1) g' cp' (us ++ [.string (p.extract f j)]) w' ∧ m + 1 = (us ++ [Value.string (p.extract f j)]).length) := by
          refine ⟨⟨?_, HJ.out.1.strs.snoc HT.out.2.1 HT.out.2.2.1 (by rw [← sb_len, sb_extract p hjp, cut_len (by rw [sb_len]; exact hjp)]; omega), hO', ?_⟩, by rw [HM.out]; simp⟩
          · rw [List.length_append, List.length_singleton]
            exact paS_open (by have := HSl.out; omega) HT.out.1
          · exact (HJ.out.1.below.trans ((Below.refl _ _).alloc hsz _)).grown hgr (by simp; omega) (fun j hj => by cases hj; omega)
        have hm2 : m + 1 ≤ 201 := by have h1 := HT.out.2.2.2; have h2 := HM.out; omega
        clear hO' hgr hat
        go_wp2_with fail
        go_roundw
        case rel => exact ⟨j + 1, j + 1, g', cp', m + 1, us ++ [.string (p.extract f j)], by go_num, by go_num, Nat.le_refl _, by omega, hm2, by first | rfl | go_num, HJ2⟩
        case measure => simp [intOf]; omega
      · omega
      · have hP2 := HP.out
        rw [h0] at hP2
        have hcd : cut (sb p) j (j + (c :: zs).length) = c :: zs := hP2.ri.symm
        obtain ⟨hpj, _, _⟩ := cutHead hcd (by have := hP2.rl; exact this)
        obtain ⟨_, gj⟩ := sb_get hpj
        have HT : Hid (PaS n (sb p) os (j + 1) f us.length zs) := PaS.next (x := [c]) hP2 hT
        have z124 : ((c.toNat : Int) == 124) = false := beq_eq_false_iff_ne.2 (ne_u8 (c := 124) (fun q => by subst q; exact absurd hop (by decide)))
        have HOp : Hid (Calls Tryz.prog 119 #[.int .u8 (c.toNat : Int)] wr fun e w' => e = .returned (.bool true) ∧ w' = wr) := by
          have := l4Op_core c wr
          rw [decide_eq_true hop] at this
          exact this
        clear h0 hT hpj hop hP2 hcd
        go_wp2_with fail
        refine HOp.out.mono ?_
        rintro e' w5 ⟨rfl, hw5⟩
        rw [hw5]
        clear hw5
        go_wp2_with fail
        go_roundw
        case rel => exact ⟨j + 1, f, g, cp, m, us, by go_num, rfl, by omega, by omega, hml, rfl, HJ.out.1.move (Below.refl _ _) ⟨_, HT.out⟩, HJ.out.2⟩
        case measure => simp [intOf]; omega
      · have hP2 := HP.out
        rw [h0] at hP2
        obtain ⟨c, yt, hyc, n41, n124, nop⟩ := hA.first
        have hylen : 0 < ys.length := by rw [hyc]; simp
        have hrl := hP2.rl
        have hje2 : j + ys.length ≤ p.size := by rw [List.length_append] at hrl; have := HSl.out; omega
        obtain ⟨hy1, _, _⟩ := cutTwo hP2.ri.symm hrl (by omega)
        obtain ⟨hpj, _, _⟩ := cutHead (c := c) (zs := yt) (by rw [hy1]; exact hyc) (by rw [← HSl.out]; exact hje2)
        obtain ⟨_, gj⟩ := sb_get hpj
        have z124 : ((c.toNat : Int) == 124) = false := beq_eq_false_iff_ne.2 (ne_u8 (c := 124) n124)
        have HOp : Hid (Calls Tryz.prog 119 #[.int .u8 (c.toNat : Int)] wr fun e w' => e = .returned (.bool false) ∧ w' = wr) := by
          have := l4Op_core c wr
          rw [decide_eq_false nop] at this
          exact this
        obtain ⟨i2, hi2⟩ : ∃ i2, i2 = j + ys.length := ⟨_, rfl⟩
        have HT : Hid (PaS n (sb p) os i2 f us.length zs) := by rw [hi2]; exact PaS.next hP2 hT
        have HCall : Hid (Calls Tryz.prog 176 #[.string p, .int .i64 (j : Int)] wr fun e w' => e = .returned (.int .i64 (i2 : Int)) ∧ Below wr.heap.size wr w') := by
          rw [hi2]
          exact end_all hp n j (j + ys.length) t wr (by rw [hy1]; exact hA) (by omega)
        have hj2 : j < i2 := by omega
        have hj3 : i2 ≤ p.size := by omega
        clear h0 hT hA hy1 hyc hpj n41 n124 nop hi2 hylen hje2 hP2 hrl
        go_wp2_with fail
        refine HOp.out.mono ?_
        rintro e' w5 ⟨rfl, hw5⟩
        rw [hw5]
        clear hw5
        go_wp2_with fail
        refine HCall.out.mono ?_
        rintro e' w6 ⟨rfl, hb6⟩
        have HJ6 : Hid (PaK p n os w i2 f g cp us w6 ∧ m = us.length) := ⟨HJ.out.1.move hb6 ⟨_, HT.out⟩, HJ.out.2⟩
        clear hb6
        go_wp2_with fail
        go_roundw
        case rel => exact ⟨i2, f, g, cp, m, us, rfl, rfl, by omega, by omega, hml, rfl, HJ6.out⟩
        case measure => simp [intOf]; omega
    · have zj : ¬ (j : Int) < (p.size : Int) := by omega
      obtain rfl : j = p.size := by omega
      have hr0 : r = [] := by
        have h1 := HP.out.rl
        have h2 := HSl.out
        exact List.length_eq_zero_iff.1 (by omega)
      have hend : us.length + 1 = os.length := by
        rcases HP.out.rest with ⟨_, q⟩ | ⟨q, _⟩
        · exact q
        · have := lt_of_at q; have := HSl.out; omega
      obtain ⟨ts, hts, hsq⟩ := HP.out.cur
      rw [hr0] at hsq
      simp only [List.length_nil, Nat.add_zero] at hsq
      have HT : Hid (os[us.length]? = some ts ∧ SeqG (AtomG n) ts (sb (p.extract f p.size)) ∧ us.length + 1 = os.length) := ⟨hts, by rw [sb_extract p (Nat.le_refl _)]; exact hsq, hend⟩
      have HM : Hid (m = us.length) := HJ.out.2
      clear hr0 hend hts hsq
      go_wp2_with (at_builtin; refine wpList_append_str _ rfl _ _ rfl w.heap.size g cp m wr.heap.size us (.string (p.extract f p.size)) rfl rfl HM.out ?hO2 ?hc2 ?hy2 ?hl2 ?hb2 ?_)
      case hO2 => exact HJ.out.1.own.below ((Below.refl _ _).alloc (Nat.le_refl _) _)
      case hy2 => rfl
      case hl2 => rw [← HM.out]; omega
      case hb2 => first | omega | (simp; omega)
      intro g' cp' w' hO' hgr hat
      have HR : Hid (PrtP n os p.size w (.returned (.slice (some ⟨g', 0, none⟩) (m + 1) cp')) w') := by
        refine ⟨g', cp', us ++ [.string (p.extract f p.size)], ?_, by rw [List.length_append, List.length_singleton]; exact HT.out.2.2, ⟨hO', HJ.out.1.strs.snoc HT.out.1 HT.out.2.1 (by rw [← sb_len, sb_extract p (Nat.le_refl _), cut_len (by rw [sb_len]; exact Nat.le_refl _)]; omega)⟩, (HJ.out.1.below.trans ((Below.refl _ _).alloc hsz _)).grown hgr (by simp; omega) (fun j hj => by cases hj; omega)⟩
        rw [HM.out, HT.out.2.2]
      clear hO' hgr hat
      go_wp2_with fail
      go_ret
      exact HR.out
end Go.Proofs.YtkidabedcgngcaaGreatDoor

/-
  spec's l4None, l4Empty.
-/
namespace Go.Proofs.YtkidabedcgngcaaGreatDoor
open Go.ChangeShapes Go.WideShapes Go.ChangeAt Go.RowKit Go.Deep
set_option linter.unusedVariables false
set_option linter.unusedSimpArgs false
set_option maxRecDepth 100000

theorem rowsV_congr {N k : Nat} {ρ γ ρ' γ' : Nat → Nat} (h : ∀ i, i < k → ρ' i = ρ i ∧ γ' i = γ i) : rowsV N k ρ' γ' = rowsV N k ρ γ := by
  unfold rowsV
  apply List.map_congr_left
  intro i hi
  rw [List.mem_range] at hi
  rw [(h i hi).1, (h i hi).2]
def updN (ρ : Nat → Nat) (k r : Nat) : Nat → Nat := fun i => if i = k then r else ρ i
theorem updN_lt (ρ : Nat → Nat) (k r : Nat) {i : Nat} (h : i < k) : updN ρ k r i = ρ i := by simp [updN, Nat.ne_of_lt h]
theorem updN_at (ρ : Nat → Nat) (k r : Nat) : updN ρ k r k = r := by simp [updN]
/-- A row that is being filled, beside the rows that stand. -/
structure RowJ (w wi : World) (n g cp k r c j : Nat) (ρ γ : Nat → Nat) : Prop where
  row : BRow wi w.heap.size r c j (fun _ => false)
  mat : MatO wi w.heap.size g cp (n + 1) k ρ γ (fun _ _ => false)
  off : ∀ i, i < k → ρ i ≠ r
  below : Below w.heap.size w wi
theorem RowJ.move {w wi w' : World} {n g cp k r c j : Nat} {ρ γ : Nat → Nat} (h : RowJ w wi n g cp k r c j ρ γ) (hb : Below wi.heap.size wi w') : RowJ w w' n g cp k r c j ρ γ :=
  ⟨h.row.chg (S := fun _ => False) (Chg.of_below hb) (fun q => q), h.mat.below hb, h.off, h.below.trans (hb.mono h.below.size)⟩
theorem RowJ.next {w wi w' : World} {n g cp k r c j r' c' : Nat} {ρ γ : Nat → Nat} (h : RowJ w wi n g cp k r c j ρ γ) (hr : BRow w' w.heap.size r' c' (j + 1) (fun _ => false)) (hg : wi.grownBy w' (some r)) (hat : r' = r ∨ r' = wi.heap.size) : RowJ w w' n g cp k r' c' (j + 1) ρ γ := by
  have hch : Chg (fun b => b = r) wi w' := Chg.of_grown hg (fun b hb => by cases hb; rfl)
  have hlt := h.row.lt
  refine ⟨hr, h.mat.chg hch (fun q => (h.row.off h.mat.out) q.symm) (fun i hi => h.off i hi), fun i hi => ?_, Chg.below h.below hch h.below.size (fun b hb => by omega)⟩
  rcases hat with q | q
  · rw [q]; exact h.off i hi
  · rw [q]; have := (h.mat.row i hi).lt.2; omega
/-- The row is full, and stands with the others. -/
theorem RowJ.done {w wi w' : World} {n g cp k r c g' cp' : Nat} {ρ γ : Nat → Nat} (h : RowJ w wi n g cp k r c (n + 1) ρ γ) (ho : ORow w' w.heap.size g' cp' (n + 1) (k + 1) (updN ρ k r) (updN γ k c)) (hg : wi.grownBy w' (some g)) :
    MatO w' w.heap.size g' cp' (n + 1) (k + 1) (updN ρ k r) (updN γ k c) (fun _ _ => false) ∧ Below w.heap.size w w' := by
  have hch : Chg (fun b => b = g) wi w' := Chg.of_grown hg (fun b hb => by cases hb; rfl)
  have hlt := h.mat.out.lt
  refine ⟨⟨ho, fun i hi => ?_, fun i j hi hj hne => ?_⟩, Chg.below h.below hch h.below.size (fun b hb => by omega)⟩
  · by_cases e : i = k
    · subst e
      rw [updN_at, updN_at]
      exact h.row.chg hch (fun q => h.row.off h.mat.out q)
    · rw [updN_lt _ _ _ (by omega), updN_lt _ _ _ (by omega)]
      exact (h.mat.row i (by omega)).chg hch (fun q => (h.mat.row i (by omega)).off h.mat.out q)
  · by_cases e : i = k
    · subst e
      rw [updN_at, updN_lt _ _ _ (by omega)]
      exact fun q => h.off j (by omega) q.symm
    · by_cases e' : j = k
      · subst e'
        rw [updN_at, updN_lt _ _ _ (by omega)]
        exact h.off i (by omega)
      · rw [updN_lt _ _ _ (by omega), updN_lt _ _ _ (by omega)]
        exact h.mat.inj i j (by omega) (by omega) hne
set_option maxHeartbeats 4000000 in
theorem l4None_core (n : Nat) (hn : n ≤ 1000) (w : World) : Calls Tryz.prog 168 #[.int .i64 (n : Int)] w (MaP (n + 1) (fun _ _ => false) w) := by
  obtain ⟨W0, hW0⟩ : ∃ W0 : World, W0 = w.alloc (Obj.cells #[] 225) := ⟨_, rfl⟩
  have HM0 : Hid (MatO W0 w.heap.size w.heap.size 0 (n + 1) 0 (fun _ => 0) (fun _ => 0) (fun _ _ => false) ∧ Below w.heap.size w W0) := by
    rw [hW0]
    exact ⟨⟨World.ownsRow_lit w #[] 0 (Nat.le_refl _) (by decide) (by decide), fun i hi => by omega, fun i j hi => by omega⟩, (Below.refl _ _).alloc (Nat.le_refl _) _⟩
  go_enter Tryz.func168, Tryz.ntmps168
  go_upto_region 2 with fail
  rw [← hW0]
  clear hW0
  go_wp2_with fail
  go_loopw [3, 4] (fun ov iv wr => ∃ (k g cp : Nat) (ρ γ : Nat → Nat), k ≤ n + 1 ∧ iv = .int .i64 k ∧ ov = slV g k cp ∧ Hid (MatO wr w.heap.size g cp (n + 1) k ρ γ (fun _ _ => false) ∧ Below w.heap.size w wr)) (fun _ iv _ => n + 1 - (intOf iv).toNat)
  case atStart => exact ⟨0, _, 0, _, _, Nat.zero_le _, rfl, rfl, HM0.out⟩
  case round =>
    obtain ⟨k, g, cp, ρ, γ, hk, rfl, rfl, HM⟩ := hrel
    obtain ⟨Wr, hWr⟩ : ∃ Wr : World, Wr = wr := ⟨_, rfl⟩
    subst hWr
    by_cases hlt : k ≤ n
    · have zk : (k : Int) ≤ (n : Int) := by omega
      obtain ⟨W1, hW1⟩ : ∃ W1 : World, W1 = Wr.alloc (Obj.cells #[] 4) := ⟨_, rfl⟩
      obtain ⟨r0, hr0⟩ : ∃ r0, r0 = Wr.heap.size := ⟨_, rfl⟩
      have HJ1 : Hid (RowJ w W1 n g cp k r0 0 0 ρ γ) := by
        have hb1 : Below Wr.heap.size Wr W1 := by rw [hW1]; exact (Below.refl _ _).alloc (Nat.le_refl _) _
        refine ⟨?_, HM.out.1.below hb1, fun i hi q => ?_, HM.out.2.trans (hb1.mono HM.out.2.size)⟩
        · rw [hW1, hr0]; exact World.ownsRow_lit Wr #[] 0 HM.out.2.size (by decide) (by decide)
        · have := (HM.out.1.row i hi).lt.2; omega
      go_upto_region 6 with fail
      rw [← hW1, ← hr0]
      clear hW1 hr0
      go_wp2_with fail
      go_loopw [5, 6] (fun rv jv wi => ∃ (j r c : Nat), j ≤ n + 1 ∧ jv = .int .i64 j ∧ rv = slV r j c ∧ Hid (RowJ w wi n g cp k r c j ρ γ)) (fun _ jv _ => n + 1 - (intOf jv).toNat)
      case atStart => exact ⟨0, r0, 0, Nat.zero_le _, rfl, rfl, HJ1.out⟩
      case round =>
        obtain ⟨j, r, c, hj, rfl, rfl, HJ⟩ := hrel
        by_cases hlj : j ≤ n
        · have zj : (j : Int) ≤ (n : Int) := by omega
          have HA : Hid (RowJ w (wr.alloc (Obj.cells #[.bool false] 4)) n g cp k r c j ρ γ ∧ w.heap.size ≤ (wr.alloc (Obj.cells #[.bool false] 4)).heap.size) := by
            have h1 := HJ.out.move ((Below.refl wr.heap.size wr).alloc (Nat.le_refl _) (Obj.cells #[.bool false] 4))
            exact ⟨h1, h1.below.size⟩
          go_wp2_with (at_builtin; refine wpList_append_bo _ rfl _ _ rfl w.heap.size r c j wr.heap.size 1 (fun _ => false) false rfl rfl HA.out.1.row (by simp [go_sem]) rfl (by omega) HA.out.2 ?_)
          intro r' c' w' hr' hg' hat'
          have HJ2 : Hid (RowJ w w' n g cp k r' c' (j + 1) ρ γ) := HA.out.1.next hr' hg' (by simpa using hat')
          clear hr' hg' hat'
          go_wp2_with fail
          go_roundw
          case rel => exact ⟨j + 1, r', c', by omega, by go_num, rfl, HJ2.out⟩
          case measure => simp [intOf]; omega
        · obtain rfl : j = n + 1 := by omega
          have zj : ¬ (((n + 1 : Nat) : Int)) ≤ (n : Int) := by omega
          have HA : Hid (RowJ w (wr.alloc (Obj.cells #[slV r (n + 1) c] 225)) n g cp k r c (n + 1) ρ γ ∧ w.heap.size ≤ (wr.alloc (Obj.cells #[slV r (n + 1) c] 225)).heap.size ∧ ORow (wr.alloc (Obj.cells #[slV r (n + 1) c] 225)) w.heap.size g cp (n + 1) k (updN ρ k r) (updN γ k c)) := by
            have h1 := HJ.out.move ((Below.refl wr.heap.size wr).alloc (Nat.le_refl _) (Obj.cells #[slV r (n + 1) c] 225))
            refine ⟨h1, h1.below.size, ?_⟩
            have h2 := h1.mat.out
            unfold ORow at h2 ⊢
            rw [rowsV_congr (fun i hi => ⟨updN_lt ρ k r hi, updN_lt γ k c hi⟩)]
            exact h2
          go_wp2_with (at_builtin; refine wpList_append_row _ rfl _ _ rfl w.heap.size g cp (n + 1) k wr.heap.size 1 r c (updN ρ k r) (updN γ k c) rfl rfl HA.out.2.2 (by simp [go_sem]) (updN_at _ _ _) (updN_at _ _ _) (by omega) HA.out.2.1 ?_)
          intro g' cp' w' ho' hg' hat'
          have HM2 : Hid (MatO w' w.heap.size g' cp' (n + 1) (k + 1) (updN ρ k r) (updN γ k c) (fun _ _ => false) ∧ Below w.heap.size w w') := HA.out.1.done ho' hg'
          clear ho' hg' hat'
          go_wp2_with fail
          go_roundw
          case rel => exact ⟨k + 1, g', cp', updN ρ k r, updN γ k c, by omega, by go_num, rfl, HM2.out⟩
          case measure => simp [intOf]; omega
    · obtain rfl : k = n + 1 := by omega
      have zk : ¬ (((n + 1 : Nat) : Int)) ≤ (n : Int) := by omega
      go_wp2_with fail
      go_ret
      exact ⟨g, cp, ρ, γ, rfl, HM.out.1, HM.out.2⟩
end Go.Proofs.YtkidabedcgngcaaGreatDoor

/-
  spec's l4Empty, l4Or.
-/
namespace Go.Proofs.YtkidabedcgngcaaGreatDoor
open Go.ChangeShapes Go.WideShapes Go.ChangeAt Go.RowKit Go.Deep
set_option linter.unusedVariables false
set_option linter.unusedSimpArgs false
set_option maxRecDepth 100000

/-- As MaP, what it says where the first place is not behind the second. -/
def MaF (N : Nat) (F : Nat → Nat → Bool) (w : World) (r : Ending) (w' : World) : Prop := ∃ g cp ρ γ f, r = .returned (slV g N cp) ∧ Hid (MatO w' w.heap.size g cp N N ρ γ f ∧ ∀ i j, i ≤ j → j < N → f i j = F i j) ∧ Below w.heap.size w w'
set_option maxHeartbeats 2000000 in
theorem l4Empty_core (n : Nat) (hn : n ≤ 1000) (w : World) : Calls Tryz.prog 177 #[.int .i64 (n : Int)] w (MaF (n + 1) (fun i j => i == j) w) := by
  go_enter Tryz.func177, Tryz.ntmps177
  go_wp2_with fail
  refine (l4None_core n hn w).mono ?_
  rintro r w1 ⟨g, cp, ρ, γ, rfl, HM, hb1⟩
  have hcp := HM.out.out.caps
  go_wp2_with fail
  go_loopw [4] (fun iv wr => ∃ (k : Nat) (f : Nat → Nat → Bool), k ≤ n + 1 ∧ iv = .int .i64 k ∧ Hid (MatO wr w.heap.size g cp (n + 1) (n + 1) ρ γ f ∧ (∀ i j, i ≤ j → j < n + 1 → f i j = (i == j && decide (i < k))) ∧ Below w.heap.size w wr)) (fun iv _ => n + 1 - (intOf iv).toNat)
  case atStart => exact ⟨0, _, Nat.zero_le _, rfl, HM.out, fun i j _ _ => by simp, hb1⟩
  case round =>
    obtain ⟨k, f, hk, rfl, HJ⟩ := hrel
    by_cases hlt : k ≤ n
    · have zk : (k : Int) ≤ (n : Int) := by omega
      have hk1 : k < n + 1 := by omega
      have c0 : wr.cell? ⟨g, k, none⟩ = some (slV (ρ k) (n + 1) (γ k)) := HJ.out.1.cell hk1
      have c1 : wr.cell? ⟨ρ k, k, none⟩ = some (.bool (f k k)) := (HJ.out.1.row k hk1).cell hk1
      have z1 : wr.frozen? ⟨ρ k, k, none⟩ = false := World.ownsRow.frozenAt (HJ.out.1.row k hk1) _
      have hrc := (HJ.out.1.row k hk1).caps
      have HJ2 : Hid (MatO (wr.setCell ⟨ρ k, k, none⟩ (.bool true)) w.heap.size g cp (n + 1) (n + 1) ρ γ (upd2 f k k true) ∧ (∀ i j, i ≤ j → j < n + 1 → upd2 f k k true i j = (i == j && decide (i < k + 1))) ∧ Below w.heap.size w (wr.setCell ⟨ρ k, k, none⟩ (.bool true))) := by
        refine ⟨HJ.out.1.set hk1 hk1 true, fun i j hij hj => ?_, below_set HJ.out.2.2 (HJ.out.1.row k hk1).lt.1 _ _⟩
        unfold upd2
        by_cases e : i = k ∧ j = k
        · rw [if_pos e]; simp [e.1, e.2]
        · rw [if_neg e, HJ.out.2.1 i j hij hj]
          rw [Bool.eq_iff_iff]; simp only [Bool.or_eq_true, Bool.and_eq_true, decide_eq_true_eq, beq_iff_eq]; omega
      have zr : (k : Int) < (((n + 1 : Nat)) : Int) := by omega
      go_wp2_with fail
      go_roundw
      case rel => exact ⟨k + 1, upd2 f k k true, by omega, by go_num, HJ2.out⟩
      case measure => simp [intOf]; omega
    · obtain rfl : k = n + 1 := by omega
      have zk : ¬ (((n + 1 : Nat) : Int)) ≤ (n : Int) := by omega
      go_wp2_with fail
      go_ret
      refine ⟨g, cp, ρ, γ, f, rfl, ⟨HJ.out.1, fun i j hij hj => ?_⟩, HJ.out.2.2⟩
      rw [HJ.out.2.1 i j hij hj]
      have : i < n + 1 := by omega
      simp [this]
/-- a or b, row k filled up to j. -/
def orF (fa fb : Nat → Nat → Bool) (k j : Nat) : Nat → Nat → Bool := fun x y => (fa x y || fb x y) && (decide (x < k) || (x == k && decide (y < j)))
set_option maxHeartbeats 8000000 in
theorem l4Or_core (n ga ca gb cb : Nat) (ρa γa ρb γb : Nat → Nat) (fa fb : Nat → Nat → Bool) (w : World) (hn : n ≤ 1000) (ha : MatR w ga (n + 1) ρa γa fa) (hb : MatR w gb (n + 1) ρb γb fb) (hca : n + 1 ≤ ca) (hcb : n + 1 ≤ cb) : Calls Tryz.prog 170 #[slV ga (n + 1) ca, slV gb (n + 1) cb] w (MaF (n + 1) (fun i j => fa i j || fb i j) w) := by
  have HR : Hid (MatR w ga (n + 1) ρa γa fa ∧ MatR w gb (n + 1) ρb γb fb) := ⟨ha, hb⟩
  clear ha hb
  go_enter Tryz.func170, Tryz.ntmps170
  go_wp2_with fail
  refine (l4None_core n hn w).mono ?_
  rintro r w1 ⟨g, cp, ρ, γ, rfl, HM, hb1⟩
  have hcp := HM.out.out.caps
  go_wp2_with fail
  go_loopw [6] (fun iv wr => ∃ (k : Nat) (f : Nat → Nat → Bool), k ≤ n + 1 ∧ iv = .int .i64 k ∧ Hid (MatO wr w.heap.size g cp (n + 1) (n + 1) ρ γ f ∧ (∀ i j, i ≤ j → j < n + 1 → f i j = orF fa fb k 0 i j) ∧ Below w.heap.size w wr)) (fun iv _ => n + 1 - (intOf iv).toNat)
  case atStart => exact ⟨0, _, Nat.zero_le _, rfl, HM.out, fun i j _ _ => by simp [orF], hb1⟩
  case round =>
    obtain ⟨k, f0, hk, rfl, HJ0⟩ := hrel
    obtain ⟨Wr, hWr⟩ : ∃ Wr : World, Wr = wr := ⟨_, rfl⟩
    subst hWr
    by_cases hlt : k < n + 1
    · have zk : (k : Int) < ((n + 1 : Nat) : Int) := by omega
      go_wp2_with fail
      go_loopw [7] (fun jv wr => ∃ (j : Nat) (f : Nat → Nat → Bool), k ≤ j ∧ j ≤ n + 1 ∧ jv = .int .i64 j ∧ Hid (MatO wr w.heap.size g cp (n + 1) (n + 1) ρ γ f ∧ (∀ x y, x ≤ y → y < n + 1 → f x y = orF fa fb k j x y) ∧ Below w.heap.size w wr)) (fun jv _ => n + 1 - (intOf jv).toNat)
      case atStart => exact ⟨k, f0, Nat.le_refl _, by omega, rfl, HJ0.out.1, fun x y hxy hy => by
        rw [HJ0.out.2.1 x y hxy hy]
        unfold orF
        congr 1
        rw [Bool.eq_iff_iff]; simp only [Bool.or_eq_true, Bool.and_eq_true, decide_eq_true_eq, beq_iff_eq]; omega, HJ0.out.2.2⟩
      case round =>
        obtain ⟨j, f, hkj, hj, rfl, HJ⟩ := hrel
        by_cases hlj : j < n + 1
        · have zj : (j : Int) < ((n + 1 : Nat) : Int) := by omega
          have hra := HR.out.1.below HJ.out.2.2 (Nat.le_refl _)
          have hrb := HR.out.2.below HJ.out.2.2 (Nat.le_refl _)
          have c0 : wr.cell? ⟨g, k, none⟩ = some (slV (ρ k) (n + 1) (γ k)) := HJ.out.1.cell hlt
          have c1 : wr.cell? ⟨ρ k, j, none⟩ = some (.bool (f k j)) := (HJ.out.1.row k hlt).cell hlj
          have z1 : wr.frozen? ⟨ρ k, j, none⟩ = false := World.ownsRow.frozenAt (HJ.out.1.row k hlt) _
          have hrc := (HJ.out.1.row k hlt).caps
          have a0 := hra.out k hlt
          have a1 := hra.row k j hlt hlj
          have b0 := hrb.out k hlt
          have b1 := hrb.row k j hlt hlj
          have hc1 := HR.out.1.cap k hlt
          have hc2 := HR.out.2.cap k hlt
          have HJ2 : Hid (∀ v : Bool, v = (fa k j || fb k j) → Hid (MatO (wr.setCell ⟨ρ k, j, none⟩ (.bool v)).drew w.heap.size g cp (n + 1) (n + 1) ρ γ (upd2 f k j v) ∧ (∀ x y, x ≤ y → y < n + 1 → upd2 f k j v x y = orF fa fb k (j + 1) x y) ∧ Below w.heap.size w (wr.setCell ⟨ρ k, j, none⟩ (.bool v)).drew)) := fun v hv => by
            refine ⟨(HJ.out.1.set hlt hlj v).below ((Below.refl _ _).drew), fun x y hxy hy => ?_, (below_set HJ.out.2.2 (HJ.out.1.row k hlt).lt.1 _ _).drew⟩
            unfold upd2
            by_cases e : x = k ∧ y = j
            · rw [if_pos e, hv]; simp [orF, e.1, e.2]
            · rw [if_neg e, HJ.out.2.1 x y hxy hy]
              unfold orF
              congr 1
              rw [Bool.eq_iff_iff]; simp only [Bool.or_eq_true, Bool.and_eq_true, decide_eq_true_eq, beq_iff_eq]; omega
          obtain ⟨fav, hfa⟩ : ∃ fav, fa k j = fav := ⟨_, rfl⟩
          obtain ⟨fbv, hfb⟩ : ∃ fbv, fb k j = fbv := ⟨_, rfl⟩
          have HV : Hid (fa k j = fav ∧ fb k j = fbv) := ⟨hfa, hfb⟩
          rw [hfa] at a1
          rw [hfb] at b1
          clear hra hrb hfa hfb
          go_upto_region 8 with fail
          cases fav
          case false =>
            have hSd : (fun w' : World => w'.cell? ⟨g, k, none⟩ = some (slV (ρ k) (n + 1) (γ k)) ∧ w'.cell? ⟨ga, k, none⟩ = some (slV (ρa k) (n + 1) (γa k)) ∧ w'.cell? ⟨ρa k, j, none⟩ = some (.bool false) ∧ w'.cell? ⟨gb, k, none⟩ = some (slV (ρb k) (n + 1) (γb k)) ∧ w'.cell? ⟨ρb k, j, none⟩ = some (.bool fbv)) wr.drew := ⟨c0, a0, a1, b0, b1⟩
            refine wp_region_T 22 (fun w' : World => w'.cell? ⟨g, k, none⟩ = some (slV (ρ k) (n + 1) (γ k)) ∧ w'.cell? ⟨ga, k, none⟩ = some (slV (ρa k) (n + 1) (γa k)) ∧ w'.cell? ⟨ρa k, j, none⟩ = some (.bool false) ∧ w'.cell? ⟨gb, k, none⟩ = some (slV (ρb k) (n + 1) (γb k)) ∧ w'.cell? ⟨ρb k, j, none⟩ = some (.bool fbv)) (by kernel_rfl) ?_
            refine anyT_take (i := 0) (v := ?vf0) rfl (by kernel_rfl) (by kernel_rfl) (by kernel_rfl) (by kernel_rfl) (by decide) (fun _ _ _ h => h) (Or.inl ⟨by rfl, ?yf0⟩) hSd ?_
            case yf0 => (intro wz hSw; obtain ⟨hz0, hz1, hz2, hz3, hz4⟩ := hSw; go_simp; (try with_reducible rfl))
            try simp only [Act.put, List.getElem_toArray, List.getElem_cons_zero, List.getElem_cons_succ, List.setIfInBounds_toArray, List.set_cons_zero, List.set_cons_succ]
            refine anyT_take (i := 1) (v := ?vf1) rfl (by kernel_rfl) (by kernel_rfl) (by kernel_rfl) (by kernel_rfl) (by decide) (fun _ _ _ h => h) (Or.inl ⟨by rfl, ?yf1⟩) hSd ?_
            case yf1 => (intro wz hSw; obtain ⟨hz0, hz1, hz2, hz3, hz4⟩ := hSw; go_simp; (try with_reducible rfl))
            try simp only [Act.put, List.getElem_toArray, List.getElem_cons_zero, List.getElem_cons_succ, List.setIfInBounds_toArray, List.set_cons_zero, List.set_cons_succ]
            refine anyT_take (i := 2) (v := ?vf2) rfl (by kernel_rfl) (by kernel_rfl) (by kernel_rfl) (by kernel_rfl) (by decide) (fun _ _ _ h => h) (Or.inl ⟨by rfl, ?yf2⟩) hSd ?_
            case yf2 => (intro wz hSw; obtain ⟨hz0, hz1, hz2, hz3, hz4⟩ := hSw; go_simp; (try with_reducible rfl))
            try simp only [Act.put, List.getElem_toArray, List.getElem_cons_zero, List.getElem_cons_succ, List.setIfInBounds_toArray, List.set_cons_zero, List.set_cons_succ]
            refine anyT_take (i := 3) (v := ?vf3) rfl (by kernel_rfl) (by kernel_rfl) (by kernel_rfl) (by kernel_rfl) (by decide) (fun _ _ _ h => h) (Or.inl ⟨by rfl, ?yf3⟩) hSd ?_
            case yf3 => (intro wz hSw; obtain ⟨hz0, hz1, hz2, hz3, hz4⟩ := hSw; go_simp; (try with_reducible rfl))
            try simp only [Act.put, List.getElem_toArray, List.getElem_cons_zero, List.getElem_cons_succ, List.setIfInBounds_toArray, List.set_cons_zero, List.set_cons_succ]
            refine anyT_take (i := 4) (v := ?vf4) rfl (by kernel_rfl) (by kernel_rfl) (by kernel_rfl) (by kernel_rfl) (by decide) (fun _ _ _ h => h) (Or.inl ⟨by rfl, ?yf4⟩) hSd ?_
            case yf4 => (intro wz hSw; obtain ⟨hz0, hz1, hz2, hz3, hz4⟩ := hSw; go_simp; (try with_reducible rfl))
            try simp only [Act.put, List.getElem_toArray, List.getElem_cons_zero, List.getElem_cons_succ, List.setIfInBounds_toArray, List.set_cons_zero, List.set_cons_succ]
            refine anyT_take (i := 5) (v := ?vf5) rfl (by kernel_rfl) (by kernel_rfl) (by kernel_rfl) (by kernel_rfl) (by decide) (fun _ _ _ h => h) (Or.inl ⟨by rfl, ?yf5⟩) hSd ?_
            case yf5 => (intro wz hSw; obtain ⟨hz0, hz1, hz2, hz3, hz4⟩ := hSw; go_simp; (try with_reducible rfl))
            try simp only [Act.put, List.getElem_toArray, List.getElem_cons_zero, List.getElem_cons_succ, List.setIfInBounds_toArray, List.set_cons_zero, List.set_cons_succ]
            refine anyT_take (i := 6) (v := ?vf6) rfl (by kernel_rfl) (by kernel_rfl) (by kernel_rfl) (by kernel_rfl) (by decide) (fun _ _ _ h => h) (Or.inl ⟨by rfl, ?yf6⟩) hSd ?_
            case yf6 => (intro wz hSw; obtain ⟨hz0, hz1, hz2, hz3, hz4⟩ := hSw; go_simp; (try with_reducible rfl))
            try simp only [Act.put, List.getElem_toArray, List.getElem_cons_zero, List.getElem_cons_succ, List.setIfInBounds_toArray, List.set_cons_zero, List.set_cons_succ]
            refine anyT_take (i := 7) (v := ?vf7) rfl (by kernel_rfl) (by kernel_rfl) (by kernel_rfl) (by kernel_rfl) (by decide) (fun _ _ _ h => h) (Or.inl ⟨by rfl, ?yf7⟩) hSd ?_
            case yf7 => (intro wz hSw; obtain ⟨hz0, hz1, hz2, hz3, hz4⟩ := hSw; go_simp; (try with_reducible rfl))
            try simp only [Act.put, List.getElem_toArray, List.getElem_cons_zero, List.getElem_cons_succ, List.setIfInBounds_toArray, List.set_cons_zero, List.set_cons_succ]
            refine anyT_take (i := 8) (v := ?vf8) rfl (by kernel_rfl) (by kernel_rfl) (by kernel_rfl) (by kernel_rfl) (by decide) (fun _ _ _ h => h) (Or.inl ⟨by rfl, ?yf8⟩) hSd ?_
            case yf8 => (intro wz hSw; obtain ⟨hz0, hz1, hz2, hz3, hz4⟩ := hSw; go_simp; (try with_reducible rfl))
            try simp only [Act.put, List.getElem_toArray, List.getElem_cons_zero, List.getElem_cons_succ, List.setIfInBounds_toArray, List.set_cons_zero, List.set_cons_succ]
            refine anyT_take (i := 9) (v := ?vf9) rfl (by kernel_rfl) (by kernel_rfl) (by kernel_rfl) (by kernel_rfl) (by decide) (fun _ _ _ h => h) (Or.inl ⟨by rfl, ?yf9⟩) hSd ?_
            case yf9 => (intro wz hSw; obtain ⟨hz0, hz1, hz2, hz3, hz4⟩ := hSw; go_simp; (try with_reducible rfl))
            try simp only [Act.put, List.getElem_toArray, List.getElem_cons_zero, List.getElem_cons_succ, List.setIfInBounds_toArray, List.set_cons_zero, List.set_cons_succ]
            refine anyT_take (i := 10) (v := ?vf10) rfl (by kernel_rfl) (by kernel_rfl) (by kernel_rfl) (by kernel_rfl) (by decide) (fun _ _ _ h => h) (Or.inl ⟨by rfl, ?yf10⟩) hSd ?_
            case yf10 => (intro wz hSw; obtain ⟨hz0, hz1, hz2, hz3, hz4⟩ := hSw; go_simp; (try with_reducible rfl))
            try simp only [Act.put, List.getElem_toArray, List.getElem_cons_zero, List.getElem_cons_succ, List.setIfInBounds_toArray, List.set_cons_zero, List.set_cons_succ]
            refine anyT_take (i := 11) (v := ?vf11) rfl (by kernel_rfl) (by kernel_rfl) (by kernel_rfl) (by kernel_rfl) (by decide) (fun _ _ _ h => h) (Or.inl ⟨by rfl, ?yf11⟩) hSd ?_
            case yf11 => (intro wz hSw; obtain ⟨hz0, hz1, hz2, hz3, hz4⟩ := hSw; go_simp; (try with_reducible rfl))
            try simp only [Act.put, List.getElem_toArray, List.getElem_cons_zero, List.getElem_cons_succ, List.setIfInBounds_toArray, List.set_cons_zero, List.set_cons_succ]
            refine anyT_take (i := 12) (v := ?vf12) rfl (by kernel_rfl) (by kernel_rfl) (by kernel_rfl) (by kernel_rfl) (by decide) (fun _ _ _ h => h) (Or.inl ⟨by rfl, ?yf12⟩) hSd ?_
            case yf12 => (intro wz hSw; obtain ⟨hz0, hz1, hz2, hz3, hz4⟩ := hSw; go_simp; (try with_reducible rfl))
            try simp only [Act.put, List.getElem_toArray, List.getElem_cons_zero, List.getElem_cons_succ, List.setIfInBounds_toArray, List.set_cons_zero, List.set_cons_succ]
            refine anyT_take (i := 13) (v := ?vf13) rfl (by kernel_rfl) (by kernel_rfl) (by kernel_rfl) (by kernel_rfl) (by decide) (fun _ _ _ h => h) (Or.inl ⟨by rfl, ?yf13⟩) hSd ?_
            case yf13 => (intro wz hSw; obtain ⟨hz0, hz1, hz2, hz3, hz4⟩ := hSw; go_simp; (try with_reducible rfl))
            try simp only [Act.put, List.getElem_toArray, List.getElem_cons_zero, List.getElem_cons_succ, List.setIfInBounds_toArray, List.set_cons_zero, List.set_cons_succ]
            refine anyT_take (i := 14) (v := ?vf14) rfl (by kernel_rfl) (by kernel_rfl) (by kernel_rfl) (by kernel_rfl) (by decide) (fun _ _ _ h => h) (Or.inl ⟨by rfl, ?yf14⟩) hSd ?_
            case yf14 => (intro wz hSw; obtain ⟨hz0, hz1, hz2, hz3, hz4⟩ := hSw; go_simp; (try with_reducible rfl))
            try simp only [Act.put, List.getElem_toArray, List.getElem_cons_zero, List.getElem_cons_succ, List.setIfInBounds_toArray, List.set_cons_zero, List.set_cons_succ]
            refine anyT_take (i := 15) (v := ?vf15) rfl (by kernel_rfl) (by kernel_rfl) (by kernel_rfl) (by kernel_rfl) (by decide) (fun _ _ _ h => h) (Or.inl ⟨by rfl, ?yf15⟩) hSd ?_
            case yf15 => (intro wz hSw; obtain ⟨hz0, hz1, hz2, hz3, hz4⟩ := hSw; go_simp; (try with_reducible rfl))
            try simp only [Act.put, List.getElem_toArray, List.getElem_cons_zero, List.getElem_cons_succ, List.setIfInBounds_toArray, List.set_cons_zero, List.set_cons_succ]
            refine anyT_take (i := 16) (v := ?vf16) rfl (by kernel_rfl) (by kernel_rfl) (by kernel_rfl) (by kernel_rfl) (by decide) (fun _ _ _ h => h) (Or.inl ⟨by rfl, ?yf16⟩) hSd ?_
            case yf16 => (intro wz hSw; obtain ⟨hz0, hz1, hz2, hz3, hz4⟩ := hSw; go_simp; (try with_reducible rfl))
            try simp only [Act.put, List.getElem_toArray, List.getElem_cons_zero, List.getElem_cons_succ, List.setIfInBounds_toArray, List.set_cons_zero, List.set_cons_succ]
            refine anyT_take (i := 17) (v := ?vf17) rfl (by kernel_rfl) (by kernel_rfl) (by kernel_rfl) (by kernel_rfl) (by decide) (fun _ _ _ h => h) (Or.inl ⟨by rfl, ?yf17⟩) hSd ?_
            case yf17 => (intro wz hSw; obtain ⟨hz0, hz1, hz2, hz3, hz4⟩ := hSw; go_simp; (try with_reducible rfl))
            try simp only [Act.put, List.getElem_toArray, List.getElem_cons_zero, List.getElem_cons_succ, List.setIfInBounds_toArray, List.set_cons_zero, List.set_cons_succ]
            refine anyT_take (i := 18) (v := ?vf18) rfl (by kernel_rfl) (by kernel_rfl) (by kernel_rfl) (by kernel_rfl) (by decide) (fun _ _ _ h => h) (Or.inl ⟨by rfl, ?yf18⟩) hSd ?_
            case yf18 => (intro wz hSw; obtain ⟨hz0, hz1, hz2, hz3, hz4⟩ := hSw; go_simp; (try with_reducible rfl))
            try simp only [Act.put, List.getElem_toArray, List.getElem_cons_zero, List.getElem_cons_succ, List.setIfInBounds_toArray, List.set_cons_zero, List.set_cons_succ]
            refine anyT_take (i := 19) (v := ?vf19) rfl (by kernel_rfl) (by kernel_rfl) (by kernel_rfl) (by kernel_rfl) (by decide) (fun _ _ _ h => h) (Or.inl ⟨by rfl, ?yf19⟩) hSd ?_
            case yf19 => (intro wz hSw; obtain ⟨hz0, hz1, hz2, hz3, hz4⟩ := hSw; go_simp; (try with_reducible rfl))
            try simp only [Act.put, List.getElem_toArray, List.getElem_cons_zero, List.getElem_cons_succ, List.setIfInBounds_toArray, List.set_cons_zero, List.set_cons_succ]
            refine anyT_take (i := 20) (v := ?vf20) rfl (by kernel_rfl) (by kernel_rfl) (by kernel_rfl) (by kernel_rfl) (by decide) (fun _ _ _ h => h) (Or.inl ⟨by rfl, ?yf20⟩) hSd ?_
            case yf20 => (intro wz hSw; obtain ⟨hz0, hz1, hz2, hz3, hz4⟩ := hSw; go_simp; (try with_reducible rfl))
            try simp only [Act.put, List.getElem_toArray, List.getElem_cons_zero, List.getElem_cons_succ, List.setIfInBounds_toArray, List.set_cons_zero, List.set_cons_succ]
            refine anyT_one (i := 21) (by kernel_rfl) rfl (fun K hK => ?_)
            go_simp
            refine hK.out _ _ (.inr hSd) ?_
            clear hK
            try simp only [Act.put, List.getElem_toArray, List.getElem_cons_zero, List.getElem_cons_succ, List.setIfInBounds_toArray, List.set_cons_zero, List.set_cons_succ]
            refine anyT_one (i := 22) (by kernel_rfl) rfl (fun K hK => ?_)
            go_simp
            refine hK.out _ _ (.inl rfl) ?_
            clear hK
            try simp only [Act.put, List.getElem_toArray, List.getElem_cons_zero, List.getElem_cons_succ, List.setIfInBounds_toArray, List.set_cons_zero, List.set_cons_succ]
            refine anyT_done (by kernel_rfl) ?_
            have HJ3 := HJ2.out fbv (by rw [HV.out.1, HV.out.2]; rfl)
            go_wp2_with fail
            go_roundw
            case rel => exact ⟨j + 1, by omega, by omega, by go_num, upd2 f k j fbv, HJ3⟩
            case measure => simp [intOf]; omega
          case true =>
            have hSd : (fun w' : World => w'.cell? ⟨g, k, none⟩ = some (slV (ρ k) (n + 1) (γ k)) ∧ w'.cell? ⟨ga, k, none⟩ = some (slV (ρa k) (n + 1) (γa k)) ∧ w'.cell? ⟨ρa k, j, none⟩ = some (.bool true) ∧ w'.cell? ⟨gb, k, none⟩ = some (slV (ρb k) (n + 1) (γb k)) ∧ w'.cell? ⟨ρb k, j, none⟩ = some (.bool fbv)) wr.drew := ⟨c0, a0, a1, b0, b1⟩
            refine wp_region_T 22 (fun w' : World => w'.cell? ⟨g, k, none⟩ = some (slV (ρ k) (n + 1) (γ k)) ∧ w'.cell? ⟨ga, k, none⟩ = some (slV (ρa k) (n + 1) (γa k)) ∧ w'.cell? ⟨ρa k, j, none⟩ = some (.bool true) ∧ w'.cell? ⟨gb, k, none⟩ = some (slV (ρb k) (n + 1) (γb k)) ∧ w'.cell? ⟨ρb k, j, none⟩ = some (.bool fbv)) (by kernel_rfl) ?_
            refine anyT_take (i := 0) (v := ?vt0) rfl (by kernel_rfl) (by kernel_rfl) (by kernel_rfl) (by kernel_rfl) (by decide) (fun _ _ _ h => h) (Or.inl ⟨by rfl, ?yt0⟩) hSd ?_
            case yt0 => (intro wz hSw; obtain ⟨hz0, hz1, hz2, hz3, hz4⟩ := hSw; go_simp; (try with_reducible rfl))
            try simp only [Act.put, List.getElem_toArray, List.getElem_cons_zero, List.getElem_cons_succ, List.setIfInBounds_toArray, List.set_cons_zero, List.set_cons_succ]
            refine anyT_take (i := 1) (v := ?vt1) rfl (by kernel_rfl) (by kernel_rfl) (by kernel_rfl) (by kernel_rfl) (by decide) (fun _ _ _ h => h) (Or.inl ⟨by rfl, ?yt1⟩) hSd ?_
            case yt1 => (intro wz hSw; obtain ⟨hz0, hz1, hz2, hz3, hz4⟩ := hSw; go_simp; (try with_reducible rfl))
            try simp only [Act.put, List.getElem_toArray, List.getElem_cons_zero, List.getElem_cons_succ, List.setIfInBounds_toArray, List.set_cons_zero, List.set_cons_succ]
            refine anyT_take (i := 2) (v := ?vt2) rfl (by kernel_rfl) (by kernel_rfl) (by kernel_rfl) (by kernel_rfl) (by decide) (fun _ _ _ h => h) (Or.inl ⟨by rfl, ?yt2⟩) hSd ?_
            case yt2 => (intro wz hSw; obtain ⟨hz0, hz1, hz2, hz3, hz4⟩ := hSw; go_simp; (try with_reducible rfl))
            try simp only [Act.put, List.getElem_toArray, List.getElem_cons_zero, List.getElem_cons_succ, List.setIfInBounds_toArray, List.set_cons_zero, List.set_cons_succ]
            refine anyT_take (i := 3) (v := ?vt3) rfl (by kernel_rfl) (by kernel_rfl) (by kernel_rfl) (by kernel_rfl) (by decide) (fun _ _ _ h => h) (Or.inl ⟨by rfl, ?yt3⟩) hSd ?_
            case yt3 => (intro wz hSw; obtain ⟨hz0, hz1, hz2, hz3, hz4⟩ := hSw; go_simp; (try with_reducible rfl))
            try simp only [Act.put, List.getElem_toArray, List.getElem_cons_zero, List.getElem_cons_succ, List.setIfInBounds_toArray, List.set_cons_zero, List.set_cons_succ]
            refine anyT_take (i := 4) (v := ?vt4) rfl (by kernel_rfl) (by kernel_rfl) (by kernel_rfl) (by kernel_rfl) (by decide) (fun _ _ _ h => h) (Or.inl ⟨by rfl, ?yt4⟩) hSd ?_
            case yt4 => (intro wz hSw; obtain ⟨hz0, hz1, hz2, hz3, hz4⟩ := hSw; go_simp; (try with_reducible rfl))
            try simp only [Act.put, List.getElem_toArray, List.getElem_cons_zero, List.getElem_cons_succ, List.setIfInBounds_toArray, List.set_cons_zero, List.set_cons_succ]
            refine anyT_take (i := 5) (v := ?vt5) rfl (by kernel_rfl) (by kernel_rfl) (by kernel_rfl) (by kernel_rfl) (by decide) (fun _ _ _ h => h) (Or.inl ⟨by rfl, ?yt5⟩) hSd ?_
            case yt5 => (intro wz hSw; obtain ⟨hz0, hz1, hz2, hz3, hz4⟩ := hSw; go_simp; (try with_reducible rfl))
            try simp only [Act.put, List.getElem_toArray, List.getElem_cons_zero, List.getElem_cons_succ, List.setIfInBounds_toArray, List.set_cons_zero, List.set_cons_succ]
            refine anyT_take (i := 6) (v := ?vt6) rfl (by kernel_rfl) (by kernel_rfl) (by kernel_rfl) (by kernel_rfl) (by decide) (fun _ _ _ h => h) (Or.inl ⟨by rfl, ?yt6⟩) hSd ?_
            case yt6 => (intro wz hSw; obtain ⟨hz0, hz1, hz2, hz3, hz4⟩ := hSw; go_simp; (try with_reducible rfl))
            try simp only [Act.put, List.getElem_toArray, List.getElem_cons_zero, List.getElem_cons_succ, List.setIfInBounds_toArray, List.set_cons_zero, List.set_cons_succ]
            refine anyT_take (i := 7) (v := ?vt7) rfl (by kernel_rfl) (by kernel_rfl) (by kernel_rfl) (by kernel_rfl) (by decide) (fun _ _ _ h => h) (Or.inl ⟨by rfl, ?yt7⟩) hSd ?_
            case yt7 => (intro wz hSw; obtain ⟨hz0, hz1, hz2, hz3, hz4⟩ := hSw; go_simp; (try with_reducible rfl))
            try simp only [Act.put, List.getElem_toArray, List.getElem_cons_zero, List.getElem_cons_succ, List.setIfInBounds_toArray, List.set_cons_zero, List.set_cons_succ]
            refine anyT_take (i := 8) (v := ?vt8) rfl (by kernel_rfl) (by kernel_rfl) (by kernel_rfl) (by kernel_rfl) (by decide) (fun _ _ _ h => h) (Or.inl ⟨by rfl, ?yt8⟩) hSd ?_
            case yt8 => (intro wz hSw; obtain ⟨hz0, hz1, hz2, hz3, hz4⟩ := hSw; go_simp; (try with_reducible rfl))
            try simp only [Act.put, List.getElem_toArray, List.getElem_cons_zero, List.getElem_cons_succ, List.setIfInBounds_toArray, List.set_cons_zero, List.set_cons_succ]
            refine anyT_take (i := 9) (v := ?vt9) rfl (by kernel_rfl) (by kernel_rfl) (by kernel_rfl) (by kernel_rfl) (by decide) (fun _ _ _ h => h) (Or.inl ⟨by rfl, ?yt9⟩) hSd ?_
            case yt9 => (intro wz hSw; obtain ⟨hz0, hz1, hz2, hz3, hz4⟩ := hSw; go_simp; (try with_reducible rfl))
            try simp only [Act.put, List.getElem_toArray, List.getElem_cons_zero, List.getElem_cons_succ, List.setIfInBounds_toArray, List.set_cons_zero, List.set_cons_succ]
            refine anyT_take (i := 10) (v := ?vt10) rfl (by kernel_rfl) (by kernel_rfl) (by kernel_rfl) (by kernel_rfl) (by decide) (fun _ _ _ h => h) (Or.inl ⟨by rfl, ?yt10⟩) hSd ?_
            case yt10 => (intro wz hSw; obtain ⟨hz0, hz1, hz2, hz3, hz4⟩ := hSw; go_simp; (try with_reducible rfl))
            try simp only [Act.put, List.getElem_toArray, List.getElem_cons_zero, List.getElem_cons_succ, List.setIfInBounds_toArray, List.set_cons_zero, List.set_cons_succ]
            refine anyT_take (i := 11) (v := ?vt11) rfl (by kernel_rfl) (by kernel_rfl) (by kernel_rfl) (by kernel_rfl) (by decide) (fun _ _ _ h => h) (Or.inl ⟨by rfl, ?yt11⟩) hSd ?_
            case yt11 => (intro wz hSw; obtain ⟨hz0, hz1, hz2, hz3, hz4⟩ := hSw; go_simp; (try with_reducible rfl))
            try simp only [Act.put, List.getElem_toArray, List.getElem_cons_zero, List.getElem_cons_succ, List.setIfInBounds_toArray, List.set_cons_zero, List.set_cons_succ]
            refine anyT_take (i := 12) (v := ?vt12) rfl (by kernel_rfl) (by kernel_rfl) (by kernel_rfl) (by kernel_rfl) (by decide) (fun _ _ _ h => h) (Or.inl ⟨by rfl, ?yt12⟩) hSd ?_
            case yt12 => (intro wz hSw; obtain ⟨hz0, hz1, hz2, hz3, hz4⟩ := hSw; go_simp; (try with_reducible rfl))
            try simp only [Act.put, List.getElem_toArray, List.getElem_cons_zero, List.getElem_cons_succ, List.setIfInBounds_toArray, List.set_cons_zero, List.set_cons_succ]
            refine anyT_take (i := 13) (v := undef) rfl (by kernel_rfl) (by kernel_rfl) (by kernel_rfl) (by kernel_rfl) (by decide) (fun _ _ _ h => h) (Or.inr ⟨by rfl, rfl⟩) hSd ?_
            try simp only [Act.put, List.getElem_toArray, List.getElem_cons_zero, List.getElem_cons_succ, List.setIfInBounds_toArray, List.set_cons_zero, List.set_cons_succ]
            refine anyT_take (i := 14) (v := undef) rfl (by kernel_rfl) (by kernel_rfl) (by kernel_rfl) (by kernel_rfl) (by decide) (fun _ _ _ h => h) (Or.inr ⟨by rfl, rfl⟩) hSd ?_
            try simp only [Act.put, List.getElem_toArray, List.getElem_cons_zero, List.getElem_cons_succ, List.setIfInBounds_toArray, List.set_cons_zero, List.set_cons_succ]
            refine anyT_take (i := 15) (v := undef) rfl (by kernel_rfl) (by kernel_rfl) (by kernel_rfl) (by kernel_rfl) (by decide) (fun _ _ _ h => h) (Or.inr ⟨by rfl, rfl⟩) hSd ?_
            try simp only [Act.put, List.getElem_toArray, List.getElem_cons_zero, List.getElem_cons_succ, List.setIfInBounds_toArray, List.set_cons_zero, List.set_cons_succ]
            refine anyT_take (i := 16) (v := undef) rfl (by kernel_rfl) (by kernel_rfl) (by kernel_rfl) (by kernel_rfl) (by decide) (fun _ _ _ h => h) (Or.inr ⟨by rfl, rfl⟩) hSd ?_
            try simp only [Act.put, List.getElem_toArray, List.getElem_cons_zero, List.getElem_cons_succ, List.setIfInBounds_toArray, List.set_cons_zero, List.set_cons_succ]
            refine anyT_take (i := 17) (v := undef) rfl (by kernel_rfl) (by kernel_rfl) (by kernel_rfl) (by kernel_rfl) (by decide) (fun _ _ _ h => h) (Or.inr ⟨by rfl, rfl⟩) hSd ?_
            try simp only [Act.put, List.getElem_toArray, List.getElem_cons_zero, List.getElem_cons_succ, List.setIfInBounds_toArray, List.set_cons_zero, List.set_cons_succ]
            refine anyT_take (i := 18) (v := undef) rfl (by kernel_rfl) (by kernel_rfl) (by kernel_rfl) (by kernel_rfl) (by decide) (fun _ _ _ h => h) (Or.inr ⟨by rfl, rfl⟩) hSd ?_
            try simp only [Act.put, List.getElem_toArray, List.getElem_cons_zero, List.getElem_cons_succ, List.setIfInBounds_toArray, List.set_cons_zero, List.set_cons_succ]
            refine anyT_take (i := 19) (v := undef) rfl (by kernel_rfl) (by kernel_rfl) (by kernel_rfl) (by kernel_rfl) (by decide) (fun _ _ _ h => h) (Or.inr ⟨by rfl, rfl⟩) hSd ?_
            try simp only [Act.put, List.getElem_toArray, List.getElem_cons_zero, List.getElem_cons_succ, List.setIfInBounds_toArray, List.set_cons_zero, List.set_cons_succ]
            refine anyT_take (i := 20) (v := ?vt20) rfl (by kernel_rfl) (by kernel_rfl) (by kernel_rfl) (by kernel_rfl) (by decide) (fun _ _ _ h => h) (Or.inl ⟨by rfl, ?yt20⟩) hSd ?_
            case yt20 => (intro wz hSw; obtain ⟨hz0, hz1, hz2, hz3, hz4⟩ := hSw; go_simp; (try with_reducible rfl))
            try simp only [Act.put, List.getElem_toArray, List.getElem_cons_zero, List.getElem_cons_succ, List.setIfInBounds_toArray, List.set_cons_zero, List.set_cons_succ]
            refine anyT_one (i := 21) (by kernel_rfl) rfl (fun K hK => ?_)
            go_simp
            refine hK.out _ _ (.inr hSd) ?_
            clear hK
            try simp only [Act.put, List.getElem_toArray, List.getElem_cons_zero, List.getElem_cons_succ, List.setIfInBounds_toArray, List.set_cons_zero, List.set_cons_succ]
            refine anyT_one (i := 22) (by kernel_rfl) rfl (fun K hK => ?_)
            go_simp
            refine hK.out _ _ (.inl rfl) ?_
            clear hK
            try simp only [Act.put, List.getElem_toArray, List.getElem_cons_zero, List.getElem_cons_succ, List.setIfInBounds_toArray, List.set_cons_zero, List.set_cons_succ]
            refine anyT_done (by kernel_rfl) ?_
            have HJ3 := HJ2.out true (by rw [HV.out.1, HV.out.2]; rfl)
            go_wp2_with fail
            go_roundw
            case rel => exact ⟨j + 1, by omega, by omega, by go_num, upd2 f k j true, HJ3⟩
            case measure => simp [intOf]; omega
        · obtain rfl : j = n + 1 := by omega
          have zj : ¬ ((n + 1 : Nat) : Int) < ((n + 1 : Nat) : Int) := by omega
          have HJ2 : Hid (MatO wr w.heap.size g cp (n + 1) (n + 1) ρ γ f ∧ (∀ x y, x ≤ y → y < n + 1 → f x y = orF fa fb (k + 1) 0 x y) ∧ Below w.heap.size w wr) := by
            refine ⟨HJ.out.1, fun x y hxy hy => ?_, HJ.out.2.2⟩
            rw [HJ.out.2.1 x y hxy hy]
            unfold orF
            congr 1
            rw [Bool.eq_iff_iff]; simp only [Bool.or_eq_true, Bool.and_eq_true, decide_eq_true_eq, beq_iff_eq]; omega
          go_wp2_with fail
          go_roundw
          case rel => exact ⟨k + 1, f, by omega, by go_num, HJ2.out⟩
          case measure => simp [intOf]; omega
    · obtain rfl : k = n + 1 := by omega
      have zk : ¬ ((n + 1 : Nat) : Int) < ((n + 1 : Nat) : Int) := by omega
      go_wp2_with fail
      go_ret
      refine ⟨g, cp, ρ, γ, f0, rfl, ⟨HJ0.out.1, fun i j hij hj => ?_⟩, HJ0.out.2.2⟩
      rw [HJ0.out.2.1 i j hij hj]
      have : i < n + 1 := by omega
      simp [orF, this]
end Go.Proofs.YtkidabedcgngcaaGreatDoor

