/-
  spec.l4Special, l4Parts, PrefixOf.
-/
import Derived.Test.YthkmecppjhcidaaSpF
import Derived.Test.YthkmecppjhcidaaSpE
import Derived.Test.YthkmecppjhcidaaPxI
namespace Go.Proofs.Ythkmecppjhcidaa
open Go.ChangeShapes Go.WideShapes Go.ChangeAt Go.RowKit Go.Deep
set_option linter.unusedVariables false
set_option linter.unusedSimpArgs false
set_option maxRecDepth 100000

set_option maxHeartbeats 8000000 in
theorem l4Special_core (c : UInt8) (w : World) : Calls Try.prog 39 #[.int .u8 (c.toNat : Int)] w fun e w' => e = .returned (.bool (decide (special c))) ∧ w' = w := by
  by_cases h42 : c = 42
  · subst h42
    go_enter Try.func39, Try.ntmps39
    go_wp2_with fail
    go_ret
    exact ⟨rfl, rfl⟩
  by_cases h43 : c = 43
  · subst h43
    go_enter Try.func39, Try.ntmps39
    go_wp2_with fail
    go_ret
    exact ⟨rfl, rfl⟩
  by_cases h63 : c = 63
  · subst h63
    go_enter Try.func39, Try.ntmps39
    go_wp2_with fail
    go_ret
    exact ⟨rfl, rfl⟩
  by_cases h124 : c = 124
  · subst h124
    go_enter Try.func39, Try.ntmps39
    go_wp2_with fail
    go_ret
    exact ⟨rfl, rfl⟩
  by_cases h40 : c = 40
  · subst h40
    go_enter Try.func39, Try.ntmps39
    go_wp2_with fail
    go_ret
    exact ⟨rfl, rfl⟩
  by_cases h41 : c = 41
  · subst h41
    go_enter Try.func39, Try.ntmps39
    go_wp2_with fail
    go_ret
    exact ⟨rfl, rfl⟩
  by_cases h91 : c = 91
  · subst h91
    go_enter Try.func39, Try.ntmps39
    go_wp2_with fail
    go_ret
    exact ⟨rfl, rfl⟩
  by_cases h93 : c = 93
  · subst h93
    go_enter Try.func39, Try.ntmps39
    go_wp2_with fail
    go_ret
    exact ⟨rfl, rfl⟩
  by_cases h46 : c = 46
  · subst h46
    go_enter Try.func39, Try.ntmps39
    go_wp2_with fail
    go_ret
    exact ⟨rfl, rfl⟩
  by_cases h92 : c = 92
  · subst h92
    go_enter Try.func39, Try.ntmps39
    go_wp2_with fail
    go_ret
    exact ⟨rfl, rfl⟩
  have z42 : ((c.toNat : Int) == 42) = false := beq_eq_false_iff_ne.2 (ne_u8 (c := 42) h42)
  have z43 : ((c.toNat : Int) == 43) = false := beq_eq_false_iff_ne.2 (ne_u8 (c := 43) h43)
  have z63 : ((c.toNat : Int) == 63) = false := beq_eq_false_iff_ne.2 (ne_u8 (c := 63) h63)
  have z124 : ((c.toNat : Int) == 124) = false := beq_eq_false_iff_ne.2 (ne_u8 (c := 124) h124)
  have z40 : ((c.toNat : Int) == 40) = false := beq_eq_false_iff_ne.2 (ne_u8 (c := 40) h40)
  have z41 : ((c.toNat : Int) == 41) = false := beq_eq_false_iff_ne.2 (ne_u8 (c := 41) h41)
  have z91 : ((c.toNat : Int) == 91) = false := beq_eq_false_iff_ne.2 (ne_u8 (c := 91) h91)
  have z93 : ((c.toNat : Int) == 93) = false := beq_eq_false_iff_ne.2 (ne_u8 (c := 93) h93)
  have z46 : ((c.toNat : Int) == 46) = false := beq_eq_false_iff_ne.2 (ne_u8 (c := 46) h46)
  have z92 : ((c.toNat : Int) == 92) = false := beq_eq_false_iff_ne.2 (ne_u8 (c := 92) h92)
  have H : Hid (decide (special c) = false) := decide_eq_false (fun q => by rcases q with ((q | q | q) | q | q | q) | q | q | q | q <;> contradiction)
  go_enter Try.func39, Try.ntmps39
  go_wp2_with fail
  go_ret
  exact ⟨by rw [H.out]; rfl, rfl⟩

/-- A list of strings of the call's own. -/
def OwnStr (w : World) (base g cp : Nat) (us : List Value) : Prop := w.ownsRow base 9 1 (.slice (some ⟨g, 0, none⟩) us.length cp) us.length us
theorem OwnStr.lt {w : World} {base g cp : Nat} {us : List Value} (h : OwnStr w base g cp us) : base ≤ g ∧ g < w.heap.size := World.ownsRow.lt h g rfl
theorem OwnStr.below {w w' : World} {base g cp : Nat} {us : List Value} (h : OwnStr w base g cp us) (hb : Below w.heap.size w w') : OwnStr w' base g cp us := own_chg h (Chg.of_below hb) (S := fun _ => False) (fun k q z => z)
theorem ownStr_new (w : World) {base : Nat} (hb : base ≤ w.heap.size) : OwnStr (w.alloc (Obj.cells #[] 9)) base w.heap.size 0 [] :=
  World.ownsRow_made w #[] 0 hb (Nat.zero_le _) (by simp)
theorem Try.infoStr : (Try.prog.info? 9).map (fun i => (i.zero, i.size, i.bytes)) = some (some (.string ⟨#[]⟩), 1, 16) := by kernel_rfl
/-- One string appended to a list of strings. -/
theorem wpList_append_str {ops : Array Oper} {rest : List Oper} {oo : Oper} {a : Act} {Q : Exit → Act → World → Prop} (w : World) (hgd : oo.guard = none) (s x : Operand)
    (ho : oo.op = .call { callee := .builtin .append, args := #[s, x], argTypes := #[68, 68] })
    (base gq cp n b : Nat) (us : List Value) (y : Value) (hs : a.eval s = .slice (some ⟨gq, 0, none⟩) n cp) (hx : a.eval x = .slice (some ⟨b, 0, none⟩) 1 1) (hn : n = us.length) (hO : OwnStr w base gq cp us)
    (hc : w.cell? ⟨b, 0, none⟩ = some y) (hy : y.oneCell' = true) (hlen : us.length ≤ 1000) (hbase : base ≤ w.heap.size)
    (h : ∀ g' cp' w', OwnStr w' base g' cp' (us ++ [y]) → w.grownBy w' (some gq) → (g' = gq ∨ g' = w.heap.size) → wpList Try.prog ops Q rest (a.put oo.dst (.slice (some ⟨g', 0, none⟩) (n + 1) cp')) w') : wpList Try.prog ops Q (oo :: rest) a w := by
  subst hn
  obtain ⟨i, hi, hz0, hz1, hz2⟩ := info_parts Try.infoStr
  refine wpList_append_own_at w hgd s x 68 ho base 9 i _ 1 16 Try.underlying68 hi hz0 hz1 hz2 rfl (by decide) (.slice (some ⟨gq, 0, none⟩) us.length cp) us.length us hs hO ⟨b, 0, none⟩ 1 1 [y] hx rfl ?_ ?_ ?_ ?_ hbase ?_
  · intro j u hu
    have hj : j = 0 := by have := (List.getElem?_eq_some_iff.1 hu).1; simpa using this
    subst hj
    simp at hu
    rw [Addr.add_mid, ← hu]; exact hc
  · intro u hu
    simp at hu; subst hu; exact hy
  · unfold maxLen; omega
  · omega
  · intro v' w' hO' hgr hnil hat
    rcases hO'.2 with ⟨h0, _⟩ | ⟨g', cap', cur, hv, _, _, hn, hcap, _, _⟩
    · have := (hnil.1 h0).1
      cases this
    · subst hv
      refine h g' cap' w' ?_ hgr ?_
      · unfold OwnStr
        rw [List.length_append]
        exact hO'
      · simp [Value.ownBlock] at hat
        exact hat
theorem tokn_le {A : List UInt8 → Pat → Prop} {k : Nat} {xs : List UInt8} (h : TokN A k xs) : k ≤ xs.length := by
  induction h with
  | nil => exact Nat.le_refl _
  | bar _ ih => simpa using ih
  | op _ _ ih => simp; omega
  | atom _ _ ih => simp; omega
structure PaJ (p : ByteArray) (n k : Nat) (w : World) (j m g cp : Nat) (us : List Value) (wr : World) : Prop where
  tok : TokN (AtomG n) m (cut (sb p) j p.size)
  cnt : us.length + m = k
  own : OwnStr wr w.heap.size g cp us
  below : Below w.heap.size w wr
theorem PaJ.move {p : ByteArray} {n k : Nat} {w : World} {j m g cp : Nat} {us : List Value} {wr w' : World} (h : PaJ p n k w j m g cp us wr) (hb : Below wr.heap.size wr w') {j' m' : Nat} (ht : TokN (AtomG n) m' (cut (sb p) j' p.size)) (hm : m = m') : PaJ p n k w j' m' g cp us w' :=
  ⟨ht, by rw [← hm]; exact h.cnt, h.own.below hb, h.below.trans (hb.mono h.below.size)⟩
set_option maxHeartbeats 8000000 in
theorem l4Parts_core {p : ByteArray} (hp : p.size ≤ 200) {n k : Nat} (h : TokN (AtomG n) k (cut (sb p) 0 p.size)) (w : World) : Calls Try.prog 37 #[.string p] w fun e w' => ∃ g cp, e = .returned (.slice (some ⟨g, 0, none⟩) (k + 1) cp) ∧ Below w.heap.size w w' := by
  have hkl : k ≤ 200 := by
    have h1 := tokn_le h
    rw [cut_len (by rw [sb_len]; exact Nat.le_refl _)] at h1
    omega
  have hsl : p.size ≤ (sb p).length := by rw [sb_len]; exact Nat.le_refl _
  have HSl : Hid (p.size ≤ (sb p).length) := hsl
  obtain ⟨W0, hW0⟩ : ∃ W0 : World, W0 = w.alloc (Obj.cells #[] 9) := ⟨_, rfl⟩
  have HW0 : Hid (PaJ p n k w 0 k w.heap.size 0 [] W0) := by
    rw [hW0]
    exact ⟨h, by simp, ownStr_new w (Nat.le_refl _), (Below.refl _ _).alloc (Nat.le_refl _) _⟩
  clear h hsl
  go_enter Try.func37, Try.ntmps37
  go_upto_region 2 with fail
  rw [← hW0]
  clear hW0
  go_wp2_with fail
  go_loopw [3, 4, 5] (fun o fv jv wr => ∃ (j f m g cp : Nat) (us : List Value), jv = .int .i64 (j : Int) ∧ fv = .int .i64 (f : Int) ∧ f ≤ j ∧ j ≤ p.size ∧ us.length ≤ k ∧ o = .slice (some ⟨g, 0, none⟩) us.length cp ∧ PaJ p n k w j m g cp us wr) (fun _ _ jv _ => p.size - (intOf jv).toNat)
  case atStart => exact ⟨0, 0, k, _, 0, [], rfl, rfl, Nat.le_refl _, Nat.zero_le _, Nat.zero_le _, rfl, HW0.out⟩
  case round =>
    obtain ⟨j, f, m, g, cp, us, rfl, rfl, hfj, hjp, hul, rfl, hJ⟩ := hrel
    have HJ : Hid (PaJ p n k w j m g cp us wr) := hJ
    have hgl := hJ.own.lt
    have hsz := hJ.below.size
    clear hJ HW0
    have z1 : (f : Int) ≤ (j : Int) := by omega
    have z2 : (j : Int) ≤ (p.size : Int) := by omega
    by_cases hlt : j < p.size
    · have zj : (j : Int) < (p.size : Int) := by omega
      rcases tokn_step HJ.out.tok with ⟨h0, _⟩ | ⟨m', zs, h0, hm, hT⟩ | ⟨c, zs, h0, hop, hT⟩ | ⟨ys, zs, t, h0, hA, hT⟩
      · have h3 := cut_len (p := sb p) (i := j) HSl.out
        rw [h0] at h3
        simp at h3
        omega
      · obtain ⟨hpj, hcj, _⟩ := cut_head h0 HSl.out
        obtain ⟨_, gj⟩ := sb_get hpj
        have HT : Hid (TokN (AtomG n) m' (cut (sb p) (j + 1) p.size) ∧ m = m' + 1) := ⟨by rw [hcj]; exact hT, hm⟩
        clear h0 hT hm hpj hcj
        go_wp2_with (at_builtin; refine wpList_append_str _ rfl _ _ rfl w.heap.size g cp us.length wr.heap.size us (.string (p.extract f j)) rfl rfl rfl ?hO ?hc ?hy ?hl ?hb ?_)
        case hO => exact HJ.out.own.below ((Below.refl _ _).alloc (Nat.le_refl _) _)
        case hc => simp
        case hy => rfl
        case hl => omega
        case hb => simp; omega
        intro g' cp' w' hO' hgr hat
        have HJ2 : Hid (∃ y, PaJ p n k w (j + 1) m' g' cp' (us ++ [y]) w' ∧ us.length + 1 ≤ k) := by
          refine ⟨_, ⟨HT.out.1, by have := HJ.out.cnt; have := HT.out.2; simp; omega, hO', ?_⟩, by have := HJ.out.cnt; have := HT.out.2; omega⟩
          exact (HJ.out.below.trans ((Below.refl _ _).alloc hsz _)).grown hgr (by simp; omega) (fun j hj => by cases hj; omega)
        clear hO' hgr hat
        obtain ⟨y, hJ2, hk2⟩ := HJ2.out
        have HJ3 : Hid (PaJ p n k w (j + 1) m' g' cp' (us ++ [y]) w') := hJ2
        clear hJ2 HJ2
        go_wp2_with fail
        go_roundw
        case rel => exact ⟨j + 1, j + 1, m', g', cp', us ++ [y], by go_num, by go_num, Nat.le_refl _, by omega, by simp; omega, by simp, HJ3.out⟩
        case measure => simp [intOf]; omega
      · obtain ⟨hpj, hcj, _⟩ := cut_head h0 HSl.out
        obtain ⟨_, gj⟩ := sb_get hpj
        have HT : Hid (TokN (AtomG n) m (cut (sb p) (j + 1) p.size)) := by
          show TokN (AtomG n) m (cut (sb p) (j + 1) p.size)
          rw [hcj]; exact hT
        have z124 : ((c.toNat : Int) == 124) = false := beq_eq_false_iff_ne.2 (ne_u8 (c := 124) (fun q => by subst q; exact absurd hop (by decide)))
        have HOp : Hid (Calls Try.prog 34 #[.int .u8 (c.toNat : Int)] wr fun e w' => e = .returned (.bool true) ∧ w' = wr) := by
          have := l4Op_core c wr
          rw [decide_eq_true hop] at this
          exact this
        clear h0 hT hpj hcj hop
        go_wp2_with fail
        refine HOp.out.mono ?_
        rintro e' w5 ⟨rfl, hw5⟩
        rw [hw5]
        clear hw5
        go_wp2_with fail
        go_roundw
        case rel => exact ⟨j + 1, f, m, g, cp, us, by go_num, rfl, by omega, by omega, hul, rfl, HJ.out.move (Below.refl _ _) HT.out rfl⟩
        case measure => simp [intOf]; omega
      · obtain ⟨hy1, hy2, hy3⟩ := cut_two h0 HSl.out
        obtain ⟨c, yt, hyc, n41, n124, nop⟩ := hA.first
        have hylen : 0 < ys.length := by rw [hyc]; simp
        have hje2 : j + ys.length ≤ p.size := by omega
        obtain ⟨hpj, _, _⟩ := cut_head (c := c) (zs := yt) (by rw [hy1]; exact hyc) (by rw [sb_len]; omega)
        obtain ⟨_, gj⟩ := sb_get hpj
        have z124 : ((c.toNat : Int) == 124) = false := beq_eq_false_iff_ne.2 (ne_u8 (c := 124) n124)
        have HOp : Hid (Calls Try.prog 34 #[.int .u8 (c.toNat : Int)] wr fun e w' => e = .returned (.bool false) ∧ w' = wr) := by
          have := l4Op_core c wr
          rw [decide_eq_false nop] at this
          exact this
        obtain ⟨i2, hi2⟩ : ∃ i2, i2 = j + ys.length := ⟨_, rfl⟩
        have HT : Hid (TokN (AtomG n) m (cut (sb p) i2 p.size)) := by
          show TokN (AtomG n) m (cut (sb p) i2 p.size)
          rw [hi2, hy2]; exact hT
        have HCall : Hid (Calls Try.prog 38 #[.string p, .int .i64 (j : Int)] wr fun e w' => e = .returned (.int .i64 (i2 : Int)) ∧ Below wr.heap.size wr w') := by
          rw [hi2]
          exact end_all hp n j (j + ys.length) t wr (by rw [hy1]; exact hA) (by omega)
        have hj2 : j < i2 := by omega
        have hj3 : i2 ≤ p.size := by omega
        clear h0 hT hA hy1 hy2 hy3 hyc hpj n41 n124 nop hi2 hylen hje2
        go_wp2_with fail
        refine HOp.out.mono ?_
        rintro e' w5 ⟨rfl, hw5⟩
        rw [hw5]
        clear hw5
        go_wp2_with fail
        refine HCall.out.mono ?_
        rintro e' w6 ⟨rfl, hb6⟩
        have HJ6 : Hid (PaJ p n k w i2 m g cp us w6) := HJ.out.move hb6 HT.out rfl
        clear hb6
        go_wp2_with fail
        go_roundw
        case rel => exact ⟨i2, f, m, g, cp, us, rfl, rfl, by omega, by omega, hul, rfl, HJ6.out⟩
        case measure => simp [intOf]; omega
    · have zj : ¬ (j : Int) < (p.size : Int) := by omega
      obtain rfl : j = p.size := by omega
      have hm0 : m = 0 := by
        rcases tokn_step HJ.out.tok with ⟨_, h0⟩ | ⟨m', zs, h0, hm, hT⟩ | ⟨c, zs, h0, hop, hT⟩ | ⟨ys, zs, t, h0, hA, hT⟩
        · exact h0
        · rw [cut_nil] at h0; cases h0
        · rw [cut_nil] at h0; cases h0
        · rw [cut_nil] at h0
          obtain ⟨c, yt, hyc, _⟩ := hA.first
          rw [hyc] at h0
          cases h0
      have HM : Hid (us.length = k) := by
        have := HJ.out.cnt
        show us.length = k
        omega
      go_wp2_with (at_builtin; refine wpList_append_str _ rfl _ _ rfl w.heap.size g cp us.length wr.heap.size us (.string (p.extract f p.size)) rfl rfl rfl ?hO ?hc ?hy ?hl ?hb ?_)
      case hO => exact HJ.out.own.below ((Below.refl _ _).alloc (Nat.le_refl _) _)
      case hy => rfl
      case hl => omega
      case hb => first | omega | (simp; omega)
      intro g' cp' w' hO' hgr hat
      have HB : Hid (Below w.heap.size w w') := (HJ.out.below.trans ((Below.refl _ _).alloc hsz _)).grown hgr (by simp; omega) (fun j hj => by cases hj; omega)
      clear hO' hgr hat
      go_wp2_with fail
      go_ret
      refine ⟨g', cp', ?_, HB.out⟩
      rw [← HM.out]
      first | rfl | trace_state
end Go.Proofs.Ythkmecppjhcidaa
