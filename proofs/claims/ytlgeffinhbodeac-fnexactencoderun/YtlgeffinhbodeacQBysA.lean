/-
  Bytes of the call's own; append; l2Num, l2Cat, l2Str, l2Fixed, l2Shared.
-/
import Derived.Test.YtlgeffinhbodeacQBys
import Derived.Test.YtlgeffinhbodeacQChg
import Derived.Maps.AppendAt
import Derived.Lib.ConvBytes
namespace Go.Proofs.Ytlgeffinhbodeac
open Go.ChangeShapes Go.WideShapes Go.ChangeAt Go.RowKit Go.Deep
set_option linter.unusedVariables false
set_option linter.unusedSimpArgs false
set_option maxRecDepth 100000

/-- A row of bytes of the call's own. -/
def OwnY (w : World) (base g cp : Nat) (xs : List UInt8) : Prop := w.ownsRow base 5 1 (.slice (some ⟨g, 0, none⟩) xs.length cp) xs.length (xs.map ub)
theorem OwnY.lt {w : World} {base g cp : Nat} {xs : List UInt8} (h : OwnY w base g cp xs) : base ≤ g ∧ g < w.heap.size := World.ownsRow.lt h g rfl
theorem OwnY.chg {S : Nat → Prop} {w w' : World} {base g cp : Nat} {xs : List UInt8} (h : OwnY w base g cp xs) (hc : Chg S w w') (hn : ¬ S g) : OwnY w' base g cp xs := own_chg h hc (fun k q => by simp [Value.ownBlock] at q; subst q; exact hn)
theorem OwnY.below {w w' : World} {base g cp : Nat} {xs : List UInt8} (h : OwnY w base g cp xs) (hb : Below w.heap.size w w') : OwnY w' base g cp xs := h.chg (Chg.of_below hb) (S := fun _ => False) (fun q => q)
theorem OwnY.at {w : World} {base g cp : Nat} {xs : List UInt8} (h : OwnY w base g cp xs) : BysAt w g 0 xs := by
  intro k x hx
  have hk := (List.getElem?_eq_some_iff.1 hx).1
  rw [Nat.zero_add, World.ownsRow.cellAt h k (by omega), List.getElem?_map, hx]; rfl
theorem OwnY.caps {w : World} {base g cp : Nat} {xs : List UInt8} (h : OwnY w base g cp xs) : xs.length ≤ cp ∧ cp ≤ maxLen := by
  rcases h.2 with ⟨h0, _⟩ | ⟨g', cap', cur, hv, _, _, hn, hcap, _, _⟩
  · cases h0
  · simp only [Value.slice.injEq, Option.some.injEq, Addr.mk.injEq, and_true, true_and] at hv
    obtain ⟨rfl, rfl⟩ := hv
    exact ⟨hn, hcap⟩
theorem OwnY.mono {w : World} {base base' g cp : Nat} {xs : List UInt8} (h : OwnY w base g cp xs) (hb : base' ≤ base) : OwnY w base' g cp xs := by
  refine ⟨h.1, ?_⟩
  rcases h.2 with hn | ⟨g', cap', cur, hv, h1, rest⟩
  · exact .inl hn
  · exact .inr ⟨g', cap', cur, hv, Nat.le_trans hb h1, rest⟩
theorem ub_one (xs : List UInt8) : ∀ u ∈ xs.map ub, u.oneCell' = true := by
  intro u hu
  obtain ⟨r, _, rfl⟩ := List.mem_map.1 hu
  rfl
theorem Try.infoByte : (Try.prog.info? 5).map (fun i => (i.zero, i.size, i.bytes)) = some (some (.int .u8 0), 1, 1) := by kernel_rfl
/-- Bytes appended to a row of the call's own. -/
theorem wpList_append_bys {ops : Array Oper} {rest : List Oper} {o : Oper} {a : Act} {Q : Exit → Act → World → Prop} (w : World) (hgd : o.guard = none) (s x : Operand)
    (ho : o.op = .call { callee := .builtin .append, args := #[s, x], argTypes := #[47, 47] })
    (base g cp n b off m cx : Nat) (l k : List UInt8) (hs : a.eval s = .slice (some ⟨g, 0, none⟩) n cp) (hx : a.eval x = .slice (some ⟨b, off, none⟩) m cx) (hn : n = l.length) (hm : m = k.length) (hO : OwnY w base g cp l)
    (hc : BysAt w b off k) (hlen : l.length + k.length ≤ 2 ^ 30) (hbase : base ≤ w.heap.size)
    (h : ∀ g' cp' w', OwnY w' base g' cp' (l ++ k) → w.grownBy w' (some g) → (g' = g ∨ g' = w.heap.size) → wpList Try.prog ops Q rest (a.put o.dst (.slice (some ⟨g', 0, none⟩) (n + m) cp')) w') : wpList Try.prog ops Q (o :: rest) a w := by
  subst hn hm
  obtain ⟨i, hi, hz0, hz1, hz2⟩ := info_parts Try.infoByte
  refine wpList_append_own_at w hgd s x 47 ho base 5 i _ 1 1 Try.underlying47 hi hz0 hz1 hz2 rfl (by decide) (.slice (some ⟨g, 0, none⟩) l.length cp) l.length (l.map ub) hs hO ⟨b, off, none⟩ k.length cx (k.map ub) hx (by simp) ?_ (ub_one k) ?_ ?_ hbase ?_
  · intro j u hu
    rw [List.getElem?_map] at hu
    cases hk : k[j]? with
    | none => rw [hk] at hu; cases hu
    | some r =>
      rw [hk] at hu
      simp at hu
      rw [Addr.add_mid, hc j r hk, ← hu]
  · unfold maxLen; omega
  · omega
  · intro v' w' hO' hgr hnil hat
    rcases hO'.2 with ⟨h0, _⟩ | ⟨g', cap', cur, hv, _, _, hn, hcap, _, _⟩
    · have := (hnil.1 h0).1
      cases this
    · subst hv
      refine h g' cap' w' ?_ hgr ?_
      · unfold OwnY
        rw [List.length_append, List.map_append]
        exact hO'
      · simp [Value.ownBlock] at hat
        exact hat
theorem ownY_new (w : World) {base : Nat} (hb : base ≤ w.heap.size) : OwnY (w.alloc (Obj.cells #[] 5)) base w.heap.size 0 [] :=
  World.ownsRow_made w #[] 0 hb (Nat.zero_le _) (by simp)
theorem ownY_one (w : World) {base : Nat} (hb : base ≤ w.heap.size) (x : UInt8) {v : Int} (hv : v = (x.toNat : Int)) : OwnY (w.alloc (Obj.cells #[.int .u8 v] 5)) base w.heap.size 1 [x] := by
  subst hv
  exact World.ownsRow_lit w #[ub x] 1 hb (by decide) rfl

set_option maxHeartbeats 2000000 in
theorem l2Num_core : ∀ (f n : Nat) (w : World), n < 128 ^ (f + 1) → n < 2 ^ 64 →
    Calls Try.prog 91 #[.int .u64 (n : Int)] w fun e w' => ∃ g cp, e = .returned (.slice (some ⟨g, 0, none⟩) (num n).length cp) ∧ OwnY w' w.heap.size g cp (num n) ∧ Below w.heap.size w w' := by
  intro f
  induction f with
  | zero =>
    intro n w h1 h2
    have hs : (n : Int) < 128 := by simp at h1; omega
    go_enter Try.func91, Try.ntmps91
    go_wp2_with fail
    go_ret
    refine ⟨w.heap.size, 1, ?_, ?_, (Below.refl _ _).alloc (Nat.le_refl _) _⟩
    · rw [num_small (by omega)]; rfl
    · rw [num_small (by omega)]
      exact ownY_one w (Nat.le_refl _) _ (by rw [byt_nat (by omega)])
  | succ f ih =>
    intro n w h1 h2
    by_cases hs : (n : Int) < 128
    · go_enter Try.func91, Try.ntmps91
      go_wp2_with fail
      go_ret
      refine ⟨w.heap.size, 1, ?_, ?_, (Below.refl _ _).alloc (Nat.le_refl _) _⟩
      · rw [num_small (by omega)]; rfl
      · rw [num_small (by omega)]
        exact ownY_one w (Nat.le_refl _) _ (by rw [byt_nat (by omega)])
    · go_enter Try.func91, Try.ntmps91
      obtain ⟨W1, hW1⟩ : ∃ W1 : World, W1 = w.alloc (Obj.cells #[.int .u8 (128 + (n : Int) % 128)] 5) := ⟨_, rfl⟩
      have hb1 : Below w.heap.size w W1 := by rw [hW1]; exact (Below.refl _ _).alloc (Nat.le_refl _) _
      have hz1 : W1.heap.size = w.heap.size + 1 := by rw [hW1]; simp
      have HO1 : Hid (OwnY W1 w.heap.size w.heap.size 1 [byt (128 + n % 128)]) := by
        rw [hW1]
        exact ownY_one w (Nat.le_refl _) _ (by rw [byt_nat (by omega)]; omega)
      go_wp2_with fail
      rw [← hW1]
      clear hW1
      have hc := ih (n / 128) W1 (by rw [Nat.div_lt_iff_lt_mul (by omega), ← Nat.pow_succ]; exact h1) (by omega)
      rw [show ((n / 128 : Nat) : Int) = (n : Int) / 128 by omega] at hc
      refine hc.mono ?_
      rintro e w2 ⟨g, cp, rfl, hO2, hb2⟩
      have hl := num_len64 (n := n / 128) (by omega)
      have hg := hO2.lt
      have HO2 : Hid (OwnY w2 W1.heap.size g cp (num (n / 128)) ∧ OwnY w2 w.heap.size w.heap.size 1 [byt (128 + n % 128)]) := ⟨hO2, HO1.out.below hb2⟩
      have s2 := hb2.size
      clear hc hO2
      go_wp2_with (at_builtin; refine wpList_append_bys _ rfl _ _ rfl w.heap.size w.heap.size 1 1 g 0 _ cp [byt (128 + n % 128)] (num (n / 128)) rfl rfl rfl rfl ?hO ?hc ?hl ?hb ?_)
      case hO => exact HO2.out.2
      case hc => exact HO2.out.1.at
      case hl => simp; omega
      case hb => omega
      intro g' cp' w3 hO' hgr hat
      go_wp2_with fail
      go_ret
      refine ⟨g', cp', ?_, ?_, (hb1.trans (hb2.mono (by omega))).grown hgr (by omega) (fun j hj => by cases hj; omega)⟩
      · rw [num_large (n := n) (by omega), List.length_cons]
        first | rfl | (rw [Nat.add_comm]; rfl)
      · rw [num_large (n := n) (by omega)]
        exact hO'
theorem l2Num_all (n : Nat) (w : World) (h : n < 2 ^ 64) :
    Calls Try.prog 91 #[.int .u64 (n : Int)] w fun e w' => ∃ g cp, e = .returned (.slice (some ⟨g, 0, none⟩) (num n).length cp) ∧ OwnY w' w.heap.size g cp (num n) ∧ Below w.heap.size w w' :=
  l2Num_core 9 n w (Nat.lt_trans h (by decide)) h

set_option maxHeartbeats 1000000 in
theorem l2Fixed_core (n : Nat) (w : World) (h : n < 2 ^ 32) :
    Calls Try.prog 93 #[.int .u32 (n : Int)] w fun e w' => ∃ g, e = .returned (.slice (some ⟨g, 0, none⟩) 4 4) ∧ OwnY w' w.heap.size g 4 (fixed n) ∧ Below w.heap.size w w' := by
  go_enter Try.func93, Try.ntmps93
  go_wp2_with fail
  go_ret
  refine ⟨w.heap.size, rfl, ?_, (Below.refl _ _).alloc (Nat.le_refl _) _⟩
  have e0 : (n : Int) % 256 = ((byt (n % 256)).toNat : Int) := by rw [byt_nat (by omega)]; omega
  have e1 : (n : Int) / 256 % 256 = ((byt (n / 256 % 256)).toNat : Int) := by rw [byt_nat (by omega)]; omega
  have e2 : (n : Int) / 65536 % 256 = ((byt (n / 65536 % 256)).toNat : Int) := by rw [byt_nat (by omega)]; omega
  have e3 : (n : Int) / 16777216 = ((byt (n / 16777216 % 256)).toNat : Int) := by rw [byt_nat (by omega)]; omega
  rw [e0, e1, e2, e3]
  exact World.ownsRow_lit w #[ub (byt (n % 256)), ub (byt (n / 256 % 256)), ub (byt (n / 65536 % 256)), ub (byt (n / 16777216 % 256))] 4 (Nat.le_refl _) (by decide) rfl

set_option maxHeartbeats 1000000 in
theorem l2Cat_core (b off cap b' off' cap' : Nat) (xs ys : List UInt8) (w : World) (h : BysAt w b off xs) (h' : BysAt w b' off' ys) (hb : b < w.heap.size) (hb' : b' < w.heap.size) (hl : xs.length + ys.length ≤ 2 ^ 30) :
    Calls Try.prog 121 #[.slice (some ⟨b, off, none⟩) xs.length cap, .slice (some ⟨b', off', none⟩) ys.length cap'] w fun e w' => ∃ g cp, e = .returned (.slice (some ⟨g, 0, none⟩) (xs ++ ys).length cp) ∧ OwnY w' w.heap.size g cp (xs ++ ys) ∧ Below w.heap.size w w' := by
  obtain ⟨W1, hW1⟩ : ∃ W1 : World, W1 = w.alloc (Obj.cells #[] 5) := ⟨_, rfl⟩
  have hb1 : Below w.heap.size w W1 := by rw [hW1]; exact (Below.refl _ _).alloc (Nat.le_refl _) _
  have hz1 : W1.heap.size = w.heap.size + 1 := by rw [hW1]; simp
  have HO1 : Hid (OwnY W1 w.heap.size w.heap.size 0 [] ∧ BysAt W1 b off xs ∧ BysAt W1 b' off' ys) := by
    refine ⟨?_, h.below hb1 hb, h'.below hb1 hb'⟩
    rw [hW1]; exact ownY_new w (Nat.le_refl _)
  clear h h'
  go_enter Try.func121, Try.ntmps121
  go_wp2_with (at_builtin; rw [← hW1]; refine wpList_append_bys _ rfl _ _ rfl w.heap.size w.heap.size 0 0 b off _ cap [] xs rfl rfl rfl rfl ?hO ?hc ?hl ?hb ?_)
  case hO => exact HO1.out.1
  case hc => exact HO1.out.2.1
  case hl => simp; omega
  case hb => omega
  intro g2 cp2 w2 hO2 hgr2 hat2
  rw [← hW1] at hgr2
  have hb2 : Below w.heap.size w w2 := hb1.grown hgr2 (by omega) (fun j hj => by cases hj; omega)
  have hcg : Chg (fun k => k = w.heap.size) W1 w2 := Chg.of_grown hgr2 (fun k hk => by cases hk; rfl)
  have HO2 : Hid (OwnY w2 w.heap.size g2 cp2 xs ∧ BysAt w2 b' off' ys) := ⟨hO2, fun i x hx => by rw [hb2.cell (p := ⟨b', off' + i, none⟩) hb', ← hb1.cell (p := ⟨b', off' + i, none⟩) hb']; exact HO1.out.2.2 i x hx⟩
  have s2 := hb2.size
  clear hO2 hgr2 hat2 hW1 hcg
  go_wp2_with (at_builtin; refine wpList_append_bys _ rfl _ _ rfl w.heap.size g2 cp2 _ b' off' _ cap' xs ys rfl rfl rfl rfl ?hO ?hc ?hl ?hb ?_)
  case hO => exact HO2.out.1
  case hc => exact HO2.out.2
  case hl => omega
  case hb => omega
  intro g3 cp3 w3 hO3 hgr3 hat3
  go_wp2_with fail
  go_ret
  refine ⟨g3, cp3, ?_, hO3, hb2.grown hgr3 (by omega) (fun j hj => by cases hj; exact HO2.out.1.lt.1)⟩
  rw [List.length_append]
  rfl
end Go.Proofs.Ytlgeffinhbodeac
