/-
  spec.l5Digits, l5Quote.
-/
import Derived.Test.YtgnpcenpcmdlfaaGreatDoorZkAH
import Derived.Test.YtgnpcenpcmdlfaaGreatDoorZkAC
import Derived.Deep.RegionHeld3
namespace Go.Proofs.YtgnpcenpcmdlfaaGreatDoor
open Go.ChangeShapes Go.WideShapes Go.ChangeAt Go.RowKit Go.Deep
set_option linter.unusedVariables false
set_option linter.unusedSimpArgs false
set_option maxRecDepth 100000

set_option maxHeartbeats 2000000 in
theorem l5Digits_core : ∀ (f n : Nat) (w : World), n < 10 ^ (f + 1) → n < 2 ^ 64 →
    Calls Tryz.prog 111 #[.int .u64 (n : Int)] w fun e w' => ∃ g cp, e = .returned (.slice (some ⟨g, 0, none⟩) (Lib.decDigits n).length cp) ∧ OwnY w' w.heap.size g cp (Lib.decDigits n) ∧ Below w.heap.size w w' := by
  intro f
  induction f with
  | zero =>
    intro n w h1 h2
    have hs : (n : Int) < 10 := by simp at h1; omega
    have hD : Hid (Lib.decDigits n = [UInt8.ofNat (48 + n)]) := by show Lib.decDigits n = _; rw [Lib.decDigits, dif_pos (by omega)]
    go_enter Tryz.func111, Tryz.ntmps111
    go_wp2_with fail
    go_ret
    refine ⟨w.heap.size, 1, ?_, ?_, (Below.refl _ _).alloc (Nat.le_refl _) _⟩
    · rw [hD.out]; rfl
    · rw [hD.out]
      exact ownY_one w (Nat.le_refl _) _ (by rw [UInt8.toNat_ofNat']; omega)
  | succ f ih =>
    intro n w h1 h2
    by_cases hs : (n : Int) < 10
    · have hD : Hid (Lib.decDigits n = [UInt8.ofNat (48 + n)]) := by show Lib.decDigits n = _; rw [Lib.decDigits, dif_pos (by omega)]
      go_enter Tryz.func111, Tryz.ntmps111
      go_wp2_with fail
      go_ret
      refine ⟨w.heap.size, 1, ?_, ?_, (Below.refl _ _).alloc (Nat.le_refl _) _⟩
      · rw [hD.out]; rfl
      · rw [hD.out]
        exact ownY_one w (Nat.le_refl _) _ (by rw [UInt8.toNat_ofNat']; omega)
    · obtain ⟨d, hd⟩ : ∃ d : UInt8, d = UInt8.ofNat (48 + n % 10) := ⟨_, rfl⟩
      have hdn : Hid (48 + (n : Int) % 10 = (d.toNat : Int)) := by show _ = _; rw [hd, UInt8.toNat_ofNat']; omega
      have hD : Hid (Lib.decDigits n = Lib.decDigits (n / 10) ++ [d]) := by show Lib.decDigits n = _; rw [Lib.decDigits, dif_neg (by omega), hd]
      clear hd
      have hc := ih (n / 10) w (by rw [Nat.div_lt_iff_lt_mul (by omega), ← Nat.pow_succ]; exact h1) (by omega)
      rw [show ((n / 10 : Nat) : Int) = (n : Int) / 10 by omega] at hc
      have hl := dec64_len (n := n / 10) (by omega)
      go_enter Tryz.func111, Tryz.ntmps111
      go_wp2_with fail
      refine hc.mono ?_
      rintro e w2 ⟨g, cp, rfl, hO2, hb2⟩
      obtain ⟨W1, hW1⟩ : ∃ W1 : World, W1 = w2.alloc (Obj.cells #[.int .u8 (48 + (n : Int) % 10)] 5) := ⟨_, rfl⟩
      have hb1 : Below w2.heap.size w2 W1 := by rw [hW1]; exact (Below.refl _ _).alloc (Nat.le_refl _) _
      have s2 := hb2.size
      have s1 := hb1.size
      have HO1 : Hid (OwnY W1 w2.heap.size w2.heap.size 1 [d] ∧ OwnY W1 w.heap.size g cp (Lib.decDigits (n / 10))) := by
        refine ⟨?_, hO2.below hb1⟩
        rw [hW1]
        exact ownY_one w2 (Nat.le_refl _) _ hdn.out
      have HB : Hid (Below w.heap.size w W1) := hb2.trans (hb1.mono s2)
      clear hc hO2 hb1 hb2
      go_wp2_with (at_builtin; (try rw [← hW1]); refine wpList_append_bys _ rfl _ _ rfl w.heap.size g cp _ w2.heap.size 0 1 1 (Lib.decDigits (n / 10)) [d] rfl rfl rfl rfl ?hO ?hc ?hl ?hb ?_)
      case hO => exact HO1.out.2
      case hc => exact HO1.out.1.at
      case hl => simp; omega
      case hb => omega
      intro g' cp' w3 hO' hgr hat
      have hgr2 : W1.grownBy w3 (some g) := by first | exact hgr | (rw [hW1]; exact hgr)
      clear hgr hW1
      go_wp2_with fail
      go_ret
      refine ⟨g', cp', ?_, ?_, HB.out.grown hgr2 (by omega) (fun j hj => by cases hj; exact HO1.out.2.lt.1)⟩
      · rw [hD.out, List.length_append]; rfl
      · rw [hD.out]; exact hO'
theorem l5Digits_all (n : Nat) (w : World) (h : n < 2 ^ 64) :
    Calls Tryz.prog 111 #[.int .u64 (n : Int)] w fun e w' => ∃ g cp, e = .returned (.slice (some ⟨g, 0, none⟩) (Lib.decDigits n).length cp) ∧ OwnY w' w.heap.size g cp (Lib.decDigits n) ∧ Below w.heap.size w w' :=
  l5Digits_core 19 n w (Nat.lt_trans h (by decide)) h
theorem bl_get {s : ByteArray} {k : Nat} (h : k < s.size) {x : UInt8} (hx : (bl s)[k]? = some x) : s[k] = x := by
  have := hx
  rw [List.getElem?_eq_getElem (by rw [bl_len]; exact h)] at this
  exact Option.some.inj this
/-- The bytes of a row that has just been made. -/
theorem bys_new (w : World) (cs : Array Value) (xs : List UInt8) (h : cs.toList = xs.map ub) : BysAt (w.alloc (Obj.cells cs 5)) w.heap.size 0 xs := by
  intro i x hx
  rw [cell_of_row _ _ _ _ _ _ (heap_alloc_last w _), Nat.zero_add]
  rw [← Array.getElem?_toList, h, List.getElem?_map, hx]
  rfl
theorem bys_mark (w : World) (cs : Array Value) (xs : List UInt8) (fz : Nat × Nat) (h : cs.toList = xs.map ub) : BysAt (w.alloc (Obj.cells cs 5 fz)) w.heap.size 0 xs := by
  intro i x hx
  rw [cell_of_row _ _ _ _ _ _ (heap_alloc_last w _), Nat.zero_add]
  rw [← Array.getElem?_toList, h, List.getElem?_map, hx]
  rfl
/-- A digit of sixteen, off the constant. -/
theorem hex_at : ∀ (d : Nat) (h : d < 16), (⟨#[48, 49, 50, 51, 52, 53, 54, 55, 56, 57, 97, 98, 99, 100, 101, 102]⟩ : ByteArray)[d]'h = hexB d := by
  intro d h
  have : ∀ d : Fin 16, (⟨#[48, 49, 50, 51, 52, 53, 54, 55, 56, 57, 97, 98, 99, 100, 101, 102]⟩ : ByteArray)[d.val]'d.isLt = hexB d.val := by decide
  exact this ⟨d, h⟩
theorem wrap_div16 (x : UInt8) : IntKind.u8.wrap ((x.toNat : Int) / 16) = ((x.toNat / 16 : Nat) : Int) := by
  have := x.toNat_lt
  simp only [IntKind.wrap, IntKind.bits, IntKind.signed, Bool.false_and, Bool.false_eq_true, if_false]
  omega
theorem tmod16 (x : UInt8) : (x.toNat : Int).tmod 16 = ((x.toNat % 16 : Nat) : Int) := by
  rw [Int.tmod_eq_emod_of_nonneg (by omega)]; omega
set_option maxHeartbeats 4000000 in
theorem l5Quote_core (s : ByteArray) (w : World) (hs : s.size ≤ 1000000) :
    Calls Tryz.prog 110 #[.string s] w fun e w' => ∃ g cp, e = .returned (.slice (some ⟨g, 0, none⟩) (quoM (bl s)).length cp) ∧ WrB w' w.heap.size g cp (quoM (bl s)) ∧ Below w.heap.size w w' := by
  have kc := fun (w : World) (C : Array Value) (n c : Nat) => Lib.run_convert_bytes_const (P := Tryz.prog) w 22 5 C n c Tryz.underlying22 Tryz.underlying5
  obtain ⟨W1, hW1⟩ : ∃ W1 : World, W1 = w.alloc (Obj.cells #[.int .u8 34] 5 (1, 2)) := ⟨_, rfl⟩
  have hb1 : Below w.heap.size w W1 := by rw [hW1]; exact (Below.refl _ _).alloc (Nat.le_refl _) _
  have z1 : w.heap.size < W1.heap.size := by rw [hW1]; simp
  have HO1 : Hid (WrB W1 w.heap.size w.heap.size 1 [34] ∧ Below w.heap.size w W1) := by
    refine ⟨WrB.full (xs := [34]) (Nat.le_refl _) z1 ?_ (by simp), hb1⟩
    rw [hW1]
    exact bys_mark w _ [34] _ rfl
  clear hb1
  go_enter Tryz.func110, Tryz.ntmps110
  go_upto_region 2 with fail
  rw [← hW1]
  clear hW1 kc
  go_wp2_with fail
  go_loopw [3, 4] (fun o iv wr => ∃ (k g cp n : Nat) (X : List UInt8), k ≤ s.size ∧ iv = .int .i64 k ∧ o = .slice (some ⟨g, 0, none⟩) n cp ∧ n = X.length ∧ n ≤ 4 * k + 1 ∧ Hid (X = [34] ++ quoL ((bl s).take k)) ∧ WrB wr w.heap.size g cp X ∧ Below w.heap.size w wr) (fun _ iv _ => s.size - (intOf iv).toNat)
  case atStart => exact ⟨0, _, 1, 1, [34], Nat.zero_le _, rfl, rfl, rfl, by omega, rfl, HO1.out.1, HO1.out.2⟩
  case round =>
    clear HO1
    obtain ⟨k, g, cp, n, X, hk, rfl, rfl, hn, hn4, HX, hW, hb⟩ := hrel
    have HW : Hid (WrB wr w.heap.size g cp X ∧ Below w.heap.size w wr ∧ n = X.length) := ⟨hW, hb, hn⟩
    have hgl := hW.lt
    have hge := hW.le
    have sr := hb.size
    clear hW hb hn
    by_cases hlt : k < s.size
    · have z : (k : Int) < (s.size : Int) := by omega
      obtain ⟨x, hx⟩ : ∃ x, (bl s)[k]? = some x := ⟨_, List.getElem?_eq_getElem (by rw [bl_len]; exact hlt)⟩
      have gx := bl_get hlt hx
      have HX2 : Hid ([34] ++ quoL ((bl s).take (k + 1)) = X ++ qByte x) := by
        show _ = _
        rw [List.take_add_one, hx, HX.out, Option.toList, quoL_snoc, List.append_assoc]
      have hx8 : x.toNat < 256 := x.toNat_lt
      clear hx
      by_cases h34 : x.toNat = 34
      · obtain rfl : x = 34 := UInt8.toNat_inj.1 h34
        have HQ : Hid (qByte 34 = [92, 34]) := by show _ = _; decide
        obtain ⟨W2, hW2⟩ : ∃ W2 : World, W2 = wr.alloc (Obj.cells #[.int .u8 92, .int .u8 34] 5) := ⟨_, rfl⟩
        have hb2 : Below wr.heap.size wr W2 := by rw [hW2]; exact (Below.refl _ _).alloc (Nat.le_refl _) _
        have s2 := hb2.size
        have HW2 : Hid (WrB W2 w.heap.size g cp X ∧ Below w.heap.size w W2 ∧ BysAt W2 wr.heap.size 0 [92, 34]) := by
          refine ⟨HW.out.1.below hb2, HW.out.2.1.trans (hb2.mono sr), ?_⟩
          rw [hW2]; exact bys_new wr _ [92, 34] rfl
        clear hb2
        go_wp2_with (at_builtin; (try rw [← hW2]); refine wpList_append_wr _ rfl _ _ rfl w.heap.size g cp n wr.heap.size 0 2 2 X [92, 34] rfl rfl HW.out.2.2 rfl HW2.out.1 HW2.out.2.2 ?hl ?hb ?_)
        case hl => rw [← HW.out.2.2]; show n + 2 ≤ _; omega
        case hb => omega
        intro g' cp' w' hW' hgr hat
        have hgr2 : W2.grownBy w' (some g) := by first | exact hgr | (rw [hW2]; exact hgr)
        have HR : Hid (WrB w' w.heap.size g' cp' (X ++ [92, 34]) ∧ Below w.heap.size w w' ∧ n + 2 = (X ++ [92, 34]).length ∧ X ++ [92, 34] = [34] ++ quoL ((bl s).take (k + 1))) := ⟨hW', WrB.next HW2.out.2.1 (by omega) hge hgr2, by rw [List.length_append, ← HW.out.2.2]; rfl, by rw [HX2.out, HQ.out]⟩
        clear hW' hgr hgr2 hat hW2
        go_wp2_with fail
        go_roundw
        case rel => exact ⟨k + 1, g', cp', n + 2, X ++ [92, 34], by omega, by go_num, rfl, HR.out.2.2.1, by omega, HR.out.2.2.2, HR.out.1, HR.out.2.1⟩
        case measure => simp [intOf]; omega
      by_cases h92 : x.toNat = 92
      · obtain rfl : x = 92 := UInt8.toNat_inj.1 h92
        have HQ : Hid (qByte 92 = [92, 92]) := by show _ = _; decide
        obtain ⟨W2, hW2⟩ : ∃ W2 : World, W2 = wr.alloc (Obj.cells #[.int .u8 92, .int .u8 92] 5) := ⟨_, rfl⟩
        have hb2 : Below wr.heap.size wr W2 := by rw [hW2]; exact (Below.refl _ _).alloc (Nat.le_refl _) _
        have s2 := hb2.size
        have HW2 : Hid (WrB W2 w.heap.size g cp X ∧ Below w.heap.size w W2 ∧ BysAt W2 wr.heap.size 0 [92, 92]) := by
          refine ⟨HW.out.1.below hb2, HW.out.2.1.trans (hb2.mono sr), ?_⟩
          rw [hW2]; exact bys_new wr _ [92, 92] rfl
        clear hb2
        go_wp2_with (at_builtin; (try rw [← hW2]); refine wpList_append_wr _ rfl _ _ rfl w.heap.size g cp n wr.heap.size 0 2 2 X [92, 92] rfl rfl HW.out.2.2 rfl HW2.out.1 HW2.out.2.2 ?hl ?hb ?_)
        case hl => rw [← HW.out.2.2]; show n + 2 ≤ _; omega
        case hb => omega
        intro g' cp' w' hW' hgr hat
        have hgr2 : W2.grownBy w' (some g) := by first | exact hgr | (rw [hW2]; exact hgr)
        have HR : Hid (WrB w' w.heap.size g' cp' (X ++ [92, 92]) ∧ Below w.heap.size w w' ∧ n + 2 = (X ++ [92, 92]).length ∧ X ++ [92, 92] = [34] ++ quoL ((bl s).take (k + 1))) := ⟨hW', WrB.next HW2.out.2.1 (by omega) hge hgr2, by rw [List.length_append, ← HW.out.2.2]; rfl, by rw [HX2.out, HQ.out]⟩
        clear hW' hgr hgr2 hat hW2
        go_wp2_with fail
        go_roundw
        case rel => exact ⟨k + 1, g', cp', n + 2, X ++ [92, 92], by omega, by go_num, rfl, HR.out.2.2.1, by omega, HR.out.2.2.2, HR.out.1, HR.out.2.1⟩
        case measure => simp [intOf]; omega
      have z34 : ((x.toNat : Int) == 34) = false := by rw [beq_eq_false_iff_ne]; omega
      have z92 : ((x.toNat : Int) == 92) = false := by rw [beq_eq_false_iff_ne]; omega
      by_cases h2 : 32 ≤ x.toNat ∧ x.toNat ≤ 126
      · have z32 : (32 : Int) ≤ (x.toNat : Int) := by omega
        have z126 : (x.toNat : Int) ≤ 126 := by omega
        have HQ : Hid (qByte x = [x]) := by show _ = _; unfold qByte; rw [if_neg (by omega), if_pos h2]
        obtain ⟨W2, hW2⟩ : ∃ W2 : World, W2 = wr.alloc (Obj.cells #[.int .u8 (x.toNat : Int)] 5) := ⟨_, rfl⟩
        have hb2 : Below wr.heap.size wr W2 := by rw [hW2]; exact (Below.refl _ _).alloc (Nat.le_refl _) _
        have s2 := hb2.size
        have HW2 : Hid (WrB W2 w.heap.size g cp X ∧ Below w.heap.size w W2 ∧ BysAt W2 wr.heap.size 0 [x]) := by
          refine ⟨HW.out.1.below hb2, HW.out.2.1.trans (hb2.mono sr), ?_⟩
          rw [hW2]; exact bys_new wr _ [x] rfl
        clear hb2
        go_wp2_with (at_builtin; (try rw [← hW2]); refine wpList_append_wr _ rfl _ _ rfl w.heap.size g cp n wr.heap.size 0 1 1 X [x] rfl rfl HW.out.2.2 rfl HW2.out.1 HW2.out.2.2 ?hl ?hb ?_)
        case hl => first | omega | (rw [← HW.out.2.2]; first | (show n + 1 ≤ _; omega) | omega)
        case hb => omega
        intro g' cp' w' hW' hgr hat
        have hgr2 : W2.grownBy w' (some g) := by first | exact hgr | (rw [hW2]; exact hgr)
        have HR : Hid (WrB w' w.heap.size g' cp' (X ++ [x]) ∧ Below w.heap.size w w' ∧ n + 1 = (X ++ [x]).length ∧ X ++ [x] = [34] ++ quoL ((bl s).take (k + 1))) := ⟨hW', WrB.next HW2.out.2.1 (by omega) hge hgr2, by rw [List.length_append, ← HW.out.2.2]; rfl, by rw [HX2.out, HQ.out]⟩
        clear hW' hgr hgr2 hat hW2
        go_wp2_with fail
        go_roundw
        case rel => exact ⟨k + 1, g', cp', n + 1, X ++ [x], by omega, by go_num, rfl, HR.out.2.2.1, by omega, HR.out.2.2.2, HR.out.1, HR.out.2.1⟩
        case measure => simp [intOf]; omega
      obtain ⟨d, hd⟩ : ∃ d, d = x.toNat / 16 := ⟨_, rfl⟩
      obtain ⟨f, hf⟩ : ∃ f, f = x.toNat % 16 := ⟨_, rfl⟩
      have hdl : d < 16 := by omega
      have hfl : f < 16 := by omega
      have zdl : (d : Int) < 16 := by omega
      have zfl : (f : Int) < 16 := by omega
      obtain ⟨d1, hd1⟩ : ∃ d1, d1 = hexB d := ⟨_, rfl⟩
      obtain ⟨d2, hd2⟩ : ∃ d2, d2 = hexB f := ⟨_, rfl⟩
      have HD : Hid (IntKind.u8.wrap ((x.toNat : Int) / 16) = (d : Int) ∧ (x.toNat : Int).tmod 16 = (f : Int) ∧ (⟨#[48, 49, 50, 51, 52, 53, 54, 55, 56, 57, 97, 98, 99, 100, 101, 102]⟩ : ByteArray)[d]'hdl = d1 ∧ (⟨#[48, 49, 50, 51, 52, 53, 54, 55, 56, 57, 97, 98, 99, 100, 101, 102]⟩ : ByteArray)[f]'hfl = d2) := ⟨by rw [wrap_div16, hd], by rw [tmod16, hf], by rw [hex_at, hd1], by rw [hex_at, hd2]⟩
      have HQ : Hid (qByte x = [92, 120, d1, d2]) := by show _ = _; unfold qByte; rw [if_neg (by omega), if_neg h2, ← hd, ← hf, hd1, hd2]
      obtain ⟨W2, hW2⟩ : ∃ W2 : World, W2 = (wr.alloc (Obj.cells #[.int .u8 92, .int .u8 120, .int .u8 (d1.toNat : Int), .int .u8 (d2.toNat : Int)] 5)).drew := ⟨_, rfl⟩
      have hb2 : Below wr.heap.size wr W2 := by rw [hW2]; exact ((Below.refl _ _).alloc (Nat.le_refl _) _).drew
      have s2 := hb2.size
      have HW2 : Hid (WrB W2 w.heap.size g cp X ∧ Below w.heap.size w W2 ∧ BysAt W2 wr.heap.size 0 [92, 120, d1, d2]) := by
        refine ⟨HW.out.1.below hb2, HW.out.2.1.trans (hb2.mono sr), ?_⟩
        rw [hW2]; exact fun i y hy => bys_new wr _ [92, 120, d1, d2] rfl i y hy
      clear hb2 hd hf hd1 hd2
      by_cases h3 : 32 ≤ x.toNat
      · have z3 : (32 : Int) ≤ (x.toNat : Int) := by omega
        have z4 : ¬ (x.toNat : Int) ≤ 126 := by omega
        clear h2
        go_upto_region 11 with fail
        refine wp_region_T 11 (fun _ => True) (by kernel_rfl) ?_
        refine anyT_take (i := 0) (v := ?vp0) rfl (by kernel_rfl) (by kernel_rfl) (by kernel_rfl) (by kernel_rfl) (by decide) (fun _ _ _ h => h) (Or.inl ⟨by rfl, ?yp0⟩) trivial ?_
        case yp0 => (intro wz _; go_simp; (try with_reducible rfl))
        try simp only [Act.put, List.setIfInBounds_toArray, List.set_cons_zero, List.set_cons_succ]
        refine anyT_take (i := 1) (v := ?vp1) rfl (by kernel_rfl) (by kernel_rfl) (by kernel_rfl) (by kernel_rfl) (by decide) (fun _ _ _ h => h) (Or.inl ⟨by rfl, ?yp1⟩) trivial ?_
        case yp1 => (intro wz _; go_simp; (try with_reducible rfl))
        try simp only [Act.put, List.setIfInBounds_toArray, List.set_cons_zero, List.set_cons_succ]
        refine anyT_take (i := 2) (v := ?vp2) rfl (by kernel_rfl) (by kernel_rfl) (by kernel_rfl) (by kernel_rfl) (by decide) (fun _ _ _ h => h) (Or.inl ⟨by rfl, ?yp2⟩) trivial ?_
        case yp2 => (intro wz _; go_simp; (try with_reducible rfl))
        try simp only [Act.put, List.setIfInBounds_toArray, List.set_cons_zero, List.set_cons_succ]
        refine anyT_take (i := 3) (v := .int .u8 (d : Int)) rfl (by kernel_rfl) (by kernel_rfl) (by kernel_rfl) (by kernel_rfl) (by decide) (fun _ _ _ h => h) (Or.inl ⟨by rfl, ?yp3⟩) trivial ?_
        case yp3 => (intro wz _; go_simp; first | exact HD.out.1 | rw [HD.out.1])
        try simp only [Act.put, List.setIfInBounds_toArray, List.set_cons_zero, List.set_cons_succ]
        refine anyT_take (i := 4) (v := .int .u8 (d1.toNat : Int)) rfl (by kernel_rfl) (by kernel_rfl) (by kernel_rfl) (by kernel_rfl) (by decide) (fun _ _ _ h => h) (Or.inl ⟨by rfl, ?yp4⟩) trivial ?_
        case yp4 => (intro wz _; go_simp; simp only [HD.out.2.2.1])
        try simp only [Act.put, List.setIfInBounds_toArray, List.set_cons_zero, List.set_cons_succ]
        refine anyT_take (i := 5) (v := ?vp5) rfl (by kernel_rfl) (by kernel_rfl) (by kernel_rfl) (by kernel_rfl) (by decide) (fun _ _ _ h => h) (Or.inl ⟨by rfl, ?yp5⟩) trivial ?_
        case yp5 => (intro wz _; go_simp; (try with_reducible rfl))
        try simp only [Act.put, List.setIfInBounds_toArray, List.set_cons_zero, List.set_cons_succ]
        refine anyT_take (i := 6) (v := ?vp6) rfl (by kernel_rfl) (by kernel_rfl) (by kernel_rfl) (by kernel_rfl) (by decide) (fun _ _ _ h => h) (Or.inl ⟨by rfl, ?yp6⟩) trivial ?_
        case yp6 => (intro wz _; go_simp; (try with_reducible rfl))
        try simp only [Act.put, List.setIfInBounds_toArray, List.set_cons_zero, List.set_cons_succ]
        refine anyT_take (i := 7) (v := .int .u8 (f : Int)) rfl (by kernel_rfl) (by kernel_rfl) (by kernel_rfl) (by kernel_rfl) (by decide) (fun _ _ _ h => h) (Or.inl ⟨by rfl, ?yp7⟩) trivial ?_
        case yp7 => (intro wz _; go_simp; first | exact HD.out.2.1 | rw [HD.out.2.1])
        try simp only [Act.put, List.setIfInBounds_toArray, List.set_cons_zero, List.set_cons_succ]
        refine anyT_take (i := 8) (v := .int .u8 (d2.toNat : Int)) rfl (by kernel_rfl) (by kernel_rfl) (by kernel_rfl) (by kernel_rfl) (by decide) (fun _ _ _ h => h) (Or.inl ⟨by rfl, ?yp8⟩) trivial ?_
        case yp8 => (intro wz _; go_simp; simp only [HD.out.2.2.2])
        try simp only [Act.put, List.setIfInBounds_toArray, List.set_cons_zero, List.set_cons_succ]
        refine anyT_one (i := 9) (by kernel_rfl) rfl (fun K hK => ?_)
        go_simp
        try rw [← hW2]
        refine hK.out _ _ (.inr trivial) ?_
        clear hK
        try simp only [Act.put, List.setIfInBounds_toArray, List.set_cons_zero, List.set_cons_succ]
        refine anyT_one (i := 10) (by kernel_rfl) rfl (fun K hK => ?_)
        refine step_append_wr _ rfl _ _ rfl w.heap.size g cp n wr.heap.size 0 4 4 X [92, 120, d1, d2] rfl rfl HW.out.2.2 rfl HW2.out.1 HW2.out.2.2 ?hl ?hb ?_
        case hl => rw [← HW.out.2.2]; show n + 4 ≤ _; omega
        case hb => omega
        intro g' cp' w' hW' hgr hat
        have HR : Hid (WrB w' w.heap.size g' cp' (X ++ [92, 120, d1, d2]) ∧ Below w.heap.size w w' ∧ n + 4 = (X ++ [92, 120, d1, d2]).length ∧ X ++ [92, 120, d1, d2] = [34] ++ quoL ((bl s).take (k + 1))) := ⟨hW', WrB.next HW2.out.2.1 (by omega) hge hgr, by rw [List.length_append, ← HW.out.2.2]; rfl, by rw [HX2.out, HQ.out]⟩
        refine hK.out _ _ (.inr trivial) ?_
        clear hK hW' hgr hat hW2
        try simp only [Act.put, List.setIfInBounds_toArray, List.set_cons_zero, List.set_cons_succ]
        refine anyT_one (i := 11) (by kernel_rfl) rfl (fun K hK => ?_)
        go_simp
        refine hK.out _ _ (.inl rfl) ?_
        clear hK
        try simp only [Act.put, List.setIfInBounds_toArray, List.set_cons_zero, List.set_cons_succ]
        refine anyT_done (by kernel_rfl) ?_
        go_wp2_with fail
        go_roundw
        case rel => exact ⟨k + 1, g', cp', n + 4, X ++ [92, 120, d1, d2], by omega, by go_num, rfl, HR.out.2.2.1, by omega, HR.out.2.2.2, HR.out.1, HR.out.2.1⟩
        case measure => simp [intOf]; omega
      · have z3 : ¬ (32 : Int) ≤ (x.toNat : Int) := by omega
        clear h2
        go_upto_region 11 with fail
        refine wp_region_T 11 (fun _ => True) (by kernel_rfl) ?_
        refine anyT_take (i := 0) (v := ?vq0) rfl (by kernel_rfl) (by kernel_rfl) (by kernel_rfl) (by kernel_rfl) (by decide) (fun _ _ _ h => h) (Or.inl ⟨by rfl, ?yq0⟩) trivial ?_
        case yq0 => (intro wz _; go_simp; (try with_reducible rfl))
        try simp only [Act.put, List.setIfInBounds_toArray, List.set_cons_zero, List.set_cons_succ]
        refine anyT_take (i := 1) (v := ?vq1) rfl (by kernel_rfl) (by kernel_rfl) (by kernel_rfl) (by kernel_rfl) (by decide) (fun _ _ _ h => h) (Or.inl ⟨by rfl, ?yq1⟩) trivial ?_
        case yq1 => (intro wz _; go_simp; (try with_reducible rfl))
        try simp only [Act.put, List.setIfInBounds_toArray, List.set_cons_zero, List.set_cons_succ]
        refine anyT_take (i := 2) (v := ?vq2) rfl (by kernel_rfl) (by kernel_rfl) (by kernel_rfl) (by kernel_rfl) (by decide) (fun _ _ _ h => h) (Or.inl ⟨by rfl, ?yq2⟩) trivial ?_
        case yq2 => (intro wz _; go_simp; (try with_reducible rfl))
        try simp only [Act.put, List.setIfInBounds_toArray, List.set_cons_zero, List.set_cons_succ]
        refine anyT_take (i := 3) (v := .int .u8 (d : Int)) rfl (by kernel_rfl) (by kernel_rfl) (by kernel_rfl) (by kernel_rfl) (by decide) (fun _ _ _ h => h) (Or.inl ⟨by rfl, ?yq3⟩) trivial ?_
        case yq3 => (intro wz _; go_simp; first | exact HD.out.1 | rw [HD.out.1])
        try simp only [Act.put, List.setIfInBounds_toArray, List.set_cons_zero, List.set_cons_succ]
        refine anyT_take (i := 4) (v := .int .u8 (d1.toNat : Int)) rfl (by kernel_rfl) (by kernel_rfl) (by kernel_rfl) (by kernel_rfl) (by decide) (fun _ _ _ h => h) (Or.inl ⟨by rfl, ?yq4⟩) trivial ?_
        case yq4 => (intro wz _; go_simp; simp only [HD.out.2.2.1])
        try simp only [Act.put, List.setIfInBounds_toArray, List.set_cons_zero, List.set_cons_succ]
        refine anyT_take (i := 5) (v := ?vq5) rfl (by kernel_rfl) (by kernel_rfl) (by kernel_rfl) (by kernel_rfl) (by decide) (fun _ _ _ h => h) (Or.inl ⟨by rfl, ?yq5⟩) trivial ?_
        case yq5 => (intro wz _; go_simp; (try with_reducible rfl))
        try simp only [Act.put, List.setIfInBounds_toArray, List.set_cons_zero, List.set_cons_succ]
        refine anyT_take (i := 6) (v := ?vq6) rfl (by kernel_rfl) (by kernel_rfl) (by kernel_rfl) (by kernel_rfl) (by decide) (fun _ _ _ h => h) (Or.inl ⟨by rfl, ?yq6⟩) trivial ?_
        case yq6 => (intro wz _; go_simp; (try with_reducible rfl))
        try simp only [Act.put, List.setIfInBounds_toArray, List.set_cons_zero, List.set_cons_succ]
        refine anyT_take (i := 7) (v := .int .u8 (f : Int)) rfl (by kernel_rfl) (by kernel_rfl) (by kernel_rfl) (by kernel_rfl) (by decide) (fun _ _ _ h => h) (Or.inl ⟨by rfl, ?yq7⟩) trivial ?_
        case yq7 => (intro wz _; go_simp; first | exact HD.out.2.1 | rw [HD.out.2.1])
        try simp only [Act.put, List.setIfInBounds_toArray, List.set_cons_zero, List.set_cons_succ]
        refine anyT_take (i := 8) (v := .int .u8 (d2.toNat : Int)) rfl (by kernel_rfl) (by kernel_rfl) (by kernel_rfl) (by kernel_rfl) (by decide) (fun _ _ _ h => h) (Or.inl ⟨by rfl, ?yq8⟩) trivial ?_
        case yq8 => (intro wz _; go_simp; simp only [HD.out.2.2.2])
        try simp only [Act.put, List.setIfInBounds_toArray, List.set_cons_zero, List.set_cons_succ]
        refine anyT_one (i := 9) (by kernel_rfl) rfl (fun K hK => ?_)
        go_simp
        try rw [← hW2]
        refine hK.out _ _ (.inr trivial) ?_
        clear hK
        try simp only [Act.put, List.setIfInBounds_toArray, List.set_cons_zero, List.set_cons_succ]
        refine anyT_one (i := 10) (by kernel_rfl) rfl (fun K hK => ?_)
        refine step_append_wr _ rfl _ _ rfl w.heap.size g cp n wr.heap.size 0 4 4 X [92, 120, d1, d2] rfl rfl HW.out.2.2 rfl HW2.out.1 HW2.out.2.2 ?hl ?hb ?_
        case hl => rw [← HW.out.2.2]; show n + 4 ≤ _; omega
        case hb => omega
        intro g' cp' w' hW' hgr hat
        have HR : Hid (WrB w' w.heap.size g' cp' (X ++ [92, 120, d1, d2]) ∧ Below w.heap.size w w' ∧ n + 4 = (X ++ [92, 120, d1, d2]).length ∧ X ++ [92, 120, d1, d2] = [34] ++ quoL ((bl s).take (k + 1))) := ⟨hW', WrB.next HW2.out.2.1 (by omega) hge hgr, by rw [List.length_append, ← HW.out.2.2]; rfl, by rw [HX2.out, HQ.out]⟩
        refine hK.out _ _ (.inr trivial) ?_
        clear hK hW' hgr hat hW2
        try simp only [Act.put, List.setIfInBounds_toArray, List.set_cons_zero, List.set_cons_succ]
        refine anyT_one (i := 11) (by kernel_rfl) rfl (fun K hK => ?_)
        go_simp
        refine hK.out _ _ (.inl rfl) ?_
        clear hK
        try simp only [Act.put, List.setIfInBounds_toArray, List.set_cons_zero, List.set_cons_succ]
        refine anyT_done (by kernel_rfl) ?_
        go_wp2_with fail
        go_roundw
        case rel => exact ⟨k + 1, g', cp', n + 4, X ++ [92, 120, d1, d2], by omega, by go_num, rfl, HR.out.2.2.1, by omega, HR.out.2.2.2, HR.out.1, HR.out.2.1⟩
        case measure => simp [intOf]; omega
    · have z : ¬ (k : Int) < (s.size : Int) := by omega
      have HX2 : Hid (quoM (bl s) = X ++ [34]) := by
        show _ = _
        have := HX.out
        rw [List.take_of_length_le (by rw [bl_len]; omega)] at this
        rw [quoM, this]
      obtain ⟨W2, hW2⟩ : ∃ W2 : World, W2 = wr.alloc (Obj.cells #[.int .u8 34] 5) := ⟨_, rfl⟩
      have hb2 : Below wr.heap.size wr W2 := by rw [hW2]; exact (Below.refl _ _).alloc (Nat.le_refl _) _
      have s2 := hb2.size
      have HW2 : Hid (WrB W2 w.heap.size g cp X ∧ Below w.heap.size w W2 ∧ BysAt W2 wr.heap.size 0 [34]) := by
        refine ⟨HW.out.1.below hb2, HW.out.2.1.trans (hb2.mono sr), ?_⟩
        rw [hW2]; exact bys_new wr _ [34] rfl
      clear hb2
      go_wp2_with (at_builtin; (try rw [← hW2]); refine wpList_append_wr _ rfl _ _ rfl w.heap.size g cp n wr.heap.size 0 1 1 X [34] rfl rfl HW.out.2.2 rfl HW2.out.1 HW2.out.2.2 ?hl ?hb ?_)
      case hl => first | omega | (rw [← HW.out.2.2]; first | (show n + 1 ≤ _; omega) | omega)
      case hb => omega
      intro g' cp' w' hW' hgr hat
      have hgr2 : W2.grownBy w' (some g) := by first | exact hgr | (rw [hW2]; exact hgr)
      have HR : Hid (WrB w' w.heap.size g' cp' (quoM (bl s)) ∧ Below w.heap.size w w' ∧ n + 1 = (quoM (bl s)).length) := ⟨by rw [HX2.out]; exact hW', WrB.next HW2.out.2.1 (by omega) hge hgr2, by rw [HX2.out, List.length_append, ← HW.out.2.2]; rfl⟩
      clear hW' hgr hgr2 hat hW2
      go_wp2_with fail
      go_ret
      exact ⟨g', cp', by rw [← HR.out.2.2]; rfl, HR.out.1, HR.out.2.1⟩
end Go.Proofs.YtgnpcenpcmdlfaaGreatDoor
