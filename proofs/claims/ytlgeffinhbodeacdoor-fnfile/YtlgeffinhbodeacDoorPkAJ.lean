import Derived.Deep.WholeRow
import Derived.Lib.AppendStr
import Derived.ArgAppend
import Derived.Lib.SlBytesConst
import Derived.Maps.OwnIn
import Derived.Deep.RegionLaw
import Derived.Deep.AppendLies
import Derived.Test.YtlgeffinhbodeacDoorPkAA
import Derived.Test.YtlgeffinhbodeacDoorPkAB
import Derived.Test.YtlgeffinhbodeacDoorPkAC
import Derived.Test.YtlgeffinhbodeacDoorPkAF
import Derived.Test.YtlgeffinhbodeacDoorPkAI
/-
  impl.appendNumber, appendFixed.
-/
namespace Go.Proofs.YtlgeffinhbodeacDoor
open Go.ChangeShapes Go.WideShapes Go.ChangeAt Go.RowKit Go.Deep
set_option linter.unusedVariables false
set_option linter.unusedSimpArgs false
set_option maxRecDepth 100000

/-- Bytes of the call's own, nil among them. -/
def OwnS (w : World) (base : Nat) (v : Value) (l : List UInt8) : Prop := w.ownsRow base 5 1 v l.length (l.map ub)
theorem OwnS.slice {w : World} {base : Nat} {v : Value} {l : List UInt8} (h : OwnS w base v l) : ∃ a cp, v = .slice a l.length cp := by
  rcases h.2 with ⟨rfl, h0⟩ | ⟨g, cap, cur, rfl, _⟩
  · exact ⟨none, 0, by rw [h0]⟩
  · exact ⟨_, _, rfl⟩
theorem OwnS.of {w : World} {base g cp : Nat} {l : List UInt8} (h : OwnY w base g cp l) : OwnS w base (.slice (some ⟨g, 0, none⟩) l.length cp) l := h
theorem OwnS.row {w : World} {base : Nat} {v : Value} {l : List UInt8} (h : OwnS w base v l) : ∀ k, v.ownBlock = some k → base ≤ k ∧ k < w.heap.size := fun k hk => World.ownsRow.lt h k hk
theorem OwnS.chg {S : Nat → Prop} {w w' : World} {base : Nat} {v : Value} {l : List UInt8} (h : OwnS w base v l) (hc : Chg S w w') (hn : ∀ k, v.ownBlock = some k → ¬ S k) : OwnS w' base v l := own_chg h hc hn
/-- Bytes appended to a row of the call's own, nil or not. -/
theorem wpList_append_bysV {ops : Array Oper} {rest : List Oper} {o : Oper} {a : Act} {Q : Exit → Act → World → Prop} (w : World) (hgd : o.guard = none) (s x : Operand)
    (ho : o.op = .call { callee := .builtin .append, args := #[s, x], argTypes := #[22, 22] })
    (base b off m cx : Nat) (v : Value) (l k : List UInt8) (hs : a.eval s = v) (hx : a.eval x = .slice (some ⟨b, off, none⟩) m cx) (hm : m = k.length) (hk : 0 < k.length) (hO : OwnS w base v l)
    (hc : BysAt w b off k) (hlen : l.length + k.length ≤ 2 ^ 30) (hbase : base ≤ w.heap.size)
    (h : ∀ g' cp' w', OwnY w' base g' cp' (l ++ k) → w.grownBy w' v.ownBlock → (v.ownBlock = some g' ∨ g' = w.heap.size) → wpList Tryd.prog ops Q rest (a.put o.dst (.slice (some ⟨g', 0, none⟩) (l ++ k).length cp')) w') : wpList Tryd.prog ops Q (o :: rest) a w := by
  subst hm
  obtain ⟨i, hi, hz0, hz1, hz2⟩ := info_parts Tryd.infoByte
  refine wpList_append_own_at w hgd s x 22 ho base 5 i _ 1 1 Tryd.underlying22 hi hz0 hz1 hz2 rfl (by decide) v l.length (l.map ub) hs hO ⟨b, off, none⟩ k.length cx (k.map ub) hx (by simp) ?_ (ub_one k) ?_ ?_ hbase ?_
  · intro j u hu
    rw [List.getElem?_map] at hu
    cases hkk : k[j]? with
    | none => rw [hkk] at hu; cases hu
    | some r =>
      rw [hkk] at hu
      simp at hu
      rw [Addr.add_mid, hc j r hkk, ← hu]
  · unfold maxLen; omega
  · omega
  · intro v' w' hO' hgr hnil hat
    rcases hO'.2 with ⟨h0, h00⟩ | ⟨g', cap', cur, hv, _, _, hn, hcap, _, _⟩
    · omega
    · subst hv
      have hl : (l ++ k).length = l.length + k.length := List.length_append
      have h1 := h g' cap' w' ?_ hgr ?_
      · rw [hl] at h1; exact h1
      · unfold OwnY
        rw [List.length_append, List.map_append]
        exact hO'
      · simp only [Value.ownBlock] at hat ⊢
        rcases hat with q | q
        · exact .inl q.symm
        · exact .inr (Option.some.inj q)
/-- What has turned, new blocks aside. -/
theorem Chg.fresh {w w' : World} {r : Option Nat} (h : Chg (fun k => r = some k ∨ w.heap.size ≤ k) w w') : Chg (fun k => r = some k) w w' :=
  ⟨h.os, h.tape, h.output, h.size, fun k hk hn => h.block k hk (fun q => by rcases q with q | q; exact hn q; omega)⟩
theorem or128 (n : Nat) : bits .or .u8 (IntKind.u8.wrap (n : Int)) 128 = ((128 + n % 128 : Nat) : Int) := by
  have h0 : IntKind.u8.wrap (n : Int) = ((n % 256 : Nat) : Int) := by
    simp only [IntKind.wrap, IntKind.bits, IntKind.signed, Bool.false_and, Bool.false_eq_true, if_false]
    omega
  rw [h0]
  have hb : ∀ x : Fin 256, bits .or .u8 ((x.val : Nat) : Int) 128 = ((128 + x.val % 128 : Nat) : Int) := by decide
  have := hb ⟨n % 256, by omega⟩
  rw [this]
  congr 1
  show 128 + n % 256 % 128 = 128 + n % 128
  omega

set_option maxHeartbeats 2000000 in
theorem appendNumber_core (base : Nat) (v : Value) (l : List UInt8) (n : Nat) (w : World) (hO : OwnS w base v l) (hn : n < 2 ^ 64) (hl : l.length ≤ 2 ^ 29) (hb : base ≤ w.heap.size) :
    Calls Tryd.prog 39 #[v, .int .u64 (n : Int)] w fun e w' => ∃ g cp, e = .returned (.slice (some ⟨g, 0, none⟩) (l ++ num n).length cp) ∧ OwnY w' base g cp (l ++ num n) ∧ Chg (fun k => v.ownBlock = some k) w w' ∧ (v.ownBlock = some g ∨ w.heap.size ≤ g) := by
  obtain ⟨a, cp, rfl⟩ := hO.slice
  have HO : Hid (OwnS w base (.slice a l.length cp) l ∧ n < 2 ^ 64 ∧ l.length ≤ 2 ^ 29) := ⟨hO, hn, hl⟩
  clear hO hn hl
  go_enter Tryd.func39, Tryd.ntmps39
  go_wp2_with fail
  go_loopw [0, 1] (fun tv nn wr => ∃ (a' : Option Addr) (cp' k : Nat) (l' : List UInt8), tv = .slice a' l'.length cp' ∧ nn = .int .u64 (k : Int) ∧ k < 2 ^ 64 ∧ l ++ num n = l' ++ num k ∧ OwnS wr base (.slice a' l'.length cp') l' ∧ Chg (fun j => (Value.slice a l.length cp).ownBlock = some j ∨ w.heap.size ≤ j) w wr ∧ (∀ j, (Value.slice a' l'.length cp').ownBlock = some j → (Value.slice a l.length cp).ownBlock = some j ∨ w.heap.size ≤ j)) (fun _ nn _ => (intOf nn).toNat)
  case atStart => exact ⟨a, cp, n, l, rfl, rfl, HO.out.2.1, rfl, HO.out.1, Chg.refl _ _, fun j hj => .inl hj⟩
  case round =>
    obtain ⟨a', cp', k, l', rfl, rfl, hk, he, hS, hC, hR⟩ := hrel
    have hlen : l'.length + (num k).length ≤ 2 ^ 29 + 10 := by
      have h1 := congrArg List.length he
      rw [List.length_append, List.length_append] at h1
      have h2 := num_len64 HO.out.2.1
      have h3 := HO.out.2.2
      omega
    have hp := num_pos k
    have hlen2 : l'.length + 1 ≤ 536870922 := by omega
    have hsz := hC.size
    have HJ : Hid (OwnS wr base (.slice a' l'.length cp') l' ∧ Chg (fun j => (Value.slice a l.length cp).ownBlock = some j ∨ w.heap.size ≤ j) w wr ∧ (∀ j, (Value.slice a' l'.length cp').ownBlock = some j → (Value.slice a l.length cp).ownBlock = some j ∨ w.heap.size ≤ j) ∧ l ++ num n = l' ++ num k ∧ k < 2 ^ 64) := ⟨hS, hC, hR, he, hk⟩
    clear hS hC hR he hlen hp
    by_cases h128 : 128 ≤ k
    · have z : (128 : Int) ≤ (k : Int) := by omega
      obtain ⟨x, hx⟩ : ∃ x : UInt8, x = byt (128 + k % 128) := ⟨_, rfl⟩
      have hxv : bits .or .u8 (IntKind.u8.wrap (k : Int)) 128 = (x.toNat : Int) := by rw [or128, hx, byt_nat (by omega)]
      have hxv2 : bits .or .u8 ((k : Int) % 256) 128 = (x.toNat : Int) := by
        have h0 : IntKind.u8.wrap (k : Int) = (k : Int) % 256 := by
          simp only [IntKind.wrap, IntKind.bits, IntKind.signed, Bool.false_and, Bool.false_eq_true, if_false]
          omega
        rw [← h0]; exact hxv
      obtain ⟨WD, hWD⟩ : ∃ V : World, V = wr.alloc (Obj.cells #[ub x] 5) := ⟨_, rfl⟩
      have hbD : Below wr.heap.size wr WD := by rw [hWD]; exact (Below.refl _ _).alloc (Nat.le_refl _) _
      have HD : Hid (OwnS WD base (.slice a' l'.length cp') l' ∧ BysAt WD wr.heap.size 0 [x] ∧ WD.heap.size = wr.heap.size + 1 ∧ Below wr.heap.size wr WD) := by
        refine ⟨HJ.out.1.chg (S := fun _ => False) (Chg.of_below hbD) (fun _ _ q => q), ?_, by rw [hWD]; simp, hbD⟩
        intro i y hy
        rw [hWD]
        cases i with
        | zero => simp at hy; subst hy; simp
        | succ i => simp at hy
      have HX : Hid (x = byt (128 + k % 128)) := hx
      clear hbD hx
      go_wp2_with (at_builtin; rw [← hWD]; refine wpList_append_bysV _ rfl _ _ rfl base wr.heap.size 0 1 1 (.slice a' l'.length cp') l' [x] rfl rfl rfl (Nat.zero_lt_one) ?hO ?hc ?hl ?hb ?_)
      case hO => first | exact HD.out.1 | (rw [← hWD]; exact HD.out.1)
      case hc => first | exact HD.out.2.1 | (rw [← hWD]; exact HD.out.2.1)
      case hl => first | omega | (simp; omega)
      case hb => first | omega | (rw [HD.out.2.2.1]; omega) | (simp; omega)
      intro g' cp2 wE hOE hgrE hatE
      try rw [← hWD] at hgrE
      have HE : Hid (OwnS wE base (.slice (some ⟨g', 0, none⟩) (l' ++ [x]).length cp2) (l' ++ [x]) ∧ Chg (fun j => (Value.slice a l.length cp).ownBlock = some j ∨ w.heap.size ≤ j) w wE ∧ (∀ j, (Value.slice (some ⟨g', 0, none⟩) (l' ++ [x]).length cp2).ownBlock = some j → (Value.slice a l.length cp).ownBlock = some j ∨ w.heap.size ≤ j) ∧ l ++ num n = (l' ++ [x]) ++ num (k / 128)) := by
        have hc1 : Chg (fun j => (Value.slice a l.length cp).ownBlock = some j ∨ w.heap.size ≤ j) WD wE := Chg.of_grown hgrE (fun j hj => HJ.out.2.2.1 j hj)
        refine ⟨hOE, (HJ.out.2.1.trans (Chg.of_below HD.out.2.2.2)).trans hc1, ?_, ?_⟩
        · intro j hj
          have hj2 : g' = j := Option.some.inj hj
          subst hj2
          rcases hatE with q | q
          · exact HJ.out.2.2.1 _ q
          · right; first | (rw [q, HD.out.2.2.1]; omega) | (rw [q]; simp; omega) | omega
        · rw [HJ.out.2.2.2.1, num_large (by omega), HX.out, List.append_assoc]; rfl
      have hk2 : k / 128 < 2 ^ 64 := by have := HJ.out.2.2.2.2; omega
      clear hOE hgrE hatE hWD HD hxv hxv2
      go_wp2_with fail
      refine ⟨⟨some ⟨g', 0, none⟩, cp2, k / 128, l' ++ [x], by simp, by first | rfl | go_num, hk2, HE.out.2.2.2, HE.out.1, HE.out.2.1, HE.out.2.2.1⟩, by simp [intOf]; omega⟩
    · have z : ¬ (128 : Int) ≤ (k : Int) := by omega
      obtain ⟨x, hx⟩ : ∃ x : UInt8, x = byt k := ⟨_, rfl⟩
      have hxv : (k : Int) % 256 = (x.toNat : Int) := by rw [hx, byt_nat (by omega)]; omega
      have hxw : (k : Int) = (x.toNat : Int) := by rw [hx, byt_nat (by omega)]
      obtain ⟨WD, hWD⟩ : ∃ V : World, V = wr.alloc (Obj.cells #[.int .u8 (k : Int)] 5) := ⟨_, rfl⟩
      have hbD : Below wr.heap.size wr WD := by rw [hWD]; exact (Below.refl _ _).alloc (Nat.le_refl _) _
      have HD : Hid (OwnS WD base (.slice a' l'.length cp') l' ∧ BysAt WD wr.heap.size 0 [x] ∧ WD.heap.size = wr.heap.size + 1 ∧ Below wr.heap.size wr WD) := by
        refine ⟨HJ.out.1.chg (S := fun _ => False) (Chg.of_below hbD) (fun _ _ q => q), ?_, by rw [hWD]; simp, hbD⟩
        intro i y hy
        rw [hWD]
        cases i with
        | zero => simp at hy; subst hy; simp [hxw]
        | succ i => simp at hy
      have HX : Hid (x = byt k) := hx
      clear hbD hx hxv hxw
      go_wp2_with (at_builtin; rw [← hWD]; refine wpList_append_bysV _ rfl _ _ rfl base wr.heap.size 0 1 1 (.slice a' l'.length cp') l' [x] rfl rfl rfl (Nat.zero_lt_one) ?hO ?hc ?hl ?hb ?_)
      case hO => first | exact HD.out.1 | (rw [← hWD]; exact HD.out.1)
      case hc => first | exact HD.out.2.1 | (rw [← hWD]; exact HD.out.2.1)
      case hl => first | omega | (simp; omega)
      case hb => first | omega | (rw [HD.out.2.2.1]; omega) | (simp; omega)
      intro g' cp2 wE hOE hgrE hatE
      try rw [← hWD] at hgrE
      have HE : Hid (OwnY wE base g' cp2 (l ++ num n) ∧ Chg (fun j => (Value.slice a l.length cp).ownBlock = some j) w wE ∧ ((Value.slice a l.length cp).ownBlock = some g' ∨ w.heap.size ≤ g') ∧ (l' ++ [x]).length = (l ++ num n).length) := by
        have hc1 : Chg (fun j => (Value.slice a l.length cp).ownBlock = some j ∨ w.heap.size ≤ j) WD wE := Chg.of_grown hgrE (fun j hj => HJ.out.2.2.1 j hj)
        have hll : l ++ num n = l' ++ [x] := by rw [HJ.out.2.2.2.1, num_small (by omega), HX.out]
        refine ⟨by rw [hll]; exact hOE, ((HJ.out.2.1.trans (Chg.of_below HD.out.2.2.2)).trans hc1).fresh, ?_, by rw [hll]⟩
        rcases hatE with q | q
        · exact HJ.out.2.2.1 _ q
        · right; first | (rw [q, HD.out.2.2.1]; omega) | (rw [q]; simp; omega) | omega
      clear hOE hgrE hatE hWD HD
      go_wp2_with fail
      go_ret
      exact ⟨g', cp2, by rw [← HE.out.2.2.2]; first | rfl | simp, HE.out.1, HE.out.2.1, HE.out.2.2.1⟩

set_option maxHeartbeats 2000000 in
theorem appendFixed_core (base : Nat) (v : Value) (l : List UInt8) (n : Nat) (w : World) (hO : OwnS w base v l) (hn : n < 2 ^ 32) (hl : l.length ≤ 2 ^ 29) (hb : base ≤ w.heap.size) :
    Calls Tryd.prog 37 #[v, .int .u32 (n : Int)] w fun e w' => ∃ g cp, e = .returned (.slice (some ⟨g, 0, none⟩) (l ++ fixed n).length cp) ∧ OwnY w' base g cp (l ++ fixed n) ∧ Chg (fun k => v.ownBlock = some k) w w' ∧ (v.ownBlock = some g ∨ w.heap.size ≤ g) := by
  obtain ⟨a, cp, rfl⟩ := hO.slice
  have HO : Hid (OwnS w base (.slice a l.length cp) l ∧ n < 2 ^ 32 ∧ l.length ≤ 2 ^ 29) := ⟨hO, hn, hl⟩
  obtain ⟨WD, hWD⟩ : ∃ V : World, V = w.alloc (Obj.cells #[.int .u8 ((n : Int) % 256), .int .u8 ((n : Int) / 256 % 256), .int .u8 ((n : Int) / 65536 % 256), .int .u8 ((n : Int) / 16777216 % 256)] 5) := ⟨_, rfl⟩
  have hbD : Below w.heap.size w WD := by rw [hWD]; exact (Below.refl _ _).alloc (Nat.le_refl _) _
  have HD : Hid (OwnS WD base (.slice a l.length cp) l ∧ BysAt WD w.heap.size 0 (fixed n) ∧ WD.heap.size = w.heap.size + 1 ∧ Below w.heap.size w WD) := by
    refine ⟨HO.out.1.chg (S := fun _ => False) (Chg.of_below hbD) (fun _ _ q => q), ?_, by rw [hWD]; simp, hbD⟩
    intro i y hy
    rw [hWD, cell_of_row _ _ _ _ _ _ (heap_alloc_last w _)]
    unfold fixed at hy
    match i with
    | 0 => simp at hy; subst hy; simp [byt_nat (show n % 256 < 256 by omega)]
    | 1 => simp at hy; subst hy; simp [byt_nat (show n / 256 % 256 < 256 by omega)]
    | 2 => simp at hy; subst hy; simp [byt_nat (show n / 65536 % 256 < 256 by omega)]
    | 3 => simp at hy; subst hy; simp [byt_nat (show n / 16777216 % 256 < 256 by omega)]
    | i + 4 => simp at hy
  clear hO hn hl hbD
  have hl2 : l.length ≤ 536870912 := by have := HO.out.2.2; omega
  go_enter Tryd.func37, Tryd.ntmps37
  go_wp2_with (at_builtin; rw [← hWD]; refine wpList_append_bysV _ rfl _ _ rfl base w.heap.size 0 4 4 (.slice a l.length cp) l (fixed n) rfl rfl rfl (by show 0 < 4; omega) ?hO ?hc ?hl ?hb ?_)
  case hO => first | exact HD.out.1 | (rw [← hWD]; exact HD.out.1)
  case hc => first | exact HD.out.2.1 | (rw [← hWD]; exact HD.out.2.1)
  case hl => show l.length + 4 ≤ _; omega
  case hb => first | omega | (rw [HD.out.2.2.1]; omega) | (simp; omega)
  intro g' cp2 wE hOE hgrE hatE
  try rw [← hWD] at hgrE
  have HE : Hid (OwnY wE base g' cp2 (l ++ fixed n) ∧ Chg (fun j => (Value.slice a l.length cp).ownBlock = some j) w wE ∧ ((Value.slice a l.length cp).ownBlock = some g' ∨ w.heap.size ≤ g')) := by
    refine ⟨hOE, (Chg.of_below HD.out.2.2.2).trans (Chg.of_grown hgrE (fun j hj => hj)), ?_⟩
    rcases hatE with q | q
    · exact .inl q
    · right; first | (rw [q, HD.out.2.2.1]; omega) | (rw [q]; simp) | omega
  clear hOE hgrE hatE hWD HD
  go_wp2_with fail
  go_ret
  exact ⟨g', cp2, by first | rfl | simp, HE.out.1, HE.out.2.1, HE.out.2.2⟩
end Go.Proofs.YtlgeffinhbodeacDoor

/-
  impl.appendText.
-/
namespace Go.Proofs.YtlgeffinhbodeacDoor
open Go.ChangeShapes Go.WideShapes Go.ChangeAt Go.RowKit Go.Deep
set_option linter.unusedVariables false
set_option linter.unusedSimpArgs false
set_option maxRecDepth 100000

theorem strCells_ub (s : ByteArray) : Lib.strCells s = (bl s).map ub := rfl
/-- A string appended to bytes of the call's own, and where they lie then. -/
theorem append_str_lies (w : World) (ty : TypeId) (base g cp : Nat) (L : List UInt8) (s : ByteArray) (hO : OwnY w base g cp L) (hlen : L.length + s.size ≤ 2 ^ 30) (hb : base ≤ w.heap.size) (h0 : 0 < L.length) :
    ∃ g' cp' w', (Builtin.append_ #[22, 9] ty #[.slice (some ⟨g, 0, none⟩) L.length cp, .string s]).run Tryd.prog w = .ok (.slice (some ⟨g', 0, none⟩) (L ++ bl s).length cp') w' ∧ OwnY w' base g' cp' (L ++ bl s) ∧ w.grownBy w' (some g) ∧ (g' = g ∨ g' = w.heap.size) := by
  obtain ⟨i, hi, hz0, hz1, hz2⟩ := info_parts Tryd.infoByte
  obtain ⟨v', w', hr, hO', hg', _⟩ := Lib.run_append_own_string (P := Tryd.prog) w base 22 9 ty 5 i Tryd.underlying22 Tryd.underlying9 hi hz0 hz1 hz2 (.slice (some ⟨g, 0, none⟩) L.length cp) L.length (L.map ub) hO s (by unfold maxLen; omega) (by omega) hb
  have hl : (L ++ bl s).length = L.length + s.size := by rw [List.length_append, bl_len]
  have hOw : ∀ g' cp', v' = .slice (some ⟨g', 0, none⟩) (L.length + s.size) cp' → OwnY w' base g' cp' (L ++ bl s) := by
    intro g' cp' hv
    unfold OwnY
    rw [hl, List.map_append, ← strCells_ub, ← hv]
    exact hO'
  rcases hO.2 with ⟨h9, _⟩ | ⟨g0, cap0, cur, hv, hbg, hheap, hn, hcap, hcs, hcu⟩
  · cases h9
  · simp only [Value.slice.injEq, Option.some.injEq, Addr.mk.injEq, and_true, true_and] at hv
    obtain ⟨rfl, rfl⟩ := hv
    by_cases hroom : L.length + s.size ≤ cp
    · have hr2 := Lib.run_append_room_string (P := Tryd.prog) w 22 9 ty 5 i Tryd.underlying22 Tryd.underlying9 hi hz1 g L.length cp cur hheap s hroom (by omega)
      rw [hr] at hr2
      have hv : v' = .slice (some ⟨g, 0, none⟩) (L.length + s.size) cp := by injection hr2
      exact ⟨g, cp, w', by rw [hl, ← hv]; exact hr, hOw g cp hv, hg', .inl rfl⟩
    · have hr2 := Lib.run_append_grow_string (P := Tryd.prog) w 22 9 ty 5 i _ Tryd.underlying22 Tryd.underlying9 hi hz0 ⟨g, 0, none⟩ L.length cp (L.map ub) (by rw [List.length_map, hz1, Nat.mul_one]) (fun j u hu => hO.cells (g := g) rfl j u hu) s (by omega) (by omega) (by rw [hz2]; exact growslice_fits (by omega) (by omega))
      rw [hr] at hr2
      have hv : v' = .slice (some ⟨w.heap.size, 0, none⟩) (L.length + s.size) (grownCap w (L.length + s.size) cp 5) := by injection hr2
      exact ⟨w.heap.size, _, w', by rw [hl, ← hv]; exact hr, hOw _ _ hv, hg', .inr rfl⟩
theorem wpList_append_strV {ops : Array Oper} {rest : List Oper} {o : Oper} {a : Act} {Q : Exit → Act → World → Prop} (w : World) (hgd : o.guard = none) (sl x : Operand)
    (ho : o.op = .call { callee := .builtin .append, args := #[sl, x], argTypes := #[22, 9] })
    (base g cp n : Nat) (L : List UInt8) (s : ByteArray) (hn : n = L.length) (hs : a.eval sl = .slice (some ⟨g, 0, none⟩) n cp) (hx : a.eval x = .string s) (hO : OwnY w base g cp L) (hlen : L.length + s.size ≤ 2 ^ 30) (hb : base ≤ w.heap.size) (h0 : 0 < L.length)
    (h : ∀ g' cp' w', OwnY w' base g' cp' (L ++ bl s) → w.grownBy w' (some g) → (g' = g ∨ g' = w.heap.size) → wpList Tryd.prog ops Q rest (a.put o.dst (.slice (some ⟨g', 0, none⟩) (L ++ bl s).length cp')) w') : wpList Tryd.prog ops Q (o :: rest) a w := by
  subst hn
  refine wpList_plain hgd fun K hK => ?_
  obtain ⟨g', cp', w', hr, h2, h3, h4⟩ := append_str_lies w o.type base g cp L s hO hlen hb h0
  unfold Oper.wp execOp
  simp only [ho, resolve, invoke, builtin, Sem.run_bind, Sem.run_pure, Result.andThen_ok, List.map_toArray, List.map_cons, List.map_nil, hs, hx, hr]
  exact hK _ _ (h g' cp' w' h2 h3 h4)

set_option maxHeartbeats 2000000 in
theorem appendText_core (base : Nat) (v : Value) (l : List UInt8) (s : ByteArray) (w : World) (hO : OwnS w base v l) (hl : l.length + s.size ≤ 2 ^ 29) (hb : base ≤ w.heap.size) :
    Calls Tryd.prog 40 #[v, .string s] w fun e w' => ∃ g cp, e = .returned (.slice (some ⟨g, 0, none⟩) (l ++ num s.size ++ bl s).length cp) ∧ OwnY w' base g cp (l ++ num s.size ++ bl s) ∧ Chg (fun k => v.ownBlock = some k) w w' ∧ (v.ownBlock = some g ∨ w.heap.size ≤ g) := by
  have HO : Hid (OwnS w base v l ∧ l.length + s.size ≤ 2 ^ 29) := ⟨hO, hl⟩
  obtain ⟨a, cp, rfl⟩ := hO.slice
  clear hO hl
  have hl2 : l.length + s.size ≤ 536870912 := by have := HO.out.2; omega
  go_enter Tryd.func40, Tryd.ntmps40
  go_wp2_with (first
    | (at_builtin; refine wpList_append_strV _ rfl _ _ rfl base g1 cp1 (l.length + (num s.size).length) (l ++ num s.size) s List.length_append.symm rfl rfl hO1 (by have := HO.out.2; have := num_len64 (n := s.size) (by omega); rw [List.length_append]; omega) (Nat.le_trans hb hC1.size) (by have := List.length_pos_iff.2 (num_ne s.size); rw [List.length_append]; omega) ?_; intro g2 cp2 w2 hO2 hgr2 hat2)
    | (go_at_call 39; refine (appendNumber_core base _ l s.size _ HO.out.1 (by omega) (by omega) (by omega)).mono ?_; rintro e w1 ⟨g1, cp1, rfl, hO1, hC1, hat1⟩))
  go_ret
  refine ⟨g2, cp2, by first | rfl | simp, hO2, ?_, ?_⟩
  · exact ((hC1.mono (fun k q => Or.inl q)).trans (Chg.of_grown hgr2 (S := fun k => (Value.slice a l.length cp).ownBlock = some k ∨ w.heap.size ≤ k) (fun j hj => by cases hj; exact hat1))).fresh
  · rcases hat2 with rfl | rfl
    · exact hat1
    · exact .inr hC1.size
end Go.Proofs.YtlgeffinhbodeacDoor

/-
  impl.blockBody.
-/
namespace Go.Proofs.YtlgeffinhbodeacDoor
open Go.ChangeShapes Go.WideShapes Go.ChangeAt Go.RowKit Go.Deep
set_option linter.unusedVariables false
set_option linter.unusedSimpArgs false
set_option maxRecDepth 100000

/-- The state of blockBody's loop, an entry beside. -/
structure BbJ (w : World) (GE : Nat) (e : Ent) (g cp : Nat) (xs : List UInt8) (wr : World) : Prop where
  out : OwnY wr w.heap.size g cp xs
  ent : BoxAt wr w.heap.size 73 6 GE [.string e.row, .string e.fam, .string e.qual, .int .u64 e.ts, .int .i64 e.kind, .string e.val]
  ne : ¬ GE = g
  below : Below w.heap.size w wr
theorem BbJ.app {w : World} {GE : Nat} {e : Ent} {g cp g' cp' : Nat} {xs ys : List UInt8} {wr w' : World} (h : BbJ w GE e g cp xs wr) (hO : OwnY w' w.heap.size g' cp' ys) (hC : Chg (fun k => (Value.slice (some ⟨g, 0, none⟩) xs.length cp).ownBlock = some k) wr w') (hat : (Value.slice (some ⟨g, 0, none⟩) xs.length cp).ownBlock = some g' ∨ wr.heap.size ≤ g') : BbJ w GE e g' cp' ys w' := by
  have h1 := h.out.lt
  have h2 := h.ent.lt
  have h3 := h.ne
  have hC2 : Chg (fun k => k = g) wr w' := hC.mono (fun k q => by simp [Value.ownBlock] at q; exact q.symm)
  refine ⟨hO, h.ent.chg hC2 h3, ?_, Chg.below h.below hC2 h.below.size (fun k q => by omega)⟩
  rcases hat with q | q
  · simp [Value.ownBlock] at q; omega
  · omega
theorem bb_num {w : World} {GE : Nat} {e : Ent} {g cp : Nat} {xs : List UInt8} {wr : World} (h : BbJ w GE e g cp xs wr) (m : Nat) (hm : m = xs.length) (n : Nat) (hn : n < 2 ^ 64) (hl : m ≤ 2 ^ 28) :
    Calls Tryd.prog 39 #[.slice (some ⟨g, 0, none⟩) m cp, .int .u64 (n : Int)] wr fun r w' => ∃ g' cp' m', r = .returned (.slice (some ⟨g', 0, none⟩) m' cp') ∧ Hid (m' = (xs ++ num n).length ∧ BbJ w GE e g' cp' (xs ++ num n) w') ∧ m' ≤ m + 10 := by
  subst hm
  refine (appendNumber_core w.heap.size _ xs n wr (OwnS.of h.out) hn (by omega) h.below.size).mono ?_
  rintro r w' ⟨g', cp', rfl, hO, hC, hat⟩
  refine ⟨g', cp', _, rfl, ⟨rfl, h.app hO hC hat⟩, ?_⟩
  have := num_len64 hn
  rw [List.length_append]
  omega
theorem bb_text {w : World} {GE : Nat} {e : Ent} {g cp : Nat} {xs : List UInt8} {wr : World} (h : BbJ w GE e g cp xs wr) (m : Nat) (hm : m = xs.length) (s : ByteArray) (hs : s.size ≤ 200) (hl : m ≤ 2 ^ 28) :
    Calls Tryd.prog 40 #[.slice (some ⟨g, 0, none⟩) m cp, .string s] wr fun r w' => ∃ g' cp' m', r = .returned (.slice (some ⟨g', 0, none⟩) m' cp') ∧ Hid (m' = (xs ++ strB (bl s)).length ∧ BbJ w GE e g' cp' (xs ++ strB (bl s)) w') ∧ m' ≤ m + 300 := by
  subst hm
  have e1 : xs ++ num s.size ++ bl s = xs ++ strB (bl s) := by unfold strB; rw [bl_len, List.append_assoc]
  refine (appendText_core w.heap.size _ xs s wr (OwnS.of h.out) (by omega) h.below.size).mono ?_
  rintro r w' ⟨g', cp', rfl, hO, hC, hat⟩
  rw [e1] at hO ⊢
  refine ⟨g', cp', _, rfl, ⟨rfl, h.app hO hC hat⟩, ?_⟩
  have := strB_len (s := bl s) (by rw [bl_len]; omega)
  rw [bl_len] at this
  rw [List.length_append]
  omega
theorem BbJ.move {w : World} {GE : Nat} {e : Ent} {g cp : Nat} {xs : List UInt8} {wr w' : World} (h : BbJ w GE e g cp xs wr) (hb : Below wr.heap.size wr w') : BbJ w GE e g cp xs w' :=
  ⟨h.out.below hb, h.ent.below hb, h.ne, h.below.trans (hb.mono h.below.size)⟩
set_option maxHeartbeats 8000000 in
theorem blockBody_core (b off cap : Nat) (es : List Ent) (w : World) (hE : EntsAt w b off es) (hok : ∀ e ∈ es, e.ok) (hv : ∀ e ∈ es, e.vld = true) (hB : b < w.heap.size) (hlen : es.length ≤ 10000) :
    Calls Tryd.prog 36 #[.slice (some ⟨b, off, none⟩) es.length cap] w fun r w' =>
      ∃ (g cp : Nat), r = .returned (.slice (some ⟨g, 0, none⟩) (body [] es).length cp) ∧ OwnY w' w.heap.size g cp (body [] es) ∧ Below w.heap.size w w' := by
  obtain ⟨W0, hW0⟩ : ∃ W0 : World, W0 = w.alloc (Obj.cells #[] 5) := ⟨_, rfl⟩
  have hb0 : Below w.heap.size w W0 := by rw [hW0]; exact (Below.refl _ _).alloc (Nat.le_refl _) _
  have HO0 : Hid (OwnY W0 w.heap.size w.heap.size 0 []) := by rw [hW0]; exact ownY_new w (Nat.le_refl _)
  have HE : Hid (EntsAt w b off es ∧ (∀ e ∈ es, e.ok) ∧ (∀ e ∈ es, e.vld = true)) := ⟨hE, hok, hv⟩
  obtain ⟨n, hn⟩ : ∃ n, n = es.length := ⟨_, rfl⟩
  have HN : Hid (n = es.length) := hn
  rw [← hn] at hlen ⊢
  clear hE hok hv hn
  go_enter Tryd.func36, Tryd.ntmps36
  go_upto_region 2 with fail
  rw [← hW0]
  clear hW0
  go_wp2_with fail
  go_loopw [3, 4, 11] (fun o s i wr => ∃ (k m g cp : Nat) (bf : ByteArray), k ≤ n ∧ i = .int .i64 (k : Int) ∧ m = (body [] (es.take k)).length ∧ o = .slice (some ⟨g, 0, none⟩) m cp ∧ s = .string bf ∧ bf.size ≤ 64 ∧ bl bf = lastRow [] (es.take k) ∧ OwnY wr w.heap.size g cp (body [] (es.take k)) ∧ Below w.heap.size w wr) (fun _ _ i _ => n - (intOf i).toNat)
  case atStart => exact ⟨0, 0, _, 0, ⟨#[]⟩, Nat.zero_le _, rfl, rfl, rfl, rfl, by decide, rfl, HO0.out, hb0⟩
  case round =>
    obtain ⟨k, m, g, cp, bf, hk, rfl, hm, rfl, rfl, hbs, hbf, hO, hb⟩ := hrel
    have hsb := hb.size
    obtain ⟨X0, hX0⟩ : ∃ X0, X0 = body [] (es.take k) := ⟨_, rfl⟩
    have HX0 : Hid (X0 = body [] (es.take k) ∧ m = X0.length ∧ bl bf = lastRow [] (es.take k)) := ⟨hX0, by rw [hX0]; exact hm, hbf⟩
    have hx0 : m ≤ 500 * k := by
      rw [hm]
      have := body_len (es.take k) [] (fun e he => HE.out.2.2 e (List.mem_of_mem_take he)) (fun e he => by have := wf_u64 (HE.out.2.1 e (List.mem_of_mem_take he)).ts; omega)
      have hk2 := HN.out
      rw [List.length_take, Nat.min_eq_left (by omega)] at this
      exact this
    rw [← hX0] at hO
    have HO : Hid (OwnY wr w.heap.size g cp X0) := hO
    have hgl := hO.lt
    clear hX0 hbf hO hm HO0
    by_cases hlt : k < n
    · have zk : (k : Int) < (n : Int) := by omega
      obtain ⟨e, he⟩ : ∃ e, es[k]? = some e := ⟨_, List.getElem?_eq_getElem (by have := HN.out; omega)⟩
      have hem := List.mem_of_getElem? he
      obtain ⟨v1, v2, v3, v4, v5, v6, v7, v8⟩ := vld_parts (HE.out.2.2 e hem)
      have hts := wf_u64 (HE.out.2.1 e hem).ts
      have HT : Hid (es.take (k + 1) = es.take k ++ [e]) := by rw [List.take_add_one, he]; rfl
      obtain ⟨c0, c1, c2, c3, c4, c5⟩ := HE.out.1.below hb hB k e he
      obtain ⟨W1, hW1⟩ : ∃ W1 : World, W1 = wr.alloc (Obj.cells #[.string e.row, .string e.fam, .string e.qual, .int .u64 e.ts, .int .i64 e.kind, .string e.val] 73) := ⟨_, rfl⟩
      have HS1 : Hid (BbJ w wr.heap.size e g cp X0 W1) := by
        have hba : Below wr.heap.size wr W1 := by rw [hW1]; exact (Below.refl _ _).alloc (Nat.le_refl _) _
        refine ⟨HO.out.below hba, ?_, by omega, hb.trans (hba.mono hsb)⟩
        rw [hW1]; exact boxAt_new wr _ hsb rfl
      clear he hem
      go_upto_region 6 with fail
      rw [← hW1]
      clear hW1 c0 c1 c2 c3 c4 c5
      have q := HS1.out.ent.cell (j := 0) rfl
      go_wp2_with fail
      clear q
      refine (implShared_core bf e.row W1 (by unfold maxLen; omega) (by unfold maxLen; omega)).mono ?_
      rintro r w2 ⟨rfl, hb2⟩
      obtain ⟨sh, hsh⟩ : ∃ sh, sh = shared (bl bf) (bl e.row) := ⟨_, rfl⟩
      have hsh1 : sh ≤ e.row.size := by rw [hsh, ← bl_len]; exact (shared_le _ _).2
      have HSh : Hid (sh = shared (lastRow [] (es.take k)) (bl e.row)) := by rw [← HX0.out.2.2]; exact hsh
      rw [← hsh]
      have HS2 : Hid (m = X0.length ∧ BbJ w wr.heap.size e g cp X0 w2) := ⟨HX0.out.2.1, HS1.out.move hb2⟩
      clear hsh hb2 HS1
      obtain ⟨rs, hrs⟩ : ∃ s : ByteArray, s = e.row.extract sh e.row.size := ⟨_, rfl⟩
      have hrs1 : rs.size ≤ 64 := by rw [hrs, ByteArray.size_extract]; omega
      have HRS : Hid (bl rs = (bl e.row).drop sh) := by
        show bl rs = (bl e.row).drop sh
        rw [hrs]
        show (e.row.extract sh e.row.size).data.toList = _
        rw [Lib.extract_data, List.take_of_length_le (by rw [List.length_drop, bl_len]; omega)]
      have HRS2 : Hid (rs = e.row.extract sh e.row.size) := hrs
      clear hrs
      obtain ⟨tn, htn⟩ : ∃ tn : Nat, e.ts = (tn : Int) := ⟨e.ts.toNat, by omega⟩
      obtain ⟨kn, hkn⟩ : ∃ kn : Nat, e.kind = (kn : Int) := ⟨e.kind.toNat, by omega⟩
      have htn2 : tn < 2 ^ 64 := by omega
      have hkn2 : kn ≤ 2 := by omega
      have HTK : Hid (e.ts.toNat = tn ∧ e.kind.toNat = kn) := ⟨by omega, by omega⟩
      have zsh : (sh : Int) ≤ (e.row.size : Int) := by omega
      go_wp2_with fail
      refine (bb_num HS2.out.2 m HS2.out.1 sh (by omega) (by omega)).mono ?_
      rintro r w3 ⟨g3, cp3, m3, rfl, HS3, hm3⟩
      have q := HS3.out.2.ent.cell (j := 0) rfl
      go_wp2_with fail
      clear q
      rw [← HRS2.out]
      refine (bb_text HS3.out.2 m3 HS3.out.1 rs (by omega) (by omega)).mono ?_
      rintro r w4 ⟨g4, cp4, m4, rfl, HS4, hm4⟩
      have q := HS4.out.2.ent.cell (j := 1) rfl
      go_wp2_with fail
      clear q
      refine (bb_text HS4.out.2 m4 HS4.out.1 e.fam (by omega) (by omega)).mono ?_
      rintro r w5 ⟨g5, cp5, m5, rfl, HS5, hm5⟩
      have q := HS5.out.2.ent.cell (j := 2) rfl
      go_wp2_with fail
      clear q
      refine (bb_text HS5.out.2 m5 HS5.out.1 e.qual (by omega) (by omega)).mono ?_
      rintro r w6 ⟨g6, cp6, m6, rfl, HS6, hm6⟩
      have q := HS6.out.2.ent.cell (j := 3) rfl
      go_wp2_with fail
      clear q
      first | rw [htn] | skip
      refine (bb_num HS6.out.2 m6 HS6.out.1 tn (by omega) (by omega)).mono ?_
      rintro r w7 ⟨g7, cp7, m7, rfl, HS7, hm7⟩
      have q := HS7.out.2.ent.cell (j := 4) rfl
      go_wp2_with fail
      clear q
      first | rw [hkn] | skip
      refine (bb_num HS7.out.2 m7 HS7.out.1 kn (by omega) (by omega)).mono ?_
      rintro r w8 ⟨g8, cp8, m8, rfl, HS8, hm8⟩
      have q := HS8.out.2.ent.cell (j := 5) rfl
      go_wp2_with fail
      clear q
      refine (bb_text HS8.out.2 m8 HS8.out.1 e.val (by omega) (by omega)).mono ?_
      rintro r w9 ⟨g9, cp9, m9, rfl, HS9, hm9⟩
      have q := HS9.out.2.ent.cell (j := 0) rfl
      have HFin : Hid (m9 = (body [] (es.take (k + 1))).length ∧ OwnY w9 w.heap.size g9 cp9 (body [] (es.take (k + 1))) ∧ Below w.heap.size w w9 ∧ bl e.row = lastRow [] (es.take (k + 1))) := by
        have e1 : body [] (es.take (k + 1)) = X0 ++ num sh ++ strB (bl rs) ++ strB (bl e.fam) ++ strB (bl e.qual) ++ num tn ++ num kn ++ strB (bl e.val) := by
          rw [HT.out, body_snoc, ← HX0.out.1, entB, ← HSh.out, HTK.out.1, HTK.out.2, HRS.out]
          simp only [List.append_assoc]
        rw [e1]
        exact ⟨HS9.out.1, HS9.out.2.out, HS9.out.2.below, by rw [HT.out, lastRow_snoc]⟩
      go_wp2_with fail
      go_roundw
      case rel => exact ⟨k + 1, m9, g9, cp9, e.row, by omega, by go_num, HFin.out.1, rfl, rfl, by omega, HFin.out.2.2.2, HFin.out.2.1, HFin.out.2.2.1⟩
      case measure => simp [intOf]; omega
    · have zk : ¬ (k : Int) < (n : Int) := by omega
      have HFin : Hid (X0 = body [] es ∧ m = (body [] es).length) := by
        have h1 := HX0.out.1
        rw [List.take_of_length_le (by have := HN.out; omega)] at h1
        exact ⟨h1, by rw [← h1]; exact HX0.out.2.1⟩
      go_wp2_with fail
      go_ret
      exact ⟨g, cp, by rw [← HFin.out.2]; rfl, by rw [← HFin.out.1]; exact HO.out, hb⟩
end Go.Proofs.YtlgeffinhbodeacDoor

/-
  spec.l2Body.
-/
namespace Go.Proofs.YtlgeffinhbodeacDoor
open Go.ChangeShapes Go.WideShapes Go.ChangeAt Go.RowKit Go.Deep
set_option linter.unusedVariables false
set_option linter.unusedSimpArgs false
set_option maxRecDepth 100000

/-- Bytes being written, beside an entry of the round's. -/
structure ES (w0 : World) (ge : Nat) (e : Ent) (g cp : Nat) (xs : List UInt8) (wr : World) : Prop where
  out : OwnY wr w0.heap.size g cp xs
  c0 : wr.cell? ⟨ge, 0, none⟩ = some (.string e.row)
  c1 : wr.cell? ⟨ge, 1, none⟩ = some (.string e.fam)
  c2 : wr.cell? ⟨ge, 2, none⟩ = some (.string e.qual)
  c3 : wr.cell? ⟨ge, 3, none⟩ = some (.int .u64 e.ts)
  c4 : wr.cell? ⟨ge, 4, none⟩ = some (.int .i64 e.kind)
  c5 : wr.cell? ⟨ge, 5, none⟩ = some (.string e.val)
  lt : ge < wr.heap.size
  ne : ¬ ge = g
  below : Below w0.heap.size w0 wr
theorem ES.call {w0 : World} {ge : Nat} {e : Ent} {g cp : Nat} {xs : List UInt8} {wr w1 : World} (h : ES w0 ge e g cp xs wr) (hb : Below wr.heap.size wr w1) : ES w0 ge e g cp xs w1 := by
  have hs := hb.size
  have hl := h.lt
  have q : ∀ j, w1.cell? ⟨ge, j, none⟩ = wr.cell? ⟨ge, j, none⟩ := fun j => hb.cell (p := ⟨ge, j, none⟩) hl
  exact ⟨h.out.below hb, by rw [q]; exact h.c0, by rw [q]; exact h.c1, by rw [q]; exact h.c2, by rw [q]; exact h.c3, by rw [q]; exact h.c4, by rw [q]; exact h.c5, by omega, h.ne, h.below.trans (hb.mono h.below.size)⟩
theorem ES.app {w0 : World} {ge : Nat} {e : Ent} {g cp g' cp' : Nat} {xs ys : List UInt8} {wr w1 : World} (h : ES w0 ge e g cp xs wr) (hO : OwnY w1 w0.heap.size g' cp' ys) (hgr : wr.grownBy w1 (some g)) (hat : g' = g ∨ g' = wr.heap.size) : ES w0 ge e g' cp' ys w1 := by
  have hl := h.lt
  have hn := h.ne
  have hs := hgr.size
  have q : ∀ j, w1.cell? ⟨ge, j, none⟩ = wr.cell? ⟨ge, j, none⟩ := fun j => World.cell?_of_block (w := wr) (hgr.block ge hl (fun z => hn (Option.some.inj z)))
  exact ⟨hO, by rw [q]; exact h.c0, by rw [q]; exact h.c1, by rw [q]; exact h.c2, by rw [q]; exact h.c3, by rw [q]; exact h.c4, by rw [q]; exact h.c5, by omega, by omega, h.below.grown hgr h.below.size (fun k hk => by cases hk; exact h.out.lt.1)⟩

end Go.Proofs.YtlgeffinhbodeacDoor

/-
  spec.l2File.
-/
namespace Go.Proofs.YtlgeffinhbodeacDoor
open Go.ChangeShapes Go.WideShapes Go.ChangeAt Go.RowKit Go.Deep
set_option linter.unusedVariables false
set_option linter.unusedSimpArgs false
set_option maxRecDepth 100000

/-- Bytes that are written on: a row of the call's own, or a row that is full. -/
def OutB (w : World) (base g cp : Nat) (xs : List UInt8) : Prop := OwnY w base g cp xs ∨ (base ≤ g ∧ g < w.heap.size ∧ BysAt w g 0 xs ∧ cp = xs.length)
theorem OutB.lt {w : World} {base g cp : Nat} {xs : List UInt8} (h : OutB w base g cp xs) : base ≤ g ∧ g < w.heap.size := by
  rcases h with h | h
  · exact h.lt
  · exact ⟨h.1, h.2.1⟩
theorem BysAt.chg {S : Nat → Prop} {w w' : World} {b off : Nat} {xs : List UInt8} (h : BysAt w b off xs) (hc : Chg S w w') (hlt : b < w.heap.size) (hn : ¬ S b) : BysAt w' b off xs := by
  intro i x hx
  rw [World.cell?_of_block (w := w) (a := ⟨b, off + i, none⟩) (hc.block b hlt hn)]
  exact h i x hx
theorem OutB.chg {S : Nat → Prop} {w w' : World} {base g cp : Nat} {xs : List UInt8} (h : OutB w base g cp xs) (hc : Chg S w w') (hn : ¬ S g) : OutB w' base g cp xs := by
  rcases h with h | ⟨h1, h2, h3, h4⟩
  · exact .inl (h.chg hc hn)
  · exact .inr ⟨h1, by have := hc.size; omega, h3.chg hc h2 hn, h4⟩
theorem OutB.at {w : World} {base g cp : Nat} {xs : List UInt8} (h : OutB w base g cp xs) : BysAt w g 0 xs := by
  rcases h with h | h
  · exact h.at
  · exact h.2.2.1
theorem wpList_append_out {ops : Array Oper} {rest : List Oper} {o : Oper} {a : Act} {Q : Exit → Act → World → Prop} (w : World) (hgd : o.guard = none) (s x : Operand)
    (ho : o.op = .call { callee := .builtin .append, args := #[s, x], argTypes := #[22, 22] })
    (base g cp n b off m cx : Nat) (l k : List UInt8) (hs : a.eval s = .slice (some ⟨g, 0, none⟩) n cp) (hx : a.eval x = .slice (some ⟨b, off, none⟩) m cx) (hn : n = l.length) (hm : m = k.length) (hO : OutB w base g cp l)
    (hc : BysAt w b off k) (hk : 0 < k.length) (hlen : l.length + k.length ≤ 2 ^ 30) (hbase : base ≤ w.heap.size)
    (h : ∀ g' cp' w', OwnY w' base g' cp' (l ++ k) → w.grownBy w' (some g) → (g' = g ∨ w.heap.size ≤ g') → wpList Tryd.prog ops Q rest (a.put o.dst (.slice (some ⟨g', 0, none⟩) (n + m) cp')) w') : wpList Tryd.prog ops Q (o :: rest) a w := by
  rcases hO with hO | ⟨h1, h2, h3, h4⟩
  · exact wpList_append_bys w hgd s x ho base g cp n b off m cx l k hs hx hn hm hO hc hlen hbase (fun g' cp' w' q1 q2 q3 => h g' cp' w' q1 q2 (by rcases q3 with q | q; exact .inl q; exact .inr (Nat.le_of_eq q.symm)))
  · subst hn hm
    obtain ⟨i, hi, hz0, hz1, hz2⟩ := info_parts Tryd.infoByte
    refine wpList_append_grows w hgd s x 22 ho 5 i _ 1 1 Tryd.underlying22 hi hz0 hz1 hz2 rfl (by decide) (some ⟨g, 0, none⟩) l.length cp (l.map ub) hs (fun q => by cases q) (by simp) ?_ ⟨b, off, none⟩ k.length cx (k.map ub) hx (by simp) ?_ (ub_one k) (by omega) (by unfold maxLen; omega) (by omega) ?_
    · intro b' hb' j u hu
      cases hb'
      rw [List.getElem?_map] at hu
      cases hk : l[j]? with
      | none => rw [hk] at hu; cases hu
      | some r =>
        rw [hk] at hu
        simp at hu
        rw [Addr.add_mid, h3 j r hk, ← hu]
    · intro j u hu
      rw [List.getElem?_map] at hu
      cases hk : k[j]? with
      | none => rw [hk] at hu; cases hu
      | some r =>
        rw [hk] at hu
        simp at hu
        rw [Addr.add_mid, hc j r hk, ← hu]
    · intro v' w' hO' hgr
      rcases hO'.2 with ⟨h0, hz⟩ | ⟨g', cap', cur, hv, hb', _, hn, hcap, _, _⟩
      · omega
      · subst hv
        refine h g' cap' w' ?_ ⟨hgr.os, hgr.tape, hgr.output, hgr.size, fun k hk _ => hgr.block k hk (fun q => by cases q)⟩ (.inr hb')
        refine OwnY.mono (base := w.heap.size) ?_ hbase
        unfold OwnY
        rw [List.length_append, List.map_append]
        exact hO'
/-- The file and its index being written. -/
structure FS (w0 : World) (g cp : Nat) (X : List UInt8) (gi ci : Nat) (Y : List UInt8) (wr : World) : Prop where
  out : OutB wr w0.heap.size g cp X
  idx : OwnY wr w0.heap.size gi ci Y
  ne : ¬ g = gi
  below : Below w0.heap.size w0 wr
theorem FS.call {w0 : World} {g cp : Nat} {X : List UInt8} {gi ci : Nat} {Y : List UInt8} {wr w1 : World} (h : FS w0 g cp X gi ci Y wr) (hb : Below wr.heap.size wr w1) : FS w0 g cp X gi ci Y w1 :=
  ⟨h.out.chg (Chg.of_below hb) (S := fun _ => False) (fun q => q), h.idx.below hb, h.ne, h.below.trans (hb.mono h.below.size)⟩
theorem FS.appO {w0 : World} {g cp : Nat} {X : List UInt8} {gi ci : Nat} {Y : List UInt8} {wr w1 : World} {g' cp' : Nat} {X' : List UInt8} (h : FS w0 g cp X gi ci Y wr) (hO : OwnY w1 w0.heap.size g' cp' X') (hgr : wr.grownBy w1 (some g)) (hat : g' = g ∨ wr.heap.size ≤ g') : FS w0 g' cp' X' gi ci Y w1 := by
  have hi := h.idx.lt
  have hn := h.ne
  exact ⟨.inl hO, h.idx.chg (Chg.of_grown hgr (S := fun k => k = g) (fun k hk => by cases hk; rfl)) (fun q => hn q.symm), by omega, h.below.grown hgr h.below.size (fun k hk => by cases hk; exact h.out.lt.1)⟩
theorem FS.appI {w0 : World} {g cp : Nat} {X : List UInt8} {gi ci : Nat} {Y : List UInt8} {wr w1 : World} {g' cp' : Nat} {Y' : List UInt8} (h : FS w0 g cp X gi ci Y wr) (hO : OwnY w1 w0.heap.size g' cp' Y') (hgr : wr.grownBy w1 (some gi)) (hat : g' = gi ∨ g' = wr.heap.size) : FS w0 g cp X g' cp' Y' w1 := by
  have hi := h.out.lt
  have hn := h.ne
  exact ⟨h.out.chg (Chg.of_grown hgr (S := fun k => k = gi) (fun k hk => by cases hk; rfl)) hn, hO, by omega, h.below.grown hgr h.below.size (fun k hk => by cases hk; exact h.idx.lt.1)⟩

end Go.Proofs.YtlgeffinhbodeacDoor

/-
  The state of impl.EncodeRun's loop.
-/
namespace Go.Proofs.YtlgeffinhbodeacDoor
open Go.ChangeShapes Go.WideShapes Go.ChangeAt Go.RowKit Go.Deep
set_option linter.unusedVariables false
set_option linter.unusedSimpArgs false
set_option maxRecDepth 100000

structure EnS (w Wst : World) (SS : Nat → Prop) (T B6 B7 B8 : Nat) (F M : List UInt8) (c mf gf cpf mm gm cpm : Nat) (W : World) : Prop where
  file : BoxAt W w.heap.size 22 1 B6 [.slice (some ⟨gf, 0, none⟩) mf cpf]
  mfl : mf = F.length
  frow : OutB W w.heap.size gf cpf F
  marks : BoxAt W w.heap.size 22 1 B7 [.slice (some ⟨gm, 0, none⟩) mm cpm]
  mml : mm = M.length
  mrow : OwnY W w.heap.size gm cpm M
  cnt : BoxAt W w.heap.size 68 1 B8 [.int .u64 (c : Int)]
  tab : TabAt W T 0
  tlt : w.heap.size ≤ T ∧ T < W.heap.size
  n1 : ¬ B6 = B7 ∧ ¬ B6 = B8 ∧ ¬ B7 = B8 ∧ ¬ T = B6 ∧ ¬ T = B7 ∧ ¬ T = B8
  n2 : ¬ gf = B6 ∧ ¬ gf = B7 ∧ ¬ gf = B8 ∧ ¬ gf = gm ∧ ¬ gf = T
  n3 : ¬ gm = B6 ∧ ¬ gm = B7 ∧ ¬ gm = B8 ∧ ¬ gm = T
  below : Below w.heap.size w W
  ch : Chg SS Wst W
  ss : SS B6 ∧ SS B7 ∧ SS B8 ∧ (SS gf ∨ Wst.heap.size ≤ gf) ∧ (SS gm ∨ Wst.heap.size ≤ gm)
variable {w Wst : World} {SS : Nat → Prop} {T B6 B7 B8 : Nat} {F M : List UInt8} {c mf gf cpf mm gm cpm : Nat} {W W1 : World}
theorem ne_of {g' g S B : Nat} (hat : g' = g ∨ S ≤ g') (h : ¬ g = B) (hl : B < S) : ¬ g' = B := by
  rcases hat with rfl | q
  · exact h
  · omega
theorem Chg.takeIn {S T : Nat → Prop} {w w1 w2 : World} (h : Chg S w w1) (k : Chg T w1 w2) (hT : ∀ j, T j → S j ∨ w.heap.size ≤ j) : Chg S w w2 :=
  ⟨k.os.trans h.os, k.tape.trans h.tape, k.output.trans h.output, Nat.le_trans h.size k.size, fun i hi hn => (k.block i (Nat.lt_of_lt_of_le hi h.size) (fun q => by rcases hT i q with q | q; exact hn q; omega)).trans (h.block i hi hn)⟩
theorem tab_chg {S : Nat → Prop} {w w' : World} {T : Nat} (h : TabAt w T 0) (hc : Chg S w w') (hl : T < w.heap.size) (hn : ¬ S T) : TabAt w' T 0 := fun i hi => by
  rw [hc.cell (p := ⟨T, 0 + i, none⟩) hl hn]; exact h i hi
theorem EnS.move (h : EnS w Wst SS T B6 B7 B8 F M c mf gf cpf mm gm cpm W) (hb : Below W.heap.size W W1) : EnS w Wst SS T B6 B7 B8 F M c mf gf cpf mm gm cpm W1 :=
  ⟨h.file.below hb, h.mfl, h.frow.chg (Chg.of_below hb) (S := fun _ => False) (fun q => q), h.marks.below hb, h.mml, h.mrow.below hb, h.cnt.below hb, h.tab.below hb h.tlt.2, ⟨h.tlt.1, Nat.lt_of_lt_of_le h.tlt.2 hb.size⟩, h.n1, h.n2, h.n3, h.below.trans (hb.mono h.below.size), h.ch.trans (Chg.of_below hb), h.ss⟩
/-- The file's row grown, then its variable set. -/
theorem EnS.newFile (h : EnS w Wst SS T B6 B7 B8 F M c mf gf cpf mm gm cpm W) {gf' cpf' mf' : Nat} {F' : List UInt8} (hO : OwnY W1 w.heap.size gf' cpf' F') (hC : Chg (fun k => k = gf) W W1) (hat : gf' = gf ∨ W.heap.size ≤ gf') (hm : mf' = F'.length) :
    EnS w Wst SS T B6 B7 B8 F' M c mf' gf' cpf' mm gm cpm (W1.setCell ⟨B6, 0, none⟩ (.slice (some ⟨gf', 0, none⟩) mf' cpf')) ∧ W1.cell? ⟨B6, 0, none⟩ = some (.slice (some ⟨gf, 0, none⟩) mf cpf) ∧ W1.frozen? ⟨B6, 0, none⟩ = false := by
  obtain ⟨a1, a2, a3, a4, a5, a6⟩ := h.n1
  obtain ⟨b1, b2, b3, b4, b5⟩ := h.n2
  obtain ⟨c1, c2, c3, c4⟩ := h.n3
  have l6 := h.file.lt
  have l7 := h.marks.lt
  have l8 := h.cnt.lt
  have lm := h.mrow.lt
  have lf := h.frow.lt
  have lt := h.tlt
  have hs := Chg.of_set W1 B6 0 (.slice (some ⟨gf', 0, none⟩) mf' cpf') (S := fun k => k = B6) rfl
  have hsz := hC.size
  have hbx := h.file.chg hC (fun q => b1 q.symm)
  have e6 := ne_of hat b1 l6.2
  have e7 := ne_of hat b2 l7.2
  have e8 := ne_of hat b3 l8.2
  have em := ne_of hat b4 lm.2
  have eT := ne_of hat b5 lt.2
  have hsz2 := hs.size
  refine ⟨⟨hbx.set 0 _, hm, .inl (hO.chg hs e6), (h.marks.chg hC (fun q => b2 q.symm)).chg hs (fun q => a1 q.symm), h.mml, (h.mrow.chg hC (fun q => b4 q.symm)).chg hs c1, (h.cnt.chg hC (fun q => b3 q.symm)).chg hs (fun q => a2 q.symm), tab_chg (tab_chg h.tab hC lt.2 (fun q => b5 q.symm)) hs (Nat.lt_of_lt_of_le lt.2 hsz) a4, ⟨lt.1, Nat.lt_of_lt_of_le lt.2 (Nat.le_trans hsz hsz2)⟩, h.n1, ⟨e6, e7, e8, em, eT⟩, h.n3, ?_, ?_, ?_⟩, hbx.cell (j := 0) rfl, hbx.frozen 0⟩
  · exact below_set (Chg.below h.below hC h.below.size (fun k q => by subst q; exact lf.1)) l6.1 0 _
  · exact (h.ch.takeIn hC (fun k q => by subst q; exact h.ss.2.2.2.1)).takeIn hs (fun k q => by subst q; exact .inl h.ss.1)
  · obtain ⟨s1, s2, s3, s4, s5⟩ := h.ss
    refine ⟨s1, s2, s3, ?_, s5⟩
    rcases hat with q | q
    · rw [q]; exact s4
    · exact .inr (Nat.le_trans h.ch.size q)
theorem EnS.newMarks (h : EnS w Wst SS T B6 B7 B8 F M c mf gf cpf mm gm cpm W) {gm' cpm' mm' : Nat} {M' : List UInt8} (hO : OwnY W1 w.heap.size gm' cpm' M') (hC : Chg (fun k => k = gm) W W1) (hat : gm' = gm ∨ W.heap.size ≤ gm') (hm : mm' = M'.length) :
    EnS w Wst SS T B6 B7 B8 F M' c mf gf cpf mm' gm' cpm' (W1.setCell ⟨B7, 0, none⟩ (.slice (some ⟨gm', 0, none⟩) mm' cpm')) ∧ W1.cell? ⟨B7, 0, none⟩ = some (.slice (some ⟨gm, 0, none⟩) mm cpm) ∧ W1.frozen? ⟨B7, 0, none⟩ = false := by
  obtain ⟨a1, a2, a3, a4, a5, a6⟩ := h.n1
  obtain ⟨b1, b2, b3, b4, b5⟩ := h.n2
  obtain ⟨c1, c2, c3, c4⟩ := h.n3
  have l6 := h.file.lt
  have l7 := h.marks.lt
  have l8 := h.cnt.lt
  have lm := h.mrow.lt
  have lf := h.frow.lt
  have lt := h.tlt
  have hs := Chg.of_set W1 B7 0 (.slice (some ⟨gm', 0, none⟩) mm' cpm') (S := fun k => k = B7) rfl
  have hsz := hC.size
  have hbx := h.marks.chg hC (fun q => c2 q.symm)
  have e6 := ne_of hat c1 l6.2
  have e7 := ne_of hat c2 l7.2
  have e8 := ne_of hat c3 l8.2
  have ef := ne_of hat (fun q => b4 q.symm) lf.2
  have eT := ne_of hat c4 lt.2
  have hsz2 := hs.size
  refine ⟨⟨(h.file.chg hC (fun q => c1 q.symm)).chg hs a1, h.mfl, (h.frow.chg hC b4).chg hs b2, hbx.set 0 _, hm, hO.chg hs e7, (h.cnt.chg hC (fun q => c3 q.symm)).chg hs (fun q => a3 q.symm), tab_chg (tab_chg h.tab hC lt.2 (fun q => c4 q.symm)) hs (Nat.lt_of_lt_of_le lt.2 hsz) a5, ⟨lt.1, Nat.lt_of_lt_of_le lt.2 (Nat.le_trans hsz hsz2)⟩, h.n1, ⟨b1, b2, b3, fun q => ef q.symm, b5⟩, ⟨e6, e7, e8, eT⟩, ?_, ?_, ?_⟩, hbx.cell (j := 0) rfl, hbx.frozen 0⟩
  · exact below_set (Chg.below h.below hC h.below.size (fun k q => by subst q; exact lm.1)) l7.1 0 _
  · exact (h.ch.takeIn hC (fun k q => by subst q; exact h.ss.2.2.2.2)).takeIn hs (fun k q => by subst q; exact .inl h.ss.2.1)
  · obtain ⟨s1, s2, s3, s4, s5⟩ := h.ss
    refine ⟨s1, s2, s3, s4, ?_⟩
    rcases hat with q | q
    · rw [q]; exact s5
    · exact .inr (Nat.le_trans h.ch.size q)
theorem EnS.incr (h : EnS w Wst SS T B6 B7 B8 F M c mf gf cpf mm gm cpm W) : EnS w Wst SS T B6 B7 B8 F M (c + 1) mf gf cpf mm gm cpm (W.setCell ⟨B8, 0, none⟩ (.int .u64 ((c : Int) + 1))) := by
  obtain ⟨a1, a2, a3, a4, a5, a6⟩ := h.n1
  obtain ⟨b1, b2, b3, b4, b5⟩ := h.n2
  obtain ⟨c1, c2, c3, c4⟩ := h.n3
  have l8 := h.cnt.lt
  have lt := h.tlt
  have hs := Chg.of_set W B8 0 (.int .u64 ((c : Int) + 1)) (S := fun k => k = B8) rfl
  exact ⟨h.file.chg hs a2, h.mfl, h.frow.chg hs b3, h.marks.chg hs a3, h.mml, h.mrow.chg hs c3, h.cnt.set 0 _, tab_chg h.tab hs lt.2 a6, ⟨lt.1, Nat.lt_of_lt_of_le lt.2 hs.size⟩, h.n1, h.n2, h.n3, below_set h.below l8.1 0 _, h.ch.takeIn hs (fun k q => by subst q; exact .inl h.ss.2.2.1), h.ss⟩
end Go.Proofs.YtlgeffinhbodeacDoor

/-
  The state between the rounds of impl.EncodeRun's loop.
-/
namespace Go.Proofs.YtlgeffinhbodeacDoor
open Go.ChangeShapes Go.WideShapes Go.ChangeAt Go.RowKit Go.Deep Go.Shelf
set_option linter.unusedVariables false
set_option linter.unusedSimpArgs false
set_option maxRecDepth 100000

variable {w Wst : World} {SS : Nat → Prop} {T B6 B7 B8 : Nat} {F M : List UInt8} {c mf gf cpf mm gm cpm : Nat} {W W1 : World}
theorem chg_true (h : Below w.heap.size w W) : Chg (fun _ => True) w W := ⟨h.os, h.tape, h.output, h.size, fun k hk q => absurd trivial q⟩
/-- A round begins. -/
theorem EnS.rebase (h : EnS w Wst SS T B6 B7 B8 F M c mf gf cpf mm gm cpm W) : EnS w W (fun k => k = B6 ∨ k = B7 ∨ k = B8 ∨ k = gf ∨ k = gm) T B6 B7 B8 F M c mf gf cpf mm gm cpm W :=
  ⟨h.file, h.mfl, h.frow, h.marks, h.mml, h.mrow, h.cnt, h.tab, h.tlt, h.n1, h.n2, h.n3, h.below, Chg.refl _ _, ⟨.inl rfl, .inr (.inl rfl), .inr (.inr (.inl rfl)), .inl (.inr (.inr (.inr (.inl rfl)))), .inl (.inr (.inr (.inr (.inr rfl))))⟩⟩
/-- A round ends. -/
theorem EnS.forget (h : EnS w Wst SS T B6 B7 B8 F M c mf gf cpf mm gm cpm W) : EnS w w (fun _ => True) T B6 B7 B8 F M c mf gf cpf mm gm cpm W :=
  ⟨h.file, h.mfl, h.frow, h.marks, h.mml, h.mrow, h.cnt, h.tab, h.tlt, h.n1, h.n2, h.n3, h.below, chg_true h.below, ⟨trivial, trivial, trivial, .inl trivial, .inl trivial⟩⟩
/-- What lies in a block of cells. -/
theorem cells_of_cell {w : World} {g o : Nat} {v : Value} (h : w.cell? ⟨g, o, none⟩ = some v) : ∃ x : Obj, w.heap[g]? = some x ∧ x.isCells = true := by
  unfold World.cell? at h
  cases hx : w.heap[g]? with
  | none => simp [hx] at h
  | some x =>
    refine ⟨x, rfl, ?_⟩
    cases x <;> simp_all [Obj.isCells]
theorem cells_of_own {w : World} {base e size : Nat} {g cp n : Nat} {xs : List Value} (h : w.ownsRow base e size (.slice (some ⟨g, 0, none⟩) n cp) n xs) : ∃ x : Obj, w.heap[g]? = some x ∧ x.isCells = true := by
  rcases h.2 with ⟨h0, _⟩ | ⟨g', cap', cur, hv, _, hc, _⟩
  · cases h0
  · simp only [Value.slice.injEq, Option.some.injEq, Addr.mk.injEq, and_true, true_and] at hv
    obtain ⟨rfl, rfl⟩ := hv
    exact ⟨_, hc, rfl⟩
theorem cells_of_out {w : World} {base g cp : Nat} {xs : List UInt8} (h : OutB w base g cp xs) (hx : 0 < xs.length) : ∃ x : Obj, w.heap[g]? = some x ∧ x.isCells = true := by
  obtain ⟨y, hy⟩ : ∃ y, xs[0]? = some y := ⟨_, List.getElem?_eq_getElem hx⟩
  exact cells_of_cell (h.at 0 y hy)
/-- The blocks of a round are cells. -/
theorem EnS.cells (h : EnS w Wst SS T B6 B7 B8 F M c mf gf cpf mm gm cpm W) (hF : 0 < F.length) : ∀ k, (k = B6 ∨ k = B7 ∨ k = B8 ∨ k = gf ∨ k = gm) → ∃ x : Obj, W.heap[k]? = some x ∧ x.isCells = true := by
  rintro k (rfl | rfl | rfl | rfl | rfl)
  · exact cells_of_own h.file
  · exact cells_of_own h.marks
  · exact cells_of_own h.cnt
  · exact cells_of_out h.frow hF
  · exact cells_of_own h.mrow
theorem keeps_of {S : Nat → Prop} {B : Nat} {W W' : World} (hC : Chg S W W') (hS : ∀ k, S k → ∃ x : Obj, W.heap[k]? = some x ∧ x.isCells = true) : KeepsFrom B W W' := by
  refine ⟨hC.size, fun k o _ hk ho => ?_⟩
  have hlt : k < W.heap.size := (Array.getElem?_eq_some_iff.1 hk).1
  rw [hC.block k hlt (fun q => by
    obtain ⟨x, hx, hc⟩ := hS k q
    rw [hk] at hx
    cases hx
    rw [ho] at hc
    cases hc)]
  exact hk
theorem EnS.grown {row : Option Nat} (h : EnS w w (fun _ => True) T B6 B7 B8 F M c mf gf cpf mm gm cpm W) (hF : 0 < F.length) (hg : W.grownBy W1 row) (hr : ∀ r, row = some r → ∃ o : Obj, W.heap[r]? = some o ∧ o.isCells = false) (hrB : ∀ r, row = some r → w.heap.size ≤ r) : EnS w w (fun _ => True) T B6 B7 B8 F M c mf gf cpf mm gm cpm W1 := by
  have hne : ∀ k, (∃ x : Obj, W.heap[k]? = some x ∧ x.isCells = true) → ¬ row = some k := fun k ⟨x, hx, hc⟩ q => by
    obtain ⟨o, ho, hf⟩ := hr k q
    rw [hx] at ho
    cases ho
    rw [hc] at hf
    cases hf
  have hc := h.cells hF
  have hC : Chg (fun k => row = some k) W W1 := Chg.of_grown hg (fun k hk => hk)
  have hT : ¬ row = some T := hne T (cells_of_cell (h.tab 0 (by decide)))
  have hB : Below w.heap.size w W1 := Chg.below h.below hC h.below.size (fun k q => hrB k q)
  exact ⟨h.file.chg hC (hne _ (hc _ (.inl rfl))), h.mfl, h.frow.chg hC (hne _ (hc _ (.inr (.inr (.inr (.inl rfl)))))), h.marks.chg hC (hne _ (hc _ (.inr (.inl rfl)))), h.mml, h.mrow.chg hC (hne _ (hc _ (.inr (.inr (.inr (.inr rfl)))))), h.cnt.chg hC (hne _ (hc _ (.inr (.inr (.inl rfl))))), tab_chg h.tab hC h.tlt.2 hT, ⟨h.tlt.1, Nat.lt_of_lt_of_le h.tlt.2 hC.size⟩, h.n1, h.n2, h.n3, hB, chg_true hB, h.ss⟩
end Go.Proofs.YtlgeffinhbodeacDoor

/-
  The steps of a round of impl.EncodeRun's loop.
-/
namespace Go.Proofs.YtlgeffinhbodeacDoor
open Go.ChangeShapes Go.WideShapes Go.ChangeAt Go.RowKit Go.Deep Go.Shelf
set_option linter.unusedVariables false
set_option linter.unusedSimpArgs false
set_option maxRecDepth 100000

variable {w Wst : World} {SS : Nat → Prop} {T B6 B7 B8 : Nat} {F M : List UInt8} {c mf gf cpf mm gm cpm : Nat} {W V : World}
theorem own_block {g cp n : Nat} {S : Nat → Prop} {W W' : World} (hC : Chg (fun k => (Value.slice (some ⟨g, 0, none⟩) n cp).ownBlock = some k) W W') : Chg (fun k => k = g) W W' := hC.mono (fun k q => by simp [Value.ownBlock] at q; exact q.symm)
theorem own_at {g cp n g' B : Nat} (h : (Value.slice (some ⟨g, 0, none⟩) n cp).ownBlock = some g' ∨ B ≤ g') : g' = g ∨ B ≤ g' := by
  rcases h with q | q
  · simp [Value.ownBlock] at q; exact .inl q.symm
  · exact .inr q
theorem en_num (h : EnS w Wst SS T B6 B7 B8 F M c mf gf cpf mm gm cpm W) (hV : Below W.heap.size W V) (x : Nat) (hx : x < 2 ^ 64) (hl : mm ≤ 2 ^ 27) :
    Calls Tryd.prog 39 #[.slice (some ⟨gm, 0, none⟩) mm cpm, .int .u64 (x : Int)] V fun e w' => ∃ g cp m, e = .returned (.slice (some ⟨g, 0, none⟩) m cp) ∧ m ≤ mm + 10 ∧ Hid (EnS w Wst SS T B6 B7 B8 F (M ++ num x) c mf gf cpf m g cp (w'.setCell ⟨B7, 0, none⟩ (.slice (some ⟨g, 0, none⟩) m cp))) ∧ w'.cell? ⟨B7, 0, none⟩ = some (.slice (some ⟨gm, 0, none⟩) mm cpm) ∧ w'.frozen? ⟨B7, 0, none⟩ = false := by
  have hJ := h.move hV
  have hm := hJ.mml
  have hr := OwnS.of hJ.mrow
  rw [← hm] at hr
  refine (appendNumber_core w.heap.size _ M x V hr hx (by omega) hJ.below.size).mono ?_
  rintro e w' ⟨g, cp, rfl, hO, hC, hat⟩
  have h1 := hJ.newMarks hO (own_block (S := fun _ => False) hC) (own_at hat) rfl
  refine ⟨g, cp, _, rfl, ?_, h1.1, h1.2⟩
  have := num_len64 hx
  rw [List.length_append]
  omega
theorem en_text (h : EnS w Wst SS T B6 B7 B8 F M c mf gf cpf mm gm cpm W) (hV : Below W.heap.size W V) (s : ByteArray) (hs : s.size ≤ 200) (hl : mm ≤ 2 ^ 27) :
    Calls Tryd.prog 40 #[.slice (some ⟨gm, 0, none⟩) mm cpm, .string s] V fun e w' => ∃ g cp m, e = .returned (.slice (some ⟨g, 0, none⟩) m cp) ∧ m ≤ mm + 300 ∧ Hid (EnS w Wst SS T B6 B7 B8 F (M ++ strB (bl s)) c mf gf cpf m g cp (w'.setCell ⟨B7, 0, none⟩ (.slice (some ⟨g, 0, none⟩) m cp))) ∧ w'.cell? ⟨B7, 0, none⟩ = some (.slice (some ⟨gm, 0, none⟩) mm cpm) ∧ w'.frozen? ⟨B7, 0, none⟩ = false := by
  have hJ := h.move hV
  have hm := hJ.mml
  have hr := OwnS.of hJ.mrow
  rw [← hm] at hr
  have e1 : M ++ num s.size ++ bl s = M ++ strB (bl s) := by unfold strB; rw [bl_len, List.append_assoc]
  refine (appendText_core w.heap.size _ M s V hr (by omega) hJ.below.size).mono ?_
  rintro e w' ⟨g, cp, rfl, hO, hC, hat⟩
  rw [e1] at hO ⊢
  have h1 := hJ.newMarks hO (own_block (S := fun _ => False) hC) (own_at hat) rfl
  refine ⟨g, cp, _, rfl, ?_, h1.1, h1.2⟩
  have := strB_len (s := bl s) (by rw [bl_len]; omega)
  rw [bl_len] at this
  rw [List.length_append]
  omega
theorem en_fix (h : EnS w Wst SS T B6 B7 B8 F M c mf gf cpf mm gm cpm W) (hO0 : OwnY W w.heap.size gf cpf F) (hV : Below W.heap.size W V) (x : Nat) (hx : x < 2 ^ 32) (hl : mf ≤ 2 ^ 27) :
    Calls Tryd.prog 37 #[.slice (some ⟨gf, 0, none⟩) mf cpf, .int .u32 (x : Int)] V fun e w' => ∃ g cp m, e = .returned (.slice (some ⟨g, 0, none⟩) m cp) ∧ m ≤ mf + 4 ∧ Hid (EnS w Wst SS T B6 B7 B8 (F ++ fixed x) M c m g cp mm gm cpm (w'.setCell ⟨B6, 0, none⟩ (.slice (some ⟨g, 0, none⟩) m cp)) ∧ OwnY (w'.setCell ⟨B6, 0, none⟩ (.slice (some ⟨g, 0, none⟩) m cp)) w.heap.size g cp (F ++ fixed x)) ∧ w'.cell? ⟨B6, 0, none⟩ = some (.slice (some ⟨gf, 0, none⟩) mf cpf) ∧ w'.frozen? ⟨B6, 0, none⟩ = false := by
  have hJ := h.move hV
  have hm := hJ.mfl
  have hr := OwnS.of (hO0.below hV)
  rw [← hm] at hr
  refine (appendFixed_core w.heap.size _ F x V hr hx (by omega) hJ.below.size).mono ?_
  rintro e w' ⟨g, cp, rfl, hO, hC, hat⟩
  have hat' := own_at hat
  have h1 := hJ.newFile hO (own_block (S := fun _ => False) hC) hat' rfl
  have hne : ¬ g = B6 := h1.1.n2.1
  have hs := Chg.of_set w' B6 0 (.slice (some ⟨g, 0, none⟩) (F ++ fixed x).length cp) (S := fun k => k = B6) rfl
  refine ⟨g, cp, _, rfl, ?_, ⟨h1.1, hO.chg hs hne⟩, h1.2⟩
  rw [List.length_append]
  have : (fixed x).length = 4 := rfl
  omega
theorem en_sum (h : EnS w Wst SS T B6 B7 B8 F M c mf gf cpf mm gm cpm W) (hV : Below W.heap.size W V) {g1 m1 cp1 : Nat} {xs : List UInt8} (hg : g1 < W.heap.size) (hB : BysAt W g1 0 xs) (hm : m1 = xs.length) (hl : m1 ≤ 2 ^ 27) :
    Calls Tryd.prog 38 #[.pointer (some ⟨T, 0, none⟩), .slice (some ⟨g1, 0, none⟩) m1 cp1] V fun e w' => e = .returned (.int .u32 ((crc xs).toNat : Int)) ∧ w' = V := by
  subst hm
  exact tableOf_core T 0 g1 0 cp1 xs V ((h.move hV).tab) (hB.chg (Chg.of_below hV) (S := fun _ => False) hg (fun q => q)) (by unfold maxLen; omega)
theorem en_app {v2 : World} {g2 cp2 m2 : Nat} {F2 : List UInt8} (h : EnS w Wst SS T B6 B7 B8 F M c mf gf cpf mm gm cpm W) (hO : OwnY v2 w.heap.size g2 cp2 F2) (hgr : W.grownBy v2 (some gf)) (hat : g2 = gf ∨ W.heap.size ≤ g2) (hm : m2 = F2.length) :
    (EnS w Wst SS T B6 B7 B8 F2 M c m2 g2 cp2 mm gm cpm (v2.setCell ⟨B6, 0, none⟩ (.slice (some ⟨g2, 0, none⟩) m2 cp2)) ∧ OwnY (v2.setCell ⟨B6, 0, none⟩ (.slice (some ⟨g2, 0, none⟩) m2 cp2)) w.heap.size g2 cp2 F2) ∧ v2.cell? ⟨B6, 0, none⟩ = some (.slice (some ⟨gf, 0, none⟩) mf cpf) ∧ v2.frozen? ⟨B6, 0, none⟩ = false := by
  have h1 := h.newFile hO (Chg.of_grown hgr (fun j hj => by cases hj; rfl)) hat hm
  have hs := Chg.of_set v2 B6 0 (.slice (some ⟨g2, 0, none⟩) m2 cp2) (S := fun k => k = B6) rfl
  exact ⟨⟨h1.1, hO.chg hs h1.1.n2.1⟩, h1.2⟩
theorem en_bys {W0 v2 : World} {g1 cp1 g2 m2 cp2 : Nat} {xs : List UInt8} {F0 M0 : List UInt8} {c0 mf0 cpf0 mm0 gm0 cpm0 : Nat} (h : EnS w Wst SS T B6 B7 B8 F M c mf gf cpf mm gm cpm W) (h0 : EnS w Wst SS T B6 B7 B8 F0 M0 c0 mf0 gf cpf0 mm0 gm0 cpm0 W0) (hO : OwnY W W0.heap.size g1 cp1 xs) (hgr : W.grownBy v2 (some gf)) : BysAt (v2.setCell ⟨B6, 0, none⟩ (.slice (some ⟨g2, 0, none⟩) m2 cp2)) g1 0 xs ∧ g1 < (v2.setCell ⟨B6, 0, none⟩ (.slice (some ⟨g2, 0, none⟩) m2 cp2)).heap.size := by
  have h1 := hO.lt
  have h2 := h0.file.lt.2
  have h3 := h0.frow.lt.2
  have hC : Chg (fun k => k = gf) W v2 := Chg.of_grown hgr (fun j hj => by cases hj; rfl)
  have hs := Chg.of_set v2 B6 0 (.slice (some ⟨g2, 0, none⟩) m2 cp2) (S := fun k => k = B6) rfl
  have hsz := hC.size
  have hsz2 := hs.size
  exact ⟨(hO.at.chg hC h1.2 (by omega)).chg hs (by omega) (by omega), by omega⟩
end Go.Proofs.YtlgeffinhbodeacDoor

/-
  What a round of impl.EncodeRun's loop begins and ends with.
-/
namespace Go.Proofs.YtlgeffinhbodeacDoor
open Go.ChangeShapes Go.WideShapes Go.ChangeAt Go.RowKit Go.Deep Go.Shelf
set_option linter.unusedVariables false
set_option linter.unusedSimpArgs false
set_option maxRecDepth 100000

/-- The rows lie apart from the iterator's boxes. -/
def ApartB (B gf gm : Nat) : Prop := ¬ gf = B ∧ ¬ gf = B + 1 ∧ ¬ gm = B ∧ ¬ gm = B + 1
theorem en_end {w W W9 : World} {T B6 B7 B8 : Nat} {F M F' M' : List UInt8} {c c' mf gf cpf mm gm cpm mf' gf' cpf' mm' gm' cpm' BB X : Nat}
    (h0 : EnS w W (fun j => j = B6 ∨ j = B7 ∨ j = B8 ∨ j = gf ∨ j = gm) T B6 B7 B8 F M c mf gf cpf mm gm cpm W) (h9 : EnS w W (fun j => j = B6 ∨ j = B7 ∨ j = B8 ∨ j = gf ∨ j = gm) T B6 B7 B8 F' M' c' mf' gf' cpf' mm' gm' cpm' W9)
    (hF : 0 < F.length) (hap : ApartB BB gf gm) (h6 : B6 < BB) (h7 : B7 < BB) (h8 : B8 < BB) (hlt : BB + 1 < W.heap.size) :
    KeepsFrom X W W9 ∧ Kc BB (BB + 1) W W9 ∧ ApartB BB gf' gm' ∧ W.heap.size ≤ W9.heap.size := by
  obtain ⟨a1, a2, a3, a4⟩ := hap
  have n1 : ¬ (BB = B6 ∨ BB = B7 ∨ BB = B8 ∨ BB = gf ∨ BB = gm) := by
    rintro (q | q | q | q | q)
    · omega
    · omega
    · omega
    · exact a1 q.symm
    · exact a3 q.symm
  have n2 : ¬ (BB + 1 = B6 ∨ BB + 1 = B7 ∨ BB + 1 = B8 ∨ BB + 1 = gf ∨ BB + 1 = gm) := by
    rintro (q | q | q | q | q)
    · omega
    · omega
    · omega
    · exact a2 q.symm
    · exact a4 q.symm
  refine ⟨keeps_of h9.ch (h0.cells hF), ⟨h9.ch.cell (p := ⟨BB, 0, none⟩) (by show BB < _; omega) n1, h9.ch.cell (p := ⟨BB + 1, 0, none⟩) hlt n2⟩, ⟨?_, ?_, ?_, ?_⟩, h9.ch.size⟩
  · rcases h9.ss.2.2.2.1 with q | q
    · exact fun e => n1 (by rw [← e]; exact q)
    · omega
  · rcases h9.ss.2.2.2.1 with q | q
    · exact fun e => n2 (by rw [← e]; exact q)
    · omega
  · rcases h9.ss.2.2.2.2 with q | q
    · exact fun e => n1 (by rw [← e]; exact q)
    · omega
  · rcases h9.ss.2.2.2.2 with q | q
    · exact fun e => n2 (by rw [← e]; exact q)
    · omega
theorem ck_ok {es : List Ent} {n p k : Nat} (hn : n = es.length) (hp : 1 ≤ p) (hk : k * p < n) (hok : ∀ e ∈ es, e.ok) (hv : ∀ e ∈ es, e.vld = true) : OkB (ckE es p k) := by
  have hm : ∀ e ∈ ckE es p k, e ∈ es := fun e he => List.mem_of_mem_drop (List.mem_of_mem_take he)
  exact ⟨fun e he => hv e (hm e he), fun e he => hok e (hm e he), by rw [ckE_len]; omega⟩
theorem ck_at {w : World} {b off : Nat} {es : List Ent} (hE : EntsAt w b off es) (p k : Nat) : EntsAt w b (off + k * p * 6) (ckE es p k) := by
  intro i e he
  have h1 : es[k * p + i]? = some e := by
    unfold ckE at he
    rw [List.getElem?_take] at he
    split at he
    · rw [List.getElem?_drop] at he; exact he
    · cases he
  have := hE (k * p + i) e h1
  rw [Nat.add_mul, ← Nat.add_assoc] at this
  exact this
theorem ck_flat {es : List Ent} {n p : Nat} : ∀ (pre : List (Ck n p)), (pre.map (fun k => ckE es p k.1)).flatten.length ≤ pre.length * p
  | [] => by simp
  | x :: pre => by
    have h1 := ck_flat (es := es) pre
    have h2 := ckE_len es p x.1
    simp only [List.map_cons, List.flatten_cons, List.length_append, List.length_cons]
    rw [Nat.add_mul, Nat.one_mul]
    omega
theorem ck_bound {es : List Ent} {n p : Nat} (hn : n = es.length) (hn2 : n ≤ 10000) (hp1 : 1 ≤ p) (hp2 : p ≤ 1000) (hok : ∀ e ∈ es, e.ok) (hv : ∀ e ∈ es, e.vld = true) (pre : List (Ck n p)) (hpre : pre.length ≤ (n + p - 1) / p) :
    (headB ++ fblocks (pre.map (fun k => ckE es p k.1))).length ≤ 10000000 ∧ (fones (pre.map (fun k => ckE es p k.1))).length ≤ 10000000 ∧ 0 < (headB ++ fblocks (pre.map (fun k => ckE es p k.1))).length ∧ pre.length ≤ 20000 := by
  have hokb : ∀ c ∈ pre.map (fun k => ckE es p k.1), OkB c := by
    intro c hc
    obtain ⟨x, _, rfl⟩ := List.mem_map.1 hc
    exact ck_ok hn hp1 x.2 hok hv
  have h1 : pre.length * p ≤ n + p - 1 := (Nat.le_div_iff_mul_le hp1).1 hpre
  have h2 := ck_flat (es := es) pre
  have h3 : pre.length ≤ pre.length * p := Nat.le_mul_of_pos_right _ hp1
  have h4 := fblocks_len _ hokb
  rw [List.length_map] at h4
  have h5 : (fones (pre.map (fun k => ckE es p k.1))).length ≤ 100 * pre.length := by
    have h6 : ∀ (l : List (List Ent)), (∀ c ∈ l, OkB c) → (∀ c ∈ l, c.length ≤ 10000) → (fones l).length ≤ 100 * l.length := by
      intro l
      induction l with
      | nil => intro _ _; simp [fones]
      | cons c l ih =>
        intro h k
        have q1 := fone_len (h c (by simp)) (k c (by simp))
        have q2 := ih (fun x hx => h x (by simp [hx])) (fun x hx => k x (by simp [hx]))
        simp only [fones, List.flatMap_cons, List.length_append, List.length_cons] at q2 ⊢
        omega
    have h7 := h6 _ hokb (by
      intro c hc
      obtain ⟨x, _, rfl⟩ := List.mem_map.1 hc
      rw [ckE_len]; omega)
    rw [List.length_map] at h7
    exact h7
  have h8 : headB.length = 4 := rfl
  rw [List.length_append, h8]
  refine ⟨by omega, by omega, by omega, by omega⟩
theorem en_init {w W3 : World} {T : Nat} (hb : Below w.heap.size w W3) (hT : TabAt W3 T 0) (hwT : w.heap.size ≤ T) (hz : W3.heap.size = T + 1) :
    EnS w w (fun _ => True) T (T + 1 + 1) (T + 1 + 1 + 1 + 1) (T + 1 + 1 + 1 + 1 + 1) (headB ++ fblocks []) (fones []) 0 4 (T + 1) 4 0 (T + 1 + 1 + 1) 0 (((((W3.alloc (Obj.cells #[.int .u8 82, .int .u8 85, .int .u8 78, .int .u8 49] 5 (4, 5))).alloc (Obj.cells #[.slice (some ⟨T + 1, 0, none⟩) 4 4] 22)).alloc (Obj.cells #[] 5)).alloc (Obj.cells #[.slice (some ⟨T + 1 + 1 + 1, 0, none⟩) 0 0] 22)).alloc (Obj.cells #[.int .u64 0] 68)) := by
  obtain ⟨A1, hA1⟩ : ∃ A : World, A = W3.alloc (Obj.cells #[.int .u8 82, .int .u8 85, .int .u8 78, .int .u8 49] 5 (4, 5)) := ⟨_, rfl⟩
  have z1 : A1.heap.size = T + 1 + 1 := by rw [hA1]; simp; omega
  have b1 : Below W3.heap.size W3 A1 := by rw [hA1]; exact (Below.refl _ _).alloc (Nat.le_refl _) _
  rw [← hA1]
  obtain ⟨A2, hA2⟩ : ∃ A : World, A = A1.alloc (Obj.cells #[.slice (some ⟨T + 1, 0, none⟩) 4 4] 22) := ⟨_, rfl⟩
  have z2 : A2.heap.size = T + 1 + 1 + 1 := by rw [hA2]; simp; omega
  have b2 : Below A1.heap.size A1 A2 := by rw [hA2]; exact (Below.refl _ _).alloc (Nat.le_refl _) _
  rw [← hA2]
  obtain ⟨A3, hA3⟩ : ∃ A : World, A = A2.alloc (Obj.cells #[] 5) := ⟨_, rfl⟩
  have z3 : A3.heap.size = T + 1 + 1 + 1 + 1 := by rw [hA3]; simp; omega
  have b3 : Below A2.heap.size A2 A3 := by rw [hA3]; exact (Below.refl _ _).alloc (Nat.le_refl _) _
  rw [← hA3]
  obtain ⟨A4, hA4⟩ : ∃ A : World, A = A3.alloc (Obj.cells #[.slice (some ⟨T + 1 + 1 + 1, 0, none⟩) 0 0] 22) := ⟨_, rfl⟩
  have z4 : A4.heap.size = T + 1 + 1 + 1 + 1 + 1 := by rw [hA4]; simp; omega
  have b4 : Below A3.heap.size A3 A4 := by rw [hA4]; exact (Below.refl _ _).alloc (Nat.le_refl _) _
  rw [← hA4]
  obtain ⟨A5, hA5⟩ : ∃ A : World, A = A4.alloc (Obj.cells #[.int .u64 0] 68) := ⟨_, rfl⟩
  have b5 : Below A4.heap.size A4 A5 := by rw [hA5]; exact (Below.refl _ _).alloc (Nat.le_refl _) _
  have z5 : A5.heap.size = T + 1 + 1 + 1 + 1 + 1 + 1 := by rw [hA5]; simp; omega
  rw [← hA5]
  have hrow : BysAt A1 (T + 1) 0 headB := by
    intro i x hx
    rw [hA1]
    unfold headB at hx
    have ht : T + 1 = W3.heap.size := hz.symm
    rw [ht]
    rcases i with _ | _ | _ | _ | i
    · simp at hx; subst hx; simp [World.cell?_alloc_mark]
    · simp at hx; subst hx; simp [World.cell?_alloc_mark]
    · simp at hx; subst hx; simp [World.cell?_alloc_mark]
    · simp at hx; subst hx; simp [World.cell?_alloc_mark]
    · simp at hx
  have hbox6 : BoxAt A2 w.heap.size 22 1 (T + 1 + 1) [.slice (some ⟨T + 1, 0, none⟩) 4 4] := by rw [hA2, ← z1]; exact boxAt_new A1 _ (by omega) rfl
  have hmr : OwnY A3 w.heap.size (T + 1 + 1 + 1) 0 [] := by rw [hA3, ← z2]; exact ownY_new A2 (by omega)
  have hbox7 : BoxAt A4 w.heap.size 22 1 (T + 1 + 1 + 1 + 1) [.slice (some ⟨T + 1 + 1 + 1, 0, none⟩) 0 0] := by rw [hA4, ← z3]; exact boxAt_new A3 _ (by omega) rfl
  have hbox8 : BoxAt A5 w.heap.size 68 1 (T + 1 + 1 + 1 + 1 + 1) [.int .u64 0] := by rw [hA5, ← z4]; exact boxAt_new A4 _ (by omega) rfl
  have b15 : Below A1.heap.size A1 A5 := ((b2.trans (b3.mono (by omega))).trans (b4.mono (by omega))).trans (b5.mono (by omega))
  have b35 : Below W3.heap.size W3 A5 := b1.trans (b15.mono (by omega))
  have hB5 : Below w.heap.size w A5 := hb.trans (b35.mono (by omega))
  have e1 : headB ++ fblocks [] = headB := by simp [fblocks]
  have e2 : fones [] = [] := by simp [fones]
  rw [e1, e2]
  refine ⟨((hbox6.below b3).below b4).below b5, rfl, .inr ⟨by omega, by omega, ?_, rfl⟩, hbox7.below b5, rfl, (hmr.below b4).below b5, hbox8, hT.below b35 (by omega), ⟨hwT, by omega⟩, ⟨by omega, by omega, by omega, by omega, by omega, by omega⟩, ⟨by omega, by omega, by omega, by omega, by omega⟩, ⟨by omega, by omega, by omega, by omega⟩, hB5, chg_true hB5, ⟨trivial, trivial, trivial, .inl trivial, .inl trivial⟩⟩
  exact hrow.chg (Chg.of_below b15) (S := fun _ => False) (by omega) (fun q => q)
end Go.Proofs.YtlgeffinhbodeacDoor

/-
  append to bytes, within a fence.
-/
namespace Go.Proofs.YtlgeffinhbodeacDoor
open Go.ChangeShapes Go.WideShapes Go.ChangeAt Go.RowKit Go.Deep
set_option linter.unusedVariables false
set_option linter.unusedSimpArgs false
set_option maxRecDepth 100000

theorem run_append_out (w : World) (ty : TypeId) (base g cp n b off m cx : Nat) (l k : List UInt8) (hn : n = l.length) (hm : m = k.length) (hO : OutB w base g cp l)
    (hc : BysAt w b off k) (hk : 0 < k.length) (hlen : l.length + k.length ≤ 2 ^ 30) (hbase : base ≤ w.heap.size) :
    ∃ g' cp' w', (Builtin.append_ #[22, 22] ty #[.slice (some ⟨g, 0, none⟩) n cp, .slice (some ⟨b, off, none⟩) m cx]).run Tryd.prog w = .ok (.slice (some ⟨g', 0, none⟩) (n + m) cp') w' ∧ OwnY w' base g' cp' (l ++ k) ∧ w.grownBy w' (some g) ∧ (g' = g ∨ w.heap.size ≤ g') := by
  subst hn hm
  obtain ⟨i, hi, hz0, hz1, hz2⟩ := info_parts Tryd.infoByte
  have hnews : ∀ (j : Nat) u, (k.map ub)[j]? = some u → w.cell? ((⟨b, off, none⟩ : Addr).add j) = some u := by
    intro j u hu
    rw [List.getElem?_map] at hu
    cases hk : k[j]? with
    | none => rw [hk] at hu; cases hu
    | some r =>
      rw [hk] at hu
      simp at hu
      rw [Addr.add_mid, hc j r hk, ← hu]
  rcases hO with hO | ⟨h1, h2, h3, h4⟩
  · obtain ⟨v', w', hr, hO', hgr, hnil, hat⟩ := run_append_own_at (P := Tryd.prog) w base 22 ty 5 i _ 1 1 Tryd.underlying22 hi hz0 hz1 hz2 rfl (by decide) (.slice (some ⟨g, 0, none⟩) l.length cp) l.length (l.map ub) hO ⟨b, off, none⟩ k.length cx (k.map ub) (by simp) hnews (ub_one k) (by unfold maxLen; omega) (by omega) hbase
    rcases hO'.2 with ⟨h0, hz⟩ | ⟨g', cap', cur, hv, hb', _, hn, hcap, _, _⟩
    · omega
    · subst hv
      refine ⟨g', cap', w', hr, ?_, hgr, ?_⟩
      · unfold OwnY
        rw [List.length_append, List.map_append]
        exact hO'
      · simp [Value.ownBlock] at hat
        rcases hat with q | q
        · exact .inl q
        · exact .inr (Nat.le_of_eq q.symm)
  · obtain ⟨v', w', hr, hO', hgr⟩ := run_append_arg_grows (P := Tryd.prog) w 22 ty 5 i _ 1 1 Tryd.underlying22 hi hz0 hz1 hz2 rfl (by decide) ⟨g, 0, none⟩ l.length cp (l.map ub) (by simp) (by
        intro j u hu
        rw [List.getElem?_map] at hu
        cases hk : l[j]? with
        | none => rw [hk] at hu; cases hu
        | some r =>
          rw [hk] at hu
          simp at hu
          rw [Addr.add_mid, h3 j r hk, ← hu]) ⟨b, off, none⟩ k.length cx (k.map ub) (by simp) hnews (by omega) (by unfold maxLen; omega) (by omega)
    rcases hO'.2 with ⟨h0, hz⟩ | ⟨g', cap', cur, hv, hb', _, hn, hcap, _, _⟩
    · omega
    · subst hv
      refine ⟨g', cap', w', hr, ?_, ⟨hgr.os, hgr.tape, hgr.output, hgr.size, fun k hk _ => hgr.block k hk (fun q => by cases q)⟩, .inr hb'⟩
      refine OwnY.mono (base := w.heap.size) ?_ hbase
      unfold OwnY
      rw [List.length_append, List.map_append]
      exact hO'
theorem wpListIn_append_out {F : Fence} {nF : Nat} {ops : Array Oper} {rest : List Oper} {o : Oper} {a : Act} {Q : Exit → Act → World → Prop} (w : World) (hgd : o.guard = none) (s x : Operand)
    (ho : o.op = .call { callee := .builtin .append, args := #[s, x], argTypes := #[22, 22] })
    (base g cp n b off m cx : Nat) (l k : List UInt8) (hs : a.eval s = .slice (some ⟨g, 0, none⟩) n cp) (hx : a.eval x = .slice (some ⟨b, off, none⟩) m cx) (hn : n = l.length) (hm : m = k.length) (hO : OutB w base g cp l)
    (hc : BysAt w b off k) (hk : 0 < k.length) (hlen : l.length + k.length ≤ 2 ^ 30) (hbase : base ≤ w.heap.size)
    (h : ∀ g' cp' w', OwnY w' base g' cp' (l ++ k) → w.grownBy w' (some g) → (g' = g ∨ w.heap.size ≤ g') → wpListIn F nF Tryd.prog ops Q rest (a.put o.dst (.slice (some ⟨g', 0, none⟩) (n + m) cp')) w') : wpListIn F nF Tryd.prog ops Q (o :: rest) a w := by
  refine wpListIn_plain hgd fun K hK => ?_
  obtain ⟨g', cp', w', hr, h2, h3, h4⟩ := run_append_out w o.type base g cp n b off m cx l k hn hm hO hc hk hlen hbase
  unfold Oper.wpIn
  refine ⟨by simp [Oper.about, ho, resolve, Target.leads, Sem.run_pure], ?_⟩
  rw [Oper.semAt_plain F _ _ (by rw [ho]; intro c hc'; cases hc')]
  simp [execOp, ho, resolve, invoke, builtin, hs, hx, hr, Result.andThen]
  exact hK _ _ (h g' cp' w' h2 h3 h4)
end Go.Proofs.YtlgeffinhbodeacDoor

/-
  append to bytes of the call's own, at a step of a region that draws.
-/
namespace Go.Proofs.YtlgeffinhbodeacDoor
open Go.ChangeShapes Go.WideShapes Go.ChangeAt Go.RowKit Go.Deep
set_option linter.unusedVariables false
set_option linter.unusedSimpArgs false
set_option maxRecDepth 100000

theorem step_append_y {ops : Array Oper} {oo : Oper} {a : Act} {K : Act → World → Prop} {Q : Exit → Act → World → Prop} {E : Prop} (w : World) (hgd : oo.guard = none) (s x : Operand)
    (ho : oo.op = .call { callee := .builtin .append, args := #[s, x], argTypes := #[22, 22] })
    (base g cp n b off m cx : Nat) (l k : List UInt8) (hs : a.eval s = .slice (some ⟨g, 0, none⟩) n cp) (hx : a.eval x = .slice (some ⟨b, off, none⟩) m cx) (hn : n = l.length) (hm : m = k.length) (hO : OwnY w base g cp l)
    (hc : BysAt w b off k) (hl : 0 < l.length) (hlen : l.length + k.length ≤ 2 ^ 30) (hbase : base ≤ w.heap.size)
    (h : ∀ g' cp' w', OwnY w' base g' cp' (l ++ k) → w.grownBy w' (some g) → (g' = g ∨ w.heap.size ≤ g') → K (a.put oo.dst (.slice (some ⟨g', 0, none⟩) (n + m) cp')) w') : if Region.wanted oo (yielded ops a.tmps) = true then Oper.wp Tryd.prog oo a w K Q else E := by
  have hw : Region.wanted oo (yielded ops a.tmps) = true := by simp [Region.wanted, hgd]
  rw [if_pos hw]
  subst hn hm
  obtain ⟨i, hi, hz0, hz1, hz2⟩ := info_parts Tryd.infoByte
  have hnews : ∀ (j : Nat) u, (k.map ub)[j]? = some u → w.cell? ((⟨b, off, none⟩ : Addr).add j) = some u := by
    intro j u hu
    rw [List.getElem?_map] at hu
    cases hk : k[j]? with
    | none => rw [hk] at hu; cases hu
    | some r =>
      rw [hk] at hu
      simp at hu
      rw [Addr.add_mid, hc j r hk, ← hu]
  obtain ⟨v', w', hr, hO', hgr, hnil, hat⟩ := run_append_own_at (P := Tryd.prog) w base 22 oo.type 5 i _ 1 1 Tryd.underlying22 hi hz0 hz1 hz2 rfl (by decide) (.slice (some ⟨g, 0, none⟩) l.length cp) l.length (l.map ub) hO ⟨b, off, none⟩ k.length cx (k.map ub) (by simp) hnews (ub_one k) (by unfold maxLen; omega) (by omega) hbase
  rcases hO'.2 with ⟨h0, hz⟩ | ⟨g', cap', cur, hv, hb', _, hn, hcap, _, _⟩
  · omega
  · subst hv
    have hfin := h g' cap' w' (by unfold OwnY; rw [List.length_append, List.map_append]; exact hO') hgr (by
      simp [Value.ownBlock] at hat
      rcases hat with q | q
      · exact .inl q
      · exact .inr (Nat.le_of_eq q.symm))
    unfold Oper.wp
    simp [execOp, ho, resolve, invoke, builtin, hs, hx, hr, Result.andThen]
    exact hfin
theorem en_last {w Wst : World} {SS : Nat → Prop} {T B6 B7 B8 : Nat} {F M : List UInt8} {c mf gf cpf mm gm cpm : Nat} {W : World} (h : EnS w Wst SS T B6 B7 B8 F M c mf gf cpf mm gm cpm W) (hO0 : OwnY W w.heap.size gf cpf F) (x : Nat) (hx : x < 2 ^ 32) (hl : mf ≤ 2 ^ 27) :
    Calls Tryd.prog 37 #[.slice (some ⟨gf, 0, none⟩) mf cpf, .int .u32 (x : Int)] W fun e w' => ∃ g cp m, e = .returned (.slice (some ⟨g, 0, none⟩) m cp) ∧ Hid (m = (F ++ fixed x).length ∧ OwnY w' w.heap.size g cp (F ++ fixed x) ∧ Below w.heap.size w w' ∧ Chg SS Wst w') := by
  have hm := h.mfl
  have hr := OwnS.of hO0
  rw [← hm] at hr
  refine (appendFixed_core w.heap.size _ F x W hr hx (by omega) h.below.size).mono ?_
  rintro e w' ⟨g, cp, rfl, hO, hC, hat⟩
  have hC2 := own_block (S := fun _ => False) hC
  exact ⟨g, cp, _, rfl, rfl, hO, Chg.below h.below hC2 h.below.size (fun k q => by subst q; exact hO0.lt.1), h.ch.takeIn hC2 (fun k q => by subst q; exact h.ss.2.2.2.1)⟩
end Go.Proofs.YtlgeffinhbodeacDoor

