/-
  impl.appendNumber, appendFixed.
-/
import Derived.Test.YtlgeffinhbodeacQBysA
import Derived.Test.YtlgeffinhbodeacQRdr
import Derived.Deep.WholeRow
import Derived.Test.YtlgeffinhbodeacPkB
namespace Go.Proofs.Ytlgeffinhbodeac
open Go.ChangeShapes Go.WideShapes Go.ChangeAt Go.RowKit Go.Deep
set_option linter.unusedVariables false
set_option linter.unusedSimpArgs false
set_option maxRecDepth 100000

/-- Bytes of the call's own, nil among them. -/
def OwnS (w : World) (base : Nat) (v : Value) (l : List UInt8) : Prop := w.ownsRow base 5 1 v l.length (l.map ub)
theorem OwnS.slice {w : World} {base : Nat} {v : Value} {l : List UInt8} (h : OwnS w base v l) : ∃ a cp, v = .slice a l.length cp := by
  rcases h.2 with ⟨rfl, h0⟩ | ⟨g, cap, cur, rfl, _⟩
  · exact ⟨none, 0, by rw [h0]⟩
  · exact ⟨_, _, rfl⟩
theorem OwnS.of {w : World} {base g cp : Nat} {l : List UInt8} (h : OwnY w base g cp l) : OwnS w base (.slice (some ⟨g, 0, none⟩) l.length cp) l := h
theorem OwnS.row {w : World} {base : Nat} {v : Value} {l : List UInt8} (h : OwnS w base v l) : ∀ k, v.ownBlock = some k → base ≤ k ∧ k < w.heap.size := fun k hk => World.ownsRow.lt h k hk
theorem OwnS.chg {S : Nat → Prop} {w w' : World} {base : Nat} {v : Value} {l : List UInt8} (h : OwnS w base v l) (hc : Chg S w w') (hn : ∀ k, v.ownBlock = some k → ¬ S k) : OwnS w' base v l := own_chg h hc hn
/-- Bytes appended to a row of the call's own, nil or not. -/
theorem wpList_append_bysV {ops : Array Oper} {rest : List Oper} {o : Oper} {a : Act} {Q : Exit → Act → World → Prop} (w : World) (hgd : o.guard = none) (s x : Operand)
    (ho : o.op = .call { callee := .builtin .append, args := #[s, x], argTypes := #[47, 47] })
    (base b off m cx : Nat) (v : Value) (l k : List UInt8) (hs : a.eval s = v) (hx : a.eval x = .slice (some ⟨b, off, none⟩) m cx) (hm : m = k.length) (hk : 0 < k.length) (hO : OwnS w base v l)
    (hc : BysAt w b off k) (hlen : l.length + k.length ≤ 2 ^ 30) (hbase : base ≤ w.heap.size)
    (h : ∀ g' cp' w', OwnY w' base g' cp' (l ++ k) → w.grownBy w' v.ownBlock → (v.ownBlock = some g' ∨ g' = w.heap.size) → wpList Try.prog ops Q rest (a.put o.dst (.slice (some ⟨g', 0, none⟩) (l ++ k).length cp')) w') : wpList Try.prog ops Q (o :: rest) a w := by
  subst hm
  obtain ⟨i, hi, hz0, hz1, hz2⟩ := info_parts Try.infoByte
  refine wpList_append_own_at w hgd s x 47 ho base 5 i _ 1 1 Try.underlying47 hi hz0 hz1 hz2 rfl (by decide) v l.length (l.map ub) hs hO ⟨b, off, none⟩ k.length cx (k.map ub) hx (by simp) ?_ (ub_one k) ?_ ?_ hbase ?_
  · intro j u hu
    rw [List.getElem?_map] at hu
    cases hkk : k[j]? with
    | none => rw [hkk] at hu; cases hu
    | some r =>
      rw [hkk] at hu
      simp at hu
      rw [Addr.add_mid, hc j r hkk, ← hu]
  · unfold maxLen; omega
  · omega
  · intro v' w' hO' hgr hnil hat
    rcases hO'.2 with ⟨h0, h00⟩ | ⟨g', cap', cur, hv, _, _, hn, hcap, _, _⟩
    · omega
    · subst hv
      have hl : (l ++ k).length = l.length + k.length := List.length_append
      have h1 := h g' cap' w' ?_ hgr ?_
      · rw [hl] at h1; exact h1
      · unfold OwnY
        rw [List.length_append, List.map_append]
        exact hO'
      · simp only [Value.ownBlock] at hat ⊢
        rcases hat with q | q
        · exact .inl q.symm
        · exact .inr (Option.some.inj q)
/-- What has turned, new blocks aside. -/
theorem Chg.fresh {w w' : World} {r : Option Nat} (h : Chg (fun k => r = some k ∨ w.heap.size ≤ k) w w') : Chg (fun k => r = some k) w w' :=
  ⟨h.os, h.tape, h.output, h.size, fun k hk hn => h.block k hk (fun q => by rcases q with q | q; exact hn q; omega)⟩
theorem or128 (n : Nat) : bits .or .u8 (IntKind.u8.wrap (n : Int)) 128 = ((128 + n % 128 : Nat) : Int) := by
  have h0 : IntKind.u8.wrap (n : Int) = ((n % 256 : Nat) : Int) := by
    simp only [IntKind.wrap, IntKind.bits, IntKind.signed, Bool.false_and, Bool.false_eq_true, if_false]
    omega
  rw [h0]
  have hb : ∀ x : Fin 256, bits .or .u8 ((x.val : Nat) : Int) 128 = ((128 + x.val % 128 : Nat) : Int) := by decide
  have := hb ⟨n % 256, by omega⟩
  rw [this]
  congr 1
  show 128 + n % 256 % 128 = 128 + n % 128
  omega

set_option maxHeartbeats 2000000 in
theorem appendNumber_core (base : Nat) (v : Value) (l : List UInt8) (n : Nat) (w : World) (hO : OwnS w base v l) (hn : n < 2 ^ 64) (hl : l.length ≤ 2 ^ 29) (hb : base ≤ w.heap.size) :
    Calls Try.prog 62 #[v, .int .u64 (n : Int)] w fun e w' => ∃ g cp, e = .returned (.slice (some ⟨g, 0, none⟩) (l ++ num n).length cp) ∧ OwnY w' base g cp (l ++ num n) ∧ Chg (fun k => v.ownBlock = some k) w w' ∧ (v.ownBlock = some g ∨ w.heap.size ≤ g) := by
  obtain ⟨a, cp, rfl⟩ := hO.slice
  have HO : Hid (OwnS w base (.slice a l.length cp) l ∧ n < 2 ^ 64 ∧ l.length ≤ 2 ^ 29) := ⟨hO, hn, hl⟩
  clear hO hn hl
  go_enter Try.func62, Try.ntmps62
  go_wp2_with fail
  go_loopw [0, 1] (fun tv nn wr => ∃ (a' : Option Addr) (cp' k : Nat) (l' : List UInt8), tv = .slice a' l'.length cp' ∧ nn = .int .u64 (k : Int) ∧ k < 2 ^ 64 ∧ l ++ num n = l' ++ num k ∧ OwnS wr base (.slice a' l'.length cp') l' ∧ Chg (fun j => (Value.slice a l.length cp).ownBlock = some j ∨ w.heap.size ≤ j) w wr ∧ (∀ j, (Value.slice a' l'.length cp').ownBlock = some j → (Value.slice a l.length cp).ownBlock = some j ∨ w.heap.size ≤ j)) (fun _ nn _ => (intOf nn).toNat)
  case atStart => exact ⟨a, cp, n, l, rfl, rfl, HO.out.2.1, rfl, HO.out.1, Chg.refl _ _, fun j hj => .inl hj⟩
  case round =>
    obtain ⟨a', cp', k, l', rfl, rfl, hk, he, hS, hC, hR⟩ := hrel
    have hlen : l'.length + (num k).length ≤ 2 ^ 29 + 10 := by
      have h1 := congrArg List.length he
      rw [List.length_append, List.length_append] at h1
      have h2 := num_len64 HO.out.2.1
      have h3 := HO.out.2.2
      omega
    have hp := num_pos k
    have hlen2 : l'.length + 1 ≤ 536870922 := by omega
    have hsz := hC.size
    have HJ : Hid (OwnS wr base (.slice a' l'.length cp') l' ∧ Chg (fun j => (Value.slice a l.length cp).ownBlock = some j ∨ w.heap.size ≤ j) w wr ∧ (∀ j, (Value.slice a' l'.length cp').ownBlock = some j → (Value.slice a l.length cp).ownBlock = some j ∨ w.heap.size ≤ j) ∧ l ++ num n = l' ++ num k ∧ k < 2 ^ 64) := ⟨hS, hC, hR, he, hk⟩
    clear hS hC hR he hlen hp
    by_cases h128 : 128 ≤ k
    · have z : (128 : Int) ≤ (k : Int) := by omega
      obtain ⟨x, hx⟩ : ∃ x : UInt8, x = byt (128 + k % 128) := ⟨_, rfl⟩
      have hxv : bits .or .u8 (IntKind.u8.wrap (k : Int)) 128 = (x.toNat : Int) := by rw [or128, hx, byt_nat (by omega)]
      have hxv2 : bits .or .u8 ((k : Int) % 256) 128 = (x.toNat : Int) := by
        have h0 : IntKind.u8.wrap (k : Int) = (k : Int) % 256 := by
          simp only [IntKind.wrap, IntKind.bits, IntKind.signed, Bool.false_and, Bool.false_eq_true, if_false]
          omega
        rw [← h0]; exact hxv
      obtain ⟨WD, hWD⟩ : ∃ V : World, V = wr.alloc (Obj.cells #[ub x] 5) := ⟨_, rfl⟩
      have hbD : Below wr.heap.size wr WD := by rw [hWD]; exact (Below.refl _ _).alloc (Nat.le_refl _) _
      have HD : Hid (OwnS WD base (.slice a' l'.length cp') l' ∧ BysAt WD wr.heap.size 0 [x] ∧ WD.heap.size = wr.heap.size + 1 ∧ Below wr.heap.size wr WD) := by
        refine ⟨HJ.out.1.chg (S := fun _ => False) (Chg.of_below hbD) (fun _ _ q => q), ?_, by rw [hWD]; simp, hbD⟩
        intro i y hy
        rw [hWD]
        cases i with
        | zero => simp at hy; subst hy; simp
        | succ i => simp at hy
      have HX : Hid (x = byt (128 + k % 128)) := hx
      clear hbD hx
      go_wp2_with (at_builtin; rw [← hWD]; refine wpList_append_bysV _ rfl _ _ rfl base wr.heap.size 0 1 1 (.slice a' l'.length cp') l' [x] rfl rfl rfl (Nat.zero_lt_one) ?hO ?hc ?hl ?hb ?_)
      case hO => first | exact HD.out.1 | (rw [← hWD]; exact HD.out.1)
      case hc => first | exact HD.out.2.1 | (rw [← hWD]; exact HD.out.2.1)
      case hl => first | omega | (simp; omega)
      case hb => first | omega | (rw [HD.out.2.2.1]; omega) | (simp; omega)
      intro g' cp2 wE hOE hgrE hatE
      try rw [← hWD] at hgrE
      have HE : Hid (OwnS wE base (.slice (some ⟨g', 0, none⟩) (l' ++ [x]).length cp2) (l' ++ [x]) ∧ Chg (fun j => (Value.slice a l.length cp).ownBlock = some j ∨ w.heap.size ≤ j) w wE ∧ (∀ j, (Value.slice (some ⟨g', 0, none⟩) (l' ++ [x]).length cp2).ownBlock = some j → (Value.slice a l.length cp).ownBlock = some j ∨ w.heap.size ≤ j) ∧ l ++ num n = (l' ++ [x]) ++ num (k / 128)) := by
        have hc1 : Chg (fun j => (Value.slice a l.length cp).ownBlock = some j ∨ w.heap.size ≤ j) WD wE := Chg.of_grown hgrE (fun j hj => HJ.out.2.2.1 j hj)
        refine ⟨hOE, (HJ.out.2.1.trans (Chg.of_below HD.out.2.2.2)).trans hc1, ?_, ?_⟩
        · intro j hj
          have hj2 : g' = j := Option.some.inj hj
          subst hj2
          rcases hatE with q | q
          · exact HJ.out.2.2.1 _ q
          · right; first | (rw [q, HD.out.2.2.1]; omega) | (rw [q]; simp; omega) | omega
        · rw [HJ.out.2.2.2.1, num_large (by omega), HX.out, List.append_assoc]; rfl
      have hk2 : k / 128 < 2 ^ 64 := by have := HJ.out.2.2.2.2; omega
      clear hOE hgrE hatE hWD HD hxv hxv2
      go_wp2_with fail
      refine ⟨⟨some ⟨g', 0, none⟩, cp2, k / 128, l' ++ [x], by simp, by first | rfl | go_num, hk2, HE.out.2.2.2, HE.out.1, HE.out.2.1, HE.out.2.2.1⟩, by simp [intOf]; omega⟩
    · have z : ¬ (128 : Int) ≤ (k : Int) := by omega
      obtain ⟨x, hx⟩ : ∃ x : UInt8, x = byt k := ⟨_, rfl⟩
      have hxv : (k : Int) % 256 = (x.toNat : Int) := by rw [hx, byt_nat (by omega)]; omega
      have hxw : (k : Int) = (x.toNat : Int) := by rw [hx, byt_nat (by omega)]
      obtain ⟨WD, hWD⟩ : ∃ V : World, V = wr.alloc (Obj.cells #[.int .u8 (k : Int)] 5) := ⟨_, rfl⟩
      have hbD : Below wr.heap.size wr WD := by rw [hWD]; exact (Below.refl _ _).alloc (Nat.le_refl _) _
      have HD : Hid (OwnS WD base (.slice a' l'.length cp') l' ∧ BysAt WD wr.heap.size 0 [x] ∧ WD.heap.size = wr.heap.size + 1 ∧ Below wr.heap.size wr WD) := by
        refine ⟨HJ.out.1.chg (S := fun _ => False) (Chg.of_below hbD) (fun _ _ q => q), ?_, by rw [hWD]; simp, hbD⟩
        intro i y hy
        rw [hWD]
        cases i with
        | zero => simp at hy; subst hy; simp [hxw]
        | succ i => simp at hy
      have HX : Hid (x = byt k) := hx
      clear hbD hx hxv hxw
      go_wp2_with (at_builtin; rw [← hWD]; refine wpList_append_bysV _ rfl _ _ rfl base wr.heap.size 0 1 1 (.slice a' l'.length cp') l' [x] rfl rfl rfl (Nat.zero_lt_one) ?hO ?hc ?hl ?hb ?_)
      case hO => first | exact HD.out.1 | (rw [← hWD]; exact HD.out.1)
      case hc => first | exact HD.out.2.1 | (rw [← hWD]; exact HD.out.2.1)
      case hl => first | omega | (simp; omega)
      case hb => first | omega | (rw [HD.out.2.2.1]; omega) | (simp; omega)
      intro g' cp2 wE hOE hgrE hatE
      try rw [← hWD] at hgrE
      have HE : Hid (OwnY wE base g' cp2 (l ++ num n) ∧ Chg (fun j => (Value.slice a l.length cp).ownBlock = some j) w wE ∧ ((Value.slice a l.length cp).ownBlock = some g' ∨ w.heap.size ≤ g') ∧ (l' ++ [x]).length = (l ++ num n).length) := by
        have hc1 : Chg (fun j => (Value.slice a l.length cp).ownBlock = some j ∨ w.heap.size ≤ j) WD wE := Chg.of_grown hgrE (fun j hj => HJ.out.2.2.1 j hj)
        have hll : l ++ num n = l' ++ [x] := by rw [HJ.out.2.2.2.1, num_small (by omega), HX.out]
        refine ⟨by rw [hll]; exact hOE, ((HJ.out.2.1.trans (Chg.of_below HD.out.2.2.2)).trans hc1).fresh, ?_, by rw [hll]⟩
        rcases hatE with q | q
        · exact HJ.out.2.2.1 _ q
        · right; first | (rw [q, HD.out.2.2.1]; omega) | (rw [q]; simp; omega) | omega
      clear hOE hgrE hatE hWD HD
      go_wp2_with fail
      go_ret
      exact ⟨g', cp2, by rw [← HE.out.2.2.2]; first | rfl | simp, HE.out.1, HE.out.2.1, HE.out.2.2.1⟩

set_option maxHeartbeats 2000000 in
theorem appendFixed_core (base : Nat) (v : Value) (l : List UInt8) (n : Nat) (w : World) (hO : OwnS w base v l) (hn : n < 2 ^ 32) (hl : l.length ≤ 2 ^ 29) (hb : base ≤ w.heap.size) :
    Calls Try.prog 60 #[v, .int .u32 (n : Int)] w fun e w' => ∃ g cp, e = .returned (.slice (some ⟨g, 0, none⟩) (l ++ fixed n).length cp) ∧ OwnY w' base g cp (l ++ fixed n) ∧ Chg (fun k => v.ownBlock = some k) w w' ∧ (v.ownBlock = some g ∨ w.heap.size ≤ g) := by
  obtain ⟨a, cp, rfl⟩ := hO.slice
  have HO : Hid (OwnS w base (.slice a l.length cp) l ∧ n < 2 ^ 32 ∧ l.length ≤ 2 ^ 29) := ⟨hO, hn, hl⟩
  obtain ⟨WD, hWD⟩ : ∃ V : World, V = w.alloc (Obj.cells #[.int .u8 ((n : Int) % 256), .int .u8 ((n : Int) / 256 % 256), .int .u8 ((n : Int) / 65536 % 256), .int .u8 ((n : Int) / 16777216 % 256)] 5) := ⟨_, rfl⟩
  have hbD : Below w.heap.size w WD := by rw [hWD]; exact (Below.refl _ _).alloc (Nat.le_refl _) _
  have HD : Hid (OwnS WD base (.slice a l.length cp) l ∧ BysAt WD w.heap.size 0 (fixed n) ∧ WD.heap.size = w.heap.size + 1 ∧ Below w.heap.size w WD) := by
    refine ⟨HO.out.1.chg (S := fun _ => False) (Chg.of_below hbD) (fun _ _ q => q), ?_, by rw [hWD]; simp, hbD⟩
    intro i y hy
    rw [hWD, cell_of_row _ _ _ _ _ _ (heap_alloc_last w _)]
    unfold fixed at hy
    match i with
    | 0 => simp at hy; subst hy; simp [byt_nat (show n % 256 < 256 by omega)]
    | 1 => simp at hy; subst hy; simp [byt_nat (show n / 256 % 256 < 256 by omega)]
    | 2 => simp at hy; subst hy; simp [byt_nat (show n / 65536 % 256 < 256 by omega)]
    | 3 => simp at hy; subst hy; simp [byt_nat (show n / 16777216 % 256 < 256 by omega)]
    | i + 4 => simp at hy
  clear hO hn hl hbD
  have hl2 : l.length ≤ 536870912 := by have := HO.out.2.2; omega
  go_enter Try.func60, Try.ntmps60
  go_wp2_with (at_builtin; rw [← hWD]; refine wpList_append_bysV _ rfl _ _ rfl base w.heap.size 0 4 4 (.slice a l.length cp) l (fixed n) rfl rfl rfl (by show 0 < 4; omega) ?hO ?hc ?hl ?hb ?_)
  case hO => first | exact HD.out.1 | (rw [← hWD]; exact HD.out.1)
  case hc => first | exact HD.out.2.1 | (rw [← hWD]; exact HD.out.2.1)
  case hl => show l.length + 4 ≤ _; omega
  case hb => first | omega | (rw [HD.out.2.2.1]; omega) | (simp; omega)
  intro g' cp2 wE hOE hgrE hatE
  try rw [← hWD] at hgrE
  have HE : Hid (OwnY wE base g' cp2 (l ++ fixed n) ∧ Chg (fun j => (Value.slice a l.length cp).ownBlock = some j) w wE ∧ ((Value.slice a l.length cp).ownBlock = some g' ∨ w.heap.size ≤ g')) := by
    refine ⟨hOE, (Chg.of_below HD.out.2.2.2).trans (Chg.of_grown hgrE (fun j hj => hj)), ?_⟩
    rcases hatE with q | q
    · exact .inl q
    · right; first | (rw [q, HD.out.2.2.1]; omega) | (rw [q]; simp) | omega
  clear hOE hgrE hatE hWD HD
  go_wp2_with fail
  go_ret
  exact ⟨g', cp2, by first | rfl | simp, HE.out.1, HE.out.2.1, HE.out.2.2⟩
end Go.Proofs.Ytlgeffinhbodeac
