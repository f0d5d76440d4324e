import Derived.RangeFuncNested
import Derived.RangeFuncBound
import Derived.RangeFuncCalls
import Derived.RangeFuncLeaves
import Derived.Shelf.Abstract
import Derived.Shelf.RegionOpen
import Derived.WalkKit
import Derived.OwnWalkIn
import Derived.TacticsInMore
import Derived.LoopNIn
import Derived.LoopIn
import Derived.Deep.WholeRow
import Derived.Lib.AppendStr
import Derived.Test.YtlgeffinhbodeaeGreatDoorPkAJ
import Derived.Test.YtlgeffinhbodeaeGreatDoorPkAB
import Derived.Test.YtlgeffinhbodeaeGreatDoorPkAH
import Derived.Test.YtlgeffinhbodeaeGreatDoorPkAC
/-
  The iterator of slices.Chunk over entries.
-/
namespace Go.Proofs.YtlgeffinhbodeaeGreatDoor
open Go.ChangeShapes Go.WideShapes Go.ChangeAt Go.RowKit Go.Deep Go.Shelf
set_option linter.unusedVariables false
set_option linter.unusedSimpArgs false
set_option maxRecDepth 100000
attribute [local go_sem] Oper.semAt_some

def chunkV (b off n p k : Nat) : Value := .slice (some ⟨b, off + k * p * 6, none⟩) (min p (n - k * p)) (min p (n - k * p))
/-- The two boxes of the iterator lie as they lay. -/
def Kc (Bs Bn : Nat) (W W' : World) : Prop := W'.cell? ⟨Bs, 0, none⟩ = W.cell? ⟨Bs, 0, none⟩ ∧ W'.cell? ⟨Bn, 0, none⟩ = W.cell? ⟨Bn, 0, none⟩
theorem Kc.refl (Bs Bn : Nat) (W : World) : Kc Bs Bn W W := ⟨rfl, rfl⟩
theorem Kc.trans {Bs Bn : Nat} {A B C : World} (h : Kc Bs Bn A B) (k : Kc Bs Bn B C) : Kc Bs Bn A C := ⟨k.1.trans h.1, k.2.trans h.2⟩
theorem Kc.drew (Bs Bn : Nat) (W : World) : Kc Bs Bn W W.drew := ⟨by simp, by simp⟩
set_option maxHeartbeats 4000000 in
/-- slices.Chunk's closure, for every loop body that keeps its two boxes. -/
theorem chunk_in (F : Fence) (m : Nat) (hF : F.fn 94) (hro : F.round = none) (hm : 1 ≤ m) (l Bs Bn b off n cap p : Nat) (hp1 : 1 ≤ p) (hp2 : p ≤ 1000) (hn : n ≤ 10000) (hcap : n ≤ cap)
    (J Jx : List (Ck n p) → World → Prop)
    (hY : ∀ pre x W, J pre W → pre.length < (n + p - 1) / p → YieldAt F (m - 1) Tryz.prog l #[chunkV b off n p x.1] W fun e W' =>
      (e = .returned (.bool true) ∧ J (pre ++ [x]) W' ∧ Kc Bs Bn W W') ∨ (e = .returned (.bool false) ∧ Jx (pre ++ [x]) W'))
    (hJd : ∀ pre W, J pre W → J pre W.drew) (W : World) (hBs : W.cell? ⟨Bs, 0, none⟩ = some (.slice (some ⟨b, off, none⟩) n cap)) (hBn : W.cell? ⟨Bn, 0, none⟩ = some (.int .i64 (p : Int))) (h0 : J [] W) :
    CallsIn F m Tryz.prog 94 #[.func (.yield l) #[] #[], .pointer (some ⟨Bs, 0, none⟩), .pointer (some ⟨Bn, 0, none⟩)] W fun e W' => (∃ v, e = .returned v) ∧
      ((∃ ys, (∃ k, n ≤ k * p ∧ ys = cks n p k) ∧ J ys W') ∨ (∃ pre, Jx pre W')) := by
  refine callsIn_of_wp Tryz.func94 rfl hF ?_ hro
  simp only [Tryz.ntmps94, List.size_toArray, List.length_cons, List.length_nil, Nat.reduceAdd, Nat.reduceSub, Array.replicate_succ, Array.replicate_zero, List.push_toArray, List.append_toArray, List.nil_append, List.cons_append]
  gi_wp2
  gi_loopw [4] (fun iv wr => ∃ k i : Nat, i = k * p ∧ i ≤ n + 1000 ∧ iv = .int .i64 (i : Int) ∧ J (cks n p k) wr ∧ Kc Bs Bn W wr)
    (fun iv _ => n - (intOf iv).toNat)
  case atStart => exact ⟨0, 0, by simp, by omega, rfl, h0, Kc.refl _ _ _⟩
  case round =>
    obtain ⟨k, i, hik, hin, rfl, hJs, hnx⟩ := hrel
    have c1 := hnx.1.trans hBs
    have c2 := hnx.2.trans hBn
    have HK : Hid (i = k * p) := hik
    by_cases hlt : i < n
    · have hkn : k * p < n := by omega
      obtain ⟨fn, tmps, assign, body, hy, hR⟩ := hY _ ⟨k, hkn⟩ wr.drew (hJd _ _ hJs) (by have h1 := cks_len n p k; have h2 : k + 1 ≤ (n + p - 1) / p := (Nat.le_div_iff_mul_le hp1).2 (by rw [Nat.add_mul]; omega); omega)
      simp only [chunkV] at hy
      rw [← hik] at hy
      have hsu := cks_succ hkn
      have HSu : Hid (cks n p (k + 1) = cks n p k ++ [⟨k, hkn⟩]) := hsu
      clear hik hsu
      have zi : (i : Int) < (n : Int) := by omega
      have z1 : (i : Int) ≤ (n : Int) := by omega
      have z2 : (n : Int) ≤ (cap : Int) := by omega
      have hci : ¬ cap = i := by omega
      obtain ⟨q, hq⟩ : ∃ q, q = min p (n - i) := ⟨_, rfl⟩
      have hq1 : 1 ≤ q := by omega
      have hq2 : i + q ≤ n := by omega
      have zq1 : min (p : Int) ((n - i : Nat) : Int) = (q : Int) := by omega
      have zq2 : min (p : Int) ((n : Int) - (i : Int)) = (q : Int) := by omega
      rw [← hq] at hy
      have HQ : Hid (q = min p (n - i)) := hq
      clear hq
      gi_wp2
      gi_region
      all_goals gi_wp2
      all_goals refine hR.mono ?_
      all_goals rintro e W3 (⟨rfl, hJ3, hk3⟩ | ⟨rfl, hJx3⟩)
      all_goals first
        | (have hK3 : Hid (J (cks n p (k + 1)) W3 ∧ Kc Bs Bn W W3) := ⟨(by rw [HSu.out]; exact hJ3), hnx.trans ((Kc.drew Bs Bn wr).trans hk3)⟩
           have c3 := hK3.out.2.2.trans hBn
           clear hJ3 hk3 hR hy
           gi_wp2
           go_roundw
           case rel => exact ⟨k + 1, i + p, by rw [Nat.add_mul, Nat.one_mul, HK.out], by omega, by go_num, hK3.out.1, hK3.out.2⟩
           case measure => simp [intOf]; omega)
        | (gi_wp2
           refine bodyPost_ret (results_none rfl _ _ _) rfl ?_
           exact ⟨⟨_, rfl⟩, .inr ⟨_, hJx3⟩⟩)
    · have zi : ¬ (i : Int) < (n : Int) := by omega
      gi_wp2
      go_end0
      exact ⟨⟨_, rfl⟩, .inl ⟨_, ⟨k, by have := HK.out; omega, rfl⟩, hJs⟩⟩
theorem grown_drewC (w : World) (row : Option Nat) : w.grownBy w.drew row := ⟨rfl, rfl, rfl, Nat.le_refl _, fun _ _ _ => rfl⟩
theorem chunk_stops (F : Fence) (m : Nat) (hF : F.fn 94) (hro : F.round = none) (hm : 1 ≤ m) (Bs Bn b off n cap p : Nat) (hp1 : 1 ≤ p) (hp2 : p ≤ 1000) (hn : n ≤ 10000) (hcap : n ≤ cap) (w : World) (hBs0 : Bs < w.heap.size) (hBn0 : Bn < w.heap.size)
    (hBs : w.cell? ⟨Bs, 0, none⟩ = some (.slice (some ⟨b, off, none⟩) n cap)) (hBn : w.cell? ⟨Bn, 0, none⟩ = some (.int .i64 (p : Int))) :
    SeqStopsK F m Tryz.prog 94 #[.pointer (some ⟨Bs, 0, none⟩), .pointer (some ⟨Bn, 0, none⟩)] (fun x : Ck n p => #[chunkV b off n p x.1]) (Kc Bs Bn) (fun ys => ∃ k, n ≤ k * p ∧ ys = cks n p k) (fun _ => True) ((n + p - 1) / p) w := fun l J Jx W hW hJ _ hY h0 => by
  refine (chunk_in F m hF hro hm l Bs Bn b off n cap p hp1 hp2 hn hcap J Jx hY (fun pre V hv => hJ pre V _ none hv (grown_drewC V none) (fun r e => by cases e)) W ((hW.cell (p := ⟨Bs, 0, none⟩) hBs0).trans hBs) ((hW.cell (p := ⟨Bn, 0, none⟩) hBn0).trans hBn) h0).mono ?_
  rintro e W' ⟨he, (⟨ys, hy, hj⟩ | ⟨pre, hj⟩)⟩
  · exact ⟨he, .inl ⟨ys, hy, hj⟩⟩
  · exact ⟨he, .inr ⟨pre, trivial, hj⟩⟩
set_option maxHeartbeats 1000000 in
theorem chunk_made (F : Fence) (m : Nat) (hF : F.fn 43) (hro : F.round = none) (a : Option Addr) (len cap p : Nat) (hp1 : 1 ≤ p) (hp2 : p ≤ 1000) (w : World) :
    CallsIn F m Tryz.prog 43 #[.slice a len cap, .int .i64 (p : Int)] w fun e w' => e = .returned (.func (.func 94) #[] #[.pointer (some ⟨w.heap.size, 0, none⟩), .pointer (some ⟨w.heap.size + 1, 0, none⟩)]) ∧ w' = (w.alloc (.cells #[.slice a len cap] 35)).alloc (.cells #[.int .i64 (p : Int)] 3) := by
  have zp : ¬ (p : Int) < 1 := by omega
  refine callsIn_of_wp Tryz.func43 rfl hF ?_ hro
  simp only [Tryz.ntmps43, List.size_toArray, List.length_cons, List.length_nil, Nat.reduceAdd, Nat.reduceSub, Array.replicate_succ, Array.replicate_zero, List.push_toArray, List.append_toArray, List.nil_append, List.cons_append]
  gi_wp2
  go_ret
  exact ⟨rfl, rfl⟩
end Go.Proofs.YtlgeffinhbodeaeGreatDoor

/-
  impl.appendNumber, appendFixed.
-/
namespace Go.Proofs.YtlgeffinhbodeaeGreatDoor
open Go.ChangeShapes Go.WideShapes Go.ChangeAt Go.RowKit Go.Deep
set_option linter.unusedVariables false
set_option linter.unusedSimpArgs false
set_option maxRecDepth 100000

/-- Bytes of the call's own, nil among them. -/
def OwnS (w : World) (base : Nat) (v : Value) (l : List UInt8) : Prop := w.ownsRow base 5 1 v l.length (l.map ub)
theorem OwnS.slice {w : World} {base : Nat} {v : Value} {l : List UInt8} (h : OwnS w base v l) : ∃ a cp, v = .slice a l.length cp := by
  rcases h.2 with ⟨rfl, h0⟩ | ⟨g, cap, cur, rfl, _⟩
  · exact ⟨none, 0, by rw [h0]⟩
  · exact ⟨_, _, rfl⟩
theorem OwnS.of {w : World} {base g cp : Nat} {l : List UInt8} (h : OwnY w base g cp l) : OwnS w base (.slice (some ⟨g, 0, none⟩) l.length cp) l := h
theorem OwnS.row {w : World} {base : Nat} {v : Value} {l : List UInt8} (h : OwnS w base v l) : ∀ k, v.ownBlock = some k → base ≤ k ∧ k < w.heap.size := fun k hk => World.ownsRow.lt h k hk
theorem OwnS.chg {S : Nat → Prop} {w w' : World} {base : Nat} {v : Value} {l : List UInt8} (h : OwnS w base v l) (hc : Chg S w w') (hn : ∀ k, v.ownBlock = some k → ¬ S k) : OwnS w' base v l := own_chg h hc hn
/-- Bytes appended to a row of the call's own, nil or not. -/
theorem wpList_append_bysV {ops : Array Oper} {rest : List Oper} {o : Oper} {a : Act} {Q : Exit → Act → World → Prop} (w : World) (hgd : o.guard = none) (s x : Operand)
    (ho : o.op = .call { callee := .builtin .append, args := #[s, x], argTypes := #[22, 22] })
    (base b off m cx : Nat) (v : Value) (l k : List UInt8) (hs : a.eval s = v) (hx : a.eval x = .slice (some ⟨b, off, none⟩) m cx) (hm : m = k.length) (hk : 0 < k.length) (hO : OwnS w base v l)
    (hc : BysAt w b off k) (hlen : l.length + k.length ≤ 2 ^ 30) (hbase : base ≤ w.heap.size)
    (h : ∀ g' cp' w', OwnY w' base g' cp' (l ++ k) → w.grownBy w' v.ownBlock → (v.ownBlock = some g' ∨ g' = w.heap.size) → wpList Tryz.prog ops Q rest (a.put o.dst (.slice (some ⟨g', 0, none⟩) (l ++ k).length cp')) w') : wpList Tryz.prog ops Q (o :: rest) a w := by
  subst hm
  obtain ⟨i, hi, hz0, hz1, hz2⟩ := info_parts Tryz.infoByte
  refine wpList_append_own_at w hgd s x 22 ho base 5 i _ 1 1 Tryz.underlying22 hi hz0 hz1 hz2 rfl (by decide) v l.length (l.map ub) hs hO ⟨b, off, none⟩ k.length cx (k.map ub) hx (by simp) ?_ (ub_one k) ?_ ?_ hbase ?_
  · intro j u hu
    rw [List.getElem?_map] at hu
    cases hkk : k[j]? with
    | none => rw [hkk] at hu; cases hu
    | some r =>
      rw [hkk] at hu
      simp at hu
      rw [Addr.add_mid, hc j r hkk, ← hu]
  · unfold maxLen; omega
  · omega
  · intro v' w' hO' hgr hnil hat
    rcases hO'.2 with ⟨h0, h00⟩ | ⟨g', cap', cur, hv, _, _, hn, hcap, _, _⟩
    · omega
    · subst hv
      have hl : (l ++ k).length = l.length + k.length := List.length_append
      have h1 := h g' cap' w' ?_ hgr ?_
      · rw [hl] at h1; exact h1
      · unfold OwnY
        rw [List.length_append, List.map_append]
        exact hO'
      · simp only [Value.ownBlock] at hat ⊢
        rcases hat with q | q
        · exact .inl q.symm
        · exact .inr (Option.some.inj q)
/-- What has turned, new blocks aside. -/
theorem Chg.fresh {w w' : World} {r : Option Nat} (h : Chg (fun k => r = some k ∨ w.heap.size ≤ k) w w') : Chg (fun k => r = some k) w w' :=
  ⟨h.os, h.tape, h.output, h.size, fun k hk hn => h.block k hk (fun q => by rcases q with q | q; exact hn q; omega)⟩
theorem or128 (n : Nat) : bits .or .u8 (IntKind.u8.wrap (n : Int)) 128 = ((128 + n % 128 : Nat) : Int) := by
  have h0 : IntKind.u8.wrap (n : Int) = ((n % 256 : Nat) : Int) := by
    simp only [IntKind.wrap, IntKind.bits, IntKind.signed, Bool.false_and, Bool.false_eq_true, if_false]
    omega
  rw [h0]
  have hb : ∀ x : Fin 256, bits .or .u8 ((x.val : Nat) : Int) 128 = ((128 + x.val % 128 : Nat) : Int) := by decide
  have := hb ⟨n % 256, by omega⟩
  rw [this]
  congr 1
  show 128 + n % 256 % 128 = 128 + n % 128
  omega

set_option maxHeartbeats 2000000 in
theorem appendNumber_core (base : Nat) (v : Value) (l : List UInt8) (n : Nat) (w : World) (hO : OwnS w base v l) (hn : n < 2 ^ 64) (hl : l.length ≤ 2 ^ 29) (hb : base ≤ w.heap.size) :
    Calls Tryz.prog 47 #[v, .int .u64 (n : Int)] w fun e w' => ∃ g cp, e = .returned (.slice (some ⟨g, 0, none⟩) (l ++ num n).length cp) ∧ OwnY w' base g cp (l ++ num n) ∧ Chg (fun k => v.ownBlock = some k) w w' ∧ (v.ownBlock = some g ∨ w.heap.size ≤ g) := by
  obtain ⟨a, cp, rfl⟩ := hO.slice
  have HO : Hid (OwnS w base (.slice a l.length cp) l ∧ n < 2 ^ 64 ∧ l.length ≤ 2 ^ 29) := ⟨hO, hn, hl⟩
  clear hO hn hl
  go_enter Tryz.func47, Tryz.ntmps47
  go_wp2_with fail
  go_loopw [0, 1] (fun tv nn wr => ∃ (a' : Option Addr) (cp' k : Nat) (l' : List UInt8), tv = .slice a' l'.length cp' ∧ nn = .int .u64 (k : Int) ∧ k < 2 ^ 64 ∧ l ++ num n = l' ++ num k ∧ OwnS wr base (.slice a' l'.length cp') l' ∧ Chg (fun j => (Value.slice a l.length cp).ownBlock = some j ∨ w.heap.size ≤ j) w wr ∧ (∀ j, (Value.slice a' l'.length cp').ownBlock = some j → (Value.slice a l.length cp).ownBlock = some j ∨ w.heap.size ≤ j)) (fun _ nn _ => (intOf nn).toNat)
  case atStart => exact ⟨a, cp, n, l, rfl, rfl, HO.out.2.1, rfl, HO.out.1, Chg.refl _ _, fun j hj => .inl hj⟩
  case round =>
    obtain ⟨a', cp', k, l', rfl, rfl, hk, he, hS, hC, hR⟩ := hrel
    have hlen : l'.length + (num k).length ≤ 2 ^ 29 + 10 := by
      have h1 := congrArg List.length he
      rw [List.length_append, List.length_append] at h1
      have h2 := num_len64 HO.out.2.1
      have h3 := HO.out.2.2
      omega
    have hp := num_pos k
    have hlen2 : l'.length + 1 ≤ 536870922 := by omega
    have hsz := hC.size
    have HJ : Hid (OwnS wr base (.slice a' l'.length cp') l' ∧ Chg (fun j => (Value.slice a l.length cp).ownBlock = some j ∨ w.heap.size ≤ j) w wr ∧ (∀ j, (Value.slice a' l'.length cp').ownBlock = some j → (Value.slice a l.length cp).ownBlock = some j ∨ w.heap.size ≤ j) ∧ l ++ num n = l' ++ num k ∧ k < 2 ^ 64) := ⟨hS, hC, hR, he, hk⟩
    clear hS hC hR he hlen hp
    by_cases h128 : 128 ≤ k
    · have z : (128 : Int) ≤ (k : Int) := by omega
      obtain ⟨x, hx⟩ : ∃ x : UInt8, x = byt (128 + k % 128) := ⟨_, rfl⟩
      have hxv : bits .or .u8 (IntKind.u8.wrap (k : Int)) 128 = (x.toNat : Int) := by rw [or128, hx, byt_nat (by omega)]
      have hxv2 : bits .or .u8 ((k : Int) % 256) 128 = (x.toNat : Int) := by
        have h0 : IntKind.u8.wrap (k : Int) = (k : Int) % 256 := by
          simp only [IntKind.wrap, IntKind.bits, IntKind.signed, Bool.false_and, Bool.false_eq_true, if_false]
          omega
        rw [← h0]; exact hxv
      obtain ⟨WD, hWD⟩ : ∃ V : World, V = wr.alloc (Obj.cells #[ub x] 5) := ⟨_, rfl⟩
      have hbD : Below wr.heap.size wr WD := by rw [hWD]; exact (Below.refl _ _).alloc (Nat.le_refl _) _
      have HD : Hid (OwnS WD base (.slice a' l'.length cp') l' ∧ BysAt WD wr.heap.size 0 [x] ∧ WD.heap.size = wr.heap.size + 1 ∧ Below wr.heap.size wr WD) := by
        refine ⟨HJ.out.1.chg (S := fun _ => False) (Chg.of_below hbD) (fun _ _ q => q), ?_, by rw [hWD]; simp, hbD⟩
        intro i y hy
        rw [hWD]
        cases i with
        | zero => simp at hy; subst hy; simp
        | succ i => simp at hy
      have HX : Hid (x = byt (128 + k % 128)) := hx
      clear hbD hx
      go_wp2_with (at_builtin; rw [← hWD]; refine wpList_append_bysV _ rfl _ _ rfl base wr.heap.size 0 1 1 (.slice a' l'.length cp') l' [x] rfl rfl rfl (Nat.zero_lt_one) ?hO ?hc ?hl ?hb ?_)
      case hO => first | exact HD.out.1 | (rw [← hWD]; exact HD.out.1)
      case hc => first | exact HD.out.2.1 | (rw [← hWD]; exact HD.out.2.1)
      case hl => first | omega | (simp; omega)
      case hb => first | omega | (rw [HD.out.2.2.1]; omega) | (simp; omega)
      intro g' cp2 wE hOE hgrE hatE
      try rw [← hWD] at hgrE
      have HE : Hid (OwnS wE base (.slice (some ⟨g', 0, none⟩) (l' ++ [x]).length cp2) (l' ++ [x]) ∧ Chg (fun j => (Value.slice a l.length cp).ownBlock = some j ∨ w.heap.size ≤ j) w wE ∧ (∀ j, (Value.slice (some ⟨g', 0, none⟩) (l' ++ [x]).length cp2).ownBlock = some j → (Value.slice a l.length cp).ownBlock = some j ∨ w.heap.size ≤ j) ∧ l ++ num n = (l' ++ [x]) ++ num (k / 128)) := by
        have hc1 : Chg (fun j => (Value.slice a l.length cp).ownBlock = some j ∨ w.heap.size ≤ j) WD wE := Chg.of_grown hgrE (fun j hj => HJ.out.2.2.1 j hj)
        refine ⟨hOE, (HJ.out.2.1.trans (Chg.of_below HD.out.2.2.2)).trans hc1, ?_, ?_⟩
        · intro j hj
          have hj2 : g' = j := Option.some.inj hj
          subst hj2
          rcases hatE with q | q
          · exact HJ.out.2.2.1 _ q
          · right; first | (rw [q, HD.out.2.2.1]; omega) | (rw [q]; simp; omega) | omega
        · rw [HJ.out.2.2.2.1, num_large (by omega), HX.out, List.append_assoc]; rfl
      have hk2 : k / 128 < 2 ^ 64 := by have := HJ.out.2.2.2.2; omega
      clear hOE hgrE hatE hWD HD hxv hxv2
      go_wp2_with fail
      refine ⟨⟨some ⟨g', 0, none⟩, cp2, k / 128, l' ++ [x], by simp, by first | rfl | go_num, hk2, HE.out.2.2.2, HE.out.1, HE.out.2.1, HE.out.2.2.1⟩, by simp [intOf]; omega⟩
    · have z : ¬ (128 : Int) ≤ (k : Int) := by omega
      obtain ⟨x, hx⟩ : ∃ x : UInt8, x = byt k := ⟨_, rfl⟩
      have hxv : (k : Int) % 256 = (x.toNat : Int) := by rw [hx, byt_nat (by omega)]; omega
      have hxw : (k : Int) = (x.toNat : Int) := by rw [hx, byt_nat (by omega)]
      obtain ⟨WD, hWD⟩ : ∃ V : World, V = wr.alloc (Obj.cells #[.int .u8 (k : Int)] 5) := ⟨_, rfl⟩
      have hbD : Below wr.heap.size wr WD := by rw [hWD]; exact (Below.refl _ _).alloc (Nat.le_refl _) _
      have HD : Hid (OwnS WD base (.slice a' l'.length cp') l' ∧ BysAt WD wr.heap.size 0 [x] ∧ WD.heap.size = wr.heap.size + 1 ∧ Below wr.heap.size wr WD) := by
        refine ⟨HJ.out.1.chg (S := fun _ => False) (Chg.of_below hbD) (fun _ _ q => q), ?_, by rw [hWD]; simp, hbD⟩
        intro i y hy
        rw [hWD]
        cases i with
        | zero => simp at hy; subst hy; simp [hxw]
        | succ i => simp at hy
      have HX : Hid (x = byt k) := hx
      clear hbD hx hxv hxw
      go_wp2_with (at_builtin; rw [← hWD]; refine wpList_append_bysV _ rfl _ _ rfl base wr.heap.size 0 1 1 (.slice a' l'.length cp') l' [x] rfl rfl rfl (Nat.zero_lt_one) ?hO ?hc ?hl ?hb ?_)
      case hO => first | exact HD.out.1 | (rw [← hWD]; exact HD.out.1)
      case hc => first | exact HD.out.2.1 | (rw [← hWD]; exact HD.out.2.1)
      case hl => first | omega | (simp; omega)
      case hb => first | omega | (rw [HD.out.2.2.1]; omega) | (simp; omega)
      intro g' cp2 wE hOE hgrE hatE
      try rw [← hWD] at hgrE
      have HE : Hid (OwnY wE base g' cp2 (l ++ num n) ∧ Chg (fun j => (Value.slice a l.length cp).ownBlock = some j) w wE ∧ ((Value.slice a l.length cp).ownBlock = some g' ∨ w.heap.size ≤ g') ∧ (l' ++ [x]).length = (l ++ num n).length) := by
        have hc1 : Chg (fun j => (Value.slice a l.length cp).ownBlock = some j ∨ w.heap.size ≤ j) WD wE := Chg.of_grown hgrE (fun j hj => HJ.out.2.2.1 j hj)
        have hll : l ++ num n = l' ++ [x] := by rw [HJ.out.2.2.2.1, num_small (by omega), HX.out]
        refine ⟨by rw [hll]; exact hOE, ((HJ.out.2.1.trans (Chg.of_below HD.out.2.2.2)).trans hc1).fresh, ?_, by rw [hll]⟩
        rcases hatE with q | q
        · exact HJ.out.2.2.1 _ q
        · right; first | (rw [q, HD.out.2.2.1]; omega) | (rw [q]; simp; omega) | omega
      clear hOE hgrE hatE hWD HD
      go_wp2_with fail
      go_ret
      exact ⟨g', cp2, by rw [← HE.out.2.2.2]; first | rfl | simp, HE.out.1, HE.out.2.1, HE.out.2.2.1⟩

set_option maxHeartbeats 2000000 in
theorem appendFixed_core (base : Nat) (v : Value) (l : List UInt8) (n : Nat) (w : World) (hO : OwnS w base v l) (hn : n < 2 ^ 32) (hl : l.length ≤ 2 ^ 29) (hb : base ≤ w.heap.size) :
    Calls Tryz.prog 45 #[v, .int .u32 (n : Int)] w fun e w' => ∃ g cp, e = .returned (.slice (some ⟨g, 0, none⟩) (l ++ fixed n).length cp) ∧ OwnY w' base g cp (l ++ fixed n) ∧ Chg (fun k => v.ownBlock = some k) w w' ∧ (v.ownBlock = some g ∨ w.heap.size ≤ g) := by
  obtain ⟨a, cp, rfl⟩ := hO.slice
  have HO : Hid (OwnS w base (.slice a l.length cp) l ∧ n < 2 ^ 32 ∧ l.length ≤ 2 ^ 29) := ⟨hO, hn, hl⟩
  obtain ⟨WD, hWD⟩ : ∃ V : World, V = w.alloc (Obj.cells #[.int .u8 ((n : Int) % 256), .int .u8 ((n : Int) / 256 % 256), .int .u8 ((n : Int) / 65536 % 256), .int .u8 ((n : Int) / 16777216 % 256)] 5) := ⟨_, rfl⟩
  have hbD : Below w.heap.size w WD := by rw [hWD]; exact (Below.refl _ _).alloc (Nat.le_refl _) _
  have HD : Hid (OwnS WD base (.slice a l.length cp) l ∧ BysAt WD w.heap.size 0 (fixed n) ∧ WD.heap.size = w.heap.size + 1 ∧ Below w.heap.size w WD) := by
    refine ⟨HO.out.1.chg (S := fun _ => False) (Chg.of_below hbD) (fun _ _ q => q), ?_, by rw [hWD]; simp, hbD⟩
    intro i y hy
    rw [hWD, cell_of_row _ _ _ _ _ _ (heap_alloc_last w _)]
    unfold fixed at hy
    match i with
    | 0 => simp at hy; subst hy; simp [byt_nat (show n % 256 < 256 by omega)]
    | 1 => simp at hy; subst hy; simp [byt_nat (show n / 256 % 256 < 256 by omega)]
    | 2 => simp at hy; subst hy; simp [byt_nat (show n / 65536 % 256 < 256 by omega)]
    | 3 => simp at hy; subst hy; simp [byt_nat (show n / 16777216 % 256 < 256 by omega)]
    | i + 4 => simp at hy
  clear hO hn hl hbD
  have hl2 : l.length ≤ 536870912 := by have := HO.out.2.2; omega
  go_enter Tryz.func45, Tryz.ntmps45
  go_wp2_with (at_builtin; rw [← hWD]; refine wpList_append_bysV _ rfl _ _ rfl base w.heap.size 0 4 4 (.slice a l.length cp) l (fixed n) rfl rfl rfl (by show 0 < 4; omega) ?hO ?hc ?hl ?hb ?_)
  case hO => first | exact HD.out.1 | (rw [← hWD]; exact HD.out.1)
  case hc => first | exact HD.out.2.1 | (rw [← hWD]; exact HD.out.2.1)
  case hl => show l.length + 4 ≤ _; omega
  case hb => first | omega | (rw [HD.out.2.2.1]; omega) | (simp; omega)
  intro g' cp2 wE hOE hgrE hatE
  try rw [← hWD] at hgrE
  have HE : Hid (OwnY wE base g' cp2 (l ++ fixed n) ∧ Chg (fun j => (Value.slice a l.length cp).ownBlock = some j) w wE ∧ ((Value.slice a l.length cp).ownBlock = some g' ∨ w.heap.size ≤ g')) := by
    refine ⟨hOE, (Chg.of_below HD.out.2.2.2).trans (Chg.of_grown hgrE (fun j hj => hj)), ?_⟩
    rcases hatE with q | q
    · exact .inl q
    · right; first | (rw [q, HD.out.2.2.1]; omega) | (rw [q]; simp) | omega
  clear hOE hgrE hatE hWD HD
  go_wp2_with fail
  go_ret
  exact ⟨g', cp2, by first | rfl | simp, HE.out.1, HE.out.2.1, HE.out.2.2⟩
end Go.Proofs.YtlgeffinhbodeaeGreatDoor

/-
  impl.appendText.
-/
namespace Go.Proofs.YtlgeffinhbodeaeGreatDoor
open Go.ChangeShapes Go.WideShapes Go.ChangeAt Go.RowKit Go.Deep
set_option linter.unusedVariables false
set_option linter.unusedSimpArgs false
set_option maxRecDepth 100000

theorem strCells_ub (s : ByteArray) : Lib.strCells s = (bl s).map ub := rfl
/-- A string appended to bytes of the call's own, and where they lie then. -/
theorem append_str_lies (w : World) (ty : TypeId) (base g cp : Nat) (L : List UInt8) (s : ByteArray) (hO : OwnY w base g cp L) (hlen : L.length + s.size ≤ 2 ^ 30) (hb : base ≤ w.heap.size) (h0 : 0 < L.length) :
    ∃ g' cp' w', (Builtin.append_ #[22, 9] ty #[.slice (some ⟨g, 0, none⟩) L.length cp, .string s]).run Tryz.prog w = .ok (.slice (some ⟨g', 0, none⟩) (L ++ bl s).length cp') w' ∧ OwnY w' base g' cp' (L ++ bl s) ∧ w.grownBy w' (some g) ∧ (g' = g ∨ g' = w.heap.size) := by
  obtain ⟨i, hi, hz0, hz1, hz2⟩ := info_parts Tryz.infoByte
  obtain ⟨v', w', hr, hO', hg', _⟩ := Lib.run_append_own_string (P := Tryz.prog) w base 22 9 ty 5 i Tryz.underlying22 Tryz.underlying9 hi hz0 hz1 hz2 (.slice (some ⟨g, 0, none⟩) L.length cp) L.length (L.map ub) hO s (by unfold maxLen; omega) (by omega) hb
  have hl : (L ++ bl s).length = L.length + s.size := by rw [List.length_append, bl_len]
  have hOw : ∀ g' cp', v' = .slice (some ⟨g', 0, none⟩) (L.length + s.size) cp' → OwnY w' base g' cp' (L ++ bl s) := by
    intro g' cp' hv
    unfold OwnY
    rw [hl, List.map_append, ← strCells_ub, ← hv]
    exact hO'
  rcases hO.2 with ⟨h9, _⟩ | ⟨g0, cap0, cur, hv, hbg, hheap, hn, hcap, hcs, hcu⟩
  · cases h9
  · simp only [Value.slice.injEq, Option.some.injEq, Addr.mk.injEq, and_true, true_and] at hv
    obtain ⟨rfl, rfl⟩ := hv
    by_cases hroom : L.length + s.size ≤ cp
    · have hr2 := Lib.run_append_room_string (P := Tryz.prog) w 22 9 ty 5 i Tryz.underlying22 Tryz.underlying9 hi hz1 g L.length cp cur hheap s hroom (by omega)
      rw [hr] at hr2
      have hv : v' = .slice (some ⟨g, 0, none⟩) (L.length + s.size) cp := by injection hr2
      exact ⟨g, cp, w', by rw [hl, ← hv]; exact hr, hOw g cp hv, hg', .inl rfl⟩
    · have hr2 := Lib.run_append_grow_string (P := Tryz.prog) w 22 9 ty 5 i _ Tryz.underlying22 Tryz.underlying9 hi hz0 ⟨g, 0, none⟩ L.length cp (L.map ub) (by rw [List.length_map, hz1, Nat.mul_one]) (fun j u hu => hO.cells (g := g) rfl j u hu) s (by omega) (by omega) (by rw [hz2]; exact growslice_fits (by omega) (by omega))
      rw [hr] at hr2
      have hv : v' = .slice (some ⟨w.heap.size, 0, none⟩) (L.length + s.size) (grownCap w (L.length + s.size) cp 5) := by injection hr2
      exact ⟨w.heap.size, _, w', by rw [hl, ← hv]; exact hr, hOw _ _ hv, hg', .inr rfl⟩
theorem wpList_append_strV {ops : Array Oper} {rest : List Oper} {o : Oper} {a : Act} {Q : Exit → Act → World → Prop} (w : World) (hgd : o.guard = none) (sl x : Operand)
    (ho : o.op = .call { callee := .builtin .append, args := #[sl, x], argTypes := #[22, 9] })
    (base g cp n : Nat) (L : List UInt8) (s : ByteArray) (hn : n = L.length) (hs : a.eval sl = .slice (some ⟨g, 0, none⟩) n cp) (hx : a.eval x = .string s) (hO : OwnY w base g cp L) (hlen : L.length + s.size ≤ 2 ^ 30) (hb : base ≤ w.heap.size) (h0 : 0 < L.length)
    (h : ∀ g' cp' w', OwnY w' base g' cp' (L ++ bl s) → w.grownBy w' (some g) → (g' = g ∨ g' = w.heap.size) → wpList Tryz.prog ops Q rest (a.put o.dst (.slice (some ⟨g', 0, none⟩) (L ++ bl s).length cp')) w') : wpList Tryz.prog ops Q (o :: rest) a w := by
  subst hn
  refine wpList_plain hgd fun K hK => ?_
  obtain ⟨g', cp', w', hr, h2, h3, h4⟩ := append_str_lies w o.type base g cp L s hO hlen hb h0
  unfold Oper.wp execOp
  simp only [ho, resolve, invoke, builtin, Sem.run_bind, Sem.run_pure, Result.andThen_ok, List.map_toArray, List.map_cons, List.map_nil, hs, hx, hr]
  exact hK _ _ (h g' cp' w' h2 h3 h4)

set_option maxHeartbeats 2000000 in
theorem appendText_core (base : Nat) (v : Value) (l : List UInt8) (s : ByteArray) (w : World) (hO : OwnS w base v l) (hl : l.length + s.size ≤ 2 ^ 29) (hb : base ≤ w.heap.size) :
    Calls Tryz.prog 48 #[v, .string s] w fun e w' => ∃ g cp, e = .returned (.slice (some ⟨g, 0, none⟩) (l ++ num s.size ++ bl s).length cp) ∧ OwnY w' base g cp (l ++ num s.size ++ bl s) ∧ Chg (fun k => v.ownBlock = some k) w w' ∧ (v.ownBlock = some g ∨ w.heap.size ≤ g) := by
  have HO : Hid (OwnS w base v l ∧ l.length + s.size ≤ 2 ^ 29) := ⟨hO, hl⟩
  obtain ⟨a, cp, rfl⟩ := hO.slice
  clear hO hl
  have hl2 : l.length + s.size ≤ 536870912 := by have := HO.out.2; omega
  go_enter Tryz.func48, Tryz.ntmps48
  go_wp2_with (first
    | (at_builtin; refine wpList_append_strV _ rfl _ _ rfl base g1 cp1 (l.length + (num s.size).length) (l ++ num s.size) s List.length_append.symm rfl rfl hO1 (by have := HO.out.2; have := num_len64 (n := s.size) (by omega); rw [List.length_append]; omega) (Nat.le_trans hb hC1.size) (by have := List.length_pos_iff.2 (num_ne s.size); rw [List.length_append]; omega) ?_; intro g2 cp2 w2 hO2 hgr2 hat2)
    | (go_at_call 47; refine (appendNumber_core base _ l s.size _ HO.out.1 (by omega) (by omega) (by omega)).mono ?_; rintro e w1 ⟨g1, cp1, rfl, hO1, hC1, hat1⟩))
  go_ret
  refine ⟨g2, cp2, by first | rfl | simp, hO2, ?_, ?_⟩
  · exact ((hC1.mono (fun k q => Or.inl q)).trans (Chg.of_grown hgr2 (S := fun k => (Value.slice a l.length cp).ownBlock = some k ∨ w.heap.size ≤ k) (fun j hj => by cases hj; exact hat1))).fresh
  · rcases hat2 with rfl | rfl
    · exact hat1
    · exact .inr hC1.size
end Go.Proofs.YtlgeffinhbodeaeGreatDoor

/-
  impl.blockBody.
-/
namespace Go.Proofs.YtlgeffinhbodeaeGreatDoor
open Go.ChangeShapes Go.WideShapes Go.ChangeAt Go.RowKit Go.Deep
set_option linter.unusedVariables false
set_option linter.unusedSimpArgs false
set_option maxRecDepth 100000

/-- The state of blockBody's loop, an entry beside. -/
structure BbJ (w : World) (GE : Nat) (e : Ent) (g cp : Nat) (xs : List UInt8) (wr : World) : Prop where
  out : OwnY wr w.heap.size g cp xs
  ent : BoxAt wr w.heap.size 45 6 GE [.string e.row, .string e.fam, .string e.qual, .int .u64 e.ts, .int .i64 e.kind, .string e.val]
  ne : ¬ GE = g
  below : Below w.heap.size w wr
theorem BbJ.app {w : World} {GE : Nat} {e : Ent} {g cp g' cp' : Nat} {xs ys : List UInt8} {wr w' : World} (h : BbJ w GE e g cp xs wr) (hO : OwnY w' w.heap.size g' cp' ys) (hC : Chg (fun k => (Value.slice (some ⟨g, 0, none⟩) xs.length cp).ownBlock = some k) wr w') (hat : (Value.slice (some ⟨g, 0, none⟩) xs.length cp).ownBlock = some g' ∨ wr.heap.size ≤ g') : BbJ w GE e g' cp' ys w' := by
  have h1 := h.out.lt
  have h2 := h.ent.lt
  have h3 := h.ne
  have hC2 : Chg (fun k => k = g) wr w' := hC.mono (fun k q => by simp [Value.ownBlock] at q; exact q.symm)
  refine ⟨hO, h.ent.chg hC2 h3, ?_, Chg.below h.below hC2 h.below.size (fun k q => by omega)⟩
  rcases hat with q | q
  · simp [Value.ownBlock] at q; omega
  · omega
theorem bb_num {w : World} {GE : Nat} {e : Ent} {g cp : Nat} {xs : List UInt8} {wr : World} (h : BbJ w GE e g cp xs wr) (m : Nat) (hm : m = xs.length) (n : Nat) (hn : n < 2 ^ 64) (hl : m ≤ 2 ^ 28) :
    Calls Tryz.prog 47 #[.slice (some ⟨g, 0, none⟩) m cp, .int .u64 (n : Int)] wr fun r w' => ∃ g' cp' m', r = .returned (.slice (some ⟨g', 0, none⟩) m' cp') ∧ Hid (m' = (xs ++ num n).length ∧ BbJ w GE e g' cp' (xs ++ num n) w') ∧ m' ≤ m + 10 := by
  subst hm
  refine (appendNumber_core w.heap.size _ xs n wr (OwnS.of h.out) hn (by omega) h.below.size).mono ?_
  rintro r w' ⟨g', cp', rfl, hO, hC, hat⟩
  refine ⟨g', cp', _, rfl, ⟨rfl, h.app hO hC hat⟩, ?_⟩
  have := num_len64 hn
  rw [List.length_append]
  omega
theorem bb_text {w : World} {GE : Nat} {e : Ent} {g cp : Nat} {xs : List UInt8} {wr : World} (h : BbJ w GE e g cp xs wr) (m : Nat) (hm : m = xs.length) (s : ByteArray) (hs : s.size ≤ 200) (hl : m ≤ 2 ^ 28) :
    Calls Tryz.prog 48 #[.slice (some ⟨g, 0, none⟩) m cp, .string s] wr fun r w' => ∃ g' cp' m', r = .returned (.slice (some ⟨g', 0, none⟩) m' cp') ∧ Hid (m' = (xs ++ strB (bl s)).length ∧ BbJ w GE e g' cp' (xs ++ strB (bl s)) w') ∧ m' ≤ m + 300 := by
  subst hm
  have e1 : xs ++ num s.size ++ bl s = xs ++ strB (bl s) := by unfold strB; rw [bl_len, List.append_assoc]
  refine (appendText_core w.heap.size _ xs s wr (OwnS.of h.out) (by omega) h.below.size).mono ?_
  rintro r w' ⟨g', cp', rfl, hO, hC, hat⟩
  rw [e1] at hO ⊢
  refine ⟨g', cp', _, rfl, ⟨rfl, h.app hO hC hat⟩, ?_⟩
  have := strB_len (s := bl s) (by rw [bl_len]; omega)
  rw [bl_len] at this
  rw [List.length_append]
  omega
theorem BbJ.move {w : World} {GE : Nat} {e : Ent} {g cp : Nat} {xs : List UInt8} {wr w' : World} (h : BbJ w GE e g cp xs wr) (hb : Below wr.heap.size wr w') : BbJ w GE e g cp xs w' :=
  ⟨h.out.below hb, h.ent.below hb, h.ne, h.below.trans (hb.mono h.below.size)⟩
set_option maxHeartbeats 8000000 in
theorem blockBody_core (b off cap : Nat) (es : List Ent) (w : World) (hE : EntsAt w b off es) (hok : ∀ e ∈ es, e.ok) (hv : ∀ e ∈ es, e.vld = true) (hB : b < w.heap.size) (hlen : es.length ≤ 10000) :
    Calls Tryz.prog 44 #[.slice (some ⟨b, off, none⟩) es.length cap] w fun r w' =>
      ∃ (g cp : Nat), r = .returned (.slice (some ⟨g, 0, none⟩) (body [] es).length cp) ∧ OwnY w' w.heap.size g cp (body [] es) ∧ Below w.heap.size w w' := by
  obtain ⟨W0, hW0⟩ : ∃ W0 : World, W0 = w.alloc (Obj.cells #[] 5) := ⟨_, rfl⟩
  have hb0 : Below w.heap.size w W0 := by rw [hW0]; exact (Below.refl _ _).alloc (Nat.le_refl _) _
  have HO0 : Hid (OwnY W0 w.heap.size w.heap.size 0 []) := by rw [hW0]; exact ownY_new w (Nat.le_refl _)
  have HE : Hid (EntsAt w b off es ∧ (∀ e ∈ es, e.ok) ∧ (∀ e ∈ es, e.vld = true)) := ⟨hE, hok, hv⟩
  obtain ⟨n, hn⟩ : ∃ n, n = es.length := ⟨_, rfl⟩
  have HN : Hid (n = es.length) := hn
  rw [← hn] at hlen ⊢
  clear hE hok hv hn
  go_enter Tryz.func44, Tryz.ntmps44
  go_upto_region 2 with fail
  rw [← hW0]
  clear hW0
  go_wp2_with fail
  go_loopw [3, 4, 11] (fun o s i wr => ∃ (k m g cp : Nat) (bf : ByteArray), k ≤ n ∧ i = .int .i64 (k : Int) ∧ m = (body [] (es.take k)).length ∧ o = .slice (some ⟨g, 0, none⟩) m cp ∧ s = .string bf ∧ bf.size ≤ 64 ∧ bl bf = lastRow [] (es.take k) ∧ OwnY wr w.heap.size g cp (body [] (es.take k)) ∧ Below w.heap.size w wr) (fun _ _ i _ => n - (intOf i).toNat)
  case atStart => exact ⟨0, 0, _, 0, ⟨#[]⟩, Nat.zero_le _, rfl, rfl, rfl, rfl, by decide, rfl, HO0.out, hb0⟩
  case round =>
    obtain ⟨k, m, g, cp, bf, hk, rfl, hm, rfl, rfl, hbs, hbf, hO, hb⟩ := hrel
    have hsb := hb.size
    obtain ⟨X0, hX0⟩ : ∃ X0, X0 = body [] (es.take k) := ⟨_, rfl⟩
    have HX0 : Hid (X0 = body [] (es.take k) ∧ m = X0.length ∧ bl bf = lastRow [] (es.take k)) := ⟨hX0, by rw [hX0]; exact hm, hbf⟩
    have hx0 : m ≤ 500 * k := by
      rw [hm]
      have := body_len (es.take k) [] (fun e he => HE.out.2.2 e (List.mem_of_mem_take he)) (fun e he => by have := wf_u64 (HE.out.2.1 e (List.mem_of_mem_take he)).ts; omega)
      have hk2 := HN.out
      rw [List.length_take, Nat.min_eq_left (by omega)] at this
      exact this
    rw [← hX0] at hO
    have HO : Hid (OwnY wr w.heap.size g cp X0) := hO
    have hgl := hO.lt
    clear hX0 hbf hO hm HO0
    by_cases hlt : k < n
    · have zk : (k : Int) < (n : Int) := by omega
      obtain ⟨e, he⟩ : ∃ e, es[k]? = some e := ⟨_, List.getElem?_eq_getElem (by have := HN.out; omega)⟩
      have hem := List.mem_of_getElem? he
      obtain ⟨v1, v2, v3, v4, v5, v6, v7, v8⟩ := vld_parts (HE.out.2.2 e hem)
      have hts := wf_u64 (HE.out.2.1 e hem).ts
      have HT : Hid (es.take (k + 1) = es.take k ++ [e]) := by rw [List.take_add_one, he]; rfl
      obtain ⟨c0, c1, c2, c3, c4, c5⟩ := HE.out.1.below hb hB k e he
      obtain ⟨W1, hW1⟩ : ∃ W1 : World, W1 = wr.alloc (Obj.cells #[.string e.row, .string e.fam, .string e.qual, .int .u64 e.ts, .int .i64 e.kind, .string e.val] 45) := ⟨_, rfl⟩
      have HS1 : Hid (BbJ w wr.heap.size e g cp X0 W1) := by
        have hba : Below wr.heap.size wr W1 := by rw [hW1]; exact (Below.refl _ _).alloc (Nat.le_refl _) _
        refine ⟨HO.out.below hba, ?_, by omega, hb.trans (hba.mono hsb)⟩
        rw [hW1]; exact boxAt_new wr _ hsb rfl
      clear he hem
      go_upto_region 6 with fail
      rw [← hW1]
      clear hW1 c0 c1 c2 c3 c4 c5
      have q := HS1.out.ent.cell (j := 0) rfl
      go_wp2_with fail
      clear q
      refine (implShared_core bf e.row W1 (by unfold maxLen; omega) (by unfold maxLen; omega)).mono ?_
      rintro r w2 ⟨rfl, hb2⟩
      obtain ⟨sh, hsh⟩ : ∃ sh, sh = shared (bl bf) (bl e.row) := ⟨_, rfl⟩
      have hsh1 : sh ≤ e.row.size := by rw [hsh, ← bl_len]; exact (shared_le _ _).2
      have HSh : Hid (sh = shared (lastRow [] (es.take k)) (bl e.row)) := by rw [← HX0.out.2.2]; exact hsh
      rw [← hsh]
      have HS2 : Hid (m = X0.length ∧ BbJ w wr.heap.size e g cp X0 w2) := ⟨HX0.out.2.1, HS1.out.move hb2⟩
      clear hsh hb2 HS1
      obtain ⟨rs, hrs⟩ : ∃ s : ByteArray, s = e.row.extract sh e.row.size := ⟨_, rfl⟩
      have hrs1 : rs.size ≤ 64 := by rw [hrs, ByteArray.size_extract]; omega
      have HRS : Hid (bl rs = (bl e.row).drop sh) := by
        show bl rs = (bl e.row).drop sh
        rw [hrs]
        show (e.row.extract sh e.row.size).data.toList = _
        rw [Lib.extract_data, List.take_of_length_le (by rw [List.length_drop, bl_len]; omega)]
      have HRS2 : Hid (rs = e.row.extract sh e.row.size) := hrs
      clear hrs
      obtain ⟨tn, htn⟩ : ∃ tn : Nat, e.ts = (tn : Int) := ⟨e.ts.toNat, by omega⟩
      obtain ⟨kn, hkn⟩ : ∃ kn : Nat, e.kind = (kn : Int) := ⟨e.kind.toNat, by omega⟩
      have htn2 : tn < 2 ^ 64 := by omega
      have hkn2 : kn ≤ 2 := by omega
      have HTK : Hid (e.ts.toNat = tn ∧ e.kind.toNat = kn) := ⟨by omega, by omega⟩
      have zsh : (sh : Int) ≤ (e.row.size : Int) := by omega
      go_wp2_with fail
      refine (bb_num HS2.out.2 m HS2.out.1 sh (by omega) (by omega)).mono ?_
      rintro r w3 ⟨g3, cp3, m3, rfl, HS3, hm3⟩
      have q := HS3.out.2.ent.cell (j := 0) rfl
      go_wp2_with fail
      clear q
      rw [← HRS2.out]
      refine (bb_text HS3.out.2 m3 HS3.out.1 rs (by omega) (by omega)).mono ?_
      rintro r w4 ⟨g4, cp4, m4, rfl, HS4, hm4⟩
      have q := HS4.out.2.ent.cell (j := 1) rfl
      go_wp2_with fail
      clear q
      refine (bb_text HS4.out.2 m4 HS4.out.1 e.fam (by omega) (by omega)).mono ?_
      rintro r w5 ⟨g5, cp5, m5, rfl, HS5, hm5⟩
      have q := HS5.out.2.ent.cell (j := 2) rfl
      go_wp2_with fail
      clear q
      refine (bb_text HS5.out.2 m5 HS5.out.1 e.qual (by omega) (by omega)).mono ?_
      rintro r w6 ⟨g6, cp6, m6, rfl, HS6, hm6⟩
      have q := HS6.out.2.ent.cell (j := 3) rfl
      go_wp2_with fail
      clear q
      first | rw [htn] | skip
      refine (bb_num HS6.out.2 m6 HS6.out.1 tn (by omega) (by omega)).mono ?_
      rintro r w7 ⟨g7, cp7, m7, rfl, HS7, hm7⟩
      have q := HS7.out.2.ent.cell (j := 4) rfl
      go_wp2_with fail
      clear q
      first | rw [hkn] | skip
      refine (bb_num HS7.out.2 m7 HS7.out.1 kn (by omega) (by omega)).mono ?_
      rintro r w8 ⟨g8, cp8, m8, rfl, HS8, hm8⟩
      have q := HS8.out.2.ent.cell (j := 5) rfl
      go_wp2_with fail
      clear q
      refine (bb_text HS8.out.2 m8 HS8.out.1 e.val (by omega) (by omega)).mono ?_
      rintro r w9 ⟨g9, cp9, m9, rfl, HS9, hm9⟩
      have q := HS9.out.2.ent.cell (j := 0) rfl
      have HFin : Hid (m9 = (body [] (es.take (k + 1))).length ∧ OwnY w9 w.heap.size g9 cp9 (body [] (es.take (k + 1))) ∧ Below w.heap.size w w9 ∧ bl e.row = lastRow [] (es.take (k + 1))) := by
        have e1 : body [] (es.take (k + 1)) = X0 ++ num sh ++ strB (bl rs) ++ strB (bl e.fam) ++ strB (bl e.qual) ++ num tn ++ num kn ++ strB (bl e.val) := by
          rw [HT.out, body_snoc, ← HX0.out.1, entB, ← HSh.out, HTK.out.1, HTK.out.2, HRS.out]
          simp only [List.append_assoc]
        rw [e1]
        exact ⟨HS9.out.1, HS9.out.2.out, HS9.out.2.below, by rw [HT.out, lastRow_snoc]⟩
      go_wp2_with fail
      go_roundw
      case rel => exact ⟨k + 1, m9, g9, cp9, e.row, by omega, by go_num, HFin.out.1, rfl, rfl, by omega, HFin.out.2.2.2, HFin.out.2.1, HFin.out.2.2.1⟩
      case measure => simp [intOf]; omega
    · have zk : ¬ (k : Int) < (n : Int) := by omega
      have HFin : Hid (X0 = body [] es ∧ m = (body [] es).length) := by
        have h1 := HX0.out.1
        rw [List.take_of_length_le (by have := HN.out; omega)] at h1
        exact ⟨h1, by rw [← h1]; exact HX0.out.2.1⟩
      go_wp2_with fail
      go_ret
      exact ⟨g, cp, by rw [← HFin.out.2]; rfl, by rw [← HFin.out.1]; exact HO.out, hb⟩
end Go.Proofs.YtlgeffinhbodeaeGreatDoor

/-
  spec.l2Body.
-/
namespace Go.Proofs.YtlgeffinhbodeaeGreatDoor
open Go.ChangeShapes Go.WideShapes Go.ChangeAt Go.RowKit Go.Deep
set_option linter.unusedVariables false
set_option linter.unusedSimpArgs false
set_option maxRecDepth 100000

/-- Bytes being written, beside an entry of the round's. -/
structure ES (w0 : World) (ge : Nat) (e : Ent) (g cp : Nat) (xs : List UInt8) (wr : World) : Prop where
  out : OwnY wr w0.heap.size g cp xs
  c0 : wr.cell? ⟨ge, 0, none⟩ = some (.string e.row)
  c1 : wr.cell? ⟨ge, 1, none⟩ = some (.string e.fam)
  c2 : wr.cell? ⟨ge, 2, none⟩ = some (.string e.qual)
  c3 : wr.cell? ⟨ge, 3, none⟩ = some (.int .u64 e.ts)
  c4 : wr.cell? ⟨ge, 4, none⟩ = some (.int .i64 e.kind)
  c5 : wr.cell? ⟨ge, 5, none⟩ = some (.string e.val)
  lt : ge < wr.heap.size
  ne : ¬ ge = g
  below : Below w0.heap.size w0 wr
theorem ES.call {w0 : World} {ge : Nat} {e : Ent} {g cp : Nat} {xs : List UInt8} {wr w1 : World} (h : ES w0 ge e g cp xs wr) (hb : Below wr.heap.size wr w1) : ES w0 ge e g cp xs w1 := by
  have hs := hb.size
  have hl := h.lt
  have q : ∀ j, w1.cell? ⟨ge, j, none⟩ = wr.cell? ⟨ge, j, none⟩ := fun j => hb.cell (p := ⟨ge, j, none⟩) hl
  exact ⟨h.out.below hb, by rw [q]; exact h.c0, by rw [q]; exact h.c1, by rw [q]; exact h.c2, by rw [q]; exact h.c3, by rw [q]; exact h.c4, by rw [q]; exact h.c5, by omega, h.ne, h.below.trans (hb.mono h.below.size)⟩
theorem ES.app {w0 : World} {ge : Nat} {e : Ent} {g cp g' cp' : Nat} {xs ys : List UInt8} {wr w1 : World} (h : ES w0 ge e g cp xs wr) (hO : OwnY w1 w0.heap.size g' cp' ys) (hgr : wr.grownBy w1 (some g)) (hat : g' = g ∨ g' = wr.heap.size) : ES w0 ge e g' cp' ys w1 := by
  have hl := h.lt
  have hn := h.ne
  have hs := hgr.size
  have q : ∀ j, w1.cell? ⟨ge, j, none⟩ = wr.cell? ⟨ge, j, none⟩ := fun j => World.cell?_of_block (w := wr) (hgr.block ge hl (fun z => hn (Option.some.inj z)))
  exact ⟨hO, by rw [q]; exact h.c0, by rw [q]; exact h.c1, by rw [q]; exact h.c2, by rw [q]; exact h.c3, by rw [q]; exact h.c4, by rw [q]; exact h.c5, by omega, by omega, h.below.grown hgr h.below.size (fun k hk => by cases hk; exact h.out.lt.1)⟩

set_option maxHeartbeats 8000000 in
theorem l2Body_core (b off cap : Nat) (es : List Ent) (w : World) (hE : EntsAt w b off es) (hok : ∀ e ∈ es, e.ok) (hv : ∀ e ∈ es, e.vld = true) (hB : b < w.heap.size) (hlen : es.length ≤ 10000) :
    Calls Tryz.prog 97 #[.slice (some ⟨b, off, none⟩) es.length cap] w fun r w' =>
      ∃ (g cp : Nat), r = .returned (.slice (some ⟨g, 0, none⟩) (body [] es).length cp) ∧ OwnY w' w.heap.size g cp (body [] es) ∧ Below w.heap.size w w' := by
  obtain ⟨W0, hW0⟩ : ∃ W0 : World, W0 = w.alloc (Obj.cells #[] 5) := ⟨_, rfl⟩
  have hb0 : Below w.heap.size w W0 := by rw [hW0]; exact (Below.refl _ _).alloc (Nat.le_refl _) _
  have HO0 : Hid (OwnY W0 w.heap.size w.heap.size 0 []) := by rw [hW0]; exact ownY_new w (Nat.le_refl _)
  have HE : Hid (EntsAt w b off es ∧ (∀ e ∈ es, e.ok) ∧ (∀ e ∈ es, e.vld = true)) := ⟨hE, hok, hv⟩
  clear hE hok hv
  go_enter Tryz.func97, Tryz.ntmps97
  go_upto_region 4 with fail
  rw [← hW0]
  clear hW0
  go_loopw [3, 4, 5] (fun o s i wr => ∃ (k g cp : Nat) (bf : ByteArray), k ≤ es.length ∧ i = .int .i64 k ∧ o = .slice (some ⟨g, 0, none⟩) (body [] (es.take k)).length cp ∧ s = .string bf ∧ bf.size ≤ 64 ∧ bl bf = lastRow [] (es.take k) ∧ OwnY wr w.heap.size g cp (body [] (es.take k)) ∧ Below w.heap.size w wr) (fun _ _ i _ => es.length - (intOf i).toNat)
  case atStart => exact ⟨0, _, 0, ⟨#[]⟩, Nat.zero_le _, rfl, rfl, rfl, by decide, rfl, HO0.out, hb0⟩
  case round =>
    obtain ⟨k, g, cp, bf, hk, rfl, rfl, rfl, hbs, hbf, hO, hb⟩ := hrel
    have hsb := hb.size
    obtain ⟨X0, hX0⟩ : ∃ X0, X0 = body [] (es.take k) := ⟨_, rfl⟩
    have HX0 : Hid (X0 = body [] (es.take k)) := hX0
    have HBF : Hid (bl bf = lastRow [] (es.take k)) := hbf
    have hx0 : X0.length ≤ 500 * k := by
      rw [hX0]
      have := body_len (es.take k) [] (fun e he => HE.out.2.2 e (List.mem_of_mem_take he)) (fun e he => by have := wf_u64 (HE.out.2.1 e (List.mem_of_mem_take he)).ts; omega)
      rw [List.length_take, Nat.min_eq_left hk] at this
      exact this
    rw [← hX0] at hO ⊢
    have HO : Hid (OwnY wr w.heap.size g cp X0) := hO
    have hgl := hO.lt
    clear hX0 hbf hO
    by_cases hlt : k < es.length
    · obtain ⟨e, he⟩ : ∃ e, es[k]? = some e := ⟨_, List.getElem?_eq_getElem hlt⟩
      have hem := List.mem_of_getElem? he
      obtain ⟨v1, v2, v3, v4, v5, v6, v7, v8⟩ := vld_parts (HE.out.2.2 e hem)
      have hts := wf_u64 (HE.out.2.1 e hem).ts
      have HT : Hid (es.take (k + 1) = es.take k ++ [e]) := by rw [List.take_add_one, he]; rfl
      obtain ⟨c0, c1, c2, c3, c4, c5⟩ := HE.out.1.below hb hB k e he
      obtain ⟨W1, hW1⟩ : ∃ W1 : World, W1 = wr.alloc (Obj.cells #[.string e.row, .string e.fam, .string e.qual, .int .u64 e.ts, .int .i64 e.kind, .string e.val] 45) := ⟨_, rfl⟩
      have HS1 : Hid (ES w wr.heap.size e g cp X0 W1) := by
        have hba : Below wr.heap.size wr W1 := by rw [hW1]; exact (Below.refl _ _).alloc (Nat.le_refl _) _
        refine ⟨HO.out.below hba, ?_, ?_, ?_, ?_, ?_, ?_, by rw [hW1]; simp, by omega, hb.trans (hba.mono hsb)⟩ <;> (rw [hW1]; simp)
      clear he hem
      go_upto_region 7 with fail
      rw [← hW1]
      clear hW1 c0 c1 c2 c3 c4 c5
      have q := HS1.out.c0
      go_wp2_with fail
      clear q
      refine (l2Shared_core bf e.row W1 (by unfold maxLen; omega) (by unfold maxLen; omega)).mono ?_
      rintro r w2 ⟨rfl, hb2⟩
      obtain ⟨n, hn⟩ : ∃ n, n = shared (bl bf) (bl e.row) := ⟨_, rfl⟩
      have hn1 : n ≤ e.row.size := by rw [hn, ← bl_len]; exact (shared_le _ _).2
      have HN : Hid (n = shared (lastRow [] (es.take k)) (bl e.row)) := by rw [← HBF.out]; exact hn
      rw [← hn]
      have HS2 : Hid (ES w wr.heap.size e g cp X0 w2) := HS1.out.call hb2
      clear hn hb2 HS1
      obtain ⟨X2, hX2⟩ : ∃ X : List UInt8, X = X0 := ⟨_, rfl⟩
      have HX2 : Hid (X2 = X0) := hX2
      have hx2 : X2.length ≤ X0.length := by rw [hX2]; exact Nat.le_refl _
      rw [← hX2] at HS2 ⊢
      clear hX2
      obtain ⟨g2, hg2⟩ : ∃ x : Nat, x = g := ⟨_, rfl⟩
      obtain ⟨cp2, hcp2⟩ : ∃ x : Nat, x = cp := ⟨_, rfl⟩
      rw [← hg2, ← hcp2] at HS2 ⊢
      clear hg2 hcp2
      obtain ⟨rs, hrs⟩ : ∃ s : ByteArray, s = e.row.extract n e.row.size := ⟨_, rfl⟩
      have hrs1 : rs.size ≤ 64 := by rw [hrs, ByteArray.size_extract]; omega
      have HRS : Hid (bl rs = (bl e.row).drop n) := by
        show bl rs = (bl e.row).drop n
        rw [hrs]
        show (e.row.extract n e.row.size).data.toList = _
        rw [Lib.extract_data, List.take_of_length_le (by rw [List.length_drop, bl_len]; omega)]
      have HRS2 : Hid (rs = e.row.extract n e.row.size) := hrs
      clear hrs
      -- piece 2
      go_wp2_with fail
      refine (l2Num_all n w2 (by omega)).mono ?_
      rintro r v20 ⟨p2, d2, rfl, hP2, hbp2⟩
      have HA2 : Hid (ES w wr.heap.size e g2 cp2 X2 v20 ∧ OwnY v20 w2.heap.size p2 d2 (num n)) := ⟨HS2.out.call hbp2, hP2⟩
      have hl2 : (num n).length ≤ 300 := Nat.le_trans (num_len64 (by omega)) (by omega)
      have sz2 := (HA2.out.1).below.size
      obtain ⟨P2, hPd2⟩ : ∃ P : List UInt8, P = num n := ⟨_, rfl⟩
      have HPd2 : Hid (P2 = num n) := hPd2
      rw [← hPd2] at HA2 hl2 ⊢
      clear hP2 hbp2 hPd2 HS2
      go_wp2_with (at_builtin; refine wpList_append_bys _ rfl _ _ rfl w.heap.size g2 cp2 X2.length p2 0 P2.length d2 X2 P2 rfl rfl rfl rfl ?hO ?hc ?hl ?hb ?_)
      case hO => exact HA2.out.1.out
      case hc => exact HA2.out.2.at
      case hl => omega
      case hb => exact sz2
      intro g3 cp3 w3 hO3 hgr3 hat3
      have HS3 : Hid (ES w wr.heap.size e g3 cp3 (X2 ++ P2) w3) := HA2.out.1.app hO3 hgr3 hat3
      rw [show X2.length + P2.length = (X2 ++ P2).length from (List.length_append).symm]
      obtain ⟨X3, hX3⟩ : ∃ X : List UInt8, X = X2 ++ P2 := ⟨_, rfl⟩
      have HX3 : Hid (X3 = X2 ++ P2) := hX3
      have hx3 : X3.length ≤ X2.length + 300 := by rw [hX3, List.length_append]; omega
      rw [← hX3] at HS3 ⊢
      clear hO3 hgr3 hat3 hX3 HA2 sz2
      -- piece 3
      have q := HS3.out.c0
      go_wp2_with fail
      clear q
      rw [← HRS2.out]
      refine (l2Str_core rs w3 (by omega)).mono ?_
      rintro r v30 ⟨p3, d3, rfl, hP3, hbp3⟩
      have HA3 : Hid (ES w wr.heap.size e g3 cp3 X3 v30 ∧ OwnY v30 w3.heap.size p3 d3 (strB (bl rs))) := ⟨HS3.out.call hbp3, hP3⟩
      have hl3 : (strB (bl rs)).length ≤ 300 := by have := strB_len (s := bl rs) (by rw [bl_len]; omega); rw [bl_len] at this; omega
      have sz3 := (HA3.out.1).below.size
      obtain ⟨P3, hPd3⟩ : ∃ P : List UInt8, P = strB (bl rs) := ⟨_, rfl⟩
      have HPd3 : Hid (P3 = strB (bl rs)) := hPd3
      rw [← hPd3] at HA3 hl3 ⊢
      clear hP3 hbp3 hPd3 HS3
      go_wp2_with (at_builtin; refine wpList_append_bys _ rfl _ _ rfl w.heap.size g3 cp3 X3.length p3 0 P3.length d3 X3 P3 rfl rfl rfl rfl ?hO ?hc ?hl ?hb ?_)
      case hO => exact HA3.out.1.out
      case hc => exact HA3.out.2.at
      case hl => omega
      case hb => exact sz3
      intro g4 cp4 w4 hO4 hgr4 hat4
      have HS4 : Hid (ES w wr.heap.size e g4 cp4 (X3 ++ P3) w4) := HA3.out.1.app hO4 hgr4 hat4
      rw [show X3.length + P3.length = (X3 ++ P3).length from (List.length_append).symm]
      obtain ⟨X4, hX4⟩ : ∃ X : List UInt8, X = X3 ++ P3 := ⟨_, rfl⟩
      have HX4 : Hid (X4 = X3 ++ P3) := hX4
      have hx4 : X4.length ≤ X3.length + 300 := by rw [hX4, List.length_append]; omega
      rw [← hX4] at HS4 ⊢
      clear hO4 hgr4 hat4 hX4 HA3 sz3
      -- piece 4
      have q := HS4.out.c1
      go_wp2_with fail
      clear q
      refine (l2Str_core e.fam w4 (by omega)).mono ?_
      rintro r v40 ⟨p4, d4, rfl, hP4, hbp4⟩
      have HA4 : Hid (ES w wr.heap.size e g4 cp4 X4 v40 ∧ OwnY v40 w4.heap.size p4 d4 (strB (bl e.fam))) := ⟨HS4.out.call hbp4, hP4⟩
      have hl4 : (strB (bl e.fam)).length ≤ 300 := by have := strB_len (s := bl e.fam) (by rw [bl_len]; omega); rw [bl_len] at this; omega
      have sz4 := (HA4.out.1).below.size
      obtain ⟨P4, hPd4⟩ : ∃ P : List UInt8, P = strB (bl e.fam) := ⟨_, rfl⟩
      have HPd4 : Hid (P4 = strB (bl e.fam)) := hPd4
      rw [← hPd4] at HA4 hl4 ⊢
      clear hP4 hbp4 hPd4 HS4
      go_wp2_with (at_builtin; refine wpList_append_bys _ rfl _ _ rfl w.heap.size g4 cp4 X4.length p4 0 P4.length d4 X4 P4 rfl rfl rfl rfl ?hO ?hc ?hl ?hb ?_)
      case hO => exact HA4.out.1.out
      case hc => exact HA4.out.2.at
      case hl => omega
      case hb => exact sz4
      intro g5 cp5 w5 hO5 hgr5 hat5
      have HS5 : Hid (ES w wr.heap.size e g5 cp5 (X4 ++ P4) w5) := HA4.out.1.app hO5 hgr5 hat5
      rw [show X4.length + P4.length = (X4 ++ P4).length from (List.length_append).symm]
      obtain ⟨X5, hX5⟩ : ∃ X : List UInt8, X = X4 ++ P4 := ⟨_, rfl⟩
      have HX5 : Hid (X5 = X4 ++ P4) := hX5
      have hx5 : X5.length ≤ X4.length + 300 := by rw [hX5, List.length_append]; omega
      rw [← hX5] at HS5 ⊢
      clear hO5 hgr5 hat5 hX5 HA4 sz4
      -- piece 5
      have q := HS5.out.c2
      go_wp2_with fail
      clear q
      refine (l2Str_core e.qual w5 (by omega)).mono ?_
      rintro r v50 ⟨p5, d5, rfl, hP5, hbp5⟩
      have HA5 : Hid (ES w wr.heap.size e g5 cp5 X5 v50 ∧ OwnY v50 w5.heap.size p5 d5 (strB (bl e.qual))) := ⟨HS5.out.call hbp5, hP5⟩
      have hl5 : (strB (bl e.qual)).length ≤ 300 := by have := strB_len (s := bl e.qual) (by rw [bl_len]; omega); rw [bl_len] at this; omega
      have sz5 := (HA5.out.1).below.size
      obtain ⟨P5, hPd5⟩ : ∃ P : List UInt8, P = strB (bl e.qual) := ⟨_, rfl⟩
      have HPd5 : Hid (P5 = strB (bl e.qual)) := hPd5
      rw [← hPd5] at HA5 hl5 ⊢
      clear hP5 hbp5 hPd5 HS5
      go_wp2_with (at_builtin; refine wpList_append_bys _ rfl _ _ rfl w.heap.size g5 cp5 X5.length p5 0 P5.length d5 X5 P5 rfl rfl rfl rfl ?hO ?hc ?hl ?hb ?_)
      case hO => exact HA5.out.1.out
      case hc => exact HA5.out.2.at
      case hl => omega
      case hb => exact sz5
      intro g6 cp6 w6 hO6 hgr6 hat6
      have HS6 : Hid (ES w wr.heap.size e g6 cp6 (X5 ++ P5) w6) := HA5.out.1.app hO6 hgr6 hat6
      rw [show X5.length + P5.length = (X5 ++ P5).length from (List.length_append).symm]
      obtain ⟨X6, hX6⟩ : ∃ X : List UInt8, X = X5 ++ P5 := ⟨_, rfl⟩
      have HX6 : Hid (X6 = X5 ++ P5) := hX6
      have hx6 : X6.length ≤ X5.length + 300 := by rw [hX6, List.length_append]; omega
      rw [← hX6] at HS6 ⊢
      clear hO6 hgr6 hat6 hX6 HA5 sz5
      -- piece 6
      have q := HS6.out.c3
      go_wp2_with fail
      clear q
      have hq6 := l2Num_all e.ts.toNat w6 (by omega)
      rw [Int.toNat_of_nonneg hts.1] at hq6
      refine (hq6).mono ?_
      rintro r v60 ⟨p6, d6, rfl, hP6, hbp6⟩
      have HA6 : Hid (ES w wr.heap.size e g6 cp6 X6 v60 ∧ OwnY v60 w6.heap.size p6 d6 (num e.ts.toNat)) := ⟨HS6.out.call hbp6, hP6⟩
      have hl6 : (num e.ts.toNat).length ≤ 300 := Nat.le_trans (num_len64 (by omega)) (by omega)
      have sz6 := (HA6.out.1).below.size
      obtain ⟨P6, hPd6⟩ : ∃ P : List UInt8, P = num e.ts.toNat := ⟨_, rfl⟩
      have HPd6 : Hid (P6 = num e.ts.toNat) := hPd6
      rw [← hPd6] at HA6 hl6 ⊢
      clear hP6 hbp6 hPd6 HS6
      go_wp2_with (at_builtin; refine wpList_append_bys _ rfl _ _ rfl w.heap.size g6 cp6 X6.length p6 0 P6.length d6 X6 P6 rfl rfl rfl rfl ?hO ?hc ?hl ?hb ?_)
      case hO => exact HA6.out.1.out
      case hc => exact HA6.out.2.at
      case hl => omega
      case hb => exact sz6
      intro g7 cp7 w7 hO7 hgr7 hat7
      have HS7 : Hid (ES w wr.heap.size e g7 cp7 (X6 ++ P6) w7) := HA6.out.1.app hO7 hgr7 hat7
      rw [show X6.length + P6.length = (X6 ++ P6).length from (List.length_append).symm]
      obtain ⟨X7, hX7⟩ : ∃ X : List UInt8, X = X6 ++ P6 := ⟨_, rfl⟩
      have HX7 : Hid (X7 = X6 ++ P6) := hX7
      have hx7 : X7.length ≤ X6.length + 300 := by rw [hX7, List.length_append]; omega
      rw [← hX7] at HS7 ⊢
      clear hO7 hgr7 hat7 hX7 HA6 sz6
      -- piece 7
      have q := HS7.out.c4
      go_wp2_with fail
      clear q
      have hq7 := l2Num_all e.kind.toNat w7 (by omega)
      rw [Int.toNat_of_nonneg v7] at hq7
      refine (hq7).mono ?_
      rintro r v70 ⟨p7, d7, rfl, hP7, hbp7⟩
      have HA7 : Hid (ES w wr.heap.size e g7 cp7 X7 v70 ∧ OwnY v70 w7.heap.size p7 d7 (num e.kind.toNat)) := ⟨HS7.out.call hbp7, hP7⟩
      have hl7 : (num e.kind.toNat).length ≤ 300 := Nat.le_trans (num_len64 (by omega)) (by omega)
      have sz7 := (HA7.out.1).below.size
      obtain ⟨P7, hPd7⟩ : ∃ P : List UInt8, P = num e.kind.toNat := ⟨_, rfl⟩
      have HPd7 : Hid (P7 = num e.kind.toNat) := hPd7
      rw [← hPd7] at HA7 hl7 ⊢
      clear hP7 hbp7 hPd7 HS7
      go_wp2_with (at_builtin; refine wpList_append_bys _ rfl _ _ rfl w.heap.size g7 cp7 X7.length p7 0 P7.length d7 X7 P7 rfl rfl rfl rfl ?hO ?hc ?hl ?hb ?_)
      case hO => exact HA7.out.1.out
      case hc => exact HA7.out.2.at
      case hl => omega
      case hb => exact sz7
      intro g8 cp8 w8 hO8 hgr8 hat8
      have HS8 : Hid (ES w wr.heap.size e g8 cp8 (X7 ++ P7) w8) := HA7.out.1.app hO8 hgr8 hat8
      rw [show X7.length + P7.length = (X7 ++ P7).length from (List.length_append).symm]
      obtain ⟨X8, hX8⟩ : ∃ X : List UInt8, X = X7 ++ P7 := ⟨_, rfl⟩
      have HX8 : Hid (X8 = X7 ++ P7) := hX8
      have hx8 : X8.length ≤ X7.length + 300 := by rw [hX8, List.length_append]; omega
      rw [← hX8] at HS8 ⊢
      clear hO8 hgr8 hat8 hX8 HA7 sz7
      -- piece 8
      have q := HS8.out.c5
      go_wp2_with fail
      clear q
      refine (l2Str_core e.val w8 (by omega)).mono ?_
      rintro r v80 ⟨p8, d8, rfl, hP8, hbp8⟩
      have HA8 : Hid (ES w wr.heap.size e g8 cp8 X8 v80 ∧ OwnY v80 w8.heap.size p8 d8 (strB (bl e.val))) := ⟨HS8.out.call hbp8, hP8⟩
      have hl8 : (strB (bl e.val)).length ≤ 300 := by have := strB_len (s := bl e.val) (by rw [bl_len]; omega); rw [bl_len] at this; omega
      have sz8 := (HA8.out.1).below.size
      obtain ⟨P8, hPd8⟩ : ∃ P : List UInt8, P = strB (bl e.val) := ⟨_, rfl⟩
      have HPd8 : Hid (P8 = strB (bl e.val)) := hPd8
      rw [← hPd8] at HA8 hl8 ⊢
      clear hP8 hbp8 hPd8 HS8
      go_wp2_with (at_builtin; refine wpList_append_bys _ rfl _ _ rfl w.heap.size g8 cp8 X8.length p8 0 P8.length d8 X8 P8 rfl rfl rfl rfl ?hO ?hc ?hl ?hb ?_)
      case hO => exact HA8.out.1.out
      case hc => exact HA8.out.2.at
      case hl => omega
      case hb => exact sz8
      intro g9 cp9 w9 hO9 hgr9 hat9
      have HS9 : Hid (ES w wr.heap.size e g9 cp9 (X8 ++ P8) w9) := HA8.out.1.app hO9 hgr9 hat9
      rw [show X8.length + P8.length = (X8 ++ P8).length from (List.length_append).symm]
      obtain ⟨X9, hX9⟩ : ∃ X : List UInt8, X = X8 ++ P8 := ⟨_, rfl⟩
      have HX9 : Hid (X9 = X8 ++ P8) := hX9
      have hx9 : X9.length ≤ X8.length + 300 := by rw [hX9, List.length_append]; omega
      rw [← hX9] at HS9 ⊢
      clear hO9 hgr9 hat9 hX9 HA8 sz8
      have HF : Hid (X9 = body [] (es.take (k + 1))) := by
        show X9 = body [] (es.take (k + 1))
        rw [HT.out, body_snoc, HX9.out, HX8.out, HX7.out, HX6.out, HX5.out, HX4.out, HX3.out, HX2.out, HX0.out, HPd2.out, HPd3.out, HPd4.out, HPd5.out, HPd6.out, HPd7.out, HPd8.out, HRS.out]
        unfold entB
        rw [← HN.out]
        simp only [List.append_assoc]
      have q := HS9.out.c0
      go_wp2_with fail
      go_roundw
      case rel =>
        refine ⟨k + 1, g9, cp9, e.row, by omega, by go_num, by rw [HF.out], rfl, v2, ?_, ?_, HS9.out.below⟩
        · rw [HT.out, lastRow_snoc]
        · rw [← HF.out]; exact HS9.out.out
      case measure => simp [intOf]; omega
    · obtain rfl : k = es.length := by omega
      have HF : Hid (X0 = body [] es) := by
        show X0 = body [] es
        rw [HX0.out, List.take_of_length_le (Nat.le_refl _)]
      go_wp2_with fail
      go_ret
      exact ⟨g, cp, by rw [← HF.out]; rfl, by rw [← HF.out]; exact HO.out, hb⟩
end Go.Proofs.YtlgeffinhbodeaeGreatDoor

