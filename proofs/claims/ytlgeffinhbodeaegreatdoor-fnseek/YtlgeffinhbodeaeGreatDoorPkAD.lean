import Derived.Deep.QuietTactic
import Derived.BigQuiet
import Derived.Deep.AppendLies
import Derived.Test.YtlgeffinhbodeaeGreatDoorPkAA
import Derived.Test.YtlgeffinhbodeaeGreatDoorPkAC
import Derived.Test.YtlgeffinhbodeaeGreatDoorPkAB
/-
  The draws: what they may hand back.
-/
namespace Go.Proofs.YtlgeffinhbodeaeGreatDoor
open Go.ChangeShapes Go.WideShapes Go.ChangeAt Go.RowKit Go.Deep
set_option linter.unusedVariables false
set_option linter.unusedSimpArgs false
set_option maxRecDepth 100000

/-- The letters that are drawn from. -/
def CodeAt (w : World) (base : Nat) (bv : Value) (n : Nat) : Prop :=
  n ≤ 1048576 ∧ ((∃ a cap, bv = .slice a 0 cap ∧ n = 0) ∨ ∃ b off cap, bv = .slice (some ⟨b, off, none⟩) n cap ∧ b < base ∧ ∀ k, k < n → ∃ x : Int, w.cell? ⟨b, off + k, none⟩ = some (.int .u8 x) ∧ 0 ≤ x ∧ x < 256)
/-- The drawing's own variable. -/
def OwnL (w : World) (base cb : Nat) (vs : List Value) : Prop := w.ownsRow base 115 3 (.slice (some ⟨cb, 0, none⟩) 1 1) 1 vs
structure DrawAt (base cb : Nat) (bv : Value) (n : Nat) (w : World) : Prop where
  own : ∃ (i : Nat) (h : Int), i ≤ n ∧ OwnL w base cb [bv, .int .i64 i, .int .i64 h]
  code : CodeAt w base bv n
  base : base ≤ w.heap.size

theorem and255 (x : Int) : 0 ≤ bits .and .i64 x 255 ∧ bits .and .i64 x 255 < 256 := by
  have h : (BitVec.ofInt 64 x &&& BitVec.ofInt 64 255).toNat ≤ 255 := by
    rw [BitVec.toNat_and]
    exact Nat.le_trans Nat.and_le_right (by decide)
  have e : bits .and .i64 x 255 = IntKind.i64.wrap ((BitVec.ofInt 64 x &&& BitVec.ofInt 64 255).toNat : Int) := rfl
  rw [e, IntKind.wrap_i64]
  omega
theorem CodeAt.chg {T : Nat → Prop} {w w' : World} {base : Nat} {bv : Value} {n : Nat} (h : CodeAt w base bv n) (hc : Chg T w w') (hb : base ≤ w.heap.size) (hT : ∀ k, T k → base ≤ k) : CodeAt w' base bv n := by
  refine ⟨h.1, ?_⟩
  rcases h.2 with h | ⟨b, off, cap, hv, hlt, hx⟩
  · exact .inl h
  · refine .inr ⟨b, off, cap, hv, hlt, fun k hk => ?_⟩
    obtain ⟨x, h1, h2⟩ := hx k hk
    exact ⟨x, by rw [hc.cell (p := ⟨b, off + k, none⟩) (by show b < w.heap.size; omega) (fun q => by have q1 : base ≤ b := hT _ q; omega)]; exact h1, h2⟩
theorem DrawAt.chg {T : Nat → Prop} {base cb : Nat} {bv : Value} {n : Nat} {w w' : World} (h : DrawAt base cb bv n w) (hc : Chg T w w') (hn : ¬ T cb) (hT : ∀ k, T k → base ≤ k) : DrawAt base cb bv n w' := by
  obtain ⟨i, hh, h1, h2⟩ := h.own
  exact ⟨⟨i, hh, h1, own_chg h2 hc (fun k q => by simp [Value.ownBlock] at q; subst q; exact hn)⟩, h.code.chg hc h.base hT, by have := hc.size; have := h.base; omega⟩
theorem DrawAt.below {base cb : Nat} {bv : Value} {n : Nat} {w w' : World} (h : DrawAt base cb bv n w) (hb : Below w.heap.size w w') : DrawAt base cb bv n w' :=
  h.chg (T := fun _ => False) (Chg.of_below hb) (fun q => q) (fun k q => q.elim)
theorem DrawAt.lt {base cb : Nat} {bv : Value} {n : Nat} {w : World} (h : DrawAt base cb bv n w) : base ≤ cb ∧ cb < w.heap.size := by
  obtain ⟨i, hh, h1, h2⟩ := h.own
  exact World.ownsRow.lt h2 cb rfl
theorem DrawAt.setH {base cb : Nat} {bv : Value} {n i : Nat} {hh : Int} {w : World} (hi : i ≤ n) (h : OwnL w base cb [bv, .int .i64 i, .int .i64 hh]) (hc : CodeAt w base bv n) (hb : base ≤ w.heap.size) (h' : Int) : DrawAt base cb bv n (w.setCell ⟨cb, 2, none⟩ (.int .i64 h')) := by
  have hl := World.ownsRow.lt h cb rfl
  refine ⟨⟨i, h', hi, (World.ownsRow.stored h 2 _).1⟩, hc.chg (Chg.of_set (S := fun k => k = cb) w cb 2 _ rfl) hb (fun k q => by omega), ?_⟩
  have := (Chg.of_set (S := fun k => k = cb) w cb 2 (.int .i64 h') rfl).size
  omega
theorem DrawAt.setI {base cb : Nat} {bv : Value} {n i : Nat} {hh : Int} {w : World} (hi : i + 1 ≤ n) (h : OwnL w base cb [bv, .int .i64 i, .int .i64 hh]) (hc : CodeAt w base bv n) (hb : base ≤ w.heap.size) : DrawAt base cb bv n (w.setCell ⟨cb, 1, none⟩ (.int .i64 (i + 1 : Nat))) := by
  have hl := World.ownsRow.lt h cb rfl
  refine ⟨⟨i + 1, hh, hi, (World.ownsRow.stored h 1 _).1⟩, hc.chg (Chg.of_set (S := fun k => k = cb) w cb 1 _ rfl) hb (fun k q => by omega), ?_⟩
  have := (Chg.of_set (S := fun k => k = cb) w cb 1 (.int .i64 (i + 1 : Nat)) rfl).size
  omega

set_option maxHeartbeats 1000000 in
theorem byte_core (base cb : Nat) (bv : Value) (n : Nat) (w : World) (h : DrawAt base cb bv n w) :
    Calls Tryz.prog 113 #[.pointer (some ⟨cb, 0, none⟩)] w fun e w' => ∃ x : Int, e = .returned (.int .i64 x) ∧ 0 ≤ x ∧ x < 256 ∧ DrawAt base cb bv n w' ∧ Chg (fun k => k = cb) w w' := by
  obtain ⟨i, hh, hin, hO⟩ := h.own
  have c0 : w.cell? ⟨cb, 0, none⟩ = some bv := World.ownsRow.cellAt hO 0 (by decide)
  have c1 : w.cell? ⟨cb, 1, none⟩ = some (.int .i64 i) := World.ownsRow.cellAt hO 1 (by decide)
  have c2 : w.cell? ⟨cb, 2, none⟩ = some (.int .i64 hh) := World.ownsRow.cellAt hO 2 (by decide)
  have f1 := World.ownsRow.frozenAt hO 1
  have f2 := World.ownsRow.frozenAt hO 2
  obtain ⟨h1, hh1⟩ : ∃ h1, h1 = wrap64 (wrap64 (hh * 6364136223846793005) + 1442695040888963407) := ⟨_, rfl⟩
  obtain ⟨W1, hW1⟩ : ∃ W1 : World, W1 = w.setCell ⟨cb, 2, none⟩ (.int .i64 h1) := ⟨_, rfl⟩
  have hC1 : Chg (fun k => k = cb) w W1 := by rw [hW1]; exact Chg.of_set _ _ _ _ rfl
  have HO1 : Hid (OwnL W1 base cb [bv, .int .i64 i, .int .i64 h1]) := by show OwnL W1 _ _ _; rw [hW1]; exact (World.ownsRow.stored hO 2 _).1
  have hD1 : DrawAt base cb bv n W1 := by rw [hW1]; exact DrawAt.setH hin hO h.code h.base h1
  have HD : Hid (DrawAt base cb bv n W1 ∧ Chg (fun k => k = cb) w W1) := ⟨hD1, hC1⟩
  clear hD1 hC1
  have hcode := h.code
  have hn := hcode.1
  clear h hO
  go_enter Tryz.func113, Tryz.ntmps113
  go_upto_region 2 with fail
  rw [← hh1, ← hW1]
  have d0 : W1.cell? ⟨cb, 0, none⟩ = some bv := World.ownsRow.cellAt HO1.out 0 (by decide)
  have d1 : W1.cell? ⟨cb, 1, none⟩ = some (.int .i64 i) := World.ownsRow.cellAt HO1.out 1 (by decide)
  have d2 : W1.cell? ⟨cb, 2, none⟩ = some (.int .i64 h1) := World.ownsRow.cellAt HO1.out 2 (by decide)
  have e1 := World.ownsRow.frozenAt HO1.out 1
  clear hh1 hW1 c0 c1 c2 f1 f2
  go_quiet (fail)
  obtain ⟨x0, hx0⟩ : ∃ x0, x0 = bits BinOp.and IntKind.i64 (bits BinOp.xor IntKind.i64 (h1 / 8589934592) (h1 / 35184372088832)) 255 := ⟨_, rfl⟩
  have hx1 : 0 ≤ x0 ∧ x0 < 256 := by rw [hx0]; exact and255 _
  rw [← hx0]
  clear hx0
  rcases HD.out.1.code.2 with ⟨a, cap, rfl, rfl⟩ | ⟨b, off, cap, rfl, hlt, hx⟩
  · have z : ¬ (i : Int) < 0 := by omega
    go_upto_region 3 with fail
    go_quiet (fail)
    go_wp2_with fail
    go_ret
    exact ⟨x0, rfl, hx1.1, hx1.2, HD.out.1.below (below_drewN (Below.refl _ _) _), HD.out.2.trans (Chg.of_below (below_drewN (Below.refl _ _) _))⟩
  · by_cases hi : i < n
    · obtain ⟨x, hc, hxa, hxb⟩ := hx i hi
      have z : (i : Int) < (n : Int) := by omega
      go_upto_region 3 with fail
      go_quiet (fail)
      go_upto_region 4 with fail
      go_quiet (fail)
      obtain ⟨x2, hx2⟩ : ∃ x2, x2 = bits BinOp.and IntKind.i64 (x0 + x) 255 := ⟨_, rfl⟩
      have hx3 : 0 ≤ x2 ∧ x2 < 256 := by rw [hx2]; exact and255 _
      rw [← hx2]
      clear hx2
      go_wp2_with fail
      go_ret
      refine ⟨x2, rfl, hx3.1, hx3.2, ?_, ?_⟩
      · have hb := fun q => below_drewN (Below.refl W1.heap.size W1) q
        exact DrawAt.setI (by omega) (own_chg (S := fun _ => False) HO1.out (Chg.of_below (hb _)) (fun k _ q => q)) (HD.out.1.below (hb _)).code (HD.out.1.below (hb _)).base
      · exact (HD.out.2.trans (Chg.of_below (below_drewN (Below.refl _ _) _))).trans (Chg.of_set (S := fun k => k = cb) _ _ _ _ rfl)
    · have z : ¬ (i : Int) < (n : Int) := by omega
      go_upto_region 3 with fail
      go_quiet (fail)
      go_wp2_with fail
      go_ret
      exact ⟨x0, rfl, hx1.1, hx1.2, HD.out.1.below (below_drewN (Below.refl _ _) _), HD.out.2.trans (Chg.of_below (below_drewN (Below.refl _ _) _))⟩

/-- What a draw leaves. -/
abbrev Drew (base cb : Nat) (bv : Value) (n : Nat) (w w' : World) : Prop := DrawAt base cb bv n w' ∧ Chg (fun k => k = cb) w w'

set_option maxHeartbeats 1000000 in
theorem below_core (base cb : Nat) (bv : Value) (n : Nat) (m : Int) (w : World) (h : DrawAt base cb bv n w) (hm : 1 ≤ m) (hm2 : m ≤ 1048576) :
    Calls Tryz.prog 63 #[.pointer (some ⟨cb, 0, none⟩), .int .i64 m] w fun e w' => ∃ x : Int, e = .returned (.int .i64 x) ∧ 0 ≤ x ∧ x < m ∧ Drew base cb bv n w w' := by
  have HD : Hid (DrawAt base cb bv n w) := h
  clear h
  by_cases hs : m ≤ 256
  · go_enter Tryz.func63, Tryz.ntmps63
    go_wp2_with fail
    refine (byte_core base cb bv n _ HD.out).mono ?_
    rintro e w1 ⟨x, rfl, hx0, hx1, hD1, hC1⟩
    have H1 : Hid (DrawAt base cb bv n w1 ∧ Chg (fun k => k = cb) w w1) := ⟨hD1, hC1⟩
    clear hD1 hC1
    go_wp2
    go_ret
    exact ⟨x % m, rfl, Int.emod_nonneg _ (by omega), Int.emod_lt_of_pos _ (by omega), H1.out.1, H1.out.2⟩
  · go_enter Tryz.func63, Tryz.ntmps63
    go_wp2_with fail
    refine (byte_core base cb bv n _ HD.out).mono ?_
    rintro e w1 ⟨x, rfl, hx0, hx1, hD1, hC1⟩
    have H1 : Hid (DrawAt base cb bv n w1 ∧ Chg (fun k => k = cb) w w1) := ⟨hD1, hC1⟩
    clear hD1 hC1
    go_wp2_with fail
    refine (byte_core base cb bv n _ H1.out.1).mono ?_
    rintro e w2 ⟨y, rfl, hy0, hy1, hD2, hC2⟩
    have H2 : Hid (DrawAt base cb bv n w2 ∧ Chg (fun k => k = cb) w w2) := ⟨hD2, H1.out.2.trans hC2⟩
    clear hD2 hC2
    go_wp2_with fail
    refine (byte_core base cb bv n _ H2.out.1).mono ?_
    rintro e w3 ⟨z, rfl, hz0, hz1, hD3, hC3⟩
    have H3 : Hid (DrawAt base cb bv n w3 ∧ Chg (fun k => k = cb) w w3) := ⟨hD3, H2.out.2.trans hC3⟩
    clear hD3 hC3
    go_wp2
    go_ret
    exact ⟨(x * 65536 + y * 256 + z) % m, rfl, Int.emod_nonneg _ (by omega), Int.emod_lt_of_pos _ (by omega), H3.out.1, H3.out.2⟩

set_option maxHeartbeats 400000 in
theorem once_core (base cb : Nat) (bv : Value) (n : Nat) (m : Int) (w : World) (h : DrawAt base cb bv n w) (hm : 1 ≤ m) (hm2 : m ≤ 1048576) :
    Calls Tryz.prog 22 #[.pointer (some ⟨cb, 0, none⟩), .int .i64 m] w fun e w' => ∃ v : Value, e = .returned v ∧ (v = .bool true ∨ v = .bool false) ∧ Drew base cb bv n w w' := by
  have HD : Hid (DrawAt base cb bv n w) := h
  clear h
  go_enter Tryz.func22, Tryz.ntmps22
  go_wp2_with fail
  refine (below_core base cb bv n m _ HD.out hm hm2).mono ?_
  rintro e w1 ⟨x, rfl, hx0, hx1, hD1, hC1⟩
  have H1 : Hid (DrawAt base cb bv n w1 ∧ Chg (fun k => k = cb) w w1) := ⟨hD1, hC1⟩
  clear hD1 hC1
  cases hx : (x == 0)
  · go_wp2_with fail
    go_ret
    exact ⟨_, rfl, .inr rfl, H1.out.1, H1.out.2⟩
  · go_wp2_with fail
    go_ret
    exact ⟨_, rfl, .inl rfl, H1.out.1, H1.out.2⟩

theorem Chg.grown_new {T : Nat → Prop} {w wr w' : World} {row : Option Nat} (h : Chg T w wr) (hg : wr.grownBy w' row) (hr : ∀ k, row = some k → w.heap.size ≤ k) : Chg T w w' :=
  ⟨hg.os.trans h.os, hg.tape.trans h.tape, hg.output.trans h.output, Nat.le_trans h.size hg.size, fun k hk hn => (hg.block k (Nat.lt_of_lt_of_le hk h.size) (fun q => by have := hr k q.symm; omega)).trans (h.block k hk hn)⟩
theorem Chg.alloc_new {T : Nat → Prop} {w wr : World} (h : Chg T w wr) (o : Obj) : Chg T w (wr.alloc o) := h.trans (Chg.of_below ((Below.refl _ _).alloc (Nat.le_refl _) _))

/-- A row of bytes of the call's own. -/
abbrev u8v (z : UInt8) : Value := .int .u8 (z.toNat : Int)
def OwnB (w : World) (base g cap : Nat) (zs : List UInt8) : Prop := w.ownsRow base 5 1 (.slice (some ⟨g, 0, none⟩) zs.length cap) zs.length (zs.map u8v)
theorem Tryz.infoU8 : (Tryz.prog.info? 5).map (fun i => (i.zero, i.size, i.bytes)) = some (some (.int .u8 0), 1, 1) := by kernel_rfl
theorem wpList_append_byte {ops : Array Oper} {rest : List Oper} {o : Oper} {a : Act} {Q : Exit → Act → World → Prop} (w : World) (hgd : o.guard = none) (s x : Operand)
    (ho : o.op = .call { callee := .builtin .append, args := #[s, x], argTypes := #[22, 22] })
    (base g cp n blk : Nat) (zs : List UInt8) (z : UInt8) (hs : a.eval s = .slice (some ⟨g, 0, none⟩) n cp) (cx : Nat) (hx : a.eval x = .slice (some ⟨blk, 0, none⟩) 1 cx) (hn : n = zs.length) (hO : OwnB w base g cp zs)
    (hc : w.cell? ⟨blk, 0, none⟩ = some (.int .u8 (z.toNat : Int))) (hlen : zs.length ≤ 2 ^ 30) (hbase : base ≤ w.heap.size)
    (h : ∀ g' cp' w', OwnB w' base g' cp' (zs ++ [z]) → w.grownBy w' (some g) → wpList Tryz.prog ops Q rest (a.put o.dst (.slice (some ⟨g', 0, none⟩) (n + 1) cp')) w') : wpList Tryz.prog ops Q (o :: rest) a w := by
  obtain ⟨i, hi, hz0, hz1, hz2⟩ := info_parts Tryz.infoU8
  subst hn
  refine wpList_append_lies w hgd s x 22 ho base 5 i _ 1 1 Tryz.underlying22 hi hz0 hz1 hz2 rfl (by decide) (.slice (some ⟨g, 0, none⟩) zs.length cp) zs.length (zs.map u8v) hs hO ⟨blk, 0, none⟩ 1 cx [u8v z] hx rfl ?_ ?_ (by decide) ?_ ?_ hbase w.heap.size rfl ?_
  · intro j u hu
    have hj : j < 1 := by simpa using (List.getElem?_eq_some_iff.1 hu).1
    obtain rfl : j = 0 := by omega
    simp at hu
    rw [← hu]
    simpa [Addr.add] using hc
  · intro u hu
    simp at hu
    subst hu
    rfl
  · unfold maxLen; omega
  · omega
  · intro g' cp' w' hO' hgr hat hlt
    refine h g' cp' w' ?_ hgr
    unfold OwnB
    rw [List.length_append, List.map_append]
    exact hO'
theorem ownB_new (w : World) (base : Nat) (hb : base ≤ w.heap.size) : OwnB (w.alloc (Obj.cells #[] 5)) base w.heap.size 0 [] := World.ownsRow_made w #[] 0 hb (Nat.zero_le _) (by simp)
theorem conv_own {w : World} {base g cap : Nat} {zs : List UInt8} (h : OwnB w base g cap zs) : (convert 22 9 (.slice (some ⟨g, 0, none⟩) zs.length cap)).run Tryz.prog w = .ok (.string ⟨zs.toArray⟩) w := by
  refine run_convert_bytes_back (P := Tryz.prog) w 22 9 5 ⟨g, 0, none⟩ cap zs Tryz.underlying22 Tryz.underlying5 Tryz.underlying9 ?_
  intro i hi
  have := World.ownsRow.cellAt h i (by omega)
  rw [Addr.add_mid, Nat.zero_add, this, List.getElem?_map, List.getElem?_eq_getElem hi]
  rfl

set_option maxHeartbeats 2000000 in
theorem letters_core (base cb : Nat) (bv : Value) (n : Nat) (a b : Int) (w : World) (h : DrawAt base cb bv n w) (ha : 0 ≤ a) (hab : a ≤ b) (hb : b ≤ 100) :
    Calls Tryz.prog 167 #[.pointer (some ⟨cb, 0, none⟩), .int .i64 a, .int .i64 b] w fun e w' => ∃ s : ByteArray, e = .returned (.string s) ∧ s.size ≤ 100 ∧ Drew base cb bv n w w' := by
  have HD : Hid (DrawAt base cb bv n w) := h
  have hbase := h.base
  have hcb := h.lt
  clear h
  go_enter Tryz.func167, Tryz.ntmps167
  go_wp2_with fail
  refine (below_core base cb bv n (b - a + 1) _ HD.out (by omega) (by omega)).mono ?_
  rintro e w1 ⟨x, rfl, hx0, hx1, hD1, hC1⟩
  have s1 := hC1.size
  have H1 : Hid (DrawAt base cb bv n w1 ∧ Chg (fun k => k = cb) w w1) := ⟨hD1, hC1⟩
  clear hD1 hC1
  obtain ⟨W2, hW2⟩ : ∃ W2 : World, W2 = w1.alloc (Obj.cells #[] 5) := ⟨_, rfl⟩
  have hb2 : Below w1.heap.size w1 W2 := by rw [hW2]; exact (Below.refl _ _).alloc (Nat.le_refl _) _
  have HB2 : Hid (OwnB W2 w.heap.size w1.heap.size 0 [] ∧ DrawAt base cb bv n W2 ∧ Chg (fun k => k = cb) w W2) := by
    refine ⟨?_, H1.out.1.below hb2, H1.out.2.trans (Chg.of_below hb2)⟩
    rw [hW2]; exact ownB_new w1 w.heap.size s1
  obtain ⟨m, hm⟩ : ∃ m : Nat, a + x = (m : Int) := ⟨(a + x).toNat, by omega⟩
  have hm2 : m ≤ 100 := by omega
  go_wp2_with fail
  rw [← hW2]
  clear hW2 hm hb2
  go_loopw [8, 9] (fun o i wr => ∃ (k g cp : Nat) (zs : List UInt8), k ≤ m ∧ i = .int .i64 k ∧ o = .slice (some ⟨g, 0, none⟩) k cp ∧ zs.length = k ∧ OwnB wr w.heap.size g cp zs ∧ DrawAt base cb bv n wr ∧ Chg (fun k => k = cb) w wr) (fun _ i _ => m - (intOf i).toNat)
  case atStart => exact ⟨0, _, 0, [], Nat.zero_le _, rfl, rfl, rfl, HB2.out.1, HB2.out.2.1, HB2.out.2.2⟩
  case round =>
    obtain ⟨k, g, cp, zs, hk, rfl, rfl, hzl, hO, hD, hC⟩ := hrel
    have HI : Hid (zs.length = k ∧ OwnB wr w.heap.size g cp zs ∧ DrawAt base cb bv n wr ∧ Chg (fun k => k = cb) w wr) := ⟨hzl, hO, hD, hC⟩
    have hgl := World.ownsRow.lt hO g rfl
    clear hzl hO hD hC
    by_cases hlt : k < m
    · have zk : (k : Int) < (m : Int) := by omega
      go_wp2_with fail
      refine (below_core base cb bv n 3 _ HI.out.2.2.1 (by omega) (by omega)).mono ?_
      rintro e w3 ⟨y, rfl, hy0, hy1, hD3, hC3⟩
      have s3 := hC3.size
      have HO3 : Hid (OwnB w3 w.heap.size g cp zs ∧ DrawAt base cb bv n w3 ∧ Chg (fun k => k = cb) w w3) := ⟨own_chg HI.out.2.1 hC3 (fun k q => by simp [Value.ownBlock] at q; subst q; omega), hD3, HI.out.2.2.2.trans hC3⟩
      clear hD3 hC3
      obtain ⟨z, hz⟩ : ∃ z : UInt8, (97 : Int) + y = (z.toNat : Int) := ⟨UInt8.ofNat (97 + y.toNat), by rw [UInt8.toNat_ofNat']; omega⟩
      have HZ : Hid ((97 : Int) + y = (z.toNat : Int)) := hz
      have HKl : Hid (k = zs.length) := HI.out.1.symm
      have s4 := HO3.out.2.2.size
      clear hz
      go_wp2_with (at_builtin; refine wpList_append_byte _ rfl _ _ rfl w.heap.size g cp _ _ zs z rfl _ rfl HKl.out ?hO ?hc ?hl ?hb ?_)
      case hO => exact own_chg (S := fun _ => False) HO3.out.1 (Chg.of_below ((Below.refl _ _).alloc (Nat.le_refl _) _)) (fun k _ q => q)
      case hc => rw [← HZ.out]; simp
      case hl => rw [← HKl.out]; omega
      case hb => simp; omega
      intro g' cp' w' hO' hgr
      have HN : Hid ((zs ++ [z]).length = k + 1 ∧ OwnB w' w.heap.size g' cp' (zs ++ [z]) ∧ DrawAt base cb bv n w' ∧ Chg (fun k => k = cb) w w') := by
        refine ⟨by simp [HI.out.1], hO', ?_, ?_⟩
        · have hd := HO3.out.2.1.below ((Below.refl w3.heap.size w3).alloc (Nat.le_refl _) (Obj.cells #[.int .u8 (97 + y)] 5))
          exact hd.chg (Chg.of_grown (S := fun k => k = g) hgr (fun k hk => by cases hk; rfl)) (by omega) (fun k q => by omega)
        · exact Chg.grown_new (HO3.out.2.2.alloc_new _) hgr (fun k hk => by cases hk; omega)
      clear hO' hgr
      go_wp2_with fail
      go_roundw
      case rel => exact ⟨k + 1, g', cp', zs ++ [z], by omega, by go_num, rfl, HN.out.1, HN.out.2.1, HN.out.2.2.1, HN.out.2.2.2⟩
      case measure => go_light; simp [intOf]; omega
    · have zk : ¬ (k : Int) < (m : Int) := by omega
      have hcv := conv_own HI.out.2.1
      rw [HI.out.1] at hcv
      have HS : Hid ((⟨zs.toArray⟩ : ByteArray).size ≤ 100) := by
        show (⟨zs.toArray⟩ : ByteArray).size ≤ 100
        have := HI.out.1
        simp [ByteArray.size]; omega
      go_wp2_with fail
      go_ret
      exact ⟨_, rfl, HS.out, HI.out.2.2.1, HI.out.2.2.2⟩
end Go.Proofs.YtlgeffinhbodeaeGreatDoor

/-
  The draws: rows, families, qualifiers, timestamps.
-/
namespace Go.Proofs.YtlgeffinhbodeaeGreatDoor
open Go.ChangeShapes Go.WideShapes Go.ChangeAt Go.RowKit Go.Deep
set_option linter.unusedVariables false
set_option linter.unusedSimpArgs false
set_option maxRecDepth 100000

theorem conv_str (c : UInt8) (w : World) : ∃ cx w', (convert 9 22 (.string ⟨#[c]⟩)).run Tryz.prog w = .ok (.slice (some ⟨w.heap.size, 0, none⟩) 1 cx) w' ∧ Below w.heap.size w w' ∧ w'.cell? ⟨w.heap.size, 0, none⟩ = some (.int .u8 (c.toNat : Int)) := by
  refine ⟨_, _, run_bytes_of_string (P := Tryz.prog) w 9 22 5 ⟨#[c]⟩ Tryz.underlying9 Tryz.underlying22 Tryz.underlying5, ((Below.refl _ _).drew).alloc (Nat.le_refl _) _, ?_⟩
  have hb : ∀ O : Obj, (w.drew.alloc O).heap[w.heap.size]? = some O := fun O => by
    show (w.heap.push O)[w.heap.size]? = _
    simp
  unfold World.cell?
  rw [hb]
  simp [bytesRow]
  rw [Array.getElem?_append_left (by simp)]
  rfl

set_option maxHeartbeats 2000000 in
theorem many_core (c : UInt8) (m : Nat) (w : World) (hm : m ≤ 1000) :
    Calls Tryz.prog 111 #[.string ⟨#[c]⟩, .int .i64 m] w fun e w' => ∃ s : ByteArray, e = .returned (.string s) ∧ s.size ≤ 1000 ∧ Below w.heap.size w w' := by
  obtain ⟨W2, hW2⟩ : ∃ W2 : World, W2 = w.alloc (Obj.cells #[] 5) := ⟨_, rfl⟩
  have hb2 : Below w.heap.size w W2 := by rw [hW2]; exact (Below.refl _ _).alloc (Nat.le_refl _) _
  have HB2 : Hid (OwnB W2 w.heap.size w.heap.size 0 []) := by show OwnB W2 _ _ _ _; rw [hW2]; exact ownB_new w w.heap.size (Nat.le_refl _)
  go_enter Tryz.func111, Tryz.ntmps111
  go_wp2_with fail
  rw [← hW2]
  clear hW2
  go_loopw [5, 6] (fun o i wr => ∃ (k g cp : Nat) (zs : List UInt8), k ≤ m ∧ i = .int .i64 k ∧ o = .slice (some ⟨g, 0, none⟩) k cp ∧ zs.length = k ∧ OwnB wr w.heap.size g cp zs ∧ Below w.heap.size w wr) (fun _ i _ => m - (intOf i).toNat)
  case atStart => exact ⟨0, _, 0, [], Nat.zero_le _, rfl, rfl, rfl, HB2.out, hb2⟩
  case round =>
    obtain ⟨k, g, cp, zs, hk, rfl, rfl, hzl, hO, hb⟩ := hrel
    have HI : Hid (zs.length = k ∧ OwnB wr w.heap.size g cp zs) := ⟨hzl, hO⟩
    have hgl := World.ownsRow.lt hO g rfl
    have hs := hb.size
    clear hzl hO
    by_cases hlt : k < m
    · have zk : (k : Int) < (m : Int) := by omega
      have HKl : Hid (k = zs.length) := HI.out.1.symm
      obtain ⟨cx, W3, hrun, hb3, hc3⟩ := conv_str c wr
      have hs3 := hb3.size
      go_wp2_with (at_builtin; refine wpList_append_byte _ rfl _ _ rfl w.heap.size g cp _ wr.heap.size zs c rfl cx rfl HKl.out ?hO ?hc ?hl ?hb ?_)
      case hO => exact own_chg (S := fun _ => False) HI.out.2 (Chg.of_below hb3) (fun k _ q => q)
      case hc => exact hc3
      case hl => rw [← HKl.out]; omega
      case hb => omega
      intro g' cp' w' hO' hgr
      have HN : Hid ((zs ++ [c]).length = k + 1 ∧ OwnB w' w.heap.size g' cp' (zs ++ [c])) := ⟨by simp [HI.out.1], hO'⟩
      have hb' : Below w.heap.size w w' := (hb.trans (hb3.mono hs)).grown hgr (by omega) (fun j hj => by cases hj; omega)
      clear hO' hgr hrun
      go_wp2_with fail
      go_roundw
      case rel => exact ⟨k + 1, g', cp', zs ++ [c], by omega, by go_num, rfl, HN.out.1, HN.out.2, hb'⟩
      case measure => go_light; simp [intOf]; omega
    · have zk : ¬ (k : Int) < (m : Int) := by omega
      have hcv := conv_own HI.out.2
      rw [HI.out.1] at hcv
      have HS : Hid ((⟨zs.toArray⟩ : ByteArray).size ≤ 1000) := by
        show (⟨zs.toArray⟩ : ByteArray).size ≤ 1000
        have := HI.out.1
        simp [ByteArray.size]; omega
      go_wp2_with fail
      go_ret
      exact ⟨_, rfl, HS.out, hb⟩

set_option maxHeartbeats 1000000 in
theorem pick_core (base cb : Nat) (bv : Value) (n blk nw : Nat) (w : World) (h : DrawAt base cb bv n w) (h1 : 1 ≤ nw) (h2 : nw ≤ 100) (hne : ¬ blk = cb) (hlt : blk < w.heap.size) (hw : ∀ k, k < nw → ∃ s : ByteArray, w.cell? ⟨blk, k, none⟩ = some (.string s) ∧ s.size ≤ 1000) :
    Calls Tryz.prog 23 #[.pointer (some ⟨cb, 0, none⟩), .slice (some ⟨blk, 0, none⟩) nw nw] w fun e w' => ∃ s : ByteArray, e = .returned (.string s) ∧ s.size ≤ 1000 ∧ Drew base cb bv n w w' := by
  have HD : Hid (DrawAt base cb bv n w ∧ ∀ k, k < nw → ∃ s : ByteArray, w.cell? ⟨blk, k, none⟩ = some (.string s) ∧ s.size ≤ 1000) := ⟨h, hw⟩
  clear h hw
  go_enter Tryz.func23, Tryz.ntmps23
  go_wp2_with fail
  refine (below_core base cb bv n (nw : Int) _ HD.out.1 (by omega) (by omega)).mono ?_
  rintro e w1 ⟨x, rfl, hx0, hx1, hD1, hC1⟩
  obtain ⟨k, rfl⟩ := Int.eq_ofNat_of_zero_le hx0
  obtain ⟨s, hs, hsz⟩ := HD.out.2 k (by omega)
  have c1 : w1.cell? ⟨blk, k, none⟩ = some (.string s) := by rw [hC1.cell (p := ⟨blk, k, none⟩) hlt hne]; exact hs
  have H1 : Hid (DrawAt base cb bv n w1 ∧ Chg (fun k => k = cb) w w1) := ⟨hD1, hC1⟩
  clear hD1 hC1 hs
  go_wp2_with fail
  go_ret
  exact ⟨s, rfl, hsz, H1.out.1, H1.out.2⟩

set_option maxHeartbeats 2000000 in
theorem row_core (base cb : Nat) (bv : Value) (n : Nat) (w : World) (h : DrawAt base cb bv n w) :
    Calls Tryz.prog 163 #[.pointer (some ⟨cb, 0, none⟩)] w fun e w' => ∃ s : ByteArray, e = .returned (.string s) ∧ s.size ≤ 1000 ∧ Drew base cb bv n w w' := by
  have HD : Hid (DrawAt base cb bv n w) := h
  clear h
  go_enter Tryz.func163, Tryz.ntmps163
  go_wp2_with fail
  refine (once_core base cb bv n 40 _ HD.out (by omega) (by omega)).mono ?_
  rintro e w1 ⟨v, rfl, hv, hD1, hC1⟩
  have H1 : Hid (DrawAt base cb bv n w1 ∧ Chg (fun k => k = cb) w w1) := ⟨hD1, hC1⟩
  clear hD1 hC1
  rcases hv with rfl | rfl
  · go_wp2_with fail
    refine (many_core 97 64 _ (by omega)).mono ?_
    rintro e w2 ⟨s, rfl, hs, hb2⟩
    have H2 : Hid (DrawAt base cb bv n w2 ∧ Chg (fun k => k = cb) w w2) := ⟨H1.out.1.below hb2, H1.out.2.trans (Chg.of_below hb2)⟩
    go_wp2_with fail
    go_ret
    exact ⟨s, rfl, hs, H2.out.1, H2.out.2⟩
  · go_wp2_with fail
    refine (once_core base cb bv n 25 _ H1.out.1 (by omega) (by omega)).mono ?_
    rintro e w2 ⟨v, rfl, hv, hD2, hC2⟩
    have H2 : Hid (DrawAt base cb bv n w2 ∧ Chg (fun k => k = cb) w w2) := ⟨hD2, H1.out.2.trans hC2⟩
    clear hD2 hC2
    have hcl := H2.out.1.lt.2
    rcases hv with rfl | rfl
    · go_wp2_with fail
      refine (pick_core base cb bv n _ 6 _ (H2.out.1.below ((Below.refl _ _).alloc (Nat.le_refl _) _)) (by omega) (by omega) (by omega) (by simp) ?_).mono ?_
      · intro k hk
        match k, hk with
        | 0, _ => exact ⟨_, by simp; rfl, by decide⟩
        | 1, _ => exact ⟨_, by simp; rfl, by decide⟩
        | 2, _ => exact ⟨_, by simp; rfl, by decide⟩
        | 3, _ => exact ⟨_, by simp; rfl, by decide⟩
        | 4, _ => exact ⟨_, by simp; rfl, by decide⟩
        | 5, _ => exact ⟨_, by simp; rfl, by decide⟩
      · rintro e w3 ⟨s, rfl, hs, hD3, hC3⟩
        have H3 : Hid (DrawAt base cb bv n w3 ∧ Chg (fun k => k = cb) w w3) := ⟨hD3, (H2.out.2.alloc_new _).trans hC3⟩
        clear hD3 hC3
        go_wp2_with fail
        go_ret
        exact ⟨s, rfl, hs, H3.out.1, H3.out.2⟩
    · go_wp2_with fail
      refine (letters_core base cb bv n 1 2 _ H2.out.1 (by omega) (by omega) (by omega)).mono ?_
      rintro e w3 ⟨s, rfl, hs, hD3, hC3⟩
      have H3 : Hid (DrawAt base cb bv n w3 ∧ Chg (fun k => k = cb) w w3) := ⟨hD3, H2.out.2.trans hC3⟩
      clear hD3 hC3
      go_wp2_with fail
      go_ret
      exact ⟨s, rfl, by omega, H3.out.1, H3.out.2⟩

set_option maxHeartbeats 2000000 in
theorem fam_core (base cb : Nat) (bv : Value) (n : Nat) (w : World) (h : DrawAt base cb bv n w) :
    Calls Tryz.prog 164 #[.pointer (some ⟨cb, 0, none⟩)] w fun e w' => ∃ s : ByteArray, e = .returned (.string s) ∧ s.size ≤ 1000 ∧ Drew base cb bv n w w' := by
  have HD : Hid (DrawAt base cb bv n w) := h
  clear h
  go_enter Tryz.func164, Tryz.ntmps164
  go_wp2_with fail
  refine (once_core base cb bv n 3 _ HD.out (by omega) (by omega)).mono ?_
  rintro e w1 ⟨v, rfl, hv, hD1, hC1⟩
  have H1 : Hid (DrawAt base cb bv n w1 ∧ Chg (fun k => k = cb) w w1) := ⟨hD1, hC1⟩
  clear hD1 hC1
  have hcl := H1.out.1.lt.2
  rcases hv with rfl | rfl
  · go_wp2_with fail
    go_ret
    exact ⟨_, rfl, by decide, H1.out.1, H1.out.2⟩
  · go_wp2_with fail
    refine (pick_core base cb bv n _ 6 _ (H1.out.1.below ((Below.refl _ _).alloc (Nat.le_refl _) _)) (by omega) (by omega) (by omega) (by simp) ?_).mono ?_
    · intro k hk
      match k, hk with
      | 0, _ => exact ⟨_, by simp; rfl, by decide⟩
      | 1, _ => exact ⟨_, by simp; rfl, by decide⟩
      | 2, _ => exact ⟨_, by simp; rfl, by decide⟩
      | 3, _ => exact ⟨_, by simp; rfl, by decide⟩
      | 4, _ => exact ⟨_, by simp; rfl, by decide⟩
      | 5, _ => exact ⟨_, by simp; rfl, by decide⟩
    · rintro e w3 ⟨s, rfl, hs, hD3, hC3⟩
      have H3 : Hid (DrawAt base cb bv n w3 ∧ Chg (fun k => k = cb) w w3) := ⟨hD3, (H1.out.2.alloc_new _).trans hC3⟩
      clear hD3 hC3
      go_wp2_with fail
      go_ret
      exact ⟨s, rfl, hs, H3.out.1, H3.out.2⟩
set_option maxHeartbeats 2000000 in
theorem qual_core (base cb : Nat) (bv : Value) (n : Nat) (w : World) (h : DrawAt base cb bv n w) :
    Calls Tryz.prog 165 #[.pointer (some ⟨cb, 0, none⟩)] w fun e w' => ∃ s : ByteArray, e = .returned (.string s) ∧ s.size ≤ 1000 ∧ Drew base cb bv n w w' := by
  have HD : Hid (DrawAt base cb bv n w) := h
  clear h
  go_enter Tryz.func165, Tryz.ntmps165
  go_wp2_with fail
  refine (once_core base cb bv n 12 _ HD.out (by omega) (by omega)).mono ?_
  rintro e w1 ⟨v, rfl, hv, hD1, hC1⟩
  have H1 : Hid (DrawAt base cb bv n w1 ∧ Chg (fun k => k = cb) w w1) := ⟨hD1, hC1⟩
  clear hD1 hC1
  have hcl := H1.out.1.lt.2
  rcases hv with rfl | rfl
  · go_wp2_with fail
    refine (pick_core base cb bv n _ 4 _ (H1.out.1.below ((Below.refl _ _).alloc (Nat.le_refl _) _)) (by omega) (by omega) (by omega) (by simp) ?_).mono ?_
    · intro k hk
      match k, hk with
      | 0, _ => exact ⟨_, by simp; rfl, by decide⟩
      | 1, _ => exact ⟨_, by simp; rfl, by decide⟩
      | 2, _ => exact ⟨_, by simp; rfl, by decide⟩
      | 3, _ => exact ⟨_, by simp; rfl, by decide⟩
    · rintro e w3 ⟨s, rfl, hs, hD3, hC3⟩
      have H3 : Hid (DrawAt base cb bv n w3 ∧ Chg (fun k => k = cb) w w3) := ⟨hD3, (H1.out.2.alloc_new _).trans hC3⟩
      clear hD3 hC3
      go_wp2_with fail
      go_ret
      exact ⟨s, rfl, hs, H3.out.1, H3.out.2⟩
  · go_wp2_with fail
    refine (letters_core base cb bv n 1 2 _ H1.out.1 (by omega) (by omega) (by omega)).mono ?_
    rintro e w3 ⟨s, rfl, hs, hD3, hC3⟩
    have H3 : Hid (DrawAt base cb bv n w3 ∧ Chg (fun k => k = cb) w w3) := ⟨hD3, H1.out.2.trans hC3⟩
    clear hD3 hC3
    go_wp2_with fail
    go_ret
    exact ⟨s, rfl, by omega, H3.out.1, H3.out.2⟩
set_option maxHeartbeats 1000000 in
theorem ts_core (base cb : Nat) (bv : Value) (n : Nat) (w : World) (h : DrawAt base cb bv n w) :
    Calls Tryz.prog 166 #[.pointer (some ⟨cb, 0, none⟩)] w fun e w' => ∃ t : Int, e = .returned (.int .u64 t) ∧ (0 ≤ t ∧ t ≤ 18446744073709551615) ∧ Drew base cb bv n w w' := by
  have HD : Hid (DrawAt base cb bv n w) := h
  clear h
  go_enter Tryz.func166, Tryz.ntmps166
  go_wp2_with fail
  refine (once_core base cb bv n 30 _ HD.out (by omega) (by omega)).mono ?_
  rintro e w1 ⟨v, rfl, hv, hD1, hC1⟩
  have H1 : Hid (DrawAt base cb bv n w1 ∧ Chg (fun k => k = cb) w w1) := ⟨hD1, hC1⟩
  clear hD1 hC1
  rcases hv with rfl | rfl
  · go_wp2_with fail
    go_ret
    exact ⟨_, rfl, ⟨by omega, by omega⟩, H1.out.1, H1.out.2⟩
  · go_wp2_with fail
    refine (below_core base cb bv n 6 _ H1.out.1 (by omega) (by omega)).mono ?_
    rintro e w2 ⟨x, rfl, hx0, hx1, hD2, hC2⟩
    have H2 : Hid (DrawAt base cb bv n w2 ∧ Chg (fun k => k = cb) w w2) := ⟨hD2, H1.out.2.trans hC2⟩
    clear hD2 hC2
    go_wp2_with fail
    go_ret
    exact ⟨x, rfl, ⟨by omega, by omega⟩, H2.out.1, H2.out.2⟩
end Go.Proofs.YtlgeffinhbodeaeGreatDoor

/-
  The draws: one write.
-/
namespace Go.Proofs.YtlgeffinhbodeaeGreatDoor
open Go.ChangeShapes Go.WideShapes Go.ChangeAt Go.RowKit Go.Deep
set_option linter.unusedVariables false
set_option linter.unusedSimpArgs false
set_option maxRecDepth 100000

/-- An entry whose texts are short. -/
structure Ent.small (e : Ent) : Prop where
  row : e.row.size ≤ 1000
  fam : e.fam.size ≤ 1000
  qual : e.qual.size ≤ 1000
  val : e.val.size ≤ 1000
  ts : 0 ≤ e.ts ∧ e.ts ≤ 18446744073709551615
  kind : 0 ≤ e.kind ∧ e.kind ≤ 3
theorem Ent.small.ok {e : Ent} (h : e.small) : e.ok where
  row := Nat.le_trans h.row (by decide)
  fam := Nat.le_trans h.fam (by decide)
  qual := Nat.le_trans h.qual (by decide)
  val := Nat.le_trans h.val (by decide)
  ts := by
    have := h.ts
    have h1 : IntKind.u64.min = 0 := by decide
    have h2 : IntKind.u64.max = 18446744073709551615 := by decide
    simp [Lit.wf, h1, h2]; omega
  kind := by
    have := h.kind
    have h1 : IntKind.i64.min = -9223372036854775808 := by decide
    have h2 : IntKind.i64.max = 9223372036854775807 := by decide
    simp [Lit.wf, h1, h2]; omega
theorem small_zero : zeroE.small := ⟨by decide, by decide, by decide, by decide, by decide, by decide⟩

/-- A variable of the call's own that holds an entry, beside the drawing. -/
structure WInv (base cb : Nat) (bv : Value) (n : Nat) (w : World) (eb rb : Nat) (f : Ent) (wr : World) : Prop where
  e : OwnE wr w.heap.size eb 1 [f]
  r : OwnE wr w.heap.size rb 1 [zeroE]
  ne : ¬ eb = rb
  d : DrawAt base cb bv n wr
  c : Chg (fun k => k = cb) w wr
  lt : cb < w.heap.size
  hb : base ≤ w.heap.size
theorem WInv.call {base cb : Nat} {bv : Value} {n : Nat} {w : World} {eb rb : Nat} {f : Ent} {wr w1 : World} (h : WInv base cb bv n w eb rb f wr) (hd : Drew base cb bv n wr w1) : WInv base cb bv n w eb rb f w1 :=
  ⟨own_chg h.e hd.2 (fun k q => by simp [Value.ownBlock] at q; subst q; have := h.e.lt.1; have := h.lt; omega), own_chg h.r hd.2 (fun k q => by simp [Value.ownBlock] at q; subst q; have := h.r.lt.1; have := h.lt; omega), h.ne, hd.1, h.c.trans hd.2, h.lt, h.hb⟩
theorem WInv.set {base cb : Nat} {bv : Value} {n : Nat} {w : World} {eb rb : Nat} {f : Ent} {wr : World} (h : WInv base cb bv n w eb rb f wr) (j : Nat) (f' : Ent) (u : Value) (hj : j < 6) (hc : f'.cells = f.cells.set j u) : WInv base cb bv n w eb rb f' (wr.setCell ⟨eb, j, none⟩ u) := by
  have h1 := h.e.set 0 j f f' u rfl hj hc
  simp only [Nat.zero_mul, Nat.zero_add] at h1
  have hl := h.e.lt
  have hcb := h.lt
  have hbb := h.hb
  have hcg : Chg (fun k => k = eb) wr (wr.setCell ⟨eb, j, none⟩ u) := Chg.of_set _ _ _ _ rfl
  refine ⟨h1, own_chg h.r hcg (fun k q => by simp [Value.ownBlock] at q; subst q; exact fun q => h.ne q.symm), h.ne, h.d.chg hcg (by omega) (fun k q => by omega), ?_, h.lt, h.hb⟩
  exact Chg.grown_new h.c (grown_set wr eb j u) (fun k hk => by cases hk; exact hl.1)
theorem WInv.cells {base cb : Nat} {bv : Value} {n : Nat} {w : World} {eb rb : Nat} {f : Ent} {wr : World} (h : WInv base cb bv n w eb rb f wr) :
    (wr.cell? ⟨eb, 0, none⟩ = some (.string f.row) ∧ wr.cell? ⟨eb, 1, none⟩ = some (.string f.fam) ∧ wr.cell? ⟨eb, 2, none⟩ = some (.string f.qual) ∧ wr.cell? ⟨eb, 3, none⟩ = some (.int .u64 f.ts) ∧ wr.cell? ⟨eb, 4, none⟩ = some (.int .i64 f.kind) ∧ wr.cell? ⟨eb, 5, none⟩ = some (.string f.val)) ∧ ∀ j, wr.frozen? ⟨eb, j, none⟩ = false := by
  have := h.e.at 0 f rfl
  simp only [Nat.zero_add, Nat.zero_mul] at this
  exact ⟨this, fun j => World.ownsRow.frozenAt h.e j⟩
/-- What lies in the variable is handed back. -/
theorem WInv.back {base cb : Nat} {bv : Value} {n : Nat} {w : World} {eb rb : Nat} {f : Ent} {wr : World} (h : WInv base cb bv n w eb rb f wr) :
    (wr.cell? ⟨rb, 0, none⟩ = some (.string ⟨#[]⟩) ∧ wr.cell? ⟨rb, 1, none⟩ = some (.string ⟨#[]⟩) ∧ wr.cell? ⟨rb, 2, none⟩ = some (.string ⟨#[]⟩) ∧ wr.cell? ⟨rb, 3, none⟩ = some (.int .u64 0) ∧ wr.cell? ⟨rb, 4, none⟩ = some (.int .i64 0) ∧ wr.cell? ⟨rb, 5, none⟩ = some (.string ⟨#[]⟩)) ∧ (∀ j, wr.frozen? ⟨rb, j, none⟩ = false) ∧
    (∀ W9, W9 = ((((((wr.setCell ⟨rb, 0, none⟩ (.string f.row)).setCell ⟨rb, 1, none⟩ (.string f.fam)).setCell ⟨rb, 2, none⟩ (.string f.qual)).setCell ⟨rb, 3, none⟩ (.int .u64 f.ts)).setCell ⟨rb, 4, none⟩ (.int .i64 f.kind)).setCell ⟨rb, 5, none⟩ (.string f.val)) →
      (W9.cell? ⟨rb, 0, none⟩ = some (.string f.row) ∧ W9.cell? ⟨rb, 1, none⟩ = some (.string f.fam) ∧ W9.cell? ⟨rb, 2, none⟩ = some (.string f.qual) ∧ W9.cell? ⟨rb, 3, none⟩ = some (.int .u64 f.ts) ∧ W9.cell? ⟨rb, 4, none⟩ = some (.int .i64 f.kind) ∧ W9.cell? ⟨rb, 5, none⟩ = some (.string f.val)) ∧ DrawAt base cb bv n W9 ∧ Chg (fun k => k = cb) w W9) := by
  have h0 := h.r.at 0 zeroE rfl
  simp only [Nat.zero_add, Nat.zero_mul] at h0
  refine ⟨h0, fun j => World.ownsRow.frozenAt h.r j, fun W9 hW => ?_⟩
  have hp := h.r.put 0 zeroE f rfl
  simp only [Nat.zero_mul, Nat.zero_add] at hp
  have h1 := hp.at 0 f rfl
  simp only [Nat.zero_add, Nat.zero_mul] at h1
  have hl := h.r.lt
  have hcb := h.lt
  have hbb := h.hb
  have hcg : Chg (fun k => k = rb) wr W9 := by
    rw [hW]
    exact (((((Chg.of_set (S := fun k => k = rb) _ _ _ _ rfl).trans (Chg.of_set (S := fun k => k = rb) _ _ _ _ rfl)).trans (Chg.of_set (S := fun k => k = rb) _ _ _ _ rfl)).trans (Chg.of_set (S := fun k => k = rb) _ _ _ _ rfl)).trans (Chg.of_set (S := fun k => k = rb) _ _ _ _ rfl)).trans (Chg.of_set (S := fun k => k = rb) _ _ _ _ rfl)
  refine ⟨by rw [hW]; exact h1, h.d.chg hcg (by omega) (fun k q => by omega), ?_⟩
  have hcg2 : Chg (fun k => k = cb) w W9 := ⟨hcg.os.trans h.c.os, hcg.tape.trans h.c.tape, hcg.output.trans h.c.output, Nat.le_trans h.c.size hcg.size, fun k hk hn => (hcg.block k (Nat.lt_of_lt_of_le hk h.c.size) (by omega)).trans (h.c.block k hk hn)⟩
  exact hcg2

theorem ownE_new (w : World) (base : Nat) (f : Ent) (hb : base ≤ w.heap.size) : OwnE (w.alloc (Obj.cells #[.string f.row, .string f.fam, .string f.qual, .int .u64 f.ts, .int .i64 f.kind, .string f.val] 45)) base w.heap.size 1 [f] :=
  World.ownsRow_lit (base := base) (e := 45) (size := 6) w #[.string f.row, .string f.fam, .string f.qual, .int .u64 f.ts, .int .i64 f.kind, .string f.val] 1 hb (by decide) rfl

set_option maxHeartbeats 4000000 in
theorem write_core (base cb : Nat) (bv : Value) (n : Nat) (w : World) (h : DrawAt base cb bv n w) :
    Calls Tryz.prog 137 #[.pointer (some ⟨cb, 0, none⟩)] w fun r w' => ∃ e : Ent, r = .returned e.v ∧ e.small ∧ Drew base cb bv n w w' := by
  have hlt := h.lt
  have hbase := h.base
  obtain ⟨Wa, hWa⟩ : ∃ Wa : World, Wa = w.alloc (Obj.cells #[.string ⟨#[]⟩, .string ⟨#[]⟩, .string ⟨#[]⟩, .int .u64 0, .int .i64 0, .string ⟨#[]⟩] 45) := ⟨_, rfl⟩
  have hba : Below w.heap.size w Wa := by rw [hWa]; exact (Below.refl _ _).alloc (Nat.le_refl _) _
  have hza : Wa.heap.size = w.heap.size + 1 := by rw [hWa]; simp
  obtain ⟨Wb, hWb⟩ : ∃ Wb : World, Wb = Wa.alloc (Obj.cells #[.string ⟨#[]⟩, .string ⟨#[]⟩, .string ⟨#[]⟩, .int .u64 0, .int .i64 0, .string ⟨#[]⟩] 45) := ⟨_, rfl⟩
  have hbb : Below Wa.heap.size Wa Wb := by rw [hWb]; exact (Below.refl _ _).alloc (Nat.le_refl _) _
  have H0 : Hid (WInv base cb bv n w (w.heap.size + 1) w.heap.size zeroE Wb) := by
    refine ⟨?_, ?_, by omega, (h.below hba).below hbb, (Chg.of_below hba).trans (Chg.of_below hbb), hlt.2, hbase⟩
    · rw [hWb, ← hza]; exact ownE_new Wa w.heap.size zeroE (by omega)
    · have : OwnE Wa w.heap.size w.heap.size 1 [zeroE] := by rw [hWa]; exact ownE_new w w.heap.size zeroE (Nat.le_refl _)
      exact this.below hbb (by omega)
  clear h hlt
  go_enter Tryz.func137, Tryz.ntmps137
  go_wp2_with fail
  rw [← hWa, ← hWb]
  clear hWa hWb hba hbb hza
  generalize w.heap.size + 1 = eb at *
  refine (row_core base cb bv n _ H0.out.d).mono ?_
  rintro e w1 ⟨s1, rfl, hs1, hd1⟩
  have h1 := H0.out.call hd1
  obtain ⟨⟨c0, _⟩, f1⟩ := h1.cells
  have f1' := f1 0
  have H1 : Hid (WInv base cb bv n w eb w.heap.size { zeroE with row := s1 } (w1.setCell ⟨eb, 0, none⟩ (.string s1))) := h1.set 0 _ _ (by omega) rfl
  clear h1 hd1 f1
  go_wp2_with fail
  refine (fam_core base cb bv n _ H1.out.d).mono ?_
  rintro e w2 ⟨s2, rfl, hs2, hd2⟩
  have h2 := H1.out.call hd2
  obtain ⟨⟨_, c1, _⟩, f1⟩ := h2.cells
  have f2' := f1 1
  have H2 : Hid (WInv base cb bv n w eb w.heap.size { zeroE with row := s1, fam := s2 } (w2.setCell ⟨eb, 1, none⟩ (.string s2))) := h2.set 1 _ _ (by omega) rfl
  clear h2 hd2 f1 c0 f1'
  go_wp2_with fail
  refine (qual_core base cb bv n _ H2.out.d).mono ?_
  rintro e w3 ⟨s3, rfl, hs3, hd3⟩
  have h3 := H2.out.call hd3
  obtain ⟨⟨_, _, c2, _⟩, f1⟩ := h3.cells
  have f3' := f1 2
  have H3 : Hid (WInv base cb bv n w eb w.heap.size { zeroE with row := s1, fam := s2, qual := s3 } (w3.setCell ⟨eb, 2, none⟩ (.string s3))) := h3.set 2 _ _ (by omega) rfl
  clear h3 hd3 f1 c1 f2'
  go_wp2_with fail
  refine (ts_core base cb bv n _ H3.out.d).mono ?_
  rintro e w4 ⟨t, rfl, ht, hd4⟩
  have h4 := H3.out.call hd4
  obtain ⟨⟨_, _, _, c3, _⟩, f1⟩ := h4.cells
  have f4' := f1 3
  have H4 : Hid (WInv base cb bv n w eb w.heap.size { zeroE with row := s1, fam := s2, qual := s3, ts := t } (w4.setCell ⟨eb, 3, none⟩ (.int .u64 t))) := h4.set 3 _ _ (by omega) rfl
  clear h4 hd4 f1 c2 f3'
  go_wp2_with fail
  refine (below_core base cb bv n 10 _ H4.out.d (by omega) (by omega)).mono ?_
  rintro e w5 ⟨x, rfl, hx0, hx1, hd5⟩
  have H5 : Hid (WInv base cb bv n w eb w.heap.size { zeroE with row := s1, fam := s2, qual := s3, ts := t } w5) := H4.out.call hd5
  clear hd5 c3 f4'
  have fin : ∀ (f : Ent) (wr : World), WInv base cb bv n w eb w.heap.size f wr → f.small → ∀ W9, W9 = ((((((wr.setCell ⟨w.heap.size, 0, none⟩ (.string f.row)).setCell ⟨w.heap.size, 1, none⟩ (.string f.fam)).setCell ⟨w.heap.size, 2, none⟩ (.string f.qual)).setCell ⟨w.heap.size, 3, none⟩ (.int .u64 f.ts)).setCell ⟨w.heap.size, 4, none⟩ (.int .i64 f.kind)).setCell ⟨w.heap.size, 5, none⟩ (.string f.val)) →
      ∃ e : Ent, Ending.returned (Value.agg #[.string f.row, .string f.fam, .string f.qual, .int .u64 f.ts, .int .i64 f.kind, .string f.val]) = .returned e.v ∧ e.small ∧ Drew base cb bv n w W9 := fun f wr hw hf W9 hW => ⟨f, rfl, hf, (hw.back.2.2 W9 hW).2⟩
  have HF : Hid (∀ (f : Ent) (wr : World), WInv base cb bv n w eb w.heap.size f wr → f.small → ∀ W9, W9 = ((((((wr.setCell ⟨w.heap.size, 0, none⟩ (.string f.row)).setCell ⟨w.heap.size, 1, none⟩ (.string f.fam)).setCell ⟨w.heap.size, 2, none⟩ (.string f.qual)).setCell ⟨w.heap.size, 3, none⟩ (.int .u64 f.ts)).setCell ⟨w.heap.size, 4, none⟩ (.int .i64 f.kind)).setCell ⟨w.heap.size, 5, none⟩ (.string f.val)) →
      ∃ e : Ent, Ending.returned (Value.agg #[.string f.row, .string f.fam, .string f.qual, .int .u64 f.ts, .int .i64 f.kind, .string f.val]) = .returned e.v ∧ e.small ∧ Drew base cb bv n w W9) := fin
  clear fin
  by_cases hx7 : x < 7
  · go_wp2_with fail
    refine (letters_core base cb bv n 0 3 _ H5.out.d (by omega) (by omega) (by omega)).mono ?_
    rintro e w6 ⟨s6, rfl, hs6, hd6⟩
    have h6 := H5.out.call hd6
    obtain ⟨⟨_, _, _, _, _, c5⟩, f1⟩ := h6.cells
    have f6' := f1 5
    have H6 : Hid (WInv base cb bv n w eb w.heap.size ⟨s1, s2, s3, t, 0, s6⟩ (w6.setCell ⟨eb, 5, none⟩ (.string s6)) ∧ (⟨s1, s2, s3, t, 0, s6⟩ : Ent).small) := ⟨h6.set 5 _ _ (by omega) rfl, ⟨hs1, hs2, hs3, by show s6.size ≤ 1000; omega, ht, by simp⟩⟩
    clear h6 hd6 f1
    go_upto_region 12 with fail
    obtain ⟨W7, hW7⟩ : ∃ W7 : World, W7 = w6.setCell ⟨eb, 5, none⟩ (.string s6) := ⟨_, rfl⟩
    rw [← hW7]
    have H7 : Hid (WInv base cb bv n w eb w.heap.size ⟨s1, s2, s3, t, 0, s6⟩ W7 ∧ (⟨s1, s2, s3, t, 0, s6⟩ : Ent).small) := by rw [hW7]; exact H6.out
    clear hW7 H6
    obtain ⟨⟨k0, k1, k2, k3, k4, k5⟩, _⟩ := H7.out.1.cells
    obtain ⟨⟨l0, l1, l2, l3, l4, l5⟩, lf, _⟩ := H7.out.1.back
    simp only at k0 k1 k2 k3 k4 k5
    obtain ⟨W9, hW9⟩ : ∃ W9 : World, W9 = ((((((W7.setCell ⟨w.heap.size, 0, none⟩ (.string (⟨s1, s2, s3, t, 0, s6⟩ : Ent).row)).setCell ⟨w.heap.size, 1, none⟩ (.string (⟨s1, s2, s3, t, 0, s6⟩ : Ent).fam)).setCell ⟨w.heap.size, 2, none⟩ (.string (⟨s1, s2, s3, t, 0, s6⟩ : Ent).qual)).setCell ⟨w.heap.size, 3, none⟩ (.int .u64 (⟨s1, s2, s3, t, 0, s6⟩ : Ent).ts)).setCell ⟨w.heap.size, 4, none⟩ (.int .i64 (⟨s1, s2, s3, t, 0, s6⟩ : Ent).kind)).setCell ⟨w.heap.size, 5, none⟩ (.string (⟨s1, s2, s3, t, 0, s6⟩ : Ent).val)) := ⟨_, rfl⟩
    obtain ⟨⟨p0, p1, p2, p3, p4, p5⟩, _⟩ := H7.out.1.back.2.2 W9 hW9
    have HR := HF.out ⟨s1, s2, s3, t, 0, s6⟩ W7 H7.out.1 H7.out.2 W9 hW9
    simp only at p0 p1 p2 p3 p4 p5 hW9
    go_wp2_with fail
    rw [← hW9]
    exact bodyPost_ret (by simp [results, Tryz.results137, go_sem, p0, p1, p2, p3, p4, p5]) rfl HR
  · cases hx7e : (x == 7)
    · obtain ⟨⟨_, _, _, _, c4, _⟩, f1⟩ := H5.out.cells
      have f6' := f1 4
      have H6 : Hid (WInv base cb bv n w eb w.heap.size ⟨s1, s2, s3, t, 1, ⟨#[]⟩⟩ (w5.setCell ⟨eb, 4, none⟩ (.int .i64 1)) ∧ (⟨s1, s2, s3, t, 1, ⟨#[]⟩⟩ : Ent).small) := ⟨H5.out.set 4 _ _ (by omega) rfl, ⟨hs1, hs2, hs3, by show (0 : Nat) ≤ 1000; omega, ht, by simp⟩⟩
      clear f1
      go_upto_region 12 with fail
      obtain ⟨W7, hW7⟩ : ∃ W7 : World, W7 = w5.setCell ⟨eb, 4, none⟩ (.int .i64 1) := ⟨_, rfl⟩
      rw [← hW7]
      have H7 : Hid (WInv base cb bv n w eb w.heap.size ⟨s1, s2, s3, t, 1, ⟨#[]⟩⟩ W7 ∧ (⟨s1, s2, s3, t, 1, ⟨#[]⟩⟩ : Ent).small) := by rw [hW7]; exact H6.out
      clear hW7 H6
      obtain ⟨⟨k0, k1, k2, k3, k4, k5⟩, _⟩ := H7.out.1.cells
      obtain ⟨⟨l0, l1, l2, l3, l4, l5⟩, lf, _⟩ := H7.out.1.back
      simp only at k0 k1 k2 k3 k4 k5
      obtain ⟨W9, hW9⟩ : ∃ W9 : World, W9 = ((((((W7.setCell ⟨w.heap.size, 0, none⟩ (.string (⟨s1, s2, s3, t, 1, ⟨#[]⟩⟩ : Ent).row)).setCell ⟨w.heap.size, 1, none⟩ (.string (⟨s1, s2, s3, t, 1, ⟨#[]⟩⟩ : Ent).fam)).setCell ⟨w.heap.size, 2, none⟩ (.string (⟨s1, s2, s3, t, 1, ⟨#[]⟩⟩ : Ent).qual)).setCell ⟨w.heap.size, 3, none⟩ (.int .u64 (⟨s1, s2, s3, t, 1, ⟨#[]⟩⟩ : Ent).ts)).setCell ⟨w.heap.size, 4, none⟩ (.int .i64 (⟨s1, s2, s3, t, 1, ⟨#[]⟩⟩ : Ent).kind)).setCell ⟨w.heap.size, 5, none⟩ (.string (⟨s1, s2, s3, t, 1, ⟨#[]⟩⟩ : Ent).val)) := ⟨_, rfl⟩
      obtain ⟨⟨p0, p1, p2, p3, p4, p5⟩, _⟩ := H7.out.1.back.2.2 W9 hW9
      have HR := HF.out ⟨s1, s2, s3, t, 1, ⟨#[]⟩⟩ W7 H7.out.1 H7.out.2 W9 hW9
      simp only at p0 p1 p2 p3 p4 p5 hW9
      go_wp2_with fail
      rw [← hW9]
      exact bodyPost_ret (by simp [results, Tryz.results137, go_sem, p0, p1, p2, p3, p4, p5]) rfl HR
    · obtain ⟨⟨_, _, _, _, c4, _⟩, f1⟩ := H5.out.cells
      have f6' := f1 4
      have H6 : Hid (WInv base cb bv n w eb w.heap.size ⟨s1, s2, s3, t, 2, ⟨#[]⟩⟩ (w5.setCell ⟨eb, 4, none⟩ (.int .i64 2)) ∧ (⟨s1, s2, s3, t, 2, ⟨#[]⟩⟩ : Ent).small) := ⟨H5.out.set 4 _ _ (by omega) rfl, ⟨hs1, hs2, hs3, by show (0 : Nat) ≤ 1000; omega, ht, by simp⟩⟩
      clear f1
      go_upto_region 12 with fail
      obtain ⟨W7, hW7⟩ : ∃ W7 : World, W7 = w5.setCell ⟨eb, 4, none⟩ (.int .i64 2) := ⟨_, rfl⟩
      rw [← hW7]
      have H7 : Hid (WInv base cb bv n w eb w.heap.size ⟨s1, s2, s3, t, 2, ⟨#[]⟩⟩ W7 ∧ (⟨s1, s2, s3, t, 2, ⟨#[]⟩⟩ : Ent).small) := by rw [hW7]; exact H6.out
      clear hW7 H6
      obtain ⟨⟨k0, k1, k2, k3, k4, k5⟩, _⟩ := H7.out.1.cells
      obtain ⟨⟨l0, l1, l2, l3, l4, l5⟩, lf, _⟩ := H7.out.1.back
      simp only at k0 k1 k2 k3 k4 k5
      obtain ⟨W9, hW9⟩ : ∃ W9 : World, W9 = ((((((W7.setCell ⟨w.heap.size, 0, none⟩ (.string (⟨s1, s2, s3, t, 2, ⟨#[]⟩⟩ : Ent).row)).setCell ⟨w.heap.size, 1, none⟩ (.string (⟨s1, s2, s3, t, 2, ⟨#[]⟩⟩ : Ent).fam)).setCell ⟨w.heap.size, 2, none⟩ (.string (⟨s1, s2, s3, t, 2, ⟨#[]⟩⟩ : Ent).qual)).setCell ⟨w.heap.size, 3, none⟩ (.int .u64 (⟨s1, s2, s3, t, 2, ⟨#[]⟩⟩ : Ent).ts)).setCell ⟨w.heap.size, 4, none⟩ (.int .i64 (⟨s1, s2, s3, t, 2, ⟨#[]⟩⟩ : Ent).kind)).setCell ⟨w.heap.size, 5, none⟩ (.string (⟨s1, s2, s3, t, 2, ⟨#[]⟩⟩ : Ent).val)) := ⟨_, rfl⟩
      obtain ⟨⟨p0, p1, p2, p3, p4, p5⟩, _⟩ := H7.out.1.back.2.2 W9 hW9
      have HR := HF.out ⟨s1, s2, s3, t, 2, ⟨#[]⟩⟩ W7 H7.out.1 H7.out.2 W9 hW9
      simp only at p0 p1 p2 p3 p4 p5 hW9
      go_wp2_with fail
      rw [← hW9]
      exact bodyPost_ret (by simp [results, Tryz.results137, go_sem, p0, p1, p2, p3, p4, p5]) rfl HR
end Go.Proofs.YtlgeffinhbodeaeGreatDoor

/-
  What is left of a list of writes when it is played from its front: the puts of its run.
-/
namespace Go.Proofs.YtlgeffinhbodeaeGreatDoor
set_option linter.unusedVariables false

/-- The list that is played up to 'k'. -/
def Rep (ws : List Ent) (k : Nat) (L : List Ent) : Prop := Ord L ∧ ∀ x, x ∈ L ↔ ∃ i, i < k ∧ ws[i]? = some x ∧ x.kind = 0 ∧ StandsTo ws i k
/-- A delete does away with this one. -/
def hit (x e : Ent) : Bool := sameCol x e && ((x.ts == e.ts) || ((e.kind == 2) && decide (x.ts ≤ e.ts)))

theorem sameCol_comm (a b : Ent) : sameCol a b = sameCol b a := by
  rw [Bool.eq_iff_iff, sameCol_iff, sameCol_iff]
  constructor <;> rintro ⟨h1, h2, h3⟩ <;> exact ⟨h1.symm, h2.symm, h3.symm⟩
theorem hit_kills (x e : Ent) : hit x e = kills e x := by
  unfold hit kills
  rw [sameCol_comm x e]
  cases sameCol e x
  · rfl
  · by_cases h2 : e.kind = 2
    · by_cases h : x.ts ≤ e.ts
      · simp [h2, h]
      · have : ¬ x.ts = e.ts := by omega
        simp [h2, h, this]
    · rw [Bool.eq_iff_iff]
      simp [h2]
      exact eq_comm

theorem rep_zero (ws : List Ent) : Rep ws 0 [] := ⟨List.Pairwise.nil, fun x => ⟨fun h => by simp at h, fun ⟨i, hi, _⟩ => by omega⟩⟩
theorem standsTo_self (ws : List Ent) (k : Nat) : StandsTo ws k (k + 1) := fun j v e h1 h2 => by omega
theorem standsTo_iff {ws : List Ent} {i k : Nat} {x e : Ent} (hx : ws[i]? = some x) (he : ws[k]? = some e) (hik : i < k) : StandsTo ws i (k + 1) ↔ StandsTo ws i k ∧ kills e x = false :=
  ⟨fun h => ⟨fun j v y h1 h2 => h j v y h1 (by omega), h k e x hik (by omega) he hx⟩, fun h => standsTo_succ h.1 he hx h.2⟩
theorem key_kills {x e : Ent} (hx : x.kind = 0) (he : e.kind = 0) : keyCmp x e = 0 ↔ kills e x = true := by
  rw [keyCmp_zero]
  unfold kills
  simp [sameCol_iff, hx, he]
  constructor
  · rintro ⟨h1, h2, h3, h4⟩; exact ⟨⟨h1.symm, h2.symm, h3.symm⟩, h4.symm⟩
  · rintro ⟨⟨h1, h2, h3⟩, h4⟩; exact ⟨h1.symm, h2.symm, h3.symm, h4.symm⟩
theorem rep_put {ws : List Ent} {k : Nat} {e : Ent} {L : List Ent} (h : Rep ws k L) (he : ws[k]? = some e) (h0 : e.kind = 0) : Rep ws (k + 1) (into L e) := by
  obtain ⟨h1, h2⟩ := into_spec e L h.1
  refine ⟨h1, fun x => (h2 x).trans ⟨?_, ?_⟩⟩
  · rintro (rfl | ⟨hx, hz⟩)
    · exact ⟨k, by omega, he, h0, standsTo_self ws k⟩
    · obtain ⟨i, hi, a, b, c⟩ := (h.2 x).1 hx
      refine ⟨i, by omega, a, b, (standsTo_iff a he hi).2 ⟨c, ?_⟩⟩
      cases hk : kills e x
      · rfl
      · exact absurd ((key_kills b h0).2 hk) hz
  · rintro ⟨i, hi, a, b, c⟩
    by_cases hik : i = k
    · subst hik
      rw [he] at a
      simp at a
      exact .inl a.symm
    · obtain ⟨c1, c2⟩ := (standsTo_iff a he (by omega)).1 c
      refine .inr ⟨(h.2 x).2 ⟨i, by omega, a, b, c1⟩, fun hz => ?_⟩
      rw [(key_kills b h0).1 hz] at c2
      cases c2
theorem rep_del {ws : List Ent} {k : Nat} {e : Ent} {L : List Ent} (h : Rep ws k L) (he : ws[k]? = some e) (h0 : ¬ e.kind = 0) : Rep ws (k + 1) (L.filter fun x => !(hit x e)) := by
  refine ⟨h.1.filter _, fun x => ?_⟩
  rw [List.mem_filter, hit_kills, h.2 x]
  constructor
  · rintro ⟨⟨i, hi, a, b, c⟩, hk⟩
    exact ⟨i, by omega, a, b, (standsTo_iff a he hi).2 ⟨c, by simpa using hk⟩⟩
  · rintro ⟨i, hi, a, b, c⟩
    by_cases hik : i = k
    · subst hik
      rw [he] at a
      simp at a
      subst a
      exact absurd b h0
    · obtain ⟨c1, c2⟩ := (standsTo_iff a he (by omega)).1 c
      exact ⟨⟨i, by omega, a, b, c1⟩, by simp [c2]⟩

/-- The puts of a list of entries. -/
def puts (R : List Ent) : List Ent := R.filter fun x => x.kind == 0
theorem length_puts (R : List Ent) : (puts R).length ≤ R.length := List.length_filter_le _ _
theorem rep_kept {ws L R : List Ent} (h : Rep ws ws.length L) (hk : Kept ws ws.length R) : L = puts R := by
  refine ord_ext h.1 (hk.1.filter _) (fun x => ?_)
  rw [h.2 x]
  unfold puts
  rw [List.mem_filter, hk.2 x]
  constructor
  · rintro ⟨i, hi, a, b, c⟩
    refine ⟨⟨i, hi, a, .inl ⟨by omega, fun j v e h1 h2 h3 => c j v e h1 (List.getElem?_eq_some_iff.1 h2).1 h2 h3⟩⟩, by simp [b]⟩
  · rintro ⟨⟨i, hi, a, b⟩, h0⟩
    have h0' : x.kind = 0 := by simpa using h0
    rcases b with ⟨_, hs⟩ | ⟨h2, _⟩
    · exact ⟨i, hi, a, h0', fun j v e h1 _ h2 h3 => hs j v e h1 h2 h3⟩
    · omega
end Go.Proofs.YtlgeffinhbodeaeGreatDoor

/-
  What a stack of runs shows.
-/
namespace Go.Proofs.YtlgeffinhbodeaeGreatDoor
set_option linter.unusedVariables false
set_option linter.unusedSimpArgs false

theorem okPair_key {p e : Ent} (h : okPair p e = true) : keyCmp p e = -1 := by
  unfold okPair at h
  simp only [Bool.and_eq_true, decide_eq_true_eq, Bool.not_eq_true', beq_iff_eq] at h
  first
    | exact h.1
    | exact h.2
    | (have h1 := h.1; have h2 := h.2; rcases keyCmp_vals p e with q | q | q <;> simp_all)
theorem ord_of_adj : ∀ (l : List Ent), (∀ i p e, l[i]? = some p → l[i + 1]? = some e → keyCmp p e = -1) → Ord l
  | [], _ => List.Pairwise.nil
  | [a], _ => by simp [Ord]
  | a :: b :: r, h => by
    have ih := ord_of_adj (b :: r) (fun i p e h1 h2 => h (i + 1) p e (by simpa using h1) (by simpa using h2))
    have hab : keyCmp a b = -1 := h 0 a b rfl rfl
    refine List.pairwise_cons.2 ⟨fun x hx => ?_, ih⟩
    rcases List.mem_cons.1 hx with rfl | hx
    · exact hab
    · exact keyCmp_trans hab ((List.pairwise_cons.1 ih).1 x hx)
theorem ord_of_good {es : List Ent} (h : GoodR es) : Ord es := ord_of_adj es (fun i p e h1 h2 => okPair_key (h.2 i p e h1 h2))
theorem ord_get {l : List Ent} (h : Ord l) {i j : Nat} {x y : Ent} (hij : i < j) (hx : l[i]? = some x) (hy : l[j]? = some y) : keyCmp x y = -1 := by
  obtain ⟨h1, rfl⟩ := List.getElem?_eq_some_iff.1 hx
  obtain ⟨h2, rfl⟩ := List.getElem?_eq_some_iff.1 hy
  exact List.pairwise_iff_getElem.1 h i j h1 h2 hij

def GoodRs (rs : List (List Ent)) : Prop := rs.length ≤ 50 ∧ ∀ es ∈ rs, GoodR es
/-- An entry at a place. -/
def At (rs : List (List Ent)) (i j : Nat) (x : Ent) : Prop := ∃ es, rs[i]? = some es ∧ es[j]? = some x
/-- Some newer run does away with it. -/
def HidTo (rs : List (List Ent)) (k : Nat) (x : Ent) : Prop := ∃ m ds d, m < k ∧ rs[m]? = some ds ∧ d ∈ ds ∧ kills d x = true
def Good (rs : List (List Ent)) (inr : ByteArray → Bool) (i : Nat) (x : Ent) : Prop := x.kind = 0 ∧ inr x.row = true ∧ ¬ HidTo rs i x
def MrgTo (rs : List (List Ent)) (inr : ByteArray → Bool) (i j : Nat) (L : List Ent) : Prop :=
  Ord L ∧ ∀ x, x ∈ L ↔ ∃ i' j', (i' < i ∨ (i' = i ∧ j' < j)) ∧ At rs i' j' x ∧ Good rs inr i' x
def Mrg (rs : List (List Ent)) (inr : ByteArray → Bool) (L : List Ent) : Prop := Ord L ∧ ∀ x, x ∈ L ↔ ∃ i j, At rs i j x ∧ Good rs inr i x
def MrgOf (rs : List (List Ent)) (inr : ByteArray → Bool) (L : List Ent) : Prop := (GoodRs rs → Mrg rs inr L) ∧ (¬ GoodRs rs → L = [])
theorem mrgOf_uniq {rs : List (List Ent)} {inr : ByteArray → Bool} {L M : List Ent} (h : MrgOf rs inr L) (k : MrgOf rs inr M) : L = M := by
  by_cases g : GoodRs rs
  · exact ord_ext (h.1 g).1 (k.1 g).1 (fun x => ((h.1 g).2 x).trans ((k.1 g).2 x).symm)
  · rw [h.2 g, k.2 g]

theorem mrgTo_zero (rs : List (List Ent)) (inr : ByteArray → Bool) : MrgTo rs inr 0 0 [] :=
  ⟨List.Pairwise.nil, fun x => ⟨fun h => by simp at h, fun ⟨i, j, h, _⟩ => by omega⟩⟩
theorem mrgTo_row {rs : List (List Ent)} {inr : ByteArray → Bool} {i j : Nat} {es L : List Ent} (h : MrgTo rs inr i j L) (he : rs[i]? = some es) (hj : es.length ≤ j) : MrgTo rs inr (i + 1) 0 L := by
  refine ⟨h.1, fun x => (h.2 x).trans ⟨?_, ?_⟩⟩
  · rintro ⟨i', j', hp, ha, hg⟩
    exact ⟨i', j', by omega, ha, hg⟩
  · rintro ⟨i', j', hp, ⟨fs, h1, h2⟩, hg⟩
    refine ⟨i', j', ?_, ⟨fs, h1, h2⟩, hg⟩
    by_cases hii : i' = i
    · subst hii
      rw [he] at h1
      simp at h1
      subst h1
      have := (List.getElem?_eq_some_iff.1 h2).1
      omega
    · omega
theorem mrgTo_skip {rs : List (List Ent)} {inr : ByteArray → Bool} {i j : Nat} {e : Ent} {L : List Ent} (h : MrgTo rs inr i j L) (he : At rs i j e) (hn : ¬ Good rs inr i e) : MrgTo rs inr i (j + 1) L := by
  refine ⟨h.1, fun x => (h.2 x).trans ⟨?_, ?_⟩⟩
  · rintro ⟨i', j', hp, ha, hg⟩
    exact ⟨i', j', by omega, ha, hg⟩
  · rintro ⟨i', j', hp, ha, hg⟩
    refine ⟨i', j', ?_, ha, hg⟩
    by_cases hq : i' = i ∧ j' = j
    · obtain ⟨rfl, rfl⟩ := hq
      obtain ⟨es, h1, h2⟩ := he
      obtain ⟨fs, h3, h4⟩ := ha
      rw [h1] at h3
      simp at h3
      subst h3
      rw [h2] at h4
      simp at h4
      subst h4
      exact absurd hg hn
    · omega
theorem mrgTo_put {rs : List (List Ent)} {inr : ByteArray → Bool} {i j : Nat} {e : Ent} {L : List Ent} (hG : GoodRs rs) (h : MrgTo rs inr i j L) (he : At rs i j e) (hg : Good rs inr i e) : MrgTo rs inr i (j + 1) (into L e) := by
  obtain ⟨h1, h2⟩ := into_spec e L h.1
  have uniq : ∀ x i' j', (i' < i ∨ (i' = i ∧ j' < j)) → At rs i' j' x → Good rs inr i' x → keyCmp x e ≠ 0 := by
    rintro x i' j' hp ⟨fs, a1, a2⟩ hx hz
    rcases hp with hp | ⟨rfl, hp⟩
    · exact hg.2.2 ⟨i', fs, x, hp, a1, List.mem_of_getElem? a2, by
        obtain ⟨k1, k2, k3, k4, k5⟩ := keyCmp_zero.1 hz
        unfold kills
        have hk : ¬ x.kind = 2 := by have := hx.1; omega
        simp [sameCol_iff, hk, k1, k2, k3, k5]⟩
    · obtain ⟨es, b1, b2⟩ := he
      rw [b1] at a1
      simp at a1
      subst a1
      have := ord_get (ord_of_good (hG.2 es (List.mem_of_getElem? b1))) hp a2 b2
      omega
  refine ⟨h1, fun x => (h2 x).trans ⟨?_, ?_⟩⟩
  · rintro (rfl | ⟨hx, _⟩)
    · exact ⟨i, j, by omega, he, hg⟩
    · obtain ⟨i', j', hp, ha, hg'⟩ := (h.2 x).1 hx
      exact ⟨i', j', by omega, ha, hg'⟩
  · rintro ⟨i', j', hp, ha, hg'⟩
    by_cases hq : i' = i ∧ j' = j
    · obtain ⟨rfl, rfl⟩ := hq
      obtain ⟨es, a1, a2⟩ := he
      obtain ⟨fs, a3, a4⟩ := ha
      rw [a1] at a3
      simp at a3
      subst a3
      rw [a2] at a4
      simp at a4
      exact .inl a4.symm
    · have hp' : i' < i ∨ (i' = i ∧ j' < j) := by omega
      exact .inr ⟨(h.2 x).2 ⟨i', j', hp', ha, hg'⟩, uniq x i' j' hp' ha hg'⟩
theorem mrg_of_to {rs : List (List Ent)} {inr : ByteArray → Bool} {i j : Nat} {L : List Ent} (h : MrgTo rs inr i j L) (hi : rs.length ≤ i) : Mrg rs inr L := by
  refine ⟨h.1, fun x => (h.2 x).trans ⟨?_, ?_⟩⟩
  · rintro ⟨i', j', hp, ha, hg⟩
    exact ⟨i', j', ha, hg⟩
  · rintro ⟨i', j', ⟨es, h1, h2⟩, hg⟩
    have := (List.getElem?_eq_some_iff.1 h1).1
    exact ⟨i', j', by omega, ⟨es, h1, h2⟩, hg⟩
theorem hidTo_zero (rs : List (List Ent)) (x : Ent) : ¬ HidTo rs 0 x := fun ⟨m, _, _, h, _⟩ => by omega
theorem hidTo_succ {rs : List (List Ent)} {k : Nat} {x : Ent} {ds : List Ent} (hd : rs[k]? = some ds) : HidTo rs (k + 1) x ↔ HidTo rs k x ∨ ∃ d ∈ ds, kills d x = true := by
  constructor
  · rintro ⟨m, es, d, h1, h2, h3, h4⟩
    by_cases hm : m = k
    · subst hm
      rw [hd] at h2
      simp at h2
      subst h2
      exact .inr ⟨d, h3, h4⟩
    · exact .inl ⟨m, es, d, by omega, h2, h3, h4⟩
  · rintro (⟨m, es, d, h1, h2, h3, h4⟩ | ⟨d, h3, h4⟩)
    · exact ⟨m, es, d, by omega, h2, h3, h4⟩
    · exact ⟨k, ds, d, by omega, hd, h3, h4⟩
theorem mrgTo_len {rs : List (List Ent)} {inr : ByteArray → Bool} {i j : Nat} {L : List Ent} (h : MrgTo rs inr i j L) : ∀ x ∈ L, x ∈ rs.flatten := by
  intro x hx
  obtain ⟨i', j', _, ⟨es, h1, h2⟩, _⟩ := (h.2 x).1 hx
  exact List.mem_flatten.2 ⟨es, List.mem_of_getElem? h1, List.mem_of_getElem? h2⟩
theorem mrg_len {rs : List (List Ent)} {inr : ByteArray → Bool} {L : List Ent} (h : Mrg rs inr L) : ∀ x ∈ L, x ∈ rs.flatten := by
  intro x hx
  obtain ⟨i', j', ⟨es, h1, h2⟩, _⟩ := (h.2 x).1 hx
  exact List.mem_flatten.2 ⟨es, List.mem_of_getElem? h1, List.mem_of_getElem? h2⟩
end Go.Proofs.YtlgeffinhbodeaeGreatDoor

/-
  Runs that are valid: the loop of spec.ValidRun.
-/
namespace Go.Proofs.YtlgeffinhbodeaeGreatDoor
open Go.ChangeShapes Go.WideShapes Go.ChangeAt Go.RowKit Go.Deep
set_option linter.unusedVariables false

theorem okPair_f1 {p e : Ent} (h : (keyCmp p e != -1) = true) : okPair p e = false := by
  unfold okPair; simp at h; simp [h]
theorem okPair_t1 {p e : Ent} (h : (keyCmp p e != -1) = false) (h2 : (p.kind == 2) = false) : okPair p e = true := by
  unfold okPair; simp at h; simp [h, h2]
theorem okPair_t2 {p e : Ent} (h : (keyCmp p e != -1) = false) (h2 : (e.kind == 2) = false) : okPair p e = true := by
  unfold okPair; simp at h; simp [h, h2]
theorem okPair_s {p e : Ent} (h : (keyCmp p e != -1) = false) (h2 : (p.kind == 2) = true) (h3 : (e.kind == 2) = true) : okPair p e = !sameCol p e := by
  unfold okPair; simp at h; simp [h, h2, h3]

/-- How the test of spec.ValidRun on two neighbours comes out. -/
theorem pair_ways (p e : Ent) :
    ((keyCmp p e != -1) = true ∧ okPair p e = false) ∨ ((keyCmp p e != -1) = false ∧ (p.kind == 2) = false ∧ okPair p e = true) ∨
    ((keyCmp p e != -1) = false ∧ (p.kind == 2) = true ∧ (e.kind == 2) = false ∧ okPair p e = true) ∨
    ((keyCmp p e != -1) = false ∧ (p.kind == 2) = true ∧ (e.kind == 2) = true ∧ sameCol p e = true ∧ okPair p e = false) ∨
    ((keyCmp p e != -1) = false ∧ (p.kind == 2) = true ∧ (e.kind == 2) = true ∧ sameCol p e = false ∧ okPair p e = true) := by
  cases h1 : (keyCmp p e != -1)
  · cases h2 : (p.kind == 2)
    · exact .inr (.inl ⟨rfl, rfl, okPair_t1 h1 h2⟩)
    · cases h3 : (e.kind == 2)
      · exact .inr (.inr (.inl ⟨rfl, rfl, rfl, okPair_t2 h1 h3⟩))
      · cases h4 : sameCol p e
        · exact .inr (.inr (.inr (.inr ⟨rfl, rfl, rfl, rfl, by rw [okPair_s h1 h2 h3, h4]; rfl⟩)))
        · exact .inr (.inr (.inr (.inl ⟨rfl, rfl, rfl, rfl, by rw [okPair_s h1 h2 h3, h4]; rfl⟩)))
  · exact .inl ⟨rfl, okPair_f1 h1⟩

set_option maxHeartbeats 2000000 in
theorem specValidRun_core (b off cap : Nat) (es : List Ent) (w : World) (hE : EntsAt w b off es) (hok : ∀ e ∈ es, e.ok) (hB : b < w.heap.size) (hlen : es.length ≤ cap) (hcap : cap ≤ maxLen) :
    Calls Tryz.prog 49 #[.agg #[.slice (some ⟨b, off, none⟩) es.length cap]] w fun e w' =>
      ∃ r : Bool, e = .returned (.bool r) ∧ (r = true ↔ GoodR es) ∧ Below w.heap.size w w' := by
  obtain ⟨W0, hW0⟩ : ∃ W0 : World, W0 = w.alloc (Obj.cells #[.slice (some ⟨b, off, none⟩) es.length cap] 37) := ⟨_, rfl⟩
  have hb0 : Below w.heap.size w W0 := by rw [hW0]; exact (Below.refl _ _).alloc (Nat.le_refl _) _
  have hz0 : w.heap.size < W0.heap.size := by rw [hW0]; simp
  have ca : W0.cell? ⟨w.heap.size, 0, none⟩ = some (.slice (some ⟨b, off, none⟩) es.length cap) := by rw [hW0]; simp
  have HE : Hid (EntsAt W0 b off es) := hE.below hb0 hB
  have HO : Hid (∀ e ∈ es, e.ok) := hok
  clear hE hok
  unfold maxLen at hcap
  by_cases hbig : 10000 < es.length
  · have H : Hid (¬ GoodR es) := fun h => by have := h.1.1; omega
    go_enter Tryz.func49, Tryz.ntmps49
    go_wp2
    go_ret
    exact ⟨_, rfl, iffF H.out, (Below.refl _ _).alloc (Nat.le_refl _) _⟩
  go_enter Tryz.func49, Tryz.ntmps49
  go_wp2_with fail
  rw [← hW0]
  clear hW0
  go_loopw [3] (fun i wr => ∃ (k : Nat), k ≤ es.length ∧ i = .int .i64 k ∧ (∀ x ∈ es.take k, x.vld = true) ∧ PairsTo es k ∧ Below W0.heap.size W0 wr) (fun i _ => es.length - (intOf i).toNat)
  case atStart => exact ⟨0, Nat.zero_le _, rfl, by simp, fun i p e hi => by omega, Below.refl _ _⟩
  case round =>
    obtain ⟨k, hk, rfl, hv, hP, hb⟩ := hrel
    have HV : Hid ((∀ x ∈ es.take k, x.vld = true) ∧ PairsTo es k) := ⟨hv, hP⟩
    clear hv hP
    have hs2 := hb.size
    have car : wr.cell? ⟨w.heap.size, 0, none⟩ = some (.slice (some ⟨b, off, none⟩) es.length cap) := by rw [hb.cell (p := ⟨w.heap.size, 0, none⟩) (by show w.heap.size < _; omega)]; exact ca
    by_cases hlt : k < es.length
    · obtain ⟨e, he⟩ : ∃ e, es[k]? = some e := ⟨_, List.getElem?_eq_getElem hlt⟩
      have HEr := HE.out.below hb (by omega)
      obtain ⟨c0, c1, c2, c3, c4, c5⟩ := HEr k e he
      have HK : Hid (e.ok ∧ es[k]? = some e ∧ EntsAt wr b off es) := ⟨HO.out e (List.mem_of_getElem? he), he, HEr⟩
      clear he HEr
      go_wp2_with fail
      refine (specValid_core e.row e.fam e.qual e.val e.ts e.kind _ HK.out.1.row HK.out.1.fam HK.out.1.qual HK.out.1.val).mono ?_
      rintro e' w1 ⟨rfl, hb1⟩
      obtain ⟨hc1, hf1⟩ := bcell hb1
      have hz1 : wr.heap.size < w1.heap.size := by have := hb1.size; simp at this; omega
      have hb2 := (hb.alloc hb.size (Obj.cells #[.string e.row, .string e.fam, .string e.qual, .int .u64 e.ts, .int .i64 e.kind, .string e.val] 45)).trans (hb1.mono (by simp; omega))
      clear c0 c1 c2 c3 c4 c5
      cases hv : vE e.row e.fam e.qual e.kind e.val
      · have H : Hid (¬ GoodR es) := fun h => by
          have := h.1.2 e (List.mem_of_getElem? HK.out.2.1)
          unfold Ent.vld at this
          rw [hv] at this
          cases this
        go_wp2_with fail
        go_ret
        exact ⟨_, rfl, iffF H.out, hb0.trans (hb2.mono (by omega))⟩
      · have H : Hid (∀ x ∈ es.take (k + 1), x.vld = true) := vld_of_take HV.out.1 HK.out.2.1 hv
        by_cases hk0 : k = 0
        · subst hk0
          go_wp2_with fail
          go_roundw
          case rel => exact ⟨0 + 1, by omega, by go_num, H.out, fun i p e hi => by omega, hb2⟩
          case measure => simp [intOf]; omega
        · obtain ⟨m, rfl⟩ : ∃ m, k = m + 1 := ⟨k - 1, by omega⟩
          obtain ⟨p, hp⟩ : ∃ e, es[m]? = some e := ⟨_, List.getElem?_eq_getElem (by omega)⟩
          have hbw : Below wr.heap.size wr w1 := ((Below.refl _ _).alloc (Nat.le_refl _) (Obj.cells #[.string e.row, .string e.fam, .string e.qual, .int .u64 e.ts, .int .i64 e.kind, .string e.val] 45)).trans (hb1.mono (by simp))
          have car1 : w1.cell? ⟨w.heap.size, 0, none⟩ = some (.slice (some ⟨b, off, none⟩) es.length cap) := by rw [hbw.cell (p := ⟨w.heap.size, 0, none⟩) (by show w.heap.size < _; omega)]; exact car
          obtain ⟨d0, d1, d2, d3, d4, d5⟩ := HK.out.2.2.below hbw (by omega) m p hp
          have HKp : Hid (es[m]? = some p) := hp
          clear hp
          have hw : IntKind.i64.wrap (m : Int) = (m : Int) := Go.IntWalk.i64_in _ (by omega)
          go_wp2_with fail
          refine (specCompareKeys_any p e _).mono ?_
          rintro e' w2 ⟨rfl, hb3⟩
          obtain ⟨hc3, hf3⟩ := bcell hb3
          have hz3 : w1.heap.size < w2.heap.size := by have := hb3.size; simp at this; omega
          have hb4 := (hb2.alloc hb2.size (Obj.cells #[.string p.row, .string p.fam, .string p.qual, .int .u64 p.ts, .int .i64 p.kind, .string p.val] 45)).trans (hb3.mono (by have := hb2.size; simp; omega))
          clear d0 d1 d2 d3 d4 d5
          rcases pair_ways p e with ⟨g1, ho⟩ | ⟨g1, g2, ho⟩ | ⟨g1, g2, g3, ho⟩ | ⟨g1, g2, g3, g4, ho⟩ | ⟨g1, g2, g3, g4, ho⟩
          · have H2 : Hid (¬ GoodR es) := fun h => by
              have := h.2 m p e HKp.out HK.out.2.1
              rw [ho] at this; cases this
            go_wp2_with fail
            go_ret
            exact ⟨_, rfl, iffF H2.out, hb0.trans (hb4.mono (by omega))⟩
          · have H2 : Hid (PairsTo es (m + 1 + 1)) := pairsTo_succ HV.out.2 HKp.out HK.out.2.1 ho
            go_wp2_with fail
            go_roundw
            case rel => exact ⟨m + 1 + 1, by omega, by go_num, H.out, H2.out, hb4⟩
            case measure => simp [intOf]; omega
          · have H2 : Hid (PairsTo es (m + 1 + 1)) := pairsTo_succ HV.out.2 HKp.out HK.out.2.1 ho
            go_wp2_with fail
            go_roundw
            case rel => exact ⟨m + 1 + 1, by omega, by go_num, H.out, H2.out, hb4⟩
            case measure => simp [intOf]; omega
          · have H2 : Hid (¬ GoodR es) := fun h => by
              have := h.2 m p e HKp.out HK.out.2.1
              rw [ho] at this; cases this
            go_wp2_with fail
            refine (sameColumn_any p e _).mono ?_
            rintro e' w3 ⟨rfl, hb5⟩
            have hb6 := hb4.trans (hb5.mono hb4.size)
            go_wp2_with fail
            go_ret
            exact ⟨_, rfl, iffF H2.out, hb0.trans (hb6.mono (by omega))⟩
          · have H2 : Hid (PairsTo es (m + 1 + 1)) := pairsTo_succ HV.out.2 HKp.out HK.out.2.1 ho
            go_wp2_with fail
            refine (sameColumn_any p e _).mono ?_
            rintro e' w3 ⟨rfl, hb5⟩
            have hb6 := hb4.trans (hb5.mono hb4.size)
            go_wp2_with fail
            go_roundw
            case rel => exact ⟨m + 1 + 1, by omega, by go_num, H.out, H2.out, hb6⟩
            case measure => simp [intOf]; omega
    · go_wp2_with fail
      go_ret
      refine ⟨_, rfl, iffT ⟨⟨by omega, fun e he => ?_⟩, pairs_of_to HV.out.2 (by omega)⟩, hb0.trans (hb.mono (by omega))⟩
      have := HV.out.1
      rw [List.take_of_length_le (by omega)] at this
      exact this e he
end Go.Proofs.YtlgeffinhbodeaeGreatDoor

/-
  A region that draws its order, whose operations read and whose callees leave alone what lay there: one walk.
-/
namespace Go.Proofs.YtlgeffinhbodeaeGreatDoor
open Go.ChangeShapes Go.WideShapes Go.ChangeAt Go.RowKit Go.Deep
set_option linter.unusedVariables false

/-- A world that has grown out of 'w'. -/
structure Out (w : World) where
  u : World
  out : Below w.heap.size w u

theorem wp_region_out {id : Nat} {Q : Exit → Act → World → Prop} {a : Act} {w : World} {l : List Oper} (hm : Tryz.prog.follows .mixedOrders = true) (hB : Region.lexB .any l.toArray = true)
    (h : wpQuiet Tryz.prog l.toArray (fun w' => ∃ n : Out w, w' = n.u) (fun a' => ∀ w', (∃ n : Out w, w' = n.u) → Q .normal a' w') l a) : (Code.region id l.toArray true).wp Tryz.prog Q a w :=
  wp_region_quiet (C := fun w' => ∃ n : Out w, w' = n.u) hm hB ⟨⟨_, (Below.refl _ _).drew⟩, rfl⟩ (by simpa using h)
theorem Calls.out_of {f : FuncId} {args : Array Value} {w : World} {n : Out w} {v : Value}
    (h : Calls Tryz.prog f args n.u fun e w' => e = .returned v ∧ Below n.u.heap.size n.u w') : Calls Tryz.prog f args n.u fun e w'' => e = .returned v ∧ ∃ m : Out w, w'' = m.u :=
  h.mono fun _ w' ⟨he, hb⟩ => ⟨he, ⟨w', n.out.trans (hb.mono n.out.size)⟩, rfl⟩
theorem ents_out {w : World} {b off j : Nat} {L : List Ent} {x : Ent} (h : EntsAt w b off L) (hb : b < w.heap.size) (hx : L[j]? = some x) :
    (∀ n : Out w, n.u.cell? ⟨b, off + j * 6, none⟩ = some (.string x.row)) ∧ (∀ n : Out w, n.u.cell? ⟨b, off + j * 6 + 1, none⟩ = some (.string x.fam)) ∧ (∀ n : Out w, n.u.cell? ⟨b, off + j * 6 + 2, none⟩ = some (.string x.qual)) ∧
    (∀ n : Out w, n.u.cell? ⟨b, off + j * 6 + 3, none⟩ = some (.int .u64 x.ts)) ∧ (∀ n : Out w, n.u.cell? ⟨b, off + j * 6 + 4, none⟩ = some (.int .i64 x.kind)) ∧ (∀ n : Out w, n.u.cell? ⟨b, off + j * 6 + 5, none⟩ = some (.string x.val)) :=
  ⟨fun n => (h.below n.out hb j x hx).1, fun n => (h.below n.out hb j x hx).2.1, fun n => (h.below n.out hb j x hx).2.2.1, fun n => (h.below n.out hb j x hx).2.2.2.1, fun n => (h.below n.out hb j x hx).2.2.2.2.1, fun n => (h.below n.out hb j x hx).2.2.2.2.2⟩
end Go.Proofs.YtlgeffinhbodeaeGreatDoor

/-
  Runs in memory, each a slice that is not nil; spec.l3GoodRuns, impl.validStack, spec.l3Says.
-/
namespace Go.Proofs.YtlgeffinhbodeaeGreatDoor
open Go.ChangeShapes Go.WideShapes Go.ChangeAt Go.RowKit Go.Deep
set_option linter.unusedVariables false
set_option linter.unusedSimpArgs false

/-- A run: where its entries lie, and what they are. -/
structure Rm where
  b : Nat
  off : Nat
  cap : Nat
  es : List Ent
abbrev Rm.u (r : Rm) : Value := .slice (some ⟨r.b, r.off, none⟩) r.es.length r.cap
structure Rm.at (w : World) (r : Rm) : Prop where
  ents : EntsAt w r.b r.off r.es
  lt : r.b < w.heap.size
  len : r.es.length ≤ r.cap
  cap : r.cap ≤ maxLen
theorem Rm.at.below {w w' : World} {r : Rm} (h : r.at w) (hb : Below w.heap.size w w') : r.at w' := ⟨h.ents.below hb h.lt, by have := hb.size; have := h.lt; omega, h.len, h.cap⟩
def RmsAt (w : World) (b off : Nat) (l : List Rm) : Prop := ∀ i r, l[i]? = some r → w.cell? ⟨b, off + i, none⟩ = some r.u ∧ r.at w
theorem RmsAt.below {w w' : World} {b off : Nat} {l : List Rm} (h : RmsAt w b off l) (hb : Below w.heap.size w w') (hlt : b < w.heap.size) : RmsAt w' b off l := by
  intro i r hr
  obtain ⟨h1, h2⟩ := h i r hr
  exact ⟨by rw [hb.cell (p := ⟨b, off + i, none⟩) (by exact hlt)]; exact h1, h2.below hb⟩
def okM (l : List Rm) : Prop := ∀ r ∈ l, ∀ e ∈ r.es, e.ok
abbrev esM (l : List Rm) : List (List Ent) := l.map Rm.es

theorem goodRs_of {l : List Rm} (h : l.length ≤ 50) (k : ∀ r ∈ l, GoodR r.es) : GoodRs (esM l) := by
  refine ⟨by simpa using h, fun es he => ?_⟩
  obtain ⟨r, hr, rfl⟩ := List.mem_map.1 he
  exact k r hr
theorem goodRs_mem {l : List Rm} (h : GoodRs (esM l)) {r : Rm} (hr : r ∈ l) : GoodR r.es := h.2 _ (List.mem_map.2 ⟨r, hr, rfl⟩)
theorem mem_take_succ {α : Type} {l : List α} {k : Nat} {a x : α} (h : l[k]? = some a) (hx : x ∈ l.take (k + 1)) : x ∈ l.take k ∨ x = a := by
  rw [List.take_add_one, h] at hx
  simpa using hx

/-- What the entries of a run say of a key. -/
def saysF (e : Ent) : List Ent → Int → Int × ByteArray
  | [], h => (h, ⟨#[]⟩)
  | d :: r, h => if sameCol d e = true then
      (if (d.kind == 0) = true ∧ (d.ts == e.ts) = true then (1, d.val) else if (d.kind == 1) = true ∧ (d.ts == e.ts) = true then (2, ⟨#[]⟩) else if (d.kind == 2) = true ∧ e.ts ≤ d.ts then saysF e r 2 else saysF e r h)
    else saysF e r h
theorem saysF_kills (e : Ent) : ∀ (es : List Ent) (h : Int), (∀ d ∈ es, d.vld = true) → ((saysF e es h).1 ≠ 0 ↔ h ≠ 0 ∨ ∃ d ∈ es, kills d e = true)
  | [], h, _ => by simp [saysF]
  | d :: r, h, hv => by
    have ih2 := saysF_kills e r 2 (fun x hx => hv x (List.mem_cons_of_mem _ hx))
    have ihh := saysF_kills e r h (fun x hx => hv x (List.mem_cons_of_mem _ hx))
    have hd := hv d (by simp)
    unfold Ent.vld vE at hd
    have hk := of_decide_eq_true hd
    unfold saysF
    have hex : (∃ x ∈ d :: r, kills x e = true) ↔ kills d e = true ∨ ∃ x ∈ r, kills x e = true := by simp
    rw [hex]
    by_cases hc : sameCol d e = true
    · rw [if_pos hc]
      by_cases h0 : (d.kind == 0) = true ∧ (d.ts == e.ts) = true
      · rw [if_pos h0]
        have : kills d e = true := by
          unfold kills
          have : d.kind = 0 := by simpa using h0.1
          simp [hc, this, h0.2]
        simp [this]
      · rw [if_neg h0]
        by_cases h1 : (d.kind == 1) = true ∧ (d.ts == e.ts) = true
        · rw [if_pos h1]
          have : kills d e = true := by
            unfold kills
            have : d.kind = 1 := by simpa using h1.1
            simp [hc, this, h1.2]
          simp [this]
        · rw [if_neg h1]
          by_cases h2 : (d.kind == 2) = true ∧ e.ts ≤ d.ts
          · rw [if_pos h2, ih2]
            have : kills d e = true := by
              unfold kills
              have : d.kind = 2 := by simpa using h2.1
              simp [hc, this, h2.2]
            simp [this]
          · rw [if_neg h2, ihh]
            have : kills d e = false := by
              unfold kills
              simp only [beq_iff_eq] at h0 h1 h2
              rw [hc]
              by_cases hk2 : d.kind = 2
              · simp [hk2]
                have : ¬ e.ts ≤ d.ts := fun q => h2 ⟨hk2, q⟩
                omega
              · simp [hk2]
                intro q
                have : d.kind = 0 ∨ d.kind = 1 := by omega
                rcases this with z | z
                · exact h0 ⟨z, q⟩
                · exact h1 ⟨z, q⟩
            simp [this]
    · rw [if_neg hc, ihh]
      have : kills d e = false := by
        unfold kills
        simp [hc]
      simp [this]
theorem saysF_drop {e d : Ent} {es : List Ent} {k : Nat} {h : Int} (hd : es[k]? = some d) : saysF e (es.drop k) h = saysF e (d :: es.drop (k + 1)) h := by
  congr 1
  obtain ⟨h1, rfl⟩ := List.getElem?_eq_some_iff.1 hd
  exact List.drop_eq_getElem_cons h1
theorem rms_out {w : World} {b off m : Nat} {l : List Rm} {r : Rm} (h : RmsAt w b off l) (hb : b < w.heap.size) (hr : l[m]? = some r) : (∀ n : Out w, n.u.cell? ⟨b, off + m, none⟩ = some (.slice (some ⟨r.b, r.off, none⟩) r.es.length r.cap)) ∧ ∀ n : Out w, r.at n.u :=
  ⟨fun n => (h.below n.out hb m r hr).1, fun n => (h.below n.out hb m r hr).2⟩
end Go.Proofs.YtlgeffinhbodeaeGreatDoor

/-
  spec.l3Says.
-/
namespace Go.Proofs.YtlgeffinhbodeaeGreatDoor
open Go.ChangeShapes Go.WideShapes Go.ChangeAt Go.RowKit Go.Deep
set_option linter.unusedVariables false
set_option linter.unusedSimpArgs false

theorem ent_box (w : World) (e : Ent) : EntsAt (w.alloc (Obj.cells #[.string e.row, .string e.fam, .string e.qual, .int .u64 e.ts, .int .i64 e.kind, .string e.val] 45)) w.heap.size 0 [e] := by
  intro j y hy
  obtain rfl : j = 0 := by
    have := (List.getElem?_eq_some_iff.1 hy).1
    simpa using this
  simp at hy
  subst hy
  simp

theorem saysF_cons (e d : Ent) (r : List Ent) (h : Int) : saysF e (d :: r) h = if sameCol d e = true then
      (if (d.kind == 0) = true ∧ (d.ts == e.ts) = true then (1, d.val) else if (d.kind == 1) = true ∧ (d.ts == e.ts) = true then (2, ⟨#[]⟩) else if (d.kind == 2) = true ∧ e.ts ≤ d.ts then saysF e r 2 else saysF e r h)
    else saysF e r h := rfl

end Go.Proofs.YtlgeffinhbodeaeGreatDoor

