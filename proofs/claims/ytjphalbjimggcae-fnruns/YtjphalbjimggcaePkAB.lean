import Derived.Deep.QuietTactic
import Derived.BigQuiet
import Derived.Deep.AppendLies
import Derived.Test.YtjphalbjimggcaePkAA
/-
  What has turned between two worlds.
-/
namespace Go.Proofs.Ytjphalbjimggcae
open Go.ChangeShapes Go.WideShapes Go.ChangeAt Go.RowKit Go.Deep
set_option linter.unusedVariables false
set_option linter.unusedSimpArgs false

/-- From 'w' to 'w'': only what lies in blocks of 'S' has turned, and new blocks came. -/
structure Chg (S : Nat → Prop) (w w' : World) : Prop where
  os : w'.os = w.os
  tape : w'.tape = w.tape
  output : w'.output = w.output
  size : w.heap.size ≤ w'.heap.size
  block : ∀ k, k < w.heap.size → ¬ S k → w'.heap[k]? = w.heap[k]?
theorem Chg.refl (S : Nat → Prop) (w : World) : Chg S w w := ⟨rfl, rfl, rfl, Nat.le_refl _, fun _ _ _ => rfl⟩
theorem Chg.trans {S : Nat → Prop} {a b c : World} (h : Chg S a b) (k : Chg S b c) : Chg S a c :=
  ⟨k.os.trans h.os, k.tape.trans h.tape, k.output.trans h.output, Nat.le_trans h.size k.size, fun i hi hn => (k.block i (Nat.lt_of_lt_of_le hi h.size) hn).trans (h.block i hi hn)⟩
theorem Chg.mono {S T : Nat → Prop} {w w' : World} (h : Chg S w w') (hs : ∀ k, S k → T k) : Chg T w w' := ⟨h.os, h.tape, h.output, h.size, fun k hk hn => h.block k hk (fun q => hn (hs k q))⟩
theorem Chg.of_below {S : Nat → Prop} {w w' : World} (h : Below w.heap.size w w') : Chg S w w' := ⟨h.os, h.tape, h.output, h.size, fun k hk _ => h.block k hk⟩
theorem Chg.of_grown {S : Nat → Prop} {w w' : World} {row : Option Nat} (h : w.grownBy w' row) (hs : ∀ k, row = some k → S k) : Chg S w w' :=
  ⟨h.os, h.tape, h.output, h.size, fun k hk hn => h.block k hk (fun q => hn (hs k q.symm))⟩
theorem Chg.of_set {S : Nat → Prop} (w : World) (g o : Nat) (u : Value) (hs : S g) : Chg S w (w.setCell ⟨g, o, none⟩ u) := Chg.of_grown (grown_set w g o u) (fun k hk => by cases hk; exact hs)
theorem Chg.below {S : Nat → Prop} {B : Nat} {a w w' : World} (h : Below B a w) (k : Chg S w w') (hB : B ≤ w.heap.size) (hs : ∀ k, S k → B ≤ k) : Below B a w' :=
  h.trans ⟨k.os, k.tape, k.output, k.size, fun i hi => k.block i (by omega) (fun q => by have := hs i q; omega)⟩
theorem Chg.cell {S : Nat → Prop} {w w' : World} (h : Chg S w w') {p : Addr} (hp : p.block < w.heap.size) (hn : ¬ S p.block) : w'.cell? p = w.cell? p := World.cell?_of_block (w := w) (h.block p.block hp hn)
theorem Chg.frozen {S : Nat → Prop} {w w' : World} (h : Chg S w w') {p : Addr} (hp : p.block < w.heap.size) (hn : ¬ S p.block) : w'.frozen? p = w.frozen? p := World.frozen?_of_block (w := w) (h.block p.block hp hn)
theorem EntsAt.chg {S : Nat → Prop} {w w' : World} {b off : Nat} {es : List Ent} (h : EntsAt w b off es) (hb : Chg S w w') (hlt : b < w.heap.size) (hn : ¬ S b) : EntsAt w' b off es := by
  intro i e he
  have := h i e he
  refine ⟨?_, ?_, ?_, ?_, ?_, ?_⟩
  all_goals rw [hb.cell (by exact hlt) (by exact hn)]
  · exact this.1
  · exact this.2.1
  · exact this.2.2.1
  · exact this.2.2.2.1
  · exact this.2.2.2.2.1
  · exact this.2.2.2.2.2
theorem own_apart {w : World} {base e size : Nat} {v : Value} {n : Nat} {xs : List Value} {base' e' size' : Nat} {v' : Value} {n' : Nat} {xs' : List Value} (h : w.ownsRow base e size v n xs) (h' : w.ownsRow base' e' size' v' n' xs') (hne : e ≠ e') : ∀ k, v.ownBlock = some k → v'.ownBlock ≠ some k := by
  intro k hk hk'
  rcases h.2 with ⟨rfl, _⟩ | ⟨g1, cap1, cur, rfl, _, hc, _⟩
  · simp [Value.ownBlock] at hk
  · rcases h'.2 with ⟨rfl, _⟩ | ⟨g2, cap2, cur2, rfl, _, hc2, _⟩
    · simp [Value.ownBlock] at hk'
    · simp [Value.ownBlock] at hk hk'
      subst hk hk'
      rw [hc] at hc2
      simp at hc2
      exact hne hc2.2
theorem own_chg {S : Nat → Prop} {w w' : World} {base e size : Nat} {v : Value} {n : Nat} {xs : List Value} (h : w.ownsRow base e size v n xs) (hb : Chg S w w') (hn : ∀ k, v.ownBlock = some k → ¬ S k) : w'.ownsRow base e size v n xs := by
  refine ⟨h.1, ?_⟩
  rcases h.2 with hz | ⟨g, cap, cur, rfl, h1, hg, rest⟩
  · exact .inl hz
  · refine .inr ⟨g, cap, cur, rfl, h1, ?_, rest⟩
    have hlt : g < w.heap.size := by
      rcases Nat.lt_or_ge g w.heap.size with q | q
      · exact q
      · rw [Array.getElem?_eq_none q] at hg; cases hg
    rw [hb.block g hlt (hn g rfl)]; exact hg

end Go.Proofs.Ytjphalbjimggcae

/-
  Ranges by value: the contracts of szRange, toRange, spec.InRange, impl.InRange.
-/
namespace Go.Proofs.Ytjphalbjimggcae
open Go.ChangeShapes Go.WideShapes Go.ChangeAt Go.RowKit Go.Deep

/-- Whether a row is in a range. -/
def inR (lo : ByteArray) (hh : Bool) (hi row : ByteArray) : Bool := !Op.bytesLess row.toList lo.toList && (!hh || Op.bytesLess row.toList hi.toList)

set_option maxHeartbeats 400000 in
theorem specInRange_core (lo hi row : ByteArray) (hh : Bool) (w : World) :
    Calls Try.prog 34 #[.agg #[.string lo, .bool hh, .string hi], .string row] w fun e w' =>
      e = .returned (.bool (inR lo hh hi row)) ∧ Below w.heap.size w w' := by
  unfold inR
  cases hb : Op.bytesLess row.toList lo.toList <;> cases hh
  all_goals
    go_enter Try.func34, Try.ntmps34
    go_wp2
    go_ret
    exact ⟨by simp, (Below.refl _ _).alloc (Nat.le_refl _) _⟩

end Go.Proofs.Ytjphalbjimggcae

/-
  The draws: what they may hand back.
-/
namespace Go.Proofs.Ytjphalbjimggcae
open Go.ChangeShapes Go.WideShapes Go.ChangeAt Go.RowKit Go.Deep
set_option linter.unusedVariables false
set_option linter.unusedSimpArgs false
set_option maxRecDepth 100000

/-- The letters that are drawn from. -/
def CodeAt (w : World) (base : Nat) (bv : Value) (n : Nat) : Prop :=
  n ≤ 1048576 ∧ ((∃ a cap, bv = .slice a 0 cap ∧ n = 0) ∨ ∃ b off cap, bv = .slice (some ⟨b, off, none⟩) n cap ∧ b < base ∧ ∀ k, k < n → ∃ x : Int, w.cell? ⟨b, off + k, none⟩ = some (.int .u8 x) ∧ 0 ≤ x ∧ x < 256)
/-- The drawing's own variable. -/
def OwnL (w : World) (base cb : Nat) (vs : List Value) : Prop := w.ownsRow base 116 3 (.slice (some ⟨cb, 0, none⟩) 1 1) 1 vs
structure DrawAt (base cb : Nat) (bv : Value) (n : Nat) (w : World) : Prop where
  own : ∃ (i : Nat) (h : Int), i ≤ n ∧ OwnL w base cb [bv, .int .i64 i, .int .i64 h]
  code : CodeAt w base bv n
  base : base ≤ w.heap.size

theorem and255 (x : Int) : 0 ≤ bits .and .i64 x 255 ∧ bits .and .i64 x 255 < 256 := by
  have h : (BitVec.ofInt 64 x &&& BitVec.ofInt 64 255).toNat ≤ 255 := by
    rw [BitVec.toNat_and]
    exact Nat.le_trans Nat.and_le_right (by decide)
  have e : bits .and .i64 x 255 = IntKind.i64.wrap ((BitVec.ofInt 64 x &&& BitVec.ofInt 64 255).toNat : Int) := rfl
  rw [e, IntKind.wrap_i64]
  omega
theorem CodeAt.chg {T : Nat → Prop} {w w' : World} {base : Nat} {bv : Value} {n : Nat} (h : CodeAt w base bv n) (hc : Chg T w w') (hb : base ≤ w.heap.size) (hT : ∀ k, T k → base ≤ k) : CodeAt w' base bv n := by
  refine ⟨h.1, ?_⟩
  rcases h.2 with h | ⟨b, off, cap, hv, hlt, hx⟩
  · exact .inl h
  · refine .inr ⟨b, off, cap, hv, hlt, fun k hk => ?_⟩
    obtain ⟨x, h1, h2⟩ := hx k hk
    exact ⟨x, by rw [hc.cell (p := ⟨b, off + k, none⟩) (by show b < w.heap.size; omega) (fun q => by have q1 : base ≤ b := hT _ q; omega)]; exact h1, h2⟩
theorem DrawAt.chg {T : Nat → Prop} {base cb : Nat} {bv : Value} {n : Nat} {w w' : World} (h : DrawAt base cb bv n w) (hc : Chg T w w') (hn : ¬ T cb) (hT : ∀ k, T k → base ≤ k) : DrawAt base cb bv n w' := by
  obtain ⟨i, hh, h1, h2⟩ := h.own
  exact ⟨⟨i, hh, h1, own_chg h2 hc (fun k q => by simp [Value.ownBlock] at q; subst q; exact hn)⟩, h.code.chg hc h.base hT, by have := hc.size; have := h.base; omega⟩
theorem DrawAt.below {base cb : Nat} {bv : Value} {n : Nat} {w w' : World} (h : DrawAt base cb bv n w) (hb : Below w.heap.size w w') : DrawAt base cb bv n w' :=
  h.chg (T := fun _ => False) (Chg.of_below hb) (fun q => q) (fun k q => q.elim)
theorem DrawAt.lt {base cb : Nat} {bv : Value} {n : Nat} {w : World} (h : DrawAt base cb bv n w) : base ≤ cb ∧ cb < w.heap.size := by
  obtain ⟨i, hh, h1, h2⟩ := h.own
  exact World.ownsRow.lt h2 cb rfl
theorem DrawAt.setH {base cb : Nat} {bv : Value} {n i : Nat} {hh : Int} {w : World} (hi : i ≤ n) (h : OwnL w base cb [bv, .int .i64 i, .int .i64 hh]) (hc : CodeAt w base bv n) (hb : base ≤ w.heap.size) (h' : Int) : DrawAt base cb bv n (w.setCell ⟨cb, 2, none⟩ (.int .i64 h')) := by
  have hl := World.ownsRow.lt h cb rfl
  refine ⟨⟨i, h', hi, (World.ownsRow.stored h 2 _).1⟩, hc.chg (Chg.of_set (S := fun k => k = cb) w cb 2 _ rfl) hb (fun k q => by omega), ?_⟩
  have := (Chg.of_set (S := fun k => k = cb) w cb 2 (.int .i64 h') rfl).size
  omega
theorem DrawAt.setI {base cb : Nat} {bv : Value} {n i : Nat} {hh : Int} {w : World} (hi : i + 1 ≤ n) (h : OwnL w base cb [bv, .int .i64 i, .int .i64 hh]) (hc : CodeAt w base bv n) (hb : base ≤ w.heap.size) : DrawAt base cb bv n (w.setCell ⟨cb, 1, none⟩ (.int .i64 (i + 1 : Nat))) := by
  have hl := World.ownsRow.lt h cb rfl
  refine ⟨⟨i + 1, hh, hi, (World.ownsRow.stored h 1 _).1⟩, hc.chg (Chg.of_set (S := fun k => k = cb) w cb 1 _ rfl) hb (fun k q => by omega), ?_⟩
  have := (Chg.of_set (S := fun k => k = cb) w cb 1 (.int .i64 (i + 1 : Nat)) rfl).size
  omega

set_option maxHeartbeats 1000000 in
theorem byte_core (base cb : Nat) (bv : Value) (n : Nat) (w : World) (h : DrawAt base cb bv n w) :
    Calls Try.prog 64 #[.pointer (some ⟨cb, 0, none⟩)] w fun e w' => ∃ x : Int, e = .returned (.int .i64 x) ∧ 0 ≤ x ∧ x < 256 ∧ DrawAt base cb bv n w' ∧ Chg (fun k => k = cb) w w' := by
  obtain ⟨i, hh, hin, hO⟩ := h.own
  have c0 : w.cell? ⟨cb, 0, none⟩ = some bv := World.ownsRow.cellAt hO 0 (by decide)
  have c1 : w.cell? ⟨cb, 1, none⟩ = some (.int .i64 i) := World.ownsRow.cellAt hO 1 (by decide)
  have c2 : w.cell? ⟨cb, 2, none⟩ = some (.int .i64 hh) := World.ownsRow.cellAt hO 2 (by decide)
  have f1 := World.ownsRow.frozenAt hO 1
  have f2 := World.ownsRow.frozenAt hO 2
  obtain ⟨h1, hh1⟩ : ∃ h1, h1 = wrap64 (wrap64 (hh * 6364136223846793005) + 1442695040888963407) := ⟨_, rfl⟩
  obtain ⟨W1, hW1⟩ : ∃ W1 : World, W1 = w.setCell ⟨cb, 2, none⟩ (.int .i64 h1) := ⟨_, rfl⟩
  have hC1 : Chg (fun k => k = cb) w W1 := by rw [hW1]; exact Chg.of_set _ _ _ _ rfl
  have HO1 : Hid (OwnL W1 base cb [bv, .int .i64 i, .int .i64 h1]) := by show OwnL W1 _ _ _; rw [hW1]; exact (World.ownsRow.stored hO 2 _).1
  have hD1 : DrawAt base cb bv n W1 := by rw [hW1]; exact DrawAt.setH hin hO h.code h.base h1
  have HD : Hid (DrawAt base cb bv n W1 ∧ Chg (fun k => k = cb) w W1) := ⟨hD1, hC1⟩
  clear hD1 hC1
  have hcode := h.code
  have hn := hcode.1
  clear h hO
  go_enter Try.func64, Try.ntmps64
  go_upto_region 2 with fail
  rw [← hh1, ← hW1]
  have d0 : W1.cell? ⟨cb, 0, none⟩ = some bv := World.ownsRow.cellAt HO1.out 0 (by decide)
  have d1 : W1.cell? ⟨cb, 1, none⟩ = some (.int .i64 i) := World.ownsRow.cellAt HO1.out 1 (by decide)
  have d2 : W1.cell? ⟨cb, 2, none⟩ = some (.int .i64 h1) := World.ownsRow.cellAt HO1.out 2 (by decide)
  have e1 := World.ownsRow.frozenAt HO1.out 1
  clear hh1 hW1 c0 c1 c2 f1 f2
  go_quiet (fail)
  obtain ⟨x0, hx0⟩ : ∃ x0, x0 = bits BinOp.and IntKind.i64 (bits BinOp.xor IntKind.i64 (h1 / 8589934592) (h1 / 35184372088832)) 255 := ⟨_, rfl⟩
  have hx1 : 0 ≤ x0 ∧ x0 < 256 := by rw [hx0]; exact and255 _
  rw [← hx0]
  clear hx0
  rcases HD.out.1.code.2 with ⟨a, cap, rfl, rfl⟩ | ⟨b, off, cap, rfl, hlt, hx⟩
  · have z : ¬ (i : Int) < 0 := by omega
    go_upto_region 3 with fail
    go_quiet (fail)
    go_wp2_with fail
    go_ret
    exact ⟨x0, rfl, hx1.1, hx1.2, HD.out.1.below (below_drewN (Below.refl _ _) _), HD.out.2.trans (Chg.of_below (below_drewN (Below.refl _ _) _))⟩
  · by_cases hi : i < n
    · obtain ⟨x, hc, hxa, hxb⟩ := hx i hi
      have z : (i : Int) < (n : Int) := by omega
      go_upto_region 3 with fail
      go_quiet (fail)
      go_upto_region 4 with fail
      go_quiet (fail)
      obtain ⟨x2, hx2⟩ : ∃ x2, x2 = bits BinOp.and IntKind.i64 (x0 + x) 255 := ⟨_, rfl⟩
      have hx3 : 0 ≤ x2 ∧ x2 < 256 := by rw [hx2]; exact and255 _
      rw [← hx2]
      clear hx2
      go_wp2_with fail
      go_ret
      refine ⟨x2, rfl, hx3.1, hx3.2, ?_, ?_⟩
      · have hb := fun q => below_drewN (Below.refl W1.heap.size W1) q
        exact DrawAt.setI (by omega) (own_chg (S := fun _ => False) HO1.out (Chg.of_below (hb _)) (fun k _ q => q)) (HD.out.1.below (hb _)).code (HD.out.1.below (hb _)).base
      · exact (HD.out.2.trans (Chg.of_below (below_drewN (Below.refl _ _) _))).trans (Chg.of_set (S := fun k => k = cb) _ _ _ _ rfl)
    · have z : ¬ (i : Int) < (n : Int) := by omega
      go_upto_region 3 with fail
      go_quiet (fail)
      go_wp2_with fail
      go_ret
      exact ⟨x0, rfl, hx1.1, hx1.2, HD.out.1.below (below_drewN (Below.refl _ _) _), HD.out.2.trans (Chg.of_below (below_drewN (Below.refl _ _) _))⟩

/-- What a draw leaves. -/
abbrev Drew (base cb : Nat) (bv : Value) (n : Nat) (w w' : World) : Prop := DrawAt base cb bv n w' ∧ Chg (fun k => k = cb) w w'

set_option maxHeartbeats 1000000 in
theorem below_core (base cb : Nat) (bv : Value) (n : Nat) (m : Int) (w : World) (h : DrawAt base cb bv n w) (hm : 1 ≤ m) (hm2 : m ≤ 1048576) :
    Calls Try.prog 29 #[.pointer (some ⟨cb, 0, none⟩), .int .i64 m] w fun e w' => ∃ x : Int, e = .returned (.int .i64 x) ∧ 0 ≤ x ∧ x < m ∧ Drew base cb bv n w w' := by
  have HD : Hid (DrawAt base cb bv n w) := h
  clear h
  by_cases hs : m ≤ 256
  · go_enter Try.func29, Try.ntmps29
    go_wp2_with fail
    refine (byte_core base cb bv n _ HD.out).mono ?_
    rintro e w1 ⟨x, rfl, hx0, hx1, hD1, hC1⟩
    have H1 : Hid (DrawAt base cb bv n w1 ∧ Chg (fun k => k = cb) w w1) := ⟨hD1, hC1⟩
    clear hD1 hC1
    go_wp2
    go_ret
    exact ⟨x % m, rfl, Int.emod_nonneg _ (by omega), Int.emod_lt_of_pos _ (by omega), H1.out.1, H1.out.2⟩
  · go_enter Try.func29, Try.ntmps29
    go_wp2_with fail
    refine (byte_core base cb bv n _ HD.out).mono ?_
    rintro e w1 ⟨x, rfl, hx0, hx1, hD1, hC1⟩
    have H1 : Hid (DrawAt base cb bv n w1 ∧ Chg (fun k => k = cb) w w1) := ⟨hD1, hC1⟩
    clear hD1 hC1
    go_wp2_with fail
    refine (byte_core base cb bv n _ H1.out.1).mono ?_
    rintro e w2 ⟨y, rfl, hy0, hy1, hD2, hC2⟩
    have H2 : Hid (DrawAt base cb bv n w2 ∧ Chg (fun k => k = cb) w w2) := ⟨hD2, H1.out.2.trans hC2⟩
    clear hD2 hC2
    go_wp2_with fail
    refine (byte_core base cb bv n _ H2.out.1).mono ?_
    rintro e w3 ⟨z, rfl, hz0, hz1, hD3, hC3⟩
    have H3 : Hid (DrawAt base cb bv n w3 ∧ Chg (fun k => k = cb) w w3) := ⟨hD3, H2.out.2.trans hC3⟩
    clear hD3 hC3
    go_wp2
    go_ret
    exact ⟨(x * 65536 + y * 256 + z) % m, rfl, Int.emod_nonneg _ (by omega), Int.emod_lt_of_pos _ (by omega), H3.out.1, H3.out.2⟩

set_option maxHeartbeats 400000 in
theorem once_core (base cb : Nat) (bv : Value) (n : Nat) (m : Int) (w : World) (h : DrawAt base cb bv n w) (hm : 1 ≤ m) (hm2 : m ≤ 1048576) :
    Calls Try.prog 27 #[.pointer (some ⟨cb, 0, none⟩), .int .i64 m] w fun e w' => ∃ v : Value, e = .returned v ∧ (v = .bool true ∨ v = .bool false) ∧ Drew base cb bv n w w' := by
  have HD : Hid (DrawAt base cb bv n w) := h
  clear h
  go_enter Try.func27, Try.ntmps27
  go_wp2_with fail
  refine (below_core base cb bv n m _ HD.out hm hm2).mono ?_
  rintro e w1 ⟨x, rfl, hx0, hx1, hD1, hC1⟩
  have H1 : Hid (DrawAt base cb bv n w1 ∧ Chg (fun k => k = cb) w w1) := ⟨hD1, hC1⟩
  clear hD1 hC1
  cases hx : (x == 0)
  · go_wp2_with fail
    go_ret
    exact ⟨_, rfl, .inr rfl, H1.out.1, H1.out.2⟩
  · go_wp2_with fail
    go_ret
    exact ⟨_, rfl, .inl rfl, H1.out.1, H1.out.2⟩

theorem Chg.grown_new {T : Nat → Prop} {w wr w' : World} {row : Option Nat} (h : Chg T w wr) (hg : wr.grownBy w' row) (hr : ∀ k, row = some k → w.heap.size ≤ k) : Chg T w w' :=
  ⟨hg.os.trans h.os, hg.tape.trans h.tape, hg.output.trans h.output, Nat.le_trans h.size hg.size, fun k hk hn => (hg.block k (Nat.lt_of_lt_of_le hk h.size) (fun q => by have := hr k q.symm; omega)).trans (h.block k hk hn)⟩
theorem Chg.alloc_new {T : Nat → Prop} {w wr : World} (h : Chg T w wr) (o : Obj) : Chg T w (wr.alloc o) := h.trans (Chg.of_below ((Below.refl _ _).alloc (Nat.le_refl _) _))

/-- A row of bytes of the call's own. -/
abbrev u8v (z : UInt8) : Value := .int .u8 (z.toNat : Int)
def OwnB (w : World) (base g cap : Nat) (zs : List UInt8) : Prop := w.ownsRow base 5 1 (.slice (some ⟨g, 0, none⟩) zs.length cap) zs.length (zs.map u8v)
theorem Try.infoU8 : (Try.prog.info? 5).map (fun i => (i.zero, i.size, i.bytes)) = some (some (.int .u8 0), 1, 1) := by kernel_rfl
theorem wpList_append_byte {ops : Array Oper} {rest : List Oper} {o : Oper} {a : Act} {Q : Exit → Act → World → Prop} (w : World) (hgd : o.guard = none) (s x : Operand)
    (ho : o.op = .call { callee := .builtin .append, args := #[s, x], argTypes := #[22, 22] })
    (base g cp n blk : Nat) (zs : List UInt8) (z : UInt8) (hs : a.eval s = .slice (some ⟨g, 0, none⟩) n cp) (cx : Nat) (hx : a.eval x = .slice (some ⟨blk, 0, none⟩) 1 cx) (hn : n = zs.length) (hO : OwnB w base g cp zs)
    (hc : w.cell? ⟨blk, 0, none⟩ = some (.int .u8 (z.toNat : Int))) (hlen : zs.length ≤ 2 ^ 30) (hbase : base ≤ w.heap.size)
    (h : ∀ g' cp' w', OwnB w' base g' cp' (zs ++ [z]) → w.grownBy w' (some g) → wpList Try.prog ops Q rest (a.put o.dst (.slice (some ⟨g', 0, none⟩) (n + 1) cp')) w') : wpList Try.prog ops Q (o :: rest) a w := by
  obtain ⟨i, hi, hz0, hz1, hz2⟩ := info_parts Try.infoU8
  subst hn
  refine wpList_append_lies w hgd s x 22 ho base 5 i _ 1 1 Try.underlying22 hi hz0 hz1 hz2 rfl (by decide) (.slice (some ⟨g, 0, none⟩) zs.length cp) zs.length (zs.map u8v) hs hO ⟨blk, 0, none⟩ 1 cx [u8v z] hx rfl ?_ ?_ (by decide) ?_ ?_ hbase w.heap.size rfl ?_
  · intro j u hu
    have hj : j < 1 := by simpa using (List.getElem?_eq_some_iff.1 hu).1
    obtain rfl : j = 0 := by omega
    simp at hu
    rw [← hu]
    simpa [Addr.add] using hc
  · intro u hu
    simp at hu
    subst hu
    rfl
  · unfold maxLen; omega
  · omega
  · intro g' cp' w' hO' hgr hat hlt
    refine h g' cp' w' ?_ hgr
    unfold OwnB
    rw [List.length_append, List.map_append]
    exact hO'
theorem ownB_new (w : World) (base : Nat) (hb : base ≤ w.heap.size) : OwnB (w.alloc (Obj.cells #[] 5)) base w.heap.size 0 [] := World.ownsRow_made w #[] 0 hb (Nat.zero_le _) (by simp)
theorem conv_own {w : World} {base g cap : Nat} {zs : List UInt8} (h : OwnB w base g cap zs) : (convert 22 9 (.slice (some ⟨g, 0, none⟩) zs.length cap)).run Try.prog w = .ok (.string ⟨zs.toArray⟩) w := by
  refine run_convert_bytes_back (P := Try.prog) w 22 9 5 ⟨g, 0, none⟩ cap zs Try.underlying22 Try.underlying5 Try.underlying9 ?_
  intro i hi
  have := World.ownsRow.cellAt h i (by omega)
  rw [Addr.add_mid, Nat.zero_add, this, List.getElem?_map, List.getElem?_eq_getElem hi]
  rfl

set_option maxHeartbeats 2000000 in
theorem letters_core (base cb : Nat) (bv : Value) (n : Nat) (a b : Int) (w : World) (h : DrawAt base cb bv n w) (ha : 0 ≤ a) (hab : a ≤ b) (hb : b ≤ 100) :
    Calls Try.prog 65 #[.pointer (some ⟨cb, 0, none⟩), .int .i64 a, .int .i64 b] w fun e w' => ∃ s : ByteArray, e = .returned (.string s) ∧ s.size ≤ 100 ∧ Drew base cb bv n w w' := by
  have HD : Hid (DrawAt base cb bv n w) := h
  have hbase := h.base
  have hcb := h.lt
  clear h
  go_enter Try.func65, Try.ntmps65
  go_wp2_with fail
  refine (below_core base cb bv n (b - a + 1) _ HD.out (by omega) (by omega)).mono ?_
  rintro e w1 ⟨x, rfl, hx0, hx1, hD1, hC1⟩
  have s1 := hC1.size
  have H1 : Hid (DrawAt base cb bv n w1 ∧ Chg (fun k => k = cb) w w1) := ⟨hD1, hC1⟩
  clear hD1 hC1
  obtain ⟨W2, hW2⟩ : ∃ W2 : World, W2 = w1.alloc (Obj.cells #[] 5) := ⟨_, rfl⟩
  have hb2 : Below w1.heap.size w1 W2 := by rw [hW2]; exact (Below.refl _ _).alloc (Nat.le_refl _) _
  have HB2 : Hid (OwnB W2 w.heap.size w1.heap.size 0 [] ∧ DrawAt base cb bv n W2 ∧ Chg (fun k => k = cb) w W2) := by
    refine ⟨?_, H1.out.1.below hb2, H1.out.2.trans (Chg.of_below hb2)⟩
    rw [hW2]; exact ownB_new w1 w.heap.size s1
  obtain ⟨m, hm⟩ : ∃ m : Nat, a + x = (m : Int) := ⟨(a + x).toNat, by omega⟩
  have hm2 : m ≤ 100 := by omega
  go_wp2_with fail
  rw [← hW2]
  clear hW2 hm hb2
  go_loopw [8, 9] (fun o i wr => ∃ (k g cp : Nat) (zs : List UInt8), k ≤ m ∧ i = .int .i64 k ∧ o = .slice (some ⟨g, 0, none⟩) k cp ∧ zs.length = k ∧ OwnB wr w.heap.size g cp zs ∧ DrawAt base cb bv n wr ∧ Chg (fun k => k = cb) w wr) (fun _ i _ => m - (intOf i).toNat)
  case atStart => exact ⟨0, _, 0, [], Nat.zero_le _, rfl, rfl, rfl, HB2.out.1, HB2.out.2.1, HB2.out.2.2⟩
  case round =>
    obtain ⟨k, g, cp, zs, hk, rfl, rfl, hzl, hO, hD, hC⟩ := hrel
    have HI : Hid (zs.length = k ∧ OwnB wr w.heap.size g cp zs ∧ DrawAt base cb bv n wr ∧ Chg (fun k => k = cb) w wr) := ⟨hzl, hO, hD, hC⟩
    have hgl := World.ownsRow.lt hO g rfl
    clear hzl hO hD hC
    by_cases hlt : k < m
    · have zk : (k : Int) < (m : Int) := by omega
      go_wp2_with fail
      refine (below_core base cb bv n 3 _ HI.out.2.2.1 (by omega) (by omega)).mono ?_
      rintro e w3 ⟨y, rfl, hy0, hy1, hD3, hC3⟩
      have s3 := hC3.size
      have HO3 : Hid (OwnB w3 w.heap.size g cp zs ∧ DrawAt base cb bv n w3 ∧ Chg (fun k => k = cb) w w3) := ⟨own_chg HI.out.2.1 hC3 (fun k q => by simp [Value.ownBlock] at q; subst q; omega), hD3, HI.out.2.2.2.trans hC3⟩
      clear hD3 hC3
      obtain ⟨z, hz⟩ : ∃ z : UInt8, (97 : Int) + y = (z.toNat : Int) := ⟨UInt8.ofNat (97 + y.toNat), by rw [UInt8.toNat_ofNat']; omega⟩
      have HZ : Hid ((97 : Int) + y = (z.toNat : Int)) := hz
      have HKl : Hid (k = zs.length) := HI.out.1.symm
      have s4 := HO3.out.2.2.size
      clear hz
      go_wp2_with (at_builtin; refine wpList_append_byte _ rfl _ _ rfl w.heap.size g cp _ _ zs z rfl _ rfl HKl.out ?hO ?hc ?hl ?hb ?_)
      case hO => exact own_chg (S := fun _ => False) HO3.out.1 (Chg.of_below ((Below.refl _ _).alloc (Nat.le_refl _) _)) (fun k _ q => q)
      case hc => rw [← HZ.out]; simp
      case hl => rw [← HKl.out]; omega
      case hb => simp; omega
      intro g' cp' w' hO' hgr
      have HN : Hid ((zs ++ [z]).length = k + 1 ∧ OwnB w' w.heap.size g' cp' (zs ++ [z]) ∧ DrawAt base cb bv n w' ∧ Chg (fun k => k = cb) w w') := by
        refine ⟨by simp [HI.out.1], hO', ?_, ?_⟩
        · have hd := HO3.out.2.1.below ((Below.refl w3.heap.size w3).alloc (Nat.le_refl _) (Obj.cells #[.int .u8 (97 + y)] 5))
          exact hd.chg (Chg.of_grown (S := fun k => k = g) hgr (fun k hk => by cases hk; rfl)) (by omega) (fun k q => by omega)
        · exact Chg.grown_new (HO3.out.2.2.alloc_new _) hgr (fun k hk => by cases hk; omega)
      clear hO' hgr
      go_wp2_with fail
      go_roundw
      case rel => exact ⟨k + 1, g', cp', zs ++ [z], by omega, by go_num, rfl, HN.out.1, HN.out.2.1, HN.out.2.2.1, HN.out.2.2.2⟩
      case measure => go_light; simp [intOf]; omega
    · have zk : ¬ (k : Int) < (m : Int) := by omega
      have hcv := conv_own HI.out.2.1
      rw [HI.out.1] at hcv
      have HS : Hid ((⟨zs.toArray⟩ : ByteArray).size ≤ 100) := by
        show (⟨zs.toArray⟩ : ByteArray).size ≤ 100
        have := HI.out.1
        simp [ByteArray.size]; omega
      go_wp2_with fail
      go_ret
      exact ⟨_, rfl, HS.out, HI.out.2.2.1, HI.out.2.2.2⟩
end Go.Proofs.Ytjphalbjimggcae

