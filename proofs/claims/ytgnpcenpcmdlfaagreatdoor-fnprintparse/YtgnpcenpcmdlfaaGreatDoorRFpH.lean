/-
  (*impl.filterParser).behind: all but the ranges.
-/
import Derived.Test.YtgnpcenpcmdlfaaGreatDoorZkAQ
import Derived.Test.YtgnpcenpcmdlfaaGreatDoorZkAE
namespace Go.Proofs.YtgnpcenpcmdlfaaGreatDoor
open Go.ChangeShapes Go.WideShapes Go.ChangeAt Go.RowKit Go.Deep
set_option linter.unusedVariables false
set_option linter.unusedSimpArgs false
set_option maxRecDepth 100000

def argP (kd : Int) (s : Ps) : PR (Ps × Nd) := match argsF kd s.ks with
  | .error e => .error e
  | .ok (ks, nd) => .ok ({ s with ks := ks }, nd)
def BehP (base g b off n cap : Nat) (t : List UInt8) (d : Nat) (A : PR (Ps × Nd) → Prop) (nv : Value) (w : World) (e : Ending) (w' : World) : Prop := Hid (Chg (fun q => q = g ∨ nv.ownBlock = some q) w w') ∧ ((∃ s1 nd, A (.ok (s1, nd)) ∧ e = .returned nd.v ∧ FpQ base g b off n cap t d nv w s1 w') ∨ (∃ c a, A (.error (c, a)) ∧ e = Pf c ((a : Nat) : Int)))
theorem argP_nostr {kd : Int} {s : Ps} {k : Tk} {ks : List Tk} (h4 : 4 ≤ kd) (h7 : kd ≤ 7) (hk : s.ks = k :: ks) (hn : ∀ sx, ¬ k.k = .str sx) : argP kd s = .error (3, k.pos) := by
  have h1 : hdK s.ks = k.k := by rw [hk]; rfl
  have h2 : hdA s.ks = k.pos := by rw [hk]; rfl
  unfold argP argsF
  rw [if_neg (by omega), if_pos h7, h1, h2]
  cases hq : k.k with
  | str sx => exact absurd hq (hn sx)
  | word _ => rfl
  | num _ => rfl
  | sign _ => rfl
  | fin => rfl
  | bad => rfl
theorem argP_str {kd : Int} {s : Ps} {k : Tk} {ks : List Tk} {sx : ByteArray} (h4 : 4 ≤ kd) (h7 : kd ≤ 7) (hk : s.ks = k :: ks) (hs : k.k = .str sx) : ((checkM (sb sx)).1 = 0 → argP kd s = (match takeF s.ks with
      | .error e => .error e
      | .ok k2 => .ok ({ s with ks := k2 }, patN kd sx))) ∧ (¬ (checkM (sb sx)).1 = 0 → argP kd s = .error (6, k.pos)) := by
  have h1 : hdK s.ks = .str sx := by rw [hk]; exact hs
  have h2 : hdA s.ks = k.pos := by rw [hk]; rfl
  unfold argP argsF
  rw [if_neg (by omega), if_pos h7, h1, h2]
  dsimp only
  constructor
  · intro q
    rw [if_pos q]
    cases takeF s.ks <;> rfl
  · intro q
    rw [if_neg q]
theorem argP_nonum {kd : Int} {s : Ps} {k : Tk} {ks : List Tk} (h4 : 11 ≤ kd) (hk : s.ks = k :: ks) (hn : ∀ v, ¬ k.k = .num v) : argP kd s = .error (3, k.pos) := by
  have h1 : hdK s.ks = k.k := by rw [hk]; rfl
  have h2 : hdA s.ks = k.pos := by rw [hk]; rfl
  unfold argP argsF
  rw [if_neg (by omega), if_neg (by omega), if_neg (by omega), if_neg (by omega), h1, h2]
  cases hq : k.k with
  | num v => exact absurd hq (hn v)
  | word _ => rfl
  | str _ => rfl
  | sign _ => rfl
  | fin => rfl
  | bad => rfl
theorem argP_num {kd : Int} {s : Ps} {k : Tk} {ks : List Tk} {v : Int} (h4 : 11 ≤ kd) (hk : s.ks = k :: ks) (hs : k.k = .num v) : ((1 ≤ v ∧ v ≤ 1000) → argP kd s = (match takeF s.ks with
      | .error e => .error e
      | .ok k2 => .ok ({ s with ks := k2 }, cntN kd v))) ∧ (¬ (1 ≤ v ∧ v ≤ 1000) → argP kd s = .error (8, k.pos)) := by
  have h1 : hdK s.ks = .num v := by rw [hk]; exact hs
  have h2 : hdA s.ks = k.pos := by rw [hk]; rfl
  unfold argP argsF
  rw [if_neg (by omega), if_neg (by omega), if_neg (by omega), if_neg (by omega), h1, h2]
  dsimp only
  constructor
  · intro q
    rw [if_pos q]
    cases takeF s.ks <;> rfl
  · intro q
    rw [if_neg q]
/-- A node's seven cells stored. -/
def setN (w : World) (g : Nat) (e : Nd) : World := ((((((w.setCell ⟨g, 0, none⟩ (.int .i64 e.kind)).setCell ⟨g, 1, none⟩ (.string e.s)).setCell ⟨g, 2, none⟩ (.bool e.hi)).setCell ⟨g, 3, none⟩ (.string e.t)).setCell ⟨g, 4, none⟩ (.int .u64 e.lo)).setCell ⟨g, 5, none⟩ (.int .u64 e.up)).setCell ⟨g, 6, none⟩ (.int .i64 e.n)
theorem BoxAt.setN {w : World} {base ty g : Nat} {vs : List Value} (h : BoxAt w base ty 7 g vs) (e : Nd) : BoxAt (Go.Proofs.YtgnpcenpcmdlfaaGreatDoor.setN w g e) base ty 7 g e.seven := by
  have h1 := ((((((h.set 0 (.int .i64 e.kind)).set 1 (.string e.s)).set 2 (.bool e.hi)).set 3 (.string e.t)).set 4 (.int .u64 e.lo)).set 5 (.int .u64 e.up)).set 6 (.int .i64 e.n)
  have hl := h.len
  match vs, hl with
  | [_, _, _, _, _, _, _], _ => exact h1
theorem chg_setN (w : World) (g : Nat) (e : Nd) : Chg (fun k => k = g) w (setN w g e) :=
  ((((((Chg.of_set (S := fun k => k = g) _ _ _ _ rfl).trans (Chg.of_set (S := fun k => k = g) _ _ _ _ rfl)).trans (Chg.of_set (S := fun k => k = g) _ _ _ _ rfl)).trans (Chg.of_set (S := fun k => k = g) _ _ _ _ rfl)).trans (Chg.of_set (S := fun k => k = g) _ _ _ _ rfl)).trans (Chg.of_set (S := fun k => k = g) _ _ _ _ rfl)).trans (Chg.of_set (S := fun k => k = g) _ _ _ _ rfl)
/-- The node is stored in the result's box and handed back. -/
theorem BehP.box {base g b off n cap : Nat} {t : List UInt8} {d : Nat} {A : PR (Ps × Nd) → Prop} {nv nv3 : Value} {w w3 W9 : World} {s1 : Ps} {nd : Nd} {k2 : Tk} {ks2 : List Tk} {p2 : Nat} {Bk : Nat} (hA : A (.ok (s1, nd))) (hF : Fp base g b off n cap t d s1 k2 ks2 p2 nv3 w3) (hc3 : Chg (fun q => q = g ∨ nv.ownBlock = some q) w w3) (hl : ∀ q, nv3.ownBlock = some q → nv.ownBlock = some q ∨ w.heap.size ≤ q) (hc9 : Chg (fun q => q = Bk) w3 W9) (hB : ¬ Bk = g ∧ w.heap.size ≤ Bk) (hn : ∀ q, nv3.ownBlock = some q → ¬ q = Bk) : BehP base g b off n cap t d A nv w (.returned nd.v) W9 :=
  ⟨Chg.comp hc3 hc9 (fun q hq z => by omega), .inl ⟨s1, nd, hA, rfl, k2, ks2, p2, nv3, hF.chg hc9 (fun q => hB.1 q.symm) (fun q hq z => hn q hq z), hl⟩⟩
set_option maxHeartbeats 8000000 in
theorem behind_1 {base g b off n cap : Nat} {t : List UInt8} {d : Nat} {s : Ps} {k : Tk} {ks : List Tk} {p : Nat} {nv : Value} {w : World} (hS : FpS base b off n cap t w) (h : Fp base g b off n cap t d s k ks p nv w) : Calls Tryz.prog 117 #[.pointer (some ⟨g, 0, none⟩), .int .i64 1] w (BehP base g b off n cap t d (fun r => r = argP 1 s) nv w) := by
  obtain ⟨W0, hW0⟩ : ∃ W0 : World, W0 = w.alloc (Obj.cells #[.int .i64 0, .string ⟨#[]⟩, .bool false, .string ⟨#[]⟩, .int .u64 0, .int .u64 0, .int .i64 0] 65) := ⟨_, rfl⟩
  have b3 : Below w.heap.size w W0 := by rw [hW0]; exact (Below.refl _ _).alloc (Nat.le_refl _) _
  have b1 : BoxAt W0 w.heap.size 65 7 w.heap.size [.int .i64 0, .string ⟨#[]⟩, .bool false, .string ⟨#[]⟩, .int .u64 0, .int .u64 0, .int .i64 0] := by rw [hW0]; exact boxAt_new w _ (Nat.le_refl _) rfl
  have hbs : Below base w W0 := b3.mono hS.sz
  have hnl := h.nlt
  have HW0 : Hid (BoxAt W0 w.heap.size 65 7 w.heap.size [.int .i64 0, .string ⟨#[]⟩, .bool false, .string ⟨#[]⟩, .int .u64 0, .int .u64 0, .int .i64 0] ∧ Fp base g b off n cap t d s k ks p nv W0 ∧ FpS base b off n cap t W0 ∧ Chg (fun q => q = g ∨ nv.ownBlock = some q) w W0 ∧ (∀ q, nv.ownBlock = some q → q < w.heap.size) ∧ s.ks = k :: ks) := ⟨b1, h.below b3, hS.up hbs, Chg.of_below b3, fun q hq => (hnl q hq).2, h.eq⟩
  have hgl := h.fs.lt
  clear h hS b1 b3 hbs hnl
  have hBx := HW0.out.1
  go_enter Tryz.func117, Tryz.ntmps117
  go_upto_region 2 with fail
  rw [← hW0]
  clear hW0
  have l0 := hBx.cell (j := 0) rfl
  have l1 := hBx.cell (j := 1) rfl
  have l2 := hBx.cell (j := 2) rfl
  have l3 := hBx.cell (j := 3) rfl
  have l4 := hBx.cell (j := 4) rfl
  have l5 := hBx.cell (j := 5) rfl
  have l6 := hBx.cell (j := 6) rfl
  have f0 := hBx.frozen 0
  have f1 := hBx.frozen 1
  have f2 := hBx.frozen 2
  have f3 := hBx.frozen 3
  have f4 := hBx.frozen 4
  have f5 := hBx.frozen 5
  have f6 := hBx.frozen 6
  obtain ⟨W9, hW9⟩ : ∃ V : World, V = setN W0 w.heap.size (leafN 1) := ⟨_, rfl⟩
  have hB9 := hBx.setN (leafN 1)
  rw [← hW9] at hB9
  have hc9 : Chg (fun q => q = w.heap.size) W0 W9 := by rw [hW9]; exact chg_setN _ _ _
  have HR : Hid (BehP base g b off n cap t d (fun r => r = argP 1 s) nv w (.returned (leafN 1).v) W9) := BehP.box (s1 := s) (by show _ = _; rfl) HW0.out.2.1 HW0.out.2.2.2.1 (fun q hq => .inl hq) hc9 (by omega) (fun q hq z => by have := HW0.out.2.2.2.2.1 q hq; omega)
  have q0 := hB9.cell (j := 0) rfl
  have q1 := hB9.cell (j := 1) rfl
  have q2 := hB9.cell (j := 2) rfl
  have q3 := hB9.cell (j := 3) rfl
  have q4 := hB9.cell (j := 4) rfl
  have q5 := hB9.cell (j := 5) rfl
  have q6 := hB9.cell (j := 6) rfl
  unfold setN at hW9
  simp only [leafN, patN, cntN, noS] at hW9 q0 q1 q2 q3 q4 q5 q6
  clear hB9 hc9
  go_wp2_with fail
  rw [← hW9]
  exact bodyPost_ret (v := (leafN 1).v) (by simp [results, Tryz.results117, go_sem, q0, q1, q2, q3, q4, q5, q6, leafN, patN, cntN, noS]) rfl HR.out
set_option maxHeartbeats 8000000 in
theorem behind_2 {base g b off n cap : Nat} {t : List UInt8} {d : Nat} {s : Ps} {k : Tk} {ks : List Tk} {p : Nat} {nv : Value} {w : World} (hS : FpS base b off n cap t w) (h : Fp base g b off n cap t d s k ks p nv w) : Calls Tryz.prog 117 #[.pointer (some ⟨g, 0, none⟩), .int .i64 2] w (BehP base g b off n cap t d (fun r => r = argP 2 s) nv w) := by
  obtain ⟨W0, hW0⟩ : ∃ W0 : World, W0 = w.alloc (Obj.cells #[.int .i64 0, .string ⟨#[]⟩, .bool false, .string ⟨#[]⟩, .int .u64 0, .int .u64 0, .int .i64 0] 65) := ⟨_, rfl⟩
  have b3 : Below w.heap.size w W0 := by rw [hW0]; exact (Below.refl _ _).alloc (Nat.le_refl _) _
  have b1 : BoxAt W0 w.heap.size 65 7 w.heap.size [.int .i64 0, .string ⟨#[]⟩, .bool false, .string ⟨#[]⟩, .int .u64 0, .int .u64 0, .int .i64 0] := by rw [hW0]; exact boxAt_new w _ (Nat.le_refl _) rfl
  have hbs : Below base w W0 := b3.mono hS.sz
  have hnl := h.nlt
  have HW0 : Hid (BoxAt W0 w.heap.size 65 7 w.heap.size [.int .i64 0, .string ⟨#[]⟩, .bool false, .string ⟨#[]⟩, .int .u64 0, .int .u64 0, .int .i64 0] ∧ Fp base g b off n cap t d s k ks p nv W0 ∧ FpS base b off n cap t W0 ∧ Chg (fun q => q = g ∨ nv.ownBlock = some q) w W0 ∧ (∀ q, nv.ownBlock = some q → q < w.heap.size) ∧ s.ks = k :: ks) := ⟨b1, h.below b3, hS.up hbs, Chg.of_below b3, fun q hq => (hnl q hq).2, h.eq⟩
  have hgl := h.fs.lt
  clear h hS b1 b3 hbs hnl
  have hBx := HW0.out.1
  go_enter Tryz.func117, Tryz.ntmps117
  go_upto_region 2 with fail
  rw [← hW0]
  clear hW0
  have l0 := hBx.cell (j := 0) rfl
  have l1 := hBx.cell (j := 1) rfl
  have l2 := hBx.cell (j := 2) rfl
  have l3 := hBx.cell (j := 3) rfl
  have l4 := hBx.cell (j := 4) rfl
  have l5 := hBx.cell (j := 5) rfl
  have l6 := hBx.cell (j := 6) rfl
  have f0 := hBx.frozen 0
  have f1 := hBx.frozen 1
  have f2 := hBx.frozen 2
  have f3 := hBx.frozen 3
  have f4 := hBx.frozen 4
  have f5 := hBx.frozen 5
  have f6 := hBx.frozen 6
  obtain ⟨W9, hW9⟩ : ∃ V : World, V = setN W0 w.heap.size (leafN 2) := ⟨_, rfl⟩
  have hB9 := hBx.setN (leafN 2)
  rw [← hW9] at hB9
  have hc9 : Chg (fun q => q = w.heap.size) W0 W9 := by rw [hW9]; exact chg_setN _ _ _
  have HR : Hid (BehP base g b off n cap t d (fun r => r = argP 2 s) nv w (.returned (leafN 2).v) W9) := BehP.box (s1 := s) (by show _ = _; rfl) HW0.out.2.1 HW0.out.2.2.2.1 (fun q hq => .inl hq) hc9 (by omega) (fun q hq z => by have := HW0.out.2.2.2.2.1 q hq; omega)
  have q0 := hB9.cell (j := 0) rfl
  have q1 := hB9.cell (j := 1) rfl
  have q2 := hB9.cell (j := 2) rfl
  have q3 := hB9.cell (j := 3) rfl
  have q4 := hB9.cell (j := 4) rfl
  have q5 := hB9.cell (j := 5) rfl
  have q6 := hB9.cell (j := 6) rfl
  unfold setN at hW9
  simp only [leafN, patN, cntN, noS] at hW9 q0 q1 q2 q3 q4 q5 q6
  clear hB9 hc9
  go_wp2_with fail
  rw [← hW9]
  exact bodyPost_ret (v := (leafN 2).v) (by simp [results, Tryz.results117, go_sem, q0, q1, q2, q3, q4, q5, q6, leafN, patN, cntN, noS]) rfl HR.out
set_option maxHeartbeats 8000000 in
theorem behind_3 {base g b off n cap : Nat} {t : List UInt8} {d : Nat} {s : Ps} {k : Tk} {ks : List Tk} {p : Nat} {nv : Value} {w : World} (hS : FpS base b off n cap t w) (h : Fp base g b off n cap t d s k ks p nv w) : Calls Tryz.prog 117 #[.pointer (some ⟨g, 0, none⟩), .int .i64 3] w (BehP base g b off n cap t d (fun r => r = argP 3 s) nv w) := by
  obtain ⟨W0, hW0⟩ : ∃ W0 : World, W0 = w.alloc (Obj.cells #[.int .i64 0, .string ⟨#[]⟩, .bool false, .string ⟨#[]⟩, .int .u64 0, .int .u64 0, .int .i64 0] 65) := ⟨_, rfl⟩
  have b3 : Below w.heap.size w W0 := by rw [hW0]; exact (Below.refl _ _).alloc (Nat.le_refl _) _
  have b1 : BoxAt W0 w.heap.size 65 7 w.heap.size [.int .i64 0, .string ⟨#[]⟩, .bool false, .string ⟨#[]⟩, .int .u64 0, .int .u64 0, .int .i64 0] := by rw [hW0]; exact boxAt_new w _ (Nat.le_refl _) rfl
  have hbs : Below base w W0 := b3.mono hS.sz
  have hnl := h.nlt
  have HW0 : Hid (BoxAt W0 w.heap.size 65 7 w.heap.size [.int .i64 0, .string ⟨#[]⟩, .bool false, .string ⟨#[]⟩, .int .u64 0, .int .u64 0, .int .i64 0] ∧ Fp base g b off n cap t d s k ks p nv W0 ∧ FpS base b off n cap t W0 ∧ Chg (fun q => q = g ∨ nv.ownBlock = some q) w W0 ∧ (∀ q, nv.ownBlock = some q → q < w.heap.size) ∧ s.ks = k :: ks) := ⟨b1, h.below b3, hS.up hbs, Chg.of_below b3, fun q hq => (hnl q hq).2, h.eq⟩
  have hgl := h.fs.lt
  clear h hS b1 b3 hbs hnl
  have hBx := HW0.out.1
  go_enter Tryz.func117, Tryz.ntmps117
  go_upto_region 2 with fail
  rw [← hW0]
  clear hW0
  have l0 := hBx.cell (j := 0) rfl
  have l1 := hBx.cell (j := 1) rfl
  have l2 := hBx.cell (j := 2) rfl
  have l3 := hBx.cell (j := 3) rfl
  have l4 := hBx.cell (j := 4) rfl
  have l5 := hBx.cell (j := 5) rfl
  have l6 := hBx.cell (j := 6) rfl
  have f0 := hBx.frozen 0
  have f1 := hBx.frozen 1
  have f2 := hBx.frozen 2
  have f3 := hBx.frozen 3
  have f4 := hBx.frozen 4
  have f5 := hBx.frozen 5
  have f6 := hBx.frozen 6
  obtain ⟨W9, hW9⟩ : ∃ V : World, V = setN W0 w.heap.size (leafN 3) := ⟨_, rfl⟩
  have hB9 := hBx.setN (leafN 3)
  rw [← hW9] at hB9
  have hc9 : Chg (fun q => q = w.heap.size) W0 W9 := by rw [hW9]; exact chg_setN _ _ _
  have HR : Hid (BehP base g b off n cap t d (fun r => r = argP 3 s) nv w (.returned (leafN 3).v) W9) := BehP.box (s1 := s) (by show _ = _; rfl) HW0.out.2.1 HW0.out.2.2.2.1 (fun q hq => .inl hq) hc9 (by omega) (fun q hq z => by have := HW0.out.2.2.2.2.1 q hq; omega)
  have q0 := hB9.cell (j := 0) rfl
  have q1 := hB9.cell (j := 1) rfl
  have q2 := hB9.cell (j := 2) rfl
  have q3 := hB9.cell (j := 3) rfl
  have q4 := hB9.cell (j := 4) rfl
  have q5 := hB9.cell (j := 5) rfl
  have q6 := hB9.cell (j := 6) rfl
  unfold setN at hW9
  simp only [leafN, patN, cntN, noS] at hW9 q0 q1 q2 q3 q4 q5 q6
  clear hB9 hc9
  go_wp2_with fail
  rw [← hW9]
  exact bodyPost_ret (v := (leafN 3).v) (by simp [results, Tryz.results117, go_sem, q0, q1, q2, q3, q4, q5, q6, leafN, patN, cntN, noS]) rfl HR.out
set_option maxHeartbeats 8000000 in
theorem behind_4 {base g b off n cap : Nat} {t : List UInt8} {d : Nat} {s : Ps} {k : Tk} {ks : List Tk} {p : Nat} {nv : Value} {w : World} (hS : FpS base b off n cap t w) (h : Fp base g b off n cap t d s k ks p nv w) : Calls Tryz.prog 117 #[.pointer (some ⟨g, 0, none⟩), .int .i64 4] w (BehP base g b off n cap t d (fun r => r = argP 4 s) nv w) := by
  obtain ⟨W0, hW0⟩ : ∃ W0 : World, W0 = w.alloc (Obj.cells #[.int .i64 0, .string ⟨#[]⟩, .bool false, .string ⟨#[]⟩, .int .u64 0, .int .u64 0, .int .i64 0] 65) := ⟨_, rfl⟩
  have b3 : Below w.heap.size w W0 := by rw [hW0]; exact (Below.refl _ _).alloc (Nat.le_refl _) _
  have b1 : BoxAt W0 w.heap.size 65 7 w.heap.size [.int .i64 0, .string ⟨#[]⟩, .bool false, .string ⟨#[]⟩, .int .u64 0, .int .u64 0, .int .i64 0] := by rw [hW0]; exact boxAt_new w _ (Nat.le_refl _) rfl
  have hbs : Below base w W0 := b3.mono hS.sz
  have hnl := h.nlt
  have HW0 : Hid (BoxAt W0 w.heap.size 65 7 w.heap.size [.int .i64 0, .string ⟨#[]⟩, .bool false, .string ⟨#[]⟩, .int .u64 0, .int .u64 0, .int .i64 0] ∧ Fp base g b off n cap t d s k ks p nv W0 ∧ FpS base b off n cap t W0 ∧ Chg (fun q => q = g ∨ nv.ownBlock = some q) w W0 ∧ (∀ q, nv.ownBlock = some q → q < w.heap.size) ∧ s.ks = k :: ks) := ⟨b1, h.below b3, hS.up hbs, Chg.of_below b3, fun q hq => (hnl q hq).2, h.eq⟩
  have hgl := h.fs.lt
  have hkd := h.kinds
  have cK := (h.below b3).fs.cell (j := 2) rfl
  have cT := (h.below b3).fs.cell (j := 6) rfl
  clear h hS b1 b3 hbs hnl
  have die : ∀ (c : Int), argP 4 s = .error (c, k.pos) → ∀ W', Chg (fun q => q = g ∨ nv.ownBlock = some q) w W' → Hid (BehP base g b off n cap t d (fun r => r = argP 4 s) nv w (Pf c (k.pos : Int)) W') := fun c hc W' hW => ⟨hW, .inr ⟨c, k.pos, hc.symm, rfl⟩⟩
  by_cases hst : ∃ sx, k.k = .str sx
  case neg =>
    have zk : (((ftB k.k).toNat : Int) == 34) = false := by
      cases hq : k.k with
      | str sx => exact absurd ⟨sx, hq⟩ hst
      | sign c =>
        rw [hq] at hkd
        rcases hkd with q | q
        · rcases q with rfl | rfl | rfl | rfl | rfl | rfl <;> rfl
        · cases q
      | word _ => rfl
      | num _ => rfl
      | fin => rfl
      | bad => rfl
    have HD := die 3 (argP_nostr (by omega) (by omega) HW0.out.2.2.2.2.2 (fun sx q => hst ⟨sx, q⟩)) W0 HW0.out.2.2.2.1
    obtain ⟨kb, hkb⟩ : ∃ kb : Int, kb = ((ftB k.k).toNat : Int) := ⟨_, rfl⟩
    rw [← hkb] at zk cK
    clear die hst hkd hkb
    go_enter Tryz.func117, Tryz.ntmps117
    go_upto_region 2 with fail
    rw [← hW0]
    clear hW0
    go_wp2_with fail
    refine (fdem_no HW0.out.2.1 3).mono ?_
    rintro e w2 ⟨rfl, hw2⟩
    rw [hw2]
    clear hw2
    exact ⟨rfl, HD.out⟩
  case pos =>
  obtain ⟨sx, hsx⟩ := hst
  have hk34 : ftB k.k = 34 := by rw [hsx]; rfl
  have htx : k.k.txt = sx := by rw [hsx]; rfl
  rw [hk34] at cK
  rw [htx] at cT
  have hsz : sx.size ≤ 200 := by
    rw [hsx] at hkd
    rcases hkd with q | q
    · exact q
    · cases q
  have Hfin : Hid (k.k.isFin = false) := by show _ = _; rw [hsx]; rfl
  have HAr : Hid (((checkM (sb sx)).1 = 0 → argP 4 s = (match takeF s.ks with
      | .error e => .error e
      | .ok k2 => .ok ({ s with ks := k2 }, patN 4 sx))) ∧ (¬ (checkM (sb sx)).1 = 0 → argP 4 s = .error (6, k.pos))) := argP_str (by omega) (by omega) HW0.out.2.2.2.2.2 hsx
  have HCk : Hid (Calls Tryz.prog 119 #[.string sx] W0 fun e w' => e = .returned (.agg #[.int .i64 (checkM (sb sx)).1, .int .i64 ((checkM (sb sx)).2 : Int)]) ∧ Below W0.heap.size W0 w') := implCheck_core sx W0 (by unfold maxLen; omega)
  obtain ⟨er, her⟩ : ∃ er : Int, er = (checkM (sb sx)).1 := ⟨_, rfl⟩
  obtain ⟨ea, hea⟩ : ∃ ea : Int, ea = ((checkM (sb sx)).2 : Int) := ⟨_, rfl⟩
  rw [← her] at HAr
  rw [← her, ← hea] at HCk
  have htv : Hid (ftV k = [.int .u8 34, .int .i64 (k.pos : Int), .int .i64 0, .int .u64 0, .string sx]) := by show _ = _; unfold ftV; rw [hk34, htx, hsx]; rfl
  clear hkd hk34 htx hsx her hea
  go_enter Tryz.func117, Tryz.ntmps117
  go_upto_region 2 with fail
  rw [← hW0]
  clear hW0
  go_wp2_with fail
  refine (fdem_yes _ 3 W0).mono ?_
  rintro e w2 ⟨rfl, hw2⟩
  rw [hw2]
  clear hw2
  go_wp2_with fail
  refine HCk.out.mono ?_
  rintro e w2 ⟨rfl, hb2⟩
  have H2 : Hid (Fp base g b off n cap t d s k ks p nv w2 ∧ FpS base b off n cap t w2 ∧ BoxAt w2 w.heap.size 65 7 w.heap.size [.int .i64 0, .string ⟨#[]⟩, .bool false, .string ⟨#[]⟩, .int .u64 0, .int .u64 0, .int .i64 0] ∧ Chg (fun q => q = g ∨ nv.ownBlock = some q) w w2) := ⟨HW0.out.2.1.below hb2, HW0.out.2.2.1.up (hb2.mono HW0.out.2.2.1.sz), HW0.out.1.below hb2, Chg.comp HW0.out.2.2.2.1 (Chg.of_below hb2 (S := fun _ => False)) (fun q _ z => z.elim)⟩
  have hfd : ∀ wz : World, (Instr.field 125 (.agg #[.int .i64 er, .int .i64 ea]) 0).run Tryz.prog wz = .ok (.int .i64 er) wz := fun wz => by kernel_rfl
  have hfd2 := hfd w2
  clear hb2 HCk cK cT hfd
  by_cases he : er = 0
  case neg =>
    have ze : (er == 0) = false := by simpa using he
    have HD := die 6 (HAr.out.2 he) w2 H2.out.2.2.2
    clear die he
    go_wp2_with fail
    refine (fdem_no H2.out.1 6).mono ?_
    rintro e w3 ⟨rfl, hw3⟩
    rw [hw3]
    clear hw3
    exact ⟨rfl, HD.out⟩
  case pos =>
  have ze : (er == 0) = true := by simpa using he
  have HTk : Hid (Calls Tryz.prog 114 #[.pointer (some ⟨g, 0, none⟩)] w2 (TakP base g b off n cap t d s k nv w2)) := ftake_core H2.out.2.1 H2.out.1 Hfin.out
  have HAr2 : Hid (argP 4 s = (match takeF s.ks with
      | .error e => .error e
      | .ok k2 => .ok ({ s with ks := k2 }, patN 4 sx))) := HAr.out.1 he
  clear die he
  go_wp2_with fail
  refine (fdem_yes _ 6 w2).mono ?_
  rintro e w3 ⟨rfl, hw3⟩
  rw [hw3]
  clear hw3
  go_wp2_with fail
  refine HTk.out.mono ?_
  rintro e w3 ⟨Hb3, (⟨k2, ks2, p2, htk, rfl, hF3⟩ | ⟨c, a, htk, rfl⟩)⟩
  · have hBx := H2.out.2.2.1.chg Hb3.out (by omega)
    have HF3 : Hid (Fp base g b off n cap t d { s with ks := k2 :: ks2 } k2 ks2 p2 nv w3 ∧ takeF s.ks = .ok (k2 :: ks2) ∧ Chg (fun q => q = g) w2 w3) := ⟨hF3, htk, Hb3.out⟩
    have hfe : (Instr.field 52 (.agg (ftV k).toArray) 4).run Tryz.prog w3 = .ok (.string sx) w3 := by rw [htv.out]; kernel_rfl
    clear htk hF3 HTk
    have l0 := hBx.cell (j := 0) rfl
    have l1 := hBx.cell (j := 1) rfl
    have l2 := hBx.cell (j := 2) rfl
    have l3 := hBx.cell (j := 3) rfl
    have l4 := hBx.cell (j := 4) rfl
    have l5 := hBx.cell (j := 5) rfl
    have l6 := hBx.cell (j := 6) rfl
    have f0 := hBx.frozen 0
    have f1 := hBx.frozen 1
    have f2 := hBx.frozen 2
    have f3 := hBx.frozen 3
    have f4 := hBx.frozen 4
    have f5 := hBx.frozen 5
    have f6 := hBx.frozen 6
    obtain ⟨W9, hW9⟩ : ∃ V : World, V = setN w3 w.heap.size (patN 4 sx) := ⟨_, rfl⟩
    have hB9 := hBx.setN (patN 4 sx)
    rw [← hW9] at hB9
    have hc9 : Chg (fun q => q = w.heap.size) w3 W9 := by rw [hW9]; exact chg_setN _ _ _
    have HR : Hid (BehP base g b off n cap t d (fun r => r = argP 4 s) nv w (.returned (patN 4 sx).v) W9) := BehP.box (s1 := ⟨k2 :: ks2, s.made, s.out⟩) (by show _ = _; rw [HAr2.out, HF3.out.2.1]) HF3.out.1 (Chg.comp H2.out.2.2.2 HF3.out.2.2 (fun q _ z => .inl z)) (fun q hq => .inl hq) hc9 (by omega) (fun q hq z => by have := HW0.out.2.2.2.2.1 q hq; omega)
    have q0 := hB9.cell (j := 0) rfl
    have q1 := hB9.cell (j := 1) rfl
    have q2 := hB9.cell (j := 2) rfl
    have q3 := hB9.cell (j := 3) rfl
    have q4 := hB9.cell (j := 4) rfl
    have q5 := hB9.cell (j := 5) rfl
    have q6 := hB9.cell (j := 6) rfl
    unfold setN at hW9
    simp only [leafN, patN, cntN, noS] at hW9 q0 q1 q2 q3 q4 q5 q6
    clear hB9 hc9
    go_wp2_with fail
    rw [← hW9]
    exact bodyPost_ret (v := (patN 4 sx).v) (by simp [results, Tryz.results117, go_sem, q0, q1, q2, q3, q4, q5, q6, leafN, patN, cntN, noS]) rfl HR.out
  · have HD : Hid (BehP base g b off n cap t d (fun r => r = argP 4 s) nv w (Pf c (a : Int)) w3) := ⟨Chg.comp H2.out.2.2.2 Hb3.out (fun q _ z => .inl z), .inr ⟨c, a, by rw [HAr2.out, htk], rfl⟩⟩
    clear htk HTk
    exact ⟨rfl, HD.out⟩
set_option maxHeartbeats 8000000 in
theorem behind_5 {base g b off n cap : Nat} {t : List UInt8} {d : Nat} {s : Ps} {k : Tk} {ks : List Tk} {p : Nat} {nv : Value} {w : World} (hS : FpS base b off n cap t w) (h : Fp base g b off n cap t d s k ks p nv w) : Calls Tryz.prog 117 #[.pointer (some ⟨g, 0, none⟩), .int .i64 5] w (BehP base g b off n cap t d (fun r => r = argP 5 s) nv w) := by
  obtain ⟨W0, hW0⟩ : ∃ W0 : World, W0 = w.alloc (Obj.cells #[.int .i64 0, .string ⟨#[]⟩, .bool false, .string ⟨#[]⟩, .int .u64 0, .int .u64 0, .int .i64 0] 65) := ⟨_, rfl⟩
  have b3 : Below w.heap.size w W0 := by rw [hW0]; exact (Below.refl _ _).alloc (Nat.le_refl _) _
  have b1 : BoxAt W0 w.heap.size 65 7 w.heap.size [.int .i64 0, .string ⟨#[]⟩, .bool false, .string ⟨#[]⟩, .int .u64 0, .int .u64 0, .int .i64 0] := by rw [hW0]; exact boxAt_new w _ (Nat.le_refl _) rfl
  have hbs : Below base w W0 := b3.mono hS.sz
  have hnl := h.nlt
  have HW0 : Hid (BoxAt W0 w.heap.size 65 7 w.heap.size [.int .i64 0, .string ⟨#[]⟩, .bool false, .string ⟨#[]⟩, .int .u64 0, .int .u64 0, .int .i64 0] ∧ Fp base g b off n cap t d s k ks p nv W0 ∧ FpS base b off n cap t W0 ∧ Chg (fun q => q = g ∨ nv.ownBlock = some q) w W0 ∧ (∀ q, nv.ownBlock = some q → q < w.heap.size) ∧ s.ks = k :: ks) := ⟨b1, h.below b3, hS.up hbs, Chg.of_below b3, fun q hq => (hnl q hq).2, h.eq⟩
  have hgl := h.fs.lt
  have hkd := h.kinds
  have cK := (h.below b3).fs.cell (j := 2) rfl
  have cT := (h.below b3).fs.cell (j := 6) rfl
  clear h hS b1 b3 hbs hnl
  have die : ∀ (c : Int), argP 5 s = .error (c, k.pos) → ∀ W', Chg (fun q => q = g ∨ nv.ownBlock = some q) w W' → Hid (BehP base g b off n cap t d (fun r => r = argP 5 s) nv w (Pf c (k.pos : Int)) W') := fun c hc W' hW => ⟨hW, .inr ⟨c, k.pos, hc.symm, rfl⟩⟩
  by_cases hst : ∃ sx, k.k = .str sx
  case neg =>
    have zk : (((ftB k.k).toNat : Int) == 34) = false := by
      cases hq : k.k with
      | str sx => exact absurd ⟨sx, hq⟩ hst
      | sign c =>
        rw [hq] at hkd
        rcases hkd with q | q
        · rcases q with rfl | rfl | rfl | rfl | rfl | rfl <;> rfl
        · cases q
      | word _ => rfl
      | num _ => rfl
      | fin => rfl
      | bad => rfl
    have HD := die 3 (argP_nostr (by omega) (by omega) HW0.out.2.2.2.2.2 (fun sx q => hst ⟨sx, q⟩)) W0 HW0.out.2.2.2.1
    obtain ⟨kb, hkb⟩ : ∃ kb : Int, kb = ((ftB k.k).toNat : Int) := ⟨_, rfl⟩
    rw [← hkb] at zk cK
    clear die hst hkd hkb
    go_enter Tryz.func117, Tryz.ntmps117
    go_upto_region 2 with fail
    rw [← hW0]
    clear hW0
    go_wp2_with fail
    refine (fdem_no HW0.out.2.1 3).mono ?_
    rintro e w2 ⟨rfl, hw2⟩
    rw [hw2]
    clear hw2
    exact ⟨rfl, HD.out⟩
  case pos =>
  obtain ⟨sx, hsx⟩ := hst
  have hk34 : ftB k.k = 34 := by rw [hsx]; rfl
  have htx : k.k.txt = sx := by rw [hsx]; rfl
  rw [hk34] at cK
  rw [htx] at cT
  have hsz : sx.size ≤ 200 := by
    rw [hsx] at hkd
    rcases hkd with q | q
    · exact q
    · cases q
  have Hfin : Hid (k.k.isFin = false) := by show _ = _; rw [hsx]; rfl
  have HAr : Hid (((checkM (sb sx)).1 = 0 → argP 5 s = (match takeF s.ks with
      | .error e => .error e
      | .ok k2 => .ok ({ s with ks := k2 }, patN 5 sx))) ∧ (¬ (checkM (sb sx)).1 = 0 → argP 5 s = .error (6, k.pos))) := argP_str (by omega) (by omega) HW0.out.2.2.2.2.2 hsx
  have HCk : Hid (Calls Tryz.prog 119 #[.string sx] W0 fun e w' => e = .returned (.agg #[.int .i64 (checkM (sb sx)).1, .int .i64 ((checkM (sb sx)).2 : Int)]) ∧ Below W0.heap.size W0 w') := implCheck_core sx W0 (by unfold maxLen; omega)
  obtain ⟨er, her⟩ : ∃ er : Int, er = (checkM (sb sx)).1 := ⟨_, rfl⟩
  obtain ⟨ea, hea⟩ : ∃ ea : Int, ea = ((checkM (sb sx)).2 : Int) := ⟨_, rfl⟩
  rw [← her] at HAr
  rw [← her, ← hea] at HCk
  have htv : Hid (ftV k = [.int .u8 34, .int .i64 (k.pos : Int), .int .i64 0, .int .u64 0, .string sx]) := by show _ = _; unfold ftV; rw [hk34, htx, hsx]; rfl
  clear hkd hk34 htx hsx her hea
  go_enter Tryz.func117, Tryz.ntmps117
  go_upto_region 2 with fail
  rw [← hW0]
  clear hW0
  go_wp2_with fail
  refine (fdem_yes _ 3 W0).mono ?_
  rintro e w2 ⟨rfl, hw2⟩
  rw [hw2]
  clear hw2
  go_wp2_with fail
  refine HCk.out.mono ?_
  rintro e w2 ⟨rfl, hb2⟩
  have H2 : Hid (Fp base g b off n cap t d s k ks p nv w2 ∧ FpS base b off n cap t w2 ∧ BoxAt w2 w.heap.size 65 7 w.heap.size [.int .i64 0, .string ⟨#[]⟩, .bool false, .string ⟨#[]⟩, .int .u64 0, .int .u64 0, .int .i64 0] ∧ Chg (fun q => q = g ∨ nv.ownBlock = some q) w w2) := ⟨HW0.out.2.1.below hb2, HW0.out.2.2.1.up (hb2.mono HW0.out.2.2.1.sz), HW0.out.1.below hb2, Chg.comp HW0.out.2.2.2.1 (Chg.of_below hb2 (S := fun _ => False)) (fun q _ z => z.elim)⟩
  have hfd : ∀ wz : World, (Instr.field 125 (.agg #[.int .i64 er, .int .i64 ea]) 0).run Tryz.prog wz = .ok (.int .i64 er) wz := fun wz => by kernel_rfl
  have hfd2 := hfd w2
  clear hb2 HCk cK cT hfd
  by_cases he : er = 0
  case neg =>
    have ze : (er == 0) = false := by simpa using he
    have HD := die 6 (HAr.out.2 he) w2 H2.out.2.2.2
    clear die he
    go_wp2_with fail
    refine (fdem_no H2.out.1 6).mono ?_
    rintro e w3 ⟨rfl, hw3⟩
    rw [hw3]
    clear hw3
    exact ⟨rfl, HD.out⟩
  case pos =>
  have ze : (er == 0) = true := by simpa using he
  have HTk : Hid (Calls Tryz.prog 114 #[.pointer (some ⟨g, 0, none⟩)] w2 (TakP base g b off n cap t d s k nv w2)) := ftake_core H2.out.2.1 H2.out.1 Hfin.out
  have HAr2 : Hid (argP 5 s = (match takeF s.ks with
      | .error e => .error e
      | .ok k2 => .ok ({ s with ks := k2 }, patN 5 sx))) := HAr.out.1 he
  clear die he
  go_wp2_with fail
  refine (fdem_yes _ 6 w2).mono ?_
  rintro e w3 ⟨rfl, hw3⟩
  rw [hw3]
  clear hw3
  go_wp2_with fail
  refine HTk.out.mono ?_
  rintro e w3 ⟨Hb3, (⟨k2, ks2, p2, htk, rfl, hF3⟩ | ⟨c, a, htk, rfl⟩)⟩
  · have hBx := H2.out.2.2.1.chg Hb3.out (by omega)
    have HF3 : Hid (Fp base g b off n cap t d { s with ks := k2 :: ks2 } k2 ks2 p2 nv w3 ∧ takeF s.ks = .ok (k2 :: ks2) ∧ Chg (fun q => q = g) w2 w3) := ⟨hF3, htk, Hb3.out⟩
    have hfe : (Instr.field 52 (.agg (ftV k).toArray) 4).run Tryz.prog w3 = .ok (.string sx) w3 := by rw [htv.out]; kernel_rfl
    clear htk hF3 HTk
    have l0 := hBx.cell (j := 0) rfl
    have l1 := hBx.cell (j := 1) rfl
    have l2 := hBx.cell (j := 2) rfl
    have l3 := hBx.cell (j := 3) rfl
    have l4 := hBx.cell (j := 4) rfl
    have l5 := hBx.cell (j := 5) rfl
    have l6 := hBx.cell (j := 6) rfl
    have f0 := hBx.frozen 0
    have f1 := hBx.frozen 1
    have f2 := hBx.frozen 2
    have f3 := hBx.frozen 3
    have f4 := hBx.frozen 4
    have f5 := hBx.frozen 5
    have f6 := hBx.frozen 6
    obtain ⟨W9, hW9⟩ : ∃ V : World, V = setN w3 w.heap.size (patN 5 sx) := ⟨_, rfl⟩
    have hB9 := hBx.setN (patN 5 sx)
    rw [← hW9] at hB9
    have hc9 : Chg (fun q => q = w.heap.size) w3 W9 := by rw [hW9]; exact chg_setN _ _ _
    have HR : Hid (BehP base g b off n cap t d (fun r => r = argP 5 s) nv w (.returned (patN 5 sx).v) W9) := BehP.box (s1 := ⟨k2 :: ks2, s.made, s.out⟩) (by show _ = _; rw [HAr2.out, HF3.out.2.1]) HF3.out.1 (Chg.comp H2.out.2.2.2 HF3.out.2.2 (fun q _ z => .inl z)) (fun q hq => .inl hq) hc9 (by omega) (fun q hq z => by have := HW0.out.2.2.2.2.1 q hq; omega)
    have q0 := hB9.cell (j := 0) rfl
    have q1 := hB9.cell (j := 1) rfl
    have q2 := hB9.cell (j := 2) rfl
    have q3 := hB9.cell (j := 3) rfl
    have q4 := hB9.cell (j := 4) rfl
    have q5 := hB9.cell (j := 5) rfl
    have q6 := hB9.cell (j := 6) rfl
    unfold setN at hW9
    simp only [leafN, patN, cntN, noS] at hW9 q0 q1 q2 q3 q4 q5 q6
    clear hB9 hc9
    go_wp2_with fail
    rw [← hW9]
    exact bodyPost_ret (v := (patN 5 sx).v) (by simp [results, Tryz.results117, go_sem, q0, q1, q2, q3, q4, q5, q6, leafN, patN, cntN, noS]) rfl HR.out
  · have HD : Hid (BehP base g b off n cap t d (fun r => r = argP 5 s) nv w (Pf c (a : Int)) w3) := ⟨Chg.comp H2.out.2.2.2 Hb3.out (fun q _ z => .inl z), .inr ⟨c, a, by rw [HAr2.out, htk], rfl⟩⟩
    clear htk HTk
    exact ⟨rfl, HD.out⟩
set_option maxHeartbeats 8000000 in
theorem behind_6 {base g b off n cap : Nat} {t : List UInt8} {d : Nat} {s : Ps} {k : Tk} {ks : List Tk} {p : Nat} {nv : Value} {w : World} (hS : FpS base b off n cap t w) (h : Fp base g b off n cap t d s k ks p nv w) : Calls Tryz.prog 117 #[.pointer (some ⟨g, 0, none⟩), .int .i64 6] w (BehP base g b off n cap t d (fun r => r = argP 6 s) nv w) := by
  obtain ⟨W0, hW0⟩ : ∃ W0 : World, W0 = w.alloc (Obj.cells #[.int .i64 0, .string ⟨#[]⟩, .bool false, .string ⟨#[]⟩, .int .u64 0, .int .u64 0, .int .i64 0] 65) := ⟨_, rfl⟩
  have b3 : Below w.heap.size w W0 := by rw [hW0]; exact (Below.refl _ _).alloc (Nat.le_refl _) _
  have b1 : BoxAt W0 w.heap.size 65 7 w.heap.size [.int .i64 0, .string ⟨#[]⟩, .bool false, .string ⟨#[]⟩, .int .u64 0, .int .u64 0, .int .i64 0] := by rw [hW0]; exact boxAt_new w _ (Nat.le_refl _) rfl
  have hbs : Below base w W0 := b3.mono hS.sz
  have hnl := h.nlt
  have HW0 : Hid (BoxAt W0 w.heap.size 65 7 w.heap.size [.int .i64 0, .string ⟨#[]⟩, .bool false, .string ⟨#[]⟩, .int .u64 0, .int .u64 0, .int .i64 0] ∧ Fp base g b off n cap t d s k ks p nv W0 ∧ FpS base b off n cap t W0 ∧ Chg (fun q => q = g ∨ nv.ownBlock = some q) w W0 ∧ (∀ q, nv.ownBlock = some q → q < w.heap.size) ∧ s.ks = k :: ks) := ⟨b1, h.below b3, hS.up hbs, Chg.of_below b3, fun q hq => (hnl q hq).2, h.eq⟩
  have hgl := h.fs.lt
  have hkd := h.kinds
  have cK := (h.below b3).fs.cell (j := 2) rfl
  have cT := (h.below b3).fs.cell (j := 6) rfl
  clear h hS b1 b3 hbs hnl
  have die : ∀ (c : Int), argP 6 s = .error (c, k.pos) → ∀ W', Chg (fun q => q = g ∨ nv.ownBlock = some q) w W' → Hid (BehP base g b off n cap t d (fun r => r = argP 6 s) nv w (Pf c (k.pos : Int)) W') := fun c hc W' hW => ⟨hW, .inr ⟨c, k.pos, hc.symm, rfl⟩⟩
  by_cases hst : ∃ sx, k.k = .str sx
  case neg =>
    have zk : (((ftB k.k).toNat : Int) == 34) = false := by
      cases hq : k.k with
      | str sx => exact absurd ⟨sx, hq⟩ hst
      | sign c =>
        rw [hq] at hkd
        rcases hkd with q | q
        · rcases q with rfl | rfl | rfl | rfl | rfl | rfl <;> rfl
        · cases q
      | word _ => rfl
      | num _ => rfl
      | fin => rfl
      | bad => rfl
    have HD := die 3 (argP_nostr (by omega) (by omega) HW0.out.2.2.2.2.2 (fun sx q => hst ⟨sx, q⟩)) W0 HW0.out.2.2.2.1
    obtain ⟨kb, hkb⟩ : ∃ kb : Int, kb = ((ftB k.k).toNat : Int) := ⟨_, rfl⟩
    rw [← hkb] at zk cK
    clear die hst hkd hkb
    go_enter Tryz.func117, Tryz.ntmps117
    go_upto_region 2 with fail
    rw [← hW0]
    clear hW0
    go_wp2_with fail
    refine (fdem_no HW0.out.2.1 3).mono ?_
    rintro e w2 ⟨rfl, hw2⟩
    rw [hw2]
    clear hw2
    exact ⟨rfl, HD.out⟩
  case pos =>
  obtain ⟨sx, hsx⟩ := hst
  have hk34 : ftB k.k = 34 := by rw [hsx]; rfl
  have htx : k.k.txt = sx := by rw [hsx]; rfl
  rw [hk34] at cK
  rw [htx] at cT
  have hsz : sx.size ≤ 200 := by
    rw [hsx] at hkd
    rcases hkd with q | q
    · exact q
    · cases q
  have Hfin : Hid (k.k.isFin = false) := by show _ = _; rw [hsx]; rfl
  have HAr : Hid (((checkM (sb sx)).1 = 0 → argP 6 s = (match takeF s.ks with
      | .error e => .error e
      | .ok k2 => .ok ({ s with ks := k2 }, patN 6 sx))) ∧ (¬ (checkM (sb sx)).1 = 0 → argP 6 s = .error (6, k.pos))) := argP_str (by omega) (by omega) HW0.out.2.2.2.2.2 hsx
  have HCk : Hid (Calls Tryz.prog 119 #[.string sx] W0 fun e w' => e = .returned (.agg #[.int .i64 (checkM (sb sx)).1, .int .i64 ((checkM (sb sx)).2 : Int)]) ∧ Below W0.heap.size W0 w') := implCheck_core sx W0 (by unfold maxLen; omega)
  obtain ⟨er, her⟩ : ∃ er : Int, er = (checkM (sb sx)).1 := ⟨_, rfl⟩
  obtain ⟨ea, hea⟩ : ∃ ea : Int, ea = ((checkM (sb sx)).2 : Int) := ⟨_, rfl⟩
  rw [← her] at HAr
  rw [← her, ← hea] at HCk
  have htv : Hid (ftV k = [.int .u8 34, .int .i64 (k.pos : Int), .int .i64 0, .int .u64 0, .string sx]) := by show _ = _; unfold ftV; rw [hk34, htx, hsx]; rfl
  clear hkd hk34 htx hsx her hea
  go_enter Tryz.func117, Tryz.ntmps117
  go_upto_region 2 with fail
  rw [← hW0]
  clear hW0
  go_wp2_with fail
  refine (fdem_yes _ 3 W0).mono ?_
  rintro e w2 ⟨rfl, hw2⟩
  rw [hw2]
  clear hw2
  go_wp2_with fail
  refine HCk.out.mono ?_
  rintro e w2 ⟨rfl, hb2⟩
  have H2 : Hid (Fp base g b off n cap t d s k ks p nv w2 ∧ FpS base b off n cap t w2 ∧ BoxAt w2 w.heap.size 65 7 w.heap.size [.int .i64 0, .string ⟨#[]⟩, .bool false, .string ⟨#[]⟩, .int .u64 0, .int .u64 0, .int .i64 0] ∧ Chg (fun q => q = g ∨ nv.ownBlock = some q) w w2) := ⟨HW0.out.2.1.below hb2, HW0.out.2.2.1.up (hb2.mono HW0.out.2.2.1.sz), HW0.out.1.below hb2, Chg.comp HW0.out.2.2.2.1 (Chg.of_below hb2 (S := fun _ => False)) (fun q _ z => z.elim)⟩
  have hfd : ∀ wz : World, (Instr.field 125 (.agg #[.int .i64 er, .int .i64 ea]) 0).run Tryz.prog wz = .ok (.int .i64 er) wz := fun wz => by kernel_rfl
  have hfd2 := hfd w2
  clear hb2 HCk cK cT hfd
  by_cases he : er = 0
  case neg =>
    have ze : (er == 0) = false := by simpa using he
    have HD := die 6 (HAr.out.2 he) w2 H2.out.2.2.2
    clear die he
    go_wp2_with fail
    refine (fdem_no H2.out.1 6).mono ?_
    rintro e w3 ⟨rfl, hw3⟩
    rw [hw3]
    clear hw3
    exact ⟨rfl, HD.out⟩
  case pos =>
  have ze : (er == 0) = true := by simpa using he
  have HTk : Hid (Calls Tryz.prog 114 #[.pointer (some ⟨g, 0, none⟩)] w2 (TakP base g b off n cap t d s k nv w2)) := ftake_core H2.out.2.1 H2.out.1 Hfin.out
  have HAr2 : Hid (argP 6 s = (match takeF s.ks with
      | .error e => .error e
      | .ok k2 => .ok ({ s with ks := k2 }, patN 6 sx))) := HAr.out.1 he
  clear die he
  go_wp2_with fail
  refine (fdem_yes _ 6 w2).mono ?_
  rintro e w3 ⟨rfl, hw3⟩
  rw [hw3]
  clear hw3
  go_wp2_with fail
  refine HTk.out.mono ?_
  rintro e w3 ⟨Hb3, (⟨k2, ks2, p2, htk, rfl, hF3⟩ | ⟨c, a, htk, rfl⟩)⟩
  · have hBx := H2.out.2.2.1.chg Hb3.out (by omega)
    have HF3 : Hid (Fp base g b off n cap t d { s with ks := k2 :: ks2 } k2 ks2 p2 nv w3 ∧ takeF s.ks = .ok (k2 :: ks2) ∧ Chg (fun q => q = g) w2 w3) := ⟨hF3, htk, Hb3.out⟩
    have hfe : (Instr.field 52 (.agg (ftV k).toArray) 4).run Tryz.prog w3 = .ok (.string sx) w3 := by rw [htv.out]; kernel_rfl
    clear htk hF3 HTk
    have l0 := hBx.cell (j := 0) rfl
    have l1 := hBx.cell (j := 1) rfl
    have l2 := hBx.cell (j := 2) rfl
    have l3 := hBx.cell (j := 3) rfl
    have l4 := hBx.cell (j := 4) rfl
    have l5 := hBx.cell (j := 5) rfl
    have l6 := hBx.cell (j := 6) rfl
    have f0 := hBx.frozen 0
    have f1 := hBx.frozen 1
    have f2 := hBx.frozen 2
    have f3 := hBx.frozen 3
    have f4 := hBx.frozen 4
    have f5 := hBx.frozen 5
    have f6 := hBx.frozen 6
    obtain ⟨W9, hW9⟩ : ∃ V : World, V = setN w3 w.heap.size (patN 6 sx) := ⟨_, rfl⟩
    have hB9 := hBx.setN (patN 6 sx)
    rw [← hW9] at hB9
    have hc9 : Chg (fun q => q = w.heap.size) w3 W9 := by rw [hW9]; exact chg_setN _ _ _
    have HR : Hid (BehP base g b off n cap t d (fun r => r = argP 6 s) nv w (.returned (patN 6 sx).v) W9) := BehP.box (s1 := ⟨k2 :: ks2, s.made, s.out⟩) (by show _ = _; rw [HAr2.out, HF3.out.2.1]) HF3.out.1 (Chg.comp H2.out.2.2.2 HF3.out.2.2 (fun q _ z => .inl z)) (fun q hq => .inl hq) hc9 (by omega) (fun q hq z => by have := HW0.out.2.2.2.2.1 q hq; omega)
    have q0 := hB9.cell (j := 0) rfl
    have q1 := hB9.cell (j := 1) rfl
    have q2 := hB9.cell (j := 2) rfl
    have q3 := hB9.cell (j := 3) rfl
    have q4 := hB9.cell (j := 4) rfl
    have q5 := hB9.cell (j := 5) rfl
    have q6 := hB9.cell (j := 6) rfl
    unfold setN at hW9
    simp only [leafN, patN, cntN, noS] at hW9 q0 q1 q2 q3 q4 q5 q6
    clear hB9 hc9
    go_wp2_with fail
    rw [← hW9]
    exact bodyPost_ret (v := (patN 6 sx).v) (by simp [results, Tryz.results117, go_sem, q0, q1, q2, q3, q4, q5, q6, leafN, patN, cntN, noS]) rfl HR.out
  · have HD : Hid (BehP base g b off n cap t d (fun r => r = argP 6 s) nv w (Pf c (a : Int)) w3) := ⟨Chg.comp H2.out.2.2.2 Hb3.out (fun q _ z => .inl z), .inr ⟨c, a, by rw [HAr2.out, htk], rfl⟩⟩
    clear htk HTk
    exact ⟨rfl, HD.out⟩
set_option maxHeartbeats 8000000 in
theorem behind_7 {base g b off n cap : Nat} {t : List UInt8} {d : Nat} {s : Ps} {k : Tk} {ks : List Tk} {p : Nat} {nv : Value} {w : World} (hS : FpS base b off n cap t w) (h : Fp base g b off n cap t d s k ks p nv w) : Calls Tryz.prog 117 #[.pointer (some ⟨g, 0, none⟩), .int .i64 7] w (BehP base g b off n cap t d (fun r => r = argP 7 s) nv w) := by
  obtain ⟨W0, hW0⟩ : ∃ W0 : World, W0 = w.alloc (Obj.cells #[.int .i64 0, .string ⟨#[]⟩, .bool false, .string ⟨#[]⟩, .int .u64 0, .int .u64 0, .int .i64 0] 65) := ⟨_, rfl⟩
  have b3 : Below w.heap.size w W0 := by rw [hW0]; exact (Below.refl _ _).alloc (Nat.le_refl _) _
  have b1 : BoxAt W0 w.heap.size 65 7 w.heap.size [.int .i64 0, .string ⟨#[]⟩, .bool false, .string ⟨#[]⟩, .int .u64 0, .int .u64 0, .int .i64 0] := by rw [hW0]; exact boxAt_new w _ (Nat.le_refl _) rfl
  have hbs : Below base w W0 := b3.mono hS.sz
  have hnl := h.nlt
  have HW0 : Hid (BoxAt W0 w.heap.size 65 7 w.heap.size [.int .i64 0, .string ⟨#[]⟩, .bool false, .string ⟨#[]⟩, .int .u64 0, .int .u64 0, .int .i64 0] ∧ Fp base g b off n cap t d s k ks p nv W0 ∧ FpS base b off n cap t W0 ∧ Chg (fun q => q = g ∨ nv.ownBlock = some q) w W0 ∧ (∀ q, nv.ownBlock = some q → q < w.heap.size) ∧ s.ks = k :: ks) := ⟨b1, h.below b3, hS.up hbs, Chg.of_below b3, fun q hq => (hnl q hq).2, h.eq⟩
  have hgl := h.fs.lt
  have hkd := h.kinds
  have cK := (h.below b3).fs.cell (j := 2) rfl
  have cT := (h.below b3).fs.cell (j := 6) rfl
  clear h hS b1 b3 hbs hnl
  have die : ∀ (c : Int), argP 7 s = .error (c, k.pos) → ∀ W', Chg (fun q => q = g ∨ nv.ownBlock = some q) w W' → Hid (BehP base g b off n cap t d (fun r => r = argP 7 s) nv w (Pf c (k.pos : Int)) W') := fun c hc W' hW => ⟨hW, .inr ⟨c, k.pos, hc.symm, rfl⟩⟩
  by_cases hst : ∃ sx, k.k = .str sx
  case neg =>
    have zk : (((ftB k.k).toNat : Int) == 34) = false := by
      cases hq : k.k with
      | str sx => exact absurd ⟨sx, hq⟩ hst
      | sign c =>
        rw [hq] at hkd
        rcases hkd with q | q
        · rcases q with rfl | rfl | rfl | rfl | rfl | rfl <;> rfl
        · cases q
      | word _ => rfl
      | num _ => rfl
      | fin => rfl
      | bad => rfl
    have HD := die 3 (argP_nostr (by omega) (by omega) HW0.out.2.2.2.2.2 (fun sx q => hst ⟨sx, q⟩)) W0 HW0.out.2.2.2.1
    obtain ⟨kb, hkb⟩ : ∃ kb : Int, kb = ((ftB k.k).toNat : Int) := ⟨_, rfl⟩
    rw [← hkb] at zk cK
    clear die hst hkd hkb
    go_enter Tryz.func117, Tryz.ntmps117
    go_upto_region 2 with fail
    rw [← hW0]
    clear hW0
    go_wp2_with fail
    refine (fdem_no HW0.out.2.1 3).mono ?_
    rintro e w2 ⟨rfl, hw2⟩
    rw [hw2]
    clear hw2
    exact ⟨rfl, HD.out⟩
  case pos =>
  obtain ⟨sx, hsx⟩ := hst
  have hk34 : ftB k.k = 34 := by rw [hsx]; rfl
  have htx : k.k.txt = sx := by rw [hsx]; rfl
  rw [hk34] at cK
  rw [htx] at cT
  have hsz : sx.size ≤ 200 := by
    rw [hsx] at hkd
    rcases hkd with q | q
    · exact q
    · cases q
  have Hfin : Hid (k.k.isFin = false) := by show _ = _; rw [hsx]; rfl
  have HAr : Hid (((checkM (sb sx)).1 = 0 → argP 7 s = (match takeF s.ks with
      | .error e => .error e
      | .ok k2 => .ok ({ s with ks := k2 }, patN 7 sx))) ∧ (¬ (checkM (sb sx)).1 = 0 → argP 7 s = .error (6, k.pos))) := argP_str (by omega) (by omega) HW0.out.2.2.2.2.2 hsx
  have HCk : Hid (Calls Tryz.prog 119 #[.string sx] W0 fun e w' => e = .returned (.agg #[.int .i64 (checkM (sb sx)).1, .int .i64 ((checkM (sb sx)).2 : Int)]) ∧ Below W0.heap.size W0 w') := implCheck_core sx W0 (by unfold maxLen; omega)
  obtain ⟨er, her⟩ : ∃ er : Int, er = (checkM (sb sx)).1 := ⟨_, rfl⟩
  obtain ⟨ea, hea⟩ : ∃ ea : Int, ea = ((checkM (sb sx)).2 : Int) := ⟨_, rfl⟩
  rw [← her] at HAr
  rw [← her, ← hea] at HCk
  have htv : Hid (ftV k = [.int .u8 34, .int .i64 (k.pos : Int), .int .i64 0, .int .u64 0, .string sx]) := by show _ = _; unfold ftV; rw [hk34, htx, hsx]; rfl
  clear hkd hk34 htx hsx her hea
  go_enter Tryz.func117, Tryz.ntmps117
  go_upto_region 2 with fail
  rw [← hW0]
  clear hW0
  go_wp2_with fail
  refine (fdem_yes _ 3 W0).mono ?_
  rintro e w2 ⟨rfl, hw2⟩
  rw [hw2]
  clear hw2
  go_wp2_with fail
  refine HCk.out.mono ?_
  rintro e w2 ⟨rfl, hb2⟩
  have H2 : Hid (Fp base g b off n cap t d s k ks p nv w2 ∧ FpS base b off n cap t w2 ∧ BoxAt w2 w.heap.size 65 7 w.heap.size [.int .i64 0, .string ⟨#[]⟩, .bool false, .string ⟨#[]⟩, .int .u64 0, .int .u64 0, .int .i64 0] ∧ Chg (fun q => q = g ∨ nv.ownBlock = some q) w w2) := ⟨HW0.out.2.1.below hb2, HW0.out.2.2.1.up (hb2.mono HW0.out.2.2.1.sz), HW0.out.1.below hb2, Chg.comp HW0.out.2.2.2.1 (Chg.of_below hb2 (S := fun _ => False)) (fun q _ z => z.elim)⟩
  have hfd : ∀ wz : World, (Instr.field 125 (.agg #[.int .i64 er, .int .i64 ea]) 0).run Tryz.prog wz = .ok (.int .i64 er) wz := fun wz => by kernel_rfl
  have hfd2 := hfd w2
  clear hb2 HCk cK cT hfd
  by_cases he : er = 0
  case neg =>
    have ze : (er == 0) = false := by simpa using he
    have HD := die 6 (HAr.out.2 he) w2 H2.out.2.2.2
    clear die he
    go_wp2_with fail
    refine (fdem_no H2.out.1 6).mono ?_
    rintro e w3 ⟨rfl, hw3⟩
    rw [hw3]
    clear hw3
    exact ⟨rfl, HD.out⟩
  case pos =>
  have ze : (er == 0) = true := by simpa using he
  have HTk : Hid (Calls Tryz.prog 114 #[.pointer (some ⟨g, 0, none⟩)] w2 (TakP base g b off n cap t d s k nv w2)) := ftake_core H2.out.2.1 H2.out.1 Hfin.out
  have HAr2 : Hid (argP 7 s = (match takeF s.ks with
      | .error e => .error e
      | .ok k2 => .ok ({ s with ks := k2 }, patN 7 sx))) := HAr.out.1 he
  clear die he
  go_wp2_with fail
  refine (fdem_yes _ 6 w2).mono ?_
  rintro e w3 ⟨rfl, hw3⟩
  rw [hw3]
  clear hw3
  go_wp2_with fail
  refine HTk.out.mono ?_
  rintro e w3 ⟨Hb3, (⟨k2, ks2, p2, htk, rfl, hF3⟩ | ⟨c, a, htk, rfl⟩)⟩
  · have hBx := H2.out.2.2.1.chg Hb3.out (by omega)
    have HF3 : Hid (Fp base g b off n cap t d { s with ks := k2 :: ks2 } k2 ks2 p2 nv w3 ∧ takeF s.ks = .ok (k2 :: ks2) ∧ Chg (fun q => q = g) w2 w3) := ⟨hF3, htk, Hb3.out⟩
    have hfe : (Instr.field 52 (.agg (ftV k).toArray) 4).run Tryz.prog w3 = .ok (.string sx) w3 := by rw [htv.out]; kernel_rfl
    clear htk hF3 HTk
    have l0 := hBx.cell (j := 0) rfl
    have l1 := hBx.cell (j := 1) rfl
    have l2 := hBx.cell (j := 2) rfl
    have l3 := hBx.cell (j := 3) rfl
    have l4 := hBx.cell (j := 4) rfl
    have l5 := hBx.cell (j := 5) rfl
    have l6 := hBx.cell (j := 6) rfl
    have f0 := hBx.frozen 0
    have f1 := hBx.frozen 1
    have f2 := hBx.frozen 2
    have f3 := hBx.frozen 3
    have f4 := hBx.frozen 4
    have f5 := hBx.frozen 5
    have f6 := hBx.frozen 6
    obtain ⟨W9, hW9⟩ : ∃ V : World, V = setN w3 w.heap.size (patN 7 sx) := ⟨_, rfl⟩
    have hB9 := hBx.setN (patN 7 sx)
    rw [← hW9] at hB9
    have hc9 : Chg (fun q => q = w.heap.size) w3 W9 := by rw [hW9]; exact chg_setN _ _ _
    have HR : Hid (BehP base g b off n cap t d (fun r => r = argP 7 s) nv w (.returned (patN 7 sx).v) W9) := BehP.box (s1 := ⟨k2 :: ks2, s.made, s.out⟩) (by show _ = _; rw [HAr2.out, HF3.out.2.1]) HF3.out.1 (Chg.comp H2.out.2.2.2 HF3.out.2.2 (fun q _ z => .inl z)) (fun q hq => .inl hq) hc9 (by omega) (fun q hq z => by have := HW0.out.2.2.2.2.1 q hq; omega)
    have q0 := hB9.cell (j := 0) rfl
    have q1 := hB9.cell (j := 1) rfl
    have q2 := hB9.cell (j := 2) rfl
    have q3 := hB9.cell (j := 3) rfl
    have q4 := hB9.cell (j := 4) rfl
    have q5 := hB9.cell (j := 5) rfl
    have q6 := hB9.cell (j := 6) rfl
    unfold setN at hW9
    simp only [leafN, patN, cntN, noS] at hW9 q0 q1 q2 q3 q4 q5 q6
    clear hB9 hc9
    go_wp2_with fail
    rw [← hW9]
    exact bodyPost_ret (v := (patN 7 sx).v) (by simp [results, Tryz.results117, go_sem, q0, q1, q2, q3, q4, q5, q6, leafN, patN, cntN, noS]) rfl HR.out
  · have HD : Hid (BehP base g b off n cap t d (fun r => r = argP 7 s) nv w (Pf c (a : Int)) w3) := ⟨Chg.comp H2.out.2.2.2 Hb3.out (fun q _ z => .inl z), .inr ⟨c, a, by rw [HAr2.out, htk], rfl⟩⟩
    clear htk HTk
    exact ⟨rfl, HD.out⟩
set_option maxHeartbeats 8000000 in
theorem behind_11 {base g b off n cap : Nat} {t : List UInt8} {d : Nat} {s : Ps} {k : Tk} {ks : List Tk} {p : Nat} {nv : Value} {w : World} (hS : FpS base b off n cap t w) (h : Fp base g b off n cap t d s k ks p nv w) : Calls Tryz.prog 117 #[.pointer (some ⟨g, 0, none⟩), .int .i64 11] w (BehP base g b off n cap t d (fun r => r = argP 11 s) nv w) := by
  obtain ⟨W0, hW0⟩ : ∃ W0 : World, W0 = w.alloc (Obj.cells #[.int .i64 0, .string ⟨#[]⟩, .bool false, .string ⟨#[]⟩, .int .u64 0, .int .u64 0, .int .i64 0] 65) := ⟨_, rfl⟩
  have b3 : Below w.heap.size w W0 := by rw [hW0]; exact (Below.refl _ _).alloc (Nat.le_refl _) _
  have b1 : BoxAt W0 w.heap.size 65 7 w.heap.size [.int .i64 0, .string ⟨#[]⟩, .bool false, .string ⟨#[]⟩, .int .u64 0, .int .u64 0, .int .i64 0] := by rw [hW0]; exact boxAt_new w _ (Nat.le_refl _) rfl
  have hbs : Below base w W0 := b3.mono hS.sz
  have hnl := h.nlt
  have HW0 : Hid (BoxAt W0 w.heap.size 65 7 w.heap.size [.int .i64 0, .string ⟨#[]⟩, .bool false, .string ⟨#[]⟩, .int .u64 0, .int .u64 0, .int .i64 0] ∧ Fp base g b off n cap t d s k ks p nv W0 ∧ FpS base b off n cap t W0 ∧ Chg (fun q => q = g ∨ nv.ownBlock = some q) w W0 ∧ (∀ q, nv.ownBlock = some q → q < w.heap.size) ∧ s.ks = k :: ks) := ⟨b1, h.below b3, hS.up hbs, Chg.of_below b3, fun q hq => (hnl q hq).2, h.eq⟩
  have hgl := h.fs.lt
  have hkd := h.kinds
  have cK := (h.below b3).fs.cell (j := 2) rfl
  have cT := (h.below b3).fs.cell (j := 5) rfl
  clear h hS b1 b3 hbs hnl
  have die : ∀ (c : Int), argP 11 s = .error (c, k.pos) → ∀ W', Chg (fun q => q = g ∨ nv.ownBlock = some q) w W' → Hid (BehP base g b off n cap t d (fun r => r = argP 11 s) nv w (Pf c (k.pos : Int)) W') := fun c hc W' hW => ⟨hW, .inr ⟨c, k.pos, hc.symm, rfl⟩⟩
  by_cases hst : ∃ v, k.k = .num v
  case neg =>
    have zk : (((ftB k.k).toNat : Int) == 48) = false := by
      cases hq : k.k with
      | num v => exact absurd ⟨v, hq⟩ hst
      | sign c =>
        rw [hq] at hkd
        rcases hkd with q | q
        · rcases q with rfl | rfl | rfl | rfl | rfl | rfl <;> rfl
        · cases q
      | word _ => rfl
      | str _ => rfl
      | fin => rfl
      | bad => rfl
    have HD := die 3 (argP_nonum (by omega) HW0.out.2.2.2.2.2 (fun v q => hst ⟨v, q⟩)) W0 HW0.out.2.2.2.1
    obtain ⟨kb, hkb⟩ : ∃ kb : Int, kb = ((ftB k.k).toNat : Int) := ⟨_, rfl⟩
    rw [← hkb] at zk cK
    clear die hst hkd hkb
    go_enter Tryz.func117, Tryz.ntmps117
    go_upto_region 2 with fail
    rw [← hW0]
    clear hW0
    go_wp2_with fail
    refine (fdem_no HW0.out.2.1 3).mono ?_
    rintro e w2 ⟨rfl, hw2⟩
    rw [hw2]
    clear hw2
    exact ⟨rfl, HD.out⟩
  case pos =>
  obtain ⟨v, hsx⟩ := hst
  have hk34 : ftB k.k = 48 := by rw [hsx]; rfl
  have htx : k.k.nm = v := by rw [hsx]; rfl
  rw [hk34] at cK
  rw [htx] at cT
  have Hfin : Hid (k.k.isFin = false) := by show _ = _; rw [hsx]; rfl
  have HAr : Hid (((1 ≤ v ∧ v ≤ 1000) → argP 11 s = (match takeF s.ks with
      | .error e => .error e
      | .ok k2 => .ok ({ s with ks := k2 }, cntN 11 v))) ∧ (¬ (1 ≤ v ∧ v ≤ 1000) → argP 11 s = .error (8, k.pos))) := argP_num (by omega) HW0.out.2.2.2.2.2 hsx
  have htv : Hid (ftV k = [.int .u8 48, .int .i64 (k.pos : Int), .int .i64 0, .int .u64 v, .string ⟨#[]⟩]) := by show _ = _; unfold ftV; rw [hk34, htx, hsx]; rfl
  clear hkd hk34 htx hsx
  by_cases hv : 1 ≤ v ∧ v ≤ 1000
  case neg =>
    have HD := die 8 (HAr.out.2 hv) W0 HW0.out.2.2.2.1
    by_cases h1 : 1 ≤ v
    · have z1 : decide ((1 : Int) ≤ v) = true := decide_eq_true h1
      have z2 : decide (v ≤ (1000 : Int)) = false := decide_eq_false (fun q => hv ⟨h1, q⟩)
      clear die hv
      go_enter Tryz.func117, Tryz.ntmps117
      go_upto_region 2 with fail
      rw [← hW0]
      clear hW0
      go_wp2_with fail
      refine (fdem_yes _ 3 W0).mono ?_
      rintro e w2 ⟨rfl, hw2⟩
      rw [hw2]
      clear hw2
      go_wp2_with fail
      refine (fdem_no HW0.out.2.1 8).mono ?_
      rintro e w2 ⟨rfl, hw2⟩
      rw [hw2]
      clear hw2
      exact ⟨rfl, HD.out⟩
    · have z1 : decide ((1 : Int) ≤ v) = false := decide_eq_false h1
      clear die hv
      go_enter Tryz.func117, Tryz.ntmps117
      go_upto_region 2 with fail
      rw [← hW0]
      clear hW0
      go_wp2_with fail
      refine (fdem_yes _ 3 W0).mono ?_
      rintro e w2 ⟨rfl, hw2⟩
      rw [hw2]
      clear hw2
      go_wp2_with fail
      refine (fdem_no HW0.out.2.1 8).mono ?_
      rintro e w2 ⟨rfl, hw2⟩
      rw [hw2]
      clear hw2
      exact ⟨rfl, HD.out⟩
  case pos =>
  have z1 : decide ((1 : Int) ≤ v) = true := decide_eq_true hv.1
  have z2 : decide (v ≤ (1000 : Int)) = true := decide_eq_true hv.2
  have HAr2 : Hid (argP 11 s = (match takeF s.ks with
      | .error e => .error e
      | .ok k2 => .ok ({ s with ks := k2 }, cntN 11 v))) := HAr.out.1 hv
  have HTk : Hid (Calls Tryz.prog 114 #[.pointer (some ⟨g, 0, none⟩)] W0 (TakP base g b off n cap t d s k nv W0)) := ftake_core HW0.out.2.2.1 HW0.out.2.1 Hfin.out
  have zv : IntKind.i64.wrap v = v := wrap64 (by omega) (by omega)
  clear die
  go_enter Tryz.func117, Tryz.ntmps117
  go_upto_region 2 with fail
  rw [← hW0]
  clear hW0
  go_wp2_with fail
  refine (fdem_yes _ 3 W0).mono ?_
  rintro e w2 ⟨rfl, hw2⟩
  rw [hw2]
  clear hw2
  go_wp2_with fail
  refine (fdem_yes _ 8 W0).mono ?_
  rintro e w2 ⟨rfl, hw2⟩
  rw [hw2]
  clear hw2
  go_wp2_with fail
  refine HTk.out.mono ?_
  rintro e w3 ⟨Hb3, (⟨k2, ks2, p2, htk, rfl, hF3⟩ | ⟨c, a, htk, rfl⟩)⟩
  · have hBx := HW0.out.1.chg Hb3.out (by omega)
    have HF3 : Hid (Fp base g b off n cap t d { s with ks := k2 :: ks2 } k2 ks2 p2 nv w3 ∧ takeF s.ks = .ok (k2 :: ks2) ∧ Chg (fun q => q = g) W0 w3) := ⟨hF3, htk, Hb3.out⟩
    have hfe : (Instr.field 52 (.agg (ftV k).toArray) 3).run Tryz.prog w3 = .ok (.int .u64 v) w3 := by rw [htv.out]; kernel_rfl
    clear htk hF3 HTk cK cT
    have l0 := hBx.cell (j := 0) rfl
    have l1 := hBx.cell (j := 1) rfl
    have l2 := hBx.cell (j := 2) rfl
    have l3 := hBx.cell (j := 3) rfl
    have l4 := hBx.cell (j := 4) rfl
    have l5 := hBx.cell (j := 5) rfl
    have l6 := hBx.cell (j := 6) rfl
    have f0 := hBx.frozen 0
    have f1 := hBx.frozen 1
    have f2 := hBx.frozen 2
    have f3 := hBx.frozen 3
    have f4 := hBx.frozen 4
    have f5 := hBx.frozen 5
    have f6 := hBx.frozen 6
    obtain ⟨W9, hW9⟩ : ∃ V : World, V = setN w3 w.heap.size (cntN 11 v) := ⟨_, rfl⟩
    have hB9 := hBx.setN (cntN 11 v)
    rw [← hW9] at hB9
    have hc9 : Chg (fun q => q = w.heap.size) w3 W9 := by rw [hW9]; exact chg_setN _ _ _
    have HR : Hid (BehP base g b off n cap t d (fun r => r = argP 11 s) nv w (.returned (cntN 11 v).v) W9) := BehP.box (s1 := ⟨k2 :: ks2, s.made, s.out⟩) (by show _ = _; rw [HAr2.out, HF3.out.2.1]) HF3.out.1 (Chg.comp HW0.out.2.2.2.1 HF3.out.2.2 (fun q _ z => .inl z)) (fun q hq => .inl hq) hc9 (by omega) (fun q hq z => by have := HW0.out.2.2.2.2.1 q hq; omega)
    have q0 := hB9.cell (j := 0) rfl
    have q1 := hB9.cell (j := 1) rfl
    have q2 := hB9.cell (j := 2) rfl
    have q3 := hB9.cell (j := 3) rfl
    have q4 := hB9.cell (j := 4) rfl
    have q5 := hB9.cell (j := 5) rfl
    have q6 := hB9.cell (j := 6) rfl
    unfold setN at hW9
    simp only [leafN, patN, cntN, noS] at hW9 q0 q1 q2 q3 q4 q5 q6
    clear hB9 hc9
    go_wp2_with fail
    rw [← hW9]
    exact bodyPost_ret (v := (cntN 11 v).v) (by simp [results, Tryz.results117, go_sem, q0, q1, q2, q3, q4, q5, q6, leafN, patN, cntN, noS]) rfl HR.out
  · have HD : Hid (BehP base g b off n cap t d (fun r => r = argP 11 s) nv w (Pf c (a : Int)) w3) := ⟨Chg.comp HW0.out.2.2.2.1 Hb3.out (fun q _ z => .inl z), .inr ⟨c, a, by rw [HAr2.out, htk], rfl⟩⟩
    clear htk HTk
    exact ⟨rfl, HD.out⟩
set_option maxHeartbeats 8000000 in
theorem behind_12 {base g b off n cap : Nat} {t : List UInt8} {d : Nat} {s : Ps} {k : Tk} {ks : List Tk} {p : Nat} {nv : Value} {w : World} (hS : FpS base b off n cap t w) (h : Fp base g b off n cap t d s k ks p nv w) : Calls Tryz.prog 117 #[.pointer (some ⟨g, 0, none⟩), .int .i64 12] w (BehP base g b off n cap t d (fun r => r = argP 12 s) nv w) := by
  obtain ⟨W0, hW0⟩ : ∃ W0 : World, W0 = w.alloc (Obj.cells #[.int .i64 0, .string ⟨#[]⟩, .bool false, .string ⟨#[]⟩, .int .u64 0, .int .u64 0, .int .i64 0] 65) := ⟨_, rfl⟩
  have b3 : Below w.heap.size w W0 := by rw [hW0]; exact (Below.refl _ _).alloc (Nat.le_refl _) _
  have b1 : BoxAt W0 w.heap.size 65 7 w.heap.size [.int .i64 0, .string ⟨#[]⟩, .bool false, .string ⟨#[]⟩, .int .u64 0, .int .u64 0, .int .i64 0] := by rw [hW0]; exact boxAt_new w _ (Nat.le_refl _) rfl
  have hbs : Below base w W0 := b3.mono hS.sz
  have hnl := h.nlt
  have HW0 : Hid (BoxAt W0 w.heap.size 65 7 w.heap.size [.int .i64 0, .string ⟨#[]⟩, .bool false, .string ⟨#[]⟩, .int .u64 0, .int .u64 0, .int .i64 0] ∧ Fp base g b off n cap t d s k ks p nv W0 ∧ FpS base b off n cap t W0 ∧ Chg (fun q => q = g ∨ nv.ownBlock = some q) w W0 ∧ (∀ q, nv.ownBlock = some q → q < w.heap.size) ∧ s.ks = k :: ks) := ⟨b1, h.below b3, hS.up hbs, Chg.of_below b3, fun q hq => (hnl q hq).2, h.eq⟩
  have hgl := h.fs.lt
  have hkd := h.kinds
  have cK := (h.below b3).fs.cell (j := 2) rfl
  have cT := (h.below b3).fs.cell (j := 5) rfl
  clear h hS b1 b3 hbs hnl
  have die : ∀ (c : Int), argP 12 s = .error (c, k.pos) → ∀ W', Chg (fun q => q = g ∨ nv.ownBlock = some q) w W' → Hid (BehP base g b off n cap t d (fun r => r = argP 12 s) nv w (Pf c (k.pos : Int)) W') := fun c hc W' hW => ⟨hW, .inr ⟨c, k.pos, hc.symm, rfl⟩⟩
  by_cases hst : ∃ v, k.k = .num v
  case neg =>
    have zk : (((ftB k.k).toNat : Int) == 48) = false := by
      cases hq : k.k with
      | num v => exact absurd ⟨v, hq⟩ hst
      | sign c =>
        rw [hq] at hkd
        rcases hkd with q | q
        · rcases q with rfl | rfl | rfl | rfl | rfl | rfl <;> rfl
        · cases q
      | word _ => rfl
      | str _ => rfl
      | fin => rfl
      | bad => rfl
    have HD := die 3 (argP_nonum (by omega) HW0.out.2.2.2.2.2 (fun v q => hst ⟨v, q⟩)) W0 HW0.out.2.2.2.1
    obtain ⟨kb, hkb⟩ : ∃ kb : Int, kb = ((ftB k.k).toNat : Int) := ⟨_, rfl⟩
    rw [← hkb] at zk cK
    clear die hst hkd hkb
    go_enter Tryz.func117, Tryz.ntmps117
    go_upto_region 2 with fail
    rw [← hW0]
    clear hW0
    go_wp2_with fail
    refine (fdem_no HW0.out.2.1 3).mono ?_
    rintro e w2 ⟨rfl, hw2⟩
    rw [hw2]
    clear hw2
    exact ⟨rfl, HD.out⟩
  case pos =>
  obtain ⟨v, hsx⟩ := hst
  have hk34 : ftB k.k = 48 := by rw [hsx]; rfl
  have htx : k.k.nm = v := by rw [hsx]; rfl
  rw [hk34] at cK
  rw [htx] at cT
  have Hfin : Hid (k.k.isFin = false) := by show _ = _; rw [hsx]; rfl
  have HAr : Hid (((1 ≤ v ∧ v ≤ 1000) → argP 12 s = (match takeF s.ks with
      | .error e => .error e
      | .ok k2 => .ok ({ s with ks := k2 }, cntN 12 v))) ∧ (¬ (1 ≤ v ∧ v ≤ 1000) → argP 12 s = .error (8, k.pos))) := argP_num (by omega) HW0.out.2.2.2.2.2 hsx
  have htv : Hid (ftV k = [.int .u8 48, .int .i64 (k.pos : Int), .int .i64 0, .int .u64 v, .string ⟨#[]⟩]) := by show _ = _; unfold ftV; rw [hk34, htx, hsx]; rfl
  clear hkd hk34 htx hsx
  by_cases hv : 1 ≤ v ∧ v ≤ 1000
  case neg =>
    have HD := die 8 (HAr.out.2 hv) W0 HW0.out.2.2.2.1
    by_cases h1 : 1 ≤ v
    · have z1 : decide ((1 : Int) ≤ v) = true := decide_eq_true h1
      have z2 : decide (v ≤ (1000 : Int)) = false := decide_eq_false (fun q => hv ⟨h1, q⟩)
      clear die hv
      go_enter Tryz.func117, Tryz.ntmps117
      go_upto_region 2 with fail
      rw [← hW0]
      clear hW0
      go_wp2_with fail
      refine (fdem_yes _ 3 W0).mono ?_
      rintro e w2 ⟨rfl, hw2⟩
      rw [hw2]
      clear hw2
      go_wp2_with fail
      refine (fdem_no HW0.out.2.1 8).mono ?_
      rintro e w2 ⟨rfl, hw2⟩
      rw [hw2]
      clear hw2
      exact ⟨rfl, HD.out⟩
    · have z1 : decide ((1 : Int) ≤ v) = false := decide_eq_false h1
      clear die hv
      go_enter Tryz.func117, Tryz.ntmps117
      go_upto_region 2 with fail
      rw [← hW0]
      clear hW0
      go_wp2_with fail
      refine (fdem_yes _ 3 W0).mono ?_
      rintro e w2 ⟨rfl, hw2⟩
      rw [hw2]
      clear hw2
      go_wp2_with fail
      refine (fdem_no HW0.out.2.1 8).mono ?_
      rintro e w2 ⟨rfl, hw2⟩
      rw [hw2]
      clear hw2
      exact ⟨rfl, HD.out⟩
  case pos =>
  have z1 : decide ((1 : Int) ≤ v) = true := decide_eq_true hv.1
  have z2 : decide (v ≤ (1000 : Int)) = true := decide_eq_true hv.2
  have HAr2 : Hid (argP 12 s = (match takeF s.ks with
      | .error e => .error e
      | .ok k2 => .ok ({ s with ks := k2 }, cntN 12 v))) := HAr.out.1 hv
  have HTk : Hid (Calls Tryz.prog 114 #[.pointer (some ⟨g, 0, none⟩)] W0 (TakP base g b off n cap t d s k nv W0)) := ftake_core HW0.out.2.2.1 HW0.out.2.1 Hfin.out
  have zv : IntKind.i64.wrap v = v := wrap64 (by omega) (by omega)
  clear die
  go_enter Tryz.func117, Tryz.ntmps117
  go_upto_region 2 with fail
  rw [← hW0]
  clear hW0
  go_wp2_with fail
  refine (fdem_yes _ 3 W0).mono ?_
  rintro e w2 ⟨rfl, hw2⟩
  rw [hw2]
  clear hw2
  go_wp2_with fail
  refine (fdem_yes _ 8 W0).mono ?_
  rintro e w2 ⟨rfl, hw2⟩
  rw [hw2]
  clear hw2
  go_wp2_with fail
  refine HTk.out.mono ?_
  rintro e w3 ⟨Hb3, (⟨k2, ks2, p2, htk, rfl, hF3⟩ | ⟨c, a, htk, rfl⟩)⟩
  · have hBx := HW0.out.1.chg Hb3.out (by omega)
    have HF3 : Hid (Fp base g b off n cap t d { s with ks := k2 :: ks2 } k2 ks2 p2 nv w3 ∧ takeF s.ks = .ok (k2 :: ks2) ∧ Chg (fun q => q = g) W0 w3) := ⟨hF3, htk, Hb3.out⟩
    have hfe : (Instr.field 52 (.agg (ftV k).toArray) 3).run Tryz.prog w3 = .ok (.int .u64 v) w3 := by rw [htv.out]; kernel_rfl
    clear htk hF3 HTk cK cT
    have l0 := hBx.cell (j := 0) rfl
    have l1 := hBx.cell (j := 1) rfl
    have l2 := hBx.cell (j := 2) rfl
    have l3 := hBx.cell (j := 3) rfl
    have l4 := hBx.cell (j := 4) rfl
    have l5 := hBx.cell (j := 5) rfl
    have l6 := hBx.cell (j := 6) rfl
    have f0 := hBx.frozen 0
    have f1 := hBx.frozen 1
    have f2 := hBx.frozen 2
    have f3 := hBx.frozen 3
    have f4 := hBx.frozen 4
    have f5 := hBx.frozen 5
    have f6 := hBx.frozen 6
    obtain ⟨W9, hW9⟩ : ∃ V : World, V = setN w3 w.heap.size (cntN 12 v) := ⟨_, rfl⟩
    have hB9 := hBx.setN (cntN 12 v)
    rw [← hW9] at hB9
    have hc9 : Chg (fun q => q = w.heap.size) w3 W9 := by rw [hW9]; exact chg_setN _ _ _
    have HR : Hid (BehP base g b off n cap t d (fun r => r = argP 12 s) nv w (.returned (cntN 12 v).v) W9) := BehP.box (s1 := ⟨k2 :: ks2, s.made, s.out⟩) (by show _ = _; rw [HAr2.out, HF3.out.2.1]) HF3.out.1 (Chg.comp HW0.out.2.2.2.1 HF3.out.2.2 (fun q _ z => .inl z)) (fun q hq => .inl hq) hc9 (by omega) (fun q hq z => by have := HW0.out.2.2.2.2.1 q hq; omega)
    have q0 := hB9.cell (j := 0) rfl
    have q1 := hB9.cell (j := 1) rfl
    have q2 := hB9.cell (j := 2) rfl
    have q3 := hB9.cell (j := 3) rfl
    have q4 := hB9.cell (j := 4) rfl
    have q5 := hB9.cell (j := 5) rfl
    have q6 := hB9.cell (j := 6) rfl
    unfold setN at hW9
    simp only [leafN, patN, cntN, noS] at hW9 q0 q1 q2 q3 q4 q5 q6
    clear hB9 hc9
    go_wp2_with fail
    rw [← hW9]
    exact bodyPost_ret (v := (cntN 12 v).v) (by simp [results, Tryz.results117, go_sem, q0, q1, q2, q3, q4, q5, q6, leafN, patN, cntN, noS]) rfl HR.out
  · have HD : Hid (BehP base g b off n cap t d (fun r => r = argP 12 s) nv w (Pf c (a : Int)) w3) := ⟨Chg.comp HW0.out.2.2.2.1 Hb3.out (fun q _ z => .inl z), .inr ⟨c, a, by rw [HAr2.out, htk], rfl⟩⟩
    clear htk HTk
    exact ⟨rfl, HD.out⟩
set_option maxHeartbeats 8000000 in
theorem behind_13 {base g b off n cap : Nat} {t : List UInt8} {d : Nat} {s : Ps} {k : Tk} {ks : List Tk} {p : Nat} {nv : Value} {w : World} (hS : FpS base b off n cap t w) (h : Fp base g b off n cap t d s k ks p nv w) : Calls Tryz.prog 117 #[.pointer (some ⟨g, 0, none⟩), .int .i64 13] w (BehP base g b off n cap t d (fun r => r = argP 13 s) nv w) := by
  obtain ⟨W0, hW0⟩ : ∃ W0 : World, W0 = w.alloc (Obj.cells #[.int .i64 0, .string ⟨#[]⟩, .bool false, .string ⟨#[]⟩, .int .u64 0, .int .u64 0, .int .i64 0] 65) := ⟨_, rfl⟩
  have b3 : Below w.heap.size w W0 := by rw [hW0]; exact (Below.refl _ _).alloc (Nat.le_refl _) _
  have b1 : BoxAt W0 w.heap.size 65 7 w.heap.size [.int .i64 0, .string ⟨#[]⟩, .bool false, .string ⟨#[]⟩, .int .u64 0, .int .u64 0, .int .i64 0] := by rw [hW0]; exact boxAt_new w _ (Nat.le_refl _) rfl
  have hbs : Below base w W0 := b3.mono hS.sz
  have hnl := h.nlt
  have HW0 : Hid (BoxAt W0 w.heap.size 65 7 w.heap.size [.int .i64 0, .string ⟨#[]⟩, .bool false, .string ⟨#[]⟩, .int .u64 0, .int .u64 0, .int .i64 0] ∧ Fp base g b off n cap t d s k ks p nv W0 ∧ FpS base b off n cap t W0 ∧ Chg (fun q => q = g ∨ nv.ownBlock = some q) w W0 ∧ (∀ q, nv.ownBlock = some q → q < w.heap.size) ∧ s.ks = k :: ks) := ⟨b1, h.below b3, hS.up hbs, Chg.of_below b3, fun q hq => (hnl q hq).2, h.eq⟩
  have hgl := h.fs.lt
  have hkd := h.kinds
  have cK := (h.below b3).fs.cell (j := 2) rfl
  have cT := (h.below b3).fs.cell (j := 5) rfl
  clear h hS b1 b3 hbs hnl
  have die : ∀ (c : Int), argP 13 s = .error (c, k.pos) → ∀ W', Chg (fun q => q = g ∨ nv.ownBlock = some q) w W' → Hid (BehP base g b off n cap t d (fun r => r = argP 13 s) nv w (Pf c (k.pos : Int)) W') := fun c hc W' hW => ⟨hW, .inr ⟨c, k.pos, hc.symm, rfl⟩⟩
  by_cases hst : ∃ v, k.k = .num v
  case neg =>
    have zk : (((ftB k.k).toNat : Int) == 48) = false := by
      cases hq : k.k with
      | num v => exact absurd ⟨v, hq⟩ hst
      | sign c =>
        rw [hq] at hkd
        rcases hkd with q | q
        · rcases q with rfl | rfl | rfl | rfl | rfl | rfl <;> rfl
        · cases q
      | word _ => rfl
      | str _ => rfl
      | fin => rfl
      | bad => rfl
    have HD := die 3 (argP_nonum (by omega) HW0.out.2.2.2.2.2 (fun v q => hst ⟨v, q⟩)) W0 HW0.out.2.2.2.1
    obtain ⟨kb, hkb⟩ : ∃ kb : Int, kb = ((ftB k.k).toNat : Int) := ⟨_, rfl⟩
    rw [← hkb] at zk cK
    clear die hst hkd hkb
    go_enter Tryz.func117, Tryz.ntmps117
    go_upto_region 2 with fail
    rw [← hW0]
    clear hW0
    go_wp2_with fail
    refine (fdem_no HW0.out.2.1 3).mono ?_
    rintro e w2 ⟨rfl, hw2⟩
    rw [hw2]
    clear hw2
    exact ⟨rfl, HD.out⟩
  case pos =>
  obtain ⟨v, hsx⟩ := hst
  have hk34 : ftB k.k = 48 := by rw [hsx]; rfl
  have htx : k.k.nm = v := by rw [hsx]; rfl
  rw [hk34] at cK
  rw [htx] at cT
  have Hfin : Hid (k.k.isFin = false) := by show _ = _; rw [hsx]; rfl
  have HAr : Hid (((1 ≤ v ∧ v ≤ 1000) → argP 13 s = (match takeF s.ks with
      | .error e => .error e
      | .ok k2 => .ok ({ s with ks := k2 }, cntN 13 v))) ∧ (¬ (1 ≤ v ∧ v ≤ 1000) → argP 13 s = .error (8, k.pos))) := argP_num (by omega) HW0.out.2.2.2.2.2 hsx
  have htv : Hid (ftV k = [.int .u8 48, .int .i64 (k.pos : Int), .int .i64 0, .int .u64 v, .string ⟨#[]⟩]) := by show _ = _; unfold ftV; rw [hk34, htx, hsx]; rfl
  clear hkd hk34 htx hsx
  by_cases hv : 1 ≤ v ∧ v ≤ 1000
  case neg =>
    have HD := die 8 (HAr.out.2 hv) W0 HW0.out.2.2.2.1
    by_cases h1 : 1 ≤ v
    · have z1 : decide ((1 : Int) ≤ v) = true := decide_eq_true h1
      have z2 : decide (v ≤ (1000 : Int)) = false := decide_eq_false (fun q => hv ⟨h1, q⟩)
      clear die hv
      go_enter Tryz.func117, Tryz.ntmps117
      go_upto_region 2 with fail
      rw [← hW0]
      clear hW0
      go_wp2_with fail
      refine (fdem_yes _ 3 W0).mono ?_
      rintro e w2 ⟨rfl, hw2⟩
      rw [hw2]
      clear hw2
      go_wp2_with fail
      refine (fdem_no HW0.out.2.1 8).mono ?_
      rintro e w2 ⟨rfl, hw2⟩
      rw [hw2]
      clear hw2
      exact ⟨rfl, HD.out⟩
    · have z1 : decide ((1 : Int) ≤ v) = false := decide_eq_false h1
      clear die hv
      go_enter Tryz.func117, Tryz.ntmps117
      go_upto_region 2 with fail
      rw [← hW0]
      clear hW0
      go_wp2_with fail
      refine (fdem_yes _ 3 W0).mono ?_
      rintro e w2 ⟨rfl, hw2⟩
      rw [hw2]
      clear hw2
      go_wp2_with fail
      refine (fdem_no HW0.out.2.1 8).mono ?_
      rintro e w2 ⟨rfl, hw2⟩
      rw [hw2]
      clear hw2
      exact ⟨rfl, HD.out⟩
  case pos =>
  have z1 : decide ((1 : Int) ≤ v) = true := decide_eq_true hv.1
  have z2 : decide (v ≤ (1000 : Int)) = true := decide_eq_true hv.2
  have HAr2 : Hid (argP 13 s = (match takeF s.ks with
      | .error e => .error e
      | .ok k2 => .ok ({ s with ks := k2 }, cntN 13 v))) := HAr.out.1 hv
  have HTk : Hid (Calls Tryz.prog 114 #[.pointer (some ⟨g, 0, none⟩)] W0 (TakP base g b off n cap t d s k nv W0)) := ftake_core HW0.out.2.2.1 HW0.out.2.1 Hfin.out
  have zv : IntKind.i64.wrap v = v := wrap64 (by omega) (by omega)
  clear die
  go_enter Tryz.func117, Tryz.ntmps117
  go_upto_region 2 with fail
  rw [← hW0]
  clear hW0
  go_wp2_with fail
  refine (fdem_yes _ 3 W0).mono ?_
  rintro e w2 ⟨rfl, hw2⟩
  rw [hw2]
  clear hw2
  go_wp2_with fail
  refine (fdem_yes _ 8 W0).mono ?_
  rintro e w2 ⟨rfl, hw2⟩
  rw [hw2]
  clear hw2
  go_wp2_with fail
  refine HTk.out.mono ?_
  rintro e w3 ⟨Hb3, (⟨k2, ks2, p2, htk, rfl, hF3⟩ | ⟨c, a, htk, rfl⟩)⟩
  · have hBx := HW0.out.1.chg Hb3.out (by omega)
    have HF3 : Hid (Fp base g b off n cap t d { s with ks := k2 :: ks2 } k2 ks2 p2 nv w3 ∧ takeF s.ks = .ok (k2 :: ks2) ∧ Chg (fun q => q = g) W0 w3) := ⟨hF3, htk, Hb3.out⟩
    have hfe : (Instr.field 52 (.agg (ftV k).toArray) 3).run Tryz.prog w3 = .ok (.int .u64 v) w3 := by rw [htv.out]; kernel_rfl
    clear htk hF3 HTk cK cT
    have l0 := hBx.cell (j := 0) rfl
    have l1 := hBx.cell (j := 1) rfl
    have l2 := hBx.cell (j := 2) rfl
    have l3 := hBx.cell (j := 3) rfl
    have l4 := hBx.cell (j := 4) rfl
    have l5 := hBx.cell (j := 5) rfl
    have l6 := hBx.cell (j := 6) rfl
    have f0 := hBx.frozen 0
    have f1 := hBx.frozen 1
    have f2 := hBx.frozen 2
    have f3 := hBx.frozen 3
    have f4 := hBx.frozen 4
    have f5 := hBx.frozen 5
    have f6 := hBx.frozen 6
    obtain ⟨W9, hW9⟩ : ∃ V : World, V = setN w3 w.heap.size (cntN 13 v) := ⟨_, rfl⟩
    have hB9 := hBx.setN (cntN 13 v)
    rw [← hW9] at hB9
    have hc9 : Chg (fun q => q = w.heap.size) w3 W9 := by rw [hW9]; exact chg_setN _ _ _
    have HR : Hid (BehP base g b off n cap t d (fun r => r = argP 13 s) nv w (.returned (cntN 13 v).v) W9) := BehP.box (s1 := ⟨k2 :: ks2, s.made, s.out⟩) (by show _ = _; rw [HAr2.out, HF3.out.2.1]) HF3.out.1 (Chg.comp HW0.out.2.2.2.1 HF3.out.2.2 (fun q _ z => .inl z)) (fun q hq => .inl hq) hc9 (by omega) (fun q hq z => by have := HW0.out.2.2.2.2.1 q hq; omega)
    have q0 := hB9.cell (j := 0) rfl
    have q1 := hB9.cell (j := 1) rfl
    have q2 := hB9.cell (j := 2) rfl
    have q3 := hB9.cell (j := 3) rfl
    have q4 := hB9.cell (j := 4) rfl
    have q5 := hB9.cell (j := 5) rfl
    have q6 := hB9.cell (j := 6) rfl
    unfold setN at hW9
    simp only [leafN, patN, cntN, noS] at hW9 q0 q1 q2 q3 q4 q5 q6
    clear hB9 hc9
    go_wp2_with fail
    rw [← hW9]
    exact bodyPost_ret (v := (cntN 13 v).v) (by simp [results, Tryz.results117, go_sem, q0, q1, q2, q3, q4, q5, q6, leafN, patN, cntN, noS]) rfl HR.out
  · have HD : Hid (BehP base g b off n cap t d (fun r => r = argP 13 s) nv w (Pf c (a : Int)) w3) := ⟨Chg.comp HW0.out.2.2.2.1 Hb3.out (fun q _ z => .inl z), .inr ⟨c, a, by rw [HAr2.out, htk], rfl⟩⟩
    clear htk HTk
    exact ⟨rfl, HD.out⟩
set_option maxHeartbeats 8000000 in
theorem behind_16 {base g b off n cap : Nat} {t : List UInt8} {d : Nat} {s : Ps} {k : Tk} {ks : List Tk} {p : Nat} {nv : Value} {w : World} (hS : FpS base b off n cap t w) (h : Fp base g b off n cap t d s k ks p nv w) {F : Ps → PR Ps → Prop} (HF : 0 < d → OprC base g b off n cap t (d - 1) 26 F) : Calls Tryz.prog 117 #[.pointer (some ⟨g, 0, none⟩), .int .i64 16] w (BehP base g b off n cap t d (fun r => (∃ s1, BranR F d s (.ok s1) ∧ r = .ok (s1, leafN 16)) ∨ (∃ e, BranR F d s (.error e) ∧ r = .error e)) nv w) := by
  obtain ⟨W0, hW0⟩ : ∃ W0 : World, W0 = w.alloc (Obj.cells #[.int .i64 0, .string ⟨#[]⟩, .bool false, .string ⟨#[]⟩, .int .u64 0, .int .u64 0, .int .i64 0] 65) := ⟨_, rfl⟩
  have b3 : Below w.heap.size w W0 := by rw [hW0]; exact (Below.refl _ _).alloc (Nat.le_refl _) _
  have b1 : BoxAt W0 w.heap.size 65 7 w.heap.size [.int .i64 0, .string ⟨#[]⟩, .bool false, .string ⟨#[]⟩, .int .u64 0, .int .u64 0, .int .i64 0] := by rw [hW0]; exact boxAt_new w _ (Nat.le_refl _) rfl
  have hbs : Below base w W0 := b3.mono hS.sz
  have hnl := h.nlt
  have HW0 : Hid (BoxAt W0 w.heap.size 65 7 w.heap.size [.int .i64 0, .string ⟨#[]⟩, .bool false, .string ⟨#[]⟩, .int .u64 0, .int .u64 0, .int .i64 0] ∧ Fp base g b off n cap t d s k ks p nv W0 ∧ FpS base b off n cap t W0 ∧ Chg (fun q => q = g ∨ nv.ownBlock = some q) w W0 ∧ (∀ q, nv.ownBlock = some q → q < w.heap.size) ∧ s.ks = k :: ks) := ⟨b1, h.below b3, hS.up hbs, Chg.of_below b3, fun q hq => (hnl q hq).2, h.eq⟩
  have hgl := h.fs.lt
  have HBr : Hid (Calls Tryz.prog 128 #[.pointer (some ⟨g, 0, none⟩)] W0 (FpO base g b off n cap t d (BranR F d s) (.tuple #[]) nv W0)) := branches_core HF HW0.out.2.2.1 HW0.out.2.1
  have hsz0 : w.heap.size < W0.heap.size := by rw [hW0]; simp
  clear h hS b1 b3 hbs hnl HF
  go_enter Tryz.func117, Tryz.ntmps117
  go_upto_region 2 with fail
  rw [← hW0]
  clear hW0
  go_wp2_with fail
  refine HBr.out.mono ?_
  rintro e w3 ⟨Hc3, (⟨s1, hs1, rfl, k2, ks2, p2, nv3, hF3, hn3⟩ | ⟨c, a, hs1, rfl⟩)⟩
  case inr =>
    have HD : Hid (BehP base g b off n cap t d (fun r => (∃ s1, BranR F d s (.ok s1) ∧ r = .ok (s1, leafN 16)) ∨ (∃ e, BranR F d s (.error e) ∧ r = .error e)) nv w (Pf c (a : Int)) w3) := ⟨Chg.comp HW0.out.2.2.2.1 Hc3.out (fun q _ z => z), .inr ⟨c, a, .inr ⟨_, hs1, rfl⟩, rfl⟩⟩
    clear hs1 HBr
    exact ⟨rfl, HD.out⟩
  have hBx := HW0.out.1.chg Hc3.out (fun z => by
    rcases z with z | z
    · omega
    · have := HW0.out.2.2.2.2.1 _ z; omega)
  have HF3 : Hid (Fp base g b off n cap t d s1 k2 ks2 p2 nv3 w3 ∧ BranR F d s (.ok s1) ∧ Chg (fun q => q = g ∨ nv.ownBlock = some q) w w3 ∧ (∀ q, nv3.ownBlock = some q → (nv.ownBlock = some q ∨ w.heap.size ≤ q) ∧ ¬ q = w.heap.size)) := ⟨hF3, hs1, Chg.comp HW0.out.2.2.2.1 Hc3.out (fun q _ z => z), fun q hq => by
    rcases hn3 q hq with y | y
    · have := HW0.out.2.2.2.2.1 q y
      exact ⟨.inl y, by omega⟩
    · exact ⟨.inr (by omega), by omega⟩⟩
  clear hs1 hF3 hn3 HBr
  have l0 := hBx.cell (j := 0) rfl
  have l1 := hBx.cell (j := 1) rfl
  have l2 := hBx.cell (j := 2) rfl
  have l3 := hBx.cell (j := 3) rfl
  have l4 := hBx.cell (j := 4) rfl
  have l5 := hBx.cell (j := 5) rfl
  have l6 := hBx.cell (j := 6) rfl
  have f0 := hBx.frozen 0
  have f1 := hBx.frozen 1
  have f2 := hBx.frozen 2
  have f3 := hBx.frozen 3
  have f4 := hBx.frozen 4
  have f5 := hBx.frozen 5
  have f6 := hBx.frozen 6
  obtain ⟨W9, hW9⟩ : ∃ V : World, V = setN w3 w.heap.size (leafN 16) := ⟨_, rfl⟩
  have hB9 := hBx.setN (leafN 16)
  rw [← hW9] at hB9
  have hc9 : Chg (fun q => q = w.heap.size) w3 W9 := by rw [hW9]; exact chg_setN _ _ _
  have HR : Hid (BehP base g b off n cap t d (fun r => (∃ s1, BranR F d s (.ok s1) ∧ r = .ok (s1, leafN 16)) ∨ (∃ e, BranR F d s (.error e) ∧ r = .error e)) nv w (.returned (leafN 16).v) W9) := BehP.box (s1 := s1) (.inl ⟨s1, HF3.out.2.1, rfl⟩) HF3.out.1 HF3.out.2.2.1 (fun q hq => (HF3.out.2.2.2 q hq).1) hc9 (by omega) (fun q hq => (HF3.out.2.2.2 q hq).2)
  have q0 := hB9.cell (j := 0) rfl
  have q1 := hB9.cell (j := 1) rfl
  have q2 := hB9.cell (j := 2) rfl
  have q3 := hB9.cell (j := 3) rfl
  have q4 := hB9.cell (j := 4) rfl
  have q5 := hB9.cell (j := 5) rfl
  have q6 := hB9.cell (j := 6) rfl
  unfold setN at hW9
  simp only [leafN, patN, cntN, noS] at hW9 q0 q1 q2 q3 q4 q5 q6
  clear hB9 hc9
  go_wp2_with fail
  rw [← hW9]
  exact bodyPost_ret (v := (leafN 16).v) (by simp [results, Tryz.results117, go_sem, q0, q1, q2, q3, q4, q5, q6, leafN, patN, cntN, noS]) rfl HR.out
end Go.Proofs.YtgnpcenpcmdlfaaGreatDoor
