/-
  impl.printNode.
-/
import Derived.Test.YtgnpcenpcmdlfaaGreatDoorZkAK
import Derived.Test.YtgnpcenpcmdlfaaGreatDoorZkAC
namespace Go.Proofs.YtgnpcenpcmdlfaaGreatDoor
open Go.ChangeShapes Go.WideShapes Go.ChangeAt Go.RowKit Go.Deep
set_option linter.unusedVariables false
set_option linter.unusedSimpArgs false
set_option maxRecDepth 100000

/-- The state of printNode: its boxes and the text so far. -/
structure PnJ (w : World) (e : Nd) (v : Value) (X : List UInt8) (wr : World) : Prop where
  own : OwnS wr (w.heap.size + 3) v X
  node : BoxAt wr w.heap.size 65 7 w.heap.size e.seven
  res : BoxAt wr w.heap.size 67 2 (w.heap.size + 1) [.int .i64 0, .slice none 0 0]
  whole : BoxAt wr w.heap.size 67 2 (w.heap.size + 1 + 1) [.int .i64 e.kind, v]
  gl : Gl wr
  below : Below w.heap.size w wr
  size : w.heap.size + 3 ≤ wr.heap.size
theorem PnJ.move {w : World} {e : Nd} {v : Value} {X : List UInt8} {wr w' : World} (h : PnJ w e v X wr) (hb : Below wr.heap.size wr w') (hG : 7 ≤ w.heap.size) : PnJ w e v X w' := by
  have hs := hb.size
  have h2 := h.size
  exact ⟨h.own.below hb, h.node.below hb, h.res.below hb, h.whole.below hb, h.gl.on hb (by omega), h.below.trans (hb.mono (by omega)), by omega⟩
theorem PnJ.step {w : World} {e : Nd} {v v2 : Value} {X X2 : List UInt8} {wr w2 : World} (h : PnJ w e v X wr) (hF : Fr (w.heap.size + 3) wr w2) (hO : OwnS w2 (w.heap.size + 3) v2 X2) (hG : 7 ≤ w.heap.size) : PnJ w e v2 X2 (w2.setCell ⟨w.heap.size + 1 + 1, 1, none⟩ v2) := by
  have hs := hF.below.size
  have h2 := h.size
  have hC : Chg (fun k => k = w.heap.size + 1 + 1) w2 (w2.setCell ⟨w.heap.size + 1 + 1, 1, none⟩ v2) := Chg.of_set w2 _ 1 v2 rfl
  have hz : (w2.setCell ⟨w.heap.size + 1 + 1, 1, none⟩ v2).heap.size = w2.heap.size := size_set _ _ _ _
  refine ⟨hO.chg hC (fun k hk q => by have := (hO.row k hk).1; omega), (hF.box h.node (by decide)).chg hC (by omega), (hF.box h.res (by decide)).chg hC (by omega), (hF.box h.whole (by decide)).set 1 v2, ?_, ?_, by omega⟩
  · exact (h.gl.on hF.below (by omega)).on ((Below.refl (w.heap.size + 1 + 1) w2).setCell (Nat.le_refl _) v2) (by omega)
  · exact (h.below.trans (hF.below.mono (by omega))).setCell (by show w.heap.size ≤ w.heap.size + 1 + 1; omega) _
/-- What printNode hands back. -/
def PnP (k : Int) (X : List UInt8) (w : World) (r : Ending) (w' : World) : Prop := ∃ b c, r = .returned (.agg #[.int .i64 k, .slice (some ⟨b, 0, none⟩) X.length c]) ∧ OwnY w' w.heap.size b c X ∧ Below w.heap.size w w'
theorem PnJ.done {w : World} {e : Nd} {v : Value} {X : List UInt8} {wr : World} (h : PnJ w e v X wr) (hne : X ≠ []) : ∃ b c, v = .slice (some ⟨b, 0, none⟩) X.length c ∧ OwnY ((wr.setCell ⟨w.heap.size + 1, 0, none⟩ (.int .i64 e.kind)).setCell ⟨w.heap.size + 1, 1, none⟩ v) w.heap.size b c X ∧ Below w.heap.size w ((wr.setCell ⟨w.heap.size + 1, 0, none⟩ (.int .i64 e.kind)).setCell ⟨w.heap.size + 1, 1, none⟩ v) ∧ BoxAt ((wr.setCell ⟨w.heap.size + 1, 0, none⟩ (.int .i64 e.kind)).setCell ⟨w.heap.size + 1, 1, none⟩ v) w.heap.size 67 2 (w.heap.size + 1) [.int .i64 e.kind, v] := by
  rcases h.own.2 with ⟨_, h0⟩ | ⟨b, c, cur, hv, h1, _⟩
  · exact absurd (List.length_eq_zero_iff.1 h0) hne
  · have hO : OwnY wr (w.heap.size + 3) b c X := by have := h.own; rw [hv] at this; exact this
    have hC : Chg (fun k => k = w.heap.size + 1) wr ((wr.setCell ⟨w.heap.size + 1, 0, none⟩ (.int .i64 e.kind)).setCell ⟨w.heap.size + 1, 1, none⟩ v) := (Chg.of_set wr _ 0 _ (S := fun k => k = w.heap.size + 1) rfl).trans (Chg.of_set _ _ 1 _ rfl)
    refine ⟨b, c, hv, (hO.chg hC (by omega)).mono (by omega), below_set (below_set h.below (by omega) 0 _) (by omega) 1 _, (h.res.set 0 _).set 1 _⟩
/-- What bytes.Join hands back lies there. -/
theorem fresh_at {B : Nat} {w' : World} {v : Value} {l : List UInt8} (h : Lib.FreshBytes B w' v l) : ∃ g cap, v = .slice (some ⟨g, 0, none⟩) l.length cap ∧ B ≤ g ∧ BysAt w' g 0 l := by
  obtain ⟨g, cap, zs, rfl, hB, hlc, _, hz, hr, hb, hc, _⟩ := h
  refine ⟨g, cap, rfl, hB, fun i x hx => ?_⟩
  have hi := (List.getElem?_eq_some_iff.1 hx).1
  have hzi : i < zs.length := by omega
  rw [Nat.zero_add, hc i (by omega), List.getD_eq_getElem?_getD, List.getElem?_eq_getElem hzi]
  have h1 : (Lib.bytesOf (zs.take l.length))[i]? = some x := by rw [hb]; exact hx
  unfold Lib.bytesOf at h1
  rw [List.getElem?_map, List.getElem?_take_of_lt hi, List.getElem?_eq_getElem hzi] at h1
  simp only [Option.map_some, Option.some.injEq] at h1
  have h2 := hr zs[i] (List.getElem_mem hzi)
  simp only [Option.getD_some]
  rw [← h1]
  show some (Value.int .u8 zs[i]) = some (Value.int .u8 ((UInt8.ofNat zs[i].toNat).toNat : Int))
  rw [UInt8.toNat_ofNat']
  congr 2
  omega
theorem join3_core (sb pb : Nat) (b0 p0 b1 p1 b2 p2 n0 n1 n2 : Nat) (t0 t1 t2 : List UInt8) (w : World) (h0 : n0 = t0.length) (h1 : n1 = t1.length) (h2 : n2 = t2.length) (l0 : n0 ≤ 400000) (l1 : n1 ≤ 400000) (l2 : n2 ≤ 400000)
    (c0 : w.cell? ⟨sb, 0, none⟩ = some (.slice (some ⟨b0, 0, none⟩) n0 p0)) (c1 : w.cell? ⟨sb, 1, none⟩ = some (.slice (some ⟨b1, 0, none⟩) n1 p1)) (c2 : w.cell? ⟨sb, 2, none⟩ = some (.slice (some ⟨b2, 0, none⟩) n2 p2))
    (e0 : BysAt w b0 0 t0) (e1 : BysAt w b1 0 t1) (e2 : BysAt w b2 0 t2) (es : BysAt w pb 0 [44, 32]) :
    Calls Tryz.prog 75 #[.slice (some ⟨sb, 0, none⟩) 3 3, .slice (some ⟨pb, 0, none⟩) 2 2] w fun r w' => ∃ g m cap, r = .returned (.slice (some ⟨g, 0, none⟩) m cap) ∧ m = (t0 ++ [44, 32] ++ t1 ++ [44, 32] ++ t2).length ∧ BysAt w' g 0 (t0 ++ [44, 32] ++ t1 ++ [44, 32] ++ t2) ∧ Below w.heap.size w w' := by
  subst h0 h1 h2
  have hold : ∀ (b p : Nat) (t : List UInt8), BysAt w b 0 t → Lib.HoldsBytes w (.slice (some ⟨b, 0, none⟩) t.length p) t := fun b p t h => ⟨some ⟨b, 0, none⟩, p, rfl, (fun q => by cases q), fun a ha i x hx => by
    cases ha
    rw [Addr.add_mid]
    exact h i x hx⟩
  have hP : Lib.PartsAt w ⟨sb, 0, none⟩ [.slice (some ⟨b0, 0, none⟩) t0.length p0, .slice (some ⟨b1, 0, none⟩) t1.length p1, .slice (some ⟨b2, 0, none⟩) t2.length p2] [t0, t1, t2] := by
    refine ⟨rfl, ?_, ?_⟩
    · intro i v hv
      rw [Addr.add_mid, Nat.zero_add]
      match i, hv with
      | 0, hv => simp at hv; subst hv; exact c0
      | 1, hv => simp at hv; subst hv; exact c1
      | 2, hv => simp at hv; subst hv; exact c2
    · intro i v l hv hl
      match i, hv, hl with
      | 0, hv, hl => simp at hv hl; subst hv hl; exact hold b0 p0 t0 e0
      | 1, hv, hl => simp at hv hl; subst hv hl; exact hold b1 p1 t1 e1
      | 2, hv, hl => simp at hv hl; subst hv hl; exact hold b2 p2 t2 e2
  refine (Any.bytes_Join_many Tryz.laysJn sb 0 3 3 _ [t0, t1, t2] (.slice (some ⟨pb, 0, none⟩) 2 2) [44, 32] w rfl (by omega) hP (by omega) (hold pb 2 [44, 32] es) (by omega) (by simp [Lib.lens]; omega)).mono ?_
  rintro r w' ⟨v, rfl, hF, hb⟩
  have hj : Lib.join [t0, t1, t2] [44, 32] = t0 ++ [44, 32] ++ t1 ++ [44, 32] ++ t2 := by simp [Lib.join_cons, Lib.joinTail]
  rw [hj] at hF
  obtain ⟨g, cap, rfl, _, hE⟩ := fresh_at hF
  exact ⟨g, _, cap, rfl, rfl, hE, hb⟩
theorem leaf_ne {e : Nd} (h : GoodN e) (hk : arity e.kind = 0) : leafM e ≠ [] := by
  obtain ⟨kind, s, hi, t, lo, up, n⟩ := e
  have h13 : kind = 1 ∨ kind = 2 ∨ kind = 3 ∨ kind = 4 ∨ kind = 5 ∨ kind = 6 ∨ kind = 7 ∨ kind = 8 ∨ kind = 9 ∨ kind = 10 ∨ kind = 11 ∨ kind = 12 ∨ kind = 13 := by
    obtain ⟨_, _, _, h⟩ := h
    simp only at h hk
    unfold arity at hk
    by_cases q14 : kind = 14 ∨ kind = 15
    · rw [if_pos q14] at hk; cases hk
    · by_cases q16 : kind = 16
      · rw [if_neg q14, if_pos q16] at hk; cases hk
      · omega
  rcases h13 with rfl | rfl | rfl | rfl | rfl | rfl | rfl | rfl | rfl | rfl | rfl | rfl | rfl
  all_goals simp [leafM, wordA, bl]
/-- A row that is no row of bytes is kept. -/
theorem row_kept {base : Nat} {w w' : World} (h : Fr base w w') {k j : Nat} (hk : ∃ cs t fz, w.heap[k]? = some (.cells cs t fz) ∧ t ≠ 5) : w'.cell? ⟨k, j, none⟩ = w.cell? ⟨k, j, none⟩ := by
  obtain ⟨cs, t, fz, h1, h2⟩ := hk
  have h3 := h.kept k _ h1 (by simp) (fun c z q => h2 (by injection q))
  exact World.cell?_of_block (w := w) (by rw [h3, h1])
theorem op_call {w W : World} {e : Nd} {v : Value} {X : List UInt8} {kk : Int} {i : Nat} {ii : Int} {kid : Int} {b c n : Nat} {t : List UInt8} {opk : Int} (hk : opk = kk) (hp : ii = (i : Int)) (hj : PnJ w e v X W) (hn : n = t.length) (ht : t.length ≤ 1000000) (hX : X.length ≤ 1000000) (hE : BysAt W b 0 t) (hb : b < w.heap.size) (hop : ¬ kk = 16) :
    Calls Tryz.prog 74 #[v, .int .i64 opk, .int .i64 ii, .agg #[.int .i64 kid, .slice (some ⟨b, 0, none⟩) n c]] W (AppP (w.heap.size + 3) (X ++ wrapT kk i (kid, t)) W) := by
  subst hk hp hn
  exact appendOperand_core (w.heap.size + 3) v X opk i kid b c t W hop hj.own hX ht hj.size hE (by omega)
set_option maxHeartbeats 8000000 in
theorem printNode_14 (s : ByteArray) (hi : Bool) (t : ByteArray) (lo up n : Int) (g F c : Nat) (k0 k1 : Int) (b0 p0 b1 p1 : Nat) (t0 t1 : List UInt8) (w : World) (hg : g < w.heap.size) (hG : Gl w) (hB : 7 ≤ w.heap.size)
    (h0 : w.cell? ⟨g, F, none⟩ = some (.int .i64 k0) ∧ w.cell? ⟨g, F + 1, none⟩ = some (.slice (some ⟨b0, 0, none⟩) t0.length p0) ∧ BysAt w b0 0 t0 ∧ b0 < w.heap.size)
    (h1 : w.cell? ⟨g, F + 2, none⟩ = some (.int .i64 k1) ∧ w.cell? ⟨g, F + 2 + 1, none⟩ = some (.slice (some ⟨b1, 0, none⟩) t1.length p1) ∧ BysAt w b1 0 t1 ∧ b1 < w.heap.size) (hl0 : t0.length ≤ 400000) (hl1 : t1.length ≤ 400000) :
    Calls Tryz.prog 37 #[.agg #[.int .i64 14, .string s, .bool hi, .string t, .int .u64 lo, .int .u64 up, .int .i64 n], .slice (some ⟨g, F, none⟩) 2 c] w (PnP 14 (wrapT 14 0 (k0, t0) ++ [32, 62, 32] ++ wrapT 14 1 (k1, t1)) w) := by
  obtain ⟨n0, hn0⟩ : ∃ n0, n0 = t0.length := ⟨_, rfl⟩
  obtain ⟨n1, hn1⟩ : ∃ n1, n1 = t1.length := ⟨_, rfl⟩
  rw [← hn0] at h0
  rw [← hn1] at h1
  have HP : Hid ((w.cell? ⟨g, F, none⟩ = some (.int .i64 k0) ∧ w.cell? ⟨g, F + 1, none⟩ = some (.slice (some ⟨b0, 0, none⟩) n0 p0) ∧ BysAt w b0 0 t0 ∧ b0 < w.heap.size) ∧ (w.cell? ⟨g, F + 2, none⟩ = some (.int .i64 k1) ∧ w.cell? ⟨g, F + 2 + 1, none⟩ = some (.slice (some ⟨b1, 0, none⟩) n1 p1) ∧ BysAt w b1 0 t1 ∧ b1 < w.heap.size) ∧ (n0 = t0.length ∧ t0.length ≤ 1000000) ∧ (n1 = t1.length ∧ t1.length ≤ 1000000)) := ⟨h0, h1, ⟨hn0, by omega⟩, hn1, by omega⟩
  have l0 : n0 ≤ 400000 := by omega
  have l1 : n1 ≤ 400000 := by omega
  clear h0 h1 hn0 hn1 hl0 hl1
  obtain ⟨Y, hY⟩ : ∃ Y, Y = wrapT 14 0 (k0, t0) ++ [32, 62, 32] ++ wrapT 14 1 (k1, t1) := ⟨_, rfl⟩
  rw [← hY]
  have HY0 : Hid (Y = wrapT 14 0 (k0, t0) ++ [32, 62, 32] ++ wrapT 14 1 (k1, t1)) := hY
  clear hY
  obtain ⟨W0, hW0⟩ : ∃ W0 : World, W0 = ((w.alloc (Obj.cells #[.int .i64 14, .string s, .bool hi, .string t, .int .u64 lo, .int .u64 up, .int .i64 n] 65)).alloc (Obj.cells #[.int .i64 0, .slice none 0 0] 67)).alloc (Obj.cells #[.int .i64 14, .slice none 0 0] 67) := ⟨_, rfl⟩
  have HJ0 : Hid (PnJ w ⟨14, s, hi, t, lo, up, n⟩ (.slice none 0 0) [] W0) := by
    obtain ⟨A, hA⟩ : ∃ A : World, A = w.alloc (Obj.cells #[.int .i64 14, .string s, .bool hi, .string t, .int .u64 lo, .int .u64 up, .int .i64 n] 65) := ⟨_, rfl⟩
    obtain ⟨B, hBB⟩ : ∃ B : World, B = A.alloc (Obj.cells #[.int .i64 0, .slice none 0 0] 67) := ⟨_, rfl⟩
    have zA : A.heap.size = w.heap.size + 1 := by rw [hA]; simp
    have zB : B.heap.size = w.heap.size + 2 := by rw [hBB]; simp [zA]
    have bA : Below w.heap.size w A := by rw [hA]; exact (Below.refl _ _).alloc (Nat.le_refl _) _
    have bB : Below A.heap.size A B := by rw [hBB]; exact (Below.refl _ _).alloc (Nat.le_refl _) _
    have b0 : Below B.heap.size B W0 := by rw [hW0, ← hA, ← hBB]; exact (Below.refl _ _).alloc (Nat.le_refl _) _
    have x0 : BoxAt A w.heap.size 65 7 w.heap.size [.int .i64 14, .string s, .bool hi, .string t, .int .u64 lo, .int .u64 up, .int .i64 n] := by rw [hA]; exact boxAt_new w _ (Nat.le_refl _) rfl
    have x1 : BoxAt B w.heap.size 67 2 (w.heap.size + 1) [.int .i64 0, .slice none 0 0] := by rw [hBB, ← zA]; exact boxAt_new A _ (by omega) rfl
    have x2 : BoxAt W0 w.heap.size 67 2 (w.heap.size + 1 + 1) [.int .i64 14, .slice none 0 0] := by rw [hW0, ← hA, ← hBB, ← zB]; exact boxAt_new B _ (by omega) rfl
    have bw : Below w.heap.size w W0 := (bA.trans (bB.mono (by omega))).trans (b0.mono (by omega))
    exact ⟨World.ownsRow_nil .., (x0.below bB).below b0, x1.below b0, x2, hG.on bw hB, bw, by rw [hW0]; simp⟩
  have z0 := HJ0.out.size
  have c0 := HJ0.out.node.cell (j := 0) rfl
  go_enter Tryz.func37, Tryz.ntmps37
  go_upto_region 2 with fail
  rw [← hW0]
  clear hW0
  have m0a : W0.cell? ⟨w.heap.size + 1 + 1, 1, none⟩ = some (.slice none 0 0) := HJ0.out.whole.cell (j := 1) rfl
  have m0b : W0.cell? ⟨w.heap.size, 0, none⟩ = some (.int .i64 14) := HJ0.out.node.cell (j := 0) rfl
  have m0c : W0.cell? ⟨g, F, none⟩ = some (.int .i64 k0) := by rw [HJ0.out.below.cell (p := ⟨g, F, none⟩) hg]; exact HP.out.1.1
  have m0d : W0.cell? ⟨g, F + 1, none⟩ = some (.slice (some ⟨b0, 0, none⟩) n0 p0) := by rw [HJ0.out.below.cell (p := ⟨g, F + 1, none⟩) hg]; exact HP.out.1.2.1
  have hS : (fun w' : World => w'.cell? ⟨w.heap.size + 1 + 1, 1, none⟩ = some (.slice none 0 0) ∧ w'.cell? ⟨w.heap.size, 0, none⟩ = some (.int .i64 14) ∧ w'.cell? ⟨g, F, none⟩ = some (.int .i64 k0) ∧ w'.cell? ⟨g, F + 1, none⟩ = some (.slice (some ⟨b0, 0, none⟩) n0 p0)) W0.drew := ⟨m0a, m0b, m0c, m0d⟩
  have y0 := HJ0.out.size
  have HC0 : Hid (Calls Tryz.prog 74 #[(.slice none 0 0), .int .i64 14, .int .i64 0, .agg #[.int .i64 k0, .slice (some ⟨b0, 0, none⟩) n0 p0]] W0.drew (AppP (w.heap.size + 3) (([] : List UInt8) ++ wrapT 14 0 (k0, t0)) W0.drew)) := by
    have hj := HJ0.out.move (w' := W0.drew) ((Below.refl _ _).drew) hB
    exact op_call (hk := rfl) (hp := rfl) hj HP.out.2.2.1.1 HP.out.2.2.1.2 (by first | omega | simp) (HP.out.1.2.2.1.below hj.below HP.out.1.2.2.2) HP.out.1.2.2.2 (by omega)
  go_upto_region 6 with fail
  refine wp_region_T 9 (fun w' : World => w'.cell? ⟨w.heap.size + 1 + 1, 1, none⟩ = some (.slice none 0 0) ∧ w'.cell? ⟨w.heap.size, 0, none⟩ = some (.int .i64 14) ∧ w'.cell? ⟨g, F, none⟩ = some (.int .i64 k0) ∧ w'.cell? ⟨g, F + 1, none⟩ = some (.slice (some ⟨b0, 0, none⟩) n0 p0)) (by kernel_rfl) ?_
  refine anyT_take (i := 0) (v := ?va140) rfl (by kernel_rfl) (by kernel_rfl) (by kernel_rfl) (by kernel_rfl) (by decide) (fun _ _ _ h => h) (Or.inl ⟨by rfl, ?ya140⟩) hS ?_
  case ya140 => (intro wz hSw; (try dsimp only at hSw); go_simp; (try with_reducible rfl))
  try simp only [Act.put, List.getElem_toArray, List.getElem_cons_zero, List.getElem_cons_succ, List.setIfInBounds_toArray, List.set_cons_zero, List.set_cons_succ]
  refine anyT_take (i := 1) (v := ?va141) rfl (by kernel_rfl) (by kernel_rfl) (by kernel_rfl) (by kernel_rfl) (by decide) (fun _ _ _ h => h) (Or.inl ⟨by rfl, ?ya141⟩) hS ?_
  case ya141 => (intro wz hSw; (try dsimp only at hSw); go_simp; (try with_reducible rfl))
  try simp only [Act.put, List.getElem_toArray, List.getElem_cons_zero, List.getElem_cons_succ, List.setIfInBounds_toArray, List.set_cons_zero, List.set_cons_succ]
  refine anyT_take (i := 2) (v := ?va142) rfl (by kernel_rfl) (by kernel_rfl) (by kernel_rfl) (by kernel_rfl) (by decide) (fun _ _ _ h => h) (Or.inl ⟨by rfl, ?ya142⟩) hS ?_
  case ya142 => (intro wz hSw; (try dsimp only at hSw); go_simp; (try with_reducible rfl))
  try simp only [Act.put, List.getElem_toArray, List.getElem_cons_zero, List.getElem_cons_succ, List.setIfInBounds_toArray, List.set_cons_zero, List.set_cons_succ]
  refine anyT_take (i := 3) (v := ?va143) rfl (by kernel_rfl) (by kernel_rfl) (by kernel_rfl) (by kernel_rfl) (by decide) (fun _ _ _ h => h) (Or.inl ⟨by rfl, ?ya143⟩) hS ?_
  case ya143 => (intro wz hSw; (try dsimp only at hSw); go_simp; (try with_reducible rfl))
  try simp only [Act.put, List.getElem_toArray, List.getElem_cons_zero, List.getElem_cons_succ, List.setIfInBounds_toArray, List.set_cons_zero, List.set_cons_succ]
  refine anyT_take (i := 4) (v := ?va144) rfl (by kernel_rfl) (by kernel_rfl) (by kernel_rfl) (by kernel_rfl) (by decide) (fun _ _ _ h => h) (Or.inl ⟨by rfl, ?ya144⟩) hS ?_
  case ya144 => (intro wz hSw; (try dsimp only at hSw); go_simp; (try with_reducible rfl))
  try simp only [Act.put, List.getElem_toArray, List.getElem_cons_zero, List.getElem_cons_succ, List.setIfInBounds_toArray, List.set_cons_zero, List.set_cons_succ]
  refine anyT_take (i := 5) (v := ?va145) rfl (by kernel_rfl) (by kernel_rfl) (by kernel_rfl) (by kernel_rfl) (by decide) (fun _ _ _ h => h) (Or.inl ⟨by rfl, ?ya145⟩) hS ?_
  case ya145 => (intro wz hSw; (try dsimp only at hSw); go_simp; (try with_reducible rfl))
  try simp only [Act.put, List.getElem_toArray, List.getElem_cons_zero, List.getElem_cons_succ, List.setIfInBounds_toArray, List.set_cons_zero, List.set_cons_succ]
  refine anyT_take (i := 6) (v := ?va146) rfl (by kernel_rfl) (by kernel_rfl) (by kernel_rfl) (by kernel_rfl) (by decide) (fun _ _ _ h => h) (Or.inl ⟨by rfl, ?ya146⟩) hS ?_
  case ya146 => (intro wz hSw; (try dsimp only at hSw); go_simp; (try with_reducible rfl))
  try simp only [Act.put, List.getElem_toArray, List.getElem_cons_zero, List.getElem_cons_succ, List.setIfInBounds_toArray, List.set_cons_zero, List.set_cons_succ]
  refine anyT_one (i := 7) (by kernel_rfl) rfl (fun K hK => ?_)
  go_simp
  go_at_call 74
  refine HC0.out.mono ?_
  rintro r q0 ⟨v1, rfl, hO1, hF1⟩
  obtain ⟨a1, e1, hv1⟩ := hO1.slice
  obtain ⟨m1, hm1⟩ : ∃ m1 : Nat, m1 = (([] : List UInt8) ++ wrapT 14 0 (k0, t0)).length := ⟨_, rfl⟩
  rw [← hm1] at hv1
  subst hv1
  clear hm1
  obtain ⟨X1, hX1⟩ : ∃ X1 : List UInt8, X1 = ([] : List UInt8) ++ wrapT 14 0 (k0, t0) := ⟨_, rfl⟩
  have HX1 : Hid (X1 = ([] : List UInt8) ++ wrapT 14 0 (k0, t0)) := hX1
  have x1 : X1.length ≤ 0 + n0 + 2 := by rw [hX1, List.length_append]; rw [List.length_nil]; have h9 := wrapT_len 14 0 (k0, t0); have := HP.out.2.2.1.1; simp only at h9; omega
  have hFd : Fr (w.heap.size + 3) W0 q0 := ((Fr.refl _ _).step ((Below.refl _ _).drew) (by omega)).trans hF1
  have HJ1 : Hid (PnJ w ⟨14, s, hi, t, lo, up, n⟩ (.slice a1 m1 e1) X1 (q0.setCell ⟨w.heap.size + 1 + 1, 1, none⟩ (.slice a1 m1 e1))) := HJ0.out.step hFd (by rw [hX1]; exact hO1) hB
  have g0a : q0.cell? ⟨w.heap.size + 1 + 1, 1, none⟩ = some (.slice none 0 0) := (hFd.box HJ0.out.whole (by decide)).cell (j := 1) rfl
  have g0f : q0.frozen? ⟨w.heap.size + 1 + 1, 1, none⟩ = false := (hFd.box HJ0.out.whole (by decide)).frozen 1
  have g0b : q0.cell? ⟨w.heap.size, 0, none⟩ = some (.int .i64 14) := (hFd.box HJ0.out.node (by decide)).cell (j := 0) rfl
  have g0c : q0.cell? ⟨g, F, none⟩ = some (.int .i64 k0) := by rw [hFd.below.cell (p := ⟨g, F, none⟩) (by show g < _; omega)]; exact m0c
  have g0d : q0.cell? ⟨g, F + 1, none⟩ = some (.slice (some ⟨b0, 0, none⟩) n0 p0) := by rw [hFd.below.cell (p := ⟨g, F + 1, none⟩) (by show g < _; omega)]; exact m0d
  clear hO1 hF1 hX1 hFd
  refine hK.out _ _ (.inr ⟨g0a, g0b, g0c, g0d⟩) ?_
  clear hK
  try simp only [Act.put, List.getElem_toArray, List.getElem_cons_zero, List.getElem_cons_succ, List.setIfInBounds_toArray, List.set_cons_zero, List.set_cons_succ]
  refine anyT_one (i := 8) (by kernel_rfl) rfl (fun K hK => ?_)
  go_simp
  refine hK.out _ _ (.inr ⟨g0a, g0b, g0c, g0d⟩) ?_
  clear hK
  try simp only [Act.put, List.getElem_toArray, List.getElem_cons_zero, List.getElem_cons_succ, List.setIfInBounds_toArray, List.set_cons_zero, List.set_cons_succ]
  obtain ⟨W1, hW1⟩ : ∃ W1 : World, W1 = q0.setCell ⟨w.heap.size + 1 + 1, 1, none⟩ (.slice a1 m1 e1) := ⟨_, rfl⟩
  rw [← hW1] at HJ1
  refine anyT_one (i := 9) (by kernel_rfl) rfl (fun K hK => ?_)
  go_simp
  rw [← hW1]
  refine hK.out _ _ (.inl rfl) ?_
  clear hK
  try simp only [Act.put, List.getElem_toArray, List.getElem_cons_zero, List.getElem_cons_succ, List.setIfInBounds_toArray, List.set_cons_zero, List.set_cons_succ]
  refine anyT_done (by kernel_rfl) ?_
  clear hW1 g0a g0b g0c g0d g0f m0a m0b m0c m0d hS
  have m1a : W1.cell? ⟨w.heap.size + 1 + 1, 1, none⟩ = some (.slice a1 m1 e1) := HJ1.out.whole.cell (j := 1) rfl
  have m1b : W1.cell? ⟨w.heap.size, 0, none⟩ = some (.int .i64 14) := HJ1.out.node.cell (j := 0) rfl
  have m1c : W1.cell? ⟨0, 14, none⟩ = some (.string ⟨#[62]⟩) := HJ1.out.gl.words 14 (by omega)
  have hS : (fun w' : World => w'.cell? ⟨w.heap.size + 1 + 1, 1, none⟩ = some (.slice a1 m1 e1) ∧ w'.cell? ⟨w.heap.size, 0, none⟩ = some (.int .i64 14) ∧ w'.cell? ⟨0, 14, none⟩ = some (.string ⟨#[62]⟩)) W1.drew := ⟨m1a, m1b, m1c⟩
  have y1 := HJ1.out.size
  have hJd : Hid (PnJ w ⟨14, s, hi, t, lo, up, n⟩ (.slice a1 m1 e1) X1 W1.drew) := HJ1.out.move ((Below.refl _ _).drew) hB
  go_upto_region 7 with fail
  refine wp_region_T 10 (fun w' : World => w'.cell? ⟨w.heap.size + 1 + 1, 1, none⟩ = some (.slice a1 m1 e1) ∧ w'.cell? ⟨w.heap.size, 0, none⟩ = some (.int .i64 14) ∧ w'.cell? ⟨0, 14, none⟩ = some (.string ⟨#[62]⟩)) (by kernel_rfl) ?_
  refine anyT_take (i := 0) (v := ?vb140) rfl (by kernel_rfl) (by kernel_rfl) (by kernel_rfl) (by kernel_rfl) (by decide) (fun _ _ _ h => h) (Or.inl ⟨by rfl, ?yb140⟩) hS ?_
  case yb140 => (intro wz hSw; (try dsimp only at hSw); go_simp; (try with_reducible rfl))
  try simp only [Act.put, List.getElem_toArray, List.getElem_cons_zero, List.getElem_cons_succ, List.setIfInBounds_toArray, List.set_cons_zero, List.set_cons_succ]
  refine anyT_take (i := 1) (v := ?vb141) rfl (by kernel_rfl) (by kernel_rfl) (by kernel_rfl) (by kernel_rfl) (by decide) (fun _ _ _ h => h) (Or.inl ⟨by rfl, ?yb141⟩) hS ?_
  case yb141 => (intro wz hSw; (try dsimp only at hSw); go_simp; (try with_reducible rfl))
  try simp only [Act.put, List.getElem_toArray, List.getElem_cons_zero, List.getElem_cons_succ, List.setIfInBounds_toArray, List.set_cons_zero, List.set_cons_succ]
  refine anyT_take (i := 2) (v := ?vb142) rfl (by kernel_rfl) (by kernel_rfl) (by kernel_rfl) (by kernel_rfl) (by decide) (fun _ _ _ h => h) (Or.inl ⟨by rfl, ?yb142⟩) hS ?_
  case yb142 => (intro wz hSw; (try dsimp only at hSw); go_simp; (try with_reducible rfl))
  try simp only [Act.put, List.getElem_toArray, List.getElem_cons_zero, List.getElem_cons_succ, List.setIfInBounds_toArray, List.set_cons_zero, List.set_cons_succ]
  refine anyT_take (i := 3) (v := ?vb143) rfl (by kernel_rfl) (by kernel_rfl) (by kernel_rfl) (by kernel_rfl) (by decide) (fun _ _ _ h => h) (Or.inl ⟨by rfl, ?yb143⟩) hS ?_
  case yb143 => (intro wz hSw; (try dsimp only at hSw); go_simp; (try with_reducible rfl))
  try simp only [Act.put, List.getElem_toArray, List.getElem_cons_zero, List.getElem_cons_succ, List.setIfInBounds_toArray, List.set_cons_zero, List.set_cons_succ]
  refine anyT_take (i := 4) (v := ?vb144) rfl (by kernel_rfl) (by kernel_rfl) (by kernel_rfl) (by kernel_rfl) (by decide) (fun _ _ _ h => h) (Or.inl ⟨by rfl, ?yb144⟩) hS ?_
  case yb144 => (intro wz hSw; (try dsimp only at hSw); go_simp; (try with_reducible rfl))
  try simp only [Act.put, List.getElem_toArray, List.getElem_cons_zero, List.getElem_cons_succ, List.setIfInBounds_toArray, List.set_cons_zero, List.set_cons_succ]
  refine anyT_take (i := 5) (v := ?vb145) rfl (by kernel_rfl) (by kernel_rfl) (by kernel_rfl) (by kernel_rfl) (by decide) (fun _ _ _ h => h) (Or.inl ⟨by rfl, ?yb145⟩) hS ?_
  case yb145 => (intro wz hSw; (try dsimp only at hSw); go_simp; (try with_reducible rfl))
  try simp only [Act.put, List.getElem_toArray, List.getElem_cons_zero, List.getElem_cons_succ, List.setIfInBounds_toArray, List.set_cons_zero, List.set_cons_succ]
  refine anyT_take (i := 6) (v := (.string ⟨#[32, 62]⟩)) rfl (by kernel_rfl) (by kernel_rfl) (by kernel_rfl) (by kernel_rfl) (by decide) (fun _ _ _ h => h) (Or.inl ⟨by rfl, ?yb146⟩) hS ?_
  case yb146 => (intro wz hSw; (try dsimp only at hSw); go_simp; rfl)
  try simp only [Act.put, List.getElem_toArray, List.getElem_cons_zero, List.getElem_cons_succ, List.setIfInBounds_toArray, List.set_cons_zero, List.set_cons_succ]
  refine anyT_take (i := 7) (v := (.string ⟨#[32, 62, 32]⟩)) rfl (by kernel_rfl) (by kernel_rfl) (by kernel_rfl) (by kernel_rfl) (by decide) (fun _ _ _ h => h) (Or.inl ⟨by rfl, ?yb147⟩) hS ?_
  case yb147 => (intro wz hSw; (try dsimp only at hSw); go_simp; rfl)
  try simp only [Act.put, List.getElem_toArray, List.getElem_cons_zero, List.getElem_cons_succ, List.setIfInBounds_toArray, List.set_cons_zero, List.set_cons_succ]
  refine anyT_one (i := 8) (by kernel_rfl) rfl (fun K hK => ?_)
  refine step_append_st _ rfl _ _ rfl (w.heap.size + 3) (.slice a1 m1 e1) X1 ⟨#[32, 62, 32]⟩ rfl rfl hJd.out.own ?hl ?hb ?_
  case hl => (have h3 : (⟨#[32, 62, 32]⟩ : ByteArray).size = 3 := rfl; rw [h3]; omega)
  case hb => exact hJd.out.size
  intro v2 q1 hO2 hgr2
  obtain ⟨a2, e2, hv2⟩ := hO2.slice
  obtain ⟨m2, hm2⟩ : ∃ m2 : Nat, m2 = (X1 ++ bl ⟨#[32, 62, 32]⟩).length := ⟨_, rfl⟩
  rw [← hm2] at hv2
  subst hv2
  clear hm2
  obtain ⟨X2, hX2⟩ : ∃ X2 : List UInt8, X2 = X1 ++ [32, 62, 32] := ⟨_, rfl⟩
  have HX2 : Hid (X2 = X1 ++ [32, 62, 32]) := hX2
  have x2 : X2.length ≤ X1.length + 3 := by rw [hX2, List.length_append]; exact Nat.le_refl _
  have hFd : Fr (w.heap.size + 3) W1 q1 := ((Fr.refl _ _).step ((Below.refl _ _).drew) (by omega)).trans (hJd.out.own.nextF (Fr.refl _ _) hJd.out.size hgr2)
  have HJ2 : Hid (PnJ w ⟨14, s, hi, t, lo, up, n⟩ (.slice a2 m2 e2) X2 (q1.setCell ⟨w.heap.size + 1 + 1, 1, none⟩ (.slice a2 m2 e2))) := HJ1.out.step hFd (by rw [hX2]; exact hO2) hB
  have g1a : q1.cell? ⟨w.heap.size + 1 + 1, 1, none⟩ = some (.slice a1 m1 e1) := (hFd.box HJ1.out.whole (by decide)).cell (j := 1) rfl
  have g1f : q1.frozen? ⟨w.heap.size + 1 + 1, 1, none⟩ = false := (hFd.box HJ1.out.whole (by decide)).frozen 1
  have g1b : q1.cell? ⟨w.heap.size, 0, none⟩ = some (.int .i64 14) := (hFd.box HJ1.out.node (by decide)).cell (j := 0) rfl
  have g1c : q1.cell? ⟨0, 14, none⟩ = some (.string ⟨#[62]⟩) := (HJ1.out.gl.on hFd.below (by omega)).words 14 (by omega)
  clear hO2 hgr2 hX2 hFd
  refine hK.out _ _ (.inr ⟨g1a, g1b, g1c⟩) ?_
  clear hK
  try simp only [Act.put, List.getElem_toArray, List.getElem_cons_zero, List.getElem_cons_succ, List.setIfInBounds_toArray, List.set_cons_zero, List.set_cons_succ]
  refine anyT_one (i := 9) (by kernel_rfl) rfl (fun K hK => ?_)
  go_simp
  refine hK.out _ _ (.inr ⟨g1a, g1b, g1c⟩) ?_
  clear hK
  try simp only [Act.put, List.getElem_toArray, List.getElem_cons_zero, List.getElem_cons_succ, List.setIfInBounds_toArray, List.set_cons_zero, List.set_cons_succ]
  obtain ⟨W2, hW2⟩ : ∃ W2 : World, W2 = q1.setCell ⟨w.heap.size + 1 + 1, 1, none⟩ (.slice a2 m2 e2) := ⟨_, rfl⟩
  rw [← hW2] at HJ2
  refine anyT_one (i := 10) (by kernel_rfl) rfl (fun K hK => ?_)
  go_simp
  rw [← hW2]
  refine hK.out _ _ (.inl rfl) ?_
  clear hK
  try simp only [Act.put, List.getElem_toArray, List.getElem_cons_zero, List.getElem_cons_succ, List.setIfInBounds_toArray, List.set_cons_zero, List.set_cons_succ]
  refine anyT_done (by kernel_rfl) ?_
  clear hW2 g1a g1b g1c g1f m1a m1b m1c hS hJd
  have m2a : W2.cell? ⟨w.heap.size + 1 + 1, 1, none⟩ = some (.slice a2 m2 e2) := HJ2.out.whole.cell (j := 1) rfl
  have m2b : W2.cell? ⟨w.heap.size, 0, none⟩ = some (.int .i64 14) := HJ2.out.node.cell (j := 0) rfl
  have m2c : W2.cell? ⟨g, F + 2, none⟩ = some (.int .i64 k1) := by rw [HJ2.out.below.cell (p := ⟨g, F + 2, none⟩) hg]; exact HP.out.2.1.1
  have m2d : W2.cell? ⟨g, F + 2 + 1, none⟩ = some (.slice (some ⟨b1, 0, none⟩) n1 p1) := by rw [HJ2.out.below.cell (p := ⟨g, F + 2 + 1, none⟩) hg]; exact HP.out.2.1.2.1
  have hS : (fun w' : World => w'.cell? ⟨w.heap.size + 1 + 1, 1, none⟩ = some (.slice a2 m2 e2) ∧ w'.cell? ⟨w.heap.size, 0, none⟩ = some (.int .i64 14) ∧ w'.cell? ⟨g, F + 2, none⟩ = some (.int .i64 k1) ∧ w'.cell? ⟨g, F + 2 + 1, none⟩ = some (.slice (some ⟨b1, 0, none⟩) n1 p1)) W2.drew := ⟨m2a, m2b, m2c, m2d⟩
  have y2 := HJ2.out.size
  have HC2 : Hid (Calls Tryz.prog 74 #[(.slice a2 m2 e2), .int .i64 14, .int .i64 1, .agg #[.int .i64 k1, .slice (some ⟨b1, 0, none⟩) n1 p1]] W2.drew (AppP (w.heap.size + 3) (X2 ++ wrapT 14 1 (k1, t1)) W2.drew)) := by
    have hj := HJ2.out.move (w' := W2.drew) ((Below.refl _ _).drew) hB
    exact op_call (hk := rfl) (hp := rfl) hj HP.out.2.2.2.1 HP.out.2.2.2.2 (by first | omega | simp) (HP.out.2.1.2.2.1.below hj.below HP.out.2.1.2.2.2) HP.out.2.1.2.2.2 (by omega)
  go_upto_region 8 with fail
  refine wp_region_T 9 (fun w' : World => w'.cell? ⟨w.heap.size + 1 + 1, 1, none⟩ = some (.slice a2 m2 e2) ∧ w'.cell? ⟨w.heap.size, 0, none⟩ = some (.int .i64 14) ∧ w'.cell? ⟨g, F + 2, none⟩ = some (.int .i64 k1) ∧ w'.cell? ⟨g, F + 2 + 1, none⟩ = some (.slice (some ⟨b1, 0, none⟩) n1 p1)) (by kernel_rfl) ?_
  refine anyT_take (i := 0) (v := ?vc140) rfl (by kernel_rfl) (by kernel_rfl) (by kernel_rfl) (by kernel_rfl) (by decide) (fun _ _ _ h => h) (Or.inl ⟨by rfl, ?yc140⟩) hS ?_
  case yc140 => (intro wz hSw; (try dsimp only at hSw); go_simp; (try with_reducible rfl))
  try simp only [Act.put, List.getElem_toArray, List.getElem_cons_zero, List.getElem_cons_succ, List.setIfInBounds_toArray, List.set_cons_zero, List.set_cons_succ]
  refine anyT_take (i := 1) (v := ?vc141) rfl (by kernel_rfl) (by kernel_rfl) (by kernel_rfl) (by kernel_rfl) (by decide) (fun _ _ _ h => h) (Or.inl ⟨by rfl, ?yc141⟩) hS ?_
  case yc141 => (intro wz hSw; (try dsimp only at hSw); go_simp; (try with_reducible rfl))
  try simp only [Act.put, List.getElem_toArray, List.getElem_cons_zero, List.getElem_cons_succ, List.setIfInBounds_toArray, List.set_cons_zero, List.set_cons_succ]
  refine anyT_take (i := 2) (v := ?vc142) rfl (by kernel_rfl) (by kernel_rfl) (by kernel_rfl) (by kernel_rfl) (by decide) (fun _ _ _ h => h) (Or.inl ⟨by rfl, ?yc142⟩) hS ?_
  case yc142 => (intro wz hSw; (try dsimp only at hSw); go_simp; (try with_reducible rfl))
  try simp only [Act.put, List.getElem_toArray, List.getElem_cons_zero, List.getElem_cons_succ, List.setIfInBounds_toArray, List.set_cons_zero, List.set_cons_succ]
  refine anyT_take (i := 3) (v := ?vc143) rfl (by kernel_rfl) (by kernel_rfl) (by kernel_rfl) (by kernel_rfl) (by decide) (fun _ _ _ h => h) (Or.inl ⟨by rfl, ?yc143⟩) hS ?_
  case yc143 => (intro wz hSw; (try dsimp only at hSw); go_simp; (try with_reducible rfl))
  try simp only [Act.put, List.getElem_toArray, List.getElem_cons_zero, List.getElem_cons_succ, List.setIfInBounds_toArray, List.set_cons_zero, List.set_cons_succ]
  refine anyT_take (i := 4) (v := ?vc144) rfl (by kernel_rfl) (by kernel_rfl) (by kernel_rfl) (by kernel_rfl) (by decide) (fun _ _ _ h => h) (Or.inl ⟨by rfl, ?yc144⟩) hS ?_
  case yc144 => (intro wz hSw; (try dsimp only at hSw); go_simp; (try with_reducible rfl))
  try simp only [Act.put, List.getElem_toArray, List.getElem_cons_zero, List.getElem_cons_succ, List.setIfInBounds_toArray, List.set_cons_zero, List.set_cons_succ]
  refine anyT_take (i := 5) (v := ?vc145) rfl (by kernel_rfl) (by kernel_rfl) (by kernel_rfl) (by kernel_rfl) (by decide) (fun _ _ _ h => h) (Or.inl ⟨by rfl, ?yc145⟩) hS ?_
  case yc145 => (intro wz hSw; (try dsimp only at hSw); go_simp; (try with_reducible rfl))
  try simp only [Act.put, List.getElem_toArray, List.getElem_cons_zero, List.getElem_cons_succ, List.setIfInBounds_toArray, List.set_cons_zero, List.set_cons_succ]
  refine anyT_take (i := 6) (v := ?vc146) rfl (by kernel_rfl) (by kernel_rfl) (by kernel_rfl) (by kernel_rfl) (by decide) (fun _ _ _ h => h) (Or.inl ⟨by rfl, ?yc146⟩) hS ?_
  case yc146 => (intro wz hSw; (try dsimp only at hSw); go_simp; (try with_reducible rfl))
  try simp only [Act.put, List.getElem_toArray, List.getElem_cons_zero, List.getElem_cons_succ, List.setIfInBounds_toArray, List.set_cons_zero, List.set_cons_succ]
  refine anyT_one (i := 7) (by kernel_rfl) rfl (fun K hK => ?_)
  go_simp
  go_at_call 74
  refine HC2.out.mono ?_
  rintro r q2 ⟨v3, rfl, hO3, hF3⟩
  obtain ⟨a3, e3, hv3⟩ := hO3.slice
  obtain ⟨m3, hm3⟩ : ∃ m3 : Nat, m3 = (X2 ++ wrapT 14 1 (k1, t1)).length := ⟨_, rfl⟩
  rw [← hm3] at hv3
  subst hv3
  clear hm3
  obtain ⟨X3, hX3⟩ : ∃ X3 : List UInt8, X3 = X2 ++ wrapT 14 1 (k1, t1) := ⟨_, rfl⟩
  have HX3 : Hid (X3 = X2 ++ wrapT 14 1 (k1, t1)) := hX3
  have x3 : X3.length ≤ X2.length + n1 + 2 := by rw [hX3, List.length_append];  have h9 := wrapT_len 14 1 (k1, t1); have := HP.out.2.2.2.1; simp only at h9; omega
  have hFd : Fr (w.heap.size + 3) W2 q2 := ((Fr.refl _ _).step ((Below.refl _ _).drew) (by omega)).trans hF3
  have HJ3 : Hid (PnJ w ⟨14, s, hi, t, lo, up, n⟩ (.slice a3 m3 e3) X3 (q2.setCell ⟨w.heap.size + 1 + 1, 1, none⟩ (.slice a3 m3 e3))) := HJ2.out.step hFd (by rw [hX3]; exact hO3) hB
  have g2a : q2.cell? ⟨w.heap.size + 1 + 1, 1, none⟩ = some (.slice a2 m2 e2) := (hFd.box HJ2.out.whole (by decide)).cell (j := 1) rfl
  have g2f : q2.frozen? ⟨w.heap.size + 1 + 1, 1, none⟩ = false := (hFd.box HJ2.out.whole (by decide)).frozen 1
  have g2b : q2.cell? ⟨w.heap.size, 0, none⟩ = some (.int .i64 14) := (hFd.box HJ2.out.node (by decide)).cell (j := 0) rfl
  have g2c : q2.cell? ⟨g, F + 2, none⟩ = some (.int .i64 k1) := by rw [hFd.below.cell (p := ⟨g, F + 2, none⟩) (by show g < _; omega)]; exact m2c
  have g2d : q2.cell? ⟨g, F + 2 + 1, none⟩ = some (.slice (some ⟨b1, 0, none⟩) n1 p1) := by rw [hFd.below.cell (p := ⟨g, F + 2 + 1, none⟩) (by show g < _; omega)]; exact m2d
  clear hO3 hF3 hX3 hFd
  refine hK.out _ _ (.inr ⟨g2a, g2b, g2c, g2d⟩) ?_
  clear hK
  try simp only [Act.put, List.getElem_toArray, List.getElem_cons_zero, List.getElem_cons_succ, List.setIfInBounds_toArray, List.set_cons_zero, List.set_cons_succ]
  refine anyT_one (i := 8) (by kernel_rfl) rfl (fun K hK => ?_)
  go_simp
  refine hK.out _ _ (.inr ⟨g2a, g2b, g2c, g2d⟩) ?_
  clear hK
  try simp only [Act.put, List.getElem_toArray, List.getElem_cons_zero, List.getElem_cons_succ, List.setIfInBounds_toArray, List.set_cons_zero, List.set_cons_succ]
  obtain ⟨W3, hW3⟩ : ∃ W3 : World, W3 = q2.setCell ⟨w.heap.size + 1 + 1, 1, none⟩ (.slice a3 m3 e3) := ⟨_, rfl⟩
  rw [← hW3] at HJ3
  refine anyT_one (i := 9) (by kernel_rfl) rfl (fun K hK => ?_)
  go_simp
  rw [← hW3]
  refine hK.out _ _ (.inl rfl) ?_
  clear hK
  try simp only [Act.put, List.getElem_toArray, List.getElem_cons_zero, List.getElem_cons_succ, List.setIfInBounds_toArray, List.set_cons_zero, List.set_cons_succ]
  refine anyT_done (by kernel_rfl) ?_
  clear hW3 g2a g2b g2c g2d g2f m2a m2b m2c m2d hS
  have HY : Hid (Y = X3) := by show _ = _; rw [HY0.out, HX3.out, HX2.out, HX1.out]; simp
  have HNE : Hid (X3 ≠ []) := by
    show X3 ≠ []
    rw [HX3.out, HX2.out]; simp
  obtain ⟨bz, cz, hvz, hOz, hbz, hrz⟩ := HJ3.out.done HNE.out
  have hk0 := HJ3.out.whole.cell (j := 0) rfl
  have hk1 := HJ3.out.whole.cell (j := 1) rfl
  have hr0 := HJ3.out.res.cell (j := 0) rfl
  have hr1 := HJ3.out.res.cell (j := 1) rfl
  have hf0 := HJ3.out.res.frozen 0
  have hf1 := HJ3.out.res.frozen 1
  obtain ⟨WZ, hWZ⟩ : ∃ WZ : World, WZ = (W3.setCell ⟨w.heap.size + 1, 0, none⟩ (.int .i64 14)).setCell ⟨w.heap.size + 1, 1, none⟩ (.slice a3 m3 e3) := ⟨_, rfl⟩
  have HZ : Hid (PnP 14 Y w (.returned (.agg #[.int .i64 14, (.slice a3 m3 e3)])) WZ ∧ BoxAt WZ w.heap.size 67 2 (w.heap.size + 1) [.int .i64 14, (.slice a3 m3 e3)]) := by
    rw [HY.out, hWZ]
    exact ⟨⟨bz, cz, by rw [hvz], hOz, hbz⟩, hrz⟩
  have p0 := HZ.out.2.cell (j := 0) rfl
  have p1 := HZ.out.2.cell (j := 1) rfl
  clear hvz hOz hbz hrz
  go_wp2_with fail
  rw [← hWZ]
  exact bodyPost_ret (v := .agg #[.int .i64 14, (.slice a3 m3 e3)]) (by simp [results, Tryz.results37, go_sem, p0, p1]) rfl HZ.out.1
set_option maxHeartbeats 8000000 in
theorem printNode_15 (s : ByteArray) (hi : Bool) (t : ByteArray) (lo up n : Int) (g F c : Nat) (k0 k1 : Int) (b0 p0 b1 p1 : Nat) (t0 t1 : List UInt8) (w : World) (hg : g < w.heap.size) (hG : Gl w) (hB : 7 ≤ w.heap.size)
    (h0 : w.cell? ⟨g, F, none⟩ = some (.int .i64 k0) ∧ w.cell? ⟨g, F + 1, none⟩ = some (.slice (some ⟨b0, 0, none⟩) t0.length p0) ∧ BysAt w b0 0 t0 ∧ b0 < w.heap.size)
    (h1 : w.cell? ⟨g, F + 2, none⟩ = some (.int .i64 k1) ∧ w.cell? ⟨g, F + 2 + 1, none⟩ = some (.slice (some ⟨b1, 0, none⟩) t1.length p1) ∧ BysAt w b1 0 t1 ∧ b1 < w.heap.size) (hl0 : t0.length ≤ 400000) (hl1 : t1.length ≤ 400000) :
    Calls Tryz.prog 37 #[.agg #[.int .i64 15, .string s, .bool hi, .string t, .int .u64 lo, .int .u64 up, .int .i64 n], .slice (some ⟨g, F, none⟩) 2 c] w (PnP 15 (wrapT 15 0 (k0, t0) ++ [32, 124, 32] ++ wrapT 15 1 (k1, t1)) w) := by
  obtain ⟨n0, hn0⟩ : ∃ n0, n0 = t0.length := ⟨_, rfl⟩
  obtain ⟨n1, hn1⟩ : ∃ n1, n1 = t1.length := ⟨_, rfl⟩
  rw [← hn0] at h0
  rw [← hn1] at h1
  have HP : Hid ((w.cell? ⟨g, F, none⟩ = some (.int .i64 k0) ∧ w.cell? ⟨g, F + 1, none⟩ = some (.slice (some ⟨b0, 0, none⟩) n0 p0) ∧ BysAt w b0 0 t0 ∧ b0 < w.heap.size) ∧ (w.cell? ⟨g, F + 2, none⟩ = some (.int .i64 k1) ∧ w.cell? ⟨g, F + 2 + 1, none⟩ = some (.slice (some ⟨b1, 0, none⟩) n1 p1) ∧ BysAt w b1 0 t1 ∧ b1 < w.heap.size) ∧ (n0 = t0.length ∧ t0.length ≤ 1000000) ∧ (n1 = t1.length ∧ t1.length ≤ 1000000)) := ⟨h0, h1, ⟨hn0, by omega⟩, hn1, by omega⟩
  have l0 : n0 ≤ 400000 := by omega
  have l1 : n1 ≤ 400000 := by omega
  clear h0 h1 hn0 hn1 hl0 hl1
  obtain ⟨Y, hY⟩ : ∃ Y, Y = wrapT 15 0 (k0, t0) ++ [32, 124, 32] ++ wrapT 15 1 (k1, t1) := ⟨_, rfl⟩
  rw [← hY]
  have HY0 : Hid (Y = wrapT 15 0 (k0, t0) ++ [32, 124, 32] ++ wrapT 15 1 (k1, t1)) := hY
  clear hY
  obtain ⟨W0, hW0⟩ : ∃ W0 : World, W0 = ((w.alloc (Obj.cells #[.int .i64 15, .string s, .bool hi, .string t, .int .u64 lo, .int .u64 up, .int .i64 n] 65)).alloc (Obj.cells #[.int .i64 0, .slice none 0 0] 67)).alloc (Obj.cells #[.int .i64 15, .slice none 0 0] 67) := ⟨_, rfl⟩
  have HJ0 : Hid (PnJ w ⟨15, s, hi, t, lo, up, n⟩ (.slice none 0 0) [] W0) := by
    obtain ⟨A, hA⟩ : ∃ A : World, A = w.alloc (Obj.cells #[.int .i64 15, .string s, .bool hi, .string t, .int .u64 lo, .int .u64 up, .int .i64 n] 65) := ⟨_, rfl⟩
    obtain ⟨B, hBB⟩ : ∃ B : World, B = A.alloc (Obj.cells #[.int .i64 0, .slice none 0 0] 67) := ⟨_, rfl⟩
    have zA : A.heap.size = w.heap.size + 1 := by rw [hA]; simp
    have zB : B.heap.size = w.heap.size + 2 := by rw [hBB]; simp [zA]
    have bA : Below w.heap.size w A := by rw [hA]; exact (Below.refl _ _).alloc (Nat.le_refl _) _
    have bB : Below A.heap.size A B := by rw [hBB]; exact (Below.refl _ _).alloc (Nat.le_refl _) _
    have b0 : Below B.heap.size B W0 := by rw [hW0, ← hA, ← hBB]; exact (Below.refl _ _).alloc (Nat.le_refl _) _
    have x0 : BoxAt A w.heap.size 65 7 w.heap.size [.int .i64 15, .string s, .bool hi, .string t, .int .u64 lo, .int .u64 up, .int .i64 n] := by rw [hA]; exact boxAt_new w _ (Nat.le_refl _) rfl
    have x1 : BoxAt B w.heap.size 67 2 (w.heap.size + 1) [.int .i64 0, .slice none 0 0] := by rw [hBB, ← zA]; exact boxAt_new A _ (by omega) rfl
    have x2 : BoxAt W0 w.heap.size 67 2 (w.heap.size + 1 + 1) [.int .i64 15, .slice none 0 0] := by rw [hW0, ← hA, ← hBB, ← zB]; exact boxAt_new B _ (by omega) rfl
    have bw : Below w.heap.size w W0 := (bA.trans (bB.mono (by omega))).trans (b0.mono (by omega))
    exact ⟨World.ownsRow_nil .., (x0.below bB).below b0, x1.below b0, x2, hG.on bw hB, bw, by rw [hW0]; simp⟩
  have z0 := HJ0.out.size
  have c0 := HJ0.out.node.cell (j := 0) rfl
  go_enter Tryz.func37, Tryz.ntmps37
  go_upto_region 2 with fail
  rw [← hW0]
  clear hW0
  have m0a : W0.cell? ⟨w.heap.size + 1 + 1, 1, none⟩ = some (.slice none 0 0) := HJ0.out.whole.cell (j := 1) rfl
  have m0b : W0.cell? ⟨w.heap.size, 0, none⟩ = some (.int .i64 15) := HJ0.out.node.cell (j := 0) rfl
  have m0c : W0.cell? ⟨g, F, none⟩ = some (.int .i64 k0) := by rw [HJ0.out.below.cell (p := ⟨g, F, none⟩) hg]; exact HP.out.1.1
  have m0d : W0.cell? ⟨g, F + 1, none⟩ = some (.slice (some ⟨b0, 0, none⟩) n0 p0) := by rw [HJ0.out.below.cell (p := ⟨g, F + 1, none⟩) hg]; exact HP.out.1.2.1
  have hS : (fun w' : World => w'.cell? ⟨w.heap.size + 1 + 1, 1, none⟩ = some (.slice none 0 0) ∧ w'.cell? ⟨w.heap.size, 0, none⟩ = some (.int .i64 15) ∧ w'.cell? ⟨g, F, none⟩ = some (.int .i64 k0) ∧ w'.cell? ⟨g, F + 1, none⟩ = some (.slice (some ⟨b0, 0, none⟩) n0 p0)) W0.drew := ⟨m0a, m0b, m0c, m0d⟩
  have y0 := HJ0.out.size
  have HC0 : Hid (Calls Tryz.prog 74 #[(.slice none 0 0), .int .i64 15, .int .i64 0, .agg #[.int .i64 k0, .slice (some ⟨b0, 0, none⟩) n0 p0]] W0.drew (AppP (w.heap.size + 3) (([] : List UInt8) ++ wrapT 15 0 (k0, t0)) W0.drew)) := by
    have hj := HJ0.out.move (w' := W0.drew) ((Below.refl _ _).drew) hB
    exact op_call (hk := rfl) (hp := rfl) hj HP.out.2.2.1.1 HP.out.2.2.1.2 (by first | omega | simp) (HP.out.1.2.2.1.below hj.below HP.out.1.2.2.2) HP.out.1.2.2.2 (by omega)
  go_upto_region 6 with fail
  refine wp_region_T 9 (fun w' : World => w'.cell? ⟨w.heap.size + 1 + 1, 1, none⟩ = some (.slice none 0 0) ∧ w'.cell? ⟨w.heap.size, 0, none⟩ = some (.int .i64 15) ∧ w'.cell? ⟨g, F, none⟩ = some (.int .i64 k0) ∧ w'.cell? ⟨g, F + 1, none⟩ = some (.slice (some ⟨b0, 0, none⟩) n0 p0)) (by kernel_rfl) ?_
  refine anyT_take (i := 0) (v := ?va150) rfl (by kernel_rfl) (by kernel_rfl) (by kernel_rfl) (by kernel_rfl) (by decide) (fun _ _ _ h => h) (Or.inl ⟨by rfl, ?ya150⟩) hS ?_
  case ya150 => (intro wz hSw; (try dsimp only at hSw); go_simp; (try with_reducible rfl))
  try simp only [Act.put, List.getElem_toArray, List.getElem_cons_zero, List.getElem_cons_succ, List.setIfInBounds_toArray, List.set_cons_zero, List.set_cons_succ]
  refine anyT_take (i := 1) (v := ?va151) rfl (by kernel_rfl) (by kernel_rfl) (by kernel_rfl) (by kernel_rfl) (by decide) (fun _ _ _ h => h) (Or.inl ⟨by rfl, ?ya151⟩) hS ?_
  case ya151 => (intro wz hSw; (try dsimp only at hSw); go_simp; (try with_reducible rfl))
  try simp only [Act.put, List.getElem_toArray, List.getElem_cons_zero, List.getElem_cons_succ, List.setIfInBounds_toArray, List.set_cons_zero, List.set_cons_succ]
  refine anyT_take (i := 2) (v := ?va152) rfl (by kernel_rfl) (by kernel_rfl) (by kernel_rfl) (by kernel_rfl) (by decide) (fun _ _ _ h => h) (Or.inl ⟨by rfl, ?ya152⟩) hS ?_
  case ya152 => (intro wz hSw; (try dsimp only at hSw); go_simp; (try with_reducible rfl))
  try simp only [Act.put, List.getElem_toArray, List.getElem_cons_zero, List.getElem_cons_succ, List.setIfInBounds_toArray, List.set_cons_zero, List.set_cons_succ]
  refine anyT_take (i := 3) (v := ?va153) rfl (by kernel_rfl) (by kernel_rfl) (by kernel_rfl) (by kernel_rfl) (by decide) (fun _ _ _ h => h) (Or.inl ⟨by rfl, ?ya153⟩) hS ?_
  case ya153 => (intro wz hSw; (try dsimp only at hSw); go_simp; (try with_reducible rfl))
  try simp only [Act.put, List.getElem_toArray, List.getElem_cons_zero, List.getElem_cons_succ, List.setIfInBounds_toArray, List.set_cons_zero, List.set_cons_succ]
  refine anyT_take (i := 4) (v := ?va154) rfl (by kernel_rfl) (by kernel_rfl) (by kernel_rfl) (by kernel_rfl) (by decide) (fun _ _ _ h => h) (Or.inl ⟨by rfl, ?ya154⟩) hS ?_
  case ya154 => (intro wz hSw; (try dsimp only at hSw); go_simp; (try with_reducible rfl))
  try simp only [Act.put, List.getElem_toArray, List.getElem_cons_zero, List.getElem_cons_succ, List.setIfInBounds_toArray, List.set_cons_zero, List.set_cons_succ]
  refine anyT_take (i := 5) (v := ?va155) rfl (by kernel_rfl) (by kernel_rfl) (by kernel_rfl) (by kernel_rfl) (by decide) (fun _ _ _ h => h) (Or.inl ⟨by rfl, ?ya155⟩) hS ?_
  case ya155 => (intro wz hSw; (try dsimp only at hSw); go_simp; (try with_reducible rfl))
  try simp only [Act.put, List.getElem_toArray, List.getElem_cons_zero, List.getElem_cons_succ, List.setIfInBounds_toArray, List.set_cons_zero, List.set_cons_succ]
  refine anyT_take (i := 6) (v := ?va156) rfl (by kernel_rfl) (by kernel_rfl) (by kernel_rfl) (by kernel_rfl) (by decide) (fun _ _ _ h => h) (Or.inl ⟨by rfl, ?ya156⟩) hS ?_
  case ya156 => (intro wz hSw; (try dsimp only at hSw); go_simp; (try with_reducible rfl))
  try simp only [Act.put, List.getElem_toArray, List.getElem_cons_zero, List.getElem_cons_succ, List.setIfInBounds_toArray, List.set_cons_zero, List.set_cons_succ]
  refine anyT_one (i := 7) (by kernel_rfl) rfl (fun K hK => ?_)
  go_simp
  go_at_call 74
  refine HC0.out.mono ?_
  rintro r q0 ⟨v1, rfl, hO1, hF1⟩
  obtain ⟨a1, e1, hv1⟩ := hO1.slice
  obtain ⟨m1, hm1⟩ : ∃ m1 : Nat, m1 = (([] : List UInt8) ++ wrapT 15 0 (k0, t0)).length := ⟨_, rfl⟩
  rw [← hm1] at hv1
  subst hv1
  clear hm1
  obtain ⟨X1, hX1⟩ : ∃ X1 : List UInt8, X1 = ([] : List UInt8) ++ wrapT 15 0 (k0, t0) := ⟨_, rfl⟩
  have HX1 : Hid (X1 = ([] : List UInt8) ++ wrapT 15 0 (k0, t0)) := hX1
  have x1 : X1.length ≤ 0 + n0 + 2 := by rw [hX1, List.length_append]; rw [List.length_nil]; have h9 := wrapT_len 15 0 (k0, t0); have := HP.out.2.2.1.1; simp only at h9; omega
  have hFd : Fr (w.heap.size + 3) W0 q0 := ((Fr.refl _ _).step ((Below.refl _ _).drew) (by omega)).trans hF1
  have HJ1 : Hid (PnJ w ⟨15, s, hi, t, lo, up, n⟩ (.slice a1 m1 e1) X1 (q0.setCell ⟨w.heap.size + 1 + 1, 1, none⟩ (.slice a1 m1 e1))) := HJ0.out.step hFd (by rw [hX1]; exact hO1) hB
  have g0a : q0.cell? ⟨w.heap.size + 1 + 1, 1, none⟩ = some (.slice none 0 0) := (hFd.box HJ0.out.whole (by decide)).cell (j := 1) rfl
  have g0f : q0.frozen? ⟨w.heap.size + 1 + 1, 1, none⟩ = false := (hFd.box HJ0.out.whole (by decide)).frozen 1
  have g0b : q0.cell? ⟨w.heap.size, 0, none⟩ = some (.int .i64 15) := (hFd.box HJ0.out.node (by decide)).cell (j := 0) rfl
  have g0c : q0.cell? ⟨g, F, none⟩ = some (.int .i64 k0) := by rw [hFd.below.cell (p := ⟨g, F, none⟩) (by show g < _; omega)]; exact m0c
  have g0d : q0.cell? ⟨g, F + 1, none⟩ = some (.slice (some ⟨b0, 0, none⟩) n0 p0) := by rw [hFd.below.cell (p := ⟨g, F + 1, none⟩) (by show g < _; omega)]; exact m0d
  clear hO1 hF1 hX1 hFd
  refine hK.out _ _ (.inr ⟨g0a, g0b, g0c, g0d⟩) ?_
  clear hK
  try simp only [Act.put, List.getElem_toArray, List.getElem_cons_zero, List.getElem_cons_succ, List.setIfInBounds_toArray, List.set_cons_zero, List.set_cons_succ]
  refine anyT_one (i := 8) (by kernel_rfl) rfl (fun K hK => ?_)
  go_simp
  refine hK.out _ _ (.inr ⟨g0a, g0b, g0c, g0d⟩) ?_
  clear hK
  try simp only [Act.put, List.getElem_toArray, List.getElem_cons_zero, List.getElem_cons_succ, List.setIfInBounds_toArray, List.set_cons_zero, List.set_cons_succ]
  obtain ⟨W1, hW1⟩ : ∃ W1 : World, W1 = q0.setCell ⟨w.heap.size + 1 + 1, 1, none⟩ (.slice a1 m1 e1) := ⟨_, rfl⟩
  rw [← hW1] at HJ1
  refine anyT_one (i := 9) (by kernel_rfl) rfl (fun K hK => ?_)
  go_simp
  rw [← hW1]
  refine hK.out _ _ (.inl rfl) ?_
  clear hK
  try simp only [Act.put, List.getElem_toArray, List.getElem_cons_zero, List.getElem_cons_succ, List.setIfInBounds_toArray, List.set_cons_zero, List.set_cons_succ]
  refine anyT_done (by kernel_rfl) ?_
  clear hW1 g0a g0b g0c g0d g0f m0a m0b m0c m0d hS
  have m1a : W1.cell? ⟨w.heap.size + 1 + 1, 1, none⟩ = some (.slice a1 m1 e1) := HJ1.out.whole.cell (j := 1) rfl
  have m1b : W1.cell? ⟨w.heap.size, 0, none⟩ = some (.int .i64 15) := HJ1.out.node.cell (j := 0) rfl
  have m1c : W1.cell? ⟨0, 15, none⟩ = some (.string ⟨#[124]⟩) := HJ1.out.gl.words 15 (by omega)
  have hS : (fun w' : World => w'.cell? ⟨w.heap.size + 1 + 1, 1, none⟩ = some (.slice a1 m1 e1) ∧ w'.cell? ⟨w.heap.size, 0, none⟩ = some (.int .i64 15) ∧ w'.cell? ⟨0, 15, none⟩ = some (.string ⟨#[124]⟩)) W1.drew := ⟨m1a, m1b, m1c⟩
  have y1 := HJ1.out.size
  have hJd : Hid (PnJ w ⟨15, s, hi, t, lo, up, n⟩ (.slice a1 m1 e1) X1 W1.drew) := HJ1.out.move ((Below.refl _ _).drew) hB
  go_upto_region 7 with fail
  refine wp_region_T 10 (fun w' : World => w'.cell? ⟨w.heap.size + 1 + 1, 1, none⟩ = some (.slice a1 m1 e1) ∧ w'.cell? ⟨w.heap.size, 0, none⟩ = some (.int .i64 15) ∧ w'.cell? ⟨0, 15, none⟩ = some (.string ⟨#[124]⟩)) (by kernel_rfl) ?_
  refine anyT_take (i := 0) (v := ?vb150) rfl (by kernel_rfl) (by kernel_rfl) (by kernel_rfl) (by kernel_rfl) (by decide) (fun _ _ _ h => h) (Or.inl ⟨by rfl, ?yb150⟩) hS ?_
  case yb150 => (intro wz hSw; (try dsimp only at hSw); go_simp; (try with_reducible rfl))
  try simp only [Act.put, List.getElem_toArray, List.getElem_cons_zero, List.getElem_cons_succ, List.setIfInBounds_toArray, List.set_cons_zero, List.set_cons_succ]
  refine anyT_take (i := 1) (v := ?vb151) rfl (by kernel_rfl) (by kernel_rfl) (by kernel_rfl) (by kernel_rfl) (by decide) (fun _ _ _ h => h) (Or.inl ⟨by rfl, ?yb151⟩) hS ?_
  case yb151 => (intro wz hSw; (try dsimp only at hSw); go_simp; (try with_reducible rfl))
  try simp only [Act.put, List.getElem_toArray, List.getElem_cons_zero, List.getElem_cons_succ, List.setIfInBounds_toArray, List.set_cons_zero, List.set_cons_succ]
  refine anyT_take (i := 2) (v := ?vb152) rfl (by kernel_rfl) (by kernel_rfl) (by kernel_rfl) (by kernel_rfl) (by decide) (fun _ _ _ h => h) (Or.inl ⟨by rfl, ?yb152⟩) hS ?_
  case yb152 => (intro wz hSw; (try dsimp only at hSw); go_simp; (try with_reducible rfl))
  try simp only [Act.put, List.getElem_toArray, List.getElem_cons_zero, List.getElem_cons_succ, List.setIfInBounds_toArray, List.set_cons_zero, List.set_cons_succ]
  refine anyT_take (i := 3) (v := ?vb153) rfl (by kernel_rfl) (by kernel_rfl) (by kernel_rfl) (by kernel_rfl) (by decide) (fun _ _ _ h => h) (Or.inl ⟨by rfl, ?yb153⟩) hS ?_
  case yb153 => (intro wz hSw; (try dsimp only at hSw); go_simp; (try with_reducible rfl))
  try simp only [Act.put, List.getElem_toArray, List.getElem_cons_zero, List.getElem_cons_succ, List.setIfInBounds_toArray, List.set_cons_zero, List.set_cons_succ]
  refine anyT_take (i := 4) (v := ?vb154) rfl (by kernel_rfl) (by kernel_rfl) (by kernel_rfl) (by kernel_rfl) (by decide) (fun _ _ _ h => h) (Or.inl ⟨by rfl, ?yb154⟩) hS ?_
  case yb154 => (intro wz hSw; (try dsimp only at hSw); go_simp; (try with_reducible rfl))
  try simp only [Act.put, List.getElem_toArray, List.getElem_cons_zero, List.getElem_cons_succ, List.setIfInBounds_toArray, List.set_cons_zero, List.set_cons_succ]
  refine anyT_take (i := 5) (v := ?vb155) rfl (by kernel_rfl) (by kernel_rfl) (by kernel_rfl) (by kernel_rfl) (by decide) (fun _ _ _ h => h) (Or.inl ⟨by rfl, ?yb155⟩) hS ?_
  case yb155 => (intro wz hSw; (try dsimp only at hSw); go_simp; (try with_reducible rfl))
  try simp only [Act.put, List.getElem_toArray, List.getElem_cons_zero, List.getElem_cons_succ, List.setIfInBounds_toArray, List.set_cons_zero, List.set_cons_succ]
  refine anyT_take (i := 6) (v := (.string ⟨#[32, 124]⟩)) rfl (by kernel_rfl) (by kernel_rfl) (by kernel_rfl) (by kernel_rfl) (by decide) (fun _ _ _ h => h) (Or.inl ⟨by rfl, ?yb156⟩) hS ?_
  case yb156 => (intro wz hSw; (try dsimp only at hSw); go_simp; rfl)
  try simp only [Act.put, List.getElem_toArray, List.getElem_cons_zero, List.getElem_cons_succ, List.setIfInBounds_toArray, List.set_cons_zero, List.set_cons_succ]
  refine anyT_take (i := 7) (v := (.string ⟨#[32, 124, 32]⟩)) rfl (by kernel_rfl) (by kernel_rfl) (by kernel_rfl) (by kernel_rfl) (by decide) (fun _ _ _ h => h) (Or.inl ⟨by rfl, ?yb157⟩) hS ?_
  case yb157 => (intro wz hSw; (try dsimp only at hSw); go_simp; rfl)
  try simp only [Act.put, List.getElem_toArray, List.getElem_cons_zero, List.getElem_cons_succ, List.setIfInBounds_toArray, List.set_cons_zero, List.set_cons_succ]
  refine anyT_one (i := 8) (by kernel_rfl) rfl (fun K hK => ?_)
  refine step_append_st _ rfl _ _ rfl (w.heap.size + 3) (.slice a1 m1 e1) X1 ⟨#[32, 124, 32]⟩ rfl rfl hJd.out.own ?hl ?hb ?_
  case hl => (have h3 : (⟨#[32, 124, 32]⟩ : ByteArray).size = 3 := rfl; rw [h3]; omega)
  case hb => exact hJd.out.size
  intro v2 q1 hO2 hgr2
  obtain ⟨a2, e2, hv2⟩ := hO2.slice
  obtain ⟨m2, hm2⟩ : ∃ m2 : Nat, m2 = (X1 ++ bl ⟨#[32, 124, 32]⟩).length := ⟨_, rfl⟩
  rw [← hm2] at hv2
  subst hv2
  clear hm2
  obtain ⟨X2, hX2⟩ : ∃ X2 : List UInt8, X2 = X1 ++ [32, 124, 32] := ⟨_, rfl⟩
  have HX2 : Hid (X2 = X1 ++ [32, 124, 32]) := hX2
  have x2 : X2.length ≤ X1.length + 3 := by rw [hX2, List.length_append]; exact Nat.le_refl _
  have hFd : Fr (w.heap.size + 3) W1 q1 := ((Fr.refl _ _).step ((Below.refl _ _).drew) (by omega)).trans (hJd.out.own.nextF (Fr.refl _ _) hJd.out.size hgr2)
  have HJ2 : Hid (PnJ w ⟨15, s, hi, t, lo, up, n⟩ (.slice a2 m2 e2) X2 (q1.setCell ⟨w.heap.size + 1 + 1, 1, none⟩ (.slice a2 m2 e2))) := HJ1.out.step hFd (by rw [hX2]; exact hO2) hB
  have g1a : q1.cell? ⟨w.heap.size + 1 + 1, 1, none⟩ = some (.slice a1 m1 e1) := (hFd.box HJ1.out.whole (by decide)).cell (j := 1) rfl
  have g1f : q1.frozen? ⟨w.heap.size + 1 + 1, 1, none⟩ = false := (hFd.box HJ1.out.whole (by decide)).frozen 1
  have g1b : q1.cell? ⟨w.heap.size, 0, none⟩ = some (.int .i64 15) := (hFd.box HJ1.out.node (by decide)).cell (j := 0) rfl
  have g1c : q1.cell? ⟨0, 15, none⟩ = some (.string ⟨#[124]⟩) := (HJ1.out.gl.on hFd.below (by omega)).words 15 (by omega)
  clear hO2 hgr2 hX2 hFd
  refine hK.out _ _ (.inr ⟨g1a, g1b, g1c⟩) ?_
  clear hK
  try simp only [Act.put, List.getElem_toArray, List.getElem_cons_zero, List.getElem_cons_succ, List.setIfInBounds_toArray, List.set_cons_zero, List.set_cons_succ]
  refine anyT_one (i := 9) (by kernel_rfl) rfl (fun K hK => ?_)
  go_simp
  refine hK.out _ _ (.inr ⟨g1a, g1b, g1c⟩) ?_
  clear hK
  try simp only [Act.put, List.getElem_toArray, List.getElem_cons_zero, List.getElem_cons_succ, List.setIfInBounds_toArray, List.set_cons_zero, List.set_cons_succ]
  obtain ⟨W2, hW2⟩ : ∃ W2 : World, W2 = q1.setCell ⟨w.heap.size + 1 + 1, 1, none⟩ (.slice a2 m2 e2) := ⟨_, rfl⟩
  rw [← hW2] at HJ2
  refine anyT_one (i := 10) (by kernel_rfl) rfl (fun K hK => ?_)
  go_simp
  rw [← hW2]
  refine hK.out _ _ (.inl rfl) ?_
  clear hK
  try simp only [Act.put, List.getElem_toArray, List.getElem_cons_zero, List.getElem_cons_succ, List.setIfInBounds_toArray, List.set_cons_zero, List.set_cons_succ]
  refine anyT_done (by kernel_rfl) ?_
  clear hW2 g1a g1b g1c g1f m1a m1b m1c hS hJd
  have m2a : W2.cell? ⟨w.heap.size + 1 + 1, 1, none⟩ = some (.slice a2 m2 e2) := HJ2.out.whole.cell (j := 1) rfl
  have m2b : W2.cell? ⟨w.heap.size, 0, none⟩ = some (.int .i64 15) := HJ2.out.node.cell (j := 0) rfl
  have m2c : W2.cell? ⟨g, F + 2, none⟩ = some (.int .i64 k1) := by rw [HJ2.out.below.cell (p := ⟨g, F + 2, none⟩) hg]; exact HP.out.2.1.1
  have m2d : W2.cell? ⟨g, F + 2 + 1, none⟩ = some (.slice (some ⟨b1, 0, none⟩) n1 p1) := by rw [HJ2.out.below.cell (p := ⟨g, F + 2 + 1, none⟩) hg]; exact HP.out.2.1.2.1
  have hS : (fun w' : World => w'.cell? ⟨w.heap.size + 1 + 1, 1, none⟩ = some (.slice a2 m2 e2) ∧ w'.cell? ⟨w.heap.size, 0, none⟩ = some (.int .i64 15) ∧ w'.cell? ⟨g, F + 2, none⟩ = some (.int .i64 k1) ∧ w'.cell? ⟨g, F + 2 + 1, none⟩ = some (.slice (some ⟨b1, 0, none⟩) n1 p1)) W2.drew := ⟨m2a, m2b, m2c, m2d⟩
  have y2 := HJ2.out.size
  have HC2 : Hid (Calls Tryz.prog 74 #[(.slice a2 m2 e2), .int .i64 15, .int .i64 1, .agg #[.int .i64 k1, .slice (some ⟨b1, 0, none⟩) n1 p1]] W2.drew (AppP (w.heap.size + 3) (X2 ++ wrapT 15 1 (k1, t1)) W2.drew)) := by
    have hj := HJ2.out.move (w' := W2.drew) ((Below.refl _ _).drew) hB
    exact op_call (hk := rfl) (hp := rfl) hj HP.out.2.2.2.1 HP.out.2.2.2.2 (by first | omega | simp) (HP.out.2.1.2.2.1.below hj.below HP.out.2.1.2.2.2) HP.out.2.1.2.2.2 (by omega)
  go_upto_region 8 with fail
  refine wp_region_T 9 (fun w' : World => w'.cell? ⟨w.heap.size + 1 + 1, 1, none⟩ = some (.slice a2 m2 e2) ∧ w'.cell? ⟨w.heap.size, 0, none⟩ = some (.int .i64 15) ∧ w'.cell? ⟨g, F + 2, none⟩ = some (.int .i64 k1) ∧ w'.cell? ⟨g, F + 2 + 1, none⟩ = some (.slice (some ⟨b1, 0, none⟩) n1 p1)) (by kernel_rfl) ?_
  refine anyT_take (i := 0) (v := ?vc150) rfl (by kernel_rfl) (by kernel_rfl) (by kernel_rfl) (by kernel_rfl) (by decide) (fun _ _ _ h => h) (Or.inl ⟨by rfl, ?yc150⟩) hS ?_
  case yc150 => (intro wz hSw; (try dsimp only at hSw); go_simp; (try with_reducible rfl))
  try simp only [Act.put, List.getElem_toArray, List.getElem_cons_zero, List.getElem_cons_succ, List.setIfInBounds_toArray, List.set_cons_zero, List.set_cons_succ]
  refine anyT_take (i := 1) (v := ?vc151) rfl (by kernel_rfl) (by kernel_rfl) (by kernel_rfl) (by kernel_rfl) (by decide) (fun _ _ _ h => h) (Or.inl ⟨by rfl, ?yc151⟩) hS ?_
  case yc151 => (intro wz hSw; (try dsimp only at hSw); go_simp; (try with_reducible rfl))
  try simp only [Act.put, List.getElem_toArray, List.getElem_cons_zero, List.getElem_cons_succ, List.setIfInBounds_toArray, List.set_cons_zero, List.set_cons_succ]
  refine anyT_take (i := 2) (v := ?vc152) rfl (by kernel_rfl) (by kernel_rfl) (by kernel_rfl) (by kernel_rfl) (by decide) (fun _ _ _ h => h) (Or.inl ⟨by rfl, ?yc152⟩) hS ?_
  case yc152 => (intro wz hSw; (try dsimp only at hSw); go_simp; (try with_reducible rfl))
  try simp only [Act.put, List.getElem_toArray, List.getElem_cons_zero, List.getElem_cons_succ, List.setIfInBounds_toArray, List.set_cons_zero, List.set_cons_succ]
  refine anyT_take (i := 3) (v := ?vc153) rfl (by kernel_rfl) (by kernel_rfl) (by kernel_rfl) (by kernel_rfl) (by decide) (fun _ _ _ h => h) (Or.inl ⟨by rfl, ?yc153⟩) hS ?_
  case yc153 => (intro wz hSw; (try dsimp only at hSw); go_simp; (try with_reducible rfl))
  try simp only [Act.put, List.getElem_toArray, List.getElem_cons_zero, List.getElem_cons_succ, List.setIfInBounds_toArray, List.set_cons_zero, List.set_cons_succ]
  refine anyT_take (i := 4) (v := ?vc154) rfl (by kernel_rfl) (by kernel_rfl) (by kernel_rfl) (by kernel_rfl) (by decide) (fun _ _ _ h => h) (Or.inl ⟨by rfl, ?yc154⟩) hS ?_
  case yc154 => (intro wz hSw; (try dsimp only at hSw); go_simp; (try with_reducible rfl))
  try simp only [Act.put, List.getElem_toArray, List.getElem_cons_zero, List.getElem_cons_succ, List.setIfInBounds_toArray, List.set_cons_zero, List.set_cons_succ]
  refine anyT_take (i := 5) (v := ?vc155) rfl (by kernel_rfl) (by kernel_rfl) (by kernel_rfl) (by kernel_rfl) (by decide) (fun _ _ _ h => h) (Or.inl ⟨by rfl, ?yc155⟩) hS ?_
  case yc155 => (intro wz hSw; (try dsimp only at hSw); go_simp; (try with_reducible rfl))
  try simp only [Act.put, List.getElem_toArray, List.getElem_cons_zero, List.getElem_cons_succ, List.setIfInBounds_toArray, List.set_cons_zero, List.set_cons_succ]
  refine anyT_take (i := 6) (v := ?vc156) rfl (by kernel_rfl) (by kernel_rfl) (by kernel_rfl) (by kernel_rfl) (by decide) (fun _ _ _ h => h) (Or.inl ⟨by rfl, ?yc156⟩) hS ?_
  case yc156 => (intro wz hSw; (try dsimp only at hSw); go_simp; (try with_reducible rfl))
  try simp only [Act.put, List.getElem_toArray, List.getElem_cons_zero, List.getElem_cons_succ, List.setIfInBounds_toArray, List.set_cons_zero, List.set_cons_succ]
  refine anyT_one (i := 7) (by kernel_rfl) rfl (fun K hK => ?_)
  go_simp
  go_at_call 74
  refine HC2.out.mono ?_
  rintro r q2 ⟨v3, rfl, hO3, hF3⟩
  obtain ⟨a3, e3, hv3⟩ := hO3.slice
  obtain ⟨m3, hm3⟩ : ∃ m3 : Nat, m3 = (X2 ++ wrapT 15 1 (k1, t1)).length := ⟨_, rfl⟩
  rw [← hm3] at hv3
  subst hv3
  clear hm3
  obtain ⟨X3, hX3⟩ : ∃ X3 : List UInt8, X3 = X2 ++ wrapT 15 1 (k1, t1) := ⟨_, rfl⟩
  have HX3 : Hid (X3 = X2 ++ wrapT 15 1 (k1, t1)) := hX3
  have x3 : X3.length ≤ X2.length + n1 + 2 := by rw [hX3, List.length_append];  have h9 := wrapT_len 15 1 (k1, t1); have := HP.out.2.2.2.1; simp only at h9; omega
  have hFd : Fr (w.heap.size + 3) W2 q2 := ((Fr.refl _ _).step ((Below.refl _ _).drew) (by omega)).trans hF3
  have HJ3 : Hid (PnJ w ⟨15, s, hi, t, lo, up, n⟩ (.slice a3 m3 e3) X3 (q2.setCell ⟨w.heap.size + 1 + 1, 1, none⟩ (.slice a3 m3 e3))) := HJ2.out.step hFd (by rw [hX3]; exact hO3) hB
  have g2a : q2.cell? ⟨w.heap.size + 1 + 1, 1, none⟩ = some (.slice a2 m2 e2) := (hFd.box HJ2.out.whole (by decide)).cell (j := 1) rfl
  have g2f : q2.frozen? ⟨w.heap.size + 1 + 1, 1, none⟩ = false := (hFd.box HJ2.out.whole (by decide)).frozen 1
  have g2b : q2.cell? ⟨w.heap.size, 0, none⟩ = some (.int .i64 15) := (hFd.box HJ2.out.node (by decide)).cell (j := 0) rfl
  have g2c : q2.cell? ⟨g, F + 2, none⟩ = some (.int .i64 k1) := by rw [hFd.below.cell (p := ⟨g, F + 2, none⟩) (by show g < _; omega)]; exact m2c
  have g2d : q2.cell? ⟨g, F + 2 + 1, none⟩ = some (.slice (some ⟨b1, 0, none⟩) n1 p1) := by rw [hFd.below.cell (p := ⟨g, F + 2 + 1, none⟩) (by show g < _; omega)]; exact m2d
  clear hO3 hF3 hX3 hFd
  refine hK.out _ _ (.inr ⟨g2a, g2b, g2c, g2d⟩) ?_
  clear hK
  try simp only [Act.put, List.getElem_toArray, List.getElem_cons_zero, List.getElem_cons_succ, List.setIfInBounds_toArray, List.set_cons_zero, List.set_cons_succ]
  refine anyT_one (i := 8) (by kernel_rfl) rfl (fun K hK => ?_)
  go_simp
  refine hK.out _ _ (.inr ⟨g2a, g2b, g2c, g2d⟩) ?_
  clear hK
  try simp only [Act.put, List.getElem_toArray, List.getElem_cons_zero, List.getElem_cons_succ, List.setIfInBounds_toArray, List.set_cons_zero, List.set_cons_succ]
  obtain ⟨W3, hW3⟩ : ∃ W3 : World, W3 = q2.setCell ⟨w.heap.size + 1 + 1, 1, none⟩ (.slice a3 m3 e3) := ⟨_, rfl⟩
  rw [← hW3] at HJ3
  refine anyT_one (i := 9) (by kernel_rfl) rfl (fun K hK => ?_)
  go_simp
  rw [← hW3]
  refine hK.out _ _ (.inl rfl) ?_
  clear hK
  try simp only [Act.put, List.getElem_toArray, List.getElem_cons_zero, List.getElem_cons_succ, List.setIfInBounds_toArray, List.set_cons_zero, List.set_cons_succ]
  refine anyT_done (by kernel_rfl) ?_
  clear hW3 g2a g2b g2c g2d g2f m2a m2b m2c m2d hS
  have HY : Hid (Y = X3) := by show _ = _; rw [HY0.out, HX3.out, HX2.out, HX1.out]; simp
  have HNE : Hid (X3 ≠ []) := by
    show X3 ≠ []
    rw [HX3.out, HX2.out]; simp
  obtain ⟨bz, cz, hvz, hOz, hbz, hrz⟩ := HJ3.out.done HNE.out
  have hk0 := HJ3.out.whole.cell (j := 0) rfl
  have hk1 := HJ3.out.whole.cell (j := 1) rfl
  have hr0 := HJ3.out.res.cell (j := 0) rfl
  have hr1 := HJ3.out.res.cell (j := 1) rfl
  have hf0 := HJ3.out.res.frozen 0
  have hf1 := HJ3.out.res.frozen 1
  obtain ⟨WZ, hWZ⟩ : ∃ WZ : World, WZ = (W3.setCell ⟨w.heap.size + 1, 0, none⟩ (.int .i64 15)).setCell ⟨w.heap.size + 1, 1, none⟩ (.slice a3 m3 e3) := ⟨_, rfl⟩
  have HZ : Hid (PnP 15 Y w (.returned (.agg #[.int .i64 15, (.slice a3 m3 e3)])) WZ ∧ BoxAt WZ w.heap.size 67 2 (w.heap.size + 1) [.int .i64 15, (.slice a3 m3 e3)]) := by
    rw [HY.out, hWZ]
    exact ⟨⟨bz, cz, by rw [hvz], hOz, hbz⟩, hrz⟩
  have p0 := HZ.out.2.cell (j := 0) rfl
  have p1 := HZ.out.2.cell (j := 1) rfl
  clear hvz hOz hbz hrz
  go_wp2_with fail
  rw [← hWZ]
  exact bodyPost_ret (v := .agg #[.int .i64 15, (.slice a3 m3 e3)]) (by simp [results, Tryz.results37, go_sem, p0, p1]) rfl HZ.out.1
set_option maxHeartbeats 8000000 in
theorem printNode_16 (s : ByteArray) (hi : Bool) (t : ByteArray) (lo up n : Int) (g F c : Nat) (k0 k1 k2 : Int) (b0 p0 b1 p1 b2 p2 : Nat) (t0 t1 t2 : List UInt8) (w : World) (hg : g < w.heap.size) (hG : Gl w) (hB : 7 ≤ w.heap.size)
    (h0 : w.cell? ⟨g, F, none⟩ = some (.int .i64 k0) ∧ w.cell? ⟨g, F + 1, none⟩ = some (.slice (some ⟨b0, 0, none⟩) t0.length p0) ∧ BysAt w b0 0 t0 ∧ b0 < w.heap.size)
    (h1 : w.cell? ⟨g, F + 2, none⟩ = some (.int .i64 k1) ∧ w.cell? ⟨g, F + 2 + 1, none⟩ = some (.slice (some ⟨b1, 0, none⟩) t1.length p1) ∧ BysAt w b1 0 t1 ∧ b1 < w.heap.size)
    (h2 : w.cell? ⟨g, F + 4, none⟩ = some (.int .i64 k2) ∧ w.cell? ⟨g, F + 4 + 1, none⟩ = some (.slice (some ⟨b2, 0, none⟩) t2.length p2) ∧ BysAt w b2 0 t2 ∧ b2 < w.heap.size) (hl0 : t0.length ≤ 400000) (hl1 : t1.length ≤ 400000) (hl2 : t2.length ≤ 400000) :
    Calls Tryz.prog 37 #[.agg #[.int .i64 16, .string s, .bool hi, .string t, .int .u64 lo, .int .u64 up, .int .i64 n], .slice (some ⟨g, F, none⟩) 3 c] w (PnP 16 ([105, 102, 40] ++ (t0 ++ [44, 32] ++ t1 ++ [44, 32] ++ t2) ++ [41]) w) := by
  obtain ⟨n0, hn0⟩ : ∃ n0, n0 = t0.length := ⟨_, rfl⟩
  obtain ⟨n1, hn1⟩ : ∃ n1, n1 = t1.length := ⟨_, rfl⟩
  obtain ⟨n2, hn2⟩ : ∃ n2, n2 = t2.length := ⟨_, rfl⟩
  rw [← hn0] at h0
  rw [← hn1] at h1
  rw [← hn2] at h2
  have HP : Hid ((w.cell? ⟨g, F + 1, none⟩ = some (.slice (some ⟨b0, 0, none⟩) n0 p0) ∧ BysAt w b0 0 t0 ∧ b0 < w.heap.size ∧ n0 = t0.length) ∧ (w.cell? ⟨g, F + 2 + 1, none⟩ = some (.slice (some ⟨b1, 0, none⟩) n1 p1) ∧ BysAt w b1 0 t1 ∧ b1 < w.heap.size ∧ n1 = t1.length) ∧ (w.cell? ⟨g, F + 4 + 1, none⟩ = some (.slice (some ⟨b2, 0, none⟩) n2 p2) ∧ BysAt w b2 0 t2 ∧ b2 < w.heap.size ∧ n2 = t2.length)) := ⟨⟨h0.2.1, h0.2.2.1, h0.2.2.2, hn0⟩, ⟨h1.2.1, h1.2.2.1, h1.2.2.2, hn1⟩, h2.2.1, h2.2.2.1, h2.2.2.2, hn2⟩
  have l0 : n0 ≤ 400000 := by omega
  have l1 : n1 ≤ 400000 := by omega
  have l2 : n2 ≤ 400000 := by omega
  clear h0 h1 h2 hn0 hn1 hn2 hl0 hl1 hl2
  obtain ⟨JN, hJN⟩ : ∃ JN : List UInt8, JN = t0 ++ [44, 32] ++ t1 ++ [44, 32] ++ t2 := ⟨_, rfl⟩
  have HJN : Hid (JN = t0 ++ [44, 32] ++ t1 ++ [44, 32] ++ t2) := hJN
  have lJ : JN.length ≤ 1200004 := by rw [hJN]; simp only [List.length_append, List.length_cons, List.length_nil]; have := HP.out.1.2.2.2; have := HP.out.2.1.2.2.2; have := HP.out.2.2.2.2.2; omega
  rw [← hJN]
  clear hJN
  obtain ⟨Y, hY⟩ : ∃ Y : List UInt8, Y = [105, 102, 40] ++ JN ++ [41] := ⟨_, rfl⟩
  rw [← hY]
  have HY0 : Hid (Y = [105, 102, 40] ++ JN ++ [41]) := hY
  clear hY
  obtain ⟨W0, hW0⟩ : ∃ W0 : World, W0 = ((w.alloc (Obj.cells #[.int .i64 16, .string s, .bool hi, .string t, .int .u64 lo, .int .u64 up, .int .i64 n] 65)).alloc (Obj.cells #[.int .i64 0, .slice none 0 0] 67)).alloc (Obj.cells #[.int .i64 16, .slice none 0 0] 67) := ⟨_, rfl⟩
  have HJ0 : Hid (PnJ w ⟨16, s, hi, t, lo, up, n⟩ (.slice none 0 0) [] W0) := by
    obtain ⟨A, hA⟩ : ∃ A : World, A = w.alloc (Obj.cells #[.int .i64 16, .string s, .bool hi, .string t, .int .u64 lo, .int .u64 up, .int .i64 n] 65) := ⟨_, rfl⟩
    obtain ⟨B, hBB⟩ : ∃ B : World, B = A.alloc (Obj.cells #[.int .i64 0, .slice none 0 0] 67) := ⟨_, rfl⟩
    have zA : A.heap.size = w.heap.size + 1 := by rw [hA]; simp
    have zB : B.heap.size = w.heap.size + 2 := by rw [hBB]; simp [zA]
    have bA : Below w.heap.size w A := by rw [hA]; exact (Below.refl _ _).alloc (Nat.le_refl _) _
    have bB : Below A.heap.size A B := by rw [hBB]; exact (Below.refl _ _).alloc (Nat.le_refl _) _
    have b0 : Below B.heap.size B W0 := by rw [hW0, ← hA, ← hBB]; exact (Below.refl _ _).alloc (Nat.le_refl _) _
    have x0 : BoxAt A w.heap.size 65 7 w.heap.size [.int .i64 16, .string s, .bool hi, .string t, .int .u64 lo, .int .u64 up, .int .i64 n] := by rw [hA]; exact boxAt_new w _ (Nat.le_refl _) rfl
    have x1 : BoxAt B w.heap.size 67 2 (w.heap.size + 1) [.int .i64 0, .slice none 0 0] := by rw [hBB, ← zA]; exact boxAt_new A _ (by omega) rfl
    have x2 : BoxAt W0 w.heap.size 67 2 (w.heap.size + 1 + 1) [.int .i64 16, .slice none 0 0] := by rw [hW0, ← hA, ← hBB, ← zB]; exact boxAt_new B _ (by omega) rfl
    have bw : Below w.heap.size w W0 := (bA.trans (bB.mono (by omega))).trans (b0.mono (by omega))
    exact ⟨World.ownsRow_nil .., (x0.below bB).below b0, x1.below b0, x2, hG.on bw hB, bw, by rw [hW0]; simp⟩
  have z0 := HJ0.out.size
  have c0 := HJ0.out.node.cell (j := 0) rfl
  go_enter Tryz.func37, Tryz.ntmps37
  go_upto_region 2 with fail
  rw [← hW0]
  clear hW0
  have m0a : W0.cell? ⟨g, F + 1, none⟩ = some (.slice (some ⟨b0, 0, none⟩) n0 p0) := by rw [HJ0.out.below.cell (p := ⟨g, F + 1, none⟩) hg]; exact HP.out.1.1
  have m0b : W0.cell? ⟨g, F + 2 + 1, none⟩ = some (.slice (some ⟨b1, 0, none⟩) n1 p1) := by rw [HJ0.out.below.cell (p := ⟨g, F + 2 + 1, none⟩) hg]; exact HP.out.2.1.1
  have m0c : W0.cell? ⟨g, F + 4 + 1, none⟩ = some (.slice (some ⟨b2, 0, none⟩) n2 p2) := by rw [HJ0.out.below.cell (p := ⟨g, F + 4 + 1, none⟩) hg]; exact HP.out.2.2.1
  have hS : (fun w' : World => w'.cell? ⟨g, F + 1, none⟩ = some (.slice (some ⟨b0, 0, none⟩) n0 p0) ∧ w'.cell? ⟨g, F + 2 + 1, none⟩ = some (.slice (some ⟨b1, 0, none⟩) n1 p1) ∧ w'.cell? ⟨g, F + 4 + 1, none⟩ = some (.slice (some ⟨b2, 0, none⟩) n2 p2)) W0.drew := ⟨m0a, m0b, m0c⟩
  obtain ⟨W1, hW1⟩ : ∃ W1 : World, W1 = (W0.alloc (Obj.cells #[.slice (some ⟨b0, 0, none⟩) n0 p0, .slice (some ⟨b1, 0, none⟩) n1 p1, .slice (some ⟨b2, 0, none⟩) n2 p2] 22)).drew := ⟨_, rfl⟩
  have hb1 : Below W0.heap.size W0 W1 := by rw [hW1]; exact ((Below.refl _ _).alloc (Nat.le_refl _) _).drew
  have s1 := hb1.size
  have HJ1 : Hid (PnJ w ⟨16, s, hi, t, lo, up, n⟩ (.slice none 0 0) [] W1 ∧ W1.cell? ⟨W0.heap.size, 0, none⟩ = some (.slice (some ⟨b0, 0, none⟩) n0 p0) ∧ W1.cell? ⟨W0.heap.size, 1, none⟩ = some (.slice (some ⟨b1, 0, none⟩) n1 p1) ∧ W1.cell? ⟨W0.heap.size, 2, none⟩ = some (.slice (some ⟨b2, 0, none⟩) n2 p2) ∧ W0.heap.size < W1.heap.size) := by
    refine ⟨HJ0.out.move hb1 hB, ?_, ?_, ?_, ?_⟩
    all_goals (rw [hW1]; simp)
  have HTR : Hid (∃ cs t fz, W1.heap[W0.heap.size]? = some (.cells cs t fz) ∧ t ≠ 5) := by
    refine ⟨#[.slice (some ⟨b0, 0, none⟩) n0 p0, .slice (some ⟨b1, 0, none⟩) n1 p1, .slice (some ⟨b2, 0, none⟩) n2 p2], 22, (0, 0), ?_, by decide⟩
    rw [hW1]
    exact heap_alloc_last W0 _
  clear hb1
  go_upto_region 10 with fail
  refine wp_region_T 13 (fun w' : World => w'.cell? ⟨g, F + 1, none⟩ = some (.slice (some ⟨b0, 0, none⟩) n0 p0) ∧ w'.cell? ⟨g, F + 2 + 1, none⟩ = some (.slice (some ⟨b1, 0, none⟩) n1 p1) ∧ w'.cell? ⟨g, F + 4 + 1, none⟩ = some (.slice (some ⟨b2, 0, none⟩) n2 p2)) (by kernel_rfl) ?_
  refine anyT_take (i := 0) (v := ?ve160) rfl (by kernel_rfl) (by kernel_rfl) (by kernel_rfl) (by kernel_rfl) (by decide) (fun _ _ _ h => h) (Or.inl ⟨by rfl, ?ye160⟩) hS ?_
  case ye160 => (intro wz hSw; (try dsimp only at hSw); go_simp; (try with_reducible rfl))
  try simp only [Act.put, List.getElem_toArray, List.getElem_cons_zero, List.getElem_cons_succ, List.setIfInBounds_toArray, List.set_cons_zero, List.set_cons_succ]
  refine anyT_take (i := 1) (v := ?ve161) rfl (by kernel_rfl) (by kernel_rfl) (by kernel_rfl) (by kernel_rfl) (by decide) (fun _ _ _ h => h) (Or.inl ⟨by rfl, ?ye161⟩) hS ?_
  case ye161 => (intro wz hSw; (try dsimp only at hSw); go_simp; (try with_reducible rfl))
  try simp only [Act.put, List.getElem_toArray, List.getElem_cons_zero, List.getElem_cons_succ, List.setIfInBounds_toArray, List.set_cons_zero, List.set_cons_succ]
  refine anyT_take (i := 2) (v := ?ve162) rfl (by kernel_rfl) (by kernel_rfl) (by kernel_rfl) (by kernel_rfl) (by decide) (fun _ _ _ h => h) (Or.inl ⟨by rfl, ?ye162⟩) hS ?_
  case ye162 => (intro wz hSw; (try dsimp only at hSw); go_simp; (try with_reducible rfl))
  try simp only [Act.put, List.getElem_toArray, List.getElem_cons_zero, List.getElem_cons_succ, List.setIfInBounds_toArray, List.set_cons_zero, List.set_cons_succ]
  refine anyT_take (i := 3) (v := ?ve163) rfl (by kernel_rfl) (by kernel_rfl) (by kernel_rfl) (by kernel_rfl) (by decide) (fun _ _ _ h => h) (Or.inl ⟨by rfl, ?ye163⟩) hS ?_
  case ye163 => (intro wz hSw; (try dsimp only at hSw); go_simp; (try with_reducible rfl))
  try simp only [Act.put, List.getElem_toArray, List.getElem_cons_zero, List.getElem_cons_succ, List.setIfInBounds_toArray, List.set_cons_zero, List.set_cons_succ]
  refine anyT_take (i := 4) (v := ?ve164) rfl (by kernel_rfl) (by kernel_rfl) (by kernel_rfl) (by kernel_rfl) (by decide) (fun _ _ _ h => h) (Or.inl ⟨by rfl, ?ye164⟩) hS ?_
  case ye164 => (intro wz hSw; (try dsimp only at hSw); go_simp; (try with_reducible rfl))
  try simp only [Act.put, List.getElem_toArray, List.getElem_cons_zero, List.getElem_cons_succ, List.setIfInBounds_toArray, List.set_cons_zero, List.set_cons_succ]
  refine anyT_take (i := 5) (v := ?ve165) rfl (by kernel_rfl) (by kernel_rfl) (by kernel_rfl) (by kernel_rfl) (by decide) (fun _ _ _ h => h) (Or.inl ⟨by rfl, ?ye165⟩) hS ?_
  case ye165 => (intro wz hSw; (try dsimp only at hSw); go_simp; (try with_reducible rfl))
  try simp only [Act.put, List.getElem_toArray, List.getElem_cons_zero, List.getElem_cons_succ, List.setIfInBounds_toArray, List.set_cons_zero, List.set_cons_succ]
  refine anyT_take (i := 6) (v := ?ve166) rfl (by kernel_rfl) (by kernel_rfl) (by kernel_rfl) (by kernel_rfl) (by decide) (fun _ _ _ h => h) (Or.inl ⟨by rfl, ?ye166⟩) hS ?_
  case ye166 => (intro wz hSw; (try dsimp only at hSw); go_simp; (try with_reducible rfl))
  try simp only [Act.put, List.getElem_toArray, List.getElem_cons_zero, List.getElem_cons_succ, List.setIfInBounds_toArray, List.set_cons_zero, List.set_cons_succ]
  refine anyT_take (i := 7) (v := ?ve167) rfl (by kernel_rfl) (by kernel_rfl) (by kernel_rfl) (by kernel_rfl) (by decide) (fun _ _ _ h => h) (Or.inl ⟨by rfl, ?ye167⟩) hS ?_
  case ye167 => (intro wz hSw; (try dsimp only at hSw); go_simp; (try with_reducible rfl))
  try simp only [Act.put, List.getElem_toArray, List.getElem_cons_zero, List.getElem_cons_succ, List.setIfInBounds_toArray, List.set_cons_zero, List.set_cons_succ]
  refine anyT_take (i := 8) (v := ?ve168) rfl (by kernel_rfl) (by kernel_rfl) (by kernel_rfl) (by kernel_rfl) (by decide) (fun _ _ _ h => h) (Or.inl ⟨by rfl, ?ye168⟩) hS ?_
  case ye168 => (intro wz hSw; (try dsimp only at hSw); go_simp; (try with_reducible rfl))
  try simp only [Act.put, List.getElem_toArray, List.getElem_cons_zero, List.getElem_cons_succ, List.setIfInBounds_toArray, List.set_cons_zero, List.set_cons_succ]
  refine anyT_take (i := 9) (v := ?ve169) rfl (by kernel_rfl) (by kernel_rfl) (by kernel_rfl) (by kernel_rfl) (by decide) (fun _ _ _ h => h) (Or.inl ⟨by rfl, ?ye169⟩) hS ?_
  case ye169 => (intro wz hSw; (try dsimp only at hSw); go_simp; (try with_reducible rfl))
  try simp only [Act.put, List.getElem_toArray, List.getElem_cons_zero, List.getElem_cons_succ, List.setIfInBounds_toArray, List.set_cons_zero, List.set_cons_succ]
  refine anyT_take (i := 10) (v := ?ve1610) rfl (by kernel_rfl) (by kernel_rfl) (by kernel_rfl) (by kernel_rfl) (by decide) (fun _ _ _ h => h) (Or.inl ⟨by rfl, ?ye1610⟩) hS ?_
  case ye1610 => (intro wz hSw; (try dsimp only at hSw); go_simp; (try with_reducible rfl))
  try simp only [Act.put, List.getElem_toArray, List.getElem_cons_zero, List.getElem_cons_succ, List.setIfInBounds_toArray, List.set_cons_zero, List.set_cons_succ]
  refine anyT_take (i := 11) (v := ?ve1611) rfl (by kernel_rfl) (by kernel_rfl) (by kernel_rfl) (by kernel_rfl) (by decide) (fun _ _ _ h => h) (Or.inl ⟨by rfl, ?ye1611⟩) hS ?_
  case ye1611 => (intro wz hSw; (try dsimp only at hSw); go_simp; (try with_reducible rfl))
  try simp only [Act.put, List.getElem_toArray, List.getElem_cons_zero, List.getElem_cons_succ, List.setIfInBounds_toArray, List.set_cons_zero, List.set_cons_succ]
  refine anyT_one (i := 12) (by kernel_rfl) rfl (fun K hK => ?_)
  go_simp
  rw [← hW1]
  have g0a : W1.cell? ⟨g, F + 1, none⟩ = some (.slice (some ⟨b0, 0, none⟩) n0 p0) := by rw [HJ1.out.1.below.cell (p := ⟨g, F + 1, none⟩) hg]; exact HP.out.1.1
  have g0b : W1.cell? ⟨g, F + 2 + 1, none⟩ = some (.slice (some ⟨b1, 0, none⟩) n1 p1) := by rw [HJ1.out.1.below.cell (p := ⟨g, F + 2 + 1, none⟩) hg]; exact HP.out.2.1.1
  have g0c : W1.cell? ⟨g, F + 4 + 1, none⟩ = some (.slice (some ⟨b2, 0, none⟩) n2 p2) := by rw [HJ1.out.1.below.cell (p := ⟨g, F + 4 + 1, none⟩) hg]; exact HP.out.2.2.1
  refine hK.out _ _ (.inr ⟨g0a, g0b, g0c⟩) ?_
  clear hK hW1
  try simp only [Act.put, List.getElem_toArray, List.getElem_cons_zero, List.getElem_cons_succ, List.setIfInBounds_toArray, List.set_cons_zero, List.set_cons_succ]
  refine anyT_one (i := 13) (by kernel_rfl) rfl (fun K hK => ?_)
  go_simp
  refine hK.out _ _ (.inl rfl) ?_
  clear hK
  try simp only [Act.put, List.getElem_toArray, List.getElem_cons_zero, List.getElem_cons_succ, List.setIfInBounds_toArray, List.set_cons_zero, List.set_cons_succ]
  refine anyT_done (by kernel_rfl) ?_
  clear g0a g0b g0c m0a m0b m0c hS
  have m1a : W1.cell? ⟨w.heap.size + 1 + 1, 1, none⟩ = some (.slice none 0 0) := HJ1.out.1.whole.cell (j := 1) rfl
  have m1b : W1.cell? ⟨w.heap.size, 0, none⟩ = some (.int .i64 16) := HJ1.out.1.node.cell (j := 0) rfl
  have m1c : W1.cell? ⟨0, 16, none⟩ = some (.string ⟨#[105, 102]⟩) := HJ1.out.1.gl.words 16 (by omega)
  have hS : (fun w' : World => w'.cell? ⟨w.heap.size + 1 + 1, 1, none⟩ = some (.slice none 0 0) ∧ w'.cell? ⟨w.heap.size, 0, none⟩ = some (.int .i64 16) ∧ w'.cell? ⟨0, 16, none⟩ = some (.string ⟨#[105, 102]⟩)) W1.drew := ⟨m1a, m1b, m1c⟩
  have y1 := HJ1.out.1.size
  have hJd : Hid (PnJ w ⟨16, s, hi, t, lo, up, n⟩ (.slice none 0 0) [] W1.drew) := HJ1.out.1.move ((Below.refl _ _).drew) hB
  go_upto_region 11 with fail
  refine wp_region_T 9 (fun w' : World => w'.cell? ⟨w.heap.size + 1 + 1, 1, none⟩ = some (.slice none 0 0) ∧ w'.cell? ⟨w.heap.size, 0, none⟩ = some (.int .i64 16) ∧ w'.cell? ⟨0, 16, none⟩ = some (.string ⟨#[105, 102]⟩)) (by kernel_rfl) ?_
  refine anyT_take (i := 0) (v := ?vf160) rfl (by kernel_rfl) (by kernel_rfl) (by kernel_rfl) (by kernel_rfl) (by decide) (fun _ _ _ h => h) (Or.inl ⟨by rfl, ?yf160⟩) hS ?_
  case yf160 => (intro wz hSw; (try dsimp only at hSw); go_simp; (try with_reducible rfl))
  try simp only [Act.put, List.getElem_toArray, List.getElem_cons_zero, List.getElem_cons_succ, List.setIfInBounds_toArray, List.set_cons_zero, List.set_cons_succ]
  refine anyT_take (i := 1) (v := ?vf161) rfl (by kernel_rfl) (by kernel_rfl) (by kernel_rfl) (by kernel_rfl) (by decide) (fun _ _ _ h => h) (Or.inl ⟨by rfl, ?yf161⟩) hS ?_
  case yf161 => (intro wz hSw; (try dsimp only at hSw); go_simp; (try with_reducible rfl))
  try simp only [Act.put, List.getElem_toArray, List.getElem_cons_zero, List.getElem_cons_succ, List.setIfInBounds_toArray, List.set_cons_zero, List.set_cons_succ]
  refine anyT_take (i := 2) (v := ?vf162) rfl (by kernel_rfl) (by kernel_rfl) (by kernel_rfl) (by kernel_rfl) (by decide) (fun _ _ _ h => h) (Or.inl ⟨by rfl, ?yf162⟩) hS ?_
  case yf162 => (intro wz hSw; (try dsimp only at hSw); go_simp; (try with_reducible rfl))
  try simp only [Act.put, List.getElem_toArray, List.getElem_cons_zero, List.getElem_cons_succ, List.setIfInBounds_toArray, List.set_cons_zero, List.set_cons_succ]
  refine anyT_take (i := 3) (v := ?vf163) rfl (by kernel_rfl) (by kernel_rfl) (by kernel_rfl) (by kernel_rfl) (by decide) (fun _ _ _ h => h) (Or.inl ⟨by rfl, ?yf163⟩) hS ?_
  case yf163 => (intro wz hSw; (try dsimp only at hSw); go_simp; (try with_reducible rfl))
  try simp only [Act.put, List.getElem_toArray, List.getElem_cons_zero, List.getElem_cons_succ, List.setIfInBounds_toArray, List.set_cons_zero, List.set_cons_succ]
  refine anyT_take (i := 4) (v := ?vf164) rfl (by kernel_rfl) (by kernel_rfl) (by kernel_rfl) (by kernel_rfl) (by decide) (fun _ _ _ h => h) (Or.inl ⟨by rfl, ?yf164⟩) hS ?_
  case yf164 => (intro wz hSw; (try dsimp only at hSw); go_simp; (try with_reducible rfl))
  try simp only [Act.put, List.getElem_toArray, List.getElem_cons_zero, List.getElem_cons_succ, List.setIfInBounds_toArray, List.set_cons_zero, List.set_cons_succ]
  refine anyT_take (i := 5) (v := ?vf165) rfl (by kernel_rfl) (by kernel_rfl) (by kernel_rfl) (by kernel_rfl) (by decide) (fun _ _ _ h => h) (Or.inl ⟨by rfl, ?yf165⟩) hS ?_
  case yf165 => (intro wz hSw; (try dsimp only at hSw); go_simp; (try with_reducible rfl))
  try simp only [Act.put, List.getElem_toArray, List.getElem_cons_zero, List.getElem_cons_succ, List.setIfInBounds_toArray, List.set_cons_zero, List.set_cons_succ]
  refine anyT_take (i := 6) (v := (.string ⟨#[105, 102, 40]⟩)) rfl (by kernel_rfl) (by kernel_rfl) (by kernel_rfl) (by kernel_rfl) (by decide) (fun _ _ _ h => h) (Or.inl ⟨by rfl, ?yf166⟩) hS ?_
  case yf166 => (intro wz hSw; (try dsimp only at hSw); go_simp; rfl)
  try simp only [Act.put, List.getElem_toArray, List.getElem_cons_zero, List.getElem_cons_succ, List.setIfInBounds_toArray, List.set_cons_zero, List.set_cons_succ]
  refine anyT_one (i := 7) (by kernel_rfl) rfl (fun K hK => ?_)
  refine step_append_st _ rfl _ _ rfl (w.heap.size + 3) (.slice none 0 0) [] ⟨#[105, 102, 40]⟩ rfl rfl hJd.out.own ?hl ?hb ?_
  case hl => (have h3 : (⟨#[105, 102, 40]⟩ : ByteArray).size = 3 := rfl; rw [h3]; simp)
  case hb => exact hJd.out.size
  intro v2 q1 hO2 hgr2
  obtain ⟨a2, e2, hv2⟩ := hO2.slice
  obtain ⟨m2, hm2⟩ : ∃ m2 : Nat, m2 = ([] ++ bl ⟨#[105, 102, 40]⟩).length := ⟨_, rfl⟩
  rw [← hm2] at hv2
  subst hv2
  clear hm2
  obtain ⟨X2, hX2⟩ : ∃ X2 : List UInt8, X2 = [105, 102, 40] := ⟨_, rfl⟩
  have HX2 : Hid (X2 = [105, 102, 40]) := hX2
  have x2 : X2.length ≤ 3 := by rw [hX2]; exact Nat.le_refl _
  have hFd : Fr (w.heap.size + 3) W1 q1 := ((Fr.refl _ _).step ((Below.refl _ _).drew) (by omega)).trans (hJd.out.own.nextF (Fr.refl _ _) hJd.out.size hgr2)
  have HJ2' : PnJ w ⟨16, s, hi, t, lo, up, n⟩ (.slice a2 m2 e2) X2 (q1.setCell ⟨w.heap.size + 1 + 1, 1, none⟩ (.slice a2 m2 e2)) := HJ1.out.1.step hFd (by rw [hX2]; exact hO2) hB
  have g1a : q1.cell? ⟨w.heap.size + 1 + 1, 1, none⟩ = some (.slice none 0 0) := (hFd.box HJ1.out.1.whole (by decide)).cell (j := 1) rfl
  have g1f : q1.frozen? ⟨w.heap.size + 1 + 1, 1, none⟩ = false := (hFd.box HJ1.out.1.whole (by decide)).frozen 1
  have g1b : q1.cell? ⟨w.heap.size, 0, none⟩ = some (.int .i64 16) := (hFd.box HJ1.out.1.node (by decide)).cell (j := 0) rfl
  have g1c : q1.cell? ⟨0, 16, none⟩ = some (.string ⟨#[105, 102]⟩) := (HJ1.out.1.gl.on hFd.below (by omega)).words 16 (by omega)
  have HJ2 : Hid (PnJ w ⟨16, s, hi, t, lo, up, n⟩ (.slice a2 m2 e2) X2 (q1.setCell ⟨w.heap.size + 1 + 1, 1, none⟩ (.slice a2 m2 e2)) ∧ (q1.setCell ⟨w.heap.size + 1 + 1, 1, none⟩ (.slice a2 m2 e2)).cell? ⟨W0.heap.size, 0, none⟩ = some (.slice (some ⟨b0, 0, none⟩) n0 p0) ∧ (q1.setCell ⟨w.heap.size + 1 + 1, 1, none⟩ (.slice a2 m2 e2)).cell? ⟨W0.heap.size, 1, none⟩ = some (.slice (some ⟨b1, 0, none⟩) n1 p1) ∧ (q1.setCell ⟨w.heap.size + 1 + 1, 1, none⟩ (.slice a2 m2 e2)).cell? ⟨W0.heap.size, 2, none⟩ = some (.slice (some ⟨b2, 0, none⟩) n2 p2) ∧ W0.heap.size < (q1.setCell ⟨w.heap.size + 1 + 1, 1, none⟩ (.slice a2 m2 e2)).heap.size) := by
    have hC : Chg (fun k => k = w.heap.size + 1 + 1) q1 (q1.setCell ⟨w.heap.size + 1 + 1, 1, none⟩ (.slice a2 m2 e2)) := Chg.of_set q1 _ 1 _ rfl
    have zC := hC.size
    have zF := hFd.below.size
    have zW := HJ1.out.2.2.2.2
    have kp : ∀ (j : Nat) (v : Value), W1.cell? ⟨W0.heap.size, j, none⟩ = some v → (q1.setCell ⟨w.heap.size + 1 + 1, 1, none⟩ (.slice a2 m2 e2)).cell? ⟨W0.heap.size, j, none⟩ = some v := fun j v hv => by
      rw [hC.cell (p := ⟨W0.heap.size, j, none⟩) (by show W0.heap.size < _; omega) (by show ¬ W0.heap.size = _; omega)]
      rw [← hv]
      exact row_kept hFd HTR.out
    exact ⟨HJ2', kp 0 _ HJ1.out.2.1, kp 1 _ HJ1.out.2.2.1, kp 2 _ HJ1.out.2.2.2.1, by omega⟩
  clear hO2 hgr2 hX2 hFd HJ2'
  refine hK.out _ _ (.inr ⟨g1a, g1b, g1c⟩) ?_
  clear hK
  try simp only [Act.put, List.getElem_toArray, List.getElem_cons_zero, List.getElem_cons_succ, List.setIfInBounds_toArray, List.set_cons_zero, List.set_cons_succ]
  refine anyT_one (i := 8) (by kernel_rfl) rfl (fun K hK => ?_)
  go_simp
  refine hK.out _ _ (.inr ⟨g1a, g1b, g1c⟩) ?_
  clear hK
  try simp only [Act.put, List.getElem_toArray, List.getElem_cons_zero, List.getElem_cons_succ, List.setIfInBounds_toArray, List.set_cons_zero, List.set_cons_succ]
  obtain ⟨W2, hW2⟩ : ∃ W2 : World, W2 = q1.setCell ⟨w.heap.size + 1 + 1, 1, none⟩ (.slice a2 m2 e2) := ⟨_, rfl⟩
  rw [← hW2] at HJ2
  refine anyT_one (i := 9) (by kernel_rfl) rfl (fun K hK => ?_)
  go_simp
  rw [← hW2]
  refine hK.out _ _ (.inl rfl) ?_
  clear hK
  try simp only [Act.put, List.getElem_toArray, List.getElem_cons_zero, List.getElem_cons_succ, List.setIfInBounds_toArray, List.set_cons_zero, List.set_cons_succ]
  refine anyT_done (by kernel_rfl) ?_
  clear hW2 g1a g1b g1c g1f m1a m1b m1c hS hJd
  have y2 := HJ2.out.1.size
  have m2a : W2.cell? ⟨w.heap.size + 1 + 1, 1, none⟩ = some (.slice a2 m2 e2) := HJ2.out.1.whole.cell (j := 1) rfl
  have hS : (fun w' : World => w'.cell? ⟨w.heap.size + 1 + 1, 1, none⟩ = some (.slice a2 m2 e2)) W2.drew := m2a
  obtain ⟨W3, hW3⟩ : ∃ W3 : World, W3 = (W2.alloc (Obj.cells #[.int .u8 44, .int .u8 32] 5)).drew := ⟨_, rfl⟩
  obtain ⟨W4, hW4⟩ : ∃ W4 : World, W4 = (W2.alloc (Obj.cells #[.int .u8 44, .int .u8 32] 5 (2, 3))).drew := ⟨_, rfl⟩
  have kc : Sem.run Tryz.prog (convert 22 22 (.slice (some ⟨W2.heap.size, 0, none⟩) 2 2)) (W2.alloc (Obj.cells #[.int .u8 44, .int .u8 32] 5)).drew = .ok (.slice (some ⟨W2.heap.size, 0, none⟩) 2 2) W4 := by
    rw [hW4]
    exact Lib.run_convert_bytes_const (P := Tryz.prog) W2.drew 22 5 #[.int .u8 44, .int .u8 32] 2 2 Tryz.underlying22 Tryz.underlying5
  have hb3 : Below W2.heap.size W2 W3 := by rw [hW3]; exact ((Below.refl _ _).alloc (Nat.le_refl _) _).drew
  have hb4 : Below W2.heap.size W2 W4 := by rw [hW4]; exact ((Below.refl _ _).alloc (Nat.le_refl _) _).drew
  have s4 := hb4.size
  have HJ4 : Hid (PnJ w ⟨16, s, hi, t, lo, up, n⟩ (.slice a2 m2 e2) X2 W4 ∧ BysAt W4 W2.heap.size 0 [44, 32]) := by
    refine ⟨HJ2.out.1.move hb4 hB, ?_⟩
    rw [hW4]; exact fun i y hy => bys_mark W2 _ [44, 32] _ rfl i y hy
  have HC : Hid (Calls Tryz.prog 75 #[.slice (some ⟨W0.heap.size, 0, none⟩) 3 3, .slice (some ⟨W2.heap.size, 0, none⟩) 2 2] W4 fun r w' => ∃ g m cap, r = .returned (.slice (some ⟨g, 0, none⟩) m cap) ∧ m = JN.length ∧ BysAt w' g 0 JN ∧ Below W4.heap.size W4 w') := by
    have hl := HJ2.out.2.2.2.2
    have hj := HJ4.out.1.below
    rw [HJN.out]
    exact join3_core W0.heap.size W2.heap.size b0 p0 b1 p1 b2 p2 n0 n1 n2 t0 t1 t2 W4 HP.out.1.2.2.2 HP.out.2.1.2.2.2 HP.out.2.2.2.2.2 l0 l1 l2
      (by rw [hb4.cell (p := ⟨W0.heap.size, 0, none⟩) hl]; exact HJ2.out.2.1) (by rw [hb4.cell (p := ⟨W0.heap.size, 1, none⟩) hl]; exact HJ2.out.2.2.1) (by rw [hb4.cell (p := ⟨W0.heap.size, 2, none⟩) hl]; exact HJ2.out.2.2.2.1)
      (HP.out.1.2.1.below hj HP.out.1.2.2.1) (HP.out.2.1.2.1.below hj HP.out.2.1.2.2.1) (HP.out.2.2.2.1.below hj HP.out.2.2.2.2.1) HJ4.out.2
  have m3a : W3.cell? ⟨w.heap.size + 1 + 1, 1, none⟩ = some (.slice a2 m2 e2) := (HJ2.out.1.move hb3 hB).whole.cell (j := 1) rfl
  have m4a : W4.cell? ⟨w.heap.size + 1 + 1, 1, none⟩ = some (.slice a2 m2 e2) := HJ4.out.1.whole.cell (j := 1) rfl
  clear hb3 hb4 hW4
  go_upto_region 12 with fail
  refine wp_region_T 8 (fun w' : World => w'.cell? ⟨w.heap.size + 1 + 1, 1, none⟩ = some (.slice a2 m2 e2)) (by kernel_rfl) ?_
  refine anyT_take (i := 0) (v := ?vg160) rfl (by kernel_rfl) (by kernel_rfl) (by kernel_rfl) (by kernel_rfl) (by decide) (fun _ _ _ h => h) (Or.inl ⟨by rfl, ?yg160⟩) hS ?_
  case yg160 => (intro wz hSw; (try dsimp only at hSw); go_simp; (try with_reducible rfl))
  try simp only [Act.put, List.getElem_toArray, List.getElem_cons_zero, List.getElem_cons_succ, List.setIfInBounds_toArray, List.set_cons_zero, List.set_cons_succ]
  refine anyT_take (i := 1) (v := ?vg161) rfl (by kernel_rfl) (by kernel_rfl) (by kernel_rfl) (by kernel_rfl) (by decide) (fun _ _ _ h => h) (Or.inl ⟨by rfl, ?yg161⟩) hS ?_
  case yg161 => (intro wz hSw; (try dsimp only at hSw); go_simp; (try with_reducible rfl))
  try simp only [Act.put, List.getElem_toArray, List.getElem_cons_zero, List.getElem_cons_succ, List.setIfInBounds_toArray, List.set_cons_zero, List.set_cons_succ]
  refine anyT_take (i := 2) (v := ?vg162) rfl (by kernel_rfl) (by kernel_rfl) (by kernel_rfl) (by kernel_rfl) (by decide) (fun _ _ _ h => h) (Or.inl ⟨by rfl, ?yg162⟩) hS ?_
  case yg162 => (intro wz hSw; (try dsimp only at hSw); go_simp; (try with_reducible rfl))
  try simp only [Act.put, List.getElem_toArray, List.getElem_cons_zero, List.getElem_cons_succ, List.setIfInBounds_toArray, List.set_cons_zero, List.set_cons_succ]
  refine anyT_one (i := 3) (by kernel_rfl) rfl (fun K hK => ?_)
  go_simp
  refine hK.out _ _ (.inr (by rw [← hW3]; exact m3a)) ?_
  clear hK
  try simp only [Act.put, List.getElem_toArray, List.getElem_cons_zero, List.getElem_cons_succ, List.setIfInBounds_toArray, List.set_cons_zero, List.set_cons_succ]
  refine anyT_one (i := 4) (by kernel_rfl) rfl (fun K hK => ?_)
  go_simp
  refine hK.out _ _ (.inr m4a) ?_
  clear hK hW3 kc
  try simp only [Act.put, List.getElem_toArray, List.getElem_cons_zero, List.getElem_cons_succ, List.setIfInBounds_toArray, List.set_cons_zero, List.set_cons_succ]
  refine anyT_one (i := 5) (by kernel_rfl) rfl (fun K hK => ?_)
  go_simp
  go_at_call 75
  refine HC.out.mono ?_
  rintro r q4 ⟨jg, jm, jc, rfl, hjm, hjE, hjb⟩
  have s5 := hjb.size
  have HJ5 : Hid (PnJ w ⟨16, s, hi, t, lo, up, n⟩ (.slice a2 m2 e2) X2 q4 ∧ BysAt q4 jg 0 JN ∧ jm = JN.length) := ⟨HJ4.out.1.move hjb hB, hjE, hjm⟩
  have m5a : q4.cell? ⟨w.heap.size + 1 + 1, 1, none⟩ = some (.slice a2 m2 e2) := HJ5.out.1.whole.cell (j := 1) rfl
  clear hjm hjE hjb
  refine hK.out _ _ (.inr m5a) ?_
  clear hK
  try simp only [Act.put, List.getElem_toArray, List.getElem_cons_zero, List.getElem_cons_succ, List.setIfInBounds_toArray, List.set_cons_zero, List.set_cons_succ]
  refine anyT_one (i := 6) (by kernel_rfl) rfl (fun K hK => ?_)
  refine step_append_ys _ rfl _ _ rfl (w.heap.size + 3) jg 0 jm jc (.slice a2 m2 e2) X2 JN rfl rfl HJ5.out.2.2 HJ5.out.1.own HJ5.out.2.1 ?hl ?hb ?_
  case hl => omega
  case hb => exact HJ5.out.1.size
  intro v6 q6 hO6 hgr6
  obtain ⟨a6, e6, hv6⟩ := hO6.slice
  obtain ⟨m6, hm6⟩ : ∃ m6 : Nat, m6 = (X2 ++ JN).length := ⟨_, rfl⟩
  rw [← hm6] at hv6
  subst hv6
  clear hm6
  obtain ⟨X6, hX6⟩ : ∃ X6 : List UInt8, X6 = X2 ++ JN := ⟨_, rfl⟩
  have HX6 : Hid (X6 = X2 ++ JN) := hX6
  have x6 : X6.length ≤ X2.length + JN.length := by rw [hX6, List.length_append]; exact Nat.le_refl _
  have hFd : Fr (w.heap.size + 3) q4 q6 := HJ5.out.1.own.nextF (Fr.refl _ _) HJ5.out.1.size hgr6
  have HJ6 : Hid (PnJ w ⟨16, s, hi, t, lo, up, n⟩ (.slice a6 m6 e6) X6 (q6.setCell ⟨w.heap.size + 1 + 1, 1, none⟩ (.slice a6 m6 e6))) := HJ5.out.1.step hFd (by rw [hX6]; exact hO6) hB
  have g6a : q6.cell? ⟨w.heap.size + 1 + 1, 1, none⟩ = some (.slice a2 m2 e2) := (hFd.box HJ5.out.1.whole (by decide)).cell (j := 1) rfl
  have g6f : q6.frozen? ⟨w.heap.size + 1 + 1, 1, none⟩ = false := (hFd.box HJ5.out.1.whole (by decide)).frozen 1
  clear hO6 hgr6 hX6 hFd
  refine hK.out _ _ (.inr g6a) ?_
  clear hK
  try simp only [Act.put, List.getElem_toArray, List.getElem_cons_zero, List.getElem_cons_succ, List.setIfInBounds_toArray, List.set_cons_zero, List.set_cons_succ]
  refine anyT_one (i := 7) (by kernel_rfl) rfl (fun K hK => ?_)
  go_simp
  refine hK.out _ _ (.inr g6a) ?_
  clear hK
  try simp only [Act.put, List.getElem_toArray, List.getElem_cons_zero, List.getElem_cons_succ, List.setIfInBounds_toArray, List.set_cons_zero, List.set_cons_succ]
  obtain ⟨W6, hW6⟩ : ∃ W6 : World, W6 = q6.setCell ⟨w.heap.size + 1 + 1, 1, none⟩ (.slice a6 m6 e6) := ⟨_, rfl⟩
  rw [← hW6] at HJ6
  refine anyT_one (i := 8) (by kernel_rfl) rfl (fun K hK => ?_)
  go_simp
  rw [← hW6]
  refine hK.out _ _ (.inl rfl) ?_
  clear hK
  try simp only [Act.put, List.getElem_toArray, List.getElem_cons_zero, List.getElem_cons_succ, List.setIfInBounds_toArray, List.set_cons_zero, List.set_cons_succ]
  refine anyT_done (by kernel_rfl) ?_
  clear hW6 g6a g6f m2a m3a m4a m5a hS HC
  have y6 := HJ6.out.size
  have m6a : W6.cell? ⟨w.heap.size + 1 + 1, 1, none⟩ = some (.slice a6 m6 e6) := HJ6.out.whole.cell (j := 1) rfl
  obtain ⟨W7, hW7⟩ : ∃ W7 : World, W7 = W6.alloc (Obj.cells #[.int .u8 41] 5) := ⟨_, rfl⟩
  have hb7 : Below W6.heap.size W6 W7 := by rw [hW7]; exact (Below.refl _ _).alloc (Nat.le_refl _) _
  have s7 := hb7.size
  have HJ7 : Hid (PnJ w ⟨16, s, hi, t, lo, up, n⟩ (.slice a6 m6 e6) X6 W7 ∧ BysAt W7 W6.heap.size 0 [41]) := by
    refine ⟨HJ6.out.move hb7 hB, ?_⟩
    rw [hW7]; exact bys_new W6 _ [41] rfl
  clear hb7
  go_wp2_with (at_builtin; (try rw [← hW7]); refine wpList_append_ys _ rfl _ _ rfl (w.heap.size + 3) W6.heap.size 0 1 1 (.slice a6 m6 e6) X6 [41] rfl rfl rfl HJ7.out.1.own HJ7.out.2 ?hl ?hb ?_)
  case hl => first | omega | (show X6.length + 1 ≤ _; omega)
  case hb => first | omega | exact HJ7.out.1.size
  intro v8 q8 hO8 hgr8'
  have hgr8 : W7.grownBy q8 (Value.slice a6 m6 e6).ownBlock := by first | exact hgr8' | (rw [hW7]; exact hgr8')
  obtain ⟨a8, e8, hv8⟩ := hO8.slice
  obtain ⟨m8, hm8⟩ : ∃ m8 : Nat, m8 = (X6 ++ [41]).length := ⟨_, rfl⟩
  rw [← hm8] at hv8
  subst hv8
  clear hm8
  obtain ⟨X8, hX8⟩ : ∃ X8 : List UInt8, X8 = X6 ++ [41] := ⟨_, rfl⟩
  have HX8 : Hid (X8 = X6 ++ [41]) := hX8
  have hFd : Fr (w.heap.size + 3) W7 q8 := HJ7.out.1.own.nextF (Fr.refl _ _) HJ7.out.1.size hgr8
  have HJ8 : Hid (PnJ w ⟨16, s, hi, t, lo, up, n⟩ (.slice a8 m8 e8) X8 (q8.setCell ⟨w.heap.size + 1 + 1, 1, none⟩ (.slice a8 m8 e8))) := HJ7.out.1.step hFd (by rw [hX8]; exact hO8) hB
  have g8a : q8.cell? ⟨w.heap.size + 1 + 1, 1, none⟩ = some (.slice a6 m6 e6) := (hFd.box HJ7.out.1.whole (by decide)).cell (j := 1) rfl
  have g8f : q8.frozen? ⟨w.heap.size + 1 + 1, 1, none⟩ = false := (hFd.box HJ7.out.1.whole (by decide)).frozen 1
  obtain ⟨W8, hW8⟩ : ∃ W8 : World, W8 = q8.setCell ⟨w.heap.size + 1 + 1, 1, none⟩ (.slice a8 m8 e8) := ⟨_, rfl⟩
  rw [← hW8] at HJ8
  clear hO8 hgr8 hX8 hFd
  try clear hgr8'
  try clear hW7
  go_upto_region 14 with fail
  rw [← hW8]
  clear hW8 g8a g8f m6a
  have HY : Hid (Y = X8) := by show _ = _; rw [HY0.out, HX8.out, HX6.out, HX2.out]
  have HNE : Hid (X8 ≠ []) := by
    show X8 ≠ []
    rw [HX8.out]; simp
  obtain ⟨bz, cz, hvz, hOz, hbz, hrz⟩ := HJ8.out.done HNE.out
  have hk0 := HJ8.out.whole.cell (j := 0) rfl
  have hk1 := HJ8.out.whole.cell (j := 1) rfl
  have hr0 := HJ8.out.res.cell (j := 0) rfl
  have hr1 := HJ8.out.res.cell (j := 1) rfl
  have hf0 := HJ8.out.res.frozen 0
  have hf1 := HJ8.out.res.frozen 1
  obtain ⟨WZ, hWZ⟩ : ∃ WZ : World, WZ = (W8.setCell ⟨w.heap.size + 1, 0, none⟩ (.int .i64 16)).setCell ⟨w.heap.size + 1, 1, none⟩ (.slice a8 m8 e8) := ⟨_, rfl⟩
  have HZ : Hid (PnP 16 Y w (.returned (.agg #[.int .i64 16, (.slice a8 m8 e8)])) WZ ∧ BoxAt WZ w.heap.size 67 2 (w.heap.size + 1) [.int .i64 16, (.slice a8 m8 e8)]) := by
    rw [HY.out, hWZ]
    exact ⟨⟨bz, cz, by rw [hvz], hOz, hbz⟩, hrz⟩
  have p0 := HZ.out.2.cell (j := 0) rfl
  have p1 := HZ.out.2.cell (j := 1) rfl
  clear hvz hOz hbz hrz
  go_wp2_with fail
  rw [← hWZ]
  exact bodyPost_ret (v := .agg #[.int .i64 16, (.slice a8 m8 e8)]) (by simp [results, Tryz.results37, go_sem, p0, p1]) rfl HZ.out.1
set_option maxHeartbeats 8000000 in
theorem printNode_leaf (kk : Int) (s : ByteArray) (hi : Bool) (t : ByteArray) (lo up n : Int) (a0 : Option Addr) (c : Nat) (w : World) (hg : GoodN ⟨kk, s, hi, t, lo, up, n⟩) (hn : NumN ⟨kk, s, hi, t, lo, up, n⟩) (hk : arity kk = 0) (hG : Gl w) (hB : 7 ≤ w.heap.size) :
    Calls Tryz.prog 37 #[.agg #[.int .i64 kk, .string s, .bool hi, .string t, .int .u64 lo, .int .u64 up, .int .i64 n], .slice a0 0 c] w (PnP kk (leafM ⟨kk, s, hi, t, lo, up, n⟩) w) := by
  have h14 : ¬ kk = 14 := by rintro rfl; cases hk
  have h15 : ¬ kk = 15 := by rintro rfl; cases hk
  have h16 : ¬ kk = 16 := by rintro rfl; cases hk
  have z14 : (kk == 14) = false := by rw [beq_eq_false_iff_ne]; exact h14
  have z15 : (kk == 15) = false := by rw [beq_eq_false_iff_ne]; exact h15
  have z16 : (kk == 16) = false := by rw [beq_eq_false_iff_ne]; exact h16
  obtain ⟨Y, hY⟩ : ∃ Y : List UInt8, Y = leafM ⟨kk, s, hi, t, lo, up, n⟩ := ⟨_, rfl⟩
  rw [← hY]
  have HY : Hid (Y = Y) := rfl
  have HNE : Hid (Y ≠ []) := by rw [hY]; exact leaf_ne hg hk
  have HY0 : Hid (Y = leafM ⟨kk, s, hi, t, lo, up, n⟩ ∧ GoodN ⟨kk, s, hi, t, lo, up, n⟩ ∧ NumN ⟨kk, s, hi, t, lo, up, n⟩ ∧ arity kk = 0) := ⟨hY, hg, hn, hk⟩
  clear hY hg hn hk h14 h15 h16
  obtain ⟨W0, hW0⟩ : ∃ W0 : World, W0 = ((w.alloc (Obj.cells #[.int .i64 kk, .string s, .bool hi, .string t, .int .u64 lo, .int .u64 up, .int .i64 n] 65)).alloc (Obj.cells #[.int .i64 0, .slice none 0 0] 67)).alloc (Obj.cells #[.int .i64 kk, .slice none 0 0] 67) := ⟨_, rfl⟩
  have HJ0 : Hid (PnJ w ⟨kk, s, hi, t, lo, up, n⟩ (.slice none 0 0) [] W0) := by
    obtain ⟨A, hA⟩ : ∃ A : World, A = w.alloc (Obj.cells #[.int .i64 kk, .string s, .bool hi, .string t, .int .u64 lo, .int .u64 up, .int .i64 n] 65) := ⟨_, rfl⟩
    obtain ⟨B, hBB⟩ : ∃ B : World, B = A.alloc (Obj.cells #[.int .i64 0, .slice none 0 0] 67) := ⟨_, rfl⟩
    have zA : A.heap.size = w.heap.size + 1 := by rw [hA]; simp
    have zB : B.heap.size = w.heap.size + 2 := by rw [hBB]; simp [zA]
    have bA : Below w.heap.size w A := by rw [hA]; exact (Below.refl _ _).alloc (Nat.le_refl _) _
    have bB : Below A.heap.size A B := by rw [hBB]; exact (Below.refl _ _).alloc (Nat.le_refl _) _
    have b0 : Below B.heap.size B W0 := by rw [hW0, ← hA, ← hBB]; exact (Below.refl _ _).alloc (Nat.le_refl _) _
    have x0 : BoxAt A w.heap.size 65 7 w.heap.size [.int .i64 kk, .string s, .bool hi, .string t, .int .u64 lo, .int .u64 up, .int .i64 n] := by rw [hA]; exact boxAt_new w _ (Nat.le_refl _) rfl
    have x1 : BoxAt B w.heap.size 67 2 (w.heap.size + 1) [.int .i64 0, .slice none 0 0] := by rw [hBB, ← zA]; exact boxAt_new A _ (by omega) rfl
    have x2 : BoxAt W0 w.heap.size 67 2 (w.heap.size + 1 + 1) [.int .i64 kk, .slice none 0 0] := by rw [hW0, ← hA, ← hBB, ← zB]; exact boxAt_new B _ (by omega) rfl
    have bw : Below w.heap.size w W0 := (bA.trans (bB.mono (by omega))).trans (b0.mono (by omega))
    exact ⟨World.ownsRow_nil .., (x0.below bB).below b0, x1.below b0, x2, hG.on bw hB, bw, by rw [hW0]; simp⟩
  have z0 := HJ0.out.size
  have c0 := HJ0.out.node.cell (j := 0) rfl
  have c1 := HJ0.out.node.cell (j := 1) rfl
  have c2 := HJ0.out.node.cell (j := 2) rfl
  have c3 := HJ0.out.node.cell (j := 3) rfl
  have c4 := HJ0.out.node.cell (j := 4) rfl
  have c5 := HJ0.out.node.cell (j := 5) rfl
  have c6 := HJ0.out.node.cell (j := 6) rfl
  have d1 := HJ0.out.whole.cell (j := 1) rfl
  have HC : Hid (Calls Tryz.prog 76 #[.slice none 0 0, .agg #[.int .i64 kk, .string s, .bool hi, .string t, .int .u64 lo, .int .u64 up, .int .i64 n]] W0 (AppP (w.heap.size + 3) Y W0)) := by
    have h9 := appendLeaf_core (w.heap.size + 3) (.slice none 0 0) [] ⟨kk, s, hi, t, lo, up, n⟩ W0 HY0.out.2.1 HY0.out.2.2.1 HY0.out.2.2.2 HJ0.out.own (by simp) HJ0.out.size HJ0.out.gl (by omega)
    rw [List.nil_append, ← HY0.out.1] at h9
    exact h9
  go_enter Tryz.func37, Tryz.ntmps37
  go_upto_region 2 with fail
  rw [← hW0]
  clear hW0
  go_wp2_with fail
  refine HC.out.mono ?_
  rintro r q1 ⟨v1, rfl, hO1, hF1⟩
  obtain ⟨a1, e1, hv1⟩ := hO1.slice
  obtain ⟨m1, hm1⟩ : ∃ m1 : Nat, m1 = Y.length := ⟨_, rfl⟩
  rw [← hm1] at hv1
  subst hv1
  clear hm1
  have HJ1 : Hid (PnJ w ⟨kk, s, hi, t, lo, up, n⟩ (.slice a1 m1 e1) Y (q1.setCell ⟨w.heap.size + 1 + 1, 1, none⟩ (.slice a1 m1 e1))) := HJ0.out.step hF1 hO1 hB
  have g1a : q1.cell? ⟨w.heap.size + 1 + 1, 1, none⟩ = some (.slice none 0 0) := (hF1.box HJ0.out.whole (by decide)).cell (j := 1) rfl
  have g1f : q1.frozen? ⟨w.heap.size + 1 + 1, 1, none⟩ = false := (hF1.box HJ0.out.whole (by decide)).frozen 1
  obtain ⟨W1, hW1⟩ : ∃ W1 : World, W1 = q1.setCell ⟨w.heap.size + 1 + 1, 1, none⟩ (.slice a1 m1 e1) := ⟨_, rfl⟩
  rw [← hW1] at HJ1
  clear hO1 hF1 c0 c1 c2 c3 c4 c5 c6 d1 HC
  go_upto_region 14 with fail
  rw [← hW1]
  clear hW1 g1a g1f
  obtain ⟨bz, cz, hvz, hOz, hbz, hrz⟩ := HJ1.out.done HNE.out
  have hk0 := HJ1.out.whole.cell (j := 0) rfl
  have hk1 := HJ1.out.whole.cell (j := 1) rfl
  have hr0 := HJ1.out.res.cell (j := 0) rfl
  have hr1 := HJ1.out.res.cell (j := 1) rfl
  have hf0 := HJ1.out.res.frozen 0
  have hf1 := HJ1.out.res.frozen 1
  obtain ⟨WZ, hWZ⟩ : ∃ WZ : World, WZ = (W1.setCell ⟨w.heap.size + 1, 0, none⟩ (.int .i64 kk)).setCell ⟨w.heap.size + 1, 1, none⟩ (.slice a1 m1 e1) := ⟨_, rfl⟩
  have HZ : Hid (PnP kk Y w (.returned (.agg #[.int .i64 kk, (.slice a1 m1 e1)])) WZ ∧ BoxAt WZ w.heap.size 67 2 (w.heap.size + 1) [.int .i64 kk, (.slice a1 m1 e1)]) := by
    rw [hWZ]
    exact ⟨⟨bz, cz, by rw [hvz], hOz, hbz⟩, hrz⟩
  have p0 := HZ.out.2.cell (j := 0) rfl
  have p1 := HZ.out.2.cell (j := 1) rfl
  clear hvz hOz hbz hrz
  go_wp2_with fail
  rw [← hWZ]
  exact bodyPost_ret (v := .agg #[.int .i64 kk, (.slice a1 m1 e1)]) (by simp [results, Tryz.results37, go_sem, p0, p1]) rfl HZ.out.1
end Go.Proofs.YtgnpcenpcmdlfaaGreatDoor
