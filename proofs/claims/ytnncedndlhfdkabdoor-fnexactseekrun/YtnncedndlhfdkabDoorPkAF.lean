import Derived.Test.YtnncedndlhfdkabDoorPkAB
import Derived.Test.YtnncedndlhfdkabDoorPkAE
import Derived.Test.YtnncedndlhfdkabDoorPkAD
import Derived.Test.YtnncedndlhfdkabDoorPkAA
/-
  impl.fixedOf.
-/
namespace Go.Proofs.YtnncedndlhfdkabDoor
open Go.ChangeShapes Go.WideShapes Go.ChangeAt Go.RowKit Go.Deep
set_option linter.unusedVariables false
set_option linter.unusedSimpArgs false
set_option maxRecDepth 100000

theorem or_add32 {a y m : Nat} (ha : a < 2 ^ m) (hs : a + y * 2 ^ m < 2 ^ 32) : bits .or .u32 (a : Int) ((y * 2 ^ m : Nat) : Int) = ((a + y * 2 ^ m : Nat) : Int) := by
  have h1 : BitVec.ofInt 32 (a : Int) = BitVec.ofNat 32 a := by simp
  have h2 : BitVec.ofInt 32 ((y * 2 ^ m : Nat) : Int) = BitVec.ofNat 32 (y * 2 ^ m) := BitVec.ofInt_natCast _ _
  show IntKind.wrap .u32 ((BitVec.ofInt 32 (a : Int) ||| BitVec.ofInt 32 ((y * 2 ^ m : Nat) : Int)).toNat : Int) = _
  rw [h1, h2, BitVec.toNat_or, BitVec.toNat_ofNat, BitVec.toNat_ofNat, Nat.mod_eq_of_lt (by omega), Nat.mod_eq_of_lt (by omega)]
  have h3 : a ||| y * 2 ^ m = a + y * 2 ^ m := by
    rw [Nat.or_comm, ← Nat.shiftLeft_eq, ← Nat.shiftLeft_add_eq_or_of_lt ha, Nat.add_comm]
  rw [h3]
  simp only [IntKind.wrap, IntKind.bits, IntKind.signed, Bool.false_and, Bool.false_eq_true, if_false]
  omega

set_option maxHeartbeats 2000000 in
theorem fixedOf_core (b off cap : Nat) (xs : List UInt8) (w : World) (hE : BysAt w b off xs) (h4 : 4 ≤ xs.length) (hlen : xs.length ≤ 2 ^ 30) :
    Calls Tryd.prog 27 #[.slice (some ⟨b, off, none⟩) xs.length cap] w fun e w' => e = .returned (.int .u32 (fixAt xs 0 : Int)) ∧ Below w.heap.size w w' := by
  obtain ⟨x0, h0⟩ : ∃ x, xs[0]? = some x := ⟨_, List.getElem?_eq_getElem (by omega)⟩
  obtain ⟨x1, h1⟩ : ∃ x, xs[1]? = some x := ⟨_, List.getElem?_eq_getElem (by omega)⟩
  obtain ⟨x2, h2⟩ : ∃ x, xs[2]? = some x := ⟨_, List.getElem?_eq_getElem (by omega)⟩
  obtain ⟨x3, h3⟩ : ∃ x, xs[3]? = some x := ⟨_, List.getElem?_eq_getElem (by omega)⟩
  have c0 : w.cell? ⟨b, off, none⟩ = some (ub x0) := hE 0 x0 h0
  have c1 := hE 1 x1 h1
  have c2 := hE 2 x2 h2
  have c3 := hE 3 x3 h3
  have HF : Hid (fixAt xs 0 = x0.toNat + 256 * x1.toNat + 65536 * x2.toNat + 16777216 * x3.toNat) := by
    show fixAt xs 0 = _
    unfold fixAt fix4
    simp only [List.getD_eq_getElem?_getD, Nat.zero_add, h0, h1, h2, h3, Option.getD_some]
  have z0 : (0 : Int) < (xs.length : Int) := by omega
  have z1 : (1 : Int) < (xs.length : Int) := by omega
  have z2 : (2 : Int) < (xs.length : Int) := by omega
  have z3 : (3 : Int) < (xs.length : Int) := by omega
  clear hE h0 h1 h2 h3 h4 hlen
  go_enter Tryd.func27, Tryd.ntmps27
  go_upto_region 1 with fail
  go_quiet (fail)
  go_wp2_with fail
  go_ret
  refine ⟨?_, below_drewN (Below.refl _ _) _⟩
  have u0 := u8lt x0
  have u1 := u8lt x1
  have u2 := u8lt x2
  have u3 := u8lt x3
  have e0 : (x0.toNat : Int) % 4294967296 = (x0.toNat : Int) := by omega
  have e1 : (x1.toNat : Int) % 4294967296 * 256 % 4294967296 = ((x1.toNat * 2 ^ 8 : Nat) : Int) := by omega
  have e2 : (x2.toNat : Int) % 4294967296 * 65536 % 4294967296 = ((x2.toNat * 2 ^ 16 : Nat) : Int) := by omega
  have e3 : (x3.toNat : Int) % 4294967296 * 16777216 % 4294967296 = ((x3.toNat * 2 ^ 24 : Nat) : Int) := by omega
  show Ending.returned (Value.int .u32 (bits BinOp.or .u32 (bits BinOp.or .u32 (bits BinOp.or .u32 ((x0.toNat : Int) % 4294967296) ((x1.toNat : Int) % 4294967296 * 256 % 4294967296)) ((x2.toNat : Int) % 4294967296 * 65536 % 4294967296)) ((x3.toNat : Int) % 4294967296 * 16777216 % 4294967296))) = _
  rw [e0, e1, e2, e3, or_add32 (by omega) (by omega), or_add32 (by omega) (by omega), or_add32 (by omega) (by omega), HF.out]
  congr 2
  omega
end Go.Proofs.YtnncedndlhfdkabDoor

/-
  Blocks of a file as the program keeps them; a row of them in memory.
-/
namespace Go.Proofs.YtnncedndlhfdkabDoor
open Go.ChangeShapes Go.WideShapes Go.ChangeAt Go.RowKit Go.Deep
set_option linter.unusedVariables false
set_option linter.unusedSimpArgs false
set_option maxRecDepth 100000

/-- Where the file lies. -/
structure FileAt where
  b : Nat
  off : Nat
  cap : Nat
  xs : List UInt8
abbrev FileAt.four (f : FileAt) (k : Blk) : List Value := [.slice (some ⟨f.b, f.off + k.fr, none⟩) (k.til - k.fr) (f.cap - k.fr), .int .u32 (fixAt f.xs k.til : Int), .int .i64 (k.count : Int), .string k.row]
def FileAt.cells (f : FileAt) (l : List Blk) : List Value := l.flatMap f.four
theorem FileAt.cells_append (f : FileAt) (l k : List Blk) : f.cells (l ++ k) = f.cells l ++ f.cells k := by simp [FileAt.cells]
theorem FileAt.length_cells (f : FileAt) (l : List Blk) : (f.cells l).length = l.length * 4 := by
  induction l with
  | nil => rfl
  | cons e l ih => rw [show f.cells (e :: l) = f.four e ++ f.cells l by simp [FileAt.cells], List.length_append, ih]; simp; omega
theorem FileAt.cells_get (f : FileAt) (l : List Blk) : ∀ (k : Nat) (e : Blk), l[k]? = some e → ∀ j, j < 4 → (f.cells l)[k * 4 + j]? = (f.four e)[j]? := by
  induction l with
  | nil => intro k e h; simp at h
  | cons x l ih =>
    intro k e h j hj
    rw [show f.cells (x :: l) = f.four x ++ f.cells l by simp [FileAt.cells]]
    cases k with
    | zero =>
      simp at h; subst h
      rw [List.getElem?_append_left (by show 0 * 4 + j < 4; omega)]
      simp
    | succ k =>
      simp at h
      rw [List.getElem?_append_right (by show 4 ≤ (k + 1) * 4 + j; omega)]
      have : (k + 1) * 4 + j - (f.four x).length = k * 4 + j := by show (k + 1) * 4 + j - 4 = _; omega
      rw [this]; exact ih k e h j hj
/-- A row of the program's blocks. -/
def OwnF (f : FileAt) (w : World) (base g cp : Nat) (l : List Blk) : Prop := w.ownsRow base 51 4 (.slice (some ⟨g, 0, none⟩) l.length cp) l.length (f.cells l)
theorem OwnF.lt {f : FileAt} {w : World} {base g cp : Nat} {l : List Blk} (h : OwnF f w base g cp l) : base ≤ g ∧ g < w.heap.size := World.ownsRow.lt h g rfl
theorem OwnF.chg {f : FileAt} {S : Nat → Prop} {w w' : World} {base g cp : Nat} {l : List Blk} (h : OwnF f w base g cp l) (hc : Chg S w w') (hn : ¬ S g) : OwnF f w' base g cp l := own_chg h hc (fun k q => by simp [Value.ownBlock] at q; subst q; exact hn)
theorem OwnF.below {f : FileAt} {w w' : World} {base g cp : Nat} {l : List Blk} (h : OwnF f w base g cp l) (hb : Below w.heap.size w w') : OwnF f w' base g cp l := h.chg (Chg.of_below hb) (S := fun _ => False) (fun q => q)
theorem OwnF.mono {f : FileAt} {w : World} {base base' g cp : Nat} {l : List Blk} (h : OwnF f w base g cp l) (hb : base' ≤ base) : OwnF f w base' g cp l := by
  refine ⟨h.1, ?_⟩
  rcases h.2 with hn | ⟨g', cap', cur, hv, h1, rest⟩
  · exact .inl hn
  · exact .inr ⟨g', cap', cur, hv, Nat.le_trans hb h1, rest⟩
theorem OwnF.at {f : FileAt} {w : World} {base g cp : Nat} {l : List Blk} (h : OwnF f w base g cp l) {k : Nat} {e : Blk} (he : l[k]? = some e) :
    w.cell? ⟨g, k * 4, none⟩ = some (.slice (some ⟨f.b, f.off + e.fr, none⟩) (e.til - e.fr) (f.cap - e.fr)) ∧ w.cell? ⟨g, k * 4 + 1, none⟩ = some (.int .u32 (fixAt f.xs e.til : Int)) ∧ w.cell? ⟨g, k * 4 + 2, none⟩ = some (.int .i64 (e.count : Int)) ∧ w.cell? ⟨g, k * 4 + 3, none⟩ = some (.string e.row) := by
  have hi : k < l.length := (List.getElem?_eq_some_iff.1 he).1
  have c := fun j (hj : j < 4) => (World.ownsRow.cellAt h (k * 4 + j) (by omega)).trans (f.cells_get l k e he j hj)
  refine ⟨?_, ?_, ?_, ?_⟩
  · simpa using c 0 (by omega)
  · simpa using c 1 (by omega)
  · simpa using c 2 (by omega)
  · simpa using c 3 (by omega)
theorem ownF_new (f : FileAt) (w : World) {base : Nat} (hb : base ≤ w.heap.size) : OwnF f (w.alloc (Obj.cells #[] 51)) base w.heap.size 0 [] :=
  World.ownsRow_made w #[] 0 hb (Nat.zero_le _) (by simp)
theorem Tryd.infoFBlk : (Tryd.prog.info? 51).map (fun i => (i.zero, i.size, i.bytes)) = some (some (.agg #[.slice none 0 0, .int .u32 0, .int .i64 0, .string ⟨#[]⟩]), 4, 56) := by kernel_rfl
theorem wpList_append_fblk {f : FileAt} {ops : Array Oper} {rest : List Oper} {o : Oper} {a : Act} {Q : Exit → Act → World → Prop} (w : World) (hgd : o.guard = none) (s x : Operand)
    (ho : o.op = .call { callee := .builtin .append, args := #[s, x], argTypes := #[45, 45] })
    (base g cp n blk : Nat) (l : List Blk) (e : Blk) (hs : a.eval s = .slice (some ⟨g, 0, none⟩) n cp) (hx : a.eval x = .slice (some ⟨blk, 0, none⟩) 1 1) (hn : n = l.length) (hO : OwnF f w base g cp l)
    (hc : ∀ j u, (f.four e)[j]? = some u → w.cell? ⟨blk, j, none⟩ = some u) (hlen : l.length ≤ 2 ^ 30) (hbase : base ≤ w.heap.size)
    (h : ∀ g' cp' w', OwnF f w' base g' cp' (l ++ [e]) → w.grownBy w' (some g) → (g' = g ∨ g' = w.heap.size) → wpList Tryd.prog ops Q rest (a.put o.dst (.slice (some ⟨g', 0, none⟩) (n + 1) cp')) w') : wpList Tryd.prog ops Q (o :: rest) a w := by
  obtain ⟨i, hi, hz0, hz1, hz2⟩ := info_parts Tryd.infoFBlk
  subst hn
  have he : f.cells [e] = f.four e := by simp [FileAt.cells]
  refine wpList_append_own_at w hgd s x 45 ho base 51 i _ 4 56 Tryd.underlying45 hi hz0 hz1 hz2 rfl (by decide) (.slice (some ⟨g, 0, none⟩) l.length cp) l.length (f.cells l) hs hO ⟨blk, 0, none⟩ 1 1 (f.cells [e]) hx (f.length_cells [e]) ?_ ?_ ?_ ?_ hbase ?_
  · intro j u hu
    rw [he] at hu
    rw [Addr.add_mid, Nat.zero_add]
    exact hc j u hu
  · intro u hu
    rw [he] at hu
    simp at hu
    rcases hu with rfl | rfl | rfl | rfl <;> rfl
  · unfold maxLen; omega
  · omega
  · intro v' w' hO' hgr hnil hat
    rcases hO'.2 with ⟨h0, _⟩ | ⟨g', cap', cur, hv, _, _, hn, hcap, _, _⟩
    · have := (hnil.1 h0).1
      cases this
    · subst hv
      refine h g' cap' w' ?_ hgr ?_
      · unfold OwnF
        rw [List.length_append, f.cells_append]
        exact hO'
      · simp [Value.ownBlock] at hat
        exact hat
/-- The bytes from 'p' up to 'lim'. -/
def span (xs : List UInt8) (p lim : Nat) : List UInt8 := (xs.drop p).take (lim - p)
theorem span_len {xs : List UInt8} {p lim : Nat} (h : lim ≤ xs.length) : (span xs p lim).length = lim - p := by
  unfold span; rw [List.length_take, List.length_drop]; omega
theorem span_drop (xs : List UInt8) (p lim n : Nat) : (span xs p lim).drop n = span xs (p + n) lim := by
  unfold span
  rw [List.drop_take, List.drop_drop]
  congr 1
  omega
theorem span_take {xs : List UInt8} {p lim n : Nat} (h : n ≤ lim - p) : (span xs p lim).take n = span xs p (p + n) := by
  unfold span
  rw [List.take_take, Nat.min_eq_left h, Nat.add_sub_cancel_left]
theorem fixAt_span {xs : List UInt8} {p : Nat} (h : p + 4 ≤ xs.length) : fixAt (span xs p (p + 4)) 0 = fixAt xs p := by
  unfold fixAt span
  simp only [List.getD_eq_getElem?_getD, Nat.zero_add, Nat.add_sub_cancel_left, List.getElem?_take, List.getElem?_drop]
  simp
end Go.Proofs.YtnncedndlhfdkabDoor

/-
  impl.readBlocks.
-/
namespace Go.Proofs.YtnncedndlhfdkabDoor
open Go.ChangeShapes Go.WideShapes Go.ChangeAt Go.RowKit Go.Deep
set_option linter.unusedVariables false
set_option linter.unusedSimpArgs false
set_option maxRecDepth 100000

theorem oneBlk_none1 {n lim p : Nat} {t : List UInt8} (h : getNum t = none) : oneBlk n lim p t = none := by unfold oneBlk; rw [h]
theorem oneBlk_none2 {n lim p size : Nat} {t t1 : List UInt8} (h : getNum t = some (size, t1)) (h2 : lim < p + size + 4) : oneBlk n lim p t = none := by
  unfold oneBlk; rw [h]; simp only []
  cases getNum t1 with
  | none => rfl
  | some q =>
    simp only []
    cases getStr q.2 with
    | none => rfl
    | some r => simp only []; rw [if_pos (.inr (.inr (.inr h2)))]
theorem oneBlk_none3 {n lim p size : Nat} {t t1 : List UInt8} (h : getNum t = some (size, t1)) (h2 : getNum t1 = none) : oneBlk n lim p t = none := by
  unfold oneBlk; rw [h]; simp only []; rw [h2]
theorem oneBlk_none4 {n lim p size count : Nat} {t t1 t2 : List UInt8} (h : getNum t = some (size, t1)) (h2 : getNum t1 = some (count, t2)) (h3 : count < 1 ∨ 1000 < count) : oneBlk n lim p t = none := by
  unfold oneBlk; rw [h]; simp only []; rw [h2]; simp only []
  cases getStr t2 with
  | none => rfl
  | some r =>
    simp only []
    rw [if_pos]
    rcases h3 with h3 | h3
    · exact .inl h3
    · exact .inr (.inl h3)
theorem oneBlk_none5 {n lim p size count : Nat} {t t1 t2 : List UInt8} (h : getNum t = some (size, t1)) (h2 : getNum t1 = some (count, t2)) (h3 : getStr t2 = none) : oneBlk n lim p t = none := by
  unfold oneBlk; rw [h]; simp only []; rw [h2]; simp only []; rw [h3]
theorem oneBlk_some {n lim p size count : Nat} {t t1 t2 t3 : List UInt8} {row : ByteArray} (h : getNum t = some (size, t1)) (h2 : getNum t1 = some (count, t2)) (h3 : getStr t2 = some (bl row, t3)) (hc : 1 ≤ count ∧ count ≤ 1000) (hl : p + size + 4 ≤ lim) (hn : lim ≤ n) :
    oneBlk n lim p t = some (⟨p, p + size, count, row⟩, p + size + 4, t3) := by
  unfold oneBlk; rw [h]; simp only []; rw [h2]; simp only []; rw [h3]; simp only []
  rw [if_neg (by omega), ba_bl]

def RbP (f : FileAt) (w : World) (r : Int × List Blk) (e : Ending) (w' : World) : Prop :=
  Below w.heap.size w w' ∧ ((r.1 = 0 ∧ ∃ g cp, e = .returned (.slice (some ⟨g, 0, none⟩) r.2.length cp) ∧ OwnF f w' w.heap.size g cp r.2) ∨ (r.1 ≠ 0 ∧ e = Corr r.1))
/-- Between two blocks of the index: the two readers and the row so far. -/
structure RbJ (f : FileAt) (w wr : World) (lim p : Nat) (t : List UInt8) (g cp : Nat) (l : List Blk) : Prop where
  marks : RdE wr w.heap.size w.heap.size f.b t 1
  space : RdAt wr w.heap.size (w.heap.size + 1) f.b (f.off + p) (f.cap - p) (span f.xs p lim) 1
  row : OwnF f wr (w.heap.size + 2) g cp l
  below : Below w.heap.size w wr
  le : p ≤ lim
theorem RbJ.size {f : FileAt} {w wr : World} {lim p : Nat} {t : List UInt8} {g cp : Nat} {l : List Blk} (h : RbJ f w wr lim p t g cp l) : w.heap.size + 2 ≤ wr.heap.size := by have := h.row.lt; omega
theorem RbJ.mark {f : FileAt} {w wr w' : World} {lim p : Nat} {t t' : List UInt8} {g cp : Nat} {l : List Blk} (h : RbJ f w wr lim p t g cp l) (hb : f.b < w.heap.size) (hc : Chg (fun k => k = w.heap.size) wr w') (hr : RdE w' w.heap.size w.heap.size f.b t' 1) : RbJ f w w' lim p t' g cp l :=
  ⟨hr, h.space.chg hc (by omega) (by omega), h.row.chg hc (by have := h.row.lt; omega), Chg.below h.below hc h.below.size (by omega), h.le⟩
theorem RbJ.spc {f : FileAt} {w wr w' : World} {lim p p' : Nat} {t : List UInt8} {g cp : Nat} {l : List Blk} (h : RbJ f w wr lim p t g cp l) (hb : f.b < w.heap.size) (hc : Chg (fun k => k = w.heap.size + 1) wr w') (hr : RdAt w' w.heap.size (w.heap.size + 1) f.b (f.off + p') (f.cap - p') (span f.xs p' lim) 1) (hl : p' ≤ lim) : RbJ f w w' lim p' t g cp l :=
  ⟨h.marks.chg hc (by omega) (by omega), hr, h.row.chg hc (by have := h.row.lt; omega), Chg.below h.below hc h.below.size (by omega), hl⟩
theorem RbJ.grow {f : FileAt} {w wr w' : World} {lim p : Nat} {t : List UInt8} {g cp : Nat} {l : List Blk} (h : RbJ f w wr lim p t g cp l) (hb : Below wr.heap.size wr w') : RbJ f w w' lim p t g cp l :=
  ⟨h.marks.chg (S := fun _ => False) (Chg.of_below hb) (fun q => q) (fun q => q), h.space.chg (S := fun _ => False) (Chg.of_below hb) (fun q => q) (fun q => q), h.row.below hb, h.below.trans (hb.mono h.below.size), h.le⟩
theorem RbJ.app {f : FileAt} {w wr w' : World} {lim p : Nat} {t : List UInt8} {g cp g' cp' : Nat} {l l' : List Blk} (h : RbJ f w wr lim p t g cp l) (hb : f.b < w.heap.size) (hO : OwnF f w' (w.heap.size + 2) g' cp' l') (hg : wr.grownBy w' (some g)) : RbJ f w w' lim p t g' cp' l' := by
  have hlt := h.row.lt.1
  have hc : Chg (fun k => k = g) wr w' := Chg.of_grown hg (fun k hk => by cases hk; rfl)
  exact ⟨h.marks.chg hc (by omega) (by omega), h.space.chg hc (by omega) (by omega), hO, h.below.grown hg h.below.size (fun k hk => by cases hk; omega), h.le⟩

set_option maxHeartbeats 8000000 in
theorem readBlocks_core (f : FileAt) (lim m capI : Nat) (w : World) (hE : BysAt w f.b f.off f.xs) (hb : f.b < w.heap.size) (hl : f.xs.length ≤ 2 ^ 29) (h4 : 4 ≤ lim) (hlim : lim + m + 8 = f.xs.length) (hcap : f.xs.length ≤ f.cap) (hcm : f.cap ≤ maxLen) (hci : capI = f.cap - lim) :
    Calls Tryd.prog 30 #[.slice (some ⟨f.b, f.off + lim, none⟩) m capI, .slice (some ⟨f.b, f.off + 4, none⟩) (lim - 4) (f.cap - 4)] w fun e w' => RbP f w (idxBody f.xs.length lim ((f.xs.drop lim).take m)) e w' := by
  obtain ⟨ix, hix⟩ : ∃ ix, ix = (f.xs.drop lim).take m := ⟨_, rfl⟩
  have hixl : ix.length = m := by rw [hix, List.length_take, List.length_drop]; omega
  obtain ⟨R, hR⟩ : ∃ R, R = idxBody f.xs.length lim ix := ⟨_, rfl⟩
  rw [← hix, ← hR]
  have HRR : Hid (R = idxBody f.xs.length lim ix) := hR
  obtain ⟨W, hW⟩ : ∃ W : World, W = (w.alloc (Obj.cells #[.slice (some ⟨f.b, f.off + lim, none⟩) m capI, .int .i64 1] 76)).alloc (Obj.cells #[.slice (some ⟨f.b, f.off + 4, none⟩) (lim - 4) (f.cap - 4), .int .i64 1] 76) := ⟨_, rfl⟩
  have hbW : Below w.heap.size w W := by rw [hW]; exact ((Below.refl _ _).alloc (Nat.le_refl _) _).alloc (by simp) _
  have hzW : W.heap.size = w.heap.size + 2 := by rw [hW]; simp
  have HW : Hid (RdE W w.heap.size w.heap.size f.b ix 1 ∧ RdAt W w.heap.size (w.heap.size + 1) f.b (f.off + 4) (f.cap - 4) (span f.xs 4 lim) 1 ∧ Below w.heap.size w W) := by
    refine ⟨⟨f.off + lim, capI, ?_, ?_, by omega, by omega, by omega, by omega, by omega⟩, ⟨?_, ?_, by omega, by omega, ?_, ?_, by omega⟩, hbW⟩
    · rw [hW, hixl]
      exact (boxAt_new w _ (Nat.le_refl _) rfl).below ((Below.refl _ _).alloc (Nat.le_refl _) _)
    · rw [hix]
      exact ((hE.below hbW hb).drop lim).take m
    · rw [hW, span_len (by omega)]
      have := boxAt_new (w.alloc (Obj.cells #[.slice (some ⟨f.b, f.off + lim, none⟩) m capI, .int .i64 1] 76)) (base := w.heap.size) (t := 76) (sz := 2) #[.slice (some ⟨f.b, f.off + 4, none⟩) (lim - 4) (f.cap - 4), .int .i64 1] (by simp) rfl
      simpa using this
    · exact ((hE.below hbW hb).drop 4).take (lim - 4)
    · rw [span_len (by omega)]; omega
    · rw [span_len (by omega)]; omega
  have HN : Hid (f.b < w.heap.size ∧ f.xs.length ≤ 2 ^ 29 ∧ 4 ≤ lim ∧ lim + m + 8 = f.xs.length ∧ f.xs.length ≤ f.cap ∧ f.cap ≤ maxLen) := ⟨hb, hl, h4, hlim, hcap, hcm⟩
  clear hE hR hix hixl hcap hcm hci hlim hl
  go_enter Tryd.func30, Tryd.ntmps30
  go_upto_region 3 with fail
  rw [← hW]
  clear hW hzW hbW
  go_wp2_with fail
  refine (number_core w.heap.size w.heap.size f.b ix 1 W HW.out.1).mono ?_
  rintro e w1 ⟨hC1, (⟨K, t0, hn, rfl, hn2, ht, hR1⟩ | ⟨hn, rfl⟩)⟩
  case inr =>
    have HR2 : Hid (R = (1, [])) := by
      show R = _
      rw [HRR.out]; unfold idxBody; rw [hn]
    exact ⟨rfl, Chg.below HW.out.2.2 hC1 HW.out.2.2.size (by omega), .inr ⟨by rw [HR2.out]; simp, by rw [HR2.out]⟩⟩
  by_cases hK : K ≤ 10000
  case neg =>
    have HR2 : Hid (R = (1, [])) := by
      show R = _
      rw [HRR.out]; unfold idxBody; rw [hn]; simp only []; rw [if_pos (by omega)]
    have HB : Hid (Below w.heap.size w w1) := Chg.below HW.out.2.2 hC1 HW.out.2.2.size (by omega)
    have z1 : ¬ (K : Int) ≤ 10000 := by omega
    clear hC1 hn hn2 ht hR1
    go_wp2_with fail
    refine (demand_core _ _ _).mono ?_
    rintro e w3 ⟨rfl, (⟨hc, rfl⟩ | ⟨hc, rfl⟩)⟩
    · exfalso
      simp at hc
      omega
    · exact ⟨rfl, HB.out, .inr ⟨by rw [HR2.out]; simp, by rw [HR2.out]⟩⟩
  have HI0 : Hid (R = idxEnd lim (getBlks f.xs.length lim K 4 t0)) := by
    show R = _
    rw [HRR.out]; unfold idxBody; rw [hn]; simp only []; rw [if_neg (by omega)]
  have HJ0 : Hid (RbJ f w (w1.alloc (Obj.cells #[] 51)) lim 4 t0 w1.heap.size 0 []) := by
    have hs1 := hC1.size
    have hs2 := HW.out.2.1.box.lt.2
    have hbn : Below w1.heap.size w1 (w1.alloc (Obj.cells #[] 51)) := (Below.refl _ _).alloc (Nat.le_refl _) _
    refine ⟨hR1.chg (S := fun _ => False) (Chg.of_below hbn) (fun q => q) (fun q => q), (HW.out.2.1.chg hC1 (by omega) (by omega)).chg (S := fun _ => False) (Chg.of_below hbn) (fun q => q) (fun q => q), ownF_new f w1 (by omega), ?_, h4⟩
    exact (Chg.below HW.out.2.2 hC1 HW.out.2.2.size (by omega)).trans (hbn.mono (by have := HW.out.2.2.size; omega))
  have z1 : (K : Int) ≤ 10000 := by omega
  clear hC1 hn hn2 ht hR1 HW HRR h4
  obtain ⟨W1, hW1⟩ : ∃ W1 : World, W1 = w1.alloc (Obj.cells #[] 51) := ⟨_, rfl⟩
  rw [← hW1] at HJ0
  go_wp2_with fail
  refine (demand_core _ _ _).mono ?_
  rintro e w3 ⟨hw3, (⟨hc, rfl⟩ | ⟨hc, rfl⟩)⟩
  case inr =>
    exfalso
    simp at hc <;> omega
  rw [hw3]
  clear hc hw3 z1
  go_wp2_with fail
  rw [← hW1]
  have hs1 : w.heap.size + 2 ≤ w1.heap.size := by have := HJ0.out.row.lt.1; omega
  clear hW1
  go_loopw [8, 22] (fun o kk wr => ∃ (k g cp p : Nat) (l : List Blk) (t : List UInt8), o = .slice (some ⟨g, 0, none⟩) l.length cp ∧ kk = .int .u64 (k : Int) ∧ BlksTo f.xs.length lim K t0 k l p t ∧ RbJ f w wr lim p t g cp l) (fun _ kk _ => K - (intOf kk).toNat)
  case atStart => exact ⟨0, w1.heap.size, 0, 4, [], t0, rfl, rfl, blksTo_zero _ _ _ _, HJ0.out⟩
  case round =>
    clear HJ0
    obtain ⟨k, g, cp, p, l, t, rfl, rfl, hBT, hJ⟩ := hrel
    have HBT : Hid (BlksTo f.xs.length lim K t0 k l p t) := hBT
    have HJ : Hid (RbJ f w wr lim p t g cp l) := hJ
    have hk := hBT.1
    have hll : l.length ≤ 10000 := by have := hBT.2.1; omega
    clear hBT hJ
    by_cases hlt : k < K
    · have zk : (k : Int) < (K : Int) := by omega
      have HStop : Hid (oneBlk f.xs.length lim p t = none → R = (1, [])) := fun h => by
        rw [HI0.out, HBT.out.stop hlt h]; rfl
      -- the size
      go_wp2_with fail
      refine (number_core w.heap.size w.heap.size f.b t 1 wr HJ.out.marks).mono ?_
      rintro e w2 ⟨hC2, (⟨size, t1, hn1, rfl, hn12, ht1, hR2⟩ | ⟨hn1, rfl⟩)⟩
      case inr =>
        have HR2 := HStop.out (oneBlk_none1 hn1)
        exact ⟨rfl, Chg.below HJ.out.below hC2 HJ.out.below.size (by omega), .inr ⟨by rw [HR2]; simp, by rw [HR2]⟩⟩
      have HJ2 : Hid (RbJ f w w2 lim p t1 g cp l) := HJ.out.mark HN.out.1 hC2 hR2
      have HG1 : Hid (getNum t = some (size, t1) ∧ size < 2 ^ 64) := ⟨hn1, hn12⟩
      have hle := HJ.out.le
      clear hC2 hn1 hn12 ht1 hR2 HJ
      have hspl : (span f.xs p lim).length = lim - p := span_len (by have := HN.out; omega)
      by_cases hfit : size ≤ lim - p
      case neg =>
        have HR2 : Hid (R = (1, [])) := HStop.out (oneBlk_none2 HG1.out.1 (by omega))
        go_wp2_with fail
        refine (take_bad w.heap.size (w.heap.size + 1) f.b _ _ size _ 1 w2 HJ2.out.space (by rw [hspl]; omega) HG1.out.2).mono ?_
        rintro e w3 ⟨rfl, hb3⟩
        exact ⟨rfl, HJ2.out.below.trans (hb3.mono HJ2.out.below.size), .inr ⟨by rw [HR2.out]; simp, by rw [HR2.out]⟩⟩
      go_wp2_with fail
      refine (take_ok w.heap.size (w.heap.size + 1) f.b _ _ size _ 1 w2 HJ2.out.space (by rw [hspl]; exact hfit)).mono ?_
      rintro e w3 ⟨rfl, hA3, hC3⟩
      have HJ3 : Hid (RbJ f w w3 lim (p + size) t1 g cp l) := HJ2.out.spc HN.out.1 hC3 (by rw [span_drop] at hA3; rw [← Nat.add_assoc, ← Nat.sub_sub]; exact hA3) (by omega)
      clear hA3 hC3 HJ2 hspl
      have hspl : (span f.xs (p + size) lim).length = lim - (p + size) := span_len (by have := HN.out; omega)
      by_cases hfit4 : 4 ≤ lim - (p + size)
      case neg =>
        have HR2 : Hid (R = (1, [])) := HStop.out (oneBlk_none2 HG1.out.1 (by omega))
        go_wp2_with fail
        refine (take_bad w.heap.size (w.heap.size + 1) f.b _ _ 4 _ 1 w3 HJ3.out.space (by rw [hspl]; omega) (by omega)).mono ?_
        rintro e w4 ⟨rfl, hb4⟩
        exact ⟨rfl, HJ3.out.below.trans (hb4.mono HJ3.out.below.size), .inr ⟨by rw [HR2.out]; simp, by rw [HR2.out]⟩⟩
      go_wp2_with fail
      refine (take_ok w.heap.size (w.heap.size + 1) f.b _ _ 4 _ 1 w3 HJ3.out.space (by rw [hspl]; exact hfit4)).mono ?_
      rintro e w4 ⟨rfl, hA4, hC4⟩
      have HJ4 : Hid (RbJ f w w4 lim (p + size + 4) t1 g cp l) := HJ3.out.spc HN.out.1 hC4 (by rw [span_drop] at hA4; rw [← Nat.add_assoc, ← Nat.sub_sub]; exact hA4) (by omega)
      have HB4 : Hid (BysAt w4 f.b (f.off + (p + size)) (span f.xs (p + size) (p + size + 4)) ∧ (span f.xs (p + size) (p + size + 4)).length = 4 ∧ fixAt (span f.xs (p + size) (p + size + 4)) 0 = fixAt f.xs (p + size)) := by
        have hN := HN.out
        refine ⟨?_, ?_, fixAt_span (by omega)⟩
        · have h1 := (HJ3.out.space.bys.chgR hC4 HJ3.out.space.lt HJ3.out.space.ne).take 4
          rw [span_take hfit4] at h1
          exact h1
        · rw [span_len (by omega)]; omega
      clear hA4 hC4 HJ3 hspl
      go_wp2_with fail
      have hfx := fixedOf_core f.b (f.off + (p + size)) (f.cap - (p + size)) (span f.xs (p + size) (p + size + 4)) w4 HB4.out.1 (by rw [HB4.out.2.1]; omega) (by rw [HB4.out.2.1]; omega)
      rw [HB4.out.2.1, HB4.out.2.2] at hfx
      refine hfx.mono ?_
      rintro e w5 ⟨rfl, hb5⟩
      have HJ5 : Hid (RbJ f w w5 lim (p + size + 4) t1 g cp l) := HJ4.out.grow hb5
      clear hfx hb5 HB4 HJ4
      -- the count
      go_wp2_with fail
      refine (number_core w.heap.size w.heap.size f.b t1 1 w5 HJ5.out.marks).mono ?_
      rintro e w6 ⟨hC6, (⟨count, t2, hn2, rfl, hn22, ht2, hR6⟩ | ⟨hn2, rfl⟩)⟩
      case inr =>
        have HR2 := HStop.out (oneBlk_none3 HG1.out.1 hn2)
        exact ⟨rfl, Chg.below HJ5.out.below hC6 HJ5.out.below.size (by omega), .inr ⟨by rw [HR2]; simp, by rw [HR2]⟩⟩
      have HJ6 : Hid (RbJ f w w6 lim (p + size + 4) t2 g cp l) := HJ5.out.mark HN.out.1 hC6 hR6
      have HG2 : Hid (getNum t1 = some (count, t2)) := hn2
      clear hC6 hn2 hn22 ht2 hR6 HJ5
      by_cases hcn : 1 ≤ count ∧ count ≤ 1000
      case neg =>
        have HR2 : Hid (R = (1, [])) := HStop.out (oneBlk_none4 HG1.out.1 HG2.out (by omega))
        by_cases hc1 : 1 ≤ count
        · have z1 : (1 : Int) ≤ (count : Int) := by omega
          go_wp2_with fail
          refine (demand_core _ _ _).mono ?_
          rintro e w7 ⟨rfl, (⟨hc, rfl⟩ | ⟨hc, rfl⟩)⟩
          · exfalso
            simp at hc <;> omega
          · exact ⟨rfl, HJ6.out.below, .inr ⟨by rw [HR2.out]; simp, by rw [HR2.out]⟩⟩
        · have z1 : ¬ (1 : Int) ≤ (count : Int) := by omega
          go_wp2_with fail
          refine (demand_core _ _ _).mono ?_
          rintro e w7 ⟨rfl, (⟨hc, rfl⟩ | ⟨hc, rfl⟩)⟩
          · exfalso
            simp at hc <;> omega
          · exact ⟨rfl, HJ6.out.below, .inr ⟨by rw [HR2.out]; simp, by rw [HR2.out]⟩⟩
      obtain ⟨hc1, hc2⟩ := hcn
      have z1 : (1 : Int) ≤ (count : Int) := by omega
      have z2 : (count : Int) ≤ 1000 := by omega
      go_wp2_with fail
      refine (demand_core _ _ _).mono ?_
      rintro e w7 ⟨hw7, (⟨hc, rfl⟩ | ⟨hc, rfl⟩)⟩
      case inr =>
        exfalso
        simp at hc <;> omega
      rw [hw7]
      clear hc hw7
      -- the row
      go_wp2_with fail
      refine (text_core w.heap.size w.heap.size f.b t2 1 w6 HJ6.out.marks).mono ?_
      rintro e w8 ⟨hC8, (⟨row, t3, hr3, rfl, hs3, hR8⟩ | ⟨hr3, rfl⟩)⟩
      case inr =>
        have HR2 := HStop.out (oneBlk_none5 HG1.out.1 HG2.out hr3)
        exact ⟨rfl, Chg.below HJ6.out.below hC8 HJ6.out.below.size (by omega), .inr ⟨by rw [HR2]; simp, by rw [HR2]⟩⟩
      have HBK : Hid (BlksTo f.xs.length lim K t0 (k + 1) (l ++ [⟨p, p + size, count, row⟩]) (p + size + 4) t3) := HBT.out.more hlt (oneBlk_some HG1.out.1 HG2.out hr3 ⟨hc1, hc2⟩ (by omega) (by have := HN.out; omega))
      have HJ8 : Hid (RbJ f w w8 lim (p + size + 4) t3 g cp l) := HJ6.out.mark HN.out.1 hC8 hR8
      clear hC8 hr3 hs3 hR8 HJ6 HG1 HG2 HBT HStop
      obtain ⟨WD, hWD⟩ : ∃ V : World, V = w8.alloc (Obj.cells #[.slice (some ⟨f.b, f.off + p, none⟩) size (f.cap - p), .int .u32 (fixAt f.xs (p + size) : Int), .int .i64 (count : Int), .string row] 51) := ⟨_, rfl⟩
      have hbD : Below w8.heap.size w8 WD := by rw [hWD]; exact (Below.refl _ _).alloc (Nat.le_refl _) _
      have HTD : Hid (RbJ f w WD lim (p + size + 4) t3 g cp l ∧ ∀ j u, (f.four ⟨p, p + size, count, row⟩)[j]? = some u → WD.cell? ⟨w8.heap.size, j, none⟩ = some u) := by
        refine ⟨HJ8.out.grow hbD, ?_⟩
        intro j u hu
        rw [hWD]
        have h4 : f.four ⟨p, p + size, count, row⟩ = [.slice (some ⟨f.b, f.off + p, none⟩) size (f.cap - p), .int .u32 (fixAt f.xs (p + size) : Int), .int .i64 (count : Int), .string row] := by
          show [Value.slice (some ⟨f.b, f.off + p, none⟩) (p + size - p) (f.cap - p), _, _, _] = _
          rw [Nat.add_sub_cancel_left]
        rw [h4] at hu
        rw [cell_of_row _ _ j _ _ _ (heap_alloc_last w8 _)]
        simpa using hu
      have sD := HTD.out.1.size
      clear hbD
      go_wp2_with (at_builtin; rw [← hWD]; refine wpList_append_fblk (f := f) _ rfl _ _ rfl (w.heap.size + 2) g cp l.length w8.heap.size l ⟨p, p + size, count, row⟩ rfl rfl rfl ?hO ?hc ?hl ?hb ?_)
      case hO => exact HTD.out.1.row
      case hc => exact HTD.out.2
      case hl => omega
      case hb => exact sD
      intro g' cp' wE hOE hgrE hatE
      try rw [← hWD] at hgrE
      have HJE : Hid (RbJ f w wE lim (p + size + 4) t3 g' cp' (l ++ [⟨p, p + size, count, row⟩])) := HTD.out.1.app hb hOE hgrE
      have hle2 : l.length + 1 = (l ++ [(⟨p, p + size, count, row⟩ : Blk)]).length := by simp
      rw [hle2]
      clear hOE hgrE hatE hWD HTD sD HJ8 hle2
      go_wp2_with fail
      go_roundw
      case rel => exact ⟨k + 1, g', cp', p + size + 4, l ++ [⟨p, p + size, count, row⟩], t3, by simp, by go_num, HBK.out, HJE.out⟩
      case measure => simp [intOf]; omega
    · obtain rfl : k = K := by omega
      have HD : Hid (R = if t ≠ [] ∨ p ≠ lim then (1, []) else (0, l)) := by
        show R = _
        rw [HI0.out, HBT.out.done]; rfl
      have hle := HJ.out.le
      have hspl : (span f.xs p lim).length = lim - p := span_len (by have := HN.out; omega)
      obtain ⟨off', cap', hA⟩ := HJ.out.marks
      have HA : Hid (RdAt wr w.heap.size w.heap.size f.b off' cap' t 1) := hA
      clear hA HI0 HBT
      by_cases ht : t = []
      case neg =>
        have HR2 : Hid (R = (1, [])) := by
          show R = _
          rw [HD.out, if_pos (.inl ht)]
        go_wp2_with fail
        refine (end_bad w.heap.size w.heap.size f.b off' cap' t 1 wr HA.out ht).mono ?_
        rintro e w5 ⟨rfl, hb5⟩
        exact ⟨rfl, HJ.out.below.trans (hb5.mono HJ.out.below.size), .inr ⟨by rw [HR2.out]; simp, by rw [HR2.out]⟩⟩
      subst ht
      go_wp2_with fail
      refine (end_ok w.heap.size w.heap.size f.b off' cap' 1 wr HA.out).mono ?_
      rintro e w5 ⟨rfl, hb5⟩
      have HJ5 : Hid (RbJ f w w5 lim p [] g cp l) := HJ.out.grow hb5
      clear hb5 HA HJ
      by_cases hp : p = lim
      case neg =>
        have HR2 : Hid (R = (1, [])) := by
          show R = _
          rw [HD.out, if_pos (.inr hp)]
        go_wp2_with fail
        refine (end_bad w.heap.size (w.heap.size + 1) f.b _ _ _ 1 w5 HJ5.out.space (fun q => by rw [q] at hspl; simp at hspl; omega)).mono ?_
        rintro e w6 ⟨rfl, hb6⟩
        exact ⟨rfl, HJ5.out.below.trans (hb6.mono HJ5.out.below.size), .inr ⟨by rw [HR2.out]; simp, by rw [HR2.out]⟩⟩
      have HR2 : Hid (R = (0, l)) := by
        show R = _
        rw [HD.out, if_neg (by simp [hp])]
      have HSp : Hid (RdAt w5 w.heap.size (w.heap.size + 1) f.b (f.off + p) (f.cap - p) [] 1) := by
        have h1 := HJ5.out.space
        have h2 : span f.xs p lim = [] := List.length_eq_zero_iff.1 (by omega)
        rw [h2] at h1
        exact h1
      clear hp hspl
      go_wp2_with fail
      refine (end_ok w.heap.size (w.heap.size + 1) f.b _ _ 1 w5 HSp.out).mono ?_
      rintro e w6 ⟨rfl, hb6⟩
      have HJ6 : Hid (RbJ f w w6 lim p [] g cp l) := HJ5.out.grow hb6
      clear hb6 HSp HJ5
      go_wp2_with fail
      go_ret
      exact ⟨HJ6.out.below, .inl ⟨by rw [HR2.out], g, cp, by rw [HR2.out]; rfl, by rw [HR2.out]; exact HJ6.out.row.mono (by omega)⟩⟩
end Go.Proofs.YtnncedndlhfdkabDoor

/-
  impl.openFile.
-/
namespace Go.Proofs.YtnncedndlhfdkabDoor
open Go.ChangeShapes Go.WideShapes Go.ChangeAt Go.RowKit Go.Deep
set_option linter.unusedVariables false
set_option linter.unusedSimpArgs false
set_option maxRecDepth 100000

/-- A file's reader, as a value. -/
def fileR (v : Value) : Array Value := (tabA 256).push v
theorem fileR_size (v : Value) : (fileR v).size = 257 := by unfold fileR; rw [Array.size_push, tabA_size]
theorem fileR_one (v : Value) (hv : v.oneCell' = true) : (fileR v).all (·.oneCell') = true := by
  rw [Array.all_eq_true_iff_forall_mem]
  intro u hu
  unfold fileR at hu
  rcases Array.mem_push.1 hu with h | rfl
  · exact (Array.all_eq_true_iff_forall_mem.1 (tabA_one 256)) u h
  · exact hv
theorem fileR_tab (v : Value) (i : Nat) (hi : i < 256) : (fileR v)[i]? = some (.int .u32 ((tabE i).toNat : Int)) := by
  unfold fileR
  rw [Array.getElem?_push_lt (by rw [tabA_size]; exact hi), ← Array.getElem?_eq_getElem (by rw [tabA_size]; exact hi)]
  exact tabA_at 256 i hi hi
theorem fileR_last (v : Value) : (fileR v)[256]? = some v := by
  unfold fileR
  have := Array.getElem?_push_size (xs := tabA 256) (x := v)
  rw [tabA_size] at this
  exact this
theorem fileR_set (u v : Value) : (fileR u).setIfInBounds 256 v = fileR v := by
  apply Array.ext_getElem?
  intro i
  rcases Nat.lt_trichotomy i 256 with h | h | h
  · rw [Array.getElem?_setIfInBounds_ne (by omega), fileR_tab u i h, fileR_tab v i h]
  · subst h
    rw [fileR_last v, Array.getElem?_setIfInBounds_self, if_pos (by rw [fileR_size]; omega)]
  · rw [Array.getElem?_eq_none (by rw [Array.size_setIfInBounds, fileR_size]; omega), Array.getElem?_eq_none (by rw [fileR_size]; omega)]
theorem info_fr : (Tryd.prog.info? 47).map (fun i => (i.zero, i.size)) = some (some (.agg ((Array.replicate 256 (.int .u32 0)).push (.slice none 0 0))), 257) := by kernel_rfl
theorem hd_list : (⟨#[82, 85, 78, 49]⟩ : ByteArray).toList = [82, 85, 78, 49] := by kernel_rfl
theorem fixAt_drop (xs : List UInt8) (i : Nat) : fixAt (xs.drop i) 0 = fixAt xs i := by
  unfold fixAt
  simp only [List.getD_eq_getElem?_getD, Nat.zero_add, List.getElem?_drop, Nat.add_zero]
theorem fold_fill : ∀ (l : List Value) (k : Nat) (z : List Value), k + l.length ≤ z.length → (l.zipIdx k).foldl (fun (cs : Array Value) (p : Value × Nat) => cs.setIfInBounds (0 + p.2) p.1) z.toArray = (z.take k ++ l ++ z.drop (k + l.length)).toArray
  | [], k, z, h => by simp
  | x :: l, k, z, h => by
    simp only [List.zipIdx_cons, List.foldl_cons, Nat.zero_add, List.setIfInBounds_toArray]
    have h2 := fold_fill l (k + 1) (z.set k x) (by simp at h ⊢; omega)
    simp only [Nat.zero_add] at h2
    rw [h2]
    congr 1
    have hk : k < z.length := by simp at h; omega
    rw [List.take_add_one, List.take_set_of_le (Nat.le_refl _), List.getElem?_set_self hk]
    have h3 : (z.set k x).drop (k + 1 + l.length) = z.drop (k + (x :: l).length) := by
      rw [List.drop_set_of_lt (by omega)]
      congr 1
      simp; omega
    rw [h3]
    simp
theorem places_fr : (match Tryd.prog.underlying 47 with | some (.struct fs) => fs.toList.mapM (fun f => (Tryd.prog.info? f.type).map fun i => (f.offset, i.size)) | _ => none) = some [(0, 256), (256, 1)] := by kernel_rfl
theorem built_fr (c : Array Value) (hc : c.size = 256) : Tryd.prog.built 47 [(0, .agg c)] = some (c.push (.slice none 0 0)) := by
  have hp := places_fr
  cases hi : Tryd.prog.info? 47 with
  | none => have := info_fr; rw [hi] at this; cases this
  | some it =>
    have h1 := info_fr
    rw [hi] at h1
    simp only [Option.map_some, Option.some.injEq, Prod.mk.injEq] at h1
    cases hu : Tryd.prog.underlying 47 with
    | none => rw [hu] at hp; cases hp
    | some d =>
      rw [hu] at hp
      cases d <;> try (cases hp; done)
      case struct fs =>
        simp only [] at hp
        unfold Program.built
        rw [hi, hu]
        simp only []
        rw [h1.1, hp]
        simp only []
        show Instr.fill _ ((Array.replicate 256 (.int .u32 0)).push (.slice none 0 0)) [(0, .agg c)] = _
        unfold Instr.fill
        have hv : (Value.agg c).cells = c := rfl
        simp only [List.getElem?_toArray, List.getElem?_cons_zero, hv, hc]
        have hz : ((Array.replicate 256 (Value.int .u32 0)).push (.slice none 0 0)).size = 257 := by simp
        rw [if_neg (by simp [hz])]
        unfold Instr.fill
        congr 1
        have h3 := fold_fill c.toList 0 ((Array.replicate 256 (Value.int .u32 0)).push (.slice none 0 0)).toList (by simp [hc])
        rw [← Array.foldl_toList, Array.toList_zipIdx]
        have h4 : ((Array.replicate 256 (Value.int .u32 0)).push (.slice none 0 0)).toList.toArray = (Array.replicate 256 (Value.int .u32 0)).push (.slice none 0 0) := Array.toArray_toList
        rw [h4] at h3
        refine Eq.trans h3 ?_
        have h5 : ((Array.replicate 256 (Value.int .u32 0)).push (.slice none 0 0)).toList.drop (0 + c.toList.length) = [.slice none 0 0] := by
          simp [hc]
        rw [h5]
        apply Array.ext'
        simp
theorem wpList_enter {ops : Array Oper} {rest : List Oper} {o : Oper} {a : Act} {w : World} {Q : Exit → Act → World → Prop} (hgd : o.guard = none) (F : FuncId) (vals : Array Value) (hrun : (execOp a.eval o).run Tryd.prog w = .ok (.enter F vals) w)
    (h : Calls Tryd.prog F vals w fun e w' => match e with | .returned v => wpList Tryd.prog ops Q rest (a.put o.dst v) w' | .panicked chain => Q (.panic chain) a w' | .outgrown => False) : wpList Tryd.prog ops Q (o :: rest) a w := by
  refine wpList_plain hgd fun K hK => ?_
  unfold Oper.wp
  rw [hrun, Oper.upon_enter]
  refine h.mono ?_
  intro e w' he
  cases e with
  | returned v => exact hK _ _ he
  | panicked chain => exact he
  | outgrown => exact he.elim
theorem wpList_build_of {ops : Array Oper} {rest : List Oper} {o : Oper} {a : Act} {w : World} {Q : Exit → Act → World → Prop} (hg : o.guard = none) (t : TypeId) (parts : Array (Nat × Operand)) (ho : o.op = .build t parts) (cells : Array Value)
    (hb : Tryd.prog.built t (parts.map fun (i, x) => (i, a.eval x)).toList = some cells) (h : wpList Tryd.prog ops Q rest (a.put o.dst (.agg cells)) w) : wpList Tryd.prog ops Q (o :: rest) a w := by
  refine wpList_build hg t parts ho (by rw [hb]; rfl) ?_
  rw [hb]
  exact h
def OpP (f : FileAt) (w : World) (r : Int × List Blk) (e : Ending) (w' : World) : Prop :=
  Below w.heap.size w w' ∧ ((r.1 = 0 ∧ ∃ g cp, e = .returned (.agg (fileR (.slice (some ⟨g, 0, none⟩) r.2.length cp))) ∧ OwnF f w' w.heap.size g cp r.2) ∨ (r.1 ≠ 0 ∧ e = Corr r.1))

set_option maxHeartbeats 8000000 in
theorem openFile_core (f : FileAt) (w : World) (hE : BysAt w f.b f.off f.xs) (hb : f.b < w.heap.size) (hl : f.xs.length ≤ 2 ^ 29) (hcap : f.xs.length ≤ f.cap) (hcm : f.cap ≤ maxLen) :
    Calls Tryd.prog 13 #[.slice (some ⟨f.b, f.off, none⟩) f.xs.length f.cap] w fun e w' => OpP f w (idxM f.xs) e w' := by
  obtain ⟨R, hR⟩ : ∃ R, R = idxM f.xs := ⟨_, rfl⟩
  rw [← hR]
  have HRR : Hid (R = idxM f.xs) := hR
  have HN : Hid (f.b < w.heap.size ∧ f.xs.length ≤ 2 ^ 29 ∧ f.xs.length ≤ f.cap ∧ f.cap ≤ maxLen) := ⟨hb, hl, hcap, hcm⟩
  obtain ⟨n, hn⟩ : ∃ n, n = f.xs.length := ⟨_, rfl⟩
  have HNn : Hid (n = f.xs.length) := hn
  have hzv := (zero_of_info info_fr).1
  obtain ⟨W, hW⟩ : ∃ W : World, W = w.alloc (Obj.cells ((Array.replicate 256 (.int .u32 0)).push (.slice none 0 0)) 47) := ⟨_, rfl⟩
  have HW : Hid (Below w.heap.size w W ∧ W.heap[w.heap.size]? = some (.cells ((Array.replicate 256 (.int .u32 0)).push (.slice none 0 0)) 47 (0, 0))) := by
    rw [hW]; exact ⟨(Below.refl _ _).alloc (Nat.le_refl _) _, heap_alloc_last w _⟩
  have HX : Hid (BysAt W f.b f.off f.xs) := hE.below HW.out.1 hb
  rw [← hn]
  have hl2 : n ≤ 536870912 := by omega
  have hc2 : n ≤ f.cap := by omega
  clear hE hb hl hcap hcm hR hn
  go_enter Tryd.func13, Tryd.ntmps13
  go_upto_region 1 with fail
  rw [← hW]
  clear hW hzv
  by_cases h13 : 13 ≤ n
  case neg =>
    have HR2 : Hid (R = (1, [])) := by
      show R = _
      rw [HRR.out]; unfold idxM; rw [if_pos (.inl (by rw [← HNn.out]; omega))]
    have z1 : ¬ (13 : Int) ≤ (n : Int) := by omega
    go_wp2_with fail
    refine (demand_core _ _ _).mono ?_
    rintro e w7 ⟨rfl, (⟨hc, rfl⟩ | ⟨hc, rfl⟩)⟩
    · exfalso
      simp at hc <;> omega
    · exact ⟨rfl, HW.out.1, .inr ⟨by rw [HR2.out]; simp, by rw [HR2.out]⟩⟩
  have z1 : (13 : Int) ≤ (n : Int) := by omega
  have z4 : (4 : Int) ≤ (f.cap : Int) := by omega
  have hcv := Lib.run_convert_window (P := Tryd.prog) W 22 5 9 Tryd.underlying22 Tryd.underlying5 Tryd.underlying9 f.b f.off ⟨f.xs.toArray⟩ (bytes_of_bys HX.out) 0 4 f.cap (by show 0 + 4 ≤ f.xs.toArray.size; simp; have := HNn.out; omega)
  obtain ⟨hs, hhs⟩ : ∃ hs : ByteArray, hs = (⟨f.xs.toArray⟩ : ByteArray).extract 0 (0 + 4) := ⟨_, rfl⟩
  have HHs : Hid (bl hs = f.xs.take 4) := by
    show bl hs = _
    rw [hhs]
    show ((⟨f.xs.toArray⟩ : ByteArray).extract 0 (0 + 4)).data.toList = _
    rw [Lib.extract_data]
    rfl
  rw [← hhs, Nat.add_zero] at hcv
  clear hhs
  go_wp2_with fail
  refine (demand_core _ _ _).mono ?_
  rintro e w7 ⟨hw7, (⟨hc, rfl⟩ | ⟨hc, rfl⟩)⟩
  case inr =>
    have hq : f.xs.take 4 ≠ headB := by
      intro q
      rw [← HHs.out] at q
      have h1 : hs = ⟨#[82, 85, 78, 49]⟩ := bytes_inj q
      rw [h1, hd_list] at hc
      exact absurd hc (by decide)
    have HR2 : Hid (R = (1, [])) := by
      show R = _
      rw [HRR.out]; unfold idxM; rw [if_pos (.inr hq)]
    rw [hw7]
    exact ⟨rfl, HW.out.1, .inr ⟨by rw [HR2.out]; simp, by rw [HR2.out]⟩⟩
  have HH : Hid (¬ (f.xs.length < 13 ∨ f.xs.take 4 ≠ headB)) := by
    rintro (q | q)
    · rw [← HNn.out] at q; omega
    · apply q
      have h1 : hs.toList = (⟨#[82, 85, 78, 49]⟩ : ByteArray).toList := by rw [hd_list]; simpa using hc
      rw [← HHs.out, toList_inj h1]
      rfl
  rw [hw7]
  clear hc hw7 hcv HHs z4
  -- where the index begins
  obtain ⟨m, hm⟩ : ∃ m, m = fixAt f.xs (n - 4) := ⟨_, rfl⟩
  have hm32 : m < 4294967296 := by rw [hm]; exact fixAt_lt _ _
  have HM : Hid (m = fixAt f.xs (n - 4)) := hm
  have HFx : Hid (∀ w', Below W.heap.size W w' → Calls Tryd.prog 27 #[.slice (some ⟨f.b, f.off + (n - 4), none⟩) (n - (n - 4)) (f.cap - (n - 4))] w' fun e w'' => e = .returned (.int .u32 (m : Int)) ∧ Below w'.heap.size w' w'') := fun w' hb' => by
    have hlt : f.b < W.heap.size := by have := HN.out.1; have := HW.out.1.size; omega
    have h1 := fixedOf_core f.b (f.off + (n - 4)) (f.cap - (n - 4)) (f.xs.drop (n - 4)) w' ((HX.out.below hb' hlt).drop (n - 4)) (by rw [List.length_drop, ← HNn.out]; omega) (by rw [List.length_drop, ← HNn.out]; omega)
    have h2 : (f.xs.drop (n - 4)).length = n - (n - 4) := by rw [List.length_drop, ← HNn.out]
    rw [h2, fixAt_drop, ← HM.out] at h1
    exact h1
  clear hm
  go_wp2_with fail
  refine (HFx.out W (Below.refl _ _)).mono ?_
  rintro e w1 ⟨rfl, hb1⟩
  have HB1 : Hid (Below W.heap.size W w1) := hb1
  clear hb1 HFx
  go_wp2_with fail
  refine (demand_core _ _ _).mono ?_
  rintro e w7 ⟨hw7, (⟨hc, rfl⟩ | ⟨hc, rfl⟩)⟩
  case inr =>
    have hlt : f.xs.length < fixAt f.xs (f.xs.length - 4) + 12 := by
      rw [← HNn.out, ← HM.out]
      have := of_decide_eq_false hc
      omega
    have HR2 : Hid (R = (1, [])) := by
      show R = _
      rw [HRR.out]; unfold idxM; rw [if_neg HH.out, if_pos hlt]
    rw [hw7]
    exact ⟨rfl, HW.out.1.trans (HB1.out.mono HW.out.1.size), .inr ⟨by rw [HR2.out]; simp, by rw [HR2.out]⟩⟩
  have h12 : m + 12 ≤ n := by have := of_decide_eq_true hc; omega
  rw [hw7]
  clear hc hw7
  obtain ⟨lim, hlim⟩ : ∃ lim, lim = n - 8 - m := ⟨_, rfl⟩
  obtain ⟨sm, hsm⟩ : ∃ sm, sm = n - 8 := ⟨_, rfl⟩
  have e1 : (n : Int) - 8 - (m : Int) = (lim : Int) := by omega
  have e2 : (n : Int) - 8 = (sm : Int) := by omega
  rw [e1, e2]
  have HL : Hid (lim = n - 8 - m ∧ sm = n - 8) := ⟨hlim, hsm⟩
  have hA : 4 ≤ lim ∧ lim + m = sm ∧ sm + 8 = n := by omega
  have HA : Hid (4 ≤ lim ∧ lim + m = sm ∧ sm + 8 = n) := hA
  clear hlim hsm e1 e2
  have hk1 : lim ≤ sm := by omega
  have hk2 : sm ≤ f.cap := by omega
  clear hA h12
  go_upto_region 5 with fail
  apply wp_region_list
  refine wpList_enter rfl 28 #[] (by simp [execOp, go_sem, Tryd.func28]) ?_
  refine (makeTable_core _).mono ?_
  rintro e w2 ⟨rfl, hb2⟩
  simp only [Act.put, List.setIfInBounds_toArray, List.set_cons_succ, List.set_cons_zero]
  refine wpList_build_of rfl _ _ rfl (fileR (.slice none 0 0)) (by simp [Act.eval]; exact built_fr _ (tabA_size 256)) ?_
  simp only [Act.put, List.setIfInBounds_toArray, List.set_cons_succ, List.set_cons_zero]
  have hzv := (zero_of_info info_fr).1
  have hsz := fileR_size (.slice none 0 0)
  have hsc := run_storeCells_new (P := Tryd.prog) w2 47 ((Array.replicate 256 (.int .u32 0)).push (.slice none 0 0)) (fileR (.slice none 0 0)) (by rw [fileR_size]; exact (zero_of_info info_fr).2) (by rw [fileR_size]; simp) (fileR_one _ rfl)
  have hk3 : ¬ f.cap = lim := by have := HA.out; omega
  have hk4 : lim ≤ f.cap := by omega
  go_wp2_with fail
  have hb3 : Below w.heap.size w (w2.alloc (.cells (fileR (.slice none 0 0)) 47)) := by
    have h1 := (HW.out.1.trans (HB1.out.mono HW.out.1.size)).trans (hb2.mono (Nat.le_trans HW.out.1.size HB1.out.size))
    exact h1.alloc h1.size _
  obtain ⟨W3, hW3⟩ : ∃ W3 : World, W3 = w2.alloc (.cells (fileR (.slice none 0 0)) 47) := ⟨_, rfl⟩
  have HW3 : Hid (Below w.heap.size w W3 ∧ W3.heap[w2.heap.size]? = some (.cells (fileR (.slice none 0 0)) 47 (0, 0)) ∧ Below W.heap.size W W3 ∧ w.heap.size < w2.heap.size ∧ W3.heap[w.heap.size]? = some (.cells ((Array.replicate 256 (.int .u32 0)).push (.slice none 0 0)) 47 (0, 0))) := by
    rw [hW3]
    have hs1 := HB1.out.size
    have hs2 := hb2.size
    have hs0 := HW.out.2
    have hs9 : w.heap.size < W.heap.size := (Array.getElem?_eq_some_iff.1 hs0).1
    have hbb : Below W.heap.size W (w2.alloc (.cells (fileR (.slice none 0 0)) 47)) := (HB1.out.trans (hb2.mono hs1)).alloc (by omega) _
    exact ⟨hb3, heap_alloc_last w2 _, hbb, by omega, (hbb.block _ hs9).trans hs0⟩
  rw [← hW3]
  clear hzv hsz hsc hb3 hW3 hb2
  have HT : Hid (TabAt W3 w2.heap.size 0) := by
    intro i hi
    rw [Nat.zero_add, cell_of_row _ _ i _ _ _ HW3.out.2.1]
    exact fileR_tab _ i hi
  obtain ⟨cx, hcx⟩ : ∃ cx, cx = (crc (span f.xs lim sm)).toNat := ⟨_, rfl⟩
  obtain ⟨fx, hfx⟩ : ∃ fx, fx = fixAt f.xs sm := ⟨_, rfl⟩
  have HCrc : Hid (∀ u : Out W3, Calls Tryd.prog 29 #[.pointer (some ⟨w2.heap.size, 0, none⟩), .slice (some ⟨f.b, f.off + lim, none⟩) (sm - lim) (f.cap - lim)] u.u fun e w' => e = .returned (.int .u32 (cx : Int)) ∧ Below u.u.heap.size u.u w') := fun u => by
    have hN := HN.out
    have hA := HA.out
    have hz := HW3.out.1.size
    have hlt := (Array.getElem?_eq_some_iff.1 HW3.out.2.1).1
    have hl := span_len (xs := f.xs) (p := lim) (lim := sm) (by rw [← HNn.out]; omega)
    have h1 := tableOf_core w2.heap.size 0 f.b (f.off + lim) (f.cap - lim) (span f.xs lim sm) u.u (HT.out.below u.out hlt) ((((HX.out.below HW3.out.2.2.1 (by have := HW.out.1.size; omega)).below u.out (by omega)).drop lim).take (sm - lim)) (by rw [hl]; unfold maxLen; omega)
    rw [hl, ← hcx] at h1
    exact h1.mono fun e w' ⟨he, hw⟩ => ⟨he, hw ▸ Below.refl _ _⟩
  have HFix : Hid (∀ u : Out W3, Calls Tryd.prog 27 #[.slice (some ⟨f.b, f.off + sm, none⟩) (n - sm) (f.cap - sm)] u.u fun e w' => e = .returned (.int .u32 (fx : Int)) ∧ Below u.u.heap.size u.u w') := fun u => by
    have hN := HN.out
    have hA := HA.out
    have hz := HW3.out.1.size
    have h2 : (f.xs.drop sm).length = n - sm := by rw [List.length_drop, ← HNn.out]
    have h1 := fixedOf_core f.b (f.off + sm) (f.cap - sm) (f.xs.drop sm) u.u (((HX.out.below HW3.out.2.2.1 (by have := HW.out.1.size; omega)).below u.out (by omega)).drop sm) (by rw [h2]; omega) (by rw [h2]; omega)
    rw [h2, fixAt_drop, ← hfx] at h1
    exact h1
  have HCx : Hid (R = if cx ≠ fx then (2, []) else idxBody f.xs.length lim ((f.xs.drop lim).take m)) := by
    have hA := HA.out
    have h12 : ¬ f.xs.length < fixAt f.xs (f.xs.length - 4) + 12 := by rw [← HNn.out, ← HM.out]; omega
    have el : f.xs.length - 8 - fixAt f.xs (f.xs.length - 4) = lim := by rw [← HNn.out, ← HM.out, HL.out.1]
    have es : f.xs.length - 8 = sm := by rw [← HNn.out, HL.out.2]
    have em : fixAt f.xs (f.xs.length - 4) = m := by rw [← HNn.out, ← HM.out]
    have ep : (f.xs.drop lim).take m = span f.xs lim sm := by unfold span; congr 1; omega
    show R = _
    rw [HRR.out]; unfold idxM; rw [if_neg HH.out, if_neg h12, em, show f.xs.length - 8 - m = lim by rw [← em, el], es, ep, hcx, hfx]
  clear hcx hfx
  have zsm : (sm : Int) ≤ (n : Int) := by have := HA.out; omega
  have hk5 : ¬ f.cap = sm := by have := HA.out; omega
  by_cases hce : cx = fx
  case neg =>
    have HR2 : Hid (R = (2, [])) := by
      show R = _
      rw [HCx.out, if_pos hce]
    have z9 : ¬ (cx : Int) = (fx : Int) := by omega
    refine wp_region_demand 46 45 (.const (.int .i64 2)) 2 [(45, .bool false)] rfl (fun m => by kernel_rfl) (by kernel_rfl) (fun a' h => ⟨h (45, _) (by simp), rfl⟩) ?q ?_
    case q => exact fun a' w' hb hd => ⟨hd, HW3.out.1.trans (hb.mono HW3.out.1.size), .inr ⟨by rw [HR2.out]; simp, by rw [HR2.out]⟩⟩
    intro m
    dsimp only [List.dropLast, fk, List.cons_append, List.nil_append]
    repeat (go_big_quiet_step ((first | rfl | (go_at_call 29; exact Calls.out_of (HCrc.out _)) | (go_at_call 27; exact Calls.out_of (HFix.out _)))))
    refine wpQuiet_nil ?_
    exact ⟨rfl, slots1 (congrArg Value.bool (beq_eq_false_iff_ne.2 z9))⟩
  subst hce
  have HI0 : Hid (R = idxBody f.xs.length lim ((f.xs.drop lim).take m)) := by
    show R = _
    rw [HCx.out, if_neg (fun q => q rfl)]
  refine wp_region_out (by kernel_rfl) (by kernel_rfl) ?_
  repeat (go_big_quiet_step ((first | rfl | (go_at_call 29; exact Calls.out_of (HCrc.out _)) | (go_at_call 27; exact Calls.out_of (HFix.out _)) | (go_at_call 26; exact Calls.out_of ((demand_yes _ _).mono fun e w' ⟨he, hw⟩ => ⟨he, hw ▸ Below.refl _ _⟩)))))
  refine wpQuiet_nil ?_
  rintro w4 ⟨⟨wx, hb4⟩, rfl⟩
  have hg2 := (Array.getElem?_eq_some_iff.1 HW3.out.2.1).1
  have HW4 : Hid (Below w.heap.size w w4 ∧ w4.heap[w2.heap.size]? = some (.cells (fileR (.slice none 0 0)) 47 (0, 0)) ∧ w4.heap[w.heap.size]? = some (.cells ((Array.replicate 256 (.int .u32 0)).push (.slice none 0 0)) 47 (0, 0)) ∧ BysAt w4 f.b f.off f.xs) := by
    have hN := HN.out.1
    have hz := HW3.out.1.size
    refine ⟨HW3.out.1.trans (hb4.mono HW3.out.1.size), (hb4.block _ hg2).trans HW3.out.2.1, (hb4.block _ (by have := HW3.out.2.2.2.1; omega)).trans HW3.out.2.2.2.2, (HX.out.below HW3.out.2.2.1 (by have := HW.out.1.size; omega)).below hb4 (by omega)⟩
  have HNe : Hid (w.heap.size < w2.heap.size) := HW3.out.2.2.2.1
  clear hb4 hg2 HCrc HFix HT HCx HW3 HX HW HB1
  go_upto_region 8 with fail
  have hrb := readBlocks_core f lim m (f.cap - lim) w4 HW4.out.2.2.2 (by have := HN.out.1; have := HW4.out.1.size; omega) HN.out.2.1 HA.out.1 (by rw [← HNn.out]; have := HA.out; omega) HN.out.2.2.1 HN.out.2.2.2 rfl
  rw [← HI0.out] at hrb
  have hm2 : sm - lim = m := by have := HA.out; omega
  rw [← hm2] at hrb
  have HRb : Hid (Calls Tryd.prog 30 #[.slice (some ⟨f.b, f.off + lim, none⟩) (sm - lim) (f.cap - lim), .slice (some ⟨f.b, f.off + 4, none⟩) (lim - 4) (f.cap - 4)] w4 fun e w' => RbP f w4 R e w') := hrb
  have z4a : (4 : Int) ≤ (lim : Int) := by have := HA.out; omega
  have z4b : ¬ f.cap = 4 := by have := HA.out; omega
  clear hrb hm2
  go_wp2_with fail
  refine HRb.out.mono ?_
  rintro e w5 ⟨hb5, (⟨hR0, g, cp, rfl, hO5⟩ | ⟨hR0, rfl⟩)⟩
  case inr => exact ⟨rfl, HW4.out.1.trans (hb5.mono HW4.out.1.size), .inr ⟨hR0, rfl⟩⟩
  have hgz := (Array.getElem?_eq_some_iff.1 HW4.out.2.1).1
  have hgw := (Array.getElem?_eq_some_iff.1 HW4.out.2.2.1).1
  have HW5 : Hid (Below w.heap.size w w5 ∧ w5.heap[w2.heap.size]? = some (.cells (fileR (.slice none 0 0)) 47 (0, 0)) ∧ w5.heap[w.heap.size]? = some (.cells ((Array.replicate 256 (.int .u32 0)).push (.slice none 0 0)) 47 (0, 0)) ∧ OwnF f w5 w.heap.size g cp R.2 ∧ R.1 = 0 ∧ w2.heap.size < g) := by
    have hg := hO5.lt
    exact ⟨HW4.out.1.trans (hb5.mono HW4.out.1.size), (hb5.block _ hgz).trans HW4.out.2.1, (hb5.block _ hgw).trans HW4.out.2.2.1, hO5.mono HW4.out.1.size, hR0, by omega⟩
  have c0 : w5.cell? ⟨w2.heap.size, 256, none⟩ = some (.slice none 0 0) := by
    rw [cell_of_row _ _ 256 _ _ _ HW5.out.2.1]; exact fileR_last _
  have f0 : w5.frozen? ⟨w2.heap.size, 256, none⟩ = false := by
    simp [World.frozen?, HW5.out.2.1]
  clear hb5 hO5 hR0 hgz hgw HRb HW4
  obtain ⟨sv, hsv⟩ : ∃ sv : Value, sv = .slice (some ⟨g, 0, none⟩) R.2.length cp := ⟨_, rfl⟩
  obtain ⟨W6, hW6⟩ : ∃ W6 : World, W6 = w5.setCell ⟨w2.heap.size, 256, none⟩ (.slice (some ⟨g, 0, none⟩) R.2.length cp) := ⟨_, rfl⟩
  have hne : w.heap.size ≠ w2.heap.size := by have := HNe.out; omega
  have hw6 : W6.heap[w2.heap.size]? = some (.cells (fileR sv) 47 (0, 0)) := by
    rw [hW6, heap_setCell_same _ _ _ _ _ _ HW5.out.2.1, hsv]
    rw [fileR_set]
  have hw6r : W6.heap[w.heap.size]? = some (.cells ((Array.replicate 256 (.int .u32 0)).push (.slice none 0 0)) 47 (0, 0)) := by
    rw [hW6, heap_setCell_other _ _ _ _ hne]; exact HW5.out.2.2.1
  have hb6 : Below w.heap.size w W6 := by rw [hW6]; exact HW5.out.1.setCell (p := ⟨w2.heap.size, 256, none⟩) (Nat.le_of_lt HNe.out) _
  have hO6 : OwnF f W6 w.heap.size g cp R.2 := by
    rw [hW6]
    exact HW5.out.2.2.2.1.chg (Chg.of_set w5 w2.heap.size 256 _ (S := fun k => k = w2.heap.size) rfl) (by have := HW5.out.2.2.2.2.2; omega)
  have hi : (Tryd.prog.info? 47).map (·.size) = some 257 := (zero_of_info info_fr).2
  have hon : (fileR sv).all (·.oneCell') = true := fileR_one _ (by rw [hsv]; rfl)
  have HR0 : Hid (R.1 = 0) := HW5.out.2.2.2.2.1
  have HGg : Hid (w.heap.size < g) := Nat.lt_trans HNe.out HW5.out.2.2.2.2.2
  go_upto_region 9 with fail
  rw [← hW6]
  clear hW6 c0 f0 HW5
  apply wp_region_list
  refine wpList_load_row rfl 47 _ rfl w2.heap.size rfl 47 (fileR sv) (0, 0) _ hw6 Tryd.underlying47 rfl (by rw [fileR_size]; exact hi) ?_
  refine wpList_store_row rfl 47 _ _ rfl w.heap.size (fileR sv) rfl rfl 47 ((Array.replicate 256 (.int .u32 0)).push (.slice none 0 0)) hw6r (by rw [fileR_size]; exact hi) (by rw [fileR_size]; simp) hon ?_
  have hr := setRow_heap _ _ _ (fileR sv) _ _ hw6r
  have hb7 := Below.setRow hb6 (Nat.le_refl _) (fileR sv)
  have hO7 : OwnF f (W6.setRow w.heap.size (fileR sv)) w.heap.size g cp R.2 := by
    have hgn : ¬ g = w.heap.size := by have := HGg.out; omega
    exact hO6.chg (S := fun k => k = w.heap.size) ⟨rfl, rfl, rfl, by simp, fun k hk hn => setRow_other _ _ _ _ hn⟩ hgn
  obtain ⟨W7, hW7⟩ : ∃ W7, W7 = W6.setRow w.heap.size (fileR sv) := ⟨_, rfl⟩
  rw [← hW7] at hb7 hO7 hr ⊢
  clear hW7 hw6 hw6r hb6 hO6
  apply wpList_nil
  go_wp2_with fail
  refine bodyPost_ret (v := .agg (fileR sv)) (results_cell_row rfl _ _ w.heap.size _ _ _ _ rfl hr Tryd.underlying47 rfl (by rw [fileR_size]; exact hi)) rfl ⟨hb7, .inl ⟨HR0.out, g, cp, by rw [hsv], hO7⟩⟩
end Go.Proofs.YtnncedndlhfdkabDoor

/-
  spec.DecodeRun.
-/
namespace Go.Proofs.YtnncedndlhfdkabDoor
open Go.ChangeShapes Go.WideShapes Go.ChangeAt Go.RowKit Go.Deep
set_option linter.unusedVariables false
set_option linter.unusedSimpArgs false
set_option maxRecDepth 100000

/-- Blocks read so far. -/
theorem decBlks_more {xs : List UInt8} : ∀ (l k : List Blk), (decBlks xs l).1 = 0 → decBlks xs (l ++ k) = if (decBlks xs k).1 ≠ 0 then ((decBlks xs k).1, []) else (0, (decBlks xs l).2 ++ (decBlks xs k).2)
  | [], k, _ => by
    simp only [List.nil_append, decBlks]
    by_cases h : (decBlks xs k).1 = 0
    · rw [if_neg (fun q => q h)]
      have : decBlks xs k = ((decBlks xs k).1, (decBlks xs k).2) := rfl
      rw [this, h]
    · rw [if_pos h]
      cases k with
      | nil => simp [decBlks] at h
      | cons b bs =>
        rw [decBlks] at h ⊢
        split
        · rfl
        · next h1 =>
          rw [if_neg h1] at h
          split
          · rfl
          · next h2 => rw [if_neg h2] at h; exact absurd rfl h
  | b :: l, k, h => by
    rw [List.cons_append, decBlks]
    rw [decBlks] at h
    by_cases h1 : (blkM xs b).1 = 0
    · rw [if_neg (fun q => q h1)] at h ⊢
      by_cases h2 : (decBlks xs l).1 = 0
      · have ih := decBlks_more l k h2
        by_cases h3 : (decBlks xs k).1 = 0
        · rw [if_neg (fun q => q h3)] at ih
          rw [ih]
          simp [decBlks, h1, h2, h3]
        · rw [if_pos h3] at ih
          rw [ih]
          simp [h3]
      · rw [if_pos h2] at h
        exact absurd h h2
    · rw [if_pos h1] at h
      exact absurd h h1
theorem decBlks_one {xs : List UInt8} (b : Blk) : decBlks xs [b] = if (blkM xs b).1 ≠ 0 then ((blkM xs b).1, []) else (0, (blkM xs b).2) := by
  simp [decBlks]

theorem idx_many {xs : List UInt8} {err : Int} {bs : List Blk} (h : (err, bs) = idxM xs) : bs.length ≤ 10000 := by
  have h2 : bs = (idxM xs).2 := by rw [← h]
  rw [h2]
  unfold idxM
  split
  · simp
  split
  · simp
  split
  · simp
  unfold idxBody
  split
  · simp
  · split
    · simp
    · unfold idxEnd
      split
      · simp
      · next heq =>
        split
        · simp
        · have := (getBlks_in _ _ _ _ _ _ heq (Nat.le_refl _)).2
          simp only []
          omega
theorem getEnts_many : ∀ (k : Nat) (b t : List UInt8) (l : List Ent) (t1 : List UInt8), getEnts k b t = some (l, t1) → l.length = k
  | 0, b, t, l, t1, h => by
    simp only [getEnts, Option.some.injEq, Prod.mk.injEq] at h
    rw [← h.1]; rfl
  | k + 1, b, t, l, t1, h => by
    rw [getEnts] at h
    cases ho : getEnt b t with
    | none => rw [ho] at h; cases h
    | some q =>
      obtain ⟨e, t2⟩ := q
      rw [ho] at h
      simp only [] at h
      cases hg : getEnts k (bl e.row) t2 with
      | none => rw [hg] at h; cases h
      | some q =>
        obtain ⟨l', t3⟩ := q
        rw [hg] at h
        simp only [Option.some.injEq, Prod.mk.injEq] at h
        rw [← h.1, List.length_cons, getEnts_many k _ _ _ _ hg]
theorem blk_many {xs : List UInt8} {err : Int} {es : List Ent} {k : Blk} {n : Nat} (h : (err, es) = blkM xs k) (hk : k.in n) : es.length ≤ 1000 := by
  have h2 : es = (blkM xs k).2 := by rw [← h]
  rw [h2]
  unfold blkM
  split
  · simp
  · unfold entEnd
    split
    · simp
    · next heq =>
      split
      · simp
      · have := getEnts_many _ _ _ _ _ heq
        have := hk.2.2.2.2
        simp only []
        omega
/-- What DecodeRun hands back. -/
def DecPost (w : World) (xs : List UInt8) (r : Ending) (w' : World) : Prop :=
  ∃ (err : Int) (u : Value) (es : List Ent), r = .returned (.agg #[.int .i64 err, u]) ∧ (err, es) = decM xs ∧ OwnU w' w.heap.size u es ∧ (∀ e ∈ es, e.ok) ∧ Below w.heap.size w w'

end Go.Proofs.YtnncedndlhfdkabDoor

