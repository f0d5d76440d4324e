import Derived.Deep.DeepCutAuto
import Derived.Deep.RegionWith
import Derived.OwnWalk
import Derived.Deep.RegionHeld3
import Derived.Test.YtlgeffinhbodeaeGreatDoorTie
import Derived.Test.YtlgeffinhbodeaeGreatDoorCards
import Derived.BigQuiet
import Derived.ChangeSame
import Derived.ChangeVars
import Derived.JoinedOf
import Derived.LaidLaws
import Derived.LaidHandle
import Derived.Stop.Joined
import Derived.SevenTiedAt
import Derived.Test.YtlgeffinhbodeaeGreatDoorPkAM
import Derived.Test.YtlgeffinhbodeaeGreatDoorPkAB
import Derived.Test.YtlgeffinhbodeaeGreatDoorPkAA
import Derived.Test.YtlgeffinhbodeaeGreatDoorPkAC
import Derived.Test.YtlgeffinhbodeaeGreatDoorPkAD
import Derived.Test.YtlgeffinhbodeaeGreatDoorPkAG
import Derived.Test.YtlgeffinhbodeaeGreatDoorPkAJ
/-
  The drawing's bytes, as they came in; runs of a drawing as runs in memory.
-/
namespace Go.Proofs.YtlgeffinhbodeaeGreatDoor
open Go.ChangeShapes Go.WideShapes Go.ChangeAt Go.RowKit Go.Deep
set_option linter.unusedVariables false
set_option linter.unusedSimpArgs false
set_option maxRecDepth 100000

def BytesIn (w : World) (v : Value) (n : Nat) : Prop :=
  n ≤ maxLen ∧ ((∃ a cap, v = .slice a 0 cap ∧ n = 0) ∨ ∃ b off cap, v = .slice (some ⟨b, off, none⟩) n cap ∧ b < w.heap.size ∧ ∀ k, k < n → ∃ x : Int, w.cell? ⟨b, off + k, none⟩ = some (.int .u8 x) ∧ 0 ≤ x ∧ x < 256)
theorem BytesIn.slice {w : World} {v : Value} {n : Nat} (h : BytesIn w v n) : ∃ a cap, v = .slice a n cap := by
  rcases h.2 with ⟨a, cap, rfl, rfl⟩ | ⟨b, off, cap, rfl, _⟩
  · exact ⟨_, _, rfl⟩
  · exact ⟨_, _, rfl⟩
theorem BytesIn.code {w : World} {v : Value} {n : Nat} (h : BytesIn w v n) (hn : n ≤ 1048576) : CodeAt w w.heap.size v n := ⟨hn, h.2⟩
theorem bytes_of_trod {H : Type} {enc : TypeId × Value → H} {w : World} {fuel : Nat} {v : Value} {x : DataW H × List MemPlace}
    (h : DataW.trod enc Tryz.prog w 0 (fun _ => true) true fuel 22 [v] = some x) (hlt : ∀ p ∈ x.2, p.block < w.heap.size) : ∃ n, BytesIn w v n := by
  have hc : Tryz.prog.cellsOf 5 = 1 := by kernel_rfl
  rcases open_ints Tryz.underlying22 Tryz.underlying5 hc h with ⟨hcs, hx⟩ | ⟨a, len, cap, zs, hcs, _, hl, hm, hz, hx, hcell, hwz⟩
  · simp only [List.cons.injEq, and_true] at hcs
    exact ⟨0, Nat.zero_le _, .inl ⟨none, 0, hcs, rfl⟩⟩
  · simp only [List.cons.injEq, and_true] at hcs
    simp only [if_true] at hz
    refine ⟨len, Nat.le_trans hl hm, ?_⟩
    by_cases h0 : len = 0
    · subst h0; exact .inl ⟨some a, cap, hcs, rfl⟩
    · obtain ⟨ab, ao, spot⟩ := a
      have hspot : spot = none := by simpa [Addr.add] using World.cell?_spot (hcell 0 (by omega))
      subst hspot
      refine .inr ⟨ab, ao, cap, hcs, ?_, fun k hk => ?_⟩
      · rw [hx] at hlt
        exact hlt (.cell ab (ao + 0)) (by simp only [MemPlace.row, List.mem_map, List.mem_range]; exact ⟨0, by omega, rfl⟩)
      · have h1 := hcell k (by omega)
        rw [Addr.add_lit] at h1
        have hb := range_u8 hwz k
        rw [List.getD_eq_getElem?_getD] at h1
        exact ⟨_, h1, hb.1, by omega⟩
theorem DrawnM.at {w : World} {g cp : Nat} {l : List Rm} {w' : World} (h : DrawnM w g cp l w') : RmsAt w' g 0 l := by
  intro i r hr
  rw [Nat.zero_add]
  exact ⟨h.row.cell hr, (h.ats r (List.mem_of_getElem? hr)).at_⟩
theorem DrawnM.ok {w : World} {g cp : Nat} {l : List Rm} {w' : World} (h : DrawnM w g cp l w') : okM l := fun r hr e he => ((h.ats r hr).ok e he).ok
theorem DrawnM.short {w : World} {g cp : Nat} {l : List Rm} {w' : World} (h : DrawnM w g cp l w') : ∀ es ∈ esM l, es.length ≤ 101 := by
  intro es he
  obtain ⟨r, hr, rfl⟩ := List.mem_map.1 he
  exact (h.ats r hr).len
end Go.Proofs.YtlgeffinhbodeaeGreatDoor

/-
  Visible cells in memory, one behind another: an entry without its kind.
-/
namespace Go.Proofs.YtlgeffinhbodeaeGreatDoor
open Go.ChangeShapes Go.WideShapes Go.ChangeAt Go.RowKit Go.Deep
set_option linter.unusedVariables false
set_option linter.unusedSimpArgs false

abbrev Ent.five (e : Ent) : List Value := [.string e.row, .string e.fam, .string e.qual, .int .u64 e.ts, .string e.val]
abbrev Ent.c (e : Ent) : Value := .agg #[.string e.row, .string e.fam, .string e.qual, .int .u64 e.ts, .string e.val]
def cellsC (es : List Ent) : List Value := es.flatMap Ent.five
theorem cellsC_nil : cellsC [] = [] := rfl
theorem cellsC_cons (e : Ent) (es : List Ent) : cellsC (e :: es) = e.five ++ cellsC es := by simp [cellsC]
theorem cellsC_append (es fs : List Ent) : cellsC (es ++ fs) = cellsC es ++ cellsC fs := by simp [cellsC]
theorem length_cellsC (es : List Ent) : (cellsC es).length = es.length * 5 := by
  induction es with
  | nil => rfl
  | cons e es ih => rw [cellsC_cons, List.length_append, ih]; simp; omega
theorem cellsC_get (es : List Ent) : ∀ (k : Nat) (e : Ent), es[k]? = some e → ∀ j, j < 5 → (cellsC es)[k * 5 + j]? = e.five[j]? := by
  induction es with
  | nil => intro k e h; simp at h
  | cons f es ih =>
    intro k e h j hj
    rw [cellsC_cons]
    cases k with
    | zero =>
      simp at h; subst h
      rw [List.getElem?_append_left (by show 0 * 5 + j < 5; omega)]
      simp
    | succ k =>
      simp at h
      rw [List.getElem?_append_right (by show 5 ≤ (k + 1) * 5 + j; omega)]
      have : (k + 1) * 5 + j - f.five.length = k * 5 + j := by show (k + 1) * 5 + j - 5 = _; omega
      rw [this]; exact ih k e h j hj
theorem cellsC_set (es : List Ent) : ∀ (k : Nat) (e e' : Ent) (u : Value) (j : Nat), es[k]? = some e → j < 5 → e'.five = e.five.set j u → (cellsC es).set (k * 5 + j) u = cellsC (es.set k e') := by
  induction es with
  | nil => intro k e e' u j h; simp at h
  | cons f es ih =>
    intro k e e' u j h hj hc
    rw [cellsC_cons]
    cases k with
    | zero =>
      simp at h; subst h
      rw [List.set_append_left _ _ (by show 0 * 5 + j < 5; omega), List.set_cons_zero, cellsC_cons, hc]
      simp
    | succ k =>
      simp at h
      rw [List.set_append_right _ _ (by show 5 ≤ (k + 1) * 5 + j; omega), List.set_cons_succ, cellsC_cons]
      have : (k + 1) * 5 + j - f.five.length = k * 5 + j := by show (k + 1) * 5 + j - 5 = _; omega
      rw [this, ih k e e' u j h hj hc]

/-- The cells 'es' lie at ⟨b, off⟩, five each. -/
def CelsAt (w : World) (b off : Nat) (es : List Ent) : Prop :=
  ∀ i e, es[i]? = some e → w.cell? ⟨b, off + i * 5, none⟩ = some (.string e.row) ∧ w.cell? ⟨b, off + i * 5 + 1, none⟩ = some (.string e.fam) ∧ w.cell? ⟨b, off + i * 5 + 2, none⟩ = some (.string e.qual) ∧
    w.cell? ⟨b, off + i * 5 + 3, none⟩ = some (.int .u64 e.ts) ∧ w.cell? ⟨b, off + i * 5 + 4, none⟩ = some (.string e.val)
theorem CelsAt.below {B : Nat} {w w' : World} {b off : Nat} {es : List Ent} (h : CelsAt w b off es) (hb : Below B w w') (hlt : b < B) : CelsAt w' b off es := by
  intro i e he
  have := h i e he
  refine ⟨?_, ?_, ?_, ?_, ?_⟩
  all_goals rw [hb.cell (by exact hlt)]
  · exact this.1
  · exact this.2.1
  · exact this.2.2.1
  · exact this.2.2.2.1
  · exact this.2.2.2.2

/-- A row of the call's own holds the cells 'es'. -/
def OwnC (w : World) (base g cap : Nat) (es : List Ent) : Prop := w.ownsRow base 319 5 (.slice (some ⟨g, 0, none⟩) es.length cap) es.length (cellsC es)
theorem OwnC.at {w : World} {base g cap : Nat} {es : List Ent} (h : OwnC w base g cap es) : CelsAt w g 0 es := by
  intro i e he
  have hi : i < es.length := (List.getElem?_eq_some_iff.1 he).1
  have c := fun j (hj : j < 5) => (World.ownsRow.cellAt h (i * 5 + j) (by omega)).trans (cellsC_get es i e he j hj)
  refine ⟨?_, ?_, ?_, ?_, ?_⟩
  · simpa using c 0 (by omega)
  · simpa using c 1 (by omega)
  · simpa using c 2 (by omega)
  · simpa using c 3 (by omega)
  · simpa using c 4 (by omega)
theorem OwnC.lt {w : World} {base g cap : Nat} {es : List Ent} (h : OwnC w base g cap es) : base ≤ g ∧ g < w.heap.size := World.ownsRow.lt h g rfl
theorem OwnC.below {B : Nat} {w w' : World} {base g cap : Nat} {es : List Ent} (h : OwnC w base g cap es) (hb : Below B w w') (hg : g < B) : OwnC w' base g cap es := by
  refine ⟨h.1, ?_⟩
  rcases h.2 with hn | ⟨g', cap', cur, hv, h1, h2, rest⟩
  · exact .inl hn
  · simp only [Value.slice.injEq, Option.some.injEq, Addr.mk.injEq, and_true, true_and] at hv
    obtain ⟨rfl, rfl⟩ := hv
    exact .inr ⟨g, cap, cur, rfl, h1, by rw [hb.block g hg]; exact h2, rest⟩
theorem OwnC.set {w : World} {base g cap : Nat} {es : List Ent} (h : OwnC w base g cap es) (k j : Nat) (e e' : Ent) (u : Value) (hk : es[k]? = some e) (hj : j < 5) (hc : e'.five = e.five.set j u) :
    OwnC (w.setCell ⟨g, k * 5 + j, none⟩ u) base g cap (es.set k e') := by
  have := (World.ownsRow.stored h (k * 5 + j) u).1
  rw [cellsC_set es k e e' u j hk hj hc] at this
  unfold OwnC
  rw [List.length_set]
  exact this
theorem OwnC.upd {w : World} {base g cap m j : Nat} {fs : List Ent} {f f' : Ent} {u : Value} (h : OwnC w base g cap (fs.set m f)) (hm : m < fs.length) (hj : j < 5) (hc : f'.five = f.five.set j u) :
    OwnC (w.setCell ⟨g, m * 5 + j, none⟩ u) base g cap (fs.set m f') := by
  have := h.set m j f f' u (by simp [hm]) hj hc
  rwa [List.set_set] at this
theorem OwnC.mono {w : World} {base base' g cap : Nat} {es : List Ent} (h : OwnC w base g cap es) (hb : base' ≤ base) : OwnC w base' g cap es := by
  refine ⟨h.1, ?_⟩
  rcases h.2 with hn | ⟨g', cap', cur, hv, h1, rest⟩
  · exact .inl hn
  · exact .inr ⟨g', cap', cur, hv, Nat.le_trans hb h1, rest⟩
theorem OwnC.kept {w w' : World} {base g cp : Nat} {fs : List Ent} {row : Option Nat} (h : OwnC w base g cp fs) (hg : w.grownBy w' row) (hne : some g ≠ row) : OwnC w' base g cp fs :=
  World.ownsRow.kept h hg (.inr hne)
theorem OwnC.caps {w : World} {base g cp : Nat} {R : List Ent} (h : OwnC w base g cp R) : R.length ≤ cp ∧ cp ≤ maxLen := by
  rcases h.2 with ⟨h0, _⟩ | ⟨g', cap', cur, hv, _, _, hn, hcap, _, _⟩
  · cases h0
  · simp only [Value.slice.injEq, Option.some.injEq, Addr.mk.injEq, and_true, true_and] at hv
    obtain ⟨rfl, rfl⟩ := hv
    exact ⟨hn, hcap⟩
theorem ownC_new (w : World) : OwnC (w.alloc (Obj.cells #[] 319)) w.heap.size w.heap.size 0 [] := World.ownsRow_made w #[] 0 (Nat.le_refl _) (Nat.zero_le _) (by simp)

theorem Tryz.infoCel : (Tryz.prog.info? 319).map (fun i => (i.zero, i.size, i.bytes)) = some (some (.agg #[.string ⟨#[]⟩, .string ⟨#[]⟩, .string ⟨#[]⟩, .int .u64 0, .string ⟨#[]⟩]), 5, 72) := by kernel_rfl

theorem cel_new (wx : World) (f : Ent) : CelsAt (wx.alloc (Obj.cells #[.string f.row, .string f.fam, .string f.qual, .int .u64 f.ts, .string f.val] 319)) wx.heap.size 0 [f] := by
  intro j y hy
  obtain rfl : j = 0 := by
    have := (List.getElem?_eq_some_iff.1 hy).1
    simpa using this
  simp at hy
  subst hy
  simp

end Go.Proofs.YtlgeffinhbodeaeGreatDoor

/-
  laws.lwAt, laws.lwInRange.
-/
namespace Go.Proofs.YtlgeffinhbodeaeGreatDoor
open Go.ChangeShapes Go.WideShapes Go.ChangeAt Go.RowKit Go.Deep
set_option linter.unusedVariables false
set_option linter.unusedSimpArgs false
set_option maxRecDepth 100000

set_option maxHeartbeats 1000000 in
theorem lwAt_core (v : Value) (n k : Nat) (w : World) (h : BytesIn w v n) (hk : k ≤ 1000) :
    Calls Tryz.prog 14 #[v, .int .i64 k] w fun e w' => ∃ x : Int, e = .returned (.int .i64 x) ∧ 0 ≤ x ∧ x < 256 ∧ w' = w := by
  by_cases hlt : k < n
  · obtain ⟨hn, hh⟩ := h
    rcases hh with ⟨_, _, _, rfl⟩ | ⟨b, off, cap, rfl, hb, hc⟩
    · omega
    obtain ⟨x, hx, hx0, hx1⟩ := hc k hlt
    have z : (k : Int) < (n : Int) := by omega
    clear hc
    go_enter Tryz.func14, Tryz.ntmps14
    go_wp2_with fail
    go_ret
    exact ⟨x, rfl, hx0, hx1, rfl⟩
  · obtain ⟨a, cap, rfl⟩ := h.slice
    have z : ¬ (k : Int) < (n : Int) := by omega
    clear h
    obtain ⟨y, hy⟩ : ∃ y : Int, ((k : Int) * 37 + 11) % 256 = y := ⟨_, rfl⟩
    have hy0 : 0 ≤ y ∧ y < 256 := by omega
    go_enter Tryz.func14, Tryz.ntmps14
    go_wp2_with fail
    go_ret
    exact ⟨y, rfl, hy0.1, hy0.2, rfl⟩

def inTo (lo : ByteArray) (hh : Bool) (hi : ByteArray) (L : List Ent) (k : Nat) : List Ent := (L.take k).filter fun x => inR lo hh hi x.row
theorem inTo_succ {lo : ByteArray} {hh : Bool} {hi : ByteArray} {L : List Ent} {k : Nat} {x : Ent} (h : L[k]? = some x) : inTo lo hh hi L (k + 1) = inTo lo hh hi L k ++ (if inR lo hh hi x.row = true then [x] else []) := by
  unfold inTo
  rw [List.take_add_one, h]
  cases hq : inR lo hh hi x.row <;> simp [hq]
theorem inTo_len {lo : ByteArray} {hh : Bool} {hi : ByteArray} {L : List Ent} {k : Nat} : (inTo lo hh hi L k).length ≤ L.length := Nat.le_trans (List.length_filter_le _ _) (by simp; omega)

end Go.Proofs.YtlgeffinhbodeaeGreatDoor

/-
  laws.toByteS, laws.eqByteS.
-/
namespace Go.Proofs.YtlgeffinhbodeaeGreatDoor
open Go.ChangeShapes Go.WideShapes Go.ChangeAt Go.RowKit Go.Deep
set_option linter.unusedVariables false
set_option linter.unusedSimpArgs false
set_option maxRecDepth 100000

theorem OwnY.set {w : World} {base g cp : Nat} {xs : List UInt8} (h : OwnY w base g cp xs) (k : Nat) (x : UInt8) : OwnY (w.setCell ⟨g, k, none⟩ (ub x)) base g cp (xs.set k x) := by
  have := (World.ownsRow.stored h k (ub x)).1
  unfold OwnY
  rw [List.length_set, List.map_set]
  exact this
theorem made_zeroY (n : Nat) : (madeCells #[.int .u8 0] n).toList = (List.replicate n (0 : UInt8)).map ub := by
  apply List.ext_getElem?
  intro j
  by_cases hj : j < n
  · rw [List.getElem?_map, List.getElem?_replicate, if_pos hj]
    simp [madeCells, hj, Nat.mod_one]
  · rw [List.getElem?_map, List.getElem?_replicate, if_neg hj]
    simp [madeCells, hj]
end Go.Proofs.YtlgeffinhbodeaeGreatDoor

/-
  laws.lwBytes of equal bytes, laws.lwLetter.
-/
namespace Go.Proofs.YtlgeffinhbodeaeGreatDoor
open Go.ChangeShapes Go.WideShapes Go.ChangeAt Go.RowKit Go.Deep
set_option linter.unusedVariables false
set_option linter.unusedSimpArgs false
set_option maxRecDepth 100000

theorem conv_bys {w : World} {b off cap : Nat} {xs : List UInt8} (h : BysAt w b off xs) : (convert 22 9 (.slice (some ⟨b, off, none⟩) xs.length cap)).run Tryz.prog w = .ok (.string ⟨xs.toArray⟩) w := by
  refine run_convert_bytes_back (P := Tryz.prog) w 22 9 5 ⟨b, off, none⟩ cap xs Tryz.underlying22 Tryz.underlying5 Tryz.underlying9 ?_
  intro i hi
  rw [Addr.add_mid, h i xs[i] (List.getElem?_eq_getElem hi)]
theorem lwBytes_same (b off cap b' off' cap' : Nat) (xs : List UInt8) (w : World) (h : BysAt w b off xs) (h' : BysAt w b' off' xs) :
    Calls Tryz.prog 9 #[.slice (some ⟨b, off, none⟩) xs.length cap, .slice (some ⟨b', off', none⟩) xs.length cap'] w fun e w' => e = .returned (.bool true) ∧ Below w.heap.size w w' := by
  have c1 := conv_bys (cap := cap) h
  have c2 := conv_bys (cap := cap') h'
  clear h h'
  go_enter Tryz.func9, Tryz.ntmps9
  go_wp2_with fail
  go_ret
  exact ⟨by simp, Below.refl _ _⟩

set_option maxHeartbeats 1000000 in
theorem lwLetter_core (x : Int) (w : World) (h0 : 0 ≤ x) (h1 : x < 256) :
    Calls Tryz.prog 15 #[.int .i64 x] w fun e w' => ∃ s : ByteArray, e = .returned (.string s) ∧ Below w.heap.size w w' := by
  obtain ⟨x, rfl⟩ := Int.eq_ofNat_of_zero_le h0
  obtain ⟨y, hy⟩ : ∃ y : UInt8, (97 : Int) + (x : Int) % 3 = (y.toNat : Int) := ⟨UInt8.ofNat (97 + x % 3), by rw [UInt8.toNat_ofNat']; omega⟩
  obtain ⟨z, hz⟩ : ∃ z : UInt8, (97 : Int) + (x : Int) / 3 % 3 = (z.toNat : Int) := ⟨UInt8.ofNat (97 + x / 3 % 3), by rw [UInt8.toNat_ofNat']; omega⟩
  obtain ⟨W1, hW1⟩ : ∃ W1 : World, W1 = w.alloc (Obj.cells #[.int .u8 (y.toNat : Int)] 5) := ⟨_, rfl⟩
  have hb1 : Below w.heap.size w W1 := by rw [hW1]; exact (Below.refl _ _).alloc (Nat.le_refl _) _
  have HO : Hid (OwnB W1 w.heap.size w.heap.size 1 [y]) := by
    rw [hW1]
    exact World.ownsRow_lit w #[.int .u8 (y.toNat : Int)] 1 (Nat.le_refl _) (by decide) rfl
  have hyb := u8lt y
  have hzb := u8lt z
  go_enter Tryz.func15, Tryz.ntmps15
  go_upto_region 2 with fail
  rw [← hW1]
  have s1 := hb1.size
  have hz1 : W1.heap.size = w.heap.size + 1 := by rw [hW1]; simp
  clear hW1
  by_cases hq : (x : Int) % 2 = 1
  · have hqb : ((x : Int) % 2 == 1) = true := by rw [beq_iff_eq]; exact hq
    have HZ : Hid ((97 : Int) + (x : Int) / 3 % 3 = (z.toNat : Int)) := hz
    have hz1' : Hid (W1.heap.size = w.heap.size + 1) := hz1
    clear hz1
    go_wp2_with (at_builtin; refine wpList_append_byte _ rfl _ _ rfl w.heap.size w.heap.size 1 _ _ [y] z rfl _ rfl rfl ?hO ?hc ?hl ?hb ?_)
    case hO => exact own_chg (S := fun _ => False) HO.out (Chg.of_below ((Below.refl _ _).alloc (Nat.le_refl _) _)) (fun k _ q => q)
    case hc => simp
    case hl => simp
    case hb => simp; omega
    intro g' cp' w' hO' hgr
    have hcv : (convert 22 9 (.slice (some ⟨g', 0, none⟩) 2 cp')).run Tryz.prog w' = .ok (.string ⟨([y] ++ [z]).toArray⟩) w' := conv_own hO'
    have HBl : Hid (Below w.heap.size w w') := (hb1.trans ((((Below.refl _ _).alloc (Nat.le_refl _) _) : Below W1.heap.size W1 _).mono s1)).grown hgr (by simp; omega) (fun k hk => by cases hk; omega)
    clear hO' hgr
    go_wp2_with fail
    go_ret
    exact ⟨_, rfl, HBl.out⟩
  · have hqb : ((x : Int) % 2 == 1) = false := by rw [beq_eq_false_iff_ne]; exact hq
    have hcv : (convert 22 9 (.slice (some ⟨w.heap.size, 0, none⟩) 1 1)).run Tryz.prog W1 = .ok (.string ⟨[y].toArray⟩) W1 := conv_own HO.out
    clear hz1
    go_wp2_with fail
    go_ret
    exact ⟨_, rfl, hb1⟩
end Go.Proofs.YtlgeffinhbodeaeGreatDoor

/-
  Writes cut into runs: the runs together show what the writes show (no memory).
-/
namespace Go.Proofs.YtlgeffinhbodeaeGreatDoor
set_option linter.unusedVariables false
set_option linter.unusedSimpArgs false

/-- The largest delete of a column. -/
theorem largest_of : ∀ (q : List Ent) (v : Ent), v ∈ q → v.kind = 2 → ∃ d ∈ q, d.kind = 2 ∧ sameCol d v = true ∧ v.ts ≤ d.ts ∧ ∀ u ∈ q, u.kind = 2 → sameCol u v = true → u.ts ≤ d.ts
  | [], v, hv, _ => by simp at hv
  | a :: q, v, hv, hk => by
    have hvv : sameCol v v = true := by rw [sameCol_iff]; exact ⟨rfl, rfl, rfl⟩
    by_cases hq : ∃ u ∈ q, u.kind = 2 ∧ sameCol u v = true
    · obtain ⟨u, hu, hu2, huv⟩ := hq
      obtain ⟨d, hd, hd2, hdu, hul, hmax⟩ := largest_of q u hu hu2
      have hdv : sameCol d v = true := by rw [sameCol_iff] at *; exact ⟨hdu.1.trans huv.1, hdu.2.1.trans huv.2.1, hdu.2.2.trans huv.2.2⟩
      have hmax' : ∀ x ∈ q, x.kind = 2 → sameCol x v = true → x.ts ≤ d.ts := fun x hx h2 h3 => hmax x hx h2 (by rw [sameCol_iff] at *; exact ⟨h3.1.trans huv.1.symm, h3.2.1.trans huv.2.1.symm, h3.2.2.trans huv.2.2.symm⟩)
      by_cases ha : a.kind = 2 ∧ sameCol a v = true ∧ d.ts < a.ts
      · refine ⟨a, by simp, ha.1, ha.2.1, ?_, fun x hx h2 h3 => ?_⟩
        · rcases List.mem_cons.1 hv with rfl | hv
          · exact Int.le_refl _
          · have := hmax' v hv hk hvv; omega
        · rcases List.mem_cons.1 hx with rfl | hx
          · exact Int.le_refl _
          · have := hmax' x hx h2 h3; omega
      · have hal : a.kind = 2 → sameCol a v = true → a.ts ≤ d.ts := fun h1 h2 => by
          by_cases h3 : d.ts < a.ts
          · exact absurd ⟨h1, h2, h3⟩ ha
          · omega
        refine ⟨d, List.mem_cons_of_mem _ hd, hd2, hdv, ?_, fun x hx h2 h3 => ?_⟩
        · rcases List.mem_cons.1 hv with rfl | hv
          · exact hal hk hvv
          · exact hmax' v hv hk hvv
        · rcases List.mem_cons.1 hx with rfl | hx
          · exact hal h2 h3
          · exact hmax' x hx h2 h3
    · have hva : v = a := by
        rcases List.mem_cons.1 hv with h | h
        · exact h
        · exact absurd ⟨v, h, hk, hvv⟩ hq
      subst hva
      refine ⟨v, by simp, hk, hvv, Int.le_refl _, fun x hx h2 h3 => ?_⟩
      rcases List.mem_cons.1 hx with rfl | hx
      · exact Int.le_refl _
      · exact absurd ⟨x, hx, h2, h3⟩ hq
theorem kills_iff {v e : Ent} : kills v e = true ↔ sameCol v e = true ∧ ((v.kind = 2 ∧ e.ts ≤ v.ts) ∨ (¬ v.kind = 2 ∧ v.ts = e.ts)) := by
  unfold kills
  by_cases h : v.kind = 2 <;> simp [h]
theorem sameCol_trans {a b c : Ent} (h : sameCol a b = true) (k : sameCol b c = true) : sameCol a c = true := by
  rw [sameCol_iff] at *; exact ⟨h.1.trans k.1, h.2.1.trans k.2.1, h.2.2.trans k.2.2⟩
/-- A column's delete among the writes: the kept one does at least as much. -/
theorem kept_del {p R : List Ent} (hk : Kept p p.length R) {v x : Ent} (hv : v ∈ p) (h2 : v.kind = 2) (hx : kills v x = true) : ∃ d ∈ R, kills d x = true := by
  obtain ⟨d, hd, hd2, hdv, hvd, hmax⟩ := largest_of p v hv h2
  obtain ⟨i, hi⟩ := List.getElem?_of_mem hd
  have hlt := (List.getElem?_eq_some_iff.1 hi).1
  refine ⟨d, (hk.2 d).2 ⟨i, hlt, hi, .inr ⟨hd2, fun u hu hu2 hud => hmax u hu hu2 (sameCol_trans hud hdv)⟩⟩, ?_⟩
  rw [kills_iff] at hx ⊢
  rcases hx.2 with ⟨_, h⟩ | ⟨h, _⟩
  · exact ⟨sameCol_trans hdv hx.1, .inl ⟨hd2, by omega⟩⟩
  · exact absurd h2 h
theorem kept_kills {p R : List Ent} (hk : Kept p p.length R) : ∀ (n i : Nat) (v x : Ent), p.length - i ≤ n → p[i]? = some v → kills v x = true → ∃ d ∈ R, kills d x = true
  | 0, i, v, x, hn, hv, _ => by have := (List.getElem?_eq_some_iff.1 hv).1; omega
  | n + 1, i, v, x, hn, hv, hx => by
    have hlt := (List.getElem?_eq_some_iff.1 hv).1
    by_cases h2 : v.kind = 2
    · exact kept_del hk (List.mem_of_getElem? hv) h2 hx
    · by_cases hs : Stands p i
      · exact ⟨v, (hk.2 v).2 ⟨i, hlt, hv, .inl ⟨h2, hs⟩⟩, hx⟩
      · obtain ⟨j, u, hij, hu, huv⟩ : ∃ j u, i < j ∧ p[j]? = some u ∧ kills u v = true := by
          refine Classical.byContradiction fun hno => hs fun j u e h1 h3 h4 => ?_
          rw [hv] at h4
          simp at h4
          subst h4
          cases hkk : kills u v with
          | false => rfl
          | true => exact absurd ⟨j, u, h1, h3, hkk⟩ hno
        have hux : kills u x = true := by
          rw [kills_iff] at hx huv ⊢
          rcases hx.2 with ⟨h, _⟩ | ⟨_, h⟩
          · exact absurd h h2
          · refine ⟨sameCol_trans huv.1 hx.1, ?_⟩
            rcases huv.2 with ⟨h3, h4⟩ | ⟨h3, h4⟩
            · exact .inl ⟨h3, by omega⟩
            · exact .inr ⟨h3, by omega⟩
        exact kept_kills hk n j u x (by omega) hu hux
theorem kept_sub {p R : List Ent} {k : Nat} (hk : Kept p k R) : ∀ x ∈ R, x ∈ p := fun x hx => by
  obtain ⟨i, _, hi, _⟩ := (hk.2 x).1 hx
  exact List.mem_of_getElem? hi
theorem kept_same {p R : List Ent} (hk : Kept p p.length R) (x : Ent) : (∃ d ∈ R, kills d x = true) ↔ ∃ v ∈ p, kills v x = true := by
  constructor
  · rintro ⟨d, hd, h⟩; exact ⟨d, kept_sub hk d hd, h⟩
  · rintro ⟨v, hv, h⟩
    obtain ⟨i, hi⟩ := List.getElem?_of_mem hv
    exact kept_kills hk p.length i v x (by omega) hi h
theorem kept_nonempty {p R : List Ent} (hk : Kept p p.length R) (hp : 0 < p.length) : 0 < R.length := by
  obtain ⟨v, hv⟩ : ∃ v, p[p.length - 1]? = some v := ⟨_, List.getElem?_eq_getElem (by omega)⟩
  by_cases h2 : v.kind = 2
  · obtain ⟨d, hd, _⟩ := kept_del (x := v) hk (List.mem_of_getElem? hv) h2 (by rw [kills_iff, sameCol_iff]; exact ⟨⟨rfl, rfl, rfl⟩, .inl ⟨h2, Int.le_refl _⟩⟩)
    exact List.length_pos_of_mem hd
  · have : v ∈ R := (hk.2 v).2 ⟨p.length - 1, by omega, hv, .inl ⟨h2, fun j u e h1 h3 _ => by have := (List.getElem?_eq_some_iff.1 h3).1; omega⟩⟩
    exact List.length_pos_of_mem this
/-- Runs, newest first, of writes cut into pieces. -/
inductive Cuts : List Ent → List (List Ent) → Prop where
  | nil : Cuts [] []
  | cut {ws : List Ent} {rs : List (List Ent)} {p R : List Ent} : Cuts ws rs → Kept p p.length R → Cuts (ws ++ p) (R :: rs)
theorem stands_left {ws p : List Ent} {i : Nat} {x : Ent} (hx : ws[i]? = some x) : Stands (ws ++ p) i ↔ Stands ws i ∧ ∀ v ∈ p, kills v x = false := by
  have hi := (List.getElem?_eq_some_iff.1 hx).1
  constructor
  · intro h
    refine ⟨fun j v e h1 h2 h3 => ?_, fun v hv => ?_⟩
    · have hj := (List.getElem?_eq_some_iff.1 h2).1
      exact h j v e h1 (by rw [List.getElem?_append_left hj]; exact h2) (by rw [List.getElem?_append_left hi]; exact h3)
    · obtain ⟨j, hj⟩ := List.getElem?_of_mem hv
      exact h (ws.length + j) v x (by omega) (by rw [List.getElem?_append_right (by omega), show ws.length + j - ws.length = j by omega]; exact hj) (by rw [List.getElem?_append_left hi]; exact hx)
  · rintro ⟨h1, h2⟩ j v e hij hv he
    rw [List.getElem?_append_left hi, hx] at he
    simp at he
    subst he
    by_cases hj : j < ws.length
    · rw [List.getElem?_append_left hj] at hv
      exact h1 j v x hij hv hx
    · rw [List.getElem?_append_right (by omega)] at hv
      exact h2 v (List.mem_of_getElem? hv)
theorem stands_right {ws p : List Ent} {i : Nat} : Stands (ws ++ p) (ws.length + i) ↔ Stands p i := by
  constructor
  · intro h j v e h1 h2 h3
    exact h (ws.length + j) v e (by omega) (by rw [List.getElem?_append_right (by omega), show ws.length + j - ws.length = j by omega]; exact h2) (by rw [List.getElem?_append_right (by omega), show ws.length + i - ws.length = i by omega]; exact h3)
  · intro h j v e h1 h2 h3
    rw [List.getElem?_append_right (by omega)] at h2 h3
    rw [show ws.length + i - ws.length = i by omega] at h3
    exact h (j - ws.length) v e (by omega) h2 h3
theorem cuts_show {ws : List Ent} {rs : List (List Ent)} (h : Cuts ws rs) : ∀ x : Ent, x.kind = 0 → ((∃ i es, rs[i]? = some es ∧ x ∈ es ∧ ¬ HidTo rs i x) ↔ ∃ i, ws[i]? = some x ∧ Stands ws i) := by
  induction h with
  | nil => intro x _; simp
  | @cut ws rs p R hc hk ih =>
    intro x hx
    have hx2 : ¬ x.kind = 2 := by omega
    have hhid : ∀ i, HidTo (R :: rs) (i + 1) x ↔ (∃ d ∈ R, kills d x = true) ∨ HidTo rs i x := by
      intro i
      constructor
      · rintro ⟨m, ds, d, h1, h2, h3, h4⟩
        cases m with
        | zero => simp at h2; subst h2; exact .inl ⟨d, h3, h4⟩
        | succ m => exact .inr ⟨m, ds, d, by omega, by simpa using h2, h3, h4⟩
      · rintro (⟨d, h3, h4⟩ | ⟨m, ds, d, h1, h2, h3, h4⟩)
        · exact ⟨0, R, d, by omega, rfl, h3, h4⟩
        · exact ⟨m + 1, ds, d, by omega, by simpa using h2, h3, h4⟩
    have hall : (¬ ∃ d ∈ R, kills d x = true) ↔ ∀ v ∈ p, kills v x = false := by
      rw [kept_same hk x]
      constructor
      · intro h v hv
        cases hq : kills v x with
        | false => rfl
        | true => exact absurd ⟨v, hv, hq⟩ h
      · rintro h ⟨v, hv, hq⟩
        rw [h v hv] at hq
        cases hq
    constructor
    · rintro ⟨i, es, h1, h2, h3⟩
      cases i with
      | zero =>
        simp at h1
        subst h1
        obtain ⟨j, hj, hp, hkeep⟩ := (hk.2 x).1 h2
        rcases hkeep with ⟨_, hs⟩ | ⟨h, _⟩
        · exact ⟨ws.length + j, by rw [List.getElem?_append_right (by omega), show ws.length + j - ws.length = j by omega]; exact hp, stands_right.2 hs⟩
        · exact absurd h hx2
      | succ i =>
        rw [hhid] at h3
        obtain ⟨j, hj, hs⟩ := (ih x hx).1 ⟨i, es, by simpa using h1, h2, fun q => h3 (.inr q)⟩
        exact ⟨j, by rw [List.getElem?_append_left (List.getElem?_eq_some_iff.1 hj).1]; exact hj, (stands_left hj).2 ⟨hs, hall.1 (fun q => h3 (.inl q))⟩⟩
    · rintro ⟨i, hi, hs⟩
      by_cases hlt : i < ws.length
      · rw [List.getElem?_append_left hlt] at hi
        obtain ⟨h1, h2⟩ := (stands_left hi).1 hs
        obtain ⟨m, es, h3, h4, h5⟩ := (ih x hx).2 ⟨i, hi, h1⟩
        refine ⟨m + 1, es, by simpa using h3, h4, ?_⟩
        rw [hhid]
        rintro (q | q)
        · exact (hall.2 h2) q
        · exact h5 q
      · obtain ⟨j, rfl⟩ : ∃ j, i = ws.length + j := ⟨i - ws.length, by omega⟩
        rw [List.getElem?_append_right (by omega), show ws.length + j - ws.length = j by omega] at hi
        exact ⟨0, R, rfl, (hk.2 x).2 ⟨j, (List.getElem?_eq_some_iff.1 hi).1, hi, .inl ⟨hx2, stands_right.1 hs⟩⟩, hidTo_zero _ _⟩
theorem rep_stands {ws L : List Ent} (h : Rep ws ws.length L) (x : Ent) : x ∈ L ↔ x.kind = 0 ∧ ∃ i, ws[i]? = some x ∧ Stands ws i := by
  refine (h.2 x).trans ⟨?_, ?_⟩
  · rintro ⟨i, hi, h1, h2, h3⟩
    exact ⟨h2, i, h1, fun j v e hij hv he => h3 j v e hij (List.getElem?_eq_some_iff.1 hv).1 hv he⟩
  · rintro ⟨h2, i, h1, h3⟩
    exact ⟨i, (List.getElem?_eq_some_iff.1 h1).1, h1, h2, fun j v e hij _ hv he => h3 j v e hij hv he⟩
/-- What the runs show is what the writes show. -/
theorem cuts_merge {ws L M : List Ent} {rs : List (List Ent)} {inr : ByteArray → Bool} (hc : Cuts ws rs) (hL : Rep ws ws.length L) (hM : Mrg rs inr M) : M = L.filter fun x => inr x.row := by
  refine ord_ext hM.1 (List.Pairwise.filter _ hL.1) (fun x => ?_)
  rw [List.mem_filter, rep_stands hL x, hM.2 x]
  constructor
  · rintro ⟨i, j, ⟨es, h1, h2⟩, h3, h4, h5⟩
    exact ⟨⟨h3, (cuts_show hc x h3).1 ⟨i, es, h1, List.mem_of_getElem? h2, h5⟩⟩, h4⟩
  · rintro ⟨⟨h3, h6⟩, h4⟩
    obtain ⟨i, es, h1, h2, h5⟩ := (cuts_show hc x h3).2 h6
    obtain ⟨j, hj⟩ := List.getElem?_of_mem h2
    exact ⟨i, j, ⟨es, h1, hj⟩, h3, h4, h5⟩
theorem kept_good {p R : List Ent} (hg : GoodW p) (hk : Kept p p.length R) (hl : R.length ≤ p.length) : GoodR R := by
  refine ⟨⟨Nat.le_trans hl hg.1, fun x hx => hg.2 x (kept_sub hk x hx)⟩, fun i a b ha hb => ?_⟩
  have hkey := ord_get hk.1 (Nat.lt_succ_self i) ha hb
  unfold okPair
  simp only [hkey, Bool.and_eq_true, Bool.not_eq_true', beq_iff_eq, true_and]
  cases hq : ((a.kind == 2) && ((b.kind == 2) && sameCol a b)) with
  | false => rfl
  | true =>
    exfalso
    simp only [Bool.and_eq_true, beq_iff_eq] at hq
    obtain ⟨ha2, hb2, hab⟩ := hq
    obtain ⟨_, _, _, ka⟩ := (hk.2 a).1 (List.mem_of_getElem? ha)
    obtain ⟨_, _, _, kb⟩ := (hk.2 b).1 (List.mem_of_getElem? hb)
    have la : Largest p a := by rcases ka with ⟨h, _⟩ | ⟨_, h⟩; exact absurd ha2 h; exact h
    have lb : Largest p b := by rcases kb with ⟨h, _⟩ | ⟨_, h⟩; exact absurd hb2 h; exact h
    have h1 := la b (kept_sub hk b (List.mem_of_getElem? hb)) hb2 (by rw [sameCol_comm]; exact hab)
    have h2 := lb a (kept_sub hk a (List.mem_of_getElem? ha)) ha2 hab
    rw [sameCol_iff] at hab
    have : keyCmp a b = 0 := keyCmp_zero.2 ⟨hab.1, hab.2.1, hab.2.2, by simp [ha2, hb2], by omega⟩
    omega
theorem cuts_len {ws : List Ent} {rs : List (List Ent)} (h : Cuts ws rs) (hg : GoodW ws) (hl : ∀ es ∈ rs, GoodR es) (hn : rs.length ≤ 50) : GoodRs rs := ⟨hn, hl⟩
end Go.Proofs.YtlgeffinhbodeaeGreatDoor

/-
  A region that draws its order and whose last operation stores: what is read ahead of it is taken first.
-/
namespace Go.Proofs.YtlgeffinhbodeaeGreatDoor
open Go.ChangeShapes Go.WideShapes Go.ChangeAt Go.RowKit Go.Deep
set_option linter.unusedVariables false

section
variable {P : Program} {ops : Array Oper} {Q : Exit → Act → World → Prop} {md : Region.Mode} {S : World → Prop} {L : Nat}

/-- Whatever order is picked: 'S' holds behind every operation but number 'L'. -/
def AnyT (P : Program) (md : Region.Mode) (ops : Array Oper) (Q : Exit → Act → World → Prop) (S : World → Prop) (L : Nat) : Nat → Array Bool → Act → World → Prop
  | 0, listed, a, w => Region.ready md ops listed = [] ∧ Q .normal a w
  | fuel + 1, listed, a, w =>
    (Region.ready md ops listed = [] → Q .normal a w) ∧
    ∀ i ∈ Region.ready md ops listed, wpOp P ops Q i (fun a' w' => (i = L ∨ S w') ∧ AnyT P md ops Q S L fuel (listed.setIfInBounds i true) a' w') a w
theorem any_of_T : ∀ (fuel : Nat) (listed : Array Bool) (a : Act) (w : World), AnyT P md ops Q S L fuel listed a w → wpAny P md ops Q fuel listed a w
  | 0, _, _, _, h => h
  | fuel + 1, _, _, _, h => ⟨h.1, fun i hi => wpOp_mono (fun a' w' h' => any_of_T fuel _ a' w' h'.2) (h.2 i hi)⟩
/-- Operation 'L' waits for number 'i'. -/
def waitsT (md : Region.Mode) (ops : Array Oper) (L i : Nat) : Bool := ((ops[L]?).map (fun o => o.after.any fun e => Region.binds md e && e.on == i)).getD false
theorem anyT_first {i : Nat} {oi : Oper} {v : Value} (hi : ops[i]? = some oi) (hsel : ∀ (j : Nat) (o : Oper) cs b, ops[j]? = some o → o.op ≠ .select cs b)
    (hQ : ∀ c a w, Q (.panic c) (a.put oi.dst v) w → Q (.panic c) a w) (hL : waitsT md ops L i = true) (hne : i ≠ L) :
    ∀ (fuel : Nat) (listed : Array Bool) (a : Act) (w : World),
      (∀ j oj, ops[j]? = some oj → j ≠ i → listed.getD j true = false → (∀ e ∈ oj.after, Region.binds md e = true → e.on ≠ i) → oi.apart ops oj = true) →
      i ∈ Region.ready md ops listed → YieldsIf P ops S oi v a → S w →
      AnyT P md ops Q S L fuel (listed.setIfInBounds i true) (a.put oi.dst v) w → AnyT P md ops Q S L (fuel + 1) listed a w := by
  intro fuel
  induction fuel with
  | zero =>
    intro listed a w _ hr hy hS H
    refine ⟨fun h => (by rw [h] at hr; cases hr), fun j hj => ?_⟩
    by_cases hji : j = i
    · subst hji; exact hy.wpOp hi hS ⟨.inr hS, H⟩
    · have := ready_mono hj hji
      rw [H.1] at this
      cases this
  | succ fuel ih =>
    intro listed a w hfree hr hy hS H
    refine ⟨fun h => (by rw [h] at hr; cases hr), fun j hj => ?_⟩
    by_cases hji : j = i
    · subst hji; exact hy.wpOp hi hS ⟨.inr hS, H⟩
    · have h1 := H.2 j (ready_mono hj hji)
      obtain ⟨hjun, oj, hoj, hall⟩ := mem_ready.1 hj
      have hnot : ∀ e ∈ oj.after, Region.binds md e = true → e.on ≠ i := fun e he hb heq => by
        have h1 := hall e he hb
        have h0 := (mem_ready.1 hr).1
        rw [heq] at h1
        rcases Nat.lt_or_ge i listed.size with h' | h'
        · simp [h'] at h0 h1; rw [h0] at h1; cases h1
        · simp [Array.getElem?_eq_none h'] at h1
      have hjL : j ≠ L := fun q => by
        subst q
        unfold waitsT at hL
        rw [hoj] at hL
        simp only [Option.map_some, Option.getD_some, Array.any_eq_true] at hL
        obtain ⟨k, hk, hb⟩ := hL
        rw [Bool.and_eq_true, beq_iff_eq] at hb
        exact hnot _ (Array.getElem_mem hk) hb.1 hb.2
      have h2 := wpOp_putIf hoj (hfree j oj hoj hji hjun hnot) (fun cs b => hsel i oi cs b hi) (fun cs b => hsel j oj cs b hoj) hQ hy h1
      have hfree' : ∀ k ok, ops[k]? = some ok → k ≠ i → (listed.setIfInBounds j true).getD k true = false →
          (∀ e ∈ ok.after, Region.binds md e = true → e.on ≠ i) → oi.apart ops ok = true := fun k ok hk hki hun hno => by
        refine hfree k ok hk hki ?_ hno
        by_cases hjk : j = k
        · subst hjk; exact hjun
        · rw [getD_set_ne true hjk] at hun; exact hun
      refine wpOp_mono (fun a' w' h3 => ⟨h3.2.1, ih (listed.setIfInBounds j true) a' w' hfree' (ready_mono hr (Ne.symm hji)) h3.1 (h3.2.1.resolve_left hjL) ?_⟩) h2
      rw [Array.setIfInBounds_comm _ _ hji]
      exact h3.2.2
theorem anyT_take {i : Nat} {oi : Oper} {v : Value} {fuel : Nat} {listed : Array Bool} {a : Act} {w : World} (hi : ops[i]? = some oi)
    (hs : Region.noSelect ops = true) (hf : Region.free md ops listed i = true) (hr : (Region.ready md ops listed).contains i = true) (hL : waitsT md ops L i = true) (hne : i ≠ L)
    (hQ : ∀ c a w, Q (.panic c) (a.put oi.dst v) w → Q (.panic c) a w) (hy : YieldsIf P ops S oi v a) (hS : S w)
    (h : AnyT P md ops Q S L fuel (listed.setIfInBounds i true) (a.put oi.dst v) w) : AnyT P md ops Q S L (fuel + 1) listed a w :=
  anyT_first hi (Region.noSelect_spec hs) hQ hL hne fuel listed a w (Region.free_spec hi hf) (by simpa using hr) hy hS h
/-- One operation alone may come up. -/
theorem anyT_one {i : Nat} {o : Oper} {fuel : Nat} {listed : Array Bool} {a : Act} {w : World} (hr : Region.ready md ops listed = [i]) (ho : ops[i]? = some o)
    (h : ∀ K' : Act → World → Prop, Shut (∀ a w, (i = L ∨ S w) → AnyT P md ops Q S L fuel (listed.setIfInBounds i true) a w → K' a w) → if Region.wanted o (yielded ops a.tmps) = true then Oper.wp P o a w K' Q else K' (a.put o.dst undef) w) :
    AnyT P md ops Q S L (fuel + 1) listed a w := by
  refine ⟨fun h0 => (by rw [hr] at h0; cases h0), fun j hj => ?_⟩
  rw [hr] at hj
  simp at hj
  subst hj
  exact wpOp_step ho (fun K' hK => h K' (fun a w hS hW => hK a w ⟨hS, hW⟩))
/-- Either of two may come up. -/
theorem anyT_two {i j : Nat} {o q : Oper} {fuel : Nat} {listed : Array Bool} {a : Act} {w : World} (hr : Region.ready md ops listed = [i, j]) (ho : ops[i]? = some o) (hq : ops[j]? = some q)
    (h : ∀ K' : Act → World → Prop, Shut (∀ a w, (i = L ∨ S w) → AnyT P md ops Q S L fuel (listed.setIfInBounds i true) a w → K' a w) → if Region.wanted o (yielded ops a.tmps) = true then Oper.wp P o a w K' Q else K' (a.put o.dst undef) w)
    (h' : ∀ K' : Act → World → Prop, Shut (∀ a w, (j = L ∨ S w) → AnyT P md ops Q S L fuel (listed.setIfInBounds j true) a w → K' a w) → if Region.wanted q (yielded ops a.tmps) = true then Oper.wp P q a w K' Q else K' (a.put q.dst undef) w) :
    AnyT P md ops Q S L (fuel + 1) listed a w := by
  refine ⟨fun h0 => (by rw [hr] at h0; cases h0), fun k hk => ?_⟩
  rw [hr] at hk
  simp at hk
  rcases hk with rfl | rfl
  · exact wpOp_step ho (fun K' hK => h K' (fun a w hS hW => hK a w ⟨hS, hW⟩))
  · exact wpOp_step hq (fun K' hK => h' K' (fun a w hS hW => hK a w ⟨hS, hW⟩))
theorem anyT_done {fuel : Nat} {listed : Array Bool} {a : Act} {w : World} (hr : Region.ready md ops listed = []) (h : Q .normal a w) : AnyT P md ops Q S L fuel listed a w := by
  cases fuel with
  | zero => exact ⟨hr, h⟩
  | succ n => exact ⟨fun _ => h, by rw [hr]; simp⟩
theorem wp_region_T {id : Nat} {a : Act} {w : World} (L : Nat) (S : World → Prop) (hm : P.follows .mixedOrders = true)
    (h : AnyT P .any ops Q S L ops.size (Array.replicate ops.size false) a w.drew) : (Code.region id ops true).wp P Q a w :=
  wp_region_any hm (any_of_T _ _ _ _ h)
end
end Go.Proofs.YtlgeffinhbodeaeGreatDoor

/-
  The law FnSeek.
-/
namespace Go.Proofs.YtlgeffinhbodeaeGreatDoor.exFnSeek
open Go.ChangeShapes Go.WideShapes Go.ChangeAt Go.RowKit Go.Deep
set_option linter.unusedVariables false
set_option linter.unusedSimpArgs false
set_option maxRecDepth 100000

theorem own : ownKnob Tryz.prog.godebug = none := by kernel_rfl
theorem laidOut : laidOutB Tryz.prog = true := by kernel_rfl
theorem bin_below {w w' : World} {v : Value} {n : Nat} (h : BytesIn w v n) (hb : Below w.heap.size w w') : BytesIn w' v n := by
  refine ⟨h.1, ?_⟩
  rcases h.2 with h | ⟨b, off, cap, rfl, hlt, hc⟩
  · exact .inl h
  · refine .inr ⟨b, off, cap, rfl, by have := hb.size; omega, fun k hk => ?_⟩
    obtain ⟨x, h1, h2⟩ := hc k hk
    exact ⟨x, by rw [hb.cell (p := ⟨b, off + k, none⟩) hlt]; exact h1, h2⟩
theorem file_len {es : List Ent} {p : Nat} (hg : GoodR es) (hok : ∀ e ∈ es, e.ok) : (fileM (chunks p es)).length ≤ 2 ^ 28 := by
  have hk := chunks_ok (p := p) hg.1.2 hok
  have hf := chunks_flatten p _ es (Nat.le_refl _)
  have h1 := fblocks_len _ hk
  have h2 := blocks_many _ hk
  have h3 := fones_len _ hk (by rw [hf]; exact hg.1.1)
  have h4 := hg.1.1
  rw [hf] at h1 h2
  have h5 := num_len64 (n := (chunks p es).length) (by omega)
  unfold fileM findex
  simp only [List.length_append, sumOf_len, fixed_len, headB, List.length_cons, List.length_nil]
  omega
theorem file_more {es : List Ent} {p : Nat} (hg : GoodR es) (hok : ∀ e ∈ es, e.ok) (h1 : 1 ≤ p) (h2 : p ≤ 1000) : 13 ≤ (fileM (chunks p es)).length := by
  have hk := chunks_ok (p := p) hg.1.2 hok
  have hl : ∀ c ∈ chunks p es, c.length ≤ 1000 := fun c hc => Nat.le_trans ((chunks_mem p _ es (Nat.le_refl _) c hc).2.1 (by omega)) h2
  have hf := chunks_flatten p _ es (Nat.le_refl _)
  have hi := idxM_back hk hl (by rw [hf]; exact hg.1.1)
  unfold idxM at hi
  split at hi
  · cases hi
  · next hq => omega
/-- After one byte was changed, a seek has a fault or answers as before. -/
theorem seek_set {es : List Ent} {p at_ : Nat} {x y : UInt8} {row : ByteArray} (hg : GoodR es) (hok : ∀ e ∈ es, e.ok) (h1 : 1 ≤ p) (h2 : p ≤ 1000) (hy : (fileM (chunks p es))[at_]? = some y) (hne : ¬ y = x) (h4 : 4 ≤ at_) (h8 : at_ + 8 < (fileM (chunks p es)).length) :
    seekM ((fileM (chunks p es)).set at_ x) row = seekM (fileM (chunks p es)) row ∨ (seekM ((fileM (chunks p es)).set at_ x) row).err ≠ 0 := by
  have hk := chunks_ok (p := p) hg.1.2 hok
  have hl : ∀ c ∈ chunks p es, c.length ≤ 1000 := fun c hc => Nat.le_trans ((chunks_mem p _ es (Nat.le_refl _) c hc).2.1 (by omega)) h2
  have hf := chunks_flatten p _ es (Nat.le_refl _)
  have hi := idxM_back hk hl (by rw [hf]; exact hg.1.1)
  exact seekM_set hy hne h4 h8 hi (blksOf_all (chunks p es) headB 4 hk (C := findex (chunks p es) ++ sumOf (findex (chunks p es)) ++ fixed (findex (chunks p es)).length) (by unfold fileM; simp only [List.append_assoc]) rfl)
theorem xor_ne {y z : Nat} (hy : y < 256) (hz : z < 256) (h0 : 0 < z) : ¬ y ^^^ z = y := by
  intro h
  have h1 : y ^^^ (y ^^^ z) = y ^^^ y := by rw [h]
  rw [← Nat.xor_assoc, Nat.xor_self, Nat.zero_xor] at h1
  omega
/-- What the law asks of an answer. -/
def SekOk (es : List Ent) (row : ByteArray) (s : Sk) : Prop := s.err ≠ 0 ∨ (s.found = (es.find? (fun e => !lessB e.row row)).isSome ∧ s.ent = (es.find? (fun e => !lessB e.row row)).getD zeroE)

set_option maxHeartbeats 8000000 in
theorem walk (v : Value) (n : Nat) (u : Value) (m : Nat) (w : World) (h : BytesIn w v n) (k : BytesIn w u m) (hg : HandleAt w) :
    Calls Tryz.prog 4 #[v, u] w fun e w' => e = .returned (.bool true) ∧ Below w.heap.size w w' := by
  obtain ⟨a, cap, rfl⟩ := h.slice
  obtain ⟨a', cap', rfl⟩ := k.slice
  have hm := h.1
  have hm' := k.1
  unfold maxLen at hm hm'
  have HB : Hid (BytesIn w (.slice a n cap) n ∧ BytesIn w (.slice a' m cap') m ∧ HandleAt w ∧ 1 < w.heap.size) := ⟨h, k, hg, hg.lt⟩
  clear h k hg
  by_cases hbig : 1048576 < n
  · have z : (1048576 : Int) < (n : Int) := by omega
    go_enter Tryz.func4, Tryz.ntmps4
    go_wp2_with fail
    go_ret
    exact ⟨rfl, Below.refl _ _⟩
  have z : ¬ (1048576 : Int) < (n : Int) := by omega
  by_cases hbig' : 1048576 < m
  · have z' : (1048576 : Int) < (m : Int) := by omega
    go_enter Tryz.func4, Tryz.ntmps4
    go_wp2_with fail
    go_ret
    exact ⟨rfl, Below.refl _ _⟩
  have z' : ¬ (1048576 : Int) < (m : Int) := by omega
  have hn : n ≤ 1048576 := by omega
  go_enter Tryz.func4, Tryz.ntmps4
  go_wp2_with fail
  clear hm hm' hbig hbig' z z'
  refine (drawReplay_core _ n w (HB.out.1.code hn)).mono ?_
  rintro e w1 ⟨gw, cw, ws, rfl, hD1⟩
  have s1 := hD1.below.size
  have hwl := hD1.len
  have HD : Hid (DrawnW w gw cw ws w1) := hD1
  clear hD1
  go_wp2_with fail
  refine (specBuild_core gw 0 cw ws w1 HD.out.row.at (fun e he => (HD.out.ok e he).ok) HD.out.row.lt.2 (by omega)).mono ?_
  rintro e w2 ⟨gr, cr, R, rfl, hO2, hb2, hRl, hKp, hNk⟩
  have HG : Hid (GoodR R ∧ (∀ e ∈ R, e.ok)) := by
    by_cases hgw : GoodW ws
    · refine ⟨kept_good hgw (hKp hgw) hRl, fun e he => ?_⟩
      have hm := kept_sub (hKp hgw) e he
      exact (HD.out.ok e hm).ok
    · rw [hNk hgw]
      exact ⟨⟨⟨by simp, fun e he => by simp at he⟩, fun i p e hp => by simp at hp⟩, fun e he => by simp at he⟩
  have hRn : R.length ≤ 100 := by omega
  have s2 := hb2.size
  have k02 : Below w.heap.size w w2 := HD.out.below.trans (hb2.mono s1)
  obtain ⟨W2, hW2⟩ : ∃ W2 : World, W2 = w2.alloc (Obj.cells #[.slice (some ⟨gr, 0, none⟩) R.length cr] 37) := ⟨_, rfl⟩
  have hbW2 : Below w2.heap.size w2 W2 := by rw [hW2]; exact (Below.refl _ _).alloc (Nat.le_refl _) _
  have hz2 : W2.heap.size = w2.heap.size + 1 := by rw [hW2]; simp
  have k0W : Below w.heap.size w W2 := k02.trans (hbW2.mono (by omega))
  -- the run, its variable, the handle and the bytes, in every world in which nothing of these has turned
  have HK : Hid (∀ wx (S : Nat → Prop), Chg S W2 wx → (∀ q, S q → W2.heap.size ≤ q) → wx.cell? ⟨w2.heap.size, 0, none⟩ = some (.slice (some ⟨gr, 0, none⟩) R.length cr) ∧ OwnE wx w1.heap.size gr cr R ∧ HandleAt wx ∧ BytesIn wx (.slice a' m cap') m ∧ Below w.heap.size w wx) := by
    intro wx S hx hS
    have kb : Below W2.heap.size W2 wx := Chg.below (Below.refl _ _) hx (Nat.le_refl _) hS
    have kw := k0W.trans (kb.mono k0W.size)
    refine ⟨?_, ((hO2.below hbW2 hO2.lt.2).below kb (by have := hO2.lt.2; omega)), HB.out.2.2.1.below kw HB.out.2.2.2, bin_below HB.out.2.1 kw, kw⟩
    rw [kb.cell (p := ⟨w2.heap.size, 0, none⟩) (by show w2.heap.size < W2.heap.size; omega), hW2]; simp
  have HKb : Hid (∀ wx, Below W2.heap.size W2 wx → wx.cell? ⟨w2.heap.size, 0, none⟩ = some (.slice (some ⟨gr, 0, none⟩) R.length cr) ∧ OwnE wx w1.heap.size gr cr R ∧ HandleAt wx ∧ BytesIn wx (.slice a' m cap') m ∧ Below w.heap.size w wx) := fun wx hx => HK.out wx (fun _ => False) (Chg.of_below hx) (fun q hq => hq.elim)
  clear hO2 hKp hNk hb2 hRl hz2
  obtain ⟨c0, hO3, _, hB3, _⟩ := HKb.out W2 (Below.refl _ _)
  have HO3 : Hid (OwnE W2 w1.heap.size gr cr R ∧ BytesIn W2 (.slice a' m cap') m) := ⟨hO3, hB3⟩
  clear hO3 hB3
  go_upto_region 4 with fail
  rw [← hW2]
  clear hW2
  go_wp2_with fail
  refine (lwAt_core _ m 0 W2 HO3.out.2 (by omega)).mono ?_
  rintro e w3' ⟨x0, rfl, hx00, hx01, hw3⟩
  rw [hw3]
  clear hw3 w3'
  obtain ⟨x0, rfl⟩ := Int.eq_ofNat_of_zero_le hx00
  obtain ⟨p, hp⟩ : ∃ p : Nat, (1 : Int) + (x0 : Int) % 4 = (p : Int) := ⟨1 + x0 % 4, by omega⟩
  have hp1 : 1 ≤ p ∧ p ≤ 4 := by omega
  go_wp2_with fail
  refine (lwAt_core _ m 1 W2 HO3.out.2 (by omega)).mono ?_
  rintro e w3' ⟨x1, rfl, hx10, hx11, hw3⟩
  rw [hw3]
  clear hw3 w3'
  go_wp2_with fail
  refine (lwLetter_core x1 W2 hx10 hx11).mono ?_
  rintro e w3 ⟨row, rfl, hb3⟩
  clear c0
  obtain ⟨c0, hO4, _, _, _⟩ := HKb.out w3 hb3
  have HO4 : Hid (OwnE w3 w1.heap.size gr cr R) := hO4
  clear hO4
  have s3 := hb3.size
  go_wp2_with fail
  refine (implEnc_core gr 0 cr R (p : Int) w3 HO4.out.at HG.out.2 HO4.out.lt.2 HO4.out.caps.1 HO4.out.caps.2).mono ?_
  rintro e w4 ⟨g, cp, xs, rfl, hO, hEn, hb4⟩
  have s4 := hb4.size
  have HE : Hid (EncOf R (p : Int) xs ∧ xs = fileM (chunks p R)) := ⟨hEn, by have := hEn.1 ⟨HG.out.1, by omega, by omega⟩; simpa using this⟩
  obtain ⟨N, hN⟩ : ∃ N, N = xs.length := ⟨_, rfl⟩
  have HN : Hid (N = xs.length) := hN
  have hN1 : N ≤ 2 ^ 28 := by rw [hN, HE.out.2]; exact file_len HG.out.1 HG.out.2
  have hN2 : 13 ≤ N := by rw [hN, HE.out.2]; exact file_more HG.out.1 HG.out.2 hp1.1 (by omega)
  rw [← hN]
  have hb24 : Below W2.heap.size W2 w4 := hb3.trans (hb4.mono s3)
  have HO5 : Hid (OwnY w4 W2.heap.size g cp xs) := hO.mono s3
  have hgg := HO5.out.lt
  clear hO hEn hN c0
  obtain ⟨c0, hO6, _, _, _⟩ := HKb.out w4 hb24
  have HO6 : Hid (OwnE w4 w1.heap.size gr cr R) := hO6
  clear hO6
  go_wp2_with fail
  refine (specEnc_core gr 0 cr R (p : Int) w4 HO6.out.at HG.out.2 HO6.out.lt.2 HO6.out.caps.1 HO6.out.caps.2).mono ?_
  rintro e w5 ⟨g2, cp2, xs2, rfl, hO7, hEn5, hb5⟩
  obtain rfl : xs2 = xs := encOf_uniq hEn5 HE.out.1
  have s5 := hb5.size
  have HO7 : Hid (OwnY w5 w4.heap.size g2 cp2 xs2 ∧ OwnY w5 W2.heap.size g cp xs2) := ⟨hO7, HO5.out.below hb5⟩
  rw [← HN.out]
  clear hO7 hEn5
  have hlb := lwBytes_same g 0 cp g2 0 cp2 xs2 w5 HO7.out.2.at HO7.out.1.at
  rw [← HN.out] at hlb
  have HLb : Hid (Calls Tryz.prog 9 #[.slice (some ⟨g, 0, none⟩) N cp, .slice (some ⟨g2, 0, none⟩) N cp2] w5 fun e w' => e = .returned (.bool true) ∧ Below w5.heap.size w5 w') := hlb
  clear hlb
  go_wp2_with fail
  refine HLb.out.mono ?_
  rintro e w6 ⟨rfl, hb6⟩
  have s6 := hb6.size
  have hb26 : Below W2.heap.size W2 w6 := (hb24.trans (hb5.mono (by omega))).trans (hb6.mono (by omega))
  have HY6 : Hid (OwnY w6 W2.heap.size g cp xs2) := HO7.out.2.below hb6
  clear HLb c0
  obtain ⟨c0, _, _, hB6, _⟩ := HKb.out w6 hb26
  have HB6 : Hid (BytesIn w6 (.slice a' m cap') m) := hB6
  clear hB6
  go_upto_if 42 with fail
  go_cut [] (fun wx => ∃ ys : List UInt8, Hid (N = ys.length ∧ OwnY wx W2.heap.size g cp ys ∧ SekOk R row (seekM ys row)) ∧ Chg (fun q => W2.heap.size ≤ q) W2 wx)
  case first =>
    by_cases hR : 0 < R.length
    · have zR : (0 : Int) < (R.length : Int) := by omega
      go_wp2_with fail
      refine (lwAt_core _ m 2 w6 HB6.out (by omega)).mono ?_
      rintro e w3' ⟨x2, rfl, hx20, hx21, hw3⟩
      rw [hw3]
      clear hw3 w3'
      obtain ⟨x2, rfl⟩ := Int.eq_ofNat_of_zero_le hx20
      go_wp2_with fail
      refine (lwAt_core _ m 4 w6 HB6.out (by omega)).mono ?_
      rintro e w3' ⟨x4, rfl, hx40, hx41, hw3⟩
      rw [hw3]
      clear hw3 w3'
      obtain ⟨x4, rfl⟩ := Int.eq_ofNat_of_zero_le hx40
      have hnz : ¬ (N : Int) - 12 = 0 := by omega
      obtain ⟨r0, hr0⟩ : ∃ r0 : Nat, (256 * (x2 : Int) + (x4 : Int)) % ((N : Int) - 12) = (r0 : Int) := ⟨((256 * (x2 : Int) + (x4 : Int)) % ((N : Int) - 12)).toNat, by have := Int.emod_nonneg (256 * (x2 : Int) + (x4 : Int)) hnz; omega⟩
      have hr1 : r0 + 12 < N := by have := Int.emod_lt_of_pos (256 * (x2 : Int) + (x4 : Int)) (show (0 : Int) < (N : Int) - 12 by omega); omega
      obtain ⟨at_, hat⟩ : ∃ at_ : Nat, (4 : Int) + (r0 : Int) = (at_ : Int) := ⟨4 + r0, by omega⟩
      have hat4 : 4 ≤ at_ ∧ at_ + 8 < N := by omega
      have zat : (at_ : Int) < (N : Int) := by omega
      obtain ⟨y, hy⟩ : ∃ y, xs2[at_]? = some y := ⟨_, List.getElem?_eq_getElem (by have := HN.out; omega)⟩
      have HYy : Hid (xs2[at_]? = some y) := hy
      have cy : w6.cell? ⟨g, at_, none⟩ = some (.int .u8 (y.toNat : Int)) := by have := HY6.out.at at_ y hy; rw [Nat.zero_add] at this; exact this
      have fy : w6.frozen? ⟨g, at_, none⟩ = false := World.ownsRow.frozenAt HY6.out at_
      clear hy
      go_upto_region 11 with fail
      have hS : (fun w' : World => w'.cell? ⟨g, at_, none⟩ = some (.int .u8 (y.toNat : Int))) w6.drew := by simpa using cy
      refine wp_region_T 13 (fun w' : World => w'.cell? ⟨g, at_, none⟩ = some (.int .u8 (y.toNat : Int))) (by kernel_rfl) ?_
      refine anyT_take (i := 0) (v := ?vsa0) rfl (by kernel_rfl) (by kernel_rfl) (by kernel_rfl) (by kernel_rfl) (by decide) (fun _ _ _ h => h) (Or.inl ⟨by rfl, ?ysa0⟩) hS ?_
      case ysa0 => (intro wz hSw; (try dsimp only at hSw); go_simp; (try with_reducible rfl))
      try simp only [Act.put, List.setIfInBounds_toArray, List.set_cons_zero, List.set_cons_succ]
      refine anyT_take (i := 1) (v := ?vsa1) rfl (by kernel_rfl) (by kernel_rfl) (by kernel_rfl) (by kernel_rfl) (by decide) (fun _ _ _ h => h) (Or.inl ⟨by rfl, ?ysa1⟩) hS ?_
      case ysa1 => (intro wz hSw; (try dsimp only at hSw); go_simp; (try with_reducible rfl))
      try simp only [Act.put, List.setIfInBounds_toArray, List.set_cons_zero, List.set_cons_succ]
      refine anyT_take (i := 2) (v := ?vsa2) rfl (by kernel_rfl) (by kernel_rfl) (by kernel_rfl) (by kernel_rfl) (by decide) (fun _ _ _ h => h) (Or.inl ⟨by rfl, ?ysa2⟩) hS ?_
      case ysa2 => (intro wz hSw; (try dsimp only at hSw); go_simp; (try with_reducible rfl))
      try simp only [Act.put, List.setIfInBounds_toArray, List.set_cons_zero, List.set_cons_succ]
      refine anyT_take (i := 3) (v := ?vsa3) rfl (by kernel_rfl) (by kernel_rfl) (by kernel_rfl) (by kernel_rfl) (by decide) (fun _ _ _ h => h) (Or.inl ⟨by rfl, ?ysa3⟩) hS ?_
      case ysa3 => (intro wz hSw; (try dsimp only at hSw); go_simp; (try with_reducible rfl))
      try simp only [Act.put, List.setIfInBounds_toArray, List.set_cons_zero, List.set_cons_succ]
      refine anyT_take (i := 4) (v := ?vsa4) rfl (by kernel_rfl) (by kernel_rfl) (by kernel_rfl) (by kernel_rfl) (by decide) (fun _ _ _ h => h) (Or.inl ⟨by rfl, ?ysa4⟩) hS ?_
      case ysa4 => (intro wz hSw; (try dsimp only at hSw); go_simp; (try with_reducible rfl))
      try simp only [Act.put, List.setIfInBounds_toArray, List.set_cons_zero, List.set_cons_succ]
      refine anyT_take (i := 5) (v := ?vsa5) rfl (by kernel_rfl) (by kernel_rfl) (by kernel_rfl) (by kernel_rfl) (by decide) (fun _ _ _ h => h) (Or.inl ⟨by rfl, ?ysa5⟩) hS ?_
      case ysa5 => (intro wz hSw; (try dsimp only at hSw); go_simp; (try with_reducible rfl))
      try simp only [Act.put, List.setIfInBounds_toArray, List.set_cons_zero, List.set_cons_succ]
      refine anyT_take (i := 6) (v := ?vsa6) rfl (by kernel_rfl) (by kernel_rfl) (by kernel_rfl) (by kernel_rfl) (by decide) (fun _ _ _ h => h) (Or.inl ⟨by rfl, ?ysa6⟩) hS ?_
      case ysa6 => (intro wz hSw; (try dsimp only at hSw); go_simp; (try with_reducible rfl))
      try simp only [Act.put, List.setIfInBounds_toArray, List.set_cons_zero, List.set_cons_succ]
      refine anyT_one (i := 7) (by kernel_rfl) rfl (fun K hK => ?_)
      go_simp
      go_at_call 14
      refine (lwAt_core _ m 3 w6.drew (bin_below HB6.out ((Below.refl _ _).drew)) (by omega)).mono ?_
      rintro e w3' ⟨x3, rfl, hx30, hx31, hw3⟩
      rw [hw3]
      clear hw3 w3'
      obtain ⟨x3, rfl⟩ := Int.eq_ofNat_of_zero_le hx30
      obtain ⟨zz, hzz⟩ : ∃ zz : Nat, (1 : Int) + (x3 : Int) % 255 = (zz : Int) := ⟨1 + x3 % 255, by omega⟩
      have hzz1 : 1 ≤ zz ∧ zz < 256 := by omega
      have hyl := u8lt y
      obtain ⟨x', hx'⟩ : ∃ x' : UInt8, x'.toNat = y.toNat ^^^ zz := ⟨UInt8.ofNat (y.toNat ^^^ zz), by rw [UInt8.toNat_ofNat']; exact Nat.mod_eq_of_lt (Nat.xor_lt_two_pow (n := 8) hyl hzz1.2)⟩
      have hxo : bits BinOp.xor .u8 (y.toNat : Int) (zz : Int) = (x'.toNat : Int) := by rw [hx']; exact xor8 y.toNat zz hyl hzz1.2
      have HNe : Hid (¬ y = x') := fun q => xor_ne hyl hzz1.2 hzz1.1 (by rw [← hx', ← q])
      clear hx'
      refine hK.out _ _ (.inr hS) ?_
      clear hK
      try simp only [Act.put, List.setIfInBounds_toArray, List.set_cons_zero, List.set_cons_succ]
      refine anyT_take (i := 8) (v := ?vsb8) rfl (by kernel_rfl) (by kernel_rfl) (by kernel_rfl) (by kernel_rfl) (by decide) (fun _ _ _ h => h) (Or.inl ⟨by rfl, ?ysb8⟩) hS ?_
      case ysb8 => (intro wz hSw; (try dsimp only at hSw); go_simp; (try with_reducible rfl))
      try simp only [Act.put, List.setIfInBounds_toArray, List.set_cons_zero, List.set_cons_succ]
      refine anyT_take (i := 9) (v := ?vsb9) rfl (by kernel_rfl) (by kernel_rfl) (by kernel_rfl) (by kernel_rfl) (by decide) (fun _ _ _ h => h) (Or.inl ⟨by rfl, ?ysb9⟩) hS ?_
      case ysb9 => (intro wz hSw; (try dsimp only at hSw); go_simp; (try with_reducible rfl))
      try simp only [Act.put, List.setIfInBounds_toArray, List.set_cons_zero, List.set_cons_succ]
      refine anyT_take (i := 10) (v := ?vsb10) rfl (by kernel_rfl) (by kernel_rfl) (by kernel_rfl) (by kernel_rfl) (by decide) (fun _ _ _ h => h) (Or.inl ⟨by rfl, ?ysb10⟩) hS ?_
      case ysb10 => (intro wz hSw; (try dsimp only at hSw); go_simp; (try with_reducible rfl))
      try simp only [Act.put, List.setIfInBounds_toArray, List.set_cons_zero, List.set_cons_succ]
      refine anyT_take (i := 11) (v := ?vsb11) rfl (by kernel_rfl) (by kernel_rfl) (by kernel_rfl) (by kernel_rfl) (by decide) (fun _ _ _ h => h) (Or.inl ⟨by rfl, ?ysb11⟩) hS ?_
      case ysb11 => (intro wz hSw; (try dsimp only at hSw); go_simp; (try with_reducible rfl))
      try simp only [Act.put, List.setIfInBounds_toArray, List.set_cons_zero, List.set_cons_succ]
      refine anyT_take (i := 12) (v := ?vsa12) rfl (by kernel_rfl) (by kernel_rfl) (by kernel_rfl) (by kernel_rfl) (by decide) (fun _ _ _ h => h) (Or.inl ⟨by rfl, ?ysa12⟩) hS ?_
      case ysa12 => (intro wz hSw; (try dsimp only at hSw); go_simp; (try with_reducible rfl))
      try simp only [Act.put, List.setIfInBounds_toArray, List.set_cons_zero, List.set_cons_succ]
      refine anyT_one (i := 13) (by kernel_rfl) rfl (fun K hK => ?_)
      go_simp
      refine hK.out _ _ (.inl rfl) ?_
      clear hK
      try simp only [Act.put, List.setIfInBounds_toArray, List.set_cons_zero, List.set_cons_succ]
      refine anyT_done (by kernel_rfl) ?_
      go_wp2_with fail
      go_meet
      have hval : bits BinOp.xor IntKind.u8 (y.toNat : Int) (IntKind.u8.wrap (IntKind.i64.wrap (1 + (x3 : Int).tmod 255))) = (x'.toNat : Int) := by
        have e1 : (x3 : Int).tmod 255 = (x3 : Int) % 255 := Int.tmod_eq_emod_of_nonneg (by omega)
        have e2 : IntKind.i64.wrap (zz : Int) = (zz : Int) := by rw [IntKind.wrap_i64]; omega
        have e3 : IntKind.u8.wrap (zz : Int) = (zz : Int) := by rw [IntKind.wrap_u8]; omega
        rw [e1, hzz, e2, e3]
        exact hxo
      try rw [hval]
      refine ⟨xs2.set at_ x', ⟨by rw [List.length_set]; exact HN.out, ?_, ?_⟩, ?_⟩
      · exact (HY6.out.set at_ x').below ((Below.refl _ _).drew)
      · have hE := HE.out.2
        have hN0 := HN.out
        rcases seek_set (x := x') (row := row) HG.out.1 HG.out.2 hp1.1 (show p ≤ 1000 by omega) (by rw [← hE]; exact HYy.out) HNe.out hat4.1 (by rw [← hE]; omega) with q | q
        · right
          rw [hE, q]
          exact (seekM_back (row := row) HG.out.1 HG.out.2 hp1.1 (show p ≤ 1000 by omega)).2
        · left
          rw [hE]
          exact q
      · exact ((Chg.of_below hb26).trans (Chg.of_set (S := fun q => W2.heap.size ≤ q) w6 g at_ (.int .u8 (x'.toNat : Int)) hgg.1)).trans (Chg.of_below ((Below.refl _ _).drew))
    · have zR : ¬ (0 : Int) < (R.length : Int) := by omega
      go_wp2_with fail
      go_meet
      refine ⟨xs2, ⟨HN.out, HY6.out, .inr ?_⟩, Chg.of_below hb26⟩
      have := seekM_back (row := row) HG.out.1 HG.out.2 hp1.1 (show p ≤ 1000 by omega)
      rw [← HE.out.2] at this
      exact this.2
  case rest =>
    obtain ⟨ys, HY, hcw⟩ := hcut
    have HCw : Hid (Chg (fun q => W2.heap.size ≤ q) W2 wc) := hcw
    have sw := hcw.size
    clear hcw c0
    have hgw := HY.out.2.1.lt
    have HNy : Hid (N = ys.length) := HY.out.1
    obtain ⟨W7, hW7⟩ : ∃ W7 : World, W7 = wc.alloc (Obj.cells #[] 5) := ⟨_, rfl⟩
    have hb7 : Below wc.heap.size wc W7 := by rw [hW7]; exact (Below.refl _ _).alloc (Nat.le_refl _) _
    have hz7 : Hid (W7.heap.size = wc.heap.size + 1) := by show W7.heap.size = _; rw [hW7]; simp
    have HE7 : Hid (OwnY W7 wc.heap.size wc.heap.size 0 []) := by rw [hW7]; exact World.ownsRow_made wc #[] 0 (Nat.le_refl _) (Nat.zero_le _) rfl
    have HY7 : Hid (OwnY W7 W2.heap.size g cp ys) := HY.out.2.1.below hb7
    have s7 := hb7.size
    go_wp2_with (at_builtin; rw [← hW7]; refine wpList_append_bys _ rfl _ _ rfl wc.heap.size wc.heap.size 0 0 g 0 N cp [] ys rfl rfl rfl HNy.out HE7.out HY7.out.at ?hl ?hb ?_)
    case hl => have := HNy.out; simp; omega
    case hb => omega
    intro g8 cp8 w8 hO8 hgr8 hat8
    rw [← hW7] at hgr8
    have HO8 : Hid (OwnY w8 wc.heap.size g8 cp8 ys ∧ OwnY w8 W2.heap.size g cp ys ∧ Chg (fun q => W2.heap.size ≤ q) W2 w8) := by
      refine ⟨by simpa using hO8, ?_, (HCw.out.trans (Chg.of_below hb7)).trans (Chg.of_grown hgr8 (fun k hk => by cases hk; exact sw))⟩
      exact HY7.out.chg (Chg.of_grown (S := fun k => k = wc.heap.size) hgr8 (fun k hk => by cases hk; rfl)) (by omega)
    clear hW7 hO8 hgr8 hat8
    have s8 := HO8.out.2.2.size
    have hsk := specSeek_core g8 0 cp8 ys row w8 HO8.out.1.at HO8.out.1.lt.2 (by have := HNy.out; omega) HO8.out.1.caps.1 HO8.out.1.caps.2
    rw [← HNy.out] at hsk
    obtain ⟨s, hs⟩ : ∃ s, s = seekM ys row := ⟨_, rfl⟩
    rw [← hs] at hsk
    have HSk : Hid (Calls Tryz.prog 18 #[.slice (some ⟨g8, 0, none⟩) N cp8, .string row] w8 fun r w' => r = .returned s.v ∧ Below w8.heap.size w8 w') := hsk
    have HSS : Hid (s = seekM ys row ∧ SekOk R row s) := ⟨hs, by rw [hs]; exact HY.out.2.2⟩
    clear hsk hs
    go_wp2_with fail
    refine HSk.out.mono ?_
    rintro e w9 ⟨rfl, hb9⟩
    clear HSk
    have s9 := hb9.size
    obtain ⟨W10, hW10⟩ : ∃ W10 : World, W10 = w9.alloc (Obj.cells #[.int .i64 s.err, .bool s.found, .string s.ent.row, .string s.ent.fam, .string s.ent.qual, .int .u64 s.ent.ts, .int .i64 s.ent.kind, .string s.ent.val, .int .i64 (s.read : Int)] 47) := ⟨_, rfl⟩
    have hb10 : Below w9.heap.size w9 W10 := by rw [hW10]; exact (Below.refl _ _).alloc (Nat.le_refl _) _
    have hz10 : Hid (w9.heap.size < W10.heap.size) := by show _ < _; rw [hW10]; simp
    have b810 : Below w8.heap.size w8 W10 := hb9.trans (hb10.mono s9)
    have HZ : Hid (∀ wx, Below W10.heap.size W10 wx → (wx.cell? ⟨w9.heap.size, 0, none⟩ = some (.int .i64 s.err) ∧ wx.cell? ⟨w9.heap.size, 1, none⟩ = some (.bool s.found) ∧ wx.cell? ⟨w9.heap.size, 2, none⟩ = some (.string s.ent.row) ∧ wx.cell? ⟨w9.heap.size, 3, none⟩ = some (.string s.ent.fam) ∧ wx.cell? ⟨w9.heap.size, 4, none⟩ = some (.string s.ent.qual) ∧ wx.cell? ⟨w9.heap.size, 5, none⟩ = some (.int .u64 s.ent.ts) ∧ wx.cell? ⟨w9.heap.size, 6, none⟩ = some (.int .i64 s.ent.kind) ∧ wx.cell? ⟨w9.heap.size, 7, none⟩ = some (.string s.ent.val) ∧ wx.cell? ⟨w9.heap.size, 8, none⟩ = some (.int .i64 (s.read : Int))) ∧ (wx.cell? ⟨w2.heap.size, 0, none⟩ = some (.slice (some ⟨gr, 0, none⟩) R.length cr) ∧ OwnE wx w1.heap.size gr cr R ∧ HandleAt wx ∧ BytesIn wx (.slice a' m cap') m ∧ Below w.heap.size w wx) ∧ OwnY wx W2.heap.size g cp ys) := by
      intro wx hx
      have hq : ∀ j, wx.cell? ⟨w9.heap.size, j, none⟩ = W10.cell? ⟨w9.heap.size, j, none⟩ := fun j => hx.cell (p := ⟨w9.heap.size, j, none⟩) hz10.out
      refine ⟨?_, HK.out wx _ ((HO8.out.2.2.trans (Chg.of_below b810)).trans (Chg.of_below hx)) (fun q hq => hq), (HO8.out.2.1.below b810).below hx⟩
      rw [hq, hq, hq, hq, hq, hq, hq, hq, hq, hW10]
      refine ⟨?_, ?_, ?_, ?_, ?_, ?_, ?_, ?_, ?_⟩ <;> simp
    have HSI : Hid (∀ X, Below W10.heap.size W10 X → Calls Tryz.prog 19 #[.slice (some ⟨g, 0, none⟩) N cp, .string row] X fun e w' => e = .returned (.agg #[.int .i64 s.err, .bool s.found, .string s.ent.row, .string s.ent.fam, .string s.ent.qual, .int .u64 s.ent.ts, .int .i64 s.ent.kind, .string s.ent.val, .int .i64 (s.read : Int)]) ∧ Below W10.heap.size W10 w' ∧ w'.cell? ⟨w9.heap.size, 0, none⟩ = some (.int .i64 s.err) ∧ w'.cell? ⟨w9.heap.size, 1, none⟩ = some (.bool s.found) ∧ w'.cell? ⟨w9.heap.size, 2, none⟩ = some (.string s.ent.row) ∧ w'.cell? ⟨w9.heap.size, 3, none⟩ = some (.string s.ent.fam) ∧ w'.cell? ⟨w9.heap.size, 4, none⟩ = some (.string s.ent.qual) ∧ w'.cell? ⟨w9.heap.size, 5, none⟩ = some (.int .u64 s.ent.ts) ∧ w'.cell? ⟨w9.heap.size, 6, none⟩ = some (.int .i64 s.ent.kind) ∧ w'.cell? ⟨w9.heap.size, 7, none⟩ = some (.string s.ent.val) ∧ w'.cell? ⟨w9.heap.size, 8, none⟩ = some (.int .i64 (s.read : Int))) := by
      intro X hX
      obtain ⟨_, ⟨_, _, hh, _, _⟩, hy⟩ := HZ.out X hX
      have h7 := implSeek_core ⟨g, 0, cp, ys⟩ row X hh hy.at hy.lt.2 (by show ys.length ≤ _; have := HNy.out; omega) hy.caps.1 hy.caps.2
      simp only [] at h7
      rw [← HNy.out] at h7
      refine h7.mono ?_
      rintro e w' ⟨rfl, hb'⟩
      rw [← HSS.out.1]
      have hX' := hX.trans (hb'.mono hX.size)
      obtain ⟨⟨q0, q1, q2, q3, q4, q5, q6, q7, q8⟩, _, _⟩ := HZ.out w' hX'
      exact ⟨rfl, hX', q0, q1, q2, q3, q4, q5, q6, q7, q8⟩
    go_upto_region 13 with fail
    rw [← hW10]
    clear hW10
    go_cut [76] (fun c wx => c = .bool false ∧ Below W10.heap.size W10 wx)
    case first =>
      obtain ⟨⟨p0, p1, p2, p3, p4, p5, p6, p7, p8⟩, _, _⟩ := HZ.out W10 (Below.refl _ _)
      go_region_with (go_at_call 19; refine (HSI.out _ ?hB).mono ?_; (case hB => (repeat (first | assumption | exact Below.refl _ _ | refine Below.drew ?_))); rintro e w' ⟨rfl, hbb, d0, d1, d2, d3, d4, d5, d6, d7, d8⟩)
      all_goals go_wp2_with fail
      all_goals go_meet
      all_goals exact ⟨by simp, by assumption⟩
    case rest =>
    obtain ⟨rfl, hb11⟩ := hcut
    clear HSI
    obtain ⟨⟨p0, p1, _⟩, ⟨_, _, _, _, kV⟩, _⟩ := HZ.out wc hb11
    by_cases hs0 : s.err = 0
    case neg =>
      have hsb : (s.err == 0) = false := by rw [beq_eq_false_iff_ne]; exact hs0
      have hsn : (s.err != 0) = true := by rw [bne, hsb]; rfl
      go_wp2_with fail
      go_ret
      exact ⟨rfl, kV⟩
    have HF : Hid (s.found = (R.find? (fun e => !lessB e.row row)).isSome ∧ s.ent = (R.find? (fun e => !lessB e.row row)).getD zeroE) := HSS.out.2.resolve_left (fun q => q hs0)
    have hsb : (s.err == 0) = true := by rw [beq_iff_eq]; exact hs0
    have hsn : (s.err != 0) = false := by rw [bne, hsb]; rfl
    obtain ⟨V, hV⟩ : ∃ V, V = wc := ⟨_, rfl⟩
    have HV : Hid (∀ wx, Below V.heap.size V wx → Below W10.heap.size W10 wx) := by
      intro wx hx
      rw [hV] at hx
      exact hb11.trans (hx.mono hb11.size)
    go_upto_region 17 with fail
    rw [← hV]
    clear hV p0 p1 hb11 kV
    go_wp2_with fail
    go_loopw [11] (fun i wr => ∃ k : Nat, k ≤ R.length ∧ i = .int .i64 k ∧ Hid (∀ j e, j < k → R[j]? = some e → lessB e.row row = true) ∧ Below V.heap.size V wr) (fun i _ => R.length - (intOf i).toNat)
    case atStart => exact ⟨0, Nat.zero_le _, rfl, (fun j e hj _ => by omega), Below.refl _ _⟩
    case round =>
      obtain ⟨k, hk, rfl, HLs, hbr⟩ := hrel
      obtain ⟨⟨p0, p1, p2, p3, p4, p5, p6, p7, p8⟩, ⟨c0, hOE, _, _, kV⟩, _⟩ := HZ.out wr (HV.out wr hbr)
      have HOE : Hid (OwnE wr w1.heap.size gr cr R) := hOE
      clear hOE
      by_cases hlt : k < R.length
      · obtain ⟨e, he⟩ : ∃ e, R[k]? = some e := ⟨_, List.getElem?_eq_getElem hlt⟩
        obtain ⟨e0, e1, e2, e3, e4, e5⟩ := HOE.out.at k e he
        simp only [Nat.zero_add] at e0 e1 e2 e3 e4 e5
        have HEk : Hid (R[k]? = some e) := he
        clear he
        have zk : (k : Int) < (R.length : Int) := by omega
        by_cases hl : Op.bytesLess e.row.toList row.toList = true
        · go_wp2_with fail
          go_roundw
          case rel =>
            refine ⟨k + 1, by omega, by go_num, ?_, hbr⟩
            intro j e' hj he'
            by_cases hjk : j = k
            · subst hjk
              rw [HEk.out] at he'
              cases he'
              exact hl
            · exact HLs.out j e' (by omega) he'
          case measure => simp [intOf]; omega
        · have hlf : Op.bytesLess e.row.toList row.toList = false := by simpa using hl
          have hfind : R.find? (fun e => !lessB e.row row) = some e := by
            rw [List.find?_eq_some_iff_getElem]
            obtain ⟨h1, h2⟩ := List.getElem?_eq_some_iff.1 HEk.out
            refine ⟨by simp [lessB, hlf], k, h1, h2, fun j hj => ?_⟩
            have := HLs.out j _ hj (List.getElem?_eq_getElem (by omega))
            simp [this]
          have hfd : s.found = true := by rw [HF.out.1, hfind]; rfl
          have hen : s.ent = e := by rw [HF.out.2, hfind]; rfl
          rw [hfd] at p1
          rw [hen] at p2 p3 p4 p5 p6 p7
          clear hfind hfd hen
          go_upto_region 21 with fail
          go_quiet (fail)
          go_wp2_with fail
          go_ret
          exact ⟨by simp, below_drewN kV _⟩
      · have zk : ¬ (k : Int) < (R.length : Int) := by omega
        have hfd : s.found = false := by
          rw [HF.out.1]
          have : R.find? (fun e => !lessB e.row row) = none := by
            rw [List.find?_eq_none]
            intro x hx
            obtain ⟨j, hj⟩ := List.getElem?_of_mem hx
            have := HLs.out j x (by have := (List.getElem?_eq_some_iff.1 hj).1; omega) hj
            simp [this]
          rw [this]; rfl
        rw [hfd] at p1
        clear hfd
        go_wp2_with fail
        go_ret
        exact ⟨rfl, kV⟩

theorem et : Tryz.prog.globalNamed "errors.errorType" = some 1 := by kernel_rfl
theorem rt : (Tryz.prog.cutTypes.find? (·.1 == "internal/reflectlite.rtype")).map (·.2) = some 226 := by kernel_rfl
theorem oneRow : ((List.range 331).filter fun t => Tryz.prog.rowNamed t [101, 114, 114, 111, 114]) = [166] := by kernel_rfl
theorem size : Tryz.prog.types.size = 331 := by kernel_rfl
/-- The variable's cell, out of the row's condition. -/
theorem handle_of_laid {W : World} (h : laidMetH Tryz.prog Rows.fnSeekRow.laid W) : HandleAt W := by
  have h' : laidMet Tryz.prog [] W ∧ handlesMet Tryz.prog Rows.fnSeekRow.laid W := h
  obtain ⟨name, u, ty, e1, e2, e3, e4, e5⟩ := h'.2 _ (List.mem_singleton.2 rfl)
  have en : name = [101, 114, 114, 111, 114] := (Option.some.inj e1).symm
  subst en
  obtain rfl := Option.some.inj (rt.symm.trans e2)
  have hm : ty ∈ (List.range 331).filter fun t => Tryz.prog.rowNamed t [101, 114, 114, 111, 114] := List.mem_filter.2 ⟨List.mem_range.2 (by rw [← size]; exact e3), e4⟩
  rw [oneRow] at hm
  obtain rfl := List.mem_singleton.1 hm
  have hh : typeHandle Tryz.prog 166 = .pointer (some ⟨8, 166, none⟩) := by kernel_rfl
  rw [hh] at e5
  have := World.var?_cell et e5 0
  simpa [HandleAt] using this
/-- A world that meets the condition. -/
noncomputable def laidWorld (os : Os) : World :=
  let w0 := World.holding Tryz.prog os ⟨#[], #[], []⟩
  { w0 with heap := w0.heap.modify 1 fun
      | .cells _ t frozen => .cells #[.iface 226 (.agg #[.pointer (some ⟨8, 166, none⟩)])] t frozen
      | o => o }
theorem laidWorld_met (os : Os) (args : Array Value) : laidMetH Tryz.prog Rows.fnSeekRow.laid ((laidWorld os).forCall (fun _ _ => 0) ⟨#[], args, []⟩).memory :=
  laidMetH_of_parts (laidMet_nil _ _) (by kernel_rfl)

theorem lifted (os : Os) (started : os.Started) (H : Type) (enc : TypeId × Value → H) :
    ReturnsInHanded {} Tryz.checked os 4 .any (fun w args => (Rows.fnSeekSpec.pre enc Tryz.prog Tryz.f4 [] false w args ∧ laidMetH Tryz.prog Rows.fnSeekRow.laid w) ∧ sizedMet enc Tryz.prog Tryz.f4 (OpenSpec.ofChange Rows.fnSeekSpec) false w args)
      (Rows.fnSeekSpec.post enc Tryz.prog Tryz.f4 false true false false) := by
  refine returnsInHanded_of_change_and (C := Tryz.checked) (X := fun w _ => laidMetH Tryz.prog Rows.fnSeekRow.laid w) (fun _ _ _ hh h => h.of_heap hh) own started (by kernel_rfl) Tryz.func4
    (ChangeSpec.witness_at (enc := enc) (C := Tryz.checked) (os := os) (X := fun w _ => laidMetH Tryz.prog Rows.fnSeekRow.laid w) false (laidWorld os) #[.slice none 0 0, .slice none 0 0] 8 rfl (by kernel_rfl) (by kernel_rfl) (by kernel_rfl) (by kernel_rfl) (by kernel_rfl) (laidWorld_met os _)) ?_
  intro W base args ds gs before hval0 hW _ _ hL _
  have hval : ∀ (j : Nat) t v, Tryz.f4.params[j]? = some t → args[j]? = some v → Value.okWide Tryz.prog W .any base t v := hval0
  have hW' := hW
  obtain ⟨p, q, hA0, hV, rfl, hfz, hnd⟩ := hW
  have hA : DataW.TrodAll enc Tryz.prog W 0 (fun _ => true) true Tryz.f4.params.toList args.toList ds p := hA0
  rw [Tryz.params4] at hA hval
  obtain ⟨v0, vs0, d0, ds0, p0, q0, hargs, rfl, rfl, h0, r0⟩ := trodAll_cons hA
  obtain ⟨v1, vs1, d1, ds1, p1, q1, rfl, rfl, rfl, h1, r1⟩ := trodAll_cons r0
  obtain ⟨rfl, rfl, rfl⟩ := trodAll_nil r1
  obtain rfl : args = #[v0, v1] := by cases args; simp_all
  obtain ⟨rfl, rfl⟩ := trodVars_none hV
  have k0 := h0
  have k1 := h1
  have lt0 : ∀ x ∈ p0, x.block < W.heap.size := by obtain ⟨m, hm⟩ := k0; exact DataW.trod_lt m _ _ _ hm
  have lt1 : ∀ x ∈ p1, x.block < W.heap.size := by obtain ⟨m, hm⟩ := k1; exact DataW.trod_lt m _ _ _ hm
  obtain ⟨n, hin⟩ : ∃ n, BytesIn W v0 n := by
    obtain ⟨a0, len0, cap0, rfl⟩ := okWide_slice Tryz.underlying22 (hval 0 22 v0 rfl rfl)
    obtain ⟨fuel, hf⟩ := h0
    exact bytes_of_trod (by simpa [Value.cells] using hf) lt0
  obtain ⟨m, hin1⟩ : ∃ m, BytesIn W v1 m := by
    obtain ⟨a0, len0, cap0, rfl⟩ := okWide_slice Tryz.underlying22 (hval 1 22 v1 rfl rfl)
    obtain ⟨fuel, hf⟩ := h1
    exact bytes_of_trod (by simpa [Value.cells] using hf) lt1
  clear hA0 hval0
  refine (walk v0 n v1 m W hin hin1 (handle_of_laid hL)).mono fun e W' ⟨he, bel⟩ => ?_
  subst he
  exact ⟨_, rfl, _, _, _, [], _, [], hW', trodAll_mk1 (shut_bool Tryz.underlying4 _), (trodAll_cons_mk (Below.trod laidOut (by kernel_rfl) (of_decide_eq_true (by kernel_rfl)) k0 bel lt0) (trodAll_cons_mk (Below.trod laidOut (by kernel_rfl) (of_decide_eq_true (by kernel_rfl)) k1 bel lt1) trodAll_mk0)), rfl, bel.frame _, fun h => by cases h⟩

theorem over : Rows.FnSeekSaid :=
  OpenClaim.holds_of_wide 4 Tryz.f4 rfl rfl rfl rfl rfl rfl rfl ⟨rfl, rfl, rfl, rfl, rfl⟩ rfl rfl rfl rfl rfl (by kernel_rfl) Tryz.func4 (by kernel_rfl)
    (of_decide_eq_true (by kernel_rfl)) (by unfold Func.isWrapper; first | (rw [if_pos (by decide +kernel)]; kernel_rfl) | (rw [if_neg (by decide +kernel)]; exact ⟨rfl, rfl⟩))
    (fun os started H enc _ => lifted os started H enc)

theorem card : Rows.FnSeekCardSaid :=
  Claim7.holds_tied_plain_at .later [] [.handle] true Rows.fnSeekCard.stood.harness true
    over (fun _ h => by cases h) (by kernel_rfl) (fun _ h => by cases h) fnSeek_row_tie rfl ⟨rfl, rfl⟩ (by kernel_rfl) rfl
    (fun f fn hf hfn => by
      obtain rfl : f = 4 := Option.some.inj ((show Tryz.prog.funcNamed "loop.example/s01854/laws.FnSeek" = some 4 by kernel_rfl).symm.trans hf) |>.symm
      obtain rfl : fn = Tryz.f4 := (Option.some.inj (Tryz.func4.symm.trans hfn)).symm
      exact ⟨by kernel_rfl, fun j t ht => by
        rw [Tryz.params4] at ht
        have h3 : t = 22 := by
          rcases j with _ | _ | j
          · simpa using ht.symm
          · simpa using ht.symm
          · simp at ht
        subst h3
        exact (show Tryz.prog.wantsStandIn 22 = false by kernel_rfl)⟩)
    (by kernel_rfl)
end Go.Proofs.YtlgeffinhbodeaeGreatDoor.exFnSeek
namespace Go.Proofs.YtlgeffinhbodeaeGreatDoor
theorem fnSeek_holds : Rows.FnSeekCardSaid := exFnSeek.card
#print axioms fnSeek_holds
end Go.Proofs.YtlgeffinhbodeaeGreatDoor

