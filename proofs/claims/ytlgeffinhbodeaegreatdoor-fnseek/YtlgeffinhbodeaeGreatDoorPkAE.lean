import Derived.Maps.AppendAt
import Derived.Test.YtlgeffinhbodeaeGreatDoorPkAD
import Derived.Test.YtlgeffinhbodeaeGreatDoorPkAB
import Derived.Test.YtlgeffinhbodeaeGreatDoorPkAC
/-
  The draws: a list of writes.
-/
namespace Go.Proofs.YtlgeffinhbodeaeGreatDoor
open Go.ChangeShapes Go.WideShapes Go.ChangeAt Go.RowKit Go.Deep
set_option linter.unusedVariables false
set_option linter.unusedSimpArgs false
set_option maxRecDepth 100000

/-- A list of writes of the call's own, beside the drawing. -/
structure LInv (base cb : Nat) (bv : Value) (n : Nat) (w : World) (g cp : Nat) (es : List Ent) (wr : World) : Prop where
  row : OwnE wr w.heap.size g cp es
  ok : ∀ e ∈ es, e.small
  d : DrawAt base cb bv n wr
  c : Chg (fun k => k = cb) w wr
  lt : cb < w.heap.size
  hb : base ≤ w.heap.size
/-- And a variable with an entry. -/
structure YInv (base cb : Nat) (bv : Value) (n : Nat) (w : World) (g cp : Nat) (es : List Ent) (vb : Nat) (f : Ent) (wr : World) : Prop extends LInv base cb bv n w g cp es wr where
  var : OwnE wr w.heap.size vb 1 [f]
  ne : ¬ g = vb
theorem LInv.call {base cb : Nat} {bv : Value} {n : Nat} {w : World} {g cp : Nat} {es : List Ent} {wr w1 : World} (h : LInv base cb bv n w g cp es wr) (hd : Drew base cb bv n wr w1) : LInv base cb bv n w g cp es w1 :=
  ⟨own_chg h.row hd.2 (fun k q => by simp [Value.ownBlock] at q; subst q; have := h.row.lt.1; have := h.lt; omega), h.ok, hd.1, h.c.trans hd.2, h.lt, h.hb⟩
theorem LInv.below {base cb : Nat} {bv : Value} {n : Nat} {w : World} {g cp : Nat} {es : List Ent} {wr w1 : World} (h : LInv base cb bv n w g cp es wr) (hb : Below wr.heap.size wr w1) : LInv base cb bv n w g cp es w1 :=
  ⟨h.row.below hb h.row.lt.2, h.ok, h.d.below hb, h.c.trans (Chg.of_below hb), h.lt, h.hb⟩
theorem LInv.make {base cb : Nat} {bv : Value} {n : Nat} {w : World} {g cp : Nat} {es : List Ent} {wr : World} (h : LInv base cb bv n w g cp es wr) (f : Ent) : YInv base cb bv n w g cp es wr.heap.size f (wr.alloc (Obj.cells #[.string f.row, .string f.fam, .string f.qual, .int .u64 f.ts, .int .i64 f.kind, .string f.val] 45)) :=
  { h.below ((Below.refl _ _).alloc (Nat.le_refl _) _) with
    var := ownE_new wr w.heap.size f h.c.size
    ne := by have := h.row.lt.2; omega }
theorem YInv.call {base cb : Nat} {bv : Value} {n : Nat} {w : World} {g cp : Nat} {es : List Ent} {vb : Nat} {f : Ent} {wr w1 : World} (h : YInv base cb bv n w g cp es vb f wr) (hd : Drew base cb bv n wr w1) : YInv base cb bv n w g cp es vb f w1 :=
  { h.toLInv.call hd with
    var := own_chg h.var hd.2 (fun k q => by simp [Value.ownBlock] at q; subst q; have := h.var.lt.1; have := h.lt; omega)
    ne := h.ne }
theorem YInv.set {base cb : Nat} {bv : Value} {n : Nat} {w : World} {g cp : Nat} {es : List Ent} {vb : Nat} {f : Ent} {wr : World} (h : YInv base cb bv n w g cp es vb f wr) (j : Nat) (f' : Ent) (u : Value) (hj : j < 6) (hc : f'.cells = f.cells.set j u) : YInv base cb bv n w g cp es vb f' (wr.setCell ⟨vb, j, none⟩ u) := by
  have h1 := h.var.set 0 j f f' u rfl hj hc
  simp only [Nat.zero_mul, Nat.zero_add] at h1
  have hl := h.var.lt
  have hcb := h.lt
  have hbb := h.hb
  have hcg : Chg (fun k => k = vb) wr (wr.setCell ⟨vb, j, none⟩ u) := Chg.of_set _ _ _ _ rfl
  exact { row := own_chg h.row hcg (fun k q => by simp [Value.ownBlock] at q; subst q; exact h.ne), ok := h.ok, d := h.d.chg hcg (by omega) (fun k q => by omega), c := Chg.grown_new h.c (grown_set wr vb j u) (fun k hk => by cases hk; exact hl.1), lt := h.lt, hb := h.hb, var := h1, ne := h.ne }
theorem YInv.cells {base cb : Nat} {bv : Value} {n : Nat} {w : World} {g cp : Nat} {es : List Ent} {vb : Nat} {f : Ent} {wr : World} (h : YInv base cb bv n w g cp es vb f wr) :
    (wr.cell? ⟨vb, 0, none⟩ = some (.string f.row) ∧ wr.cell? ⟨vb, 1, none⟩ = some (.string f.fam) ∧ wr.cell? ⟨vb, 2, none⟩ = some (.string f.qual) ∧ wr.cell? ⟨vb, 3, none⟩ = some (.int .u64 f.ts) ∧ wr.cell? ⟨vb, 4, none⟩ = some (.int .i64 f.kind) ∧ wr.cell? ⟨vb, 5, none⟩ = some (.string f.val)) ∧ ∀ j, wr.frozen? ⟨vb, j, none⟩ = false := by
  have := h.var.at 0 f rfl
  simp only [Nat.zero_add, Nat.zero_mul] at this
  exact ⟨this, fun j => World.ownsRow.frozenAt h.var j⟩
theorem YInv.push {base cb : Nat} {bv : Value} {n : Nat} {w : World} {g cp : Nat} {es : List Ent} {vb : Nat} {f : Ent} {wr w' : World} {o : Obj} (h : YInv base cb bv n w g cp es vb f wr) (hf : f.small) {g' cp' : Nat} (hO : OwnE w' w.heap.size g' cp' (es ++ [f])) (hgr : (wr.alloc o).grownBy w' (some g)) : LInv base cb bv n w g' cp' (es ++ [f]) w' := by
  have hb : Below wr.heap.size wr (wr.alloc o) := (Below.refl _ _).alloc (Nat.le_refl _) _
  have hl := h.row.lt
  have hcb := h.lt
  have hbb := h.hb
  refine ⟨hO, fun e he => ?_, ?_, ?_, h.lt, h.hb⟩
  · rcases List.mem_append.1 he with q | q
    · exact h.ok e q
    · simp at q; subst q; exact hf
  · exact (h.d.below hb).chg (Chg.of_grown (S := fun k => k = g) hgr (fun k hk => by cases hk; rfl)) (by omega) (fun k q => by omega)
  · exact Chg.grown_new (h.c.trans (Chg.of_below hb)) hgr (fun k hk => by cases hk; exact hl.1)

set_option maxHeartbeats 4000000 in
theorem writes_core (base cb : Nat) (bv : Value) (n : Nat) (most : Nat) (w : World) (h : DrawAt base cb bv n w) (hm : most ≤ 100) :
    Calls Tryz.prog 89 #[.pointer (some ⟨cb, 0, none⟩), .int .i64 most] w fun r w' => ∃ (g cp : Nat) (es : List Ent), r = .returned (.slice (some ⟨g, 0, none⟩) es.length cp) ∧ es.length ≤ 100 ∧ LInv base cb bv n w g cp es w' := by
  have HD : Hid (DrawAt base cb bv n w) := h
  have hlt := h.lt
  have hbase := h.base
  clear h
  go_enter Tryz.func89, Tryz.ntmps89
  go_wp2_with fail
  refine (below_core base cb bv n ((most : Int) / 2 + 1) _ HD.out (by omega) (by omega)).mono ?_
  rintro e w1 ⟨x, rfl, hx0, hx1, hd1⟩
  obtain ⟨W2, hW2⟩ : ∃ W2 : World, W2 = w1.alloc (Obj.cells #[] 45) := ⟨_, rfl⟩
  have H2 : Hid (LInv base cb bv n w w1.heap.size 0 [] W2) := by
    have hb : Below w1.heap.size w1 W2 := by rw [hW2]; exact (Below.refl _ _).alloc (Nat.le_refl _) _
    refine ⟨?_, fun e he => by simp at he, hd1.1.below hb, hd1.2.trans (Chg.of_below hb), hlt.2, hbase⟩
    rw [hW2]
    exact World.ownsRow_made w1 #[] 0 hd1.2.size (Nat.zero_le _) (by simp)
  obtain ⟨m, hm2⟩ : ∃ m : Nat, (most : Int) / 2 + x = (m : Int) := ⟨((most : Int) / 2 + x).toNat, by omega⟩
  have hm3 : m ≤ 100 := by omega
  go_wp2_with fail
  rw [← hW2]
  clear hW2 hm2 hd1
  go_loopw [6, 7] (fun o i wr => ∃ (k g cp : Nat) (es : List Ent), k ≤ m ∧ i = .int .i64 k ∧ o = .slice (some ⟨g, 0, none⟩) k cp ∧ es.length = k ∧ LInv base cb bv n w g cp es wr) (fun _ i _ => m - (intOf i).toNat)
  case atStart => exact ⟨0, _, 0, [], Nat.zero_le _, rfl, rfl, rfl, H2.out⟩
  case round =>
    obtain ⟨k, g, cp, es, hk, rfl, rfl, hel, hL⟩ := hrel
    have HL : Hid (es.length = k ∧ LInv base cb bv n w g cp es wr) := ⟨hel, hL⟩
    clear hel hL
    by_cases hlk : k < m
    · have zk : (k : Int) < (m : Int) := by omega
      go_wp2_with fail
      refine (write_core base cb bv n _ HL.out.2.d).mono ?_
      rintro e w3 ⟨f, rfl, hf, hd3⟩
      have HL3 : Hid (LInv base cb bv n w g cp es w3) := HL.out.2.call hd3
      clear hd3
      obtain ⟨W4, hW4⟩ : ∃ W4 : World, W4 = w3.alloc (Obj.cells #[.string f.row, .string f.fam, .string f.qual, .int .u64 f.ts, .int .i64 f.kind, .string f.val] 45) := ⟨_, rfl⟩
      have HY4 : Hid (YInv base cb bv n w g cp es w3.heap.size f W4 ∧ f.small ∧ es.length = k) := ⟨by rw [hW4]; exact HL3.out.make f, hf, HL.out.1⟩
      go_upto_region 7 with fail
      rw [← hW4]
      clear hW4
      generalize w3.heap.size = vb at *
      by_cases hk0 : k = 0
      · have zk0 : ¬ (0 : Int) < (k : Int) := by omega
        clear hk0
        obtain ⟨⟨k0, k1, k2, k3, k4, k5⟩, _⟩ := HY4.out.1.cells
        have hgX := HY4.out.1.row.lt
        have hsX := HY4.out.1.c.size
        have HKl : Hid (k = es.length) := HY4.out.2.2.symm
        go_wp2_with (at_builtin; refine wpList_append_ent _ rfl _ _ rfl w.heap.size g cp _ _ es f rfl rfl HKl.out ?hO ?hc ?hl ?hb ?_)
        case hO => exact HY4.out.1.row.below ((Below.refl _ _).alloc (Nat.le_refl _) _) (by omega)
        case hc => exact ent_box W4 f
        case hl => rw [← HKl.out]; omega
        case hb => first | (simp; omega) | omega
        intro g' cp' w' hO' hgr
        have HN : Hid (LInv base cb bv n w g' cp' (es ++ [f]) w' ∧ (es ++ [f]).length = k + 1) := ⟨HY4.out.1.push HY4.out.2.1 hO' hgr, by simp [HY4.out.2.2]⟩
        clear hO' hgr
        go_wp2_with fail
        go_roundw
        case rel => exact ⟨k + 1, g', cp', es ++ [f], by omega, by go_num, rfl, HN.out.2, HN.out.1⟩
        case measure => go_light; simp [intOf]; omega
      · have zk0 : (0 : Int) < (k : Int) := by omega
        go_wp2_with fail
        refine (once_core base cb bv n 2 _ HY4.out.1.d (by omega) (by omega)).mono ?_
        rintro e w5 ⟨v, rfl, hv, hd5⟩
        have HY5 : Hid (YInv base cb bv n w g cp es vb f w5 ∧ f.small ∧ es.length = k) := ⟨HY4.out.1.call hd5, HY4.out.2⟩
        clear hd5
        rcases hv with rfl | rfl
        · go_wp2_with fail
          refine (below_core base cb bv n (k : Int) _ HY5.out.1.d (by omega) (by omega)).mono ?_
          rintro e w6 ⟨y, rfl, hy0, hy1, hd6⟩
          have HY6 : Hid (YInv base cb bv n w g cp es vb f w6 ∧ f.small ∧ es.length = k) := ⟨HY5.out.1.call hd6, HY5.out.2⟩
          clear hd6
          obtain ⟨j, rfl⟩ := Int.eq_ofNat_of_zero_le hy0
          obtain ⟨x, hx⟩ : ∃ x, es[j]? = some x := ⟨_, List.getElem?_eq_getElem (by have := HY6.out.2.2; omega)⟩
          have HXs : Hid (x.small) := HY6.out.1.ok x (List.mem_of_getElem? hx)
          have hA := HY6.out.1.set 0 { f with row := x.row } (.string x.row) (by omega) rfl
          have hB := hA.set 1 { f with row := x.row, fam := x.fam } (.string x.fam) (by omega) rfl
          have hC := hB.set 2 { f with row := x.row, fam := x.fam, qual := x.qual } (.string x.qual) (by omega) rfl
          obtain ⟨a0, a1, a2, _⟩ := HY6.out.1.row.at j x hx
          obtain ⟨b0, b1, b2, _⟩ := hA.row.at j x hx
          obtain ⟨c0, c1, c2, _⟩ := hB.row.at j x hx
          simp only [Nat.zero_add] at a0 a1 a2 b0 b1 b2 c0 c1 c2
          obtain ⟨⟨k0, _⟩, kf⟩ := HY6.out.1.cells
          obtain ⟨⟨_, k1, _⟩, kg⟩ := hA.cells
          obtain ⟨⟨_, _, k2, _⟩, kh⟩ := hB.cells
          have kf0 := kf 0
          have kg1 := kg 1
          have kh2 := kh 2
          simp only at k1 k2
          obtain ⟨W7, hW7⟩ : ∃ W7 : World, W7 = ((w6.setCell ⟨vb, 0, none⟩ (.string x.row)).setCell ⟨vb, 1, none⟩ (.string x.fam)).setCell ⟨vb, 2, none⟩ (.string x.qual) := ⟨_, rfl⟩
          have HY7 : Hid (YInv base cb bv n w g cp es vb { f with row := x.row, fam := x.fam, qual := x.qual } W7 ∧ ({ f with row := x.row, fam := x.fam, qual := x.qual } : Ent).small ∧ es.length = k) := by
            refine ⟨by rw [hW7]; exact hC, ⟨HXs.out.row, HXs.out.fam, HXs.out.qual, hf.val, hf.ts, hf.kind⟩, HY6.out.2.2⟩
          clear hA hB hC kf kg kh hx
          go_upto_region 12 with fail
          rw [← hW7]
          clear hW7 a0 a1 a2 b0 b1 b2 c0 c1 c2 k0 k1 k2 kf0 kg1 kh2
          generalize ({ f with row := x.row, fam := x.fam, qual := x.qual } : Ent) = f7 at *
          obtain ⟨⟨k0, k1, k2, k3, k4, k5⟩, _⟩ := HY7.out.1.cells
          have hgX := HY7.out.1.row.lt
          have hsX := HY7.out.1.c.size
          have HKl : Hid (k = es.length) := HY7.out.2.2.symm
          go_wp2_with (at_builtin; refine wpList_append_ent _ rfl _ _ rfl w.heap.size g cp _ _ es f7 rfl rfl HKl.out ?hO ?hc ?hl ?hb ?_)
          case hO => exact HY7.out.1.row.below ((Below.refl _ _).alloc (Nat.le_refl _) _) (by omega)
          case hc => exact ent_box W7 f7
          case hl => rw [← HKl.out]; omega
          case hb => first | (simp; omega) | omega
          intro g' cp' w' hO' hgr
          have HN : Hid (LInv base cb bv n w g' cp' (es ++ [f7]) w' ∧ (es ++ [f7]).length = k + 1) := ⟨HY7.out.1.push HY7.out.2.1 hO' hgr, by simp [HY7.out.2.2]⟩
          clear hO' hgr
          go_wp2_with fail
          go_roundw
          case rel => exact ⟨k + 1, g', cp', es ++ [f7], by omega, by go_num, rfl, HN.out.2, HN.out.1⟩
          case measure => go_light; simp [intOf]; omega
        ·
          obtain ⟨⟨k0, k1, k2, k3, k4, k5⟩, _⟩ := HY5.out.1.cells
          have hgX := HY5.out.1.row.lt
          have hsX := HY5.out.1.c.size
          have HKl : Hid (k = es.length) := HY5.out.2.2.symm
          go_wp2_with (at_builtin; refine wpList_append_ent _ rfl _ _ rfl w.heap.size g cp _ _ es f rfl rfl HKl.out ?hO ?hc ?hl ?hb ?_)
          case hO => exact HY5.out.1.row.below ((Below.refl _ _).alloc (Nat.le_refl _) _) (by omega)
          case hc => exact ent_box w5 f
          case hl => rw [← HKl.out]; omega
          case hb => first | (simp; omega) | omega
          intro g' cp' w' hO' hgr
          have HN : Hid (LInv base cb bv n w g' cp' (es ++ [f]) w' ∧ (es ++ [f]).length = k + 1) := ⟨HY5.out.1.push HY5.out.2.1 hO' hgr, by simp [HY5.out.2.2]⟩
          clear hO' hgr
          go_wp2_with fail
          go_roundw
          case rel => exact ⟨k + 1, g', cp', es ++ [f], by omega, by go_num, rfl, HN.out.2, HN.out.1⟩
          case measure => go_light; simp [intOf]; omega
    · have zk : ¬ (k : Int) < (m : Int) := by omega
      have HE : Hid (k = es.length) := HL.out.1.symm
      go_wp2_with fail
      go_ret
      refine ⟨g, cp, es, ?_, by rw [← HE.out]; omega, HL.out.2⟩
      show Ending.returned (Value.slice (some ⟨g, 0, none⟩) k cp) = _
      rw [HE.out]
end Go.Proofs.YtlgeffinhbodeaeGreatDoor

/-
  spec.BuildRun.
-/
namespace Go.Proofs.YtlgeffinhbodeaeGreatDoor
open Go.ChangeShapes Go.WideShapes Go.ChangeAt Go.RowKit Go.Deep
set_option linter.unusedVariables false

theorem ent_new (wx : World) (f : Ent) : EntsAt (wx.alloc (Obj.cells #[.string f.row, .string f.fam, .string f.qual, .int .u64 f.ts, .int .i64 f.kind, .string f.val] 45)) wx.heap.size 0 [f] := by
  intro j y hy
  obtain rfl : j = 0 := by
    have := (List.getElem?_eq_some_iff.1 hy).1
    simpa using this
  simp at hy
  subst hy
  simp

theorem OwnE.setBelow {w : World} {base g cap : Nat} {es : List Ent} (h : OwnE w base g cap es) (a : Addr) (ha : a.block < base) (u : Value) : OwnE (w.setCell a u) base g cap es := ownsRow_setCell_below h ha u

/-- The deletes of the column among the first 'j'. -/
def LargestTo (ws : List Ent) (e : Ent) (j : Nat) : Prop := ∀ i v, i < j → ws[i]? = some v → v.kind = 2 → sameCol v e = true → v.ts ≤ e.ts
theorem largest_of_to {ws : List Ent} {e : Ent} {j : Nat} (h : LargestTo ws e j) (hj : ws.length ≤ j) : Largest ws e := by
  intro v hv h1 h2
  obtain ⟨i, hi⟩ := List.getElem?_of_mem hv
  exact h i v (by have := (List.getElem?_eq_some_iff.1 hi).1; omega) hi h1 h2
theorem largestTo_succ {ws : List Ent} {e v : Ent} {j : Nat} (h : LargestTo ws e j) (hv : ws[j]? = some v) (hk : v.kind = 2 → sameCol v e = true → v.ts ≤ e.ts) : LargestTo ws e (j + 1) := by
  intro i u hi hu h1 h2
  by_cases e1 : i = j
  · subst e1
    rw [hv] at hu
    simp at hu
    subst hu
    exact hk h1 h2
  · exact h i u (by omega) hu h1 h2
theorem largestTo_bad {ws : List Ent} {e v : Ent} {j k : Nat} (hv : ws[j]? = some v) (h1 : v.kind = 2) (h2 : sameCol v e = true) (h3 : ¬ v.ts ≤ e.ts) (hk : j < k) : ¬ LargestTo ws e k := fun h => h3 (h j v hk hv h1 h2)
theorem largestTo_mono {ws : List Ent} {e : Ent} {j k : Nat} (h : LargestTo ws e k) (hj : j ≤ k) : LargestTo ws e j := fun i v hi => h i v (by omega)

set_option maxHeartbeats 4000000 in
theorem specBuild_core (b off cap : Nat) (ws : List Ent) (w : World) (hE : EntsAt w b off ws) (hok : ∀ e ∈ ws, e.ok) (hB : b < w.heap.size) (hlen : ws.length ≤ 1048576) :
    Calls Tryz.prog 12 #[.slice (some ⟨b, off, none⟩) ws.length cap] w fun r w' =>
      ∃ (g cp : Nat) (R : List Ent), r = .returned (.agg #[.slice (some ⟨g, 0, none⟩) R.length cp]) ∧ OwnE w' w.heap.size g cp R ∧ Below w.heap.size w w' ∧ R.length ≤ ws.length ∧ (GoodW ws → Kept ws ws.length R) ∧ (¬ GoodW ws → R = []) := by
  have HE : Hid (EntsAt w b off ws) := hE
  have HO : Hid (∀ e ∈ ws, e.ok) := hok
  clear hE hok
  obtain ⟨W0, hW0⟩ : ∃ W0 : World, W0 = (w.alloc (Obj.cells #[.slice none 0 0] 37)).alloc (Obj.cells #[] 45) := ⟨_, rfl⟩
  have hb0 : Below w.heap.size w W0 := by rw [hW0]; exact ((Below.refl _ _).alloc (Nat.le_refl _) _).alloc (by simp) _
  have hz0 : w.heap.size + 1 < W0.heap.size := by rw [hW0]; simp
  have ca : W0.cell? ⟨w.heap.size, 0, none⟩ = some (.slice none 0 0) := by rw [hW0]; simp
  have cf : W0.frozen? ⟨w.heap.size, 0, none⟩ = false := by rw [hW0]; simp
  have HS : Hid (OwnE W0 (w.heap.size + 1) (w.heap.size + 1) 0 []) := by
    show OwnE W0 (w.heap.size + 1) (w.heap.size + 1) 0 []
    have h := World.ownsRow_made (base := w.heap.size + 1) (e := 45) (size := 6) (w.alloc (Obj.cells #[.slice none 0 0] 37)) #[] 0 (by simp) (Nat.zero_le _) (by simp)
    rw [hW0]
    have h3 : ((w.alloc (Obj.cells #[.slice none 0 0] 37)).alloc (Obj.cells #[] 45)).ownsRow (w.heap.size + 1) 45 6 (.slice (some ⟨w.heap.size + 1, 0, none⟩) 0 0) 0 [] := by simpa using h
    exact h3
  have HE0 : Hid (EntsAt W0 b off ws) := HE.out.below hb0 hB
  go_enter Tryz.func12, Tryz.ntmps12
  go_wp2_with fail
  rw [← hW0]
  clear hW0
  refine (goodWrites_core b off cap ws _ HE0.out HO.out (by omega) hlen).mono ?_
  rintro e w1 ⟨r, rfl, hr, hb1⟩
  have HR : Hid (r = true ↔ GoodW ws) := hr
  clear hr
  have hs1 := hb1.size
  have ca1 : w1.cell? ⟨w.heap.size, 0, none⟩ = some (.slice none 0 0) := by rw [hb1.cell (p := ⟨w.heap.size, 0, none⟩) (by show w.heap.size < _; omega)]; exact ca
  have cf1 : w1.frozen? ⟨w.heap.size, 0, none⟩ = false := by rw [hb1.frozen (p := ⟨w.heap.size, 0, none⟩) (by show w.heap.size < _; omega)]; exact cf
  have HS1 : Hid (OwnE w1 (w.heap.size + 1) (w.heap.size + 1) 0 []) := HS.out.below hb1 (by omega)
  have HE1 : Hid (EntsAt w1 b off ws) := HE0.out.below hb1 (by omega)
  have k1 : Below w.heap.size w w1 := hb0.trans (hb1.mono (by omega))
  cases r
  · have HN : Hid (¬ GoodW ws) := fun h => Bool.noConfusion (HR.out.2 h)
    go_wp2_with fail
    refine bodyPost_ret (v := .agg #[.slice (some ⟨w.heap.size + 1, 0, none⟩) 0 0]) (by simp [results, Tryz.results12, go_sem, ca1]) rfl ⟨_, _, [], rfl, ?_, k1.setCell (by show w.heap.size ≤ w.heap.size; omega) _, by simp, fun h => absurd h HN.out, fun _ => rfl⟩
    exact (HS1.out.setBelow ⟨w.heap.size, 0, none⟩ (by show w.heap.size < _; omega) _).mono (by omega)
  have HG : Hid (GoodW ws) := HR.out.1 rfl
  clear HR
  go_wp2_with fail
  go_loopw [3, 4] (fun o i wr => ∃ (k g cp : Nat) (R : List Ent), k ≤ ws.length ∧ i = .int .i64 k ∧ o = .slice (some ⟨g, 0, none⟩) R.length cp ∧ OwnE wr (w.heap.size + 1) g cp R ∧ Kept ws k R ∧ R.length ≤ k ∧ Below w1.heap.size w1 wr) (fun _ i _ => ws.length - (intOf i).toNat)
  case atStart => exact ⟨0, _, 0, [], Nat.zero_le _, rfl, rfl, HS1.out, kept_zero ws, Nat.le_refl _, Below.refl _ _⟩
  case round =>
    obtain ⟨k, g, cp, R, hk, rfl, rfl, hO, hK, hRl, hb⟩ := hrel
    obtain ⟨wo, rfl⟩ : ∃ wo : World, wo = wr := ⟨_, rfl⟩
    have HK : Hid (OwnE wo (w.heap.size + 1) g cp R ∧ Kept ws k R) := ⟨hO, hK⟩
    have hg := hO.lt
    have hs := hb.size
    clear hO hK
    by_cases hlt : k < ws.length
    · obtain ⟨e, he⟩ : ∃ e, ws[k]? = some e := ⟨_, List.getElem?_eq_getElem hlt⟩
      have HEo : Hid (EntsAt wo b off ws) := HE1.out.below hb (by omega)
      obtain ⟨c0, c1, c2, c3, c4, c5⟩ := HEo.out k e he
      have HKe : Hid (ws[k]? = some e) := he
      clear he
      obtain ⟨W1, hW1⟩ : ∃ W1 : World, W1 = wo.alloc (Obj.cells #[.string e.row, .string e.fam, .string e.qual, .int .u64 e.ts, .int .i64 e.kind, .string e.val] 45) := ⟨_, rfl⟩
      have hbW : Below wo.heap.size wo W1 := by rw [hW1]; exact (Below.refl _ _).alloc (Nat.le_refl _) _
      have hzW : wo.heap.size < W1.heap.size := by rw [hW1]; simp
      have HN1 : Hid (EntsAt W1 wo.heap.size 0 [e]) := by show EntsAt W1 wo.heap.size 0 [e]; rw [hW1]; exact ent_new wo e
      have HEW : Hid (EntsAt W1 b off ws) := HEo.out.below hbW (by omega)
      cases g2 : (e.kind != 2)
      · have hk2 : e.kind = 2 := by simpa using g2
        have HK2 : Hid (e.kind = 2) := hk2
        clear hk2
        go_wp2_with fail
        rw [← hW1]
        clear hW1 c0 c1 c2 c3 c4 c5
        go_loopw [6, 7] (fun l i wr => ∃ (j : Nat) (lb : Bool), j ≤ ws.length ∧ i = .int .i64 j ∧ l = .bool lb ∧ (lb = true ↔ LargestTo ws e j) ∧ Below W1.heap.size W1 wr) (fun _ i _ => ws.length - (intOf i).toNat)
        case atStart => exact ⟨0, true, Nat.zero_le _, rfl, rfl, iffT (fun i v hi => by omega), Below.refl _ _⟩
        case round =>
          obtain ⟨j, lb, hj, rfl, rfl, hl, hbi⟩ := hrel
          have HL : Hid (lb = true ↔ LargestTo ws e j) := hl
          clear hl
          have hsi := hbi.size
          have hzw : wo.heap.size < wr.heap.size := by omega
          by_cases hjl : j < ws.length
          · obtain ⟨v, hv⟩ : ∃ v, ws[j]? = some v := ⟨_, List.getElem?_eq_getElem hjl⟩
            obtain ⟨c0, c1, c2, c3, c4, c5⟩ := HEW.out.below hbi (by omega) j v hv
            obtain ⟨d0, d1, d2, d3, d4, d5⟩ := HN1.out.below hbi (by omega) 0 e rfl
            simp only [Nat.zero_add, Nat.zero_mul] at d0 d1 d2 d3 d4 d5
            have HVj : Hid (ws[j]? = some v) := hv
            clear hv
            have hb7 : Below W1.heap.size W1 (wr.alloc (Obj.cells #[.string v.row, .string v.fam, .string v.qual, .int .u64 v.ts, .int .i64 v.kind, .string v.val] 45)) := hbi.alloc hbi.size _
            cases gv : (v.kind == 2)
            · have HL' : Hid (lb = true ↔ LargestTo ws e (j + 1)) := ⟨fun h => largestTo_succ (HL.out.1 h) HVj.out (fun q => by simp at gv; exact absurd q gv), fun h => HL.out.2 (largestTo_mono h (by omega))⟩
              go_wp2_with fail
              go_roundw
              case rel => exact ⟨j + 1, lb, by omega, by go_num, rfl, HL'.out, hb7⟩
              case measure => go_light; simp [intOf]; omega
            · have HV2 : Hid (v.kind = 2) := by show v.kind = 2; simpa using gv
              go_wp2_with fail
              refine (sameColumn_any v e _).mono ?_
              rintro e' w8 ⟨rfl, hb8⟩
              have hb9 := hb7.trans (hb8.mono (by simp; omega))
              obtain ⟨hc8, hf8⟩ := bcell hb8
              have hs8 := hb8.size
              have cw : ∀ o, w8.cell? ⟨wo.heap.size, o, none⟩ = wr.cell? ⟨wo.heap.size, o, none⟩ := fun o => by
                rw [hc8 _ _ (by simp; omega), World.cell?_alloc_past _ _ _ hzw]
              cases hsc : sameCol v e
              · have HL' : Hid (lb = true ↔ LargestTo ws e (j + 1)) := ⟨fun h => largestTo_succ (HL.out.1 h) HVj.out (fun _ q => by rw [hsc] at q; cases q), fun h => HL.out.2 (largestTo_mono h (by omega))⟩
                go_wp2_with fail
                go_roundw
                case rel => exact ⟨j + 1, lb, by omega, by go_num, rfl, HL'.out, hb9⟩
                case measure => go_light; simp [intOf]; omega
              · by_cases ht : e.ts < v.ts
                · have HL' : Hid (false = true ↔ LargestTo ws e (j + 1)) := iffF (largestTo_bad HVj.out HV2.out hsc (by omega) (by omega))
                  go_wp2_with fail
                  go_roundw
                  case rel => exact ⟨j + 1, false, by omega, by go_num, rfl, HL'.out, hb9⟩
                  case measure => go_light; simp [intOf]; omega
                · have HL' : Hid (lb = true ↔ LargestTo ws e (j + 1)) := ⟨fun h => largestTo_succ (HL.out.1 h) HVj.out (fun _ _ => by omega), fun h => HL.out.2 (largestTo_mono h (by omega))⟩
                  go_wp2_with fail
                  go_roundw
                  case rel => exact ⟨j + 1, lb, by omega, by go_num, rfl, HL'.out, hb9⟩
                  case measure => go_light; simp [intOf]; omega
          · have HLL : Hid (lb = true ↔ Largest ws e) := ⟨fun h => largest_of_to (HL.out.1 h) (by omega), fun h => HL.out.2 (fun i v hi hv => h v (List.mem_of_getElem? hv))⟩
            have hb3 : Below w1.heap.size w1 wr := (hb.trans (hbW.mono (by omega))).trans (hbi.mono (by omega))
            have HK3 : Hid (OwnE wr (w.heap.size + 1) g cp R) := (HK.out.1.below hbW hg.2).below hbi (by omega)
            cases lb
            · have HS' : Hid (Kept ws (k + 1) R) := kept_skip HK.out.2 HKe.out (fun h => by
                rcases h with h | h
                · exact h.1 HK2.out
                · exact Bool.noConfusion (HLL.out.2 h.2))
              go_wp2_with fail
              go_roundw
              case rel => exact ⟨k + 1, g, cp, R, by omega, by go_num, rfl, HK3.out, HS'.out, by omega, hb3⟩
              case measure => go_light; simp [intOf]; omega
            · have HS' : Hid (Kept ws (k + 1) (into R e)) := kept_step HG.out.2 HK.out.2 HKe.out (.inr ⟨HK2.out, HLL.out.1 rfl⟩)
              obtain ⟨d0, d1, d2, d3, d4, d5⟩ := HN1.out.below hbi (by omega) 0 e rfl
              simp only [Nat.zero_add, Nat.zero_mul] at d0 d1 d2 d3 d4 d5
              go_wp2_with fail
              refine (into_core g 0 cp R e _ HK3.out.at (by have := HK3.out.lt; omega) (by omega)).mono ?_
              rintro e' w3 ⟨g', cp', rfl, hO', hb4⟩
              have HO' : Hid (OwnE w3 wr.heap.size g' cp' (into R e)) := hO'
              have hlen' := length_into R e
              have hb5 := hb3.trans (hb4.mono (by omega))
              clear hO'
              go_wp2_with fail
              go_roundw
              case rel => exact ⟨k + 1, g', cp', into R e, by omega, by go_num, rfl, HO'.out.mono (by omega), HS'.out, by omega, hb5⟩
              case measure => go_light; simp [intOf]; omega
      · have HK2 : Hid (¬ e.kind = 2) := by show ¬ e.kind = 2; simpa using g2
        go_wp2_with fail
        rw [← hW1]
        clear hW1 c0 c1 c2 c3 c4 c5
        refine (stands_core b off cap ws k e _ HEW.out (by omega) HKe.out hlen).mono ?_
        rintro e' w2 ⟨s, rfl, hst, hb2⟩
        have HST : Hid (s = true ↔ Stands ws k) := hst
        clear hst
        have hs2 := hb2.size
        have hb3 : Below w1.heap.size w1 w2 := (hb.trans (hbW.mono (by omega))).trans (hb2.mono (by omega))
        have HK3 : Hid (OwnE w2 (w.heap.size + 1) g cp R) := (HK.out.1.below hbW hg.2).below hb2 (by omega)
        cases s
        · have HS' : Hid (Kept ws (k + 1) R) := kept_skip HK.out.2 HKe.out (fun h => by
            rcases h with h | h
            · exact Bool.noConfusion (HST.out.2 h.2)
            · exact HK2.out h.1)
          go_wp2_with fail
          go_roundw
          case rel => exact ⟨k + 1, g, cp, R, by omega, by go_num, rfl, HK3.out, HS'.out, by omega, hb3⟩
          case measure => go_light; simp [intOf]; omega
        · have HS' : Hid (Kept ws (k + 1) (into R e)) := kept_step HG.out.2 HK.out.2 HKe.out (.inl ⟨HK2.out, HST.out.1 rfl⟩)
          obtain ⟨d0, d1, d2, d3, d4, d5⟩ := HN1.out.below hb2 (by omega) 0 e rfl
          simp only [Nat.zero_add, Nat.zero_mul] at d0 d1 d2 d3 d4 d5
          go_wp2_with fail
          refine (into_core g 0 cp R e _ HK3.out.at (by have := HK3.out.lt; omega) (by omega)).mono ?_
          rintro e' w3 ⟨g', cp', rfl, hO', hb4⟩
          have HO' : Hid (OwnE w3 w2.heap.size g' cp' (into R e)) := hO'
          have hlen' := length_into R e
          have hb5 := hb3.trans (hb4.mono (by omega))
          clear hO'
          go_wp2_with fail
          go_roundw
          case rel => exact ⟨k + 1, g', cp', into R e, by omega, by go_num, rfl, HO'.out.mono (by omega), HS'.out, by omega, hb5⟩
          case measure => go_light; simp [intOf]; omega
    · have hkk : k = ws.length := by omega
      have ca2 : wo.cell? ⟨w.heap.size, 0, none⟩ = some (.slice none 0 0) := by rw [hb.cell (p := ⟨w.heap.size, 0, none⟩) (by show w.heap.size < _; omega)]; exact ca1
      have cf2 : wo.frozen? ⟨w.heap.size, 0, none⟩ = false := by rw [hb.frozen (p := ⟨w.heap.size, 0, none⟩) (by show w.heap.size < _; omega)]; exact cf1
      have HKK : Hid (Kept ws ws.length R) := by show Kept ws ws.length R; rw [← hkk]; exact HK.out.2
      go_wp2_with fail
      refine bodyPost_ret (v := .agg #[.slice (some ⟨g, 0, none⟩) R.length cp]) (by simp [results, Tryz.results12, go_sem, ca2]) rfl ⟨_, _, R, rfl, ?_, (k1.trans (hb.mono (by omega))).setCell (by show w.heap.size ≤ w.heap.size; omega) _, by omega, fun _ => HKK.out, fun h => absurd HG.out h⟩
      exact (HK.out.1.setBelow ⟨w.heap.size, 0, none⟩ (by show w.heap.size < _; omega) _).mono (by omega)
end Go.Proofs.YtlgeffinhbodeaeGreatDoor

/-
  The draws: their beginning, sizes, one run.
-/
namespace Go.Proofs.YtlgeffinhbodeaeGreatDoor
open Go.ChangeShapes Go.WideShapes Go.ChangeAt Go.RowKit Go.Deep
set_option linter.unusedVariables false
set_option linter.unusedSimpArgs false
set_option maxRecDepth 100000

set_option maxHeartbeats 1000000 in
theorem new_core (bv : Value) (n : Nat) (w : World) (h : CodeAt w w.heap.size bv n) :
    Calls Tryz.prog 20 #[bv] w fun e w' => e = .returned (.pointer (some ⟨w.heap.size, 0, none⟩)) ∧ DrawAt w.heap.size w.heap.size bv n w' ∧ Below w.heap.size w w' := by
  have HC : Hid (CodeAt w w.heap.size bv n) := h
  have hn := h.1
  have fin : ∀ x : Int, DrawAt w.heap.size w.heap.size bv n (w.alloc (Obj.cells #[bv, .int .i64 0, .int .i64 x] 115)) ∧ Below w.heap.size w (w.alloc (Obj.cells #[bv, .int .i64 0, .int .i64 x] 115)) := fun x => by
    have hb : Below w.heap.size w (w.alloc (Obj.cells #[bv, .int .i64 0, .int .i64 x] 115)) := (Below.refl _ _).alloc (Nat.le_refl _) _
    refine ⟨⟨⟨0, x, Nat.zero_le _, ?_⟩, HC.out.chg (T := fun _ => False) (Chg.of_below hb) (Nat.le_refl _) (fun k q => q.elim), hb.size⟩, hb⟩
    exact World.ownsRow_lit (base := w.heap.size) (e := 115) (size := 3) w #[bv, .int .i64 0, .int .i64 x] 1 (Nat.le_refl _) (by decide) rfl
  have HF : Hid (∀ x : Int, DrawAt w.heap.size w.heap.size bv n (w.alloc (Obj.cells #[bv, .int .i64 0, .int .i64 x] 115)) ∧ Below w.heap.size w (w.alloc (Obj.cells #[bv, .int .i64 0, .int .i64 x] 115))) := fin
  clear fin
  rcases h.2 with ⟨a, cap, rfl, rfl⟩ | ⟨b, off, cap, rfl, hlt, hx⟩
  · go_enter Tryz.func20, Tryz.ntmps20
    go_wp2_with fail
    go_loopw [3, 4] (fun h i wr => (∃ x : Int, h = .int .i64 x) ∧ i = .int .i64 0 ∧ wr = w) (fun _ _ _ => 0)
    case atStart => exact ⟨⟨_, rfl⟩, rfl, rfl⟩
    case round =>
      obtain ⟨⟨x, rfl⟩, rfl, rfl⟩ := hrel
      go_wp2_with fail
      go_ret
      exact ⟨rfl, (HF.out x).1, (HF.out x).2⟩
  · have HX : Hid (∀ k, k < n → ∃ x : Int, w.cell? ⟨b, off + k, none⟩ = some (.int .u8 x) ∧ 0 ≤ x ∧ x < 256) := hx
    clear hx h
    go_enter Tryz.func20, Tryz.ntmps20
    go_wp2_with fail
    go_loopw [3, 4] (fun h i wr => ∃ (k : Nat) (x : Int), k ≤ n ∧ h = .int .i64 x ∧ i = .int .i64 k ∧ wr = w) (fun _ i _ => n - (intOf i).toNat)
    case atStart => exact ⟨0, _, Nat.zero_le _, rfl, rfl, rfl⟩
    case round =>
      obtain ⟨k, x, hk, rfl, rfl, rfl⟩ := hrel
      by_cases hkn : k < n
      · obtain ⟨y, hc, hy0, hy1⟩ := HX.out k hkn
        have zk : (k : Int) < (n : Int) := by omega
        go_wp2_with fail
        go_roundw
        case rel => exact ⟨k + 1, _, by omega, rfl, by go_num, trivial⟩
        case measure => go_light; simp [intOf]; omega
      · have zk : ¬ (k : Int) < (n : Int) := by omega
        go_wp2_with fail
        go_ret
        exact ⟨rfl, (HF.out x).1, (HF.out x).2⟩

set_option maxHeartbeats 400000 in
theorem size_core (a : Option Addr) (n cap : Nat) (w : World) (hn : n ≤ 1048576) :
    Calls Tryz.prog 90 #[.slice a n cap] w fun e w' => ∃ k : Nat, e = .returned (.int .i64 k) ∧ k ≤ 22 ∧ w' = w := by
  by_cases hb : (22 : Int) < 8 + (n : Int) / 16
  · go_enter Tryz.func90, Tryz.ntmps90
    go_wp2_with fail
    go_ret
    exact ⟨22, rfl, Nat.le_refl _, rfl⟩
  · obtain ⟨k, hk⟩ : ∃ k : Nat, (8 : Int) + (n : Int) / 16 = (k : Int) := ⟨8 + n / 16, by omega⟩
    have hk2 : k ≤ 22 := by omega
    go_enter Tryz.func90, Tryz.ntmps90
    go_wp2_with fail
    go_ret
    exact ⟨k, rfl, hk2, rfl⟩

end Go.Proofs.YtlgeffinhbodeaeGreatDoor

/-
  The draws: an entry spoilt.
-/
namespace Go.Proofs.YtlgeffinhbodeaeGreatDoor
open Go.ChangeShapes Go.WideShapes Go.ChangeAt Go.RowKit Go.Deep
set_option linter.unusedVariables false
set_option linter.unusedSimpArgs false
set_option maxRecDepth 100000

theorem WInv.below {base cb : Nat} {bv : Value} {n : Nat} {w : World} {eb rb : Nat} {f : Ent} {wr w1 : World} (h : WInv base cb bv n w eb rb f wr) (hb : Below wr.heap.size wr w1) : WInv base cb bv n w eb rb f w1 := h.call ⟨h.d.below hb, Chg.of_below hb⟩
set_option maxHeartbeats 8000000 in
theorem spoilE_core (base cb : Nat) (bv : Value) (n : Nat) (f : Ent) (w : World) (h : DrawAt base cb bv n w) (hf : f.small) :
    Calls Tryz.prog 91 #[.pointer (some ⟨cb, 0, none⟩), .agg #[.string f.row, .string f.fam, .string f.qual, .int .u64 f.ts, .int .i64 f.kind, .string f.val]] w fun r w' => ∃ e : Ent, r = .returned e.v ∧ e.small ∧ Drew base cb bv n w w' := by
  have hlt := h.lt
  have hbase := h.base
  have HS : Hid f.small := hf
  obtain ⟨Wa, hWa⟩ : ∃ Wa : World, Wa = w.alloc (Obj.cells #[.string f.row, .string f.fam, .string f.qual, .int .u64 f.ts, .int .i64 f.kind, .string f.val] 45) := ⟨_, rfl⟩
  have hba : Below w.heap.size w Wa := by rw [hWa]; exact (Below.refl _ _).alloc (Nat.le_refl _) _
  have hza : Wa.heap.size = w.heap.size + 1 := by rw [hWa]; simp
  obtain ⟨Wb, hWb⟩ : ∃ Wb : World, Wb = Wa.alloc (Obj.cells #[.string ⟨#[]⟩, .string ⟨#[]⟩, .string ⟨#[]⟩, .int .u64 0, .int .i64 0, .string ⟨#[]⟩] 45) := ⟨_, rfl⟩
  have hbb : Below Wa.heap.size Wa Wb := by rw [hWb]; exact (Below.refl _ _).alloc (Nat.le_refl _) _
  have H0 : Hid (WInv base cb bv n w w.heap.size (w.heap.size + 1) f Wb) := by
    refine ⟨?_, ?_, by omega, (h.below hba).below hbb, (Chg.of_below hba).trans (Chg.of_below hbb), hlt.2, hbase⟩
    · have : OwnE Wa w.heap.size w.heap.size 1 [f] := by rw [hWa]; exact ownE_new w w.heap.size f (Nat.le_refl _)
      exact this.below hbb (by omega)
    · rw [hWb, ← hza]; exact ownE_new Wa w.heap.size zeroE (by omega)
  clear h hlt hf
  go_enter Tryz.func91, Tryz.ntmps91
  go_wp2_with fail
  rw [← hWa, ← hWb]
  clear hWa hWb hba hbb hza
  generalize w.heap.size + 1 = rb at *
  refine (below_core base cb bv n 7 _ H0.out.d (by omega) (by omega)).mono ?_
  rintro e w5 ⟨x, rfl, hx0, hx1, hd5⟩
  have H5 : Hid (WInv base cb bv n w w.heap.size rb f w5) := H0.out.call hd5
  clear hd5
  have hx : x = 0 ∨ x = 1 ∨ x = 2 ∨ x = 3 ∨ x = 4 ∨ x = 5 ∨ x = 6 := by omega
  clear hx0 hx1
  rcases hx with rfl | rfl | rfl | rfl | rfl | rfl | rfl
  · obtain ⟨⟨c0, c1, c2, c3, c4, c5⟩, f1⟩ := H5.out.cells
    have g0 := f1 0
    obtain ⟨W7, hW7⟩ : ∃ W7 : World, W7 = w5.setCell ⟨w.heap.size, 0, none⟩ (.string ⟨#[]⟩) := ⟨_, rfl⟩
    have H7 : Hid (WInv base cb bv n w w.heap.size rb ⟨⟨#[]⟩, f.fam, f.qual, f.ts, f.kind, f.val⟩ W7 ∧ (⟨⟨#[]⟩, f.fam, f.qual, f.ts, f.kind, f.val⟩ : Ent).small) := ⟨by rw [hW7]; exact H5.out.set 0 _ _ (by omega) rfl, ⟨by show (0 : Nat) ≤ 1000; omega, HS.out.fam, HS.out.qual, HS.out.val, HS.out.ts, HS.out.kind⟩⟩
    clear f1
    go_upto_region 4 with fail
    rw [← hW7]
    clear hW7 c0 c1 c2 c3 c4 c5 g0
    obtain ⟨⟨k0, k1, k2, k3, k4, k5⟩, _⟩ := H7.out.1.cells
    obtain ⟨⟨l0, l1, l2, l3, l4, l5⟩, lf, _⟩ := H7.out.1.back
    simp only at k0 k1 k2 k3 k4 k5
    obtain ⟨W9, hW9⟩ : ∃ W9 : World, W9 = ((((((W7.setCell ⟨rb, 0, none⟩ (.string (⟨⟨#[]⟩, f.fam, f.qual, f.ts, f.kind, f.val⟩ : Ent).row)).setCell ⟨rb, 1, none⟩ (.string (⟨⟨#[]⟩, f.fam, f.qual, f.ts, f.kind, f.val⟩ : Ent).fam)).setCell ⟨rb, 2, none⟩ (.string (⟨⟨#[]⟩, f.fam, f.qual, f.ts, f.kind, f.val⟩ : Ent).qual)).setCell ⟨rb, 3, none⟩ (.int .u64 (⟨⟨#[]⟩, f.fam, f.qual, f.ts, f.kind, f.val⟩ : Ent).ts)).setCell ⟨rb, 4, none⟩ (.int .i64 (⟨⟨#[]⟩, f.fam, f.qual, f.ts, f.kind, f.val⟩ : Ent).kind)).setCell ⟨rb, 5, none⟩ (.string (⟨⟨#[]⟩, f.fam, f.qual, f.ts, f.kind, f.val⟩ : Ent).val)) := ⟨_, rfl⟩
    obtain ⟨⟨p0, p1, p2, p3, p4, p5⟩, hdr⟩ := H7.out.1.back.2.2 W9 hW9
    have HR : Hid ((⟨⟨#[]⟩, f.fam, f.qual, f.ts, f.kind, f.val⟩ : Ent).small ∧ Drew base cb bv n w W9) := ⟨H7.out.2, hdr⟩
    clear hdr
    simp only at p0 p1 p2 p3 p4 p5 hW9
    go_wp2_with fail
    rw [← hW9]
    exact bodyPost_ret (v := (⟨⟨#[]⟩, f.fam, f.qual, f.ts, f.kind, f.val⟩ : Ent).v) (by simp [results, Tryz.results91, go_sem, p0, p1, p2, p3, p4, p5]) rfl ⟨⟨⟨#[]⟩, f.fam, f.qual, f.ts, f.kind, f.val⟩, rfl, HR.out.1, HR.out.2⟩
  · go_wp2_with fail
    refine (many_core 98 65 _ (by omega)).mono ?_
    rintro e w6 ⟨s6, rfl, hs6, hb6⟩
    have H6 : Hid (WInv base cb bv n w w.heap.size rb f w6) := H5.out.below hb6
    clear hb6
    obtain ⟨⟨c0, c1, c2, c3, c4, c5⟩, f1⟩ := H6.out.cells
    have g0 := f1 0
    obtain ⟨W7, hW7⟩ : ∃ W7 : World, W7 = w6.setCell ⟨w.heap.size, 0, none⟩ (.string s6) := ⟨_, rfl⟩
    have H7 : Hid (WInv base cb bv n w w.heap.size rb ⟨s6, f.fam, f.qual, f.ts, f.kind, f.val⟩ W7 ∧ (⟨s6, f.fam, f.qual, f.ts, f.kind, f.val⟩ : Ent).small) := ⟨by rw [hW7]; exact H6.out.set 0 _ _ (by omega) rfl, ⟨hs6, HS.out.fam, HS.out.qual, HS.out.val, HS.out.ts, HS.out.kind⟩⟩
    clear f1
    go_upto_region 6 with fail
    rw [← hW7]
    clear hW7 c0 c1 c2 c3 c4 c5 g0
    obtain ⟨⟨k0, k1, k2, k3, k4, k5⟩, _⟩ := H7.out.1.cells
    obtain ⟨⟨l0, l1, l2, l3, l4, l5⟩, lf, _⟩ := H7.out.1.back
    simp only at k0 k1 k2 k3 k4 k5
    obtain ⟨W9, hW9⟩ : ∃ W9 : World, W9 = ((((((W7.setCell ⟨rb, 0, none⟩ (.string (⟨s6, f.fam, f.qual, f.ts, f.kind, f.val⟩ : Ent).row)).setCell ⟨rb, 1, none⟩ (.string (⟨s6, f.fam, f.qual, f.ts, f.kind, f.val⟩ : Ent).fam)).setCell ⟨rb, 2, none⟩ (.string (⟨s6, f.fam, f.qual, f.ts, f.kind, f.val⟩ : Ent).qual)).setCell ⟨rb, 3, none⟩ (.int .u64 (⟨s6, f.fam, f.qual, f.ts, f.kind, f.val⟩ : Ent).ts)).setCell ⟨rb, 4, none⟩ (.int .i64 (⟨s6, f.fam, f.qual, f.ts, f.kind, f.val⟩ : Ent).kind)).setCell ⟨rb, 5, none⟩ (.string (⟨s6, f.fam, f.qual, f.ts, f.kind, f.val⟩ : Ent).val)) := ⟨_, rfl⟩
    obtain ⟨⟨p0, p1, p2, p3, p4, p5⟩, hdr⟩ := H7.out.1.back.2.2 W9 hW9
    have HR : Hid ((⟨s6, f.fam, f.qual, f.ts, f.kind, f.val⟩ : Ent).small ∧ Drew base cb bv n w W9) := ⟨H7.out.2, hdr⟩
    clear hdr
    simp only at p0 p1 p2 p3 p4 p5 hW9
    go_wp2_with fail
    rw [← hW9]
    exact bodyPost_ret (v := (⟨s6, f.fam, f.qual, f.ts, f.kind, f.val⟩ : Ent).v) (by simp [results, Tryz.results91, go_sem, p0, p1, p2, p3, p4, p5]) rfl ⟨⟨s6, f.fam, f.qual, f.ts, f.kind, f.val⟩, rfl, HR.out.1, HR.out.2⟩
  · go_wp2_with fail
    refine (many_core 102 17 _ (by omega)).mono ?_
    rintro e w6 ⟨s6, rfl, hs6, hb6⟩
    have H6 : Hid (WInv base cb bv n w w.heap.size rb f w6) := H5.out.below hb6
    clear hb6
    obtain ⟨⟨c0, c1, c2, c3, c4, c5⟩, f1⟩ := H6.out.cells
    have g0 := f1 1
    obtain ⟨W7, hW7⟩ : ∃ W7 : World, W7 = w6.setCell ⟨w.heap.size, 1, none⟩ (.string s6) := ⟨_, rfl⟩
    have H7 : Hid (WInv base cb bv n w w.heap.size rb ⟨f.row, s6, f.qual, f.ts, f.kind, f.val⟩ W7 ∧ (⟨f.row, s6, f.qual, f.ts, f.kind, f.val⟩ : Ent).small) := ⟨by rw [hW7]; exact H6.out.set 1 _ _ (by omega) rfl, ⟨HS.out.row, hs6, HS.out.qual, HS.out.val, HS.out.ts, HS.out.kind⟩⟩
    clear f1
    go_upto_region 8 with fail
    rw [← hW7]
    clear hW7 c0 c1 c2 c3 c4 c5 g0
    obtain ⟨⟨k0, k1, k2, k3, k4, k5⟩, _⟩ := H7.out.1.cells
    obtain ⟨⟨l0, l1, l2, l3, l4, l5⟩, lf, _⟩ := H7.out.1.back
    simp only at k0 k1 k2 k3 k4 k5
    obtain ⟨W9, hW9⟩ : ∃ W9 : World, W9 = ((((((W7.setCell ⟨rb, 0, none⟩ (.string (⟨f.row, s6, f.qual, f.ts, f.kind, f.val⟩ : Ent).row)).setCell ⟨rb, 1, none⟩ (.string (⟨f.row, s6, f.qual, f.ts, f.kind, f.val⟩ : Ent).fam)).setCell ⟨rb, 2, none⟩ (.string (⟨f.row, s6, f.qual, f.ts, f.kind, f.val⟩ : Ent).qual)).setCell ⟨rb, 3, none⟩ (.int .u64 (⟨f.row, s6, f.qual, f.ts, f.kind, f.val⟩ : Ent).ts)).setCell ⟨rb, 4, none⟩ (.int .i64 (⟨f.row, s6, f.qual, f.ts, f.kind, f.val⟩ : Ent).kind)).setCell ⟨rb, 5, none⟩ (.string (⟨f.row, s6, f.qual, f.ts, f.kind, f.val⟩ : Ent).val)) := ⟨_, rfl⟩
    obtain ⟨⟨p0, p1, p2, p3, p4, p5⟩, hdr⟩ := H7.out.1.back.2.2 W9 hW9
    have HR : Hid ((⟨f.row, s6, f.qual, f.ts, f.kind, f.val⟩ : Ent).small ∧ Drew base cb bv n w W9) := ⟨H7.out.2, hdr⟩
    clear hdr
    simp only at p0 p1 p2 p3 p4 p5 hW9
    go_wp2_with fail
    rw [← hW9]
    exact bodyPost_ret (v := (⟨f.row, s6, f.qual, f.ts, f.kind, f.val⟩ : Ent).v) (by simp [results, Tryz.results91, go_sem, p0, p1, p2, p3, p4, p5]) rfl ⟨⟨f.row, s6, f.qual, f.ts, f.kind, f.val⟩, rfl, HR.out.1, HR.out.2⟩
  · obtain ⟨⟨c0, c1, c2, c3, c4, c5⟩, f1⟩ := H5.out.cells
    have g0 := f1 4
    obtain ⟨W7, hW7⟩ : ∃ W7 : World, W7 = w5.setCell ⟨w.heap.size, 4, none⟩ (.int .i64 3) := ⟨_, rfl⟩
    have H7 : Hid (WInv base cb bv n w w.heap.size rb ⟨f.row, f.fam, f.qual, f.ts, 3, f.val⟩ W7 ∧ (⟨f.row, f.fam, f.qual, f.ts, 3, f.val⟩ : Ent).small) := ⟨by rw [hW7]; exact H5.out.set 4 _ _ (by omega) rfl, ⟨HS.out.row, HS.out.fam, HS.out.qual, HS.out.val, HS.out.ts, by simp⟩⟩
    clear f1
    go_upto_region 10 with fail
    rw [← hW7]
    clear hW7 c0 c1 c2 c3 c4 c5 g0
    obtain ⟨⟨k0, k1, k2, k3, k4, k5⟩, _⟩ := H7.out.1.cells
    obtain ⟨⟨l0, l1, l2, l3, l4, l5⟩, lf, _⟩ := H7.out.1.back
    simp only at k0 k1 k2 k3 k4 k5
    obtain ⟨W9, hW9⟩ : ∃ W9 : World, W9 = ((((((W7.setCell ⟨rb, 0, none⟩ (.string (⟨f.row, f.fam, f.qual, f.ts, 3, f.val⟩ : Ent).row)).setCell ⟨rb, 1, none⟩ (.string (⟨f.row, f.fam, f.qual, f.ts, 3, f.val⟩ : Ent).fam)).setCell ⟨rb, 2, none⟩ (.string (⟨f.row, f.fam, f.qual, f.ts, 3, f.val⟩ : Ent).qual)).setCell ⟨rb, 3, none⟩ (.int .u64 (⟨f.row, f.fam, f.qual, f.ts, 3, f.val⟩ : Ent).ts)).setCell ⟨rb, 4, none⟩ (.int .i64 (⟨f.row, f.fam, f.qual, f.ts, 3, f.val⟩ : Ent).kind)).setCell ⟨rb, 5, none⟩ (.string (⟨f.row, f.fam, f.qual, f.ts, 3, f.val⟩ : Ent).val)) := ⟨_, rfl⟩
    obtain ⟨⟨p0, p1, p2, p3, p4, p5⟩, hdr⟩ := H7.out.1.back.2.2 W9 hW9
    have HR : Hid ((⟨f.row, f.fam, f.qual, f.ts, 3, f.val⟩ : Ent).small ∧ Drew base cb bv n w W9) := ⟨H7.out.2, hdr⟩
    clear hdr
    simp only at p0 p1 p2 p3 p4 p5 hW9
    go_wp2_with fail
    rw [← hW9]
    exact bodyPost_ret (v := (⟨f.row, f.fam, f.qual, f.ts, 3, f.val⟩ : Ent).v) (by simp [results, Tryz.results91, go_sem, p0, p1, p2, p3, p4, p5]) rfl ⟨⟨f.row, f.fam, f.qual, f.ts, 3, f.val⟩, rfl, HR.out.1, HR.out.2⟩
  · go_wp2_with fail
    refine (many_core 118 201 _ (by omega)).mono ?_
    rintro e w6 ⟨s6, rfl, hs6, hb6⟩
    have H6 : Hid (WInv base cb bv n w w.heap.size rb f w6) := H5.out.below hb6
    clear hb6
    obtain ⟨⟨c0, c1, c2, c3, c4, c5⟩, f1⟩ := H6.out.cells
    have g0 := f1 5
    obtain ⟨W7, hW7⟩ : ∃ W7 : World, W7 = w6.setCell ⟨w.heap.size, 5, none⟩ (.string s6) := ⟨_, rfl⟩
    have H7 : Hid (WInv base cb bv n w w.heap.size rb ⟨f.row, f.fam, f.qual, f.ts, f.kind, s6⟩ W7 ∧ (⟨f.row, f.fam, f.qual, f.ts, f.kind, s6⟩ : Ent).small) := ⟨by rw [hW7]; exact H6.out.set 5 _ _ (by omega) rfl, ⟨HS.out.row, HS.out.fam, HS.out.qual, hs6, HS.out.ts, HS.out.kind⟩⟩
    clear f1
    go_upto_region 12 with fail
    rw [← hW7]
    clear hW7 c0 c1 c2 c3 c4 c5 g0
    obtain ⟨⟨k0, k1, k2, k3, k4, k5⟩, _⟩ := H7.out.1.cells
    obtain ⟨⟨l0, l1, l2, l3, l4, l5⟩, lf, _⟩ := H7.out.1.back
    simp only at k0 k1 k2 k3 k4 k5
    obtain ⟨W9, hW9⟩ : ∃ W9 : World, W9 = ((((((W7.setCell ⟨rb, 0, none⟩ (.string (⟨f.row, f.fam, f.qual, f.ts, f.kind, s6⟩ : Ent).row)).setCell ⟨rb, 1, none⟩ (.string (⟨f.row, f.fam, f.qual, f.ts, f.kind, s6⟩ : Ent).fam)).setCell ⟨rb, 2, none⟩ (.string (⟨f.row, f.fam, f.qual, f.ts, f.kind, s6⟩ : Ent).qual)).setCell ⟨rb, 3, none⟩ (.int .u64 (⟨f.row, f.fam, f.qual, f.ts, f.kind, s6⟩ : Ent).ts)).setCell ⟨rb, 4, none⟩ (.int .i64 (⟨f.row, f.fam, f.qual, f.ts, f.kind, s6⟩ : Ent).kind)).setCell ⟨rb, 5, none⟩ (.string (⟨f.row, f.fam, f.qual, f.ts, f.kind, s6⟩ : Ent).val)) := ⟨_, rfl⟩
    obtain ⟨⟨p0, p1, p2, p3, p4, p5⟩, hdr⟩ := H7.out.1.back.2.2 W9 hW9
    have HR : Hid ((⟨f.row, f.fam, f.qual, f.ts, f.kind, s6⟩ : Ent).small ∧ Drew base cb bv n w W9) := ⟨H7.out.2, hdr⟩
    clear hdr
    simp only at p0 p1 p2 p3 p4 p5 hW9
    go_wp2_with fail
    rw [← hW9]
    exact bodyPost_ret (v := (⟨f.row, f.fam, f.qual, f.ts, f.kind, s6⟩ : Ent).v) (by simp [results, Tryz.results91, go_sem, p0, p1, p2, p3, p4, p5]) rfl ⟨⟨f.row, f.fam, f.qual, f.ts, f.kind, s6⟩, rfl, HR.out.1, HR.out.2⟩
  · have hA := H5.out.set 4 ⟨f.row, f.fam, f.qual, f.ts, 1, f.val⟩ (.int .i64 1) (by omega) rfl
    obtain ⟨⟨_, _, _, _, c4, _⟩, f1⟩ := H5.out.cells
    obtain ⟨⟨_, _, _, _, _, c5⟩, f2⟩ := hA.cells
    have g4 := f1 4
    have g5 := f2 5
    simp only at c5
    obtain ⟨W7, hW7⟩ : ∃ W7 : World, W7 = (w5.setCell ⟨w.heap.size, 4, none⟩ (.int .i64 1)).setCell ⟨w.heap.size, 5, none⟩ (.string ⟨#[120]⟩) := ⟨_, rfl⟩
    have H7 : Hid (WInv base cb bv n w w.heap.size rb ⟨f.row, f.fam, f.qual, f.ts, 1, ⟨#[120]⟩⟩ W7 ∧ (⟨f.row, f.fam, f.qual, f.ts, 1, ⟨#[120]⟩⟩ : Ent).small) := ⟨by rw [hW7]; exact hA.set 5 _ _ (by omega) rfl, ⟨HS.out.row, HS.out.fam, HS.out.qual, by show (1 : Nat) ≤ 1000; omega, HS.out.ts, by simp⟩⟩
    clear hA f1 f2
    go_upto_region 15 with fail
    rw [← hW7]
    clear hW7 c4 c5 g4 g5
    obtain ⟨⟨k0, k1, k2, k3, k4, k5⟩, _⟩ := H7.out.1.cells
    obtain ⟨⟨l0, l1, l2, l3, l4, l5⟩, lf, _⟩ := H7.out.1.back
    simp only at k0 k1 k2 k3 k4 k5
    obtain ⟨W9, hW9⟩ : ∃ W9 : World, W9 = ((((((W7.setCell ⟨rb, 0, none⟩ (.string (⟨f.row, f.fam, f.qual, f.ts, 1, ⟨#[120]⟩⟩ : Ent).row)).setCell ⟨rb, 1, none⟩ (.string (⟨f.row, f.fam, f.qual, f.ts, 1, ⟨#[120]⟩⟩ : Ent).fam)).setCell ⟨rb, 2, none⟩ (.string (⟨f.row, f.fam, f.qual, f.ts, 1, ⟨#[120]⟩⟩ : Ent).qual)).setCell ⟨rb, 3, none⟩ (.int .u64 (⟨f.row, f.fam, f.qual, f.ts, 1, ⟨#[120]⟩⟩ : Ent).ts)).setCell ⟨rb, 4, none⟩ (.int .i64 (⟨f.row, f.fam, f.qual, f.ts, 1, ⟨#[120]⟩⟩ : Ent).kind)).setCell ⟨rb, 5, none⟩ (.string (⟨f.row, f.fam, f.qual, f.ts, 1, ⟨#[120]⟩⟩ : Ent).val)) := ⟨_, rfl⟩
    obtain ⟨⟨p0, p1, p2, p3, p4, p5⟩, hdr⟩ := H7.out.1.back.2.2 W9 hW9
    have HR : Hid ((⟨f.row, f.fam, f.qual, f.ts, 1, ⟨#[120]⟩⟩ : Ent).small ∧ Drew base cb bv n w W9) := ⟨H7.out.2, hdr⟩
    clear hdr
    simp only at p0 p1 p2 p3 p4 p5 hW9
    go_wp2_with fail
    rw [← hW9]
    exact bodyPost_ret (v := (⟨f.row, f.fam, f.qual, f.ts, 1, ⟨#[120]⟩⟩ : Ent).v) (by simp [results, Tryz.results91, go_sem, p0, p1, p2, p3, p4, p5]) rfl ⟨⟨f.row, f.fam, f.qual, f.ts, 1, ⟨#[120]⟩⟩, rfl, HR.out.1, HR.out.2⟩
  · go_wp2_with fail
    refine (many_core 113 65 _ (by omega)).mono ?_
    rintro e w6 ⟨s6, rfl, hs6, hb6⟩
    have H6 : Hid (WInv base cb bv n w w.heap.size rb f w6) := H5.out.below hb6
    clear hb6
    obtain ⟨⟨c0, c1, c2, c3, c4, c5⟩, f1⟩ := H6.out.cells
    have g0 := f1 2
    obtain ⟨W7, hW7⟩ : ∃ W7 : World, W7 = w6.setCell ⟨w.heap.size, 2, none⟩ (.string s6) := ⟨_, rfl⟩
    have H7 : Hid (WInv base cb bv n w w.heap.size rb ⟨f.row, f.fam, s6, f.ts, f.kind, f.val⟩ W7 ∧ (⟨f.row, f.fam, s6, f.ts, f.kind, f.val⟩ : Ent).small) := ⟨by rw [hW7]; exact H6.out.set 2 _ _ (by omega) rfl, ⟨HS.out.row, HS.out.fam, hs6, HS.out.val, HS.out.ts, HS.out.kind⟩⟩
    clear f1
    go_upto_region 17 with fail
    rw [← hW7]
    clear hW7 c0 c1 c2 c3 c4 c5 g0
    obtain ⟨⟨k0, k1, k2, k3, k4, k5⟩, _⟩ := H7.out.1.cells
    obtain ⟨⟨l0, l1, l2, l3, l4, l5⟩, lf, _⟩ := H7.out.1.back
    simp only at k0 k1 k2 k3 k4 k5
    obtain ⟨W9, hW9⟩ : ∃ W9 : World, W9 = ((((((W7.setCell ⟨rb, 0, none⟩ (.string (⟨f.row, f.fam, s6, f.ts, f.kind, f.val⟩ : Ent).row)).setCell ⟨rb, 1, none⟩ (.string (⟨f.row, f.fam, s6, f.ts, f.kind, f.val⟩ : Ent).fam)).setCell ⟨rb, 2, none⟩ (.string (⟨f.row, f.fam, s6, f.ts, f.kind, f.val⟩ : Ent).qual)).setCell ⟨rb, 3, none⟩ (.int .u64 (⟨f.row, f.fam, s6, f.ts, f.kind, f.val⟩ : Ent).ts)).setCell ⟨rb, 4, none⟩ (.int .i64 (⟨f.row, f.fam, s6, f.ts, f.kind, f.val⟩ : Ent).kind)).setCell ⟨rb, 5, none⟩ (.string (⟨f.row, f.fam, s6, f.ts, f.kind, f.val⟩ : Ent).val)) := ⟨_, rfl⟩
    obtain ⟨⟨p0, p1, p2, p3, p4, p5⟩, hdr⟩ := H7.out.1.back.2.2 W9 hW9
    have HR : Hid ((⟨f.row, f.fam, s6, f.ts, f.kind, f.val⟩ : Ent).small ∧ Drew base cb bv n w W9) := ⟨H7.out.2, hdr⟩
    clear hdr
    simp only at p0 p1 p2 p3 p4 p5 hW9
    go_wp2_with fail
    rw [← hW9]
    exact bodyPost_ret (v := (⟨f.row, f.fam, s6, f.ts, f.kind, f.val⟩ : Ent).v) (by simp [results, Tryz.results91, go_sem, p0, p1, p2, p3, p4, p5]) rfl ⟨⟨f.row, f.fam, s6, f.ts, f.kind, f.val⟩, rfl, HR.out.1, HR.out.2⟩
end Go.Proofs.YtlgeffinhbodeaeGreatDoor

/-
  The draws: a run spoilt.
-/
namespace Go.Proofs.YtlgeffinhbodeaeGreatDoor
open Go.ChangeShapes Go.WideShapes Go.ChangeAt Go.RowKit Go.Deep
set_option linter.unusedVariables false
set_option linter.unusedSimpArgs false
set_option maxRecDepth 100000

theorem cells_of_ents {w : World} {b off : Nat} {es : List Ent} (h : EntsAt w b off es) : ∀ j u, (cellsE es)[j]? = some u → w.cell? ((⟨b, off, none⟩ : Addr).add j) = some u := by
  intro j u hu
  have hj : j < es.length * 6 := by rw [← length_cellsE]; exact (List.getElem?_eq_some_iff.1 hu).1
  obtain ⟨e, he⟩ : ∃ e, es[j / 6]? = some e := ⟨_, List.getElem?_eq_getElem (by omega)⟩
  have hg := cellsE_get es (j / 6) e he (j % 6) (Nat.mod_lt _ (by omega))
  rw [show j / 6 * 6 + j % 6 = j by omega, hu] at hg
  obtain ⟨c0, c1, c2, c3, c4, c5⟩ := h (j / 6) e he
  rw [Addr.add_mid, show off + j = off + j / 6 * 6 + j % 6 by omega]
  have hm : j % 6 < 6 := Nat.mod_lt _ (by omega)
  generalize j % 6 = m at *
  match m, hm, hg with
  | 0, _, hg => rw [Nat.add_zero, c0, hg]; rfl
  | 1, _, hg => rw [c1, hg]; rfl
  | 2, _, hg => rw [c2, hg]; rfl
  | 3, _, hg => rw [c3, hg]; rfl
  | 4, _, hg => rw [c4, hg]; rfl
  | 5, _, hg => rw [c5, hg]; rfl
theorem one_cells (es : List Ent) : ∀ u ∈ cellsE es, u.oneCell' = true := by
  intro u hu
  unfold cellsE at hu
  obtain ⟨e, _, he⟩ := List.mem_flatMap.1 hu
  simp at he
  rcases he with rfl | rfl | rfl | rfl | rfl | rfl <;> rfl
/-- Entries appended to a row of the call's own. -/
theorem wpList_append_ents {ops : Array Oper} {rest : List Oper} {o : Oper} {a : Act} {Q : Exit → Act → World → Prop} (w : World) (hgd : o.guard = none) (s x : Operand)
    (ho : o.op = .call { callee := .builtin .append, args := #[s, x], argTypes := #[35, 35] })
    (base g cp n b off m cx : Nat) (fs es : List Ent) (hs : a.eval s = .slice (some ⟨g, 0, none⟩) n cp) (hx : a.eval x = .slice (some ⟨b, off, none⟩) m cx) (hn : n = fs.length) (hm : m = es.length) (hO : OwnE w base g cp fs)
    (hc : EntsAt w b off es) (hlen : fs.length + es.length ≤ 2 ^ 30) (hbase : base ≤ w.heap.size)
    (h : ∀ g' cp' w', OwnE w' base g' cp' (fs ++ es) → w.grownBy w' (some g) → wpList Tryz.prog ops Q rest (a.put o.dst (.slice (some ⟨g', 0, none⟩) (n + m) cp')) w') : wpList Tryz.prog ops Q (o :: rest) a w := by
  subst hn hm
  obtain ⟨i, hi, hz0, hz1, hz2⟩ := info_parts Tryz.infoEnt
  refine wpList_append_own_at w hgd s x 35 ho base 45 i _ 6 80 Tryz.underlying35 hi hz0 hz1 hz2 rfl (by decide) (.slice (some ⟨g, 0, none⟩) fs.length cp) fs.length (cellsE fs) hs hO ⟨b, off, none⟩ es.length cx (cellsE es) hx (length_cellsE es) (cells_of_ents hc) (one_cells es) ?_ ?_ hbase ?_
  · unfold maxLen; omega
  · omega
  · intro v' w' hO' hgr hnil _
    rcases hO'.2 with ⟨h0, _⟩ | ⟨g', cap', cur, hv, _, _, hn, hcap, _, _⟩
    · have := (hnil.1 h0).1
      cases this
    · subst hv
      refine h g' cap' w' ?_ hgr
      unfold OwnE
      rw [List.length_append, cellsE_append]
      exact hO'

/-- What a spoilt run may be. -/
structure SpoilOf (w : World) (b : Nat) (es : List Ent) (r : Rm) (w' : World) : Prop where
  at_ : r.at w'
  ok : ∀ e ∈ r.es, e.small
  len : r.es.length ≤ es.length + 1
  blk : r.b = b ∨ w.heap.size ≤ r.b
theorem mem_set_small {fs : List Ent} {i : Nat} {e' : Ent} (h : ∀ e ∈ fs, e.small) (he : e'.small) : ∀ e ∈ fs.set i e', e.small := by
  intro e hm
  rcases List.mem_or_eq_of_mem_set hm with q | rfl
  · exact h e q
  · exact he
theorem LInv.turn {base cb : Nat} {bv : Value} {n : Nat} {w : World} {g cp : Nat} {es fs : List Ent} {wr w' : World} (h : LInv base cb bv n w g cp es wr) (hc : Chg (fun k => k = g) wr w') (hO : OwnE w' w.heap.size g cp fs) (hok : ∀ e ∈ fs, e.small) : LInv base cb bv n w g cp fs w' := by
  have hl := h.row.lt
  have hcb := h.lt
  have hbb := h.hb
  refine ⟨hO, hok, h.d.chg hc (by omega) (fun k q => by omega), ?_, h.lt, h.hb⟩
  exact ⟨hc.os.trans h.c.os, hc.tape.trans h.c.tape, hc.output.trans h.c.output, Nat.le_trans h.c.size hc.size, fun k hk hn => (hc.block k (Nat.lt_of_lt_of_le hk h.c.size) (by omega)).trans (h.c.block k hk hn)⟩
theorem LInv.put {base cb : Nat} {bv : Value} {n : Nat} {w : World} {g cp : Nat} {es : List Ent} {wr : World} (h : LInv base cb bv n w g cp es wr) (i : Nat) (x e : Ent) (hx : es[i]? = some x) (he : e.small) :
    LInv base cb bv n w g cp (es.set i e) ((((((wr.setCell ⟨g, i * 6, none⟩ (.string e.row)).setCell ⟨g, i * 6 + 1, none⟩ (.string e.fam)).setCell ⟨g, i * 6 + 2, none⟩ (.string e.qual)).setCell ⟨g, i * 6 + 3, none⟩ (.int .u64 e.ts)).setCell ⟨g, i * 6 + 4, none⟩ (.int .i64 e.kind)).setCell ⟨g, i * 6 + 5, none⟩ (.string e.val)) := by
  refine h.turn ?_ (h.row.put i x e hx) (mem_set_small h.ok he)
  exact (((((Chg.of_set (S := fun k => k = g) _ _ _ _ rfl).trans (Chg.of_set (S := fun k => k = g) _ _ _ _ rfl)).trans (Chg.of_set (S := fun k => k = g) _ _ _ _ rfl)).trans (Chg.of_set (S := fun k => k = g) _ _ _ _ rfl)).trans (Chg.of_set (S := fun k => k = g) _ _ _ _ rfl)).trans (Chg.of_set (S := fun k => k = g) _ _ _ _ rfl)
theorem LInv.at6 {base cb : Nat} {bv : Value} {n : Nat} {w : World} {g cp : Nat} {es : List Ent} {wr : World} (h : LInv base cb bv n w g cp es wr) (i : Nat) (x : Ent) (hx : es[i]? = some x) :
    (wr.cell? ⟨g, i * 6, none⟩ = some (.string x.row) ∧ wr.cell? ⟨g, i * 6 + 1, none⟩ = some (.string x.fam) ∧ wr.cell? ⟨g, i * 6 + 2, none⟩ = some (.string x.qual) ∧ wr.cell? ⟨g, i * 6 + 3, none⟩ = some (.int .u64 x.ts) ∧ wr.cell? ⟨g, i * 6 + 4, none⟩ = some (.int .i64 x.kind) ∧ wr.cell? ⟨g, i * 6 + 5, none⟩ = some (.string x.val)) ∧ ∀ j, wr.frozen? ⟨g, j, none⟩ = false := by
  have := h.row.at i x hx
  simp only [Nat.zero_add] at this
  exact ⟨this, fun j => World.ownsRow.frozenAt h.row j⟩

theorem YInv.put {base cb : Nat} {bv : Value} {n : Nat} {w : World} {g cp : Nat} {es : List Ent} {vb : Nat} {f : Ent} {wr : World} (h : YInv base cb bv n w g cp es vb f wr) (i : Nat) (x e : Ent) (hx : es[i]? = some x) (he : e.small) :
    YInv base cb bv n w g cp (es.set i e) vb f ((((((wr.setCell ⟨g, i * 6, none⟩ (.string e.row)).setCell ⟨g, i * 6 + 1, none⟩ (.string e.fam)).setCell ⟨g, i * 6 + 2, none⟩ (.string e.qual)).setCell ⟨g, i * 6 + 3, none⟩ (.int .u64 e.ts)).setCell ⟨g, i * 6 + 4, none⟩ (.int .i64 e.kind)).setCell ⟨g, i * 6 + 5, none⟩ (.string e.val)) := by
  refine { h.toLInv.put i x e hx he with
    var := own_chg h.var (S := fun k => k = g) ?_ (fun k q => by simp [Value.ownBlock] at q; subst q; exact fun q => h.ne q.symm)
    ne := h.ne }
  exact (((((Chg.of_set (S := fun k => k = g) _ _ _ _ rfl).trans (Chg.of_set (S := fun k => k = g) _ _ _ _ rfl)).trans (Chg.of_set (S := fun k => k = g) _ _ _ _ rfl)).trans (Chg.of_set (S := fun k => k = g) _ _ _ _ rfl)).trans (Chg.of_set (S := fun k => k = g) _ _ _ _ rfl)).trans (Chg.of_set (S := fun k => k = g) _ _ _ _ rfl)
theorem LInv.push {base cb : Nat} {bv : Value} {n : Nat} {w : World} {g cp : Nat} {es : List Ent} {f : Ent} {wr w' : World} {o : Obj} (h : LInv base cb bv n w g cp es wr) (hf : f.small) {g' cp' : Nat} (hO : OwnE w' w.heap.size g' cp' (es ++ [f])) (hgr : (wr.alloc o).grownBy w' (some g)) : LInv base cb bv n w g' cp' (es ++ [f]) w' := by
  have hb : Below wr.heap.size wr (wr.alloc o) := (Below.refl _ _).alloc (Nat.le_refl _) _
  have hl := h.row.lt
  have hcb := h.lt
  have hbb := h.hb
  refine ⟨hO, fun e he => ?_, ?_, ?_, h.lt, h.hb⟩
  · rcases List.mem_append.1 he with q | q
    · exact h.ok e q
    · simp at q; subst q; exact hf
  · exact (h.d.below hb).chg (Chg.of_grown (S := fun k => k = g) hgr (fun k hk => by cases hk; rfl)) (by omega) (fun k q => by omega)
  · exact Chg.grown_new (h.c.trans (Chg.of_below hb)) hgr (fun k hk => by cases hk; exact hl.1)
theorem LInv.set {base cb : Nat} {bv : Value} {n : Nat} {w : World} {g cp : Nat} {es : List Ent} {wr : World} (h : LInv base cb bv n w g cp es wr) (k j : Nat) (e e' : Ent) (u : Value) (hk : es[k]? = some e) (hj : j < 6) (hc : e'.cells = e.cells.set j u) (hs : e'.small) : LInv base cb bv n w g cp (es.set k e') (wr.setCell ⟨g, k * 6 + j, none⟩ u) :=
  h.turn (Chg.of_set (S := fun k => k = g) _ _ _ _ rfl) (h.row.set k j e e' u hk hj hc) (mem_set_small h.ok hs)

end Go.Proofs.YtlgeffinhbodeaeGreatDoor

