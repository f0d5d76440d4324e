import Derived.Test.YtjphalbjimggcaePkAG
import Derived.Test.YtjphalbjimggcaePkAF
import Derived.Test.YtjphalbjimggcaePkAC
import Derived.Test.YtjphalbjimggcaeQInto
/-
  spec.l3Says.
-/
namespace Go.Proofs.Ytjphalbjimggcae
open Go.ChangeShapes Go.WideShapes Go.ChangeAt Go.RowKit Go.Deep
set_option linter.unusedVariables false
set_option linter.unusedSimpArgs false

theorem ent_box (w : World) (e : Ent) : EntsAt (w.alloc (Obj.cells #[.string e.row, .string e.fam, .string e.qual, .int .u64 e.ts, .int .i64 e.kind, .string e.val] 73)) w.heap.size 0 [e] := by
  intro j y hy
  obtain rfl : j = 0 := by
    have := (List.getElem?_eq_some_iff.1 hy).1
    simpa using this
  simp at hy
  subst hy
  simp

theorem saysF_cons (e d : Ent) (r : List Ent) (h : Int) : saysF e (d :: r) h = if sameCol d e = true then
      (if (d.kind == 0) = true ∧ (d.ts == e.ts) = true then (1, d.val) else if (d.kind == 1) = true ∧ (d.ts == e.ts) = true then (2, ⟨#[]⟩) else if (d.kind == 2) = true ∧ e.ts ≤ d.ts then saysF e r 2 else saysF e r h)
    else saysF e r h := rfl

set_option maxHeartbeats 4000000 in
theorem says_core (r : Rm) (e : Ent) (w : World) (hr : r.at w) (hlen : r.es.length ≤ 1048576) :
    Calls Try.prog 35 #[.agg #[.slice (some ⟨r.b, r.off, none⟩) r.es.length r.cap], .agg #[.string e.row, .string e.fam, .string e.qual, .int .u64 e.ts, .int .i64 e.kind, .string e.val]] w fun x w' =>
      x = .returned (.tuple #[.int .i64 (saysF e r.es 0).1, .string (saysF e r.es 0).2]) ∧ Below w.heap.size w w' := by
  obtain ⟨rb, ro, rc, es⟩ := r
  simp only at *
  obtain ⟨Wa, hWa⟩ : ∃ Wa : World, Wa = w.alloc (Obj.cells #[.slice (some ⟨rb, ro, none⟩) es.length rc] 30) := ⟨_, rfl⟩
  obtain ⟨W0, hW0⟩ : ∃ W0 : World, W0 = Wa.alloc (Obj.cells #[.string e.row, .string e.fam, .string e.qual, .int .u64 e.ts, .int .i64 e.kind, .string e.val] 73) := ⟨_, rfl⟩
  have hba : Below w.heap.size w Wa := by rw [hWa]; exact (Below.refl _ _).alloc (Nat.le_refl _) _
  have hza : Wa.heap.size = w.heap.size + 1 := by rw [hWa]; simp
  have hbb : Below Wa.heap.size Wa W0 := by rw [hW0]; exact (Below.refl _ _).alloc (Nat.le_refl _) _
  have hz0 : W0.heap.size = w.heap.size + 1 + 1 := by rw [hW0]; simp [hza]
  have hb0 : Below w.heap.size w W0 := hba.trans (hbb.mono (by omega))
  have hcA : Wa.cell? ⟨w.heap.size, 0, none⟩ = some (.slice (some ⟨rb, ro, none⟩) es.length rc) := by rw [hWa]; simp
  have HC : Hid (W0.cell? ⟨w.heap.size, 0, none⟩ = some (.slice (some ⟨rb, ro, none⟩) es.length rc)) := by
    show W0.cell? ⟨w.heap.size, 0, none⟩ = _
    rw [hbb.cell (p := ⟨w.heap.size, 0, none⟩) (by show w.heap.size < Wa.heap.size; omega)]; exact hcA
  have HX : Hid (EntsAt W0 (w.heap.size + 1) 0 [e]) := by
    show EntsAt W0 (w.heap.size + 1) 0 [e]
    rw [hW0, ← hza]; exact ent_box Wa e
  have HR : Hid (EntsAt W0 rb ro es ∧ rb < w.heap.size) := ⟨(hr.below hba).ents.below hbb (hr.below hba).lt, hr.lt⟩
  have hrb := hr.lt
  simp only at hrb
  clear hr hcA
  go_enter Try.func35, Try.ntmps35
  go_wp2_with fail
  rw [← hWa, ← hW0]
  clear hWa hW0
  go_loopw [6, 7] (fun h i wr => ∃ (k : Nat) (x : Int), k ≤ es.length ∧ i = .int .i64 k ∧ h = .int .i64 x ∧ saysF e es 0 = saysF e (es.drop k) x ∧ Below W0.heap.size W0 wr) (fun _ i _ => es.length - (intOf i).toNat)
  case atStart => exact ⟨0, 0, Nat.zero_le _, rfl, rfl, by simp, Below.refl _ _⟩
  case round =>
    obtain ⟨k, x, hk, rfl, rfl, hS, hb⟩ := hrel
    have HS : Hid (saysF e es 0 = saysF e (es.drop k) x) := hS
    clear hS
    have hs := hb.size
    have ca : wr.cell? ⟨w.heap.size, 0, none⟩ = some (.slice (some ⟨rb, ro, none⟩) es.length rc) := by
      rw [hb.cell (p := ⟨w.heap.size, 0, none⟩) (by show w.heap.size < W0.heap.size; omega)]; exact HC.out
    by_cases hlt : k < es.length
    · obtain ⟨v, hv⟩ : ∃ v, es[k]? = some v := ⟨_, List.getElem?_eq_getElem hlt⟩
      obtain ⟨c0, c1, c2, c3, c4, c5⟩ := (HR.out.1.below hb (by omega)) k v hv
      obtain ⟨d0, d1, d2, d3, d4, d5⟩ := (HX.out.below hb (by omega)) 0 e rfl
      simp only [Nat.zero_add, Nat.zero_mul] at d0 d1 d2 d3 d4 d5
      have HD : Hid (saysF e es 0 = saysF e (v :: es.drop (k + 1)) x) := HS.out.trans (saysF_drop hv)
      clear hv
      obtain ⟨W1, hW1⟩ : ∃ W1 : World, W1 = wr.alloc (Obj.cells #[.string v.row, .string v.fam, .string v.qual, .int .u64 v.ts, .int .i64 v.kind, .string v.val] 73) := ⟨_, rfl⟩
      have hb1 : Below wr.heap.size wr W1 := by rw [hW1]; exact (Below.refl _ _).alloc (Nat.le_refl _) _
      have hz1 : W1.heap.size = wr.heap.size + 1 := by rw [hW1]; simp
      have HV1 : Hid (EntsAt W1 wr.heap.size 0 [v]) := by show EntsAt W1 wr.heap.size 0 [v]; rw [hW1]; exact ent_box wr v
      go_upto_region 6 with fail
      rw [← hW1]
      clear hW1 c0 c1 c2 c3 c4 c5 d0 d1 d2 d3 d4 d5 ca
      obtain ⟨c0, c1, c2, c3, c4, c5⟩ := HV1.out 0 v rfl
      obtain ⟨d0, d1, d2, d3, d4, d5⟩ := ((HX.out.below hb (by omega)).below hb1 (by omega)) 0 e rfl
      simp only [Nat.zero_add, Nat.zero_mul] at c0 c1 c2 c3 c4 c5 d0 d1 d2 d3 d4 d5
      go_wp2_with fail
      refine (sameColumn_any v e _).mono ?_
      rintro e' w2 ⟨rfl, hb2⟩
      have hs2 := hb2.size
      have hb3 : Below W0.heap.size W0 w2 := (hb.trans (hb1.mono (by omega))).trans (hb2.mono (by omega))
      clear c0 c1 c2 c3 c4 c5 d0 d1 d2 d3 d4 d5
      obtain ⟨c0, c1, c2, c3, c4, c5⟩ := (HV1.out.below hb2 (by omega)) 0 v rfl
      obtain ⟨d0, d1, d2, d3, d4, d5⟩ := (HX.out.below hb3 (by omega)) 0 e rfl
      simp only [Nat.zero_add, Nat.zero_mul] at c0 c1 c2 c3 c4 c5 d0 d1 d2 d3 d4 d5
      have hbw : Below w.heap.size w w2 := hb0.trans (hb3.mono (by omega))
      have fin : ∀ (wx : World) (a : Int) (t : ByteArray), Below w.heap.size w wx → saysF e es 0 = (a, t) → (Ending.returned (Value.tuple #[.int .i64 a, .string t]) = .returned (.tuple #[.int .i64 (saysF e es 0).1, .string (saysF e es 0).2]) ∧ Below w.heap.size w wx) := by
        intro wx a t hx hq
        rw [hq]; exact ⟨rfl, hx⟩
      have HFin : Hid (∀ (wx : World) (a : Int) (t : ByteArray), Below w.heap.size w wx → saysF e es 0 = (a, t) → (Ending.returned (Value.tuple #[.int .i64 a, .string t]) = .returned (.tuple #[.int .i64 (saysF e es 0).1, .string (saysF e es 0).2]) ∧ Below w.heap.size w wx)) := fin
      clear fin
      cases hsc : sameCol v e
      · have HN : Hid (saysF e es 0 = saysF e (es.drop (k + 1)) x) := by show saysF e es 0 = _; rw [HD.out]; rw [saysF_cons, if_neg (by rw [hsc]; simp)]
        go_wp2_with fail
        go_roundw
        case rel => exact ⟨k + 1, x, by omega, by go_num, rfl, HN.out, hb3⟩
        case measure => go_light; simp [intOf]; omega
      · cases k0 : (v.kind == 0)
        · cases k1 : (v.kind == 1)
          · cases k2 : (v.kind == 2)
            · have HN : Hid (saysF e es 0 = saysF e (es.drop (k + 1)) x) := by show saysF e es 0 = _; rw [HD.out]; rw [saysF_cons, if_pos hsc, if_neg (by rw [k0]; simp), if_neg (by rw [k1]; simp), if_neg (by rw [k2]; simp)]
              go_wp2_with fail
              go_roundw
              case rel => exact ⟨k + 1, x, by omega, by go_num, rfl, HN.out, hb3⟩
              case measure => go_light; simp [intOf]; omega
            · by_cases ge : e.ts ≤ v.ts
              · have HN : Hid (saysF e es 0 = saysF e (es.drop (k + 1)) 2) := by show saysF e es 0 = _; rw [HD.out]; rw [saysF_cons, if_pos hsc, if_neg (by rw [k0]; simp), if_neg (by rw [k1]; simp), if_pos ⟨k2, ge⟩]
                go_wp2_with fail
                go_roundw
                case rel => exact ⟨k + 1, 2, by omega, by go_num, rfl, HN.out, hb3⟩
                case measure => go_light; simp [intOf]; omega
              · have HN : Hid (saysF e es 0 = saysF e (es.drop (k + 1)) x) := by show saysF e es 0 = _; rw [HD.out]; rw [saysF_cons, if_pos hsc, if_neg (by rw [k0]; simp), if_neg (by rw [k1]; simp), if_neg (fun q => ge q.2)]
                go_wp2_with fail
                go_roundw
                case rel => exact ⟨k + 1, x, by omega, by go_num, rfl, HN.out, hb3⟩
                case measure => go_light; simp [intOf]; omega
          · have k2 : (v.kind == 2) = false := by
              simp at k1 ⊢; omega
            cases ht : (v.ts == e.ts)
            · have HN : Hid (saysF e es 0 = saysF e (es.drop (k + 1)) x) := by show saysF e es 0 = _; rw [HD.out]; rw [saysF_cons, if_pos hsc, if_neg (by rw [k0]; simp), if_neg (by rw [ht]; simp), if_neg (by rw [k2]; simp)]
              go_wp2_with fail
              go_roundw
              case rel => exact ⟨k + 1, x, by omega, by go_num, rfl, HN.out, hb3⟩
              case measure => go_light; simp [intOf]; omega
            · have HN : Hid (saysF e es 0 = (2, ⟨#[]⟩)) := by show saysF e es 0 = _; rw [HD.out]; rw [saysF_cons, if_pos hsc, if_neg (by rw [k0]; simp), if_pos ⟨k1, ht⟩]
              go_wp2_with fail
              go_ret2
              exact HFin.out _ _ _ hbw HN.out
        · have k1 : (v.kind == 1) = false := by
            simp at k0 ⊢; omega
          have k2 : (v.kind == 2) = false := by
            simp at k0 ⊢; omega
          cases ht : (v.ts == e.ts)
          · have HN : Hid (saysF e es 0 = saysF e (es.drop (k + 1)) x) := by show saysF e es 0 = _; rw [HD.out]; rw [saysF_cons, if_pos hsc, if_neg (by rw [ht]; simp), if_neg (by rw [ht]; simp), if_neg (by rw [k2]; simp)]
            go_wp2_with fail
            go_roundw
            case rel => exact ⟨k + 1, x, by omega, by go_num, rfl, HN.out, hb3⟩
            case measure => go_light; simp [intOf]; omega
          · have HN : Hid (saysF e es 0 = (1, v.val)) := by show saysF e es 0 = _; rw [HD.out]; rw [saysF_cons, if_pos hsc, if_pos ⟨k0, ht⟩]
            go_upto_region 8 with fail
            go_quiet (fail)
            go_wp2_with fail
            go_ret2
            exact HFin.out _ _ _ (below_drewN hbw _) HN.out
    · have HN : Hid (saysF e es 0 = (x, ⟨#[]⟩)) := by
        show saysF e es 0 = _
        rw [HS.out, List.drop_of_length_le (by omega)]; rfl
      go_wp2_with fail
      go_ret2
      refine ⟨?_, hb0.trans (hb.mono (by omega))⟩
      rw [HN.out]; rfl
end Go.Proofs.Ytjphalbjimggcae

/-
  The draws: a list of writes.
-/
namespace Go.Proofs.Ytjphalbjimggcae
open Go.ChangeShapes Go.WideShapes Go.ChangeAt Go.RowKit Go.Deep
set_option linter.unusedVariables false
set_option linter.unusedSimpArgs false
set_option maxRecDepth 100000

/-- A list of writes of the call's own, beside the drawing. -/
structure LInv (base cb : Nat) (bv : Value) (n : Nat) (w : World) (g cp : Nat) (es : List Ent) (wr : World) : Prop where
  row : OwnE wr w.heap.size g cp es
  ok : ∀ e ∈ es, e.small
  d : DrawAt base cb bv n wr
  c : Chg (fun k => k = cb) w wr
  lt : cb < w.heap.size
  hb : base ≤ w.heap.size
/-- And a variable with an entry. -/
structure YInv (base cb : Nat) (bv : Value) (n : Nat) (w : World) (g cp : Nat) (es : List Ent) (vb : Nat) (f : Ent) (wr : World) : Prop extends LInv base cb bv n w g cp es wr where
  var : OwnE wr w.heap.size vb 1 [f]
  ne : ¬ g = vb
theorem LInv.call {base cb : Nat} {bv : Value} {n : Nat} {w : World} {g cp : Nat} {es : List Ent} {wr w1 : World} (h : LInv base cb bv n w g cp es wr) (hd : Drew base cb bv n wr w1) : LInv base cb bv n w g cp es w1 :=
  ⟨own_chg h.row hd.2 (fun k q => by simp [Value.ownBlock] at q; subst q; have := h.row.lt.1; have := h.lt; omega), h.ok, hd.1, h.c.trans hd.2, h.lt, h.hb⟩
theorem LInv.below {base cb : Nat} {bv : Value} {n : Nat} {w : World} {g cp : Nat} {es : List Ent} {wr w1 : World} (h : LInv base cb bv n w g cp es wr) (hb : Below wr.heap.size wr w1) : LInv base cb bv n w g cp es w1 :=
  ⟨h.row.below hb h.row.lt.2, h.ok, h.d.below hb, h.c.trans (Chg.of_below hb), h.lt, h.hb⟩
theorem LInv.make {base cb : Nat} {bv : Value} {n : Nat} {w : World} {g cp : Nat} {es : List Ent} {wr : World} (h : LInv base cb bv n w g cp es wr) (f : Ent) : YInv base cb bv n w g cp es wr.heap.size f (wr.alloc (Obj.cells #[.string f.row, .string f.fam, .string f.qual, .int .u64 f.ts, .int .i64 f.kind, .string f.val] 73)) :=
  { h.below ((Below.refl _ _).alloc (Nat.le_refl _) _) with
    var := ownE_new wr w.heap.size f h.c.size
    ne := by have := h.row.lt.2; omega }
theorem YInv.call {base cb : Nat} {bv : Value} {n : Nat} {w : World} {g cp : Nat} {es : List Ent} {vb : Nat} {f : Ent} {wr w1 : World} (h : YInv base cb bv n w g cp es vb f wr) (hd : Drew base cb bv n wr w1) : YInv base cb bv n w g cp es vb f w1 :=
  { h.toLInv.call hd with
    var := own_chg h.var hd.2 (fun k q => by simp [Value.ownBlock] at q; subst q; have := h.var.lt.1; have := h.lt; omega)
    ne := h.ne }
theorem YInv.set {base cb : Nat} {bv : Value} {n : Nat} {w : World} {g cp : Nat} {es : List Ent} {vb : Nat} {f : Ent} {wr : World} (h : YInv base cb bv n w g cp es vb f wr) (j : Nat) (f' : Ent) (u : Value) (hj : j < 6) (hc : f'.cells = f.cells.set j u) : YInv base cb bv n w g cp es vb f' (wr.setCell ⟨vb, j, none⟩ u) := by
  have h1 := h.var.set 0 j f f' u rfl hj hc
  simp only [Nat.zero_mul, Nat.zero_add] at h1
  have hl := h.var.lt
  have hcb := h.lt
  have hbb := h.hb
  have hcg : Chg (fun k => k = vb) wr (wr.setCell ⟨vb, j, none⟩ u) := Chg.of_set _ _ _ _ rfl
  exact { row := own_chg h.row hcg (fun k q => by simp [Value.ownBlock] at q; subst q; exact h.ne), ok := h.ok, d := h.d.chg hcg (by omega) (fun k q => by omega), c := Chg.grown_new h.c (grown_set wr vb j u) (fun k hk => by cases hk; exact hl.1), lt := h.lt, hb := h.hb, var := h1, ne := h.ne }
theorem YInv.cells {base cb : Nat} {bv : Value} {n : Nat} {w : World} {g cp : Nat} {es : List Ent} {vb : Nat} {f : Ent} {wr : World} (h : YInv base cb bv n w g cp es vb f wr) :
    (wr.cell? ⟨vb, 0, none⟩ = some (.string f.row) ∧ wr.cell? ⟨vb, 1, none⟩ = some (.string f.fam) ∧ wr.cell? ⟨vb, 2, none⟩ = some (.string f.qual) ∧ wr.cell? ⟨vb, 3, none⟩ = some (.int .u64 f.ts) ∧ wr.cell? ⟨vb, 4, none⟩ = some (.int .i64 f.kind) ∧ wr.cell? ⟨vb, 5, none⟩ = some (.string f.val)) ∧ ∀ j, wr.frozen? ⟨vb, j, none⟩ = false := by
  have := h.var.at 0 f rfl
  simp only [Nat.zero_add, Nat.zero_mul] at this
  exact ⟨this, fun j => World.ownsRow.frozenAt h.var j⟩
theorem YInv.push {base cb : Nat} {bv : Value} {n : Nat} {w : World} {g cp : Nat} {es : List Ent} {vb : Nat} {f : Ent} {wr w' : World} {o : Obj} (h : YInv base cb bv n w g cp es vb f wr) (hf : f.small) {g' cp' : Nat} (hO : OwnE w' w.heap.size g' cp' (es ++ [f])) (hgr : (wr.alloc o).grownBy w' (some g)) : LInv base cb bv n w g' cp' (es ++ [f]) w' := by
  have hb : Below wr.heap.size wr (wr.alloc o) := (Below.refl _ _).alloc (Nat.le_refl _) _
  have hl := h.row.lt
  have hcb := h.lt
  have hbb := h.hb
  refine ⟨hO, fun e he => ?_, ?_, ?_, h.lt, h.hb⟩
  · rcases List.mem_append.1 he with q | q
    · exact h.ok e q
    · simp at q; subst q; exact hf
  · exact (h.d.below hb).chg (Chg.of_grown (S := fun k => k = g) hgr (fun k hk => by cases hk; rfl)) (by omega) (fun k q => by omega)
  · exact Chg.grown_new (h.c.trans (Chg.of_below hb)) hgr (fun k hk => by cases hk; exact hl.1)

set_option maxHeartbeats 4000000 in
theorem writes_core (base cb : Nat) (bv : Value) (n : Nat) (most : Nat) (w : World) (h : DrawAt base cb bv n w) (hm : most ≤ 100) :
    Calls Try.prog 62 #[.pointer (some ⟨cb, 0, none⟩), .int .i64 most] w fun r w' => ∃ (g cp : Nat) (es : List Ent), r = .returned (.slice (some ⟨g, 0, none⟩) es.length cp) ∧ es.length ≤ 100 ∧ LInv base cb bv n w g cp es w' := by
  have HD : Hid (DrawAt base cb bv n w) := h
  have hlt := h.lt
  have hbase := h.base
  clear h
  go_enter Try.func62, Try.ntmps62
  go_wp2_with fail
  refine (below_core base cb bv n ((most : Int) / 2 + 1) _ HD.out (by omega) (by omega)).mono ?_
  rintro e w1 ⟨x, rfl, hx0, hx1, hd1⟩
  obtain ⟨W2, hW2⟩ : ∃ W2 : World, W2 = w1.alloc (Obj.cells #[] 73) := ⟨_, rfl⟩
  have H2 : Hid (LInv base cb bv n w w1.heap.size 0 [] W2) := by
    have hb : Below w1.heap.size w1 W2 := by rw [hW2]; exact (Below.refl _ _).alloc (Nat.le_refl _) _
    refine ⟨?_, fun e he => by simp at he, hd1.1.below hb, hd1.2.trans (Chg.of_below hb), hlt.2, hbase⟩
    rw [hW2]
    exact World.ownsRow_made w1 #[] 0 hd1.2.size (Nat.zero_le _) (by simp)
  obtain ⟨m, hm2⟩ : ∃ m : Nat, (most : Int) / 2 + x = (m : Int) := ⟨((most : Int) / 2 + x).toNat, by omega⟩
  have hm3 : m ≤ 100 := by omega
  go_wp2_with fail
  rw [← hW2]
  clear hW2 hm2 hd1
  go_loopw [6, 7] (fun o i wr => ∃ (k g cp : Nat) (es : List Ent), k ≤ m ∧ i = .int .i64 k ∧ o = .slice (some ⟨g, 0, none⟩) k cp ∧ es.length = k ∧ LInv base cb bv n w g cp es wr) (fun _ i _ => m - (intOf i).toNat)
  case atStart => exact ⟨0, _, 0, [], Nat.zero_le _, rfl, rfl, rfl, H2.out⟩
  case round =>
    obtain ⟨k, g, cp, es, hk, rfl, rfl, hel, hL⟩ := hrel
    have HL : Hid (es.length = k ∧ LInv base cb bv n w g cp es wr) := ⟨hel, hL⟩
    clear hel hL
    by_cases hlk : k < m
    · have zk : (k : Int) < (m : Int) := by omega
      go_wp2_with fail
      refine (write_core base cb bv n _ HL.out.2.d).mono ?_
      rintro e w3 ⟨f, rfl, hf, hd3⟩
      have HL3 : Hid (LInv base cb bv n w g cp es w3) := HL.out.2.call hd3
      clear hd3
      obtain ⟨W4, hW4⟩ : ∃ W4 : World, W4 = w3.alloc (Obj.cells #[.string f.row, .string f.fam, .string f.qual, .int .u64 f.ts, .int .i64 f.kind, .string f.val] 73) := ⟨_, rfl⟩
      have HY4 : Hid (YInv base cb bv n w g cp es w3.heap.size f W4 ∧ f.small ∧ es.length = k) := ⟨by rw [hW4]; exact HL3.out.make f, hf, HL.out.1⟩
      go_upto_region 7 with fail
      rw [← hW4]
      clear hW4
      generalize w3.heap.size = vb at *
      by_cases hk0 : k = 0
      · have zk0 : ¬ (0 : Int) < (k : Int) := by omega
        clear hk0
        obtain ⟨⟨k0, k1, k2, k3, k4, k5⟩, _⟩ := HY4.out.1.cells
        have hgX := HY4.out.1.row.lt
        have hsX := HY4.out.1.c.size
        have HKl : Hid (k = es.length) := HY4.out.2.2.symm
        go_wp2_with (at_builtin; refine wpList_append_ent _ rfl _ _ rfl w.heap.size g cp _ _ es f rfl rfl HKl.out ?hO ?hc ?hl ?hb ?_)
        case hO => exact HY4.out.1.row.below ((Below.refl _ _).alloc (Nat.le_refl _) _) (by omega)
        case hc => exact ent_box W4 f
        case hl => rw [← HKl.out]; omega
        case hb => first | (simp; omega) | omega
        intro g' cp' w' hO' hgr
        have HN : Hid (LInv base cb bv n w g' cp' (es ++ [f]) w' ∧ (es ++ [f]).length = k + 1) := ⟨HY4.out.1.push HY4.out.2.1 hO' hgr, by simp [HY4.out.2.2]⟩
        clear hO' hgr
        go_wp2_with fail
        go_roundw
        case rel => exact ⟨k + 1, g', cp', es ++ [f], by omega, by go_num, rfl, HN.out.2, HN.out.1⟩
        case measure => go_light; simp [intOf]; omega
      · have zk0 : (0 : Int) < (k : Int) := by omega
        go_wp2_with fail
        refine (once_core base cb bv n 2 _ HY4.out.1.d (by omega) (by omega)).mono ?_
        rintro e w5 ⟨v, rfl, hv, hd5⟩
        have HY5 : Hid (YInv base cb bv n w g cp es vb f w5 ∧ f.small ∧ es.length = k) := ⟨HY4.out.1.call hd5, HY4.out.2⟩
        clear hd5
        rcases hv with rfl | rfl
        · go_wp2_with fail
          refine (below_core base cb bv n (k : Int) _ HY5.out.1.d (by omega) (by omega)).mono ?_
          rintro e w6 ⟨y, rfl, hy0, hy1, hd6⟩
          have HY6 : Hid (YInv base cb bv n w g cp es vb f w6 ∧ f.small ∧ es.length = k) := ⟨HY5.out.1.call hd6, HY5.out.2⟩
          clear hd6
          obtain ⟨j, rfl⟩ := Int.eq_ofNat_of_zero_le hy0
          obtain ⟨x, hx⟩ : ∃ x, es[j]? = some x := ⟨_, List.getElem?_eq_getElem (by have := HY6.out.2.2; omega)⟩
          have HXs : Hid (x.small) := HY6.out.1.ok x (List.mem_of_getElem? hx)
          have hA := HY6.out.1.set 0 { f with row := x.row } (.string x.row) (by omega) rfl
          have hB := hA.set 1 { f with row := x.row, fam := x.fam } (.string x.fam) (by omega) rfl
          have hC := hB.set 2 { f with row := x.row, fam := x.fam, qual := x.qual } (.string x.qual) (by omega) rfl
          obtain ⟨a0, a1, a2, _⟩ := HY6.out.1.row.at j x hx
          obtain ⟨b0, b1, b2, _⟩ := hA.row.at j x hx
          obtain ⟨c0, c1, c2, _⟩ := hB.row.at j x hx
          simp only [Nat.zero_add] at a0 a1 a2 b0 b1 b2 c0 c1 c2
          obtain ⟨⟨k0, _⟩, kf⟩ := HY6.out.1.cells
          obtain ⟨⟨_, k1, _⟩, kg⟩ := hA.cells
          obtain ⟨⟨_, _, k2, _⟩, kh⟩ := hB.cells
          have kf0 := kf 0
          have kg1 := kg 1
          have kh2 := kh 2
          simp only at k1 k2
          obtain ⟨W7, hW7⟩ : ∃ W7 : World, W7 = ((w6.setCell ⟨vb, 0, none⟩ (.string x.row)).setCell ⟨vb, 1, none⟩ (.string x.fam)).setCell ⟨vb, 2, none⟩ (.string x.qual) := ⟨_, rfl⟩
          have HY7 : Hid (YInv base cb bv n w g cp es vb { f with row := x.row, fam := x.fam, qual := x.qual } W7 ∧ ({ f with row := x.row, fam := x.fam, qual := x.qual } : Ent).small ∧ es.length = k) := by
            refine ⟨by rw [hW7]; exact hC, ⟨HXs.out.row, HXs.out.fam, HXs.out.qual, hf.val, hf.ts, hf.kind⟩, HY6.out.2.2⟩
          clear hA hB hC kf kg kh hx
          go_upto_region 12 with fail
          rw [← hW7]
          clear hW7 a0 a1 a2 b0 b1 b2 c0 c1 c2 k0 k1 k2 kf0 kg1 kh2
          generalize ({ f with row := x.row, fam := x.fam, qual := x.qual } : Ent) = f7 at *
          obtain ⟨⟨k0, k1, k2, k3, k4, k5⟩, _⟩ := HY7.out.1.cells
          have hgX := HY7.out.1.row.lt
          have hsX := HY7.out.1.c.size
          have HKl : Hid (k = es.length) := HY7.out.2.2.symm
          go_wp2_with (at_builtin; refine wpList_append_ent _ rfl _ _ rfl w.heap.size g cp _ _ es f7 rfl rfl HKl.out ?hO ?hc ?hl ?hb ?_)
          case hO => exact HY7.out.1.row.below ((Below.refl _ _).alloc (Nat.le_refl _) _) (by omega)
          case hc => exact ent_box W7 f7
          case hl => rw [← HKl.out]; omega
          case hb => first | (simp; omega) | omega
          intro g' cp' w' hO' hgr
          have HN : Hid (LInv base cb bv n w g' cp' (es ++ [f7]) w' ∧ (es ++ [f7]).length = k + 1) := ⟨HY7.out.1.push HY7.out.2.1 hO' hgr, by simp [HY7.out.2.2]⟩
          clear hO' hgr
          go_wp2_with fail
          go_roundw
          case rel => exact ⟨k + 1, g', cp', es ++ [f7], by omega, by go_num, rfl, HN.out.2, HN.out.1⟩
          case measure => go_light; simp [intOf]; omega
        ·
          obtain ⟨⟨k0, k1, k2, k3, k4, k5⟩, _⟩ := HY5.out.1.cells
          have hgX := HY5.out.1.row.lt
          have hsX := HY5.out.1.c.size
          have HKl : Hid (k = es.length) := HY5.out.2.2.symm
          go_wp2_with (at_builtin; refine wpList_append_ent _ rfl _ _ rfl w.heap.size g cp _ _ es f rfl rfl HKl.out ?hO ?hc ?hl ?hb ?_)
          case hO => exact HY5.out.1.row.below ((Below.refl _ _).alloc (Nat.le_refl _) _) (by omega)
          case hc => exact ent_box w5 f
          case hl => rw [← HKl.out]; omega
          case hb => first | (simp; omega) | omega
          intro g' cp' w' hO' hgr
          have HN : Hid (LInv base cb bv n w g' cp' (es ++ [f]) w' ∧ (es ++ [f]).length = k + 1) := ⟨HY5.out.1.push HY5.out.2.1 hO' hgr, by simp [HY5.out.2.2]⟩
          clear hO' hgr
          go_wp2_with fail
          go_roundw
          case rel => exact ⟨k + 1, g', cp', es ++ [f], by omega, by go_num, rfl, HN.out.2, HN.out.1⟩
          case measure => go_light; simp [intOf]; omega
    · have zk : ¬ (k : Int) < (m : Int) := by omega
      have HE : Hid (k = es.length) := HL.out.1.symm
      go_wp2_with fail
      go_ret
      refine ⟨g, cp, es, ?_, by rw [← HE.out]; omega, HL.out.2⟩
      show Ending.returned (Value.slice (some ⟨g, 0, none⟩) k cp) = _
      rw [HE.out]
end Go.Proofs.Ytjphalbjimggcae

