/-
  spec.l7Replace.
-/
import Derived.Test.YtlgeffinhbodeaeQCpS
namespace Go.Proofs.Ytlgeffinhbodeae
open Go.ChangeShapes Go.WideShapes Go.ChangeAt Go.RowKit Go.Deep
set_option linter.unusedVariables false
set_option linter.unusedSimpArgs false
set_option maxRecDepth 100000

theorem OwnTs.chg {S : Nat → Prop} {w w' : World} {base : Nat} {ts : List Tx} (h : OwnTs w base ts) (hc : Chg S w w') (hne : ∀ k, base ≤ k → k < w.heap.size → ¬ S k) : OwnTs w' base ts := by
  refine ⟨fun t ht => (h.runs t ht).chg hc (fun g hg hts => ?_), fun t ht r hr => (h.ents t ht r hr).chg hc (fun g hg => hne g ((h.ents t ht r hr).key hg).1 ((h.ents t ht r hr).key hg).2)⟩
  rcases h.runs t ht with ⟨q, _⟩ | ⟨g', cp, hv, hO⟩
  · exact absurd q hts
  · rw [hv] at hg
    have e1 : g' = g := Option.some.inj hg
    subst e1
    have := World.ownsRow.lt hO g' rfl
    exact hne g' this.1 this.2
theorem OwnTs.below2 {w w' w2 : World} {base : Nat} {ts : List Tx} (h : OwnTs w base ts) (hb : Below w.heap.size w w') (hb2 : Below w'.heap.size w' w2) : OwnTs w2 base ts := (h.below hb).below hb2
theorem OwnTs.mono {w : World} {base base' : Nat} {ts : List Tx} (h : OwnTs w base ts) (hb : base' ≤ base) : OwnTs w base' ts := ⟨fun t ht => (h.runs t ht).mono hb, fun t ht r hr => (h.ents t ht r hr).mono hb⟩
theorem OwnTs.append {w : World} {base : Nat} {a b : List Tx} (h : OwnTs w base a) (k : OwnTs w base b) : OwnTs w base (a ++ b) :=
  ⟨fun t ht => by rcases List.mem_append.1 ht with q | q; exact h.runs t q; exact k.runs t q, fun t ht => by rcases List.mem_append.1 ht with q | q; exact h.ents t q; exact k.ents t q⟩
theorem OwnTs.take {w : World} {base : Nat} {a : List Tx} (h : OwnTs w base a) (n : Nat) : OwnTs w base (a.take n) := ⟨fun t ht => h.runs t (List.mem_of_mem_take ht), fun t ht => h.ents t (List.mem_of_mem_take ht)⟩
theorem OwnTs.drop {w : World} {base : Nat} {a : List Tx} (h : OwnTs w base a) (n : Nat) : OwnTs w base (a.drop n) := ⟨fun t ht => h.runs t (List.mem_of_mem_drop ht), fun t ht => h.ents t (List.mem_of_mem_drop ht)⟩
/-- Tablets of the call's own in memory, at a place that is read. -/
def TxsAt (w : World) (b : Nat) (ms : List Tx) : Prop := ∀ i t, ms[i]? = some t → w.cell? ⟨b, i * 2, none⟩ = some (.string t.lo) ∧ w.cell? ⟨b, i * 2 + 1, none⟩ = some t.v
/-- What spec's replacement hands back: rows of the call's own, the tablets of its own or handed in. -/
def RpPost (w : World) (base : Nat) (tb : List Tb) (e : Ending) (w' : World) : Prop := ∃ (v : Value) (ys : List Tx), e = .returned (.agg #[v]) ∧ OwnTRow w' w.heap.size v ys ∧ OwnTs w' base ys ∧ ys.map Tx.tb = tb ∧ Below w.heap.size w w'

set_option maxHeartbeats 8000000 in
theorem specReplace_core (b off cap : Nat) (ts : List Tm) (ms : List Tx) (fr til ob base : Nat) (w : World) (h : TmsAt w b off ts) (hB : b < w.heap.size) (hob : TxsAt w ob ms) (hoB : ob < w.heap.size) (hms : OwnTs w base ms) (hbase : base ≤ w.heap.size) (hn : ts.length ≤ 1000) (hmn : ms.length ≤ 1000) (hm0 : 0 < ms.length) (h1 : fr ≤ til) (h2 : til ≤ ts.length) (h0 : 0 < ts.length)
    (hs : ∀ t ∈ ts, t.l.length ≤ 1048576 ∧ totM t.l ≤ 1048576) :
    Calls Try.prog 76 #[.agg #[.slice (some ⟨b, off, none⟩) ts.length cap], .int .i64 fr, .int .i64 til, .slice (some ⟨ob, 0, none⟩) ms.length ms.length] w fun e w' => RpPost w base ((ts.take fr).map Tm.tb ++ ms.map Tx.tb ++ (ts.drop til).map Tm.tb) e w' := by
  obtain ⟨Wa, hWa⟩ : ∃ Wa : World, Wa = ((w.alloc (Obj.cells #[.slice (some ⟨b, off, none⟩) ts.length cap] 66)).alloc (Obj.cells #[.slice none 0 0] 66)).alloc (Obj.cells #[.slice none 0 0] 66) := ⟨_, rfl⟩
  have hba : Below w.heap.size w Wa := by rw [hWa]; exact (((Below.refl _ _).alloc (Nat.le_refl _) _).alloc (by simp) _).alloc (by simp; omega) _
  have hza : Wa.heap.size = w.heap.size + 1 + 1 + 1 := by rw [hWa]; simp
  have HWa : Hid (∀ wx, Below Wa.heap.size Wa wx → wx.cell? ⟨w.heap.size, 0, none⟩ = some (.slice (some ⟨b, off, none⟩) ts.length cap) ∧ wx.cell? ⟨w.heap.size + 1, 0, none⟩ = some (.slice none 0 0) ∧ wx.frozen? ⟨w.heap.size + 1, 0, none⟩ = false ∧ wx.cell? ⟨w.heap.size + 1 + 1, 0, none⟩ = some (.slice none 0 0) ∧ wx.frozen? ⟨w.heap.size + 1 + 1, 0, none⟩ = false) := by
    intro wx hx
    refine ⟨?_, ?_, ?_, ?_, ?_⟩
    · rw [hx.cell (p := ⟨w.heap.size, 0, none⟩) (by show w.heap.size < Wa.heap.size; omega), hWa]; simp [go_sem]
    · rw [hx.cell (p := ⟨w.heap.size + 1, 0, none⟩) (by show w.heap.size + 1 < Wa.heap.size; omega), hWa]; simp [go_sem]
    · rw [hx.frozen (p := ⟨w.heap.size + 1, 0, none⟩) (by show w.heap.size + 1 < Wa.heap.size; omega), hWa]; simp [go_sem]
    · rw [hx.cell (p := ⟨w.heap.size + 1 + 1, 0, none⟩) (by show w.heap.size + 1 + 1 < Wa.heap.size; omega), hWa]; simp [go_sem]
    · rw [hx.frozen (p := ⟨w.heap.size + 1 + 1, 0, none⟩) (by show w.heap.size + 1 + 1 < Wa.heap.size; omega), hWa]; simp [go_sem]
  have HTa : Hid (TmsAt Wa b off ts ∧ OwnTs Wa base ms ∧ TxsAt Wa ob ms) := ⟨h.below hba hB, hms.below hba, fun i t ht => by
    obtain ⟨q0, q1⟩ := hob i t ht
    exact ⟨by rw [hba.cell (p := ⟨ob, i * 2, none⟩) (by exact hoB)]; exact q0, by rw [hba.cell (p := ⟨ob, i * 2 + 1, none⟩) (by exact hoB)]; exact q1⟩⟩
  have HS : Hid (∀ t ∈ ts, t.l.length ≤ 1048576 ∧ totM t.l ≤ 1048576) := hs
  have HM : Hid (OwnTs w base ms) := hms
  clear h hob hms hs
  obtain ⟨c0, _⟩ := HWa.out Wa (Below.refl _ _)
  go_enter Try.func76, Try.ntmps76
  go_upto_region 2 with fail
  rw [← hWa]
  clear hWa
  go_wp2_with fail
  refine (specCopy_core b off cap ts _ HTa.out.1 (by omega) (by omega) HS.out).mono ?_
  rintro e w1 ⟨cv, xs, rfl, hSt, hxt, hb1⟩
  have hxl : xs.length = ts.length := by have := congrArg List.length hxt; simpa using this
  obtain ⟨gc, cpc, rfl⟩ : ∃ gc cpc, cv = .slice (some ⟨gc, 0, none⟩) xs.length cpc := by
    rcases hSt.row with ⟨q, _⟩ | ⟨g, cp, q, _⟩
    · rw [q] at hxl; simp at hxl; omega
    · exact ⟨g, cp, q⟩
  have s1 := hb1.size
  obtain ⟨W1, hW1⟩ : ∃ W1 : World, W1 = w1.alloc (Obj.cells #[.slice (some ⟨gc, 0, none⟩) xs.length cpc] 66) := ⟨_, rfl⟩
  obtain ⟨CB, hCB⟩ : ∃ CB, CB = w1.heap.size := ⟨_, rfl⟩
  have hbB : Below w1.heap.size w1 W1 := by rw [hW1]; exact (Below.refl _ _).alloc (Nat.le_refl _) _
  have hz1 : W1.heap.size = CB + 1 := by rw [hW1, hCB]; simp
  have hCBl : w.heap.size + 1 + 1 + 1 ≤ CB := by omega
  have hbW : Below Wa.heap.size Wa W1 := hb1.trans (hbB.mono s1)
  have hStB := hSt.below hbB
  have hgP : OwnP W1 Wa.heap.size gc cpc (xs.map Tx.pr) := by
    rcases hStB.row with ⟨q, _⟩ | ⟨g, cp, q, hO⟩
    · rw [q] at hxl; simp at hxl; omega
    · cases q; exact hO
  have hgc : w.heap.size + 1 + 1 < gc ∧ gc < W1.heap.size := ⟨by have := hgP.lt.1; omega, hgP.lt.2⟩
  have HX : Hid (OwnP W1 Wa.heap.size gc cpc (xs.map Tx.pr) ∧ OwnTs W1 Wa.heap.size xs ∧ xs.map Tx.tb = ts.map Tm.tb) := ⟨hgP, ⟨hStB.runs, hStB.ents⟩, hxt⟩
  have HC : Hid (∀ w', Chg (fun q => q = w.heap.size + 1 + 1 ∨ W1.heap.size ≤ q) W1 w' → w'.cell? ⟨CB, 0, none⟩ = some (.slice (some ⟨gc, 0, none⟩) xs.length cpc) ∧ w'.cell? ⟨w.heap.size + 1, 0, none⟩ = some (.slice none 0 0) ∧ w'.frozen? ⟨w.heap.size + 1, 0, none⟩ = false ∧ (∀ i t, ms[i]? = some t → w'.cell? ⟨ob, 0 + i * 2, none⟩ = some (.string t.lo) ∧ w'.cell? ⟨ob, 0 + i * 2 + 1, none⟩ = some t.v)) := by
    intro w' hw'
    obtain ⟨_, q1, q2, _, _⟩ := HWa.out W1 hbW
    refine ⟨?_, ?_, ?_, fun i t ht => ?_⟩
    · rw [hw'.cell (p := ⟨CB, 0, none⟩) (by show CB < W1.heap.size; omega) (by intro q; rcases q with q | q <;> simp only at q <;> omega), hW1, hCB]; simp
    · rw [hw'.cell (p := ⟨w.heap.size + 1, 0, none⟩) (by show w.heap.size + 1 < W1.heap.size; omega) (by intro q; rcases q with q | q <;> simp only at q <;> omega)]; exact q1
    · rw [hw'.frozen (p := ⟨w.heap.size + 1, 0, none⟩) (by show w.heap.size + 1 < W1.heap.size; omega) (by intro q; rcases q with q | q <;> simp only at q <;> omega)]; exact q2
    · obtain ⟨y0, y1⟩ := HTa.out.2.2 i t ht
      rw [Nat.zero_add]
      exact ⟨by rw [hw'.cell (p := ⟨ob, i * 2, none⟩) (by show ob < W1.heap.size; omega) (by intro q; rcases q with q | q <;> simp only at q <;> omega), hbW.cell (p := ⟨ob, i * 2, none⟩) (by show ob < Wa.heap.size; omega)]; exact y0, by rw [hw'.cell (p := ⟨ob, i * 2 + 1, none⟩) (by show ob < W1.heap.size; omega) (by intro q; rcases q with q | q <;> simp only at q <;> omega), hbW.cell (p := ⟨ob, i * 2 + 1, none⟩) (by show ob < Wa.heap.size; omega)]; exact y1⟩
  obtain ⟨_, _, _, cO, fO⟩ := HWa.out W1 hbW
  clear hSt hxt hStB hgP c0
  have HL : Hid (xs.length = ts.length) := hxl
  have hxn : xs.length ≤ 1000 := by omega
  have hx0 : 0 < xs.length := by omega
  have hfx : fr ≤ xs.length := by omega
  have htx : til ≤ xs.length := by omega
  clear hxl
  have zfr : (fr : Int) ≤ (xs.length : Int) := by omega
  go_upto_region 3 with fail
  rw [← hW1, ← hCB]
  clear hW1 hCB
  go_wp2_with fail
  go_loopw [11] (fun i wr => ∃ (k : Nat) (V : Value) (ys : List Tx), k ≤ fr ∧ i = .int .i64 k ∧ ys = xs.take k ∧ wr.cell? ⟨w.heap.size + 1 + 1, 0, none⟩ = some V ∧ wr.frozen? ⟨w.heap.size + 1 + 1, 0, none⟩ = false ∧ wr.ownsRow W1.heap.size 133 2 V ys.length (cellsP (ys.map Tx.pr)) ∧ Chg (fun q => q = w.heap.size + 1 + 1 ∨ W1.heap.size ≤ q) W1 wr) (fun i _ => fr - (intOf i).toNat)
  case atStart => exact ⟨0, .slice none 0 0, [], Nat.zero_le _, rfl, rfl, cO, fO, World.ownsRow_nil .., Chg.refl _ _⟩
  case round =>
    obtain ⟨k, V, ys, hk, rfl, hys, cV, fVz, hrow, hCg⟩ := hrel
    have HY : Hid (ys = xs.take k) := hys
    have hyl : ys.length ≤ 1000 := by rw [hys, List.length_take]; omega
    have HR : Hid (wr.ownsRow W1.heap.size 133 2 V ys.length (cellsP (ys.map Tx.pr))) := hrow
    clear hys hrow
    by_cases hlt : k < fr
    · have zk : (k : Int) < (fr : Int) := by omega
      obtain ⟨x, hx⟩ : ∃ x, xs[k]? = some x := ⟨_, List.getElem?_eq_getElem (by omega)⟩
      obtain ⟨xa, xn, xc, hxv⟩ := (HX.out.2.1.runs x (List.mem_of_getElem? hx)).isSlice
      have HKx : Hid (∀ w', Chg (fun q => q = w.heap.size + 1 + 1 ∨ W1.heap.size ≤ q) W1 w' → w'.cell? ⟨CB, 0, none⟩ = some (.slice (some ⟨gc, 0, none⟩) xs.length cpc) ∧ w'.cell? ⟨gc, k * 2, none⟩ = some (.string x.lo) ∧ w'.cell? ⟨gc, k * 2 + 1, none⟩ = some (.slice xa xn xc)) := by
        intro w' hw'
        obtain ⟨q0, q1⟩ := HX.out.1.cells (p := x.pr) (i := k) (by rw [List.getElem?_map, hx]; rfl)
        have e2 : x.pr.2 = .slice xa xn xc := hxv
        have e1 : x.pr.1 = x.lo := rfl
        rw [e2] at q1
        rw [e1] at q0
        refine ⟨(HC.out w' hw').1, ?_, ?_⟩
        · rw [hw'.cell (p := ⟨gc, k * 2, none⟩) (by exact hgc.2) (by intro q; rcases q with q | q <;> simp only at q <;> omega)]; exact q0
        · rw [hw'.cell (p := ⟨gc, k * 2 + 1, none⟩) (by exact hgc.2) (by intro q; rcases q with q | q <;> simp only at q <;> omega)]; exact q1
      have HD : Hid (xs[k]? = some x ∧ x.v = .slice xa xn xc) := ⟨hx, hxv⟩
      clear hx hxv
      have hVs : ∃ Va Vn Vc, V = .slice Va Vn Vc := by
        rcases HR.out.2 with ⟨q, _⟩ | ⟨g2, cp, cur, q, _⟩ <;> exact ⟨_, _, _, q⟩
      have zz : (k : Int) < (xs.length : Int) := by omega
      have hCd : Chg (fun q => q = w.heap.size + 1 + 1 ∨ W1.heap.size ≤ q) W1 wr.drew := hCg.trans (Chg.of_below ((Below.refl _ _).drew))
      obtain ⟨j0, j1, j2⟩ := HKx.out wr.drew hCd
      have jV : wr.drew.cell? ⟨w.heap.size + 1 + 1, 0, none⟩ = some V := by simpa using cV
      have hS : (fun w' : World => w'.cell? ⟨w.heap.size + 1 + 1, 0, none⟩ = some V ∧ w'.cell? ⟨CB, 0, none⟩ = some (.slice (some ⟨gc, 0, none⟩) xs.length cpc) ∧ w'.cell? ⟨gc, k * 2, none⟩ = some (.string x.lo) ∧ w'.cell? ⟨gc, k * 2 + 1, none⟩ = some (.slice xa xn xc)) wr.drew := ⟨jV, j0, j1, j2⟩
      go_upto_region 6 with fail
      refine wp_region_T 10 (fun w' : World => w'.cell? ⟨w.heap.size + 1 + 1, 0, none⟩ = some V ∧ w'.cell? ⟨CB, 0, none⟩ = some (.slice (some ⟨gc, 0, none⟩) xs.length cpc) ∧ w'.cell? ⟨gc, k * 2, none⟩ = some (.string x.lo) ∧ w'.cell? ⟨gc, k * 2 + 1, none⟩ = some (.slice xa xn xc)) (by kernel_rfl) ?_
      refine anyT_take (i := 0) (v := ?vr0x1) rfl (by kernel_rfl) (by kernel_rfl) (by kernel_rfl) (by kernel_rfl) (by decide) (fun _ _ _ h => h) (Or.inl ⟨by rfl, ?yr0x1⟩) hS ?_
      case yr0x1 => (intro wz hSw; (try dsimp only at hSw); go_simp; (try with_reducible rfl))
      try simp only [Act.put, List.setIfInBounds_toArray, List.set_cons_zero, List.set_cons_succ]
      refine anyT_take (i := 1) (v := ?vr1x2) rfl (by kernel_rfl) (by kernel_rfl) (by kernel_rfl) (by kernel_rfl) (by decide) (fun _ _ _ h => h) (Or.inl ⟨by rfl, ?yr1x2⟩) hS ?_
      case yr1x2 => (intro wz hSw; (try dsimp only at hSw); go_simp; (try with_reducible rfl))
      try simp only [Act.put, List.setIfInBounds_toArray, List.set_cons_zero, List.set_cons_succ]
      refine anyT_take (i := 2) (v := ?vr2x3) rfl (by kernel_rfl) (by kernel_rfl) (by kernel_rfl) (by kernel_rfl) (by decide) (fun _ _ _ h => h) (Or.inl ⟨by rfl, ?yr2x3⟩) hS ?_
      case yr2x3 => (intro wz hSw; (try dsimp only at hSw); go_simp; (try with_reducible rfl))
      try simp only [Act.put, List.setIfInBounds_toArray, List.set_cons_zero, List.set_cons_succ]
      refine anyT_take (i := 3) (v := ?vr3x4) rfl (by kernel_rfl) (by kernel_rfl) (by kernel_rfl) (by kernel_rfl) (by decide) (fun _ _ _ h => h) (Or.inl ⟨by rfl, ?yr3x4⟩) hS ?_
      case yr3x4 => (intro wz hSw; (try dsimp only at hSw); go_simp; (try with_reducible rfl))
      try simp only [Act.put, List.setIfInBounds_toArray, List.set_cons_zero, List.set_cons_succ]
      refine anyT_take (i := 4) (v := ?vr4x5) rfl (by kernel_rfl) (by kernel_rfl) (by kernel_rfl) (by kernel_rfl) (by decide) (fun _ _ _ h => h) (Or.inl ⟨by rfl, ?yr4x5⟩) hS ?_
      case yr4x5 => (intro wz hSw; (try dsimp only at hSw); go_simp; (try with_reducible rfl))
      try simp only [Act.put, List.setIfInBounds_toArray, List.set_cons_zero, List.set_cons_succ]
      refine anyT_take (i := 5) (v := ?vr5x6) rfl (by kernel_rfl) (by kernel_rfl) (by kernel_rfl) (by kernel_rfl) (by decide) (fun _ _ _ h => h) (Or.inl ⟨by rfl, ?yr5x6⟩) hS ?_
      case yr5x6 => (intro wz hSw; (try dsimp only at hSw); go_simp; (try with_reducible rfl))
      try simp only [Act.put, List.setIfInBounds_toArray, List.set_cons_zero, List.set_cons_succ]
      refine anyT_take (i := 6) (v := ?vr6x7) rfl (by kernel_rfl) (by kernel_rfl) (by kernel_rfl) (by kernel_rfl) (by decide) (fun _ _ _ h => h) (Or.inl ⟨by rfl, ?yr6x7⟩) hS ?_
      case yr6x7 => (intro wz hSw; (try dsimp only at hSw); go_simp; (try with_reducible rfl))
      try simp only [Act.put, List.setIfInBounds_toArray, List.set_cons_zero, List.set_cons_succ]
      refine anyT_one (i := 7) (by kernel_rfl) rfl (fun K hK => ?_)
      go_simp
      obtain ⟨W3, hW3⟩ : ∃ W3 : World, W3 = (wr.alloc (Obj.cells #[.string x.lo, .slice xa xn xc] 133)).drew := ⟨_, rfl⟩
      have hb3 : Below wr.heap.size wr W3 := by rw [hW3]; exact ((Below.refl _ _).alloc (Nat.le_refl _) _).drew
      have hz3 : W3.heap.size = wr.heap.size + 1 := by rw [hW3]; simp
      have hC3 : Chg (fun q => q = w.heap.size + 1 + 1 ∨ W1.heap.size ≤ q) W1 W3 := hCg.trans (Chg.of_below hb3)
      have hcc : ∀ i p, [(x.lo, Value.slice xa xn xc)][i]? = some p → W3.cell? ⟨wr.heap.size, 0 + i * 2, none⟩ = some (.string p.1) ∧ W3.cell? ⟨wr.heap.size, 0 + i * 2 + 1, none⟩ = some p.2 := by
        intro i p hp
        have := two_cells_new (w := wr) (t := 133) i p hp
        rw [hW3]
        simpa using this
      have HR3 : Hid (W3.ownsRow W1.heap.size 133 2 V (ys.map Tx.pr).length (cellsP (ys.map Tx.pr)) ∧ (∀ i p, [(x.lo, Value.slice xa xn xc)][i]? = some p → W3.cell? ⟨wr.heap.size, 0 + i * 2, none⟩ = some (.string p.1) ∧ W3.cell? ⟨wr.heap.size, 0 + i * 2 + 1, none⟩ = some p.2)) := ⟨by rw [List.length_map]; exact row_below HR.out hb3, hcc⟩
      obtain ⟨e0, e1, e2⟩ := HKx.out W3 hC3
      have eV : W3.cell? ⟨w.heap.size + 1 + 1, 0, none⟩ = some V := by rw [hb3.cell (p := ⟨w.heap.size + 1 + 1, 0, none⟩) (by show w.heap.size + 1 + 1 < wr.heap.size; have := hCg.size; omega)]; exact cV
      rw [← hW3]
      refine hK.out _ _ (.inr ⟨eV, e0, e1, e2⟩) ?_
      clear hK hW3 hcc
      try simp only [Act.put, List.setIfInBounds_toArray, List.set_cons_zero, List.set_cons_succ]
      refine anyT_one (i := 8) (by kernel_rfl) rfl (fun K hK => ?_)
      refine step_append_tabO _ (by rfl) _ _ (by rfl) W1.heap.size V (ys.map Tx.pr) wr.heap.size 0 1 1 [(x.lo, .slice xa xn xc)] (by rfl) (by rfl) rfl HR3.out.1 HR3.out.2 (by intro p hp; simp at hp; subst hp; rfl) (by rw [List.length_map]; simp; omega) (by have := hCg.size; omega) ?_
      intro v' w4 hA
      obtain ⟨g4, cp4, rfl⟩ := hA.form (.inr (by simp))
      have hln : (ys.map Tx.pr ++ [(x.lo, Value.slice xa xn xc)]).length = ys.length + 1 := by simp
      have hrow4 := hA.row
      rw [hln] at hrow4 ⊢
      have hC4 : Chg (fun q => q = w.heap.size + 1 + 1 ∨ W1.heap.size ≤ q) W1 w4 := hC3.trans (Chg.of_grown hA.grown (fun q hq => .inr (row_blk HR3.out.1 q hq)))
      have hb4 : Below W1.heap.size W3 w4 := (Below.refl _ _).grown hA.grown (by have := hCg.size; omega) (fun q hq => row_blk HR3.out.1 q hq)
      obtain ⟨f0, f1, f2⟩ := HKx.out w4 hC4
      have fV : w4.cell? ⟨w.heap.size + 1 + 1, 0, none⟩ = some V := by rw [hb4.cell (p := ⟨w.heap.size + 1 + 1, 0, none⟩) (by show w.heap.size + 1 + 1 < W1.heap.size; omega)]; exact eV
      have fF : w4.frozen? ⟨w.heap.size + 1 + 1, 0, none⟩ = false := by
        rw [hb4.frozen (p := ⟨w.heap.size + 1 + 1, 0, none⟩) (by show w.heap.size + 1 + 1 < W1.heap.size; omega), hb3.frozen (p := ⟨w.heap.size + 1 + 1, 0, none⟩) (by show w.heap.size + 1 + 1 < wr.heap.size; have := hCg.size; omega)]; exact fVz
      have HN : Hid ((w4.setCell ⟨w.heap.size + 1 + 1, 0, none⟩ (.slice (some ⟨g4, 0, none⟩) (ys.length + 1) cp4)).ownsRow W1.heap.size 133 2 (.slice (some ⟨g4, 0, none⟩) (ys.length + 1) cp4) (ys ++ [x]).length (cellsP ((ys ++ [x]).map Tx.pr)) ∧ Chg (fun q => q = w.heap.size + 1 + 1 ∨ W1.heap.size ≤ q) W1 (w4.setCell ⟨w.heap.size + 1 + 1, 0, none⟩ (.slice (some ⟨g4, 0, none⟩) (ys.length + 1) cp4))) := by
        refine ⟨?_, hC4.trans (Chg.of_set _ _ _ _ (.inl rfl))⟩
        have h5 := row_set hrow4 (w.heap.size + 1 + 1) 0 (.slice (some ⟨g4, 0, none⟩) (ys.length + 1) cp4) (by omega)
        have e5 : (ys ++ [x]).map Tx.pr = ys.map Tx.pr ++ [(x.lo, Value.slice xa xn xc)] := by
          rw [List.map_append]
          show _ ++ [(x.lo, x.v)] = _
          rw [HD.out.2]
        rw [e5, List.length_append]
        exact h5
      refine hK.out _ _ (.inr ⟨fV, f0, f1, f2⟩) ?_
      clear hK hA hrow4
      try simp only [Act.put, List.setIfInBounds_toArray, List.set_cons_zero, List.set_cons_succ]
      refine anyT_take (i := 9) (v := ?vr9x8) rfl (by kernel_rfl) (by kernel_rfl) (by kernel_rfl) (by kernel_rfl) (by decide) (fun _ _ _ h => h) (Or.inl ⟨by rfl, ?yr9x8⟩) (show _ ∧ _ from ⟨fV, f0, f1, f2⟩) ?_
      case yr9x8 => (intro wz hSw; (try dsimp only at hSw); go_simp; (try with_reducible rfl))
      try simp only [Act.put, List.setIfInBounds_toArray, List.set_cons_zero, List.set_cons_succ]
      refine anyT_one (i := 10) (by kernel_rfl) rfl (fun K hK => ?_)
      go_simp
      refine hK.out _ _ (.inl rfl) ?_
      clear hK
      try simp only [Act.put, List.setIfInBounds_toArray, List.set_cons_zero, List.set_cons_succ]
      refine anyT_done (by kernel_rfl) ?_
      have m5 : (w4.setCell ⟨w.heap.size + 1 + 1, 0, none⟩ (.slice (some ⟨g4, 0, none⟩) (ys.length + 1) cp4)).cell? ⟨w.heap.size + 1 + 1, 0, none⟩ = some (.slice (some ⟨g4, 0, none⟩) (ys.length + 1) cp4) := by simp [go_sem, fV]
      have m6 : (w4.setCell ⟨w.heap.size + 1 + 1, 0, none⟩ (.slice (some ⟨g4, 0, none⟩) (ys.length + 1) cp4)).frozen? ⟨w.heap.size + 1 + 1, 0, none⟩ = false := by simp [go_sem, fF]
      clear f0 f1 f2 fV fF e0 e1 e2 eV j0 j1 j2 jV
      go_wp2_with fail
      go_roundw
      case rel => go_light; exact ⟨k + 1, _, ys ++ [x], by omega, by go_num, by rw [HY.out, List.take_add_one, HD.out.1]; rfl, m5, m6, HN.out.1, HN.out.2⟩
      case measure => go_light; simp [intOf]; omega
    · have zk : ¬ (k : Int) < (fr : Int) := by omega
      have HY2 : Hid (ys = xs.take fr) := by
        have e : k = fr := by omega
        show ys = xs.take fr
        rw [← e]; exact HY.out
      obtain ⟨Va, Vn, Vc, rfl⟩ : ∃ Va Vn Vc, V = .slice Va Vn Vc := by
        rcases HR.out.2 with ⟨q, _⟩ | ⟨g2, cp, cur, q, _⟩ <;> exact ⟨_, _, _, q⟩
      have hcm : Hid (∀ i p, (ms.map Tx.pr)[i]? = some p → wr.cell? ⟨ob, 0 + i * 2, none⟩ = some (.string p.1) ∧ wr.cell? ⟨ob, 0 + i * 2 + 1, none⟩ = some p.2) := by
        intro i p hp
        rw [List.getElem?_map] at hp
        obtain ⟨t, ht, rfl⟩ := Option.map_eq_some_iff.1 hp
        exact (HC.out wr hCg).2.2.2 i t ht
      have h1c : Hid (∀ p ∈ ms.map Tx.pr, p.2.oneCell' = true) := by
        intro p hp
        obtain ⟨t, ht, rfl⟩ := List.mem_map.1 hp
        exact (HM.out.runs t ht).one
      go_wp2_with (at_builtin; refine wpList_append_tabO _ rfl _ _ rfl W1.heap.size (.slice Va Vn Vc) (ys.map Tx.pr) ob 0 ms.length ms.length (ms.map Tx.pr) rfl rfl (List.length_map ..).symm ?hO hcm.out h1c.out ?hl ?hb ?_)
      case hO => rw [← hz1]; exact HR.out
      case hl => omega
      case hb => have := hCg.size; omega
      intro v' w4 hA
      obtain ⟨g4, cp4, rfl⟩ := hA.form (.inr (by simp; omega))
      have hln : (ys.map Tx.pr ++ ms.map Tx.pr).length = ys.length + ms.length := by simp
      have hrow4 := hA.row
      rw [hln] at hrow4 ⊢
      have hC4 : Chg (fun q => q = w.heap.size + 1 + 1 ∨ W1.heap.size ≤ q) W1 w4 := hCg.trans (Chg.of_grown hA.grown (fun q hq => .inr (row_blk HR.out q hq)))
      have hb4 : Below W1.heap.size wr w4 := (Below.refl _ _).grown hA.grown (by have := hCg.size; omega) (fun q hq => row_blk HR.out q hq)
      have fV : w4.cell? ⟨w.heap.size + 1 + 1, 0, none⟩ = some (.slice Va Vn Vc) := by rw [hb4.cell (p := ⟨w.heap.size + 1 + 1, 0, none⟩) (by show w.heap.size + 1 + 1 < W1.heap.size; omega)]; exact cV
      have fF : w4.frozen? ⟨w.heap.size + 1 + 1, 0, none⟩ = false := by
        rw [hb4.frozen (p := ⟨w.heap.size + 1 + 1, 0, none⟩) (by show w.heap.size + 1 + 1 < W1.heap.size; omega)]; exact fVz
      obtain ⟨W5, hW5⟩ : ∃ W5, W5 = w4.setCell ⟨w.heap.size + 1 + 1, 0, none⟩ (.slice (some ⟨g4, 0, none⟩) (ys.length + ms.length) cp4) := ⟨_, rfl⟩
      have HN5 : Hid (W5.cell? ⟨w.heap.size + 1 + 1, 0, none⟩ = some (.slice (some ⟨g4, 0, none⟩) (ys.length + ms.length) cp4) ∧ W5.frozen? ⟨w.heap.size + 1 + 1, 0, none⟩ = false ∧ W5.ownsRow W1.heap.size 133 2 (.slice (some ⟨g4, 0, none⟩) (ys.length + ms.length) cp4) (ys ++ ms).length (cellsP ((ys ++ ms).map Tx.pr)) ∧ Chg (fun q => q = w.heap.size + 1 + 1 ∨ W1.heap.size ≤ q) W1 W5) := by
        refine ⟨by rw [hW5]; simp [go_sem, fV], by rw [hW5]; simp [go_sem, fF], ?_, by rw [hW5]; exact hC4.trans (Chg.of_set _ _ _ _ (.inl rfl))⟩
        have h5 := row_set hrow4 (w.heap.size + 1 + 1) 0 (.slice (some ⟨g4, 0, none⟩) (ys.length + ms.length) cp4) (by omega)
        rw [List.map_append, List.length_append, hW5, hz1]
        exact h5
      clear hA hrow4 hcm h1c
      go_wp2_with fail
      rw [← hW5]
      clear hW5
      go_loopw [12] (fun i wr => ∃ (k : Nat) (V : Value) (zs : List Tx), til ≤ k ∧ k ≤ xs.length ∧ i = .int .i64 k ∧ zs = ys ++ ms ++ (xs.drop til).take (k - til) ∧ wr.cell? ⟨w.heap.size + 1 + 1, 0, none⟩ = some V ∧ wr.frozen? ⟨w.heap.size + 1 + 1, 0, none⟩ = false ∧ wr.ownsRow W1.heap.size 133 2 V zs.length (cellsP (zs.map Tx.pr)) ∧ Chg (fun q => q = w.heap.size + 1 + 1 ∨ W1.heap.size ≤ q) W1 wr) (fun i _ => xs.length - (intOf i).toNat)
      case atStart => exact ⟨til, _, ys ++ ms, Nat.le_refl _, htx, rfl, by simp, HN5.out.1, HN5.out.2.1, HN5.out.2.2.1, HN5.out.2.2.2⟩
      clear HR hCg cV fVz HY hC4 hb4 fV fF HN5 hk zk
      case round =>
        obtain ⟨k, V, zs, hk0, hk, rfl, hzs, cV, fVz, hrow, hCg⟩ := hrel
        have HY : Hid (zs = ys ++ ms ++ (xs.drop til).take (k - til)) := hzs
        have hyz : zs.length ≤ 3000 := by rw [hzs, List.length_append, List.length_append, List.length_take, List.length_drop]; omega
        have HR : Hid (wr.ownsRow W1.heap.size 133 2 V zs.length (cellsP (zs.map Tx.pr))) := hrow
        have cCB := (HC.out wr hCg).1
        clear hzs hrow
        by_cases hlt : k < xs.length
        · have zk : (k : Int) < (xs.length : Int) := by omega
          obtain ⟨x, hx⟩ : ∃ x, xs[k]? = some x := ⟨_, List.getElem?_eq_getElem (by omega)⟩
          obtain ⟨xa, xn, xc, hxv⟩ := (HX.out.2.1.runs x (List.mem_of_getElem? hx)).isSlice
          have HKx : Hid (∀ w', Chg (fun q => q = w.heap.size + 1 + 1 ∨ W1.heap.size ≤ q) W1 w' → w'.cell? ⟨CB, 0, none⟩ = some (.slice (some ⟨gc, 0, none⟩) xs.length cpc) ∧ w'.cell? ⟨gc, k * 2, none⟩ = some (.string x.lo) ∧ w'.cell? ⟨gc, k * 2 + 1, none⟩ = some (.slice xa xn xc)) := by
            intro w' hw'
            obtain ⟨q0, q1⟩ := HX.out.1.cells (p := x.pr) (i := k) (by rw [List.getElem?_map, hx]; rfl)
            have e2 : x.pr.2 = .slice xa xn xc := hxv
            have e1 : x.pr.1 = x.lo := rfl
            rw [e2] at q1
            rw [e1] at q0
            refine ⟨(HC.out w' hw').1, ?_, ?_⟩
            · rw [hw'.cell (p := ⟨gc, k * 2, none⟩) (by exact hgc.2) (by intro q; rcases q with q | q <;> simp only at q <;> omega)]; exact q0
            · rw [hw'.cell (p := ⟨gc, k * 2 + 1, none⟩) (by exact hgc.2) (by intro q; rcases q with q | q <;> simp only at q <;> omega)]; exact q1
          have HD : Hid (xs[k]? = some x ∧ x.v = .slice xa xn xc) := ⟨hx, hxv⟩
          clear hx hxv
          have hVs : ∃ Va Vn Vc, V = .slice Va Vn Vc := by
            rcases HR.out.2 with ⟨q, _⟩ | ⟨g2, cp, cur, q, _⟩ <;> exact ⟨_, _, _, q⟩
          have zz : (k : Int) < (xs.length : Int) := by omega
          have hCd : Chg (fun q => q = w.heap.size + 1 + 1 ∨ W1.heap.size ≤ q) W1 wr.drew := hCg.trans (Chg.of_below ((Below.refl _ _).drew))
          obtain ⟨j0, j1, j2⟩ := HKx.out wr.drew hCd
          have jV : wr.drew.cell? ⟨w.heap.size + 1 + 1, 0, none⟩ = some V := by simpa using cV
          have hS : (fun w' : World => w'.cell? ⟨w.heap.size + 1 + 1, 0, none⟩ = some V ∧ w'.cell? ⟨CB, 0, none⟩ = some (.slice (some ⟨gc, 0, none⟩) xs.length cpc) ∧ w'.cell? ⟨gc, k * 2, none⟩ = some (.string x.lo) ∧ w'.cell? ⟨gc, k * 2 + 1, none⟩ = some (.slice xa xn xc)) wr.drew := ⟨jV, j0, j1, j2⟩
          go_upto_region 11 with fail
          refine wp_region_T 10 (fun w' : World => w'.cell? ⟨w.heap.size + 1 + 1, 0, none⟩ = some V ∧ w'.cell? ⟨CB, 0, none⟩ = some (.slice (some ⟨gc, 0, none⟩) xs.length cpc) ∧ w'.cell? ⟨gc, k * 2, none⟩ = some (.string x.lo) ∧ w'.cell? ⟨gc, k * 2 + 1, none⟩ = some (.slice xa xn xc)) (by kernel_rfl) ?_
          refine anyT_take (i := 0) (v := ?vr0x9) rfl (by kernel_rfl) (by kernel_rfl) (by kernel_rfl) (by kernel_rfl) (by decide) (fun _ _ _ h => h) (Or.inl ⟨by rfl, ?yr0x9⟩) hS ?_
          case yr0x9 => (intro wz hSw; (try dsimp only at hSw); go_simp; (try with_reducible rfl))
          try simp only [Act.put, List.setIfInBounds_toArray, List.set_cons_zero, List.set_cons_succ]
          refine anyT_take (i := 1) (v := ?vr1x10) rfl (by kernel_rfl) (by kernel_rfl) (by kernel_rfl) (by kernel_rfl) (by decide) (fun _ _ _ h => h) (Or.inl ⟨by rfl, ?yr1x10⟩) hS ?_
          case yr1x10 => (intro wz hSw; (try dsimp only at hSw); go_simp; (try with_reducible rfl))
          try simp only [Act.put, List.setIfInBounds_toArray, List.set_cons_zero, List.set_cons_succ]
          refine anyT_take (i := 2) (v := ?vr2x11) rfl (by kernel_rfl) (by kernel_rfl) (by kernel_rfl) (by kernel_rfl) (by decide) (fun _ _ _ h => h) (Or.inl ⟨by rfl, ?yr2x11⟩) hS ?_
          case yr2x11 => (intro wz hSw; (try dsimp only at hSw); go_simp; (try with_reducible rfl))
          try simp only [Act.put, List.setIfInBounds_toArray, List.set_cons_zero, List.set_cons_succ]
          refine anyT_take (i := 3) (v := ?vr3x12) rfl (by kernel_rfl) (by kernel_rfl) (by kernel_rfl) (by kernel_rfl) (by decide) (fun _ _ _ h => h) (Or.inl ⟨by rfl, ?yr3x12⟩) hS ?_
          case yr3x12 => (intro wz hSw; (try dsimp only at hSw); go_simp; (try with_reducible rfl))
          try simp only [Act.put, List.setIfInBounds_toArray, List.set_cons_zero, List.set_cons_succ]
          refine anyT_take (i := 4) (v := ?vr4x13) rfl (by kernel_rfl) (by kernel_rfl) (by kernel_rfl) (by kernel_rfl) (by decide) (fun _ _ _ h => h) (Or.inl ⟨by rfl, ?yr4x13⟩) hS ?_
          case yr4x13 => (intro wz hSw; (try dsimp only at hSw); go_simp; (try with_reducible rfl))
          try simp only [Act.put, List.setIfInBounds_toArray, List.set_cons_zero, List.set_cons_succ]
          refine anyT_take (i := 5) (v := ?vr5x14) rfl (by kernel_rfl) (by kernel_rfl) (by kernel_rfl) (by kernel_rfl) (by decide) (fun _ _ _ h => h) (Or.inl ⟨by rfl, ?yr5x14⟩) hS ?_
          case yr5x14 => (intro wz hSw; (try dsimp only at hSw); go_simp; (try with_reducible rfl))
          try simp only [Act.put, List.setIfInBounds_toArray, List.set_cons_zero, List.set_cons_succ]
          refine anyT_take (i := 6) (v := ?vr6x15) rfl (by kernel_rfl) (by kernel_rfl) (by kernel_rfl) (by kernel_rfl) (by decide) (fun _ _ _ h => h) (Or.inl ⟨by rfl, ?yr6x15⟩) hS ?_
          case yr6x15 => (intro wz hSw; (try dsimp only at hSw); go_simp; (try with_reducible rfl))
          try simp only [Act.put, List.setIfInBounds_toArray, List.set_cons_zero, List.set_cons_succ]
          refine anyT_one (i := 7) (by kernel_rfl) rfl (fun K hK => ?_)
          go_simp
          obtain ⟨W3, hW3⟩ : ∃ W3 : World, W3 = (wr.alloc (Obj.cells #[.string x.lo, .slice xa xn xc] 133)).drew := ⟨_, rfl⟩
          have hb3 : Below wr.heap.size wr W3 := by rw [hW3]; exact ((Below.refl _ _).alloc (Nat.le_refl _) _).drew
          have hz3 : W3.heap.size = wr.heap.size + 1 := by rw [hW3]; simp
          have hC3 : Chg (fun q => q = w.heap.size + 1 + 1 ∨ W1.heap.size ≤ q) W1 W3 := hCg.trans (Chg.of_below hb3)
          have hcc : ∀ i p, [(x.lo, Value.slice xa xn xc)][i]? = some p → W3.cell? ⟨wr.heap.size, 0 + i * 2, none⟩ = some (.string p.1) ∧ W3.cell? ⟨wr.heap.size, 0 + i * 2 + 1, none⟩ = some p.2 := by
            intro i p hp
            have := two_cells_new (w := wr) (t := 133) i p hp
            rw [hW3]
            simpa using this
          have HR3 : Hid (W3.ownsRow W1.heap.size 133 2 V (zs.map Tx.pr).length (cellsP (zs.map Tx.pr)) ∧ (∀ i p, [(x.lo, Value.slice xa xn xc)][i]? = some p → W3.cell? ⟨wr.heap.size, 0 + i * 2, none⟩ = some (.string p.1) ∧ W3.cell? ⟨wr.heap.size, 0 + i * 2 + 1, none⟩ = some p.2)) := ⟨by rw [List.length_map]; exact row_below HR.out hb3, hcc⟩
          obtain ⟨e0, e1, e2⟩ := HKx.out W3 hC3
          have eV : W3.cell? ⟨w.heap.size + 1 + 1, 0, none⟩ = some V := by rw [hb3.cell (p := ⟨w.heap.size + 1 + 1, 0, none⟩) (by show w.heap.size + 1 + 1 < wr.heap.size; have := hCg.size; omega)]; exact cV
          rw [← hW3]
          refine hK.out _ _ (.inr ⟨eV, e0, e1, e2⟩) ?_
          clear hK hW3 hcc
          try simp only [Act.put, List.setIfInBounds_toArray, List.set_cons_zero, List.set_cons_succ]
          refine anyT_one (i := 8) (by kernel_rfl) rfl (fun K hK => ?_)
          refine step_append_tabO _ (by rfl) _ _ (by rfl) W1.heap.size V (zs.map Tx.pr) wr.heap.size 0 1 1 [(x.lo, .slice xa xn xc)] (by rfl) (by rfl) rfl HR3.out.1 HR3.out.2 (by intro p hp; simp at hp; subst hp; rfl) (by rw [List.length_map]; simp; omega) (by have := hCg.size; omega) ?_
          intro v' w4 hA
          obtain ⟨g4, cp4, rfl⟩ := hA.form (.inr (by simp))
          have hln : (zs.map Tx.pr ++ [(x.lo, Value.slice xa xn xc)]).length = zs.length + 1 := by simp
          have hrow4 := hA.row
          rw [hln] at hrow4 ⊢
          have hC4 : Chg (fun q => q = w.heap.size + 1 + 1 ∨ W1.heap.size ≤ q) W1 w4 := hC3.trans (Chg.of_grown hA.grown (fun q hq => .inr (row_blk HR3.out.1 q hq)))
          have hb4 : Below W1.heap.size W3 w4 := (Below.refl _ _).grown hA.grown (by have := hCg.size; omega) (fun q hq => row_blk HR3.out.1 q hq)
          obtain ⟨f0, f1, f2⟩ := HKx.out w4 hC4
          have fV : w4.cell? ⟨w.heap.size + 1 + 1, 0, none⟩ = some V := by rw [hb4.cell (p := ⟨w.heap.size + 1 + 1, 0, none⟩) (by show w.heap.size + 1 + 1 < W1.heap.size; omega)]; exact eV
          have fF : w4.frozen? ⟨w.heap.size + 1 + 1, 0, none⟩ = false := by
            rw [hb4.frozen (p := ⟨w.heap.size + 1 + 1, 0, none⟩) (by show w.heap.size + 1 + 1 < W1.heap.size; omega), hb3.frozen (p := ⟨w.heap.size + 1 + 1, 0, none⟩) (by show w.heap.size + 1 + 1 < wr.heap.size; have := hCg.size; omega)]; exact fVz
          have HN : Hid ((w4.setCell ⟨w.heap.size + 1 + 1, 0, none⟩ (.slice (some ⟨g4, 0, none⟩) (zs.length + 1) cp4)).ownsRow W1.heap.size 133 2 (.slice (some ⟨g4, 0, none⟩) (zs.length + 1) cp4) (zs ++ [x]).length (cellsP ((zs ++ [x]).map Tx.pr)) ∧ Chg (fun q => q = w.heap.size + 1 + 1 ∨ W1.heap.size ≤ q) W1 (w4.setCell ⟨w.heap.size + 1 + 1, 0, none⟩ (.slice (some ⟨g4, 0, none⟩) (zs.length + 1) cp4))) := by
            refine ⟨?_, hC4.trans (Chg.of_set _ _ _ _ (.inl rfl))⟩
            have h5 := row_set hrow4 (w.heap.size + 1 + 1) 0 (.slice (some ⟨g4, 0, none⟩) (zs.length + 1) cp4) (by omega)
            have e5 : (zs ++ [x]).map Tx.pr = zs.map Tx.pr ++ [(x.lo, Value.slice xa xn xc)] := by
              rw [List.map_append]
              show _ ++ [(x.lo, x.v)] = _
              rw [HD.out.2]
            rw [e5, List.length_append]
            exact h5
          refine hK.out _ _ (.inr ⟨fV, f0, f1, f2⟩) ?_
          clear hK hA hrow4
          try simp only [Act.put, List.setIfInBounds_toArray, List.set_cons_zero, List.set_cons_succ]
          refine anyT_take (i := 9) (v := ?vr9x16) rfl (by kernel_rfl) (by kernel_rfl) (by kernel_rfl) (by kernel_rfl) (by decide) (fun _ _ _ h => h) (Or.inl ⟨by rfl, ?yr9x16⟩) (show _ ∧ _ from ⟨fV, f0, f1, f2⟩) ?_
          case yr9x16 => (intro wz hSw; (try dsimp only at hSw); go_simp; (try with_reducible rfl))
          try simp only [Act.put, List.setIfInBounds_toArray, List.set_cons_zero, List.set_cons_succ]
          refine anyT_one (i := 10) (by kernel_rfl) rfl (fun K hK => ?_)
          go_simp
          refine hK.out _ _ (.inl rfl) ?_
          clear hK
          try simp only [Act.put, List.setIfInBounds_toArray, List.set_cons_zero, List.set_cons_succ]
          refine anyT_done (by kernel_rfl) ?_
          have m5 : (w4.setCell ⟨w.heap.size + 1 + 1, 0, none⟩ (.slice (some ⟨g4, 0, none⟩) (zs.length + 1) cp4)).cell? ⟨w.heap.size + 1 + 1, 0, none⟩ = some (.slice (some ⟨g4, 0, none⟩) (zs.length + 1) cp4) := by simp [go_sem, fV]
          have m6 : (w4.setCell ⟨w.heap.size + 1 + 1, 0, none⟩ (.slice (some ⟨g4, 0, none⟩) (zs.length + 1) cp4)).frozen? ⟨w.heap.size + 1 + 1, 0, none⟩ = false := by simp [go_sem, fF]
          clear f0 f1 f2 fV fF e0 e1 e2 eV j0 j1 j2 jV
          go_wp2_with fail
          go_roundw
          case rel => go_light; exact ⟨k + 1, _, zs ++ [x], by omega, by omega, by go_num, by rw [HY.out, show k + 1 - til = (k - til) + 1 by omega, List.take_add_one, List.getElem?_drop, show til + (k - til) = k by omega, HD.out.1]; simp, m5, m6, HN.out.1, HN.out.2⟩
          case measure => go_light; simp [intOf]; omega
        · have zk : ¬ (k : Int) < (xs.length : Int) := by omega
          obtain ⟨_, d1, d2, _⟩ := HC.out wr hCg
          have HF : Hid (OwnTRow (wr.setCell ⟨w.heap.size + 1, 0, none⟩ V) w.heap.size V zs ∧ OwnTs (wr.setCell ⟨w.heap.size + 1, 0, none⟩ V) base zs ∧ zs.map Tx.tb = (ts.take fr).map Tm.tb ++ ms.map Tx.tb ++ (ts.drop til).map Tm.tb ∧ Below w.heap.size w (wr.setCell ⟨w.heap.size + 1, 0, none⟩ V)) := by
            have hbr : Below w.heap.size w wr := Chg.below (hba.trans (hbW.mono (by omega))) hCg (by omega) (fun q hq => by rcases hq with hq | hq <;> omega)
            have hbf : Below w.heap.size w (wr.setCell ⟨w.heap.size + 1, 0, none⟩ V) := hbr.setCell (by show w.heap.size ≤ w.heap.size + 1; omega) _
            have hq := row_set HR.out (w.heap.size + 1) 0 V (by omega)
            have hX := ((HX.out.2.1.chg hCg (fun q h1 h2 hS => by rcases hS with hS | hS <;> omega)).set (w.heap.size + 1) 0 V (by omega)).mono (base' := base) (by omega)
            have hze : zs = xs.take fr ++ ms ++ xs.drop til := by
              have e9 : (xs.drop til).take (k - til) = xs.drop til := List.take_of_length_le (by rw [List.length_drop]; omega)
              rw [HY.out, HY2.out, e9]
            refine ⟨ownTRow_of (row_mono hq (by omega)) rfl, ?_, ?_, hbf⟩
            · rw [hze]
              exact ((hX.take fr).append (HM.out.below hbf)).append (hX.drop til)
            · rw [hze, List.map_append, List.map_append, List.map_take, List.map_drop, HX.out.2.2, List.map_take, List.map_drop]
          obtain ⟨va, vn, vc, rfl⟩ : ∃ va vn vc, V = .slice va vn vc := by
            rcases HR.out.2 with ⟨q, _⟩ | ⟨g2, cp, cur, q, _⟩ <;> exact ⟨_, _, _, q⟩
          go_wp2_with fail
          refine bodyPost_ret (v := .agg #[.slice va vn vc]) (by simp [results, Try.results76, go_sem, d1]) rfl ⟨_, zs, rfl, HF.out.1, HF.out.2.1, ?_, HF.out.2.2.2⟩
          rw [HF.out.2.2.1]
          simp
end Go.Proofs.Ytlgeffinhbodeae
