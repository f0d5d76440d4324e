import Derived.Lib.AppendZeros
import Derived.Test.YtlgeffinhbodeafGreatPkAI
import Derived.Test.YtlgeffinhbodeafGreatPkAC
import Derived.Test.YtlgeffinhbodeafGreatPkAD
/-
  spec.l7Copy.
-/
namespace Go.Proofs.YtlgeffinhbodeafGreat
open Go.ChangeShapes Go.WideShapes Go.ChangeAt Go.RowKit Go.Deep
set_option linter.unusedVariables false
set_option linter.unusedSimpArgs false
set_option maxRecDepth 100000

def Tx.tb (t : Tx) : Tb := ⟨t.lo, t.rs.map Rw.es⟩
theorem Tm.at.ins {w : World} {t : Tm} (h : t.at w) : InRms w t.u t.l := .inr ⟨t.b, t.off, t.cap, rfl, h.rms, h.lt, h.len, h.cap⟩
/-- Tablets of the call's own beneath a row of tablets. -/
structure OwnTs (w : World) (base : Nat) (ts : List Tx) : Prop where
  runs : ∀ t ∈ ts, OwnRow w base t.v t.rs
  ents : ∀ t ∈ ts, ∀ r ∈ t.rs, OwnK w base r
theorem OwnTs.below {w w' : World} {base : Nat} {ts : List Tx} (h : OwnTs w base ts) (hb : Below w.heap.size w w') : OwnTs w' base ts :=
  ⟨fun t ht => (h.runs t ht).below hb, fun t ht r hr => (h.ents t ht r hr).below hb⟩
/-- A row of tablets grows: what lies beneath stays. -/
theorem OwnTs.grown {w w' : World} {base base' : Nat} {ts : List Tx} {v : Value} {n : Nat} {xs : List Value} (h : OwnTs w base ts) (hv : w.ownsRow base' 56 2 v n xs) (hg : w.grownBy w' v.ownBlock) : OwnTs w' base ts := by
  refine ⟨fun t ht => (h.runs t ht).kept hg (fun g hg1 hne hg2 => ?_), fun t ht r hr => (h.ents t ht r hr).kept hg (fun g hg1 hg2 => ?_)⟩
  · rcases h.runs t ht with ⟨q, _⟩ | ⟨g', cp, hv', hO⟩
    · exact hne q
    · rw [hv'] at hg1
      exact own_apart hv hO (by decide) g hg2 hg1
  · rcases h.ents t ht r hr with ⟨q, _⟩ | ⟨g', cp, hk, hu, hO⟩
    · rw [q] at hg1; cases hg1
    · rw [hk] at hg1
      have e1 : g' = g := Option.some.inj hg1
      subst e1
      exact own_apart hv hO (by decide) g' hg2 rfl
theorem OwnTs.set {w : World} {base : Nat} {ts : List Tx} (h : OwnTs w base ts) (g o : Nat) (u : Value) (hlt : g < base) : OwnTs (w.setCell ⟨g, o, none⟩ u) base ts := by
  refine ⟨fun t ht => (h.runs t ht).kept (grown_set w g o u) (fun g' hg1 hne hg2 => ?_), fun t ht r hr => (h.ents t ht r hr).kept (grown_set w g o u) (fun g' hg1 hg2 => ?_)⟩
  · rcases h.runs t ht with ⟨q, _⟩ | ⟨g2, cp, hv', hO⟩
    · exact hne q
    · rw [hv'] at hg1
      have e1 : g2 = g' := Option.some.inj hg1
      have e2 : g = g' := Option.some.inj hg2
      have := World.ownsRow.lt hO g2 rfl
      omega
  · have := (h.ents t ht r hr).key hg1
    have e2 : g = g' := Option.some.inj hg2
    omega
theorem OwnTs.snoc {w : World} {base : Nat} {ts : List Tx} {t : Tx} (h : OwnTs w base ts) (h1 : OwnRow w base t.v t.rs) (h2 : ∀ r ∈ t.rs, OwnK w base r) : OwnTs w base (ts ++ [t]) := by
  refine ⟨fun x hx => ?_, fun x hx => ?_⟩
  · rcases List.mem_append.1 hx with hx | hx
    · exact h.runs x hx
    · simp at hx; subst hx; exact h1
  · rcases List.mem_append.1 hx with hx | hx
    · exact h.ents x hx
    · simp at hx; subst hx; exact h2
theorem row_set {w : World} {base e size : Nat} {v : Value} {n : Nat} {xs : List Value} (h : w.ownsRow base e size v n xs) (g o : Nat) (u : Value) (hlt : g < base) : (w.setCell ⟨g, o, none⟩ u).ownsRow base e size v n xs := by
  refine World.ownsRow.kept h (grown_set w g o u) ?_
  rcases h.2 with ⟨q, _⟩ | ⟨g2, cp, cur, hv', h1, _⟩
  · exact .inr (fun z => by rw [q] at z; cases z)
  · refine .inr (fun z => ?_)
    rw [hv'] at z
    have e1 : g2 = g := Option.some.inj z
    omega
theorem row_blk {w : World} {base e size : Nat} {v : Value} {n : Nat} {xs : List Value} (h : w.ownsRow base e size v n xs) : ∀ j, v.ownBlock = some j → base ≤ j := by
  intro j hj
  rcases h.2 with ⟨q, _⟩ | ⟨g, cap, cur, hv, h1, _⟩
  · rw [q] at hj; cases hj
  · rw [hv] at hj
    have : g = j := Option.some.inj hj
    omega
theorem row_below {w w' : World} {base e size : Nat} {v : Value} {n : Nat} {xs : List Value} (h : w.ownsRow base e size v n xs) (hb : Below w.heap.size w w') : w'.ownsRow base e size v n xs := by
  refine World.ownsRow.kept h (grown_of_below hb none) ?_
  cases hv : v.ownBlock with
  | none => exact .inl rfl
  | some g => exact .inr (fun q => by cases q)
theorem two_cells_new {w : World} {lo : ByteArray} {x : Value} {t : TypeId} : ∀ i p, [(lo, x)][i]? = some p → (w.alloc (.cells #[.string lo, x] t)).cell? ⟨w.heap.size, 0 + i * 2, none⟩ = some (.string p.1) ∧ (w.alloc (.cells #[.string lo, x] t)).cell? ⟨w.heap.size, 0 + i * 2 + 1, none⟩ = some p.2 := by
  intro i p hp
  have hi : i = 0 := by have := (List.getElem?_eq_some_iff.1 hp).1; simp at this; omega
  subst hi
  simp at hp
  subst hp
  constructor <;> simp
theorem OwnRow.isSlice {w : World} {base : Nat} {v : Value} {rs : List Rw} (h : OwnRow w base v rs) : ∃ a n c, v = .slice a n c := by
  rcases h with ⟨_, a, c, h⟩ | ⟨g, cp, h, _⟩ <;> exact ⟨_, _, _, h⟩
theorem OwnRow.one {w : World} {base : Nat} {v : Value} {rs : List Rw} (h : OwnRow w base v rs) : v.oneCell' = true := by
  rcases h with ⟨_, a, c, h⟩ | ⟨g, cp, h, _⟩ <;> rw [h] <;> rfl
theorem ownTRow_of {w : World} {base : Nat} {v : Value} {n : Nat} {ts : List Tx} (h : w.ownsRow base 56 2 v n (cellsP (ts.map Tx.pr))) (hn : ts.length = n) : OwnTRow w base v ts := by
  subst hn
  rcases h.2 with ⟨h0, h1⟩ | ⟨g, cap, cur, hv, _⟩
  · exact .inl ⟨List.eq_nil_of_length_eq_zero h1, none, 0, h0⟩
  · refine .inr ⟨g, cap, hv, ?_⟩
    unfold OwnP
    rw [List.length_map]
    rw [hv] at h
    exact h
/-- What a copy of a store hands back. -/
def CpSPost (w : World) (tbs : List Tb) (e : Ending) (w' : World) : Prop := ∃ (v : Value) (xs : List Tx), e = .returned (.agg #[v]) ∧ OwnSt w' w.heap.size v xs ∧ xs.map Tx.tb = tbs ∧ Below w.heap.size w w'

set_option maxHeartbeats 8000000 in
theorem specCopy_core (b off cap : Nat) (ts : List Tm) (w : World) (h : TmsAt w b off ts) (hB : b < w.heap.size) (hn : ts.length ≤ 1048576) (hs : ∀ t ∈ ts, t.l.length ≤ 1048576 ∧ totM t.l ≤ 1048576) :
    Calls Tryz.prog 20 #[.agg #[.slice (some ⟨b, off, none⟩) ts.length cap]] w fun e w' => CpSPost w (ts.map Tm.tb) e w' := by
  obtain ⟨Wa, hWa⟩ : ∃ Wa : World, Wa = (w.alloc (Obj.cells #[.slice (some ⟨b, off, none⟩) ts.length cap] 30)).alloc (Obj.cells #[.slice none 0 0] 30) := ⟨_, rfl⟩
  obtain ⟨W0, hW0⟩ : ∃ W0 : World, W0 = Wa.alloc (Obj.cells #[.slice none 0 0] 30) := ⟨_, rfl⟩
  have hba : Below w.heap.size w Wa := by rw [hWa]; exact ((Below.refl _ _).alloc (Nat.le_refl _) _).alloc (by simp) _
  have hza : Wa.heap.size = w.heap.size + 1 + 1 := by rw [hWa]; simp
  have hbb : Below Wa.heap.size Wa W0 := by rw [hW0]; exact (Below.refl _ _).alloc (Nat.le_refl _) _
  have hz0 : W0.heap.size = w.heap.size + 1 + 1 + 1 := by rw [hW0]; simp [hza]
  have HWa : Hid (∀ wx, Below Wa.heap.size Wa wx → wx.cell? ⟨w.heap.size, 0, none⟩ = some (.slice (some ⟨b, off, none⟩) ts.length cap) ∧ wx.cell? ⟨w.heap.size + 1, 0, none⟩ = some (.slice none 0 0) ∧ wx.frozen? ⟨w.heap.size + 1, 0, none⟩ = false ∧ TmsAt wx b off ts ∧ b < wx.heap.size) := by
    intro wx hx
    have sx := hx.size
    refine ⟨?_, ?_, ?_, (h.below hba hB).below hx (by omega), by omega⟩
    · rw [hx.cell (p := ⟨w.heap.size, 0, none⟩) (by show w.heap.size < Wa.heap.size; omega), hWa]; simp [go_sem]
    · rw [hx.cell (p := ⟨w.heap.size + 1, 0, none⟩) (by show w.heap.size + 1 < Wa.heap.size; omega), hWa]; simp [go_sem]
    · rw [hx.frozen (p := ⟨w.heap.size + 1, 0, none⟩) (by show w.heap.size + 1 < Wa.heap.size; omega), hWa]; simp [go_sem]
  have HS : Hid (∀ t ∈ ts, t.l.length ≤ 1048576 ∧ totM t.l ≤ 1048576) := hs
  have c0 : W0.cell? ⟨w.heap.size + 1 + 1, 0, none⟩ = some (.slice none 0 0) := by rw [hW0, ← hza]; simp
  have f0 : W0.frozen? ⟨w.heap.size + 1 + 1, 0, none⟩ = false := by rw [hW0, ← hza]; simp
  clear h hs
  go_enter Tryz.func20, Tryz.ntmps20
  go_wp2_with fail
  rw [← hWa, ← hW0]
  clear hWa hW0
  go_loopw [4] (fun i wr => ∃ (k : Nat) (V : Value) (xs : List Tx), k ≤ ts.length ∧ i = .int .i64 k ∧ xs.length = k ∧ xs.map Tx.tb = (ts.take k).map Tm.tb ∧ wr.cell? ⟨w.heap.size + 1 + 1, 0, none⟩ = some V ∧ wr.frozen? ⟨w.heap.size + 1 + 1, 0, none⟩ = false ∧ wr.ownsRow W0.heap.size 56 2 V k (cellsP (xs.map Tx.pr)) ∧ OwnTs wr W0.heap.size xs ∧ Below Wa.heap.size Wa wr ∧ W0.heap.size ≤ wr.heap.size) (fun i _ => ts.length - (intOf i).toNat)
  case atStart => exact ⟨0, .slice none 0 0, [], Nat.zero_le _, rfl, rfl, rfl, c0, f0, World.ownsRow_nil .., ⟨fun t ht => by simp at ht, fun t ht => by simp at ht⟩, hbb, Nat.le_refl _⟩
  case round =>
    obtain ⟨k, V, xs, hk, rfl, hxl, hxt, cV, fV, hrow, hts, hb, hsz⟩ := hrel
    have HR : Hid (xs.length = k ∧ xs.map Tx.tb = (ts.take k).map Tm.tb ∧ wr.ownsRow W0.heap.size 56 2 V k (cellsP (xs.map Tx.pr)) ∧ OwnTs wr W0.heap.size xs) := ⟨hxl, hxt, hrow, hts⟩
    have hVc : V.cells = #[V] := by
      rcases hrow.2 with ⟨q, _⟩ | ⟨g2, cp, cur, q, _⟩ <;> rw [q] <;> rfl
    clear hxl hxt hrow hts
    obtain ⟨d0, d1, d2, d3, d4⟩ := HWa.out wr hb
    have HT : Hid (TmsAt wr b off ts) := d3
    clear d3
    by_cases hlt : k < ts.length
    · obtain ⟨t, ht⟩ : ∃ t, ts[k]? = some t := ⟨_, List.getElem?_eq_getElem hlt⟩
      obtain ⟨e0, e1, ha⟩ := HT.out k t ht
      have HD : Hid (ts[k]? = some t ∧ t.at wr ∧ t.l.length ≤ 1048576 ∧ totM t.l ≤ 1048576) := ⟨ht, ha, HS.out t (List.mem_of_getElem? ht)⟩
      clear ht ha
      have zk : (k : Int) < (ts.length : Int) := by omega
      have HK : Hid (∀ w', Below W0.heap.size wr w' → w'.cell? ⟨w.heap.size + 1 + 1, 0, none⟩ = some V ∧ w'.frozen? ⟨w.heap.size + 1 + 1, 0, none⟩ = false ∧ w'.cell? ⟨w.heap.size, 0, none⟩ = some (.slice (some ⟨b, off, none⟩) ts.length cap) ∧ w'.cell? ⟨b, off + k * 2, none⟩ = some (.string t.lo) ∧ w'.cell? ⟨b, off + k * 2 + 1, none⟩ = some (.slice (some ⟨t.b, t.off, none⟩) t.l.length t.cap)) := by
        intro w' k'
        exact ⟨by rw [k'.cell (p := ⟨w.heap.size + 1 + 1, 0, none⟩) (by show w.heap.size + 1 + 1 < W0.heap.size; omega)]; exact cV, by rw [k'.frozen (p := ⟨w.heap.size + 1 + 1, 0, none⟩) (by show w.heap.size + 1 + 1 < W0.heap.size; omega)]; exact fV, by rw [k'.cell (p := ⟨w.heap.size, 0, none⟩) (by show w.heap.size < W0.heap.size; omega)]; exact d0, by rw [k'.cell (p := ⟨b, off + k * 2, none⟩) (by show b < W0.heap.size; omega)]; exact e0, by rw [k'.cell (p := ⟨b, off + k * 2 + 1, none⟩) (by show b < W0.heap.size; omega)]; exact e1⟩
      go_upto_region 5 with fail
      have HCall : Hid (∀ X, Below wr.heap.size wr X → Calls Tryz.prog 48 #[.slice (some ⟨t.b, t.off, none⟩) t.l.length t.cap] X fun e w' => ∃ (ua : Option Addr) (un uc : Nat) (rs : List Rw), e = .returned (.slice ua un uc) ∧ Hid (CopyR w' wr.heap.size (.slice ua un uc) t.l rs ∧ Below wr.heap.size wr w') ∧ w'.cell? ⟨w.heap.size + 1 + 1, 0, none⟩ = some V ∧ w'.cell? ⟨w.heap.size, 0, none⟩ = some (.slice (some ⟨b, off, none⟩) ts.length cap) ∧ w'.cell? ⟨b, off + k * 2, none⟩ = some (.string t.lo) ∧ w'.cell? ⟨b, off + k * 2 + 1, none⟩ = some (.slice (some ⟨t.b, t.off, none⟩) t.l.length t.cap) ∧ (w'.alloc (Obj.cells #[.string t.lo, .slice ua un uc] 56)).cell? ⟨w.heap.size + 1 + 1, 0, none⟩ = some V) := by
        intro X hX
        refine (specCopyRuns_core t.u t.l X (HD.out.2.1.below hX).ins HD.out.2.2.1 HD.out.2.2.2).mono ?_
        rintro e w' ⟨u, rs, he, hC, _, hb'⟩
        have k' := hX.trans (hb'.mono hX.size)
        have s' := k'.size
        obtain ⟨ua, un, uc, rfl⟩ := hC.row.isSlice
        obtain ⟨q0, q1, q2, q3, q4⟩ := HK.out w' (k'.mono (by omega))
        obtain ⟨p0, _⟩ := HK.out (w'.alloc (Obj.cells #[.string t.lo, .slice ua un uc] 56)) ((k'.alloc s' _).mono (by omega))
        exact ⟨ua, un, uc, rs, he, ⟨⟨hC.row.mono hX.size, fun r hr => (hC.ents r hr).mono hX.size, hC.apart, hC.same⟩, k'⟩, q0, q2, q3, q4, p0⟩
      have HApp : Hid (∀ (v1 w2 : World) (ua : Option Addr) (un uc g3 n3 cp3 : Nat), Below wr.heap.size wr v1 → AppT (v1.alloc (Obj.cells #[.string t.lo, .slice ua un uc] 56)) w2 W0.heap.size V (.slice (some ⟨g3, 0, none⟩) n3 cp3) (xs.map Tx.pr) [(t.lo, .slice ua un uc)] → w2.cell? ⟨w.heap.size + 1 + 1, 0, none⟩ = some V ∧ w2.frozen? ⟨w.heap.size + 1 + 1, 0, none⟩ = false ∧ w2.cell? ⟨w.heap.size, 0, none⟩ = some (.slice (some ⟨b, off, none⟩) ts.length cap) ∧ w2.cell? ⟨b, off + k * 2, none⟩ = some (.string t.lo) ∧ w2.cell? ⟨b, off + k * 2 + 1, none⟩ = some (.slice (some ⟨t.b, t.off, none⟩) t.l.length t.cap)) := by
        intro v1 w2 ua un uc g3 n3 cp3 hb1 hA2
        have s1 := hb1.size
        have hb2 : Below W0.heap.size wr w2 := ((hb1.mono (by omega)).alloc (by omega) _).grown hA2.grown (by simp; omega) (fun j hj => row_blk HR.out.2.2.1 j hj)
        exact HK.out w2 hb2
      have hS : (fun w' : World => w'.cell? ⟨w.heap.size + 1 + 1, 0, none⟩ = some V ∧ w'.cell? ⟨w.heap.size, 0, none⟩ = some (.slice (some ⟨b, off, none⟩) ts.length cap) ∧ w'.cell? ⟨b, off + k * 2, none⟩ = some (.string t.lo) ∧ w'.cell? ⟨b, off + k * 2 + 1, none⟩ = some (.slice (some ⟨t.b, t.off, none⟩) t.l.length t.cap)) wr.drew := by
        obtain ⟨q0, q1, q2, q3, q4⟩ := HK.out wr.drew ((Below.refl _ _).drew)
        exact ⟨q0, q2, q3, q4⟩
      refine wp_region_T 19 (fun w' : World => w'.cell? ⟨w.heap.size + 1 + 1, 0, none⟩ = some V ∧ w'.cell? ⟨w.heap.size, 0, none⟩ = some (.slice (some ⟨b, off, none⟩) ts.length cap) ∧ w'.cell? ⟨b, off + k * 2, none⟩ = some (.string t.lo) ∧ w'.cell? ⟨b, off + k * 2 + 1, none⟩ = some (.slice (some ⟨t.b, t.off, none⟩) t.l.length t.cap)) (by kernel_rfl) ?_
      refine anyT_take (i := 0) (v := ?vq0) rfl (by kernel_rfl) (by kernel_rfl) (by kernel_rfl) (by kernel_rfl) (by decide) (fun _ _ _ h => h) (Or.inl ⟨by rfl, ?yq0⟩) hS ?_
      case yq0 => (intro wz hSw; (try dsimp only at hSw); go_simp; (try with_reducible rfl))
      try simp only [Act.put, List.setIfInBounds_toArray, List.set_cons_zero, List.set_cons_succ]
      refine anyT_take (i := 1) (v := ?vq1) rfl (by kernel_rfl) (by kernel_rfl) (by kernel_rfl) (by kernel_rfl) (by decide) (fun _ _ _ h => h) (Or.inl ⟨by rfl, ?yq1⟩) hS ?_
      case yq1 => (intro wz hSw; (try dsimp only at hSw); go_simp; (try with_reducible rfl))
      try simp only [Act.put, List.setIfInBounds_toArray, List.set_cons_zero, List.set_cons_succ]
      refine anyT_take (i := 2) (v := ?vq2) rfl (by kernel_rfl) (by kernel_rfl) (by kernel_rfl) (by kernel_rfl) (by decide) (fun _ _ _ h => h) (Or.inl ⟨by rfl, ?yq2⟩) hS ?_
      case yq2 => (intro wz hSw; (try dsimp only at hSw); go_simp; (try with_reducible rfl))
      try simp only [Act.put, List.setIfInBounds_toArray, List.set_cons_zero, List.set_cons_succ]
      refine anyT_take (i := 3) (v := ?vq3) rfl (by kernel_rfl) (by kernel_rfl) (by kernel_rfl) (by kernel_rfl) (by decide) (fun _ _ _ h => h) (Or.inl ⟨by rfl, ?yq3⟩) hS ?_
      case yq3 => (intro wz hSw; (try dsimp only at hSw); go_simp; (try with_reducible rfl))
      try simp only [Act.put, List.setIfInBounds_toArray, List.set_cons_zero, List.set_cons_succ]
      refine anyT_take (i := 4) (v := ?vq4) rfl (by kernel_rfl) (by kernel_rfl) (by kernel_rfl) (by kernel_rfl) (by decide) (fun _ _ _ h => h) (Or.inl ⟨by rfl, ?yq4⟩) hS ?_
      case yq4 => (intro wz hSw; (try dsimp only at hSw); go_simp; (try with_reducible rfl))
      try simp only [Act.put, List.setIfInBounds_toArray, List.set_cons_zero, List.set_cons_succ]
      refine anyT_take (i := 5) (v := ?vq5) rfl (by kernel_rfl) (by kernel_rfl) (by kernel_rfl) (by kernel_rfl) (by decide) (fun _ _ _ h => h) (Or.inl ⟨by rfl, ?yq5⟩) hS ?_
      case yq5 => (intro wz hSw; (try dsimp only at hSw); go_simp; (try with_reducible rfl))
      try simp only [Act.put, List.setIfInBounds_toArray, List.set_cons_zero, List.set_cons_succ]
      refine anyT_take (i := 6) (v := ?vq6) rfl (by kernel_rfl) (by kernel_rfl) (by kernel_rfl) (by kernel_rfl) (by decide) (fun _ _ _ h => h) (Or.inl ⟨by rfl, ?yq6⟩) hS ?_
      case yq6 => (intro wz hSw; (try dsimp only at hSw); go_simp; (try with_reducible rfl))
      try simp only [Act.put, List.setIfInBounds_toArray, List.set_cons_zero, List.set_cons_succ]
      refine anyT_take (i := 7) (v := ?vq7) rfl (by kernel_rfl) (by kernel_rfl) (by kernel_rfl) (by kernel_rfl) (by decide) (fun _ _ _ h => h) (Or.inl ⟨by rfl, ?yq7⟩) hS ?_
      case yq7 => (intro wz hSw; (try dsimp only at hSw); go_simp; (try with_reducible rfl))
      try simp only [Act.put, List.setIfInBounds_toArray, List.set_cons_zero, List.set_cons_succ]
      refine anyT_take (i := 8) (v := ?vq8) rfl (by kernel_rfl) (by kernel_rfl) (by kernel_rfl) (by kernel_rfl) (by decide) (fun _ _ _ h => h) (Or.inl ⟨by rfl, ?yq8⟩) hS ?_
      case yq8 => (intro wz hSw; (try dsimp only at hSw); go_simp; (try with_reducible rfl))
      try simp only [Act.put, List.setIfInBounds_toArray, List.set_cons_zero, List.set_cons_succ]
      refine anyT_take (i := 9) (v := ?vq9) rfl (by kernel_rfl) (by kernel_rfl) (by kernel_rfl) (by kernel_rfl) (by decide) (fun _ _ _ h => h) (Or.inl ⟨by rfl, ?yq9⟩) hS ?_
      case yq9 => (intro wz hSw; (try dsimp only at hSw); go_simp; (try with_reducible rfl))
      try simp only [Act.put, List.setIfInBounds_toArray, List.set_cons_zero, List.set_cons_succ]
      refine anyT_take (i := 10) (v := ?vq10) rfl (by kernel_rfl) (by kernel_rfl) (by kernel_rfl) (by kernel_rfl) (by decide) (fun _ _ _ h => h) (Or.inl ⟨by rfl, ?yq10⟩) hS ?_
      case yq10 => (intro wz hSw; (try dsimp only at hSw); go_simp; (try with_reducible rfl))
      try simp only [Act.put, List.setIfInBounds_toArray, List.set_cons_zero, List.set_cons_succ]
      refine anyT_take (i := 11) (v := ?vq11) rfl (by kernel_rfl) (by kernel_rfl) (by kernel_rfl) (by kernel_rfl) (by decide) (fun _ _ _ h => h) (Or.inl ⟨by rfl, ?yq11⟩) hS ?_
      case yq11 => (intro wz hSw; (try dsimp only at hSw); go_simp; (try with_reducible rfl))
      try simp only [Act.put, List.setIfInBounds_toArray, List.set_cons_zero, List.set_cons_succ]
      refine anyT_take (i := 12) (v := ?vq12) rfl (by kernel_rfl) (by kernel_rfl) (by kernel_rfl) (by kernel_rfl) (by decide) (fun _ _ _ h => h) (Or.inl ⟨by rfl, ?yq12⟩) hS ?_
      case yq12 => (intro wz hSw; (try dsimp only at hSw); go_simp; (try with_reducible rfl))
      try simp only [Act.put, List.setIfInBounds_toArray, List.set_cons_zero, List.set_cons_succ]
      refine anyT_take (i := 13) (v := ?vq13) rfl (by kernel_rfl) (by kernel_rfl) (by kernel_rfl) (by kernel_rfl) (by decide) (fun _ _ _ h => h) (Or.inl ⟨by rfl, ?yq13⟩) hS ?_
      case yq13 => (intro wz hSw; (try dsimp only at hSw); go_simp; (try with_reducible rfl))
      try simp only [Act.put, List.setIfInBounds_toArray, List.set_cons_zero, List.set_cons_succ]
      refine anyT_one (i := 14) (by kernel_rfl) rfl (fun K hK => ?_)
      go_simp
      go_at_call 48
      refine (HCall.out _ (by repeat (first | exact Below.refl _ _ | refine Below.drew ?_))).mono ?_
      rintro r v1 ⟨ua, un, uc, rs, rfl, HC1, n0, n2, n3, n4, n5⟩
      refine hK.out _ _ (.inr ⟨n0, n2, n3, n4⟩) ?_
      clear hK
      try simp only [Act.put, List.setIfInBounds_toArray, List.set_cons_zero, List.set_cons_succ]
      refine anyT_take (i := 15) (v := ?vq15) rfl (by kernel_rfl) (by kernel_rfl) (by kernel_rfl) (by kernel_rfl) (by decide) (fun _ _ _ h => h) (Or.inl ⟨by rfl, ?yq15⟩) (show _ ∧ _ from ⟨n0, n2, n3, n4⟩) ?_
      case yq15 => (intro wz hSw; (try dsimp only at hSw); go_simp; (try with_reducible rfl))
      try simp only [Act.put, List.setIfInBounds_toArray, List.set_cons_zero, List.set_cons_succ]
      obtain ⟨p0, p1, p2, p3, p4⟩ := HK.out (v1.alloc (Obj.cells #[.string t.lo, .slice ua un uc] 56)) ((HC1.out.2.alloc HC1.out.2.size _).mono (by omega))
      refine anyT_one (i := 16) (by kernel_rfl) rfl (fun K hK => ?_)
      go_simp
      refine hK.out _ _ (.inr ⟨p0, p2, p3, p4⟩) ?_
      clear hK
      try simp only [Act.put, List.setIfInBounds_toArray, List.set_cons_zero, List.set_cons_succ]
      refine anyT_one (i := 17) (by kernel_rfl) rfl (fun K hK => ?_)
      refine step_append_tabO _ (by rfl) _ _ (by rfl) W0.heap.size V (xs.map Tx.pr) v1.heap.size 0 1 1 [(t.lo, .slice ua un uc)] (by rfl) (by rfl) rfl ?_ ?_ ?_ ?_ ?_ ?_
      · rw [List.length_map, HR.out.1]; exact World.ownsRow.alloc (row_below HR.out.2.2.1 HC1.out.2) _
      · exact two_cells_new
      · intro p hp; simp at hp; subst hp; rfl
      · rw [List.length_map, HR.out.1]; simp; omega
      · have := HC1.out.2.size; simp; omega
      intro v' w2 hA2
      obtain ⟨g3, cp3, rfl⟩ := hA2.form (.inr (by simp))
      obtain ⟨m0, m1, m2, m3, m4⟩ := HApp.out v1 w2 ua un uc g3 _ cp3 HC1.out.2 hA2
      have HA2 : Hid (AppT (v1.alloc (Obj.cells #[.string t.lo, .slice ua un uc] 56)) w2 W0.heap.size V (.slice (some ⟨g3, 0, none⟩) (xs.map Tx.pr ++ [(t.lo, Value.slice ua un uc)]).length cp3) (xs.map Tx.pr) [(t.lo, .slice ua un uc)]) := hA2
      clear hA2
      have hln : (xs.map Tx.pr ++ [(t.lo, Value.slice ua un uc)]).length = k + 1 := by rw [List.length_append, List.length_map, HR.out.1]; rfl
      rw [hln] at HA2 ⊢
      refine hK.out _ _ (.inr ⟨m0, m2, m3, m4⟩) ?_
      clear hK
      try simp only [Act.put, List.setIfInBounds_toArray, List.set_cons_zero, List.set_cons_succ]
      refine anyT_take (i := 18) (v := ?vq18) rfl (by kernel_rfl) (by kernel_rfl) (by kernel_rfl) (by kernel_rfl) (by decide) (fun _ _ _ h => h) (Or.inl ⟨by rfl, ?yq18⟩) (show _ ∧ _ from ⟨m0, m2, m3, m4⟩) ?_
      case yq18 => (intro wz hSw; (try dsimp only at hSw); go_simp; (try with_reducible rfl))
      try simp only [Act.put, List.setIfInBounds_toArray, List.set_cons_zero, List.set_cons_succ]
      refine anyT_one (i := 19) (by kernel_rfl) rfl (fun K hK => ?_)
      go_simp
      refine hK.out _ _ (.inl rfl) ?_
      clear hK
      try simp only [Act.put, List.setIfInBounds_toArray, List.set_cons_zero, List.set_cons_succ]
      refine anyT_done (by kernel_rfl) ?_
      have HN : Hid (∃ xs' : List Tx, xs'.length = k + 1 ∧ xs'.map Tx.tb = (ts.take (k + 1)).map Tm.tb ∧ (w2.setCell ⟨w.heap.size + 1 + 1, 0, none⟩ (.slice (some ⟨g3, 0, none⟩) (k + 1) cp3)).ownsRow W0.heap.size 56 2 (.slice (some ⟨g3, 0, none⟩) (k + 1) cp3) (k + 1) (cellsP (xs'.map Tx.pr)) ∧ OwnTs (w2.setCell ⟨w.heap.size + 1 + 1, 0, none⟩ (.slice (some ⟨g3, 0, none⟩) (k + 1) cp3)) W0.heap.size xs') := by
        obtain ⟨q1, q2, q3, q4⟩ := HR.out
        have hA := HA2.out
        have hb1 := HC1.out.2
        have hbz : Below v1.heap.size v1 (v1.alloc (Obj.cells #[.string t.lo, .slice ua un uc] 56)) := (Below.refl _ _).alloc (Nat.le_refl _) _
        have hrow1 := World.ownsRow.alloc (row_below q3 hb1) (Obj.cells #[.string t.lo, .slice ua un uc] 56)
        have hC := HC1.out.1
        have ht1 : OwnTs v1 W0.heap.size (xs ++ [⟨t.lo, .slice ua un uc, rs⟩]) := (q4.below hb1).snoc (hC.row.mono hsz) (fun r hr => (hC.ents r hr).mono hsz)
        have ht2 : OwnTs w2 W0.heap.size (xs ++ [⟨t.lo, .slice ua un uc, rs⟩]) := (ht1.below hbz).grown hrow1 hA.grown
        refine ⟨xs ++ [⟨t.lo, .slice ua un uc, rs⟩], by simp [q1], ?_, ?_, ht2.set _ _ _ (by omega)⟩
        · rw [List.take_add_one, HD.out.1, List.map_append, List.map_append, q2]
          simp [Tx.tb, Tm.tb, hC.same]
        · have h5 := hA.row
          rw [hln] at h5
          rw [List.map_append]
          exact row_set h5 _ _ _ (by omega)
      have hb4 : Below Wa.heap.size Wa (w2.setCell ⟨w.heap.size + 1 + 1, 0, none⟩ (.slice (some ⟨g3, 0, none⟩) (k + 1) cp3)) := by
        have hb1 := HC1.out.2
        have s1 := hb1.size
        have hb2 : Below W0.heap.size wr w2 := ((hb1.mono (by omega)).alloc (by omega) _).grown HA2.out.grown (by simp; omega) (fun j hj => row_blk HR.out.2.2.1 j hj)
        exact (hb.trans (hb2.mono (by omega))).setCell (by show Wa.heap.size ≤ w.heap.size + 1 + 1; omega) _
      have hsz4 : W0.heap.size ≤ (w2.setCell ⟨w.heap.size + 1 + 1, 0, none⟩ (.slice (some ⟨g3, 0, none⟩) (k + 1) cp3)).heap.size := by
        have s1 := HC1.out.2.size
        have s2 := HA2.out.grown.size
        simp at s2 ⊢
        omega
      have m5 : (w2.setCell ⟨w.heap.size + 1 + 1, 0, none⟩ (.slice (some ⟨g3, 0, none⟩) (k + 1) cp3)).cell? ⟨w.heap.size + 1 + 1, 0, none⟩ = some (.slice (some ⟨g3, 0, none⟩) (k + 1) cp3) := by simp [go_sem, m0]
      have m6 : (w2.setCell ⟨w.heap.size + 1 + 1, 0, none⟩ (.slice (some ⟨g3, 0, none⟩) (k + 1) cp3)).frozen? ⟨w.heap.size + 1 + 1, 0, none⟩ = false := by simp [go_sem, m1]
      go_wp2_with fail
      go_roundw
      case rel =>
        go_light
        obtain ⟨xs', a1, a2, a3, a4⟩ := HN.out
        exact ⟨k + 1, _, xs', by omega, by go_num, a1, a2, m5, m6, a3, a4, hb4, hsz4⟩
      case measure => go_light; simp [intOf]; omega
    · have zk : ¬ (k : Int) < (ts.length : Int) := by omega
      have HF : Hid (OwnSt (wr.setCell ⟨w.heap.size + 1, 0, none⟩ V) w.heap.size V xs ∧ xs.map Tx.tb = ts.map Tm.tb ∧ Below w.heap.size w (wr.setCell ⟨w.heap.size + 1, 0, none⟩ V)) := by
        obtain ⟨q1, q2, q3, q4⟩ := HR.out
        rw [List.take_of_length_le (by omega)] at q2
        have hq := row_set q3 (w.heap.size + 1) 0 V (by omega)
        have ht := q4.set (w.heap.size + 1) 0 V (by omega)
        refine ⟨⟨?_, fun t ht' => (ht.runs t ht').mono (by omega), fun t ht' r hr => (ht.ents t ht' r hr).mono (by omega)⟩, q2, ((hba.trans (hb.mono (by omega))).setCell (by show w.heap.size ≤ w.heap.size + 1; omega) _)⟩
        exact ownTRow_of (row_mono hq (by omega)) (by rw [q1])
      have hVs : ∃ va vn vc, V = .slice va vn vc := by
        rcases HR.out.2.2.1.2 with ⟨q, _⟩ | ⟨g2, cp, cur, q, _⟩ <;> exact ⟨_, _, _, q⟩
      obtain ⟨va, vn, vc, rfl⟩ := hVs
      go_wp2_with fail
      refine bodyPost_ret (v := .agg #[.slice va vn vc]) (by simp [results, Tryz.results20, go_sem, d1]) rfl ⟨_, xs, rfl, HF.out.1, HF.out.2.1, HF.out.2.2⟩
end Go.Proofs.YtlgeffinhbodeafGreat

/-
  spec.l7Replace.
-/
namespace Go.Proofs.YtlgeffinhbodeafGreat
open Go.ChangeShapes Go.WideShapes Go.ChangeAt Go.RowKit Go.Deep
set_option linter.unusedVariables false
set_option linter.unusedSimpArgs false
set_option maxRecDepth 100000

theorem OwnTs.chg {S : Nat → Prop} {w w' : World} {base : Nat} {ts : List Tx} (h : OwnTs w base ts) (hc : Chg S w w') (hne : ∀ k, base ≤ k → k < w.heap.size → ¬ S k) : OwnTs w' base ts := by
  refine ⟨fun t ht => (h.runs t ht).chg hc (fun g hg hts => ?_), fun t ht r hr => (h.ents t ht r hr).chg hc (fun g hg => hne g ((h.ents t ht r hr).key hg).1 ((h.ents t ht r hr).key hg).2)⟩
  rcases h.runs t ht with ⟨q, _⟩ | ⟨g', cp, hv, hO⟩
  · exact absurd q hts
  · rw [hv] at hg
    have e1 : g' = g := Option.some.inj hg
    subst e1
    have := World.ownsRow.lt hO g' rfl
    exact hne g' this.1 this.2
theorem OwnTs.below2 {w w' w2 : World} {base : Nat} {ts : List Tx} (h : OwnTs w base ts) (hb : Below w.heap.size w w') (hb2 : Below w'.heap.size w' w2) : OwnTs w2 base ts := (h.below hb).below hb2
theorem OwnTs.mono {w : World} {base base' : Nat} {ts : List Tx} (h : OwnTs w base ts) (hb : base' ≤ base) : OwnTs w base' ts := ⟨fun t ht => (h.runs t ht).mono hb, fun t ht r hr => (h.ents t ht r hr).mono hb⟩
theorem OwnTs.append {w : World} {base : Nat} {a b : List Tx} (h : OwnTs w base a) (k : OwnTs w base b) : OwnTs w base (a ++ b) :=
  ⟨fun t ht => by rcases List.mem_append.1 ht with q | q; exact h.runs t q; exact k.runs t q, fun t ht => by rcases List.mem_append.1 ht with q | q; exact h.ents t q; exact k.ents t q⟩
theorem OwnTs.take {w : World} {base : Nat} {a : List Tx} (h : OwnTs w base a) (n : Nat) : OwnTs w base (a.take n) := ⟨fun t ht => h.runs t (List.mem_of_mem_take ht), fun t ht => h.ents t (List.mem_of_mem_take ht)⟩
theorem OwnTs.drop {w : World} {base : Nat} {a : List Tx} (h : OwnTs w base a) (n : Nat) : OwnTs w base (a.drop n) := ⟨fun t ht => h.runs t (List.mem_of_mem_drop ht), fun t ht => h.ents t (List.mem_of_mem_drop ht)⟩
/-- Tablets of the call's own in memory, at a place that is read. -/
def TxsAt (w : World) (b : Nat) (ms : List Tx) : Prop := ∀ i t, ms[i]? = some t → w.cell? ⟨b, i * 2, none⟩ = some (.string t.lo) ∧ w.cell? ⟨b, i * 2 + 1, none⟩ = some t.v
/-- What spec's replacement hands back: rows of the call's own, the tablets of its own or handed in. -/
def RpPost (w : World) (base : Nat) (tb : List Tb) (e : Ending) (w' : World) : Prop := ∃ (v : Value) (ys : List Tx), e = .returned (.agg #[v]) ∧ OwnTRow w' w.heap.size v ys ∧ OwnTs w' base ys ∧ ys.map Tx.tb = tb ∧ Below w.heap.size w w'

set_option maxHeartbeats 8000000 in
theorem specReplace_core (b off cap : Nat) (ts : List Tm) (ms : List Tx) (fr til ob base : Nat) (w : World) (h : TmsAt w b off ts) (hB : b < w.heap.size) (hob : TxsAt w ob ms) (hoB : ob < w.heap.size) (hms : OwnTs w base ms) (hbase : base ≤ w.heap.size) (hn : ts.length ≤ 1000) (hmn : ms.length ≤ 1000) (hm0 : 0 < ms.length) (h1 : fr ≤ til) (h2 : til ≤ ts.length) (h0 : 0 < ts.length)
    (hs : ∀ t ∈ ts, t.l.length ≤ 1048576 ∧ totM t.l ≤ 1048576) :
    Calls Tryz.prog 42 #[.agg #[.slice (some ⟨b, off, none⟩) ts.length cap], .int .i64 fr, .int .i64 til, .slice (some ⟨ob, 0, none⟩) ms.length ms.length] w fun e w' => RpPost w base ((ts.take fr).map Tm.tb ++ ms.map Tx.tb ++ (ts.drop til).map Tm.tb) e w' := by
  obtain ⟨Wa, hWa⟩ : ∃ Wa : World, Wa = ((w.alloc (Obj.cells #[.slice (some ⟨b, off, none⟩) ts.length cap] 30)).alloc (Obj.cells #[.slice none 0 0] 30)).alloc (Obj.cells #[.slice none 0 0] 30) := ⟨_, rfl⟩
  have hba : Below w.heap.size w Wa := by rw [hWa]; exact (((Below.refl _ _).alloc (Nat.le_refl _) _).alloc (by simp) _).alloc (by simp; omega) _
  have hza : Wa.heap.size = w.heap.size + 1 + 1 + 1 := by rw [hWa]; simp
  have HWa : Hid (∀ wx, Below Wa.heap.size Wa wx → wx.cell? ⟨w.heap.size, 0, none⟩ = some (.slice (some ⟨b, off, none⟩) ts.length cap) ∧ wx.cell? ⟨w.heap.size + 1, 0, none⟩ = some (.slice none 0 0) ∧ wx.frozen? ⟨w.heap.size + 1, 0, none⟩ = false ∧ wx.cell? ⟨w.heap.size + 1 + 1, 0, none⟩ = some (.slice none 0 0) ∧ wx.frozen? ⟨w.heap.size + 1 + 1, 0, none⟩ = false) := by
    intro wx hx
    refine ⟨?_, ?_, ?_, ?_, ?_⟩
    · rw [hx.cell (p := ⟨w.heap.size, 0, none⟩) (by show w.heap.size < Wa.heap.size; omega), hWa]; simp [go_sem]
    · rw [hx.cell (p := ⟨w.heap.size + 1, 0, none⟩) (by show w.heap.size + 1 < Wa.heap.size; omega), hWa]; simp [go_sem]
    · rw [hx.frozen (p := ⟨w.heap.size + 1, 0, none⟩) (by show w.heap.size + 1 < Wa.heap.size; omega), hWa]; simp [go_sem]
    · rw [hx.cell (p := ⟨w.heap.size + 1 + 1, 0, none⟩) (by show w.heap.size + 1 + 1 < Wa.heap.size; omega), hWa]; simp [go_sem]
    · rw [hx.frozen (p := ⟨w.heap.size + 1 + 1, 0, none⟩) (by show w.heap.size + 1 + 1 < Wa.heap.size; omega), hWa]; simp [go_sem]
  have HTa : Hid (TmsAt Wa b off ts ∧ OwnTs Wa base ms ∧ TxsAt Wa ob ms) := ⟨h.below hba hB, hms.below hba, fun i t ht => by
    obtain ⟨q0, q1⟩ := hob i t ht
    exact ⟨by rw [hba.cell (p := ⟨ob, i * 2, none⟩) (by exact hoB)]; exact q0, by rw [hba.cell (p := ⟨ob, i * 2 + 1, none⟩) (by exact hoB)]; exact q1⟩⟩
  have HS : Hid (∀ t ∈ ts, t.l.length ≤ 1048576 ∧ totM t.l ≤ 1048576) := hs
  have HM : Hid (OwnTs w base ms) := hms
  clear h hob hms hs
  obtain ⟨c0, _⟩ := HWa.out Wa (Below.refl _ _)
  go_enter Tryz.func42, Tryz.ntmps42
  go_upto_region 2 with fail
  rw [← hWa]
  clear hWa
  go_wp2_with fail
  refine (specCopy_core b off cap ts _ HTa.out.1 (by omega) (by omega) HS.out).mono ?_
  rintro e w1 ⟨cv, xs, rfl, hSt, hxt, hb1⟩
  have hxl : xs.length = ts.length := by have := congrArg List.length hxt; simpa using this
  obtain ⟨gc, cpc, rfl⟩ : ∃ gc cpc, cv = .slice (some ⟨gc, 0, none⟩) xs.length cpc := by
    rcases hSt.row with ⟨q, _⟩ | ⟨g, cp, q, _⟩
    · rw [q] at hxl; simp at hxl; omega
    · exact ⟨g, cp, q⟩
  have s1 := hb1.size
  obtain ⟨W1, hW1⟩ : ∃ W1 : World, W1 = w1.alloc (Obj.cells #[.slice (some ⟨gc, 0, none⟩) xs.length cpc] 30) := ⟨_, rfl⟩
  obtain ⟨CB, hCB⟩ : ∃ CB, CB = w1.heap.size := ⟨_, rfl⟩
  have hbB : Below w1.heap.size w1 W1 := by rw [hW1]; exact (Below.refl _ _).alloc (Nat.le_refl _) _
  have hz1 : W1.heap.size = CB + 1 := by rw [hW1, hCB]; simp
  have hCBl : w.heap.size + 1 + 1 + 1 ≤ CB := by omega
  have hbW : Below Wa.heap.size Wa W1 := hb1.trans (hbB.mono s1)
  have hStB := hSt.below hbB
  have hgP : OwnP W1 Wa.heap.size gc cpc (xs.map Tx.pr) := by
    rcases hStB.row with ⟨q, _⟩ | ⟨g, cp, q, hO⟩
    · rw [q] at hxl; simp at hxl; omega
    · cases q; exact hO
  have hgc : w.heap.size + 1 + 1 < gc ∧ gc < W1.heap.size := ⟨by have := hgP.lt.1; omega, hgP.lt.2⟩
  have HX : Hid (OwnP W1 Wa.heap.size gc cpc (xs.map Tx.pr) ∧ OwnTs W1 Wa.heap.size xs ∧ xs.map Tx.tb = ts.map Tm.tb) := ⟨hgP, ⟨hStB.runs, hStB.ents⟩, hxt⟩
  have HC : Hid (∀ w', Chg (fun q => q = w.heap.size + 1 + 1 ∨ W1.heap.size ≤ q) W1 w' → w'.cell? ⟨CB, 0, none⟩ = some (.slice (some ⟨gc, 0, none⟩) xs.length cpc) ∧ w'.cell? ⟨w.heap.size + 1, 0, none⟩ = some (.slice none 0 0) ∧ w'.frozen? ⟨w.heap.size + 1, 0, none⟩ = false ∧ (∀ i t, ms[i]? = some t → w'.cell? ⟨ob, 0 + i * 2, none⟩ = some (.string t.lo) ∧ w'.cell? ⟨ob, 0 + i * 2 + 1, none⟩ = some t.v)) := by
    intro w' hw'
    obtain ⟨_, q1, q2, _, _⟩ := HWa.out W1 hbW
    refine ⟨?_, ?_, ?_, fun i t ht => ?_⟩
    · rw [hw'.cell (p := ⟨CB, 0, none⟩) (by show CB < W1.heap.size; omega) (by intro q; rcases q with q | q <;> simp only at q <;> omega), hW1, hCB]; simp
    · rw [hw'.cell (p := ⟨w.heap.size + 1, 0, none⟩) (by show w.heap.size + 1 < W1.heap.size; omega) (by intro q; rcases q with q | q <;> simp only at q <;> omega)]; exact q1
    · rw [hw'.frozen (p := ⟨w.heap.size + 1, 0, none⟩) (by show w.heap.size + 1 < W1.heap.size; omega) (by intro q; rcases q with q | q <;> simp only at q <;> omega)]; exact q2
    · obtain ⟨y0, y1⟩ := HTa.out.2.2 i t ht
      rw [Nat.zero_add]
      exact ⟨by rw [hw'.cell (p := ⟨ob, i * 2, none⟩) (by show ob < W1.heap.size; omega) (by intro q; rcases q with q | q <;> simp only at q <;> omega), hbW.cell (p := ⟨ob, i * 2, none⟩) (by show ob < Wa.heap.size; omega)]; exact y0, by rw [hw'.cell (p := ⟨ob, i * 2 + 1, none⟩) (by show ob < W1.heap.size; omega) (by intro q; rcases q with q | q <;> simp only at q <;> omega), hbW.cell (p := ⟨ob, i * 2 + 1, none⟩) (by show ob < Wa.heap.size; omega)]; exact y1⟩
  obtain ⟨_, _, _, cO, fO⟩ := HWa.out W1 hbW
  clear hSt hxt hStB hgP c0
  have HL : Hid (xs.length = ts.length) := hxl
  have hxn : xs.length ≤ 1000 := by omega
  have hx0 : 0 < xs.length := by omega
  have hfx : fr ≤ xs.length := by omega
  have htx : til ≤ xs.length := by omega
  clear hxl
  have zfr : (fr : Int) ≤ (xs.length : Int) := by omega
  go_upto_region 3 with fail
  rw [← hW1, ← hCB]
  clear hW1 hCB
  go_wp2_with fail
  go_loopw [11] (fun i wr => ∃ (k : Nat) (V : Value) (ys : List Tx), k ≤ fr ∧ i = .int .i64 k ∧ ys = xs.take k ∧ wr.cell? ⟨w.heap.size + 1 + 1, 0, none⟩ = some V ∧ wr.frozen? ⟨w.heap.size + 1 + 1, 0, none⟩ = false ∧ wr.ownsRow W1.heap.size 56 2 V ys.length (cellsP (ys.map Tx.pr)) ∧ Chg (fun q => q = w.heap.size + 1 + 1 ∨ W1.heap.size ≤ q) W1 wr) (fun i _ => fr - (intOf i).toNat)
  case atStart => exact ⟨0, .slice none 0 0, [], Nat.zero_le _, rfl, rfl, cO, fO, World.ownsRow_nil .., Chg.refl _ _⟩
  case round =>
    obtain ⟨k, V, ys, hk, rfl, hys, cV, fVz, hrow, hCg⟩ := hrel
    have HY : Hid (ys = xs.take k) := hys
    have hyl : ys.length ≤ 1000 := by rw [hys, List.length_take]; omega
    have HR : Hid (wr.ownsRow W1.heap.size 56 2 V ys.length (cellsP (ys.map Tx.pr))) := hrow
    clear hys hrow
    by_cases hlt : k < fr
    · have zk : (k : Int) < (fr : Int) := by omega
      obtain ⟨x, hx⟩ : ∃ x, xs[k]? = some x := ⟨_, List.getElem?_eq_getElem (by omega)⟩
      obtain ⟨xa, xn, xc, hxv⟩ := (HX.out.2.1.runs x (List.mem_of_getElem? hx)).isSlice
      have HKx : Hid (∀ w', Chg (fun q => q = w.heap.size + 1 + 1 ∨ W1.heap.size ≤ q) W1 w' → w'.cell? ⟨CB, 0, none⟩ = some (.slice (some ⟨gc, 0, none⟩) xs.length cpc) ∧ w'.cell? ⟨gc, k * 2, none⟩ = some (.string x.lo) ∧ w'.cell? ⟨gc, k * 2 + 1, none⟩ = some (.slice xa xn xc)) := by
        intro w' hw'
        obtain ⟨q0, q1⟩ := HX.out.1.cells (p := x.pr) (i := k) (by rw [List.getElem?_map, hx]; rfl)
        have e2 : x.pr.2 = .slice xa xn xc := hxv
        have e1 : x.pr.1 = x.lo := rfl
        rw [e2] at q1
        rw [e1] at q0
        refine ⟨(HC.out w' hw').1, ?_, ?_⟩
        · rw [hw'.cell (p := ⟨gc, k * 2, none⟩) (by exact hgc.2) (by intro q; rcases q with q | q <;> simp only at q <;> omega)]; exact q0
        · rw [hw'.cell (p := ⟨gc, k * 2 + 1, none⟩) (by exact hgc.2) (by intro q; rcases q with q | q <;> simp only at q <;> omega)]; exact q1
      have HD : Hid (xs[k]? = some x ∧ x.v = .slice xa xn xc) := ⟨hx, hxv⟩
      clear hx hxv
      have hVs : ∃ Va Vn Vc, V = .slice Va Vn Vc := by
        rcases HR.out.2 with ⟨q, _⟩ | ⟨g2, cp, cur, q, _⟩ <;> exact ⟨_, _, _, q⟩
      have zz : (k : Int) < (xs.length : Int) := by omega
      have hCd : Chg (fun q => q = w.heap.size + 1 + 1 ∨ W1.heap.size ≤ q) W1 wr.drew := hCg.trans (Chg.of_below ((Below.refl _ _).drew))
      obtain ⟨j0, j1, j2⟩ := HKx.out wr.drew hCd
      have jV : wr.drew.cell? ⟨w.heap.size + 1 + 1, 0, none⟩ = some V := by simpa using cV
      have hS : (fun w' : World => w'.cell? ⟨w.heap.size + 1 + 1, 0, none⟩ = some V ∧ w'.cell? ⟨CB, 0, none⟩ = some (.slice (some ⟨gc, 0, none⟩) xs.length cpc) ∧ w'.cell? ⟨gc, k * 2, none⟩ = some (.string x.lo) ∧ w'.cell? ⟨gc, k * 2 + 1, none⟩ = some (.slice xa xn xc)) wr.drew := ⟨jV, j0, j1, j2⟩
      go_upto_region 6 with fail
      refine wp_region_T 10 (fun w' : World => w'.cell? ⟨w.heap.size + 1 + 1, 0, none⟩ = some V ∧ w'.cell? ⟨CB, 0, none⟩ = some (.slice (some ⟨gc, 0, none⟩) xs.length cpc) ∧ w'.cell? ⟨gc, k * 2, none⟩ = some (.string x.lo) ∧ w'.cell? ⟨gc, k * 2 + 1, none⟩ = some (.slice xa xn xc)) (by kernel_rfl) ?_
      refine anyT_take (i := 0) (v := ?vr0x1) rfl (by kernel_rfl) (by kernel_rfl) (by kernel_rfl) (by kernel_rfl) (by decide) (fun _ _ _ h => h) (Or.inl ⟨by rfl, ?yr0x1⟩) hS ?_
      case yr0x1 => (intro wz hSw; (try dsimp only at hSw); go_simp; (try with_reducible rfl))
      try simp only [Act.put, List.setIfInBounds_toArray, List.set_cons_zero, List.set_cons_succ]
      refine anyT_take (i := 1) (v := ?vr1x2) rfl (by kernel_rfl) (by kernel_rfl) (by kernel_rfl) (by kernel_rfl) (by decide) (fun _ _ _ h => h) (Or.inl ⟨by rfl, ?yr1x2⟩) hS ?_
      case yr1x2 => (intro wz hSw; (try dsimp only at hSw); go_simp; (try with_reducible rfl))
      try simp only [Act.put, List.setIfInBounds_toArray, List.set_cons_zero, List.set_cons_succ]
      refine anyT_take (i := 2) (v := ?vr2x3) rfl (by kernel_rfl) (by kernel_rfl) (by kernel_rfl) (by kernel_rfl) (by decide) (fun _ _ _ h => h) (Or.inl ⟨by rfl, ?yr2x3⟩) hS ?_
      case yr2x3 => (intro wz hSw; (try dsimp only at hSw); go_simp; (try with_reducible rfl))
      try simp only [Act.put, List.setIfInBounds_toArray, List.set_cons_zero, List.set_cons_succ]
      refine anyT_take (i := 3) (v := ?vr3x4) rfl (by kernel_rfl) (by kernel_rfl) (by kernel_rfl) (by kernel_rfl) (by decide) (fun _ _ _ h => h) (Or.inl ⟨by rfl, ?yr3x4⟩) hS ?_
      case yr3x4 => (intro wz hSw; (try dsimp only at hSw); go_simp; (try with_reducible rfl))
      try simp only [Act.put, List.setIfInBounds_toArray, List.set_cons_zero, List.set_cons_succ]
      refine anyT_take (i := 4) (v := ?vr4x5) rfl (by kernel_rfl) (by kernel_rfl) (by kernel_rfl) (by kernel_rfl) (by decide) (fun _ _ _ h => h) (Or.inl ⟨by rfl, ?yr4x5⟩) hS ?_
      case yr4x5 => (intro wz hSw; (try dsimp only at hSw); go_simp; (try with_reducible rfl))
      try simp only [Act.put, List.setIfInBounds_toArray, List.set_cons_zero, List.set_cons_succ]
      refine anyT_take (i := 5) (v := ?vr5x6) rfl (by kernel_rfl) (by kernel_rfl) (by kernel_rfl) (by kernel_rfl) (by decide) (fun _ _ _ h => h) (Or.inl ⟨by rfl, ?yr5x6⟩) hS ?_
      case yr5x6 => (intro wz hSw; (try dsimp only at hSw); go_simp; (try with_reducible rfl))
      try simp only [Act.put, List.setIfInBounds_toArray, List.set_cons_zero, List.set_cons_succ]
      refine anyT_take (i := 6) (v := ?vr6x7) rfl (by kernel_rfl) (by kernel_rfl) (by kernel_rfl) (by kernel_rfl) (by decide) (fun _ _ _ h => h) (Or.inl ⟨by rfl, ?yr6x7⟩) hS ?_
      case yr6x7 => (intro wz hSw; (try dsimp only at hSw); go_simp; (try with_reducible rfl))
      try simp only [Act.put, List.setIfInBounds_toArray, List.set_cons_zero, List.set_cons_succ]
      refine anyT_one (i := 7) (by kernel_rfl) rfl (fun K hK => ?_)
      go_simp
      obtain ⟨W3, hW3⟩ : ∃ W3 : World, W3 = (wr.alloc (Obj.cells #[.string x.lo, .slice xa xn xc] 56)).drew := ⟨_, rfl⟩
      have hb3 : Below wr.heap.size wr W3 := by rw [hW3]; exact ((Below.refl _ _).alloc (Nat.le_refl _) _).drew
      have hz3 : W3.heap.size = wr.heap.size + 1 := by rw [hW3]; simp
      have hC3 : Chg (fun q => q = w.heap.size + 1 + 1 ∨ W1.heap.size ≤ q) W1 W3 := hCg.trans (Chg.of_below hb3)
      have hcc : ∀ i p, [(x.lo, Value.slice xa xn xc)][i]? = some p → W3.cell? ⟨wr.heap.size, 0 + i * 2, none⟩ = some (.string p.1) ∧ W3.cell? ⟨wr.heap.size, 0 + i * 2 + 1, none⟩ = some p.2 := by
        intro i p hp
        have := two_cells_new (w := wr) (t := 56) i p hp
        rw [hW3]
        simpa using this
      have HR3 : Hid (W3.ownsRow W1.heap.size 56 2 V (ys.map Tx.pr).length (cellsP (ys.map Tx.pr)) ∧ (∀ i p, [(x.lo, Value.slice xa xn xc)][i]? = some p → W3.cell? ⟨wr.heap.size, 0 + i * 2, none⟩ = some (.string p.1) ∧ W3.cell? ⟨wr.heap.size, 0 + i * 2 + 1, none⟩ = some p.2)) := ⟨by rw [List.length_map]; exact row_below HR.out hb3, hcc⟩
      obtain ⟨e0, e1, e2⟩ := HKx.out W3 hC3
      have eV : W3.cell? ⟨w.heap.size + 1 + 1, 0, none⟩ = some V := by rw [hb3.cell (p := ⟨w.heap.size + 1 + 1, 0, none⟩) (by show w.heap.size + 1 + 1 < wr.heap.size; have := hCg.size; omega)]; exact cV
      rw [← hW3]
      refine hK.out _ _ (.inr ⟨eV, e0, e1, e2⟩) ?_
      clear hK hW3 hcc
      try simp only [Act.put, List.setIfInBounds_toArray, List.set_cons_zero, List.set_cons_succ]
      refine anyT_one (i := 8) (by kernel_rfl) rfl (fun K hK => ?_)
      refine step_append_tabO _ (by rfl) _ _ (by rfl) W1.heap.size V (ys.map Tx.pr) wr.heap.size 0 1 1 [(x.lo, .slice xa xn xc)] (by rfl) (by rfl) rfl HR3.out.1 HR3.out.2 (by intro p hp; simp at hp; subst hp; rfl) (by rw [List.length_map]; simp; omega) (by have := hCg.size; omega) ?_
      intro v' w4 hA
      obtain ⟨g4, cp4, rfl⟩ := hA.form (.inr (by simp))
      have hln : (ys.map Tx.pr ++ [(x.lo, Value.slice xa xn xc)]).length = ys.length + 1 := by simp
      have hrow4 := hA.row
      rw [hln] at hrow4 ⊢
      have hC4 : Chg (fun q => q = w.heap.size + 1 + 1 ∨ W1.heap.size ≤ q) W1 w4 := hC3.trans (Chg.of_grown hA.grown (fun q hq => .inr (row_blk HR3.out.1 q hq)))
      have hb4 : Below W1.heap.size W3 w4 := (Below.refl _ _).grown hA.grown (by have := hCg.size; omega) (fun q hq => row_blk HR3.out.1 q hq)
      obtain ⟨f0, f1, f2⟩ := HKx.out w4 hC4
      have fV : w4.cell? ⟨w.heap.size + 1 + 1, 0, none⟩ = some V := by rw [hb4.cell (p := ⟨w.heap.size + 1 + 1, 0, none⟩) (by show w.heap.size + 1 + 1 < W1.heap.size; omega)]; exact eV
      have fF : w4.frozen? ⟨w.heap.size + 1 + 1, 0, none⟩ = false := by
        rw [hb4.frozen (p := ⟨w.heap.size + 1 + 1, 0, none⟩) (by show w.heap.size + 1 + 1 < W1.heap.size; omega), hb3.frozen (p := ⟨w.heap.size + 1 + 1, 0, none⟩) (by show w.heap.size + 1 + 1 < wr.heap.size; have := hCg.size; omega)]; exact fVz
      have HN : Hid ((w4.setCell ⟨w.heap.size + 1 + 1, 0, none⟩ (.slice (some ⟨g4, 0, none⟩) (ys.length + 1) cp4)).ownsRow W1.heap.size 56 2 (.slice (some ⟨g4, 0, none⟩) (ys.length + 1) cp4) (ys ++ [x]).length (cellsP ((ys ++ [x]).map Tx.pr)) ∧ Chg (fun q => q = w.heap.size + 1 + 1 ∨ W1.heap.size ≤ q) W1 (w4.setCell ⟨w.heap.size + 1 + 1, 0, none⟩ (.slice (some ⟨g4, 0, none⟩) (ys.length + 1) cp4))) := by
        refine ⟨?_, hC4.trans (Chg.of_set _ _ _ _ (.inl rfl))⟩
        have h5 := row_set hrow4 (w.heap.size + 1 + 1) 0 (.slice (some ⟨g4, 0, none⟩) (ys.length + 1) cp4) (by omega)
        have e5 : (ys ++ [x]).map Tx.pr = ys.map Tx.pr ++ [(x.lo, Value.slice xa xn xc)] := by
          rw [List.map_append]
          show _ ++ [(x.lo, x.v)] = _
          rw [HD.out.2]
        rw [e5, List.length_append]
        exact h5
      refine hK.out _ _ (.inr ⟨fV, f0, f1, f2⟩) ?_
      clear hK hA hrow4
      try simp only [Act.put, List.setIfInBounds_toArray, List.set_cons_zero, List.set_cons_succ]
      refine anyT_take (i := 9) (v := ?vr9x8) rfl (by kernel_rfl) (by kernel_rfl) (by kernel_rfl) (by kernel_rfl) (by decide) (fun _ _ _ h => h) (Or.inl ⟨by rfl, ?yr9x8⟩) (show _ ∧ _ from ⟨fV, f0, f1, f2⟩) ?_
      case yr9x8 => (intro wz hSw; (try dsimp only at hSw); go_simp; (try with_reducible rfl))
      try simp only [Act.put, List.setIfInBounds_toArray, List.set_cons_zero, List.set_cons_succ]
      refine anyT_one (i := 10) (by kernel_rfl) rfl (fun K hK => ?_)
      go_simp
      refine hK.out _ _ (.inl rfl) ?_
      clear hK
      try simp only [Act.put, List.setIfInBounds_toArray, List.set_cons_zero, List.set_cons_succ]
      refine anyT_done (by kernel_rfl) ?_
      have m5 : (w4.setCell ⟨w.heap.size + 1 + 1, 0, none⟩ (.slice (some ⟨g4, 0, none⟩) (ys.length + 1) cp4)).cell? ⟨w.heap.size + 1 + 1, 0, none⟩ = some (.slice (some ⟨g4, 0, none⟩) (ys.length + 1) cp4) := by simp [go_sem, fV]
      have m6 : (w4.setCell ⟨w.heap.size + 1 + 1, 0, none⟩ (.slice (some ⟨g4, 0, none⟩) (ys.length + 1) cp4)).frozen? ⟨w.heap.size + 1 + 1, 0, none⟩ = false := by simp [go_sem, fF]
      clear f0 f1 f2 fV fF e0 e1 e2 eV j0 j1 j2 jV
      go_wp2_with fail
      go_roundw
      case rel => go_light; exact ⟨k + 1, _, ys ++ [x], by omega, by go_num, by rw [HY.out, List.take_add_one, HD.out.1]; rfl, m5, m6, HN.out.1, HN.out.2⟩
      case measure => go_light; simp [intOf]; omega
    · have zk : ¬ (k : Int) < (fr : Int) := by omega
      have HY2 : Hid (ys = xs.take fr) := by
        have e : k = fr := by omega
        show ys = xs.take fr
        rw [← e]; exact HY.out
      obtain ⟨Va, Vn, Vc, rfl⟩ : ∃ Va Vn Vc, V = .slice Va Vn Vc := by
        rcases HR.out.2 with ⟨q, _⟩ | ⟨g2, cp, cur, q, _⟩ <;> exact ⟨_, _, _, q⟩
      have hcm : Hid (∀ i p, (ms.map Tx.pr)[i]? = some p → wr.cell? ⟨ob, 0 + i * 2, none⟩ = some (.string p.1) ∧ wr.cell? ⟨ob, 0 + i * 2 + 1, none⟩ = some p.2) := by
        intro i p hp
        rw [List.getElem?_map] at hp
        obtain ⟨t, ht, rfl⟩ := Option.map_eq_some_iff.1 hp
        exact (HC.out wr hCg).2.2.2 i t ht
      have h1c : Hid (∀ p ∈ ms.map Tx.pr, p.2.oneCell' = true) := by
        intro p hp
        obtain ⟨t, ht, rfl⟩ := List.mem_map.1 hp
        exact (HM.out.runs t ht).one
      go_wp2_with (at_builtin; refine wpList_append_tabO _ rfl _ _ rfl W1.heap.size (.slice Va Vn Vc) (ys.map Tx.pr) ob 0 ms.length ms.length (ms.map Tx.pr) rfl rfl (List.length_map ..).symm ?hO hcm.out h1c.out ?hl ?hb ?_)
      case hO => rw [← hz1]; exact HR.out
      case hl => omega
      case hb => have := hCg.size; omega
      intro v' w4 hA
      obtain ⟨g4, cp4, rfl⟩ := hA.form (.inr (by simp; omega))
      have hln : (ys.map Tx.pr ++ ms.map Tx.pr).length = ys.length + ms.length := by simp
      have hrow4 := hA.row
      rw [hln] at hrow4 ⊢
      have hC4 : Chg (fun q => q = w.heap.size + 1 + 1 ∨ W1.heap.size ≤ q) W1 w4 := hCg.trans (Chg.of_grown hA.grown (fun q hq => .inr (row_blk HR.out q hq)))
      have hb4 : Below W1.heap.size wr w4 := (Below.refl _ _).grown hA.grown (by have := hCg.size; omega) (fun q hq => row_blk HR.out q hq)
      have fV : w4.cell? ⟨w.heap.size + 1 + 1, 0, none⟩ = some (.slice Va Vn Vc) := by rw [hb4.cell (p := ⟨w.heap.size + 1 + 1, 0, none⟩) (by show w.heap.size + 1 + 1 < W1.heap.size; omega)]; exact cV
      have fF : w4.frozen? ⟨w.heap.size + 1 + 1, 0, none⟩ = false := by
        rw [hb4.frozen (p := ⟨w.heap.size + 1 + 1, 0, none⟩) (by show w.heap.size + 1 + 1 < W1.heap.size; omega)]; exact fVz
      obtain ⟨W5, hW5⟩ : ∃ W5, W5 = w4.setCell ⟨w.heap.size + 1 + 1, 0, none⟩ (.slice (some ⟨g4, 0, none⟩) (ys.length + ms.length) cp4) := ⟨_, rfl⟩
      have HN5 : Hid (W5.cell? ⟨w.heap.size + 1 + 1, 0, none⟩ = some (.slice (some ⟨g4, 0, none⟩) (ys.length + ms.length) cp4) ∧ W5.frozen? ⟨w.heap.size + 1 + 1, 0, none⟩ = false ∧ W5.ownsRow W1.heap.size 56 2 (.slice (some ⟨g4, 0, none⟩) (ys.length + ms.length) cp4) (ys ++ ms).length (cellsP ((ys ++ ms).map Tx.pr)) ∧ Chg (fun q => q = w.heap.size + 1 + 1 ∨ W1.heap.size ≤ q) W1 W5) := by
        refine ⟨by rw [hW5]; simp [go_sem, fV], by rw [hW5]; simp [go_sem, fF], ?_, by rw [hW5]; exact hC4.trans (Chg.of_set _ _ _ _ (.inl rfl))⟩
        have h5 := row_set hrow4 (w.heap.size + 1 + 1) 0 (.slice (some ⟨g4, 0, none⟩) (ys.length + ms.length) cp4) (by omega)
        rw [List.map_append, List.length_append, hW5, hz1]
        exact h5
      clear hA hrow4 hcm h1c
      go_wp2_with fail
      rw [← hW5]
      clear hW5
      go_loopw [12] (fun i wr => ∃ (k : Nat) (V : Value) (zs : List Tx), til ≤ k ∧ k ≤ xs.length ∧ i = .int .i64 k ∧ zs = ys ++ ms ++ (xs.drop til).take (k - til) ∧ wr.cell? ⟨w.heap.size + 1 + 1, 0, none⟩ = some V ∧ wr.frozen? ⟨w.heap.size + 1 + 1, 0, none⟩ = false ∧ wr.ownsRow W1.heap.size 56 2 V zs.length (cellsP (zs.map Tx.pr)) ∧ Chg (fun q => q = w.heap.size + 1 + 1 ∨ W1.heap.size ≤ q) W1 wr) (fun i _ => xs.length - (intOf i).toNat)
      case atStart => exact ⟨til, _, ys ++ ms, Nat.le_refl _, htx, rfl, by simp, HN5.out.1, HN5.out.2.1, HN5.out.2.2.1, HN5.out.2.2.2⟩
      clear HR hCg cV fVz HY hC4 hb4 fV fF HN5 hk zk
      case round =>
        obtain ⟨k, V, zs, hk0, hk, rfl, hzs, cV, fVz, hrow, hCg⟩ := hrel
        have HY : Hid (zs = ys ++ ms ++ (xs.drop til).take (k - til)) := hzs
        have hyz : zs.length ≤ 3000 := by rw [hzs, List.length_append, List.length_append, List.length_take, List.length_drop]; omega
        have HR : Hid (wr.ownsRow W1.heap.size 56 2 V zs.length (cellsP (zs.map Tx.pr))) := hrow
        have cCB := (HC.out wr hCg).1
        clear hzs hrow
        by_cases hlt : k < xs.length
        · have zk : (k : Int) < (xs.length : Int) := by omega
          obtain ⟨x, hx⟩ : ∃ x, xs[k]? = some x := ⟨_, List.getElem?_eq_getElem (by omega)⟩
          obtain ⟨xa, xn, xc, hxv⟩ := (HX.out.2.1.runs x (List.mem_of_getElem? hx)).isSlice
          have HKx : Hid (∀ w', Chg (fun q => q = w.heap.size + 1 + 1 ∨ W1.heap.size ≤ q) W1 w' → w'.cell? ⟨CB, 0, none⟩ = some (.slice (some ⟨gc, 0, none⟩) xs.length cpc) ∧ w'.cell? ⟨gc, k * 2, none⟩ = some (.string x.lo) ∧ w'.cell? ⟨gc, k * 2 + 1, none⟩ = some (.slice xa xn xc)) := by
            intro w' hw'
            obtain ⟨q0, q1⟩ := HX.out.1.cells (p := x.pr) (i := k) (by rw [List.getElem?_map, hx]; rfl)
            have e2 : x.pr.2 = .slice xa xn xc := hxv
            have e1 : x.pr.1 = x.lo := rfl
            rw [e2] at q1
            rw [e1] at q0
            refine ⟨(HC.out w' hw').1, ?_, ?_⟩
            · rw [hw'.cell (p := ⟨gc, k * 2, none⟩) (by exact hgc.2) (by intro q; rcases q with q | q <;> simp only at q <;> omega)]; exact q0
            · rw [hw'.cell (p := ⟨gc, k * 2 + 1, none⟩) (by exact hgc.2) (by intro q; rcases q with q | q <;> simp only at q <;> omega)]; exact q1
          have HD : Hid (xs[k]? = some x ∧ x.v = .slice xa xn xc) := ⟨hx, hxv⟩
          clear hx hxv
          have hVs : ∃ Va Vn Vc, V = .slice Va Vn Vc := by
            rcases HR.out.2 with ⟨q, _⟩ | ⟨g2, cp, cur, q, _⟩ <;> exact ⟨_, _, _, q⟩
          have zz : (k : Int) < (xs.length : Int) := by omega
          have hCd : Chg (fun q => q = w.heap.size + 1 + 1 ∨ W1.heap.size ≤ q) W1 wr.drew := hCg.trans (Chg.of_below ((Below.refl _ _).drew))
          obtain ⟨j0, j1, j2⟩ := HKx.out wr.drew hCd
          have jV : wr.drew.cell? ⟨w.heap.size + 1 + 1, 0, none⟩ = some V := by simpa using cV
          have hS : (fun w' : World => w'.cell? ⟨w.heap.size + 1 + 1, 0, none⟩ = some V ∧ w'.cell? ⟨CB, 0, none⟩ = some (.slice (some ⟨gc, 0, none⟩) xs.length cpc) ∧ w'.cell? ⟨gc, k * 2, none⟩ = some (.string x.lo) ∧ w'.cell? ⟨gc, k * 2 + 1, none⟩ = some (.slice xa xn xc)) wr.drew := ⟨jV, j0, j1, j2⟩
          go_upto_region 11 with fail
          refine wp_region_T 10 (fun w' : World => w'.cell? ⟨w.heap.size + 1 + 1, 0, none⟩ = some V ∧ w'.cell? ⟨CB, 0, none⟩ = some (.slice (some ⟨gc, 0, none⟩) xs.length cpc) ∧ w'.cell? ⟨gc, k * 2, none⟩ = some (.string x.lo) ∧ w'.cell? ⟨gc, k * 2 + 1, none⟩ = some (.slice xa xn xc)) (by kernel_rfl) ?_
          refine anyT_take (i := 0) (v := ?vr0x9) rfl (by kernel_rfl) (by kernel_rfl) (by kernel_rfl) (by kernel_rfl) (by decide) (fun _ _ _ h => h) (Or.inl ⟨by rfl, ?yr0x9⟩) hS ?_
          case yr0x9 => (intro wz hSw; (try dsimp only at hSw); go_simp; (try with_reducible rfl))
          try simp only [Act.put, List.setIfInBounds_toArray, List.set_cons_zero, List.set_cons_succ]
          refine anyT_take (i := 1) (v := ?vr1x10) rfl (by kernel_rfl) (by kernel_rfl) (by kernel_rfl) (by kernel_rfl) (by decide) (fun _ _ _ h => h) (Or.inl ⟨by rfl, ?yr1x10⟩) hS ?_
          case yr1x10 => (intro wz hSw; (try dsimp only at hSw); go_simp; (try with_reducible rfl))
          try simp only [Act.put, List.setIfInBounds_toArray, List.set_cons_zero, List.set_cons_succ]
          refine anyT_take (i := 2) (v := ?vr2x11) rfl (by kernel_rfl) (by kernel_rfl) (by kernel_rfl) (by kernel_rfl) (by decide) (fun _ _ _ h => h) (Or.inl ⟨by rfl, ?yr2x11⟩) hS ?_
          case yr2x11 => (intro wz hSw; (try dsimp only at hSw); go_simp; (try with_reducible rfl))
          try simp only [Act.put, List.setIfInBounds_toArray, List.set_cons_zero, List.set_cons_succ]
          refine anyT_take (i := 3) (v := ?vr3x12) rfl (by kernel_rfl) (by kernel_rfl) (by kernel_rfl) (by kernel_rfl) (by decide) (fun _ _ _ h => h) (Or.inl ⟨by rfl, ?yr3x12⟩) hS ?_
          case yr3x12 => (intro wz hSw; (try dsimp only at hSw); go_simp; (try with_reducible rfl))
          try simp only [Act.put, List.setIfInBounds_toArray, List.set_cons_zero, List.set_cons_succ]
          refine anyT_take (i := 4) (v := ?vr4x13) rfl (by kernel_rfl) (by kernel_rfl) (by kernel_rfl) (by kernel_rfl) (by decide) (fun _ _ _ h => h) (Or.inl ⟨by rfl, ?yr4x13⟩) hS ?_
          case yr4x13 => (intro wz hSw; (try dsimp only at hSw); go_simp; (try with_reducible rfl))
          try simp only [Act.put, List.setIfInBounds_toArray, List.set_cons_zero, List.set_cons_succ]
          refine anyT_take (i := 5) (v := ?vr5x14) rfl (by kernel_rfl) (by kernel_rfl) (by kernel_rfl) (by kernel_rfl) (by decide) (fun _ _ _ h => h) (Or.inl ⟨by rfl, ?yr5x14⟩) hS ?_
          case yr5x14 => (intro wz hSw; (try dsimp only at hSw); go_simp; (try with_reducible rfl))
          try simp only [Act.put, List.setIfInBounds_toArray, List.set_cons_zero, List.set_cons_succ]
          refine anyT_take (i := 6) (v := ?vr6x15) rfl (by kernel_rfl) (by kernel_rfl) (by kernel_rfl) (by kernel_rfl) (by decide) (fun _ _ _ h => h) (Or.inl ⟨by rfl, ?yr6x15⟩) hS ?_
          case yr6x15 => (intro wz hSw; (try dsimp only at hSw); go_simp; (try with_reducible rfl))
          try simp only [Act.put, List.setIfInBounds_toArray, List.set_cons_zero, List.set_cons_succ]
          refine anyT_one (i := 7) (by kernel_rfl) rfl (fun K hK => ?_)
          go_simp
          obtain ⟨W3, hW3⟩ : ∃ W3 : World, W3 = (wr.alloc (Obj.cells #[.string x.lo, .slice xa xn xc] 56)).drew := ⟨_, rfl⟩
          have hb3 : Below wr.heap.size wr W3 := by rw [hW3]; exact ((Below.refl _ _).alloc (Nat.le_refl _) _).drew
          have hz3 : W3.heap.size = wr.heap.size + 1 := by rw [hW3]; simp
          have hC3 : Chg (fun q => q = w.heap.size + 1 + 1 ∨ W1.heap.size ≤ q) W1 W3 := hCg.trans (Chg.of_below hb3)
          have hcc : ∀ i p, [(x.lo, Value.slice xa xn xc)][i]? = some p → W3.cell? ⟨wr.heap.size, 0 + i * 2, none⟩ = some (.string p.1) ∧ W3.cell? ⟨wr.heap.size, 0 + i * 2 + 1, none⟩ = some p.2 := by
            intro i p hp
            have := two_cells_new (w := wr) (t := 56) i p hp
            rw [hW3]
            simpa using this
          have HR3 : Hid (W3.ownsRow W1.heap.size 56 2 V (zs.map Tx.pr).length (cellsP (zs.map Tx.pr)) ∧ (∀ i p, [(x.lo, Value.slice xa xn xc)][i]? = some p → W3.cell? ⟨wr.heap.size, 0 + i * 2, none⟩ = some (.string p.1) ∧ W3.cell? ⟨wr.heap.size, 0 + i * 2 + 1, none⟩ = some p.2)) := ⟨by rw [List.length_map]; exact row_below HR.out hb3, hcc⟩
          obtain ⟨e0, e1, e2⟩ := HKx.out W3 hC3
          have eV : W3.cell? ⟨w.heap.size + 1 + 1, 0, none⟩ = some V := by rw [hb3.cell (p := ⟨w.heap.size + 1 + 1, 0, none⟩) (by show w.heap.size + 1 + 1 < wr.heap.size; have := hCg.size; omega)]; exact cV
          rw [← hW3]
          refine hK.out _ _ (.inr ⟨eV, e0, e1, e2⟩) ?_
          clear hK hW3 hcc
          try simp only [Act.put, List.setIfInBounds_toArray, List.set_cons_zero, List.set_cons_succ]
          refine anyT_one (i := 8) (by kernel_rfl) rfl (fun K hK => ?_)
          refine step_append_tabO _ (by rfl) _ _ (by rfl) W1.heap.size V (zs.map Tx.pr) wr.heap.size 0 1 1 [(x.lo, .slice xa xn xc)] (by rfl) (by rfl) rfl HR3.out.1 HR3.out.2 (by intro p hp; simp at hp; subst hp; rfl) (by rw [List.length_map]; simp; omega) (by have := hCg.size; omega) ?_
          intro v' w4 hA
          obtain ⟨g4, cp4, rfl⟩ := hA.form (.inr (by simp))
          have hln : (zs.map Tx.pr ++ [(x.lo, Value.slice xa xn xc)]).length = zs.length + 1 := by simp
          have hrow4 := hA.row
          rw [hln] at hrow4 ⊢
          have hC4 : Chg (fun q => q = w.heap.size + 1 + 1 ∨ W1.heap.size ≤ q) W1 w4 := hC3.trans (Chg.of_grown hA.grown (fun q hq => .inr (row_blk HR3.out.1 q hq)))
          have hb4 : Below W1.heap.size W3 w4 := (Below.refl _ _).grown hA.grown (by have := hCg.size; omega) (fun q hq => row_blk HR3.out.1 q hq)
          obtain ⟨f0, f1, f2⟩ := HKx.out w4 hC4
          have fV : w4.cell? ⟨w.heap.size + 1 + 1, 0, none⟩ = some V := by rw [hb4.cell (p := ⟨w.heap.size + 1 + 1, 0, none⟩) (by show w.heap.size + 1 + 1 < W1.heap.size; omega)]; exact eV
          have fF : w4.frozen? ⟨w.heap.size + 1 + 1, 0, none⟩ = false := by
            rw [hb4.frozen (p := ⟨w.heap.size + 1 + 1, 0, none⟩) (by show w.heap.size + 1 + 1 < W1.heap.size; omega), hb3.frozen (p := ⟨w.heap.size + 1 + 1, 0, none⟩) (by show w.heap.size + 1 + 1 < wr.heap.size; have := hCg.size; omega)]; exact fVz
          have HN : Hid ((w4.setCell ⟨w.heap.size + 1 + 1, 0, none⟩ (.slice (some ⟨g4, 0, none⟩) (zs.length + 1) cp4)).ownsRow W1.heap.size 56 2 (.slice (some ⟨g4, 0, none⟩) (zs.length + 1) cp4) (zs ++ [x]).length (cellsP ((zs ++ [x]).map Tx.pr)) ∧ Chg (fun q => q = w.heap.size + 1 + 1 ∨ W1.heap.size ≤ q) W1 (w4.setCell ⟨w.heap.size + 1 + 1, 0, none⟩ (.slice (some ⟨g4, 0, none⟩) (zs.length + 1) cp4))) := by
            refine ⟨?_, hC4.trans (Chg.of_set _ _ _ _ (.inl rfl))⟩
            have h5 := row_set hrow4 (w.heap.size + 1 + 1) 0 (.slice (some ⟨g4, 0, none⟩) (zs.length + 1) cp4) (by omega)
            have e5 : (zs ++ [x]).map Tx.pr = zs.map Tx.pr ++ [(x.lo, Value.slice xa xn xc)] := by
              rw [List.map_append]
              show _ ++ [(x.lo, x.v)] = _
              rw [HD.out.2]
            rw [e5, List.length_append]
            exact h5
          refine hK.out _ _ (.inr ⟨fV, f0, f1, f2⟩) ?_
          clear hK hA hrow4
          try simp only [Act.put, List.setIfInBounds_toArray, List.set_cons_zero, List.set_cons_succ]
          refine anyT_take (i := 9) (v := ?vr9x16) rfl (by kernel_rfl) (by kernel_rfl) (by kernel_rfl) (by kernel_rfl) (by decide) (fun _ _ _ h => h) (Or.inl ⟨by rfl, ?yr9x16⟩) (show _ ∧ _ from ⟨fV, f0, f1, f2⟩) ?_
          case yr9x16 => (intro wz hSw; (try dsimp only at hSw); go_simp; (try with_reducible rfl))
          try simp only [Act.put, List.setIfInBounds_toArray, List.set_cons_zero, List.set_cons_succ]
          refine anyT_one (i := 10) (by kernel_rfl) rfl (fun K hK => ?_)
          go_simp
          refine hK.out _ _ (.inl rfl) ?_
          clear hK
          try simp only [Act.put, List.setIfInBounds_toArray, List.set_cons_zero, List.set_cons_succ]
          refine anyT_done (by kernel_rfl) ?_
          have m5 : (w4.setCell ⟨w.heap.size + 1 + 1, 0, none⟩ (.slice (some ⟨g4, 0, none⟩) (zs.length + 1) cp4)).cell? ⟨w.heap.size + 1 + 1, 0, none⟩ = some (.slice (some ⟨g4, 0, none⟩) (zs.length + 1) cp4) := by simp [go_sem, fV]
          have m6 : (w4.setCell ⟨w.heap.size + 1 + 1, 0, none⟩ (.slice (some ⟨g4, 0, none⟩) (zs.length + 1) cp4)).frozen? ⟨w.heap.size + 1 + 1, 0, none⟩ = false := by simp [go_sem, fF]
          clear f0 f1 f2 fV fF e0 e1 e2 eV j0 j1 j2 jV
          go_wp2_with fail
          go_roundw
          case rel => go_light; exact ⟨k + 1, _, zs ++ [x], by omega, by omega, by go_num, by rw [HY.out, show k + 1 - til = (k - til) + 1 by omega, List.take_add_one, List.getElem?_drop, show til + (k - til) = k by omega, HD.out.1]; simp, m5, m6, HN.out.1, HN.out.2⟩
          case measure => go_light; simp [intOf]; omega
        · have zk : ¬ (k : Int) < (xs.length : Int) := by omega
          obtain ⟨_, d1, d2, _⟩ := HC.out wr hCg
          have HF : Hid (OwnTRow (wr.setCell ⟨w.heap.size + 1, 0, none⟩ V) w.heap.size V zs ∧ OwnTs (wr.setCell ⟨w.heap.size + 1, 0, none⟩ V) base zs ∧ zs.map Tx.tb = (ts.take fr).map Tm.tb ++ ms.map Tx.tb ++ (ts.drop til).map Tm.tb ∧ Below w.heap.size w (wr.setCell ⟨w.heap.size + 1, 0, none⟩ V)) := by
            have hbr : Below w.heap.size w wr := Chg.below (hba.trans (hbW.mono (by omega))) hCg (by omega) (fun q hq => by rcases hq with hq | hq <;> omega)
            have hbf : Below w.heap.size w (wr.setCell ⟨w.heap.size + 1, 0, none⟩ V) := hbr.setCell (by show w.heap.size ≤ w.heap.size + 1; omega) _
            have hq := row_set HR.out (w.heap.size + 1) 0 V (by omega)
            have hX := ((HX.out.2.1.chg hCg (fun q h1 h2 hS => by rcases hS with hS | hS <;> omega)).set (w.heap.size + 1) 0 V (by omega)).mono (base' := base) (by omega)
            have hze : zs = xs.take fr ++ ms ++ xs.drop til := by
              have e9 : (xs.drop til).take (k - til) = xs.drop til := List.take_of_length_le (by rw [List.length_drop]; omega)
              rw [HY.out, HY2.out, e9]
            refine ⟨ownTRow_of (row_mono hq (by omega)) rfl, ?_, ?_, hbf⟩
            · rw [hze]
              exact ((hX.take fr).append (HM.out.below hbf)).append (hX.drop til)
            · rw [hze, List.map_append, List.map_append, List.map_take, List.map_drop, HX.out.2.2, List.map_take, List.map_drop]
          obtain ⟨va, vn, vc, rfl⟩ : ∃ va vn vc, V = .slice va vn vc := by
            rcases HR.out.2 with ⟨q, _⟩ | ⟨g2, cp, cur, q, _⟩ <;> exact ⟨_, _, _, q⟩
          go_wp2_with fail
          refine bodyPost_ret (v := .agg #[.slice va vn vc]) (by simp [results, Tryz.results42, go_sem, d1]) rfl ⟨_, zs, rfl, HF.out.1, HF.out.2.1, ?_, HF.out.2.2.2⟩
          rw [HF.out.2.2.1]
          simp
end Go.Proofs.YtlgeffinhbodeafGreat

/-
  MergeStore as lists.
-/
namespace Go.Proofs.YtlgeffinhbodeafGreat
open Go.ChangeShapes Go.WideShapes Go.ChangeAt Go.RowKit Go.Deep
set_option linter.unusedVariables false

/-- What MergeStore makes of a store. -/
structure MrgT (ts : List Tb) (row : ByteArray) (out : List Tb) : Prop where
  bad : ¬ GoodS ts → out = ts
  last : GoodS ts → ∀ i, HoldAt ts row i → i + 1 = ts.length → out = ts
  full : GoodS ts → ∀ i a b, HoldAt ts row i → ts[i]? = some a → ts[i + 1]? = some b → 50 < a.rs.length + b.rs.length → out = ts
  done : GoodS ts → ∀ i a b, HoldAt ts row i → ts[i]? = some a → ts[i + 1]? = some b → a.rs.length + b.rs.length ≤ 50 → out = ts.take i ++ [⟨a.lo, a.rs ++ b.rs⟩] ++ ts.drop (i + 2)
theorem mrgT_uniq {ts : List Tb} {row : ByteArray} {o1 o2 : List Tb} (h : MrgT ts row o1) (k : MrgT ts row o2) : o1 = o2 := by
  by_cases hg : GoodS ts
  · obtain ⟨i, hi⟩ := hold_ex hg row
    by_cases hl : i + 1 = ts.length
    · rw [h.last hg i hi hl, k.last hg i hi hl]
    · have ha := List.getElem?_eq_getElem hi.1
      have hb := List.getElem?_eq_getElem (show i + 1 < ts.length by have := hi.1; omega)
      by_cases hf : 50 < (ts[i]'hi.1).rs.length + (ts[i + 1]'(by have := hi.1; omega)).rs.length
      · rw [h.full hg i _ _ hi ha hb hf, k.full hg i _ _ hi ha hb hf]
      · rw [h.done hg i _ _ hi ha hb (by omega), k.done hg i _ _ hi ha hb (by omega)]
  · rw [h.bad hg, k.bad hg]
theorem mrgT_bad {ts : List Tb} {row : ByteArray} (h : ¬ GoodS ts) : MrgT ts row ts := ⟨fun _ => rfl, fun q => absurd q h, fun q => absurd q h, fun q => absurd q h⟩
theorem mrgT_last {ts : List Tb} {row : ByteArray} {i : Nat} (hi : HoldAt ts row i) (hl : i + 1 = ts.length) : MrgT ts row ts := by
  refine ⟨fun _ => rfl, fun _ _ _ _ => rfl, fun _ j a b hj ha hb _ => rfl, fun _ j a b hj ha hb _ => ?_⟩
  have := hold_uniq hi hj
  subst this
  have := (List.getElem?_eq_some_iff.1 hb).1
  omega
theorem mrgT_full {ts : List Tb} {row : ByteArray} {i : Nat} {a b : Tb} (hi : HoldAt ts row i) (ha : ts[i]? = some a) (hb : ts[i + 1]? = some b) (hf : 50 < a.rs.length + b.rs.length) : MrgT ts row ts := by
  refine ⟨fun _ => rfl, fun _ _ _ _ => rfl, fun _ j a b hj ha hb _ => rfl, fun _ j a' b' hj ha' hb' hq => ?_⟩
  have := hold_uniq hi hj
  subst this
  rw [ha] at ha'
  rw [hb] at hb'
  cases ha'
  cases hb'
  omega
theorem mrgT_done {ts : List Tb} {row : ByteArray} {i : Nat} {a b : Tb} (hg : GoodS ts) (hi : HoldAt ts row i) (ha : ts[i]? = some a) (hb : ts[i + 1]? = some b) (hf : a.rs.length + b.rs.length ≤ 50) : MrgT ts row (ts.take i ++ [⟨a.lo, a.rs ++ b.rs⟩] ++ ts.drop (i + 2)) := by
  refine ⟨fun q => absurd hg q, fun _ j hj hl => ?_, fun _ j a' b' hj ha' hb' hq => ?_, fun _ j a' b' hj ha' hb' hq => ?_⟩
  all_goals
    have := hold_uniq hi hj
    subst this
  · have := (List.getElem?_eq_some_iff.1 hb).1
    omega
  · rw [ha] at ha'
    rw [hb] at hb'
    cases ha'
    cases hb'
    omega
  · rw [ha] at ha'
    rw [hb] at hb'
    cases ha'
    cases hb'
    rfl
end Go.Proofs.YtlgeffinhbodeafGreat

/-
  slices.Grow and slices.Concat over runs.
-/
namespace Go.Proofs.YtlgeffinhbodeafGreat
open Go.ChangeShapes Go.WideShapes Go.ChangeAt Go.RowKit Go.Deep
set_option linter.unusedVariables false
set_option linter.unusedSimpArgs false
set_option maxRecDepth 100000

/-- A new row without elements. -/
def CatPost (e size : Nat) (w : World) (xs : List Value) (n : Nat) (r : Ending) (w' : World) : Prop := ∃ v : Value, r = .returned v ∧ w'.ownsRow w.heap.size e size v n xs ∧ Below w.heap.size w w'
def GrowPost (e size : Nat) (w : World) (r : Ending) (w' : World) : Prop := ∃ v : Value, r = .returned v ∧ w'.ownsRow w.heap.size e size v 0 [] ∧ Below w.heap.size w w'
theorem grow_row (w : World) (t : TypeId) (z : Array Value) (size n c : Nat) (hz : z.size = size) (hn : n ≤ c) (hc : c ≤ maxLen) :
    (w.drew.alloc (.cells (Builtin.zeroCells z n ++ Builtin.zeroCells z (c - n)) t)).ownsRow w.heap.size t size (.slice (some ⟨w.heap.size, 0, none⟩) 0 c) 0 [] := by
  refine ⟨by simp, .inr ⟨w.heap.size, c, _, rfl, Nat.le_refl _, heap_alloc_new w.drew _, Nat.zero_le _, hc, ?_, by simp⟩⟩
  rw [Array.size_append, size_zeroCells, size_zeroCells, hz, ← Nat.add_mul]
  congr 1
  omega

set_option maxHeartbeats 2000000 in
theorem growR_core (n : Nat) (w : World) (hn : n ≤ 2 ^ 30) :
    Calls Tryz.prog 60 #[.slice none 0 0, .int .i64 n] w fun r w' => GrowPost 58 1 w r w' := by
  obtain ⟨i, hi, hz0, hz1, hz2⟩ := info_parts Tryz.infoRun
  by_cases h0 : n = 0
  · subst h0
    go_enter Tryz.func60, Tryz.ntmps60
    go_wp2_with fail
    go_ret
    exact ⟨_, rfl, World.ownsRow_nil .., Below.refl _ _⟩
  · have hp : 0 < n := by omega
    have HG : Hid (n ≤ grownCap w n 0 58 ∧ grownCap w n 0 58 ≤ maxLen) := ⟨grownCap_ge w n 0 _, grownCap_le_maxLen w n 0 _ (by unfold maxLen; omega)⟩
    have HRun : Hid (∀ ty, (Builtin.append_ #[54, 3] ty #[.slice none 0 0, .int .i64 n]).run Tryz.prog w = .ok (.slice (some ⟨w.heap.size, 0, none⟩) n (grownCap w n 0 58)) (w.drew.alloc (.cells (Builtin.zeroCells #[.slice none 0 0] n ++ Builtin.zeroCells #[.slice none 0 0] (grownCap w n 0 58 - n)) 58))) := fun ty =>
      Go.Lib.run_append_nil_zeros w 54 3 ty 58 i (.agg #[.slice none 0 0]) .i64 .i64 Tryz.underlying54 Tryz.underlying3 hi hz0 n hp (by omega) (by omega) (by rw [hz2]; omega)
    obtain ⟨c, hc⟩ : ∃ c, c = grownCap w n 0 58 := ⟨_, rfl⟩
    rw [← hc] at HG HRun
    have hcm := HG.out.2
    have hcn := HG.out.1
    unfold maxLen at hcm
    have zp : (0 : Int) < (n : Int) := by omega
    clear h0 hc hi hz0 hz1 hz2
    go_enter Tryz.func60, Tryz.ntmps60
    go_wp2_with (at_builtin; refine Go.Lib.wpList_append_run _ rfl _ _ _ _ rfl _ _ rfl rfl _ _ (HRun.out _) ?_)
    obtain ⟨W1, hW1⟩ : ∃ W1 : World, W1 = (w.drew.alloc (.cells (Builtin.zeroCells #[.slice none 0 0] n ++ Builtin.zeroCells #[.slice none 0 0] (c - n)) 58)) := ⟨_, rfl⟩
    have HO : Hid (W1.ownsRow w.heap.size 58 1 (.slice (some ⟨w.heap.size, 0, none⟩) 0 c) 0 [] ∧ Below w.heap.size w W1) := by
      rw [hW1]
      exact ⟨grow_row w _ _ 1 n c rfl hcn (by unfold maxLen; omega), (Below.refl _ _).drew.alloc (by simp) _⟩
    go_ret
    rw [hW1] at HO
    exact ⟨_, rfl, HO.out.1, HO.out.2⟩

/-- A slice of runs, as cells. -/
structure Pt where
  b : Nat
  off : Nat
  cap : Nat
  us : List Value
structure Pt.at (w : World) (p : Pt) : Prop where
  cells : ∀ j u, p.us[j]? = some u → w.cell? ⟨p.b, p.off + j, none⟩ = some u
  one : ∀ u ∈ p.us, u.oneCell' = true
  lt : p.b < w.heap.size
theorem Pt.at.below {w w' : World} {p : Pt} (h : p.at w) (hb : Below w.heap.size w w') : p.at w' := ⟨fun j u hu => by rw [hb.cell (p := ⟨p.b, p.off + j, none⟩) (by exact h.lt)]; exact h.cells j u hu, h.one, by have := hb.size; have := h.lt; omega⟩
def PtsAt (w : World) (sb : Nat) (ps : List Pt) : Prop := ∀ i p, ps[i]? = some p → w.cell? ⟨sb, i, none⟩ = some (.slice (some ⟨p.b, p.off, none⟩) p.us.length p.cap) ∧ p.at w
theorem PtsAt.below {w w' : World} {sb : Nat} {ps : List Pt} (h : PtsAt w sb ps) (hb : Below w.heap.size w w') (hlt : sb < w.heap.size) : PtsAt w' sb ps := fun i p hp => ⟨by rw [hb.cell (p := ⟨sb, i, none⟩) (by exact hlt)]; exact (h i p hp).1, (h i p hp).2.below hb⟩
def allU (ps : List Pt) : List Value := ps.flatMap Pt.us
theorem allU_take {ps : List Pt} {k : Nat} {p : Pt} (h : ps[k]? = some p) : allU (ps.take (k + 1)) = allU (ps.take k) ++ p.us := by
  unfold allU
  rw [List.take_add_one, h, List.flatMap_append]; simp
theorem allU_le (ps : List Pt) (k : Nat) : (allU (ps.take k)).length ≤ (allU ps).length := by
  have h : allU ps = allU (ps.take k) ++ allU (ps.drop k) := by
    unfold allU
    rw [← List.flatMap_append, List.take_append_drop]
  rw [h, List.length_append]
  omega

set_option maxHeartbeats 4000000 in
theorem concatR_core (sb : Nat) (ps : List Pt) (w : World) (h : PtsAt w sb ps) (hB : sb < w.heap.size) (hn : (allU ps).length ≤ 2 ^ 28) (hm : ps.length ≤ 1000) :
    Calls Tryz.prog 32 #[.slice (some ⟨sb, 0, none⟩) ps.length ps.length] w fun r w' => CatPost 58 1 w (allU ps) (allU ps).length r w' := by
  have HP : Hid (PtsAt w sb ps) := h
  clear h
  go_enter Tryz.func32, Tryz.ntmps32
  go_wp2_with fail
  go_loopw [3, 11] (fun s i wr => ∃ (k x : Nat), k ≤ ps.length ∧ i = .int .i64 k ∧ s = .int .i64 x ∧ x = (allU (ps.take k)).length ∧ Below w.heap.size w wr) (fun _ i _ => ps.length - (intOf i).toNat)
  case atStart => exact ⟨0, 0, Nat.zero_le _, rfl, rfl, rfl, Below.refl _ _⟩
  case round =>
    obtain ⟨k, x, hk, rfl, rfl, hx, hb0⟩ := hrel
    have hs0 := hb0.size
    have HX : Hid (x = (allU (ps.take k)).length) := hx
    have hxl : x ≤ 2 ^ 28 := by have := allU_le ps k; omega
    clear hx
    by_cases hlt : k < ps.length
    · obtain ⟨p, hp⟩ : ∃ p, ps[k]? = some p := ⟨_, List.getElem?_eq_getElem hlt⟩
      obtain ⟨c0, _⟩ := (HP.out.below hb0 hB) k p hp
      have HX2 : Hid (x + p.us.length = (allU (ps.take (k + 1))).length) := by
        have h1 := HX.out
        show x + p.us.length = (allU (ps.take (k + 1))).length
        rw [allU_take hp, List.length_append, ← h1]
      have hx2 : x + p.us.length ≤ 2 ^ 28 := by have := HX2.out; have := allU_le ps (k + 1); omega
      clear hp
      have zk : (k : Int) < (ps.length : Int) := by omega
      have zz : ¬ (x : Int) + (p.us.length : Int) < 0 := by omega
      go_wp2_with fail
      go_roundw
      case rel => go_light; exact ⟨k + 1, x + p.us.length, by omega, by go_num, by go_num, HX2.out, hb0⟩
      case measure => go_light; simp [intOf]; omega
    · have zk : ¬ (k : Int) < (ps.length : Int) := by omega
      go_wp2_with fail
      refine (growR_core x _ (by omega)).mono ?_
      rintro e w1 ⟨v, rfl, hO1, hb1⟩
      have HO1 : Hid (w1.ownsRow w.heap.size 58 1 v 0 [] ∧ Below w.heap.size w w1) := ⟨row_mono hO1 hs0, hb0.trans (hb1.mono hs0)⟩
      clear hO1 hb1
      go_wp2_with fail
      go_loopw [6, 27] (fun o i wr => ∃ (k : Nat) (v : Value), k ≤ ps.length ∧ i = .int .i64 k ∧ o = v ∧ wr.ownsRow w.heap.size 58 1 v (allU (ps.take k)).length (allU (ps.take k)) ∧ Below w.heap.size w wr) (fun _ i _ => ps.length - (intOf i).toNat)
      case atStart => exact ⟨0, v, Nat.zero_le _, rfl, rfl, HO1.out.1, HO1.out.2⟩
      case round =>
        obtain ⟨v0, hv0⟩ : ∃ v0 : Value, v0 = u6 := ⟨_, rfl⟩
        subst hv0
        obtain ⟨k, v, hk, rfl, hov, hO, hb⟩ := hrel
        rw [← hov] at hO
        clear hov
        have HO : Hid (wr.ownsRow w.heap.size 58 1 v0 (allU (ps.take k)).length (allU (ps.take k))) := hO
        have hs := hb.size
        clear hO
        by_cases hlt : k < ps.length
        · obtain ⟨p, hp⟩ : ∃ p, ps[k]? = some p := ⟨_, List.getElem?_eq_getElem hlt⟩
          obtain ⟨c0, hat⟩ := (HP.out.below hb hB) k p hp
          have HD : Hid (ps[k]? = some p ∧ p.at wr) := ⟨hp, hat⟩
          have hpl : (allU (ps.take k)).length + p.us.length ≤ 2 ^ 28 := by
            have h1 := allU_le ps (k + 1)
            rw [allU_take hp, List.length_append] at h1
            omega
          clear hp hat
          have zk : (k : Int) < (ps.length : Int) := by omega
          go_wp2_with (at_builtin; refine wpList_append_runO _ rfl _ _ rfl w.heap.size v0 (allU (ps.take k)) p.b p.off p.us.length p.cap p.us rfl rfl rfl HO.out HD.out.2.cells HD.out.2.one ?hl ?hb ?_)
          case hl => omega
          case hb => omega
          intro v' w2 hA
          have HN : Hid (w2.ownsRow w.heap.size 58 1 v' (allU (ps.take (k + 1))).length (allU (ps.take (k + 1)))) := by
            show World.ownsRow _ _ _ _ _ _ _
            rw [allU_take HD.out.1]
            exact hA.row
          have hb2 : Below w.heap.size w w2 := hb.grown hA.grown hs (fun q hq => row_blk HO.out q hq)
          clear hA
          go_wp2_with fail
          go_roundw
          case rel => go_light; exact ⟨k + 1, v', by omega, by go_num, rfl, HN.out, hb2⟩
          case measure => go_light; simp [intOf]; omega
        · have zk : ¬ (k : Int) < (ps.length : Int) := by omega
          have HF : Hid (wr.ownsRow w.heap.size 58 1 v0 (allU ps).length (allU ps)) := by
            have h1 := HO.out
            rw [List.take_of_length_le (by omega)] at h1
            exact h1
          go_wp2_with fail
          go_ret
          exact ⟨v0, rfl, HF.out, hb⟩
end Go.Proofs.YtlgeffinhbodeafGreat

/-
  slices.Grow and slices.Concat over tablets.
-/
namespace Go.Proofs.YtlgeffinhbodeafGreat
open Go.ChangeShapes Go.WideShapes Go.ChangeAt Go.RowKit Go.Deep
set_option linter.unusedVariables false
set_option linter.unusedSimpArgs false
set_option maxRecDepth 100000

set_option maxHeartbeats 2000000 in
theorem growT_core (n : Nat) (w : World) (hn : n ≤ 2 ^ 30) :
    Calls Tryz.prog 96 #[.slice none 0 0, .int .i64 n] w fun r w' => GrowPost 56 2 w r w' := by
  obtain ⟨i, hi, hz0, hz1, hz2⟩ := info_parts Tryz.infoTab
  by_cases h0 : n = 0
  · subst h0
    go_enter Tryz.func96, Tryz.ntmps96
    go_wp2_with fail
    go_ret
    exact ⟨_, rfl, World.ownsRow_nil .., Below.refl _ _⟩
  · have hp : 0 < n := by omega
    have HG : Hid (n ≤ grownCap w n 0 56 ∧ grownCap w n 0 56 ≤ maxLen) := ⟨grownCap_ge w n 0 _, grownCap_le_maxLen w n 0 _ (by unfold maxLen; omega)⟩
    have HRun : Hid (∀ ty, (Builtin.append_ #[28, 3] ty #[.slice none 0 0, .int .i64 n]).run Tryz.prog w = .ok (.slice (some ⟨w.heap.size, 0, none⟩) n (grownCap w n 0 56)) (w.drew.alloc (.cells (Builtin.zeroCells #[.string ⟨#[]⟩, .slice none 0 0] n ++ Builtin.zeroCells #[.string ⟨#[]⟩, .slice none 0 0] (grownCap w n 0 56 - n)) 56))) := fun ty =>
      Go.Lib.run_append_nil_zeros w 28 3 ty 56 i (.agg #[.string ⟨#[]⟩, .slice none 0 0]) .i64 .i64 Tryz.underlying28 Tryz.underlying3 hi hz0 n hp (by omega) (by omega) (by rw [hz2]; omega)
    obtain ⟨c, hc⟩ : ∃ c, c = grownCap w n 0 56 := ⟨_, rfl⟩
    rw [← hc] at HG HRun
    have hcm := HG.out.2
    have hcn := HG.out.1
    unfold maxLen at hcm
    have zp : (0 : Int) < (n : Int) := by omega
    clear h0 hc hi hz0 hz1 hz2
    go_enter Tryz.func96, Tryz.ntmps96
    go_wp2_with (at_builtin; refine Go.Lib.wpList_append_run _ rfl _ _ _ _ rfl _ _ rfl rfl _ _ (HRun.out _) ?_)
    obtain ⟨W1, hW1⟩ : ∃ W1 : World, W1 = (w.drew.alloc (.cells (Builtin.zeroCells #[.string ⟨#[]⟩, .slice none 0 0] n ++ Builtin.zeroCells #[.string ⟨#[]⟩, .slice none 0 0] (c - n)) 56)) := ⟨_, rfl⟩
    have HO : Hid (W1.ownsRow w.heap.size 56 2 (.slice (some ⟨w.heap.size, 0, none⟩) 0 c) 0 [] ∧ Below w.heap.size w W1) := by
      rw [hW1]
      exact ⟨grow_row w _ _ 2 n c rfl hcn (by unfold maxLen; omega), (Below.refl _ _).drew.alloc (by simp) _⟩
    go_ret
    rw [hW1] at HO
    exact ⟨_, rfl, HO.out.1, HO.out.2⟩

/-- A slice of runs, as cells. -/
structure PtT where
  b : Nat
  off : Nat
  cap : Nat
  us : List Pr
structure PtT.at (w : World) (p : PtT) : Prop where
  cells : ∀ j u, p.us[j]? = some u → w.cell? ⟨p.b, p.off + j * 2, none⟩ = some (.string u.1) ∧ w.cell? ⟨p.b, p.off + j * 2 + 1, none⟩ = some u.2
  one : ∀ u ∈ p.us, u.2.oneCell' = true
  lt : p.b < w.heap.size
theorem PtT.at.below {w w' : World} {p : PtT} (h : p.at w) (hb : Below w.heap.size w w') : p.at w' := ⟨fun j u hu => ⟨by rw [hb.cell (p := ⟨p.b, p.off + j * 2, none⟩) (by exact h.lt)]; exact (h.cells j u hu).1, by rw [hb.cell (p := ⟨p.b, p.off + j * 2 + 1, none⟩) (by exact h.lt)]; exact (h.cells j u hu).2⟩, h.one, by have := hb.size; have := h.lt; omega⟩
def PtsAtT (w : World) (sb : Nat) (ps : List PtT) : Prop := ∀ i p, ps[i]? = some p → w.cell? ⟨sb, i, none⟩ = some (.slice (some ⟨p.b, p.off, none⟩) p.us.length p.cap) ∧ p.at w
theorem PtsAtT.below {w w' : World} {sb : Nat} {ps : List PtT} (h : PtsAtT w sb ps) (hb : Below w.heap.size w w') (hlt : sb < w.heap.size) : PtsAtT w' sb ps := fun i p hp => ⟨by rw [hb.cell (p := ⟨sb, i, none⟩) (by exact hlt)]; exact (h i p hp).1, (h i p hp).2.below hb⟩
def allP (ps : List PtT) : List Pr := ps.flatMap PtT.us
theorem allP_take {ps : List PtT} {k : Nat} {p : PtT} (h : ps[k]? = some p) : allP (ps.take (k + 1)) = allP (ps.take k) ++ p.us := by
  unfold allP
  rw [List.take_add_one, h, List.flatMap_append]; simp
theorem allP_le (ps : List PtT) (k : Nat) : (allP (ps.take k)).length ≤ (allP ps).length := by
  have h : allP ps = allP (ps.take k) ++ allP (ps.drop k) := by
    unfold allP
    rw [← List.flatMap_append, List.take_append_drop]
  rw [h, List.length_append]
  omega

set_option maxHeartbeats 4000000 in
theorem concatT_core (sb : Nat) (ps : List PtT) (w : World) (h : PtsAtT w sb ps) (hB : sb < w.heap.size) (hn : (allP ps).length ≤ 2 ^ 28) (hm : ps.length ≤ 1000) :
    Calls Tryz.prog 76 #[.slice (some ⟨sb, 0, none⟩) ps.length ps.length] w fun r w' => CatPost 56 2 w (cellsP (allP ps)) (allP ps).length r w' := by
  have HP : Hid (PtsAtT w sb ps) := h
  clear h
  go_enter Tryz.func76, Tryz.ntmps76
  go_wp2_with fail
  go_loopw [3, 11] (fun s i wr => ∃ (k x : Nat), k ≤ ps.length ∧ i = .int .i64 k ∧ s = .int .i64 x ∧ x = (allP (ps.take k)).length ∧ Below w.heap.size w wr) (fun _ i _ => ps.length - (intOf i).toNat)
  case atStart => exact ⟨0, 0, Nat.zero_le _, rfl, rfl, rfl, Below.refl _ _⟩
  case round =>
    obtain ⟨k, x, hk, rfl, rfl, hx, hb0⟩ := hrel
    have hs0 := hb0.size
    have HX : Hid (x = (allP (ps.take k)).length) := hx
    have hxl : x ≤ 2 ^ 28 := by have := allP_le ps k; omega
    clear hx
    by_cases hlt : k < ps.length
    · obtain ⟨p, hp⟩ : ∃ p, ps[k]? = some p := ⟨_, List.getElem?_eq_getElem hlt⟩
      obtain ⟨c0, _⟩ := (HP.out.below hb0 hB) k p hp
      have HX2 : Hid (x + p.us.length = (allP (ps.take (k + 1))).length) := by
        have h1 := HX.out
        show x + p.us.length = (allP (ps.take (k + 1))).length
        rw [allP_take hp, List.length_append, ← h1]
      have hx2 : x + p.us.length ≤ 2 ^ 28 := by have := HX2.out; have := allP_le ps (k + 1); omega
      clear hp
      have zk : (k : Int) < (ps.length : Int) := by omega
      have zz : ¬ (x : Int) + (p.us.length : Int) < 0 := by omega
      go_wp2_with fail
      go_roundw
      case rel => go_light; exact ⟨k + 1, x + p.us.length, by omega, by go_num, by go_num, HX2.out, hb0⟩
      case measure => go_light; simp [intOf]; omega
    · have zk : ¬ (k : Int) < (ps.length : Int) := by omega
      go_wp2_with fail
      refine (growT_core x _ (by omega)).mono ?_
      rintro e w1 ⟨v, rfl, hO1, hb1⟩
      have HO1 : Hid (w1.ownsRow w.heap.size 56 2 v 0 [] ∧ Below w.heap.size w w1) := ⟨row_mono hO1 hs0, hb0.trans (hb1.mono hs0)⟩
      clear hO1 hb1
      go_wp2_with fail
      go_loopw [6, 27] (fun o i wr => ∃ (k : Nat) (v : Value), k ≤ ps.length ∧ i = .int .i64 k ∧ o = v ∧ wr.ownsRow w.heap.size 56 2 v (allP (ps.take k)).length (cellsP (allP (ps.take k))) ∧ Below w.heap.size w wr) (fun _ i _ => ps.length - (intOf i).toNat)
      case atStart => exact ⟨0, v, Nat.zero_le _, rfl, rfl, HO1.out.1, HO1.out.2⟩
      case round =>
        obtain ⟨v0, hv0⟩ : ∃ v0 : Value, v0 = u6 := ⟨_, rfl⟩
        subst hv0
        obtain ⟨k, v, hk, rfl, hov, hO, hb⟩ := hrel
        rw [← hov] at hO
        clear hov
        have HO : Hid (wr.ownsRow w.heap.size 56 2 v0 (allP (ps.take k)).length (cellsP (allP (ps.take k)))) := hO
        have hs := hb.size
        clear hO
        by_cases hlt : k < ps.length
        · obtain ⟨p, hp⟩ : ∃ p, ps[k]? = some p := ⟨_, List.getElem?_eq_getElem hlt⟩
          obtain ⟨c0, hat⟩ := (HP.out.below hb hB) k p hp
          have HD : Hid (ps[k]? = some p ∧ p.at wr) := ⟨hp, hat⟩
          have hpl : (allP (ps.take k)).length + p.us.length ≤ 2 ^ 28 := by
            have h1 := allP_le ps (k + 1)
            rw [allP_take hp, List.length_append] at h1
            omega
          clear hp hat
          have zk : (k : Int) < (ps.length : Int) := by omega
          go_wp2_with (at_builtin; refine wpList_append_tabO _ rfl _ _ rfl w.heap.size v0 (allP (ps.take k)) p.b p.off p.us.length p.cap p.us rfl rfl rfl HO.out HD.out.2.cells HD.out.2.one ?hl ?hb ?_)
          case hl => omega
          case hb => omega
          intro v' w2 hA
          have HN : Hid (w2.ownsRow w.heap.size 56 2 v' (allP (ps.take (k + 1))).length (cellsP (allP (ps.take (k + 1))))) := by
            show World.ownsRow _ _ _ _ _ _ _
            rw [allP_take HD.out.1]
            exact hA.row
          have hb2 : Below w.heap.size w w2 := hb.grown hA.grown hs (fun q hq => row_blk HO.out q hq)
          clear hA
          go_wp2_with fail
          go_roundw
          case rel => go_light; exact ⟨k + 1, v', by omega, by go_num, rfl, HN.out, hb2⟩
          case measure => go_light; simp [intOf]; omega
        · have zk : ¬ (k : Int) < (ps.length : Int) := by omega
          have HF : Hid (wr.ownsRow w.heap.size 56 2 v0 (allP ps).length (cellsP (allP ps))) := by
            have h1 := HO.out
            rw [List.take_of_length_le (by omega)] at h1
            exact h1
          go_wp2_with fail
          go_ret
          exact ⟨v0, rfl, HF.out, hb⟩
end Go.Proofs.YtlgeffinhbodeafGreat

