/-
  spec.l7Copy.
-/
import Derived.Test.YtlgeffinhbodeaeQCpR
import Derived.Test.YtlgeffinhbodeaePkC
import Derived.Test.YtlgeffinhbodeaeQRgL
namespace Go.Proofs.Ytlgeffinhbodeae
open Go.ChangeShapes Go.WideShapes Go.ChangeAt Go.RowKit Go.Deep
set_option linter.unusedVariables false
set_option linter.unusedSimpArgs false
set_option maxRecDepth 100000

def Tx.tb (t : Tx) : Tb := ⟨t.lo, t.rs.map Rw.es⟩
theorem Tm.at.ins {w : World} {t : Tm} (h : t.at w) : InRms w t.u t.l := .inr ⟨t.b, t.off, t.cap, rfl, h.rms, h.lt, h.len, h.cap⟩
/-- Tablets of the call's own beneath a row of tablets. -/
structure OwnTs (w : World) (base : Nat) (ts : List Tx) : Prop where
  runs : ∀ t ∈ ts, OwnRow w base t.v t.rs
  ents : ∀ t ∈ ts, ∀ r ∈ t.rs, OwnK w base r
theorem OwnTs.below {w w' : World} {base : Nat} {ts : List Tx} (h : OwnTs w base ts) (hb : Below w.heap.size w w') : OwnTs w' base ts :=
  ⟨fun t ht => (h.runs t ht).below hb, fun t ht r hr => (h.ents t ht r hr).below hb⟩
/-- A row of tablets grows: what lies beneath stays. -/
theorem OwnTs.grown {w w' : World} {base base' : Nat} {ts : List Tx} {v : Value} {n : Nat} {xs : List Value} (h : OwnTs w base ts) (hv : w.ownsRow base' 133 2 v n xs) (hg : w.grownBy w' v.ownBlock) : OwnTs w' base ts := by
  refine ⟨fun t ht => (h.runs t ht).kept hg (fun g hg1 hne hg2 => ?_), fun t ht r hr => (h.ents t ht r hr).kept hg (fun g hg1 hg2 => ?_)⟩
  · rcases h.runs t ht with ⟨q, _⟩ | ⟨g', cp, hv', hO⟩
    · exact hne q
    · rw [hv'] at hg1
      exact own_apart hv hO (by decide) g hg2 hg1
  · rcases h.ents t ht r hr with ⟨q, _⟩ | ⟨g', cp, hk, hu, hO⟩
    · rw [q] at hg1; cases hg1
    · rw [hk] at hg1
      have e1 : g' = g := Option.some.inj hg1
      subst e1
      exact own_apart hv hO (by decide) g' hg2 rfl
theorem OwnTs.set {w : World} {base : Nat} {ts : List Tx} (h : OwnTs w base ts) (g o : Nat) (u : Value) (hlt : g < base) : OwnTs (w.setCell ⟨g, o, none⟩ u) base ts := by
  refine ⟨fun t ht => (h.runs t ht).kept (grown_set w g o u) (fun g' hg1 hne hg2 => ?_), fun t ht r hr => (h.ents t ht r hr).kept (grown_set w g o u) (fun g' hg1 hg2 => ?_)⟩
  · rcases h.runs t ht with ⟨q, _⟩ | ⟨g2, cp, hv', hO⟩
    · exact hne q
    · rw [hv'] at hg1
      have e1 : g2 = g' := Option.some.inj hg1
      have e2 : g = g' := Option.some.inj hg2
      have := World.ownsRow.lt hO g2 rfl
      omega
  · have := (h.ents t ht r hr).key hg1
    have e2 : g = g' := Option.some.inj hg2
    omega
theorem OwnTs.snoc {w : World} {base : Nat} {ts : List Tx} {t : Tx} (h : OwnTs w base ts) (h1 : OwnRow w base t.v t.rs) (h2 : ∀ r ∈ t.rs, OwnK w base r) : OwnTs w base (ts ++ [t]) := by
  refine ⟨fun x hx => ?_, fun x hx => ?_⟩
  · rcases List.mem_append.1 hx with hx | hx
    · exact h.runs x hx
    · simp at hx; subst hx; exact h1
  · rcases List.mem_append.1 hx with hx | hx
    · exact h.ents x hx
    · simp at hx; subst hx; exact h2
theorem row_set {w : World} {base e size : Nat} {v : Value} {n : Nat} {xs : List Value} (h : w.ownsRow base e size v n xs) (g o : Nat) (u : Value) (hlt : g < base) : (w.setCell ⟨g, o, none⟩ u).ownsRow base e size v n xs := by
  refine World.ownsRow.kept h (grown_set w g o u) ?_
  rcases h.2 with ⟨q, _⟩ | ⟨g2, cp, cur, hv', h1, _⟩
  · exact .inr (fun z => by rw [q] at z; cases z)
  · refine .inr (fun z => ?_)
    rw [hv'] at z
    have e1 : g2 = g := Option.some.inj z
    omega
theorem row_blk {w : World} {base e size : Nat} {v : Value} {n : Nat} {xs : List Value} (h : w.ownsRow base e size v n xs) : ∀ j, v.ownBlock = some j → base ≤ j := by
  intro j hj
  rcases h.2 with ⟨q, _⟩ | ⟨g, cap, cur, hv, h1, _⟩
  · rw [q] at hj; cases hj
  · rw [hv] at hj
    have : g = j := Option.some.inj hj
    omega
theorem row_below {w w' : World} {base e size : Nat} {v : Value} {n : Nat} {xs : List Value} (h : w.ownsRow base e size v n xs) (hb : Below w.heap.size w w') : w'.ownsRow base e size v n xs := by
  refine World.ownsRow.kept h (grown_of_below hb none) ?_
  cases hv : v.ownBlock with
  | none => exact .inl rfl
  | some g => exact .inr (fun q => by cases q)
theorem two_cells_new {w : World} {lo : ByteArray} {x : Value} {t : TypeId} : ∀ i p, [(lo, x)][i]? = some p → (w.alloc (.cells #[.string lo, x] t)).cell? ⟨w.heap.size, 0 + i * 2, none⟩ = some (.string p.1) ∧ (w.alloc (.cells #[.string lo, x] t)).cell? ⟨w.heap.size, 0 + i * 2 + 1, none⟩ = some p.2 := by
  intro i p hp
  have hi : i = 0 := by have := (List.getElem?_eq_some_iff.1 hp).1; simp at this; omega
  subst hi
  simp at hp
  subst hp
  constructor <;> simp
theorem OwnRow.isSlice {w : World} {base : Nat} {v : Value} {rs : List Rw} (h : OwnRow w base v rs) : ∃ a n c, v = .slice a n c := by
  rcases h with ⟨_, a, c, h⟩ | ⟨g, cp, h, _⟩ <;> exact ⟨_, _, _, h⟩
theorem OwnRow.one {w : World} {base : Nat} {v : Value} {rs : List Rw} (h : OwnRow w base v rs) : v.oneCell' = true := by
  rcases h with ⟨_, a, c, h⟩ | ⟨g, cp, h, _⟩ <;> rw [h] <;> rfl
theorem ownTRow_of {w : World} {base : Nat} {v : Value} {n : Nat} {ts : List Tx} (h : w.ownsRow base 133 2 v n (cellsP (ts.map Tx.pr))) (hn : ts.length = n) : OwnTRow w base v ts := by
  subst hn
  rcases h.2 with ⟨h0, h1⟩ | ⟨g, cap, cur, hv, _⟩
  · exact .inl ⟨List.eq_nil_of_length_eq_zero h1, none, 0, h0⟩
  · refine .inr ⟨g, cap, hv, ?_⟩
    unfold OwnP
    rw [List.length_map]
    rw [hv] at h
    exact h
/-- What a copy of a store hands back. -/
def CpSPost (w : World) (tbs : List Tb) (e : Ending) (w' : World) : Prop := ∃ (v : Value) (xs : List Tx), e = .returned (.agg #[v]) ∧ OwnSt w' w.heap.size v xs ∧ xs.map Tx.tb = tbs ∧ Below w.heap.size w w'

set_option maxHeartbeats 8000000 in
theorem specCopy_core (b off cap : Nat) (ts : List Tm) (w : World) (h : TmsAt w b off ts) (hB : b < w.heap.size) (hn : ts.length ≤ 1048576) (hs : ∀ t ∈ ts, t.l.length ≤ 1048576 ∧ totM t.l ≤ 1048576) :
    Calls Try.prog 73 #[.agg #[.slice (some ⟨b, off, none⟩) ts.length cap]] w fun e w' => CpSPost w (ts.map Tm.tb) e w' := by
  obtain ⟨Wa, hWa⟩ : ∃ Wa : World, Wa = (w.alloc (Obj.cells #[.slice (some ⟨b, off, none⟩) ts.length cap] 66)).alloc (Obj.cells #[.slice none 0 0] 66) := ⟨_, rfl⟩
  obtain ⟨W0, hW0⟩ : ∃ W0 : World, W0 = Wa.alloc (Obj.cells #[.slice none 0 0] 66) := ⟨_, rfl⟩
  have hba : Below w.heap.size w Wa := by rw [hWa]; exact ((Below.refl _ _).alloc (Nat.le_refl _) _).alloc (by simp) _
  have hza : Wa.heap.size = w.heap.size + 1 + 1 := by rw [hWa]; simp
  have hbb : Below Wa.heap.size Wa W0 := by rw [hW0]; exact (Below.refl _ _).alloc (Nat.le_refl _) _
  have hz0 : W0.heap.size = w.heap.size + 1 + 1 + 1 := by rw [hW0]; simp [hza]
  have HWa : Hid (∀ wx, Below Wa.heap.size Wa wx → wx.cell? ⟨w.heap.size, 0, none⟩ = some (.slice (some ⟨b, off, none⟩) ts.length cap) ∧ wx.cell? ⟨w.heap.size + 1, 0, none⟩ = some (.slice none 0 0) ∧ wx.frozen? ⟨w.heap.size + 1, 0, none⟩ = false ∧ TmsAt wx b off ts ∧ b < wx.heap.size) := by
    intro wx hx
    have sx := hx.size
    refine ⟨?_, ?_, ?_, (h.below hba hB).below hx (by omega), by omega⟩
    · rw [hx.cell (p := ⟨w.heap.size, 0, none⟩) (by show w.heap.size < Wa.heap.size; omega), hWa]; simp [go_sem]
    · rw [hx.cell (p := ⟨w.heap.size + 1, 0, none⟩) (by show w.heap.size + 1 < Wa.heap.size; omega), hWa]; simp [go_sem]
    · rw [hx.frozen (p := ⟨w.heap.size + 1, 0, none⟩) (by show w.heap.size + 1 < Wa.heap.size; omega), hWa]; simp [go_sem]
  have HS : Hid (∀ t ∈ ts, t.l.length ≤ 1048576 ∧ totM t.l ≤ 1048576) := hs
  have c0 : W0.cell? ⟨w.heap.size + 1 + 1, 0, none⟩ = some (.slice none 0 0) := by rw [hW0, ← hza]; simp
  have f0 : W0.frozen? ⟨w.heap.size + 1 + 1, 0, none⟩ = false := by rw [hW0, ← hza]; simp
  clear h hs
  go_enter Try.func73, Try.ntmps73
  go_wp2_with fail
  rw [← hWa, ← hW0]
  clear hWa hW0
  go_loopw [4] (fun i wr => ∃ (k : Nat) (V : Value) (xs : List Tx), k ≤ ts.length ∧ i = .int .i64 k ∧ xs.length = k ∧ xs.map Tx.tb = (ts.take k).map Tm.tb ∧ wr.cell? ⟨w.heap.size + 1 + 1, 0, none⟩ = some V ∧ wr.frozen? ⟨w.heap.size + 1 + 1, 0, none⟩ = false ∧ wr.ownsRow W0.heap.size 133 2 V k (cellsP (xs.map Tx.pr)) ∧ OwnTs wr W0.heap.size xs ∧ Below Wa.heap.size Wa wr ∧ W0.heap.size ≤ wr.heap.size) (fun i _ => ts.length - (intOf i).toNat)
  case atStart => exact ⟨0, .slice none 0 0, [], Nat.zero_le _, rfl, rfl, rfl, c0, f0, World.ownsRow_nil .., ⟨fun t ht => by simp at ht, fun t ht => by simp at ht⟩, hbb, Nat.le_refl _⟩
  case round =>
    obtain ⟨k, V, xs, hk, rfl, hxl, hxt, cV, fV, hrow, hts, hb, hsz⟩ := hrel
    have HR : Hid (xs.length = k ∧ xs.map Tx.tb = (ts.take k).map Tm.tb ∧ wr.ownsRow W0.heap.size 133 2 V k (cellsP (xs.map Tx.pr)) ∧ OwnTs wr W0.heap.size xs) := ⟨hxl, hxt, hrow, hts⟩
    have hVc : V.cells = #[V] := by
      rcases hrow.2 with ⟨q, _⟩ | ⟨g2, cp, cur, q, _⟩ <;> rw [q] <;> rfl
    clear hxl hxt hrow hts
    obtain ⟨d0, d1, d2, d3, d4⟩ := HWa.out wr hb
    have HT : Hid (TmsAt wr b off ts) := d3
    clear d3
    by_cases hlt : k < ts.length
    · obtain ⟨t, ht⟩ : ∃ t, ts[k]? = some t := ⟨_, List.getElem?_eq_getElem hlt⟩
      obtain ⟨e0, e1, ha⟩ := HT.out k t ht
      have HD : Hid (ts[k]? = some t ∧ t.at wr ∧ t.l.length ≤ 1048576 ∧ totM t.l ≤ 1048576) := ⟨ht, ha, HS.out t (List.mem_of_getElem? ht)⟩
      clear ht ha
      have zk : (k : Int) < (ts.length : Int) := by omega
      have HK : Hid (∀ w', Below W0.heap.size wr w' → w'.cell? ⟨w.heap.size + 1 + 1, 0, none⟩ = some V ∧ w'.frozen? ⟨w.heap.size + 1 + 1, 0, none⟩ = false ∧ w'.cell? ⟨w.heap.size, 0, none⟩ = some (.slice (some ⟨b, off, none⟩) ts.length cap) ∧ w'.cell? ⟨b, off + k * 2, none⟩ = some (.string t.lo) ∧ w'.cell? ⟨b, off + k * 2 + 1, none⟩ = some (.slice (some ⟨t.b, t.off, none⟩) t.l.length t.cap)) := by
        intro w' k'
        exact ⟨by rw [k'.cell (p := ⟨w.heap.size + 1 + 1, 0, none⟩) (by show w.heap.size + 1 + 1 < W0.heap.size; omega)]; exact cV, by rw [k'.frozen (p := ⟨w.heap.size + 1 + 1, 0, none⟩) (by show w.heap.size + 1 + 1 < W0.heap.size; omega)]; exact fV, by rw [k'.cell (p := ⟨w.heap.size, 0, none⟩) (by show w.heap.size < W0.heap.size; omega)]; exact d0, by rw [k'.cell (p := ⟨b, off + k * 2, none⟩) (by show b < W0.heap.size; omega)]; exact e0, by rw [k'.cell (p := ⟨b, off + k * 2 + 1, none⟩) (by show b < W0.heap.size; omega)]; exact e1⟩
      go_upto_region 5 with fail
      have HCall : Hid (∀ X, Below wr.heap.size wr X → Calls Try.prog 75 #[.slice (some ⟨t.b, t.off, none⟩) t.l.length t.cap] X fun e w' => ∃ (ua : Option Addr) (un uc : Nat) (rs : List Rw), e = .returned (.slice ua un uc) ∧ Hid (CopyR w' wr.heap.size (.slice ua un uc) t.l rs ∧ Below wr.heap.size wr w') ∧ w'.cell? ⟨w.heap.size + 1 + 1, 0, none⟩ = some V ∧ w'.cell? ⟨w.heap.size, 0, none⟩ = some (.slice (some ⟨b, off, none⟩) ts.length cap) ∧ w'.cell? ⟨b, off + k * 2, none⟩ = some (.string t.lo) ∧ w'.cell? ⟨b, off + k * 2 + 1, none⟩ = some (.slice (some ⟨t.b, t.off, none⟩) t.l.length t.cap) ∧ (w'.alloc (Obj.cells #[.string t.lo, .slice ua un uc] 133)).cell? ⟨w.heap.size + 1 + 1, 0, none⟩ = some V) := by
        intro X hX
        refine (specCopyRuns_core t.u t.l X (HD.out.2.1.below hX).ins HD.out.2.2.1 HD.out.2.2.2).mono ?_
        rintro e w' ⟨u, rs, he, hC, _, hb'⟩
        have k' := hX.trans (hb'.mono hX.size)
        have s' := k'.size
        obtain ⟨ua, un, uc, rfl⟩ := hC.row.isSlice
        obtain ⟨q0, q1, q2, q3, q4⟩ := HK.out w' (k'.mono (by omega))
        obtain ⟨p0, _⟩ := HK.out (w'.alloc (Obj.cells #[.string t.lo, .slice ua un uc] 133)) ((k'.alloc s' _).mono (by omega))
        exact ⟨ua, un, uc, rs, he, ⟨⟨hC.row.mono hX.size, fun r hr => (hC.ents r hr).mono hX.size, hC.apart, hC.same⟩, k'⟩, q0, q2, q3, q4, p0⟩
      have HApp : Hid (∀ (v1 w2 : World) (ua : Option Addr) (un uc g3 n3 cp3 : Nat), Below wr.heap.size wr v1 → AppT (v1.alloc (Obj.cells #[.string t.lo, .slice ua un uc] 133)) w2 W0.heap.size V (.slice (some ⟨g3, 0, none⟩) n3 cp3) (xs.map Tx.pr) [(t.lo, .slice ua un uc)] → w2.cell? ⟨w.heap.size + 1 + 1, 0, none⟩ = some V ∧ w2.frozen? ⟨w.heap.size + 1 + 1, 0, none⟩ = false ∧ w2.cell? ⟨w.heap.size, 0, none⟩ = some (.slice (some ⟨b, off, none⟩) ts.length cap) ∧ w2.cell? ⟨b, off + k * 2, none⟩ = some (.string t.lo) ∧ w2.cell? ⟨b, off + k * 2 + 1, none⟩ = some (.slice (some ⟨t.b, t.off, none⟩) t.l.length t.cap)) := by
        intro v1 w2 ua un uc g3 n3 cp3 hb1 hA2
        have s1 := hb1.size
        have hb2 : Below W0.heap.size wr w2 := ((hb1.mono (by omega)).alloc (by omega) _).grown hA2.grown (by simp; omega) (fun j hj => row_blk HR.out.2.2.1 j hj)
        exact HK.out w2 hb2
      have hS : (fun w' : World => w'.cell? ⟨w.heap.size + 1 + 1, 0, none⟩ = some V ∧ w'.cell? ⟨w.heap.size, 0, none⟩ = some (.slice (some ⟨b, off, none⟩) ts.length cap) ∧ w'.cell? ⟨b, off + k * 2, none⟩ = some (.string t.lo) ∧ w'.cell? ⟨b, off + k * 2 + 1, none⟩ = some (.slice (some ⟨t.b, t.off, none⟩) t.l.length t.cap)) wr.drew := by
        obtain ⟨q0, q1, q2, q3, q4⟩ := HK.out wr.drew ((Below.refl _ _).drew)
        exact ⟨q0, q2, q3, q4⟩
      refine wp_region_T 19 (fun w' : World => w'.cell? ⟨w.heap.size + 1 + 1, 0, none⟩ = some V ∧ w'.cell? ⟨w.heap.size, 0, none⟩ = some (.slice (some ⟨b, off, none⟩) ts.length cap) ∧ w'.cell? ⟨b, off + k * 2, none⟩ = some (.string t.lo) ∧ w'.cell? ⟨b, off + k * 2 + 1, none⟩ = some (.slice (some ⟨t.b, t.off, none⟩) t.l.length t.cap)) (by kernel_rfl) ?_
      refine anyT_take (i := 0) (v := ?vq0) rfl (by kernel_rfl) (by kernel_rfl) (by kernel_rfl) (by kernel_rfl) (by decide) (fun _ _ _ h => h) (Or.inl ⟨by rfl, ?yq0⟩) hS ?_
      case yq0 => (intro wz hSw; (try dsimp only at hSw); go_simp; (try with_reducible rfl))
      try simp only [Act.put, List.setIfInBounds_toArray, List.set_cons_zero, List.set_cons_succ]
      refine anyT_take (i := 1) (v := ?vq1) rfl (by kernel_rfl) (by kernel_rfl) (by kernel_rfl) (by kernel_rfl) (by decide) (fun _ _ _ h => h) (Or.inl ⟨by rfl, ?yq1⟩) hS ?_
      case yq1 => (intro wz hSw; (try dsimp only at hSw); go_simp; (try with_reducible rfl))
      try simp only [Act.put, List.setIfInBounds_toArray, List.set_cons_zero, List.set_cons_succ]
      refine anyT_take (i := 2) (v := ?vq2) rfl (by kernel_rfl) (by kernel_rfl) (by kernel_rfl) (by kernel_rfl) (by decide) (fun _ _ _ h => h) (Or.inl ⟨by rfl, ?yq2⟩) hS ?_
      case yq2 => (intro wz hSw; (try dsimp only at hSw); go_simp; (try with_reducible rfl))
      try simp only [Act.put, List.setIfInBounds_toArray, List.set_cons_zero, List.set_cons_succ]
      refine anyT_take (i := 3) (v := ?vq3) rfl (by kernel_rfl) (by kernel_rfl) (by kernel_rfl) (by kernel_rfl) (by decide) (fun _ _ _ h => h) (Or.inl ⟨by rfl, ?yq3⟩) hS ?_
      case yq3 => (intro wz hSw; (try dsimp only at hSw); go_simp; (try with_reducible rfl))
      try simp only [Act.put, List.setIfInBounds_toArray, List.set_cons_zero, List.set_cons_succ]
      refine anyT_take (i := 4) (v := ?vq4) rfl (by kernel_rfl) (by kernel_rfl) (by kernel_rfl) (by kernel_rfl) (by decide) (fun _ _ _ h => h) (Or.inl ⟨by rfl, ?yq4⟩) hS ?_
      case yq4 => (intro wz hSw; (try dsimp only at hSw); go_simp; (try with_reducible rfl))
      try simp only [Act.put, List.setIfInBounds_toArray, List.set_cons_zero, List.set_cons_succ]
      refine anyT_take (i := 5) (v := ?vq5) rfl (by kernel_rfl) (by kernel_rfl) (by kernel_rfl) (by kernel_rfl) (by decide) (fun _ _ _ h => h) (Or.inl ⟨by rfl, ?yq5⟩) hS ?_
      case yq5 => (intro wz hSw; (try dsimp only at hSw); go_simp; (try with_reducible rfl))
      try simp only [Act.put, List.setIfInBounds_toArray, List.set_cons_zero, List.set_cons_succ]
      refine anyT_take (i := 6) (v := ?vq6) rfl (by kernel_rfl) (by kernel_rfl) (by kernel_rfl) (by kernel_rfl) (by decide) (fun _ _ _ h => h) (Or.inl ⟨by rfl, ?yq6⟩) hS ?_
      case yq6 => (intro wz hSw; (try dsimp only at hSw); go_simp; (try with_reducible rfl))
      try simp only [Act.put, List.setIfInBounds_toArray, List.set_cons_zero, List.set_cons_succ]
      refine anyT_take (i := 7) (v := ?vq7) rfl (by kernel_rfl) (by kernel_rfl) (by kernel_rfl) (by kernel_rfl) (by decide) (fun _ _ _ h => h) (Or.inl ⟨by rfl, ?yq7⟩) hS ?_
      case yq7 => (intro wz hSw; (try dsimp only at hSw); go_simp; (try with_reducible rfl))
      try simp only [Act.put, List.setIfInBounds_toArray, List.set_cons_zero, List.set_cons_succ]
      refine anyT_take (i := 8) (v := ?vq8) rfl (by kernel_rfl) (by kernel_rfl) (by kernel_rfl) (by kernel_rfl) (by decide) (fun _ _ _ h => h) (Or.inl ⟨by rfl, ?yq8⟩) hS ?_
      case yq8 => (intro wz hSw; (try dsimp only at hSw); go_simp; (try with_reducible rfl))
      try simp only [Act.put, List.setIfInBounds_toArray, List.set_cons_zero, List.set_cons_succ]
      refine anyT_take (i := 9) (v := ?vq9) rfl (by kernel_rfl) (by kernel_rfl) (by kernel_rfl) (by kernel_rfl) (by decide) (fun _ _ _ h => h) (Or.inl ⟨by rfl, ?yq9⟩) hS ?_
      case yq9 => (intro wz hSw; (try dsimp only at hSw); go_simp; (try with_reducible rfl))
      try simp only [Act.put, List.setIfInBounds_toArray, List.set_cons_zero, List.set_cons_succ]
      refine anyT_take (i := 10) (v := ?vq10) rfl (by kernel_rfl) (by kernel_rfl) (by kernel_rfl) (by kernel_rfl) (by decide) (fun _ _ _ h => h) (Or.inl ⟨by rfl, ?yq10⟩) hS ?_
      case yq10 => (intro wz hSw; (try dsimp only at hSw); go_simp; (try with_reducible rfl))
      try simp only [Act.put, List.setIfInBounds_toArray, List.set_cons_zero, List.set_cons_succ]
      refine anyT_take (i := 11) (v := ?vq11) rfl (by kernel_rfl) (by kernel_rfl) (by kernel_rfl) (by kernel_rfl) (by decide) (fun _ _ _ h => h) (Or.inl ⟨by rfl, ?yq11⟩) hS ?_
      case yq11 => (intro wz hSw; (try dsimp only at hSw); go_simp; (try with_reducible rfl))
      try simp only [Act.put, List.setIfInBounds_toArray, List.set_cons_zero, List.set_cons_succ]
      refine anyT_take (i := 12) (v := ?vq12) rfl (by kernel_rfl) (by kernel_rfl) (by kernel_rfl) (by kernel_rfl) (by decide) (fun _ _ _ h => h) (Or.inl ⟨by rfl, ?yq12⟩) hS ?_
      case yq12 => (intro wz hSw; (try dsimp only at hSw); go_simp; (try with_reducible rfl))
      try simp only [Act.put, List.setIfInBounds_toArray, List.set_cons_zero, List.set_cons_succ]
      refine anyT_take (i := 13) (v := ?vq13) rfl (by kernel_rfl) (by kernel_rfl) (by kernel_rfl) (by kernel_rfl) (by decide) (fun _ _ _ h => h) (Or.inl ⟨by rfl, ?yq13⟩) hS ?_
      case yq13 => (intro wz hSw; (try dsimp only at hSw); go_simp; (try with_reducible rfl))
      try simp only [Act.put, List.setIfInBounds_toArray, List.set_cons_zero, List.set_cons_succ]
      refine anyT_one (i := 14) (by kernel_rfl) rfl (fun K hK => ?_)
      go_simp
      go_at_call 75
      refine (HCall.out _ (by repeat (first | exact Below.refl _ _ | refine Below.drew ?_))).mono ?_
      rintro r v1 ⟨ua, un, uc, rs, rfl, HC1, n0, n2, n3, n4, n5⟩
      refine hK.out _ _ (.inr ⟨n0, n2, n3, n4⟩) ?_
      clear hK
      try simp only [Act.put, List.setIfInBounds_toArray, List.set_cons_zero, List.set_cons_succ]
      refine anyT_take (i := 15) (v := ?vq15) rfl (by kernel_rfl) (by kernel_rfl) (by kernel_rfl) (by kernel_rfl) (by decide) (fun _ _ _ h => h) (Or.inl ⟨by rfl, ?yq15⟩) (show _ ∧ _ from ⟨n0, n2, n3, n4⟩) ?_
      case yq15 => (intro wz hSw; (try dsimp only at hSw); go_simp; (try with_reducible rfl))
      try simp only [Act.put, List.setIfInBounds_toArray, List.set_cons_zero, List.set_cons_succ]
      obtain ⟨p0, p1, p2, p3, p4⟩ := HK.out (v1.alloc (Obj.cells #[.string t.lo, .slice ua un uc] 133)) ((HC1.out.2.alloc HC1.out.2.size _).mono (by omega))
      refine anyT_one (i := 16) (by kernel_rfl) rfl (fun K hK => ?_)
      go_simp
      refine hK.out _ _ (.inr ⟨p0, p2, p3, p4⟩) ?_
      clear hK
      try simp only [Act.put, List.setIfInBounds_toArray, List.set_cons_zero, List.set_cons_succ]
      refine anyT_one (i := 17) (by kernel_rfl) rfl (fun K hK => ?_)
      refine step_append_tabO _ (by rfl) _ _ (by rfl) W0.heap.size V (xs.map Tx.pr) v1.heap.size 0 1 1 [(t.lo, .slice ua un uc)] (by rfl) (by rfl) rfl ?_ ?_ ?_ ?_ ?_ ?_
      · rw [List.length_map, HR.out.1]; exact World.ownsRow.alloc (row_below HR.out.2.2.1 HC1.out.2) _
      · exact two_cells_new
      · intro p hp; simp at hp; subst hp; rfl
      · rw [List.length_map, HR.out.1]; simp; omega
      · have := HC1.out.2.size; simp; omega
      intro v' w2 hA2
      obtain ⟨g3, cp3, rfl⟩ := hA2.form (.inr (by simp))
      obtain ⟨m0, m1, m2, m3, m4⟩ := HApp.out v1 w2 ua un uc g3 _ cp3 HC1.out.2 hA2
      have HA2 : Hid (AppT (v1.alloc (Obj.cells #[.string t.lo, .slice ua un uc] 133)) w2 W0.heap.size V (.slice (some ⟨g3, 0, none⟩) (xs.map Tx.pr ++ [(t.lo, Value.slice ua un uc)]).length cp3) (xs.map Tx.pr) [(t.lo, .slice ua un uc)]) := hA2
      clear hA2
      have hln : (xs.map Tx.pr ++ [(t.lo, Value.slice ua un uc)]).length = k + 1 := by rw [List.length_append, List.length_map, HR.out.1]; rfl
      rw [hln] at HA2 ⊢
      refine hK.out _ _ (.inr ⟨m0, m2, m3, m4⟩) ?_
      clear hK
      try simp only [Act.put, List.setIfInBounds_toArray, List.set_cons_zero, List.set_cons_succ]
      refine anyT_take (i := 18) (v := ?vq18) rfl (by kernel_rfl) (by kernel_rfl) (by kernel_rfl) (by kernel_rfl) (by decide) (fun _ _ _ h => h) (Or.inl ⟨by rfl, ?yq18⟩) (show _ ∧ _ from ⟨m0, m2, m3, m4⟩) ?_
      case yq18 => (intro wz hSw; (try dsimp only at hSw); go_simp; (try with_reducible rfl))
      try simp only [Act.put, List.setIfInBounds_toArray, List.set_cons_zero, List.set_cons_succ]
      refine anyT_one (i := 19) (by kernel_rfl) rfl (fun K hK => ?_)
      go_simp
      refine hK.out _ _ (.inl rfl) ?_
      clear hK
      try simp only [Act.put, List.setIfInBounds_toArray, List.set_cons_zero, List.set_cons_succ]
      refine anyT_done (by kernel_rfl) ?_
      have HN : Hid (∃ xs' : List Tx, xs'.length = k + 1 ∧ xs'.map Tx.tb = (ts.take (k + 1)).map Tm.tb ∧ (w2.setCell ⟨w.heap.size + 1 + 1, 0, none⟩ (.slice (some ⟨g3, 0, none⟩) (k + 1) cp3)).ownsRow W0.heap.size 133 2 (.slice (some ⟨g3, 0, none⟩) (k + 1) cp3) (k + 1) (cellsP (xs'.map Tx.pr)) ∧ OwnTs (w2.setCell ⟨w.heap.size + 1 + 1, 0, none⟩ (.slice (some ⟨g3, 0, none⟩) (k + 1) cp3)) W0.heap.size xs') := by
        obtain ⟨q1, q2, q3, q4⟩ := HR.out
        have hA := HA2.out
        have hb1 := HC1.out.2
        have hbz : Below v1.heap.size v1 (v1.alloc (Obj.cells #[.string t.lo, .slice ua un uc] 133)) := (Below.refl _ _).alloc (Nat.le_refl _) _
        have hrow1 := World.ownsRow.alloc (row_below q3 hb1) (Obj.cells #[.string t.lo, .slice ua un uc] 133)
        have hC := HC1.out.1
        have ht1 : OwnTs v1 W0.heap.size (xs ++ [⟨t.lo, .slice ua un uc, rs⟩]) := (q4.below hb1).snoc (hC.row.mono hsz) (fun r hr => (hC.ents r hr).mono hsz)
        have ht2 : OwnTs w2 W0.heap.size (xs ++ [⟨t.lo, .slice ua un uc, rs⟩]) := (ht1.below hbz).grown hrow1 hA.grown
        refine ⟨xs ++ [⟨t.lo, .slice ua un uc, rs⟩], by simp [q1], ?_, ?_, ht2.set _ _ _ (by omega)⟩
        · rw [List.take_add_one, HD.out.1, List.map_append, List.map_append, q2]
          simp [Tx.tb, Tm.tb, hC.same]
        · have h5 := hA.row
          rw [hln] at h5
          rw [List.map_append]
          exact row_set h5 _ _ _ (by omega)
      have hb4 : Below Wa.heap.size Wa (w2.setCell ⟨w.heap.size + 1 + 1, 0, none⟩ (.slice (some ⟨g3, 0, none⟩) (k + 1) cp3)) := by
        have hb1 := HC1.out.2
        have s1 := hb1.size
        have hb2 : Below W0.heap.size wr w2 := ((hb1.mono (by omega)).alloc (by omega) _).grown HA2.out.grown (by simp; omega) (fun j hj => row_blk HR.out.2.2.1 j hj)
        exact (hb.trans (hb2.mono (by omega))).setCell (by show Wa.heap.size ≤ w.heap.size + 1 + 1; omega) _
      have hsz4 : W0.heap.size ≤ (w2.setCell ⟨w.heap.size + 1 + 1, 0, none⟩ (.slice (some ⟨g3, 0, none⟩) (k + 1) cp3)).heap.size := by
        have s1 := HC1.out.2.size
        have s2 := HA2.out.grown.size
        simp at s2 ⊢
        omega
      have m5 : (w2.setCell ⟨w.heap.size + 1 + 1, 0, none⟩ (.slice (some ⟨g3, 0, none⟩) (k + 1) cp3)).cell? ⟨w.heap.size + 1 + 1, 0, none⟩ = some (.slice (some ⟨g3, 0, none⟩) (k + 1) cp3) := by simp [go_sem, m0]
      have m6 : (w2.setCell ⟨w.heap.size + 1 + 1, 0, none⟩ (.slice (some ⟨g3, 0, none⟩) (k + 1) cp3)).frozen? ⟨w.heap.size + 1 + 1, 0, none⟩ = false := by simp [go_sem, m1]
      go_wp2_with fail
      go_roundw
      case rel =>
        go_light
        obtain ⟨xs', a1, a2, a3, a4⟩ := HN.out
        exact ⟨k + 1, _, xs', by omega, by go_num, a1, a2, m5, m6, a3, a4, hb4, hsz4⟩
      case measure => go_light; simp [intOf]; omega
    · have zk : ¬ (k : Int) < (ts.length : Int) := by omega
      have HF : Hid (OwnSt (wr.setCell ⟨w.heap.size + 1, 0, none⟩ V) w.heap.size V xs ∧ xs.map Tx.tb = ts.map Tm.tb ∧ Below w.heap.size w (wr.setCell ⟨w.heap.size + 1, 0, none⟩ V)) := by
        obtain ⟨q1, q2, q3, q4⟩ := HR.out
        rw [List.take_of_length_le (by omega)] at q2
        have hq := row_set q3 (w.heap.size + 1) 0 V (by omega)
        have ht := q4.set (w.heap.size + 1) 0 V (by omega)
        refine ⟨⟨?_, fun t ht' => (ht.runs t ht').mono (by omega), fun t ht' r hr => (ht.ents t ht' r hr).mono (by omega)⟩, q2, ((hba.trans (hb.mono (by omega))).setCell (by show w.heap.size ≤ w.heap.size + 1; omega) _)⟩
        exact ownTRow_of (row_mono hq (by omega)) (by rw [q1])
      have hVs : ∃ va vn vc, V = .slice va vn vc := by
        rcases HR.out.2.2.1.2 with ⟨q, _⟩ | ⟨g2, cp, cur, q, _⟩ <;> exact ⟨_, _, _, q⟩
      obtain ⟨va, vn, vc, rfl⟩ := hVs
      go_wp2_with fail
      refine bodyPost_ret (v := .agg #[.slice va vn vc]) (by simp [results, Try.results73, go_sem, d1]) rfl ⟨_, xs, rfl, HF.out.1, HF.out.2.1, HF.out.2.2⟩
end Go.Proofs.Ytlgeffinhbodeae
