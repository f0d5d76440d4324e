import Derived.Deep.DeepCutAuto
import Derived.Deep.RegionWith
import Derived.Test.YtjphalbjimggcaePkAK
import Derived.Test.YtjphalbjimggcaePkAL
import Derived.Test.YtjphalbjimggcaeQCel
import Derived.Test.YtjphalbjimggcaePkAB
/-
  The law FnRuns: the loop that cuts the writes into runs.
-/
namespace Go.Proofs.Ytjphalbjimggcae
open Go.ChangeShapes Go.WideShapes Go.ChangeAt Go.RowKit Go.Deep
set_option linter.unusedVariables false
set_option linter.unusedSimpArgs false
set_option maxRecDepth 100000

/-- The loop of the cuts: the first 'm' writes lie in the runs. -/
structure KInv (w0 : World) (ws : List Ent) (m k g cp : Nat) (l : List Rm) (wr : World) : Prop where
  row : OwnW wr w0.heap.size g cp l
  ats : ∀ r ∈ l, r.at wr ∧ w0.heap.size ≤ r.b ∧ ¬ r.b = g
  ok : okM l
  good : ∀ es ∈ esM l, GoodR es
  cuts : Cuts (ws.take m) (esM l)
  below : Below w0.heap.size w0 wr
  ka : k ≤ m
  al : m ≤ ws.length
  cnt : l.length ≤ m
theorem KInv.rms {w0 : World} {ws : List Ent} {m k g cp : Nat} {l : List Rm} {wr : World} (h : KInv w0 ws m k g cp l wr) : RmsAt wr g 0 l := by
  intro i r hr
  rw [Nat.zero_add]
  exact ⟨h.row.cell hr, (h.ats r (List.mem_of_getElem? hr)).1⟩
theorem KInv.call {w0 : World} {ws : List Ent} {m k g cp : Nat} {l : List Rm} {wr w1 : World} (h : KInv w0 ws m k g cp l wr) (hb : Below wr.heap.size wr w1) : KInv w0 ws m k g cp l w1 := by
  have hg := h.row.lt
  have hs := h.below.size
  exact ⟨h.row.chg (Chg.of_below hb) (S := fun _ => False) (fun q => q), fun r hr => ⟨(h.ats r hr).1.chg (Chg.of_below hb) (S := fun _ => False) (fun q => q), (h.ats r hr).2⟩, h.ok, h.good, h.cuts, h.below.trans (hb.mono hs), h.ka, h.al, h.cnt⟩
theorem goodW_piece {ws : List Ent} (h : GoodW ws) (m j : Nat) : GoodW ((ws.drop m).take j) :=
  ⟨Nat.le_trans (by simp; omega) h.1, fun e he => h.2 e (List.mem_of_mem_drop (List.mem_of_mem_take he))⟩
theorem KInv.step {w0 wr w3 W5 w6 : World} {ws R : List Ent} {m k g cp g2 cp2 g' cp' j : Nat} {l : List Rm} (h : KInv w0 ws m k g cp l wr) (hg : GoodW ws) (hok : ∀ e ∈ ws, e.ok) (hj : 1 ≤ j) (hl : m + j ≤ ws.length)
    (hO2 : OwnE w3 wr.heap.size g2 cp2 R) (hb3 : Below wr.heap.size wr w3) (hK : Kept ((ws.drop m).take j) ((ws.drop m).take j).length R) (hb5 : Below w3.heap.size w3 W5) (hz5 : W5.heap.size = w3.heap.size + 1)
    (hO' : OwnW w6 w0.heap.size g' cp' (⟨g2, 0, cp2, R⟩ :: l)) (hgr : W5.grownBy w6 (some w3.heap.size)) (hat : g' = w3.heap.size ∨ g' = W5.heap.size) : KInv w0 ws (m + j) (k + 1) g' cp' (⟨g2, 0, cp2, R⟩ :: l) w6 := by
  have hcg : Chg (fun k => k = w3.heap.size) W5 w6 := Chg.of_grown hgr (fun k hk => by cases hk; rfl)
  have s0 := h.below.size
  have s3 := hb3.size
  have s6 := hcg.size
  have hg2 := hO2.lt
  have hcap : R.length ≤ cp2 ∧ cp2 ≤ maxLen := by
    rcases hO2.2 with ⟨h0, _⟩ | ⟨g', cap', cur, hv, _, _, hn, hcap, _, _⟩
    · cases h0
    · simp only [Value.slice.injEq, Option.some.injEq, Addr.mk.injEq, and_true, true_and] at hv
      obtain ⟨rfl, rfl⟩ := hv
      exact ⟨hn, hcap⟩
  have hka := h.ka
  have hcnt := h.cnt
  refine ⟨hO', ?_, ?_, ?_, ?_, ?_, by omega, hl, by simp; omega⟩
  · intro r hr
    rcases List.mem_cons.1 hr with rfl | hr
    · have h1 : (⟨g2, 0, cp2, R⟩ : Rm).at w3 := ⟨hO2.at, hg2.2, hcap.1, hcap.2⟩
      exact ⟨(h1.chg (Chg.of_below hb5) (S := fun _ => False) (fun q => q)).chg hcg (by show ¬ g2 = w3.heap.size; omega), by show w0.heap.size ≤ g2; omega, by show ¬ g2 = g'; omega⟩
    · obtain ⟨h1, h2, h3⟩ := h.ats r hr
      have hlt := h1.lt
      exact ⟨((h1.chg (Chg.of_below hb3) (S := fun _ => False) (fun q => q)).chg (Chg.of_below hb5) (S := fun _ => False) (fun q => q)).chg hcg (by show ¬ r.b = w3.heap.size; omega), h2, by omega⟩
  · intro r hr e he
    rcases List.mem_cons.1 hr with rfl | hr
    · exact hok e (List.mem_of_mem_drop (List.mem_of_mem_take (kept_sub hK e he)))
    · exact h.ok r hr e he
  · intro es he
    rcases List.mem_cons.1 he with rfl | he
    · exact kept_good (goodW_piece hg m j) hK (kept_len hK)
    · exact h.good es he
  · rw [List.take_add]
    exact .cut h.cuts hK
  · exact ((h.below.trans (hb3.mono s0)).trans (hb5.mono (by omega))).grown hgr (by omega) (fun j hj => by cases hj; omega)
theorem BytesIn.below {w w' : World} {v : Value} {n : Nat} (h : BytesIn w v n) (hb : Below w.heap.size w w') : BytesIn w' v n := by
  refine ⟨h.1, ?_⟩
  rcases h.2 with h | ⟨b, off, cap, rfl, hlt, hc⟩
  · exact .inl h
  · refine .inr ⟨b, off, cap, rfl, by have := hb.size; omega, fun k hk => ?_⟩
    obtain ⟨x, h1, h2⟩ := hc k hk
    exact ⟨x, by rw [hb.cell (p := ⟨b, off + k, none⟩) hlt]; exact h1, h2⟩
/-- What impl.BuildRun and impl.Replay answer. -/
def BuildC : Prop := ∀ (b off cap : Nat) (ws : List Ent) (w : World), EntsAt w b off ws → (∀ e ∈ ws, e.ok) → b < w.heap.size → ws.length ≤ cap → cap ≤ maxLen → ws.length ≤ 1048576 →
    Calls Try.prog 16 #[.slice (some ⟨b, off, none⟩) ws.length cap] w fun r w' =>
      ∃ (a : Option Addr) (n c : Nat) (R : List Ent), r = .returned (.agg #[.slice a n c]) ∧ OwnU w' w.heap.size (.slice a n c) R ∧ RunOf ws R ∧ Below w.heap.size w w'
def ReplayC : Prop := ∀ (b off cap : Nat) (ws : List Ent) (w : World), EntsAt w b off ws → (∀ e ∈ ws, e.ok) → b < w.heap.size → ws.length ≤ cap → cap ≤ maxLen → ws.length ≤ 1048576 →
    Calls Try.prog 15 #[.slice (some ⟨b, off, none⟩) ws.length cap] w fun r w' =>
      ∃ (g cp : Nat) (R : List Ent), r = .returned (.slice (some ⟨g, 0, none⟩) (puts R).length cp) ∧ OwnC w' w.heap.size g cp (puts R) ∧ RunOf ws R ∧ Below w.heap.size w w'
end Go.Proofs.Ytjphalbjimggcae

/-
  laws.lwCells.
-/
namespace Go.Proofs.Ytjphalbjimggcae
open Go.ChangeShapes Go.WideShapes Go.ChangeAt Go.RowKit Go.Deep
set_option linter.unusedVariables false
set_option linter.unusedSimpArgs false
set_option maxRecDepth 100000

set_option maxHeartbeats 1000000 in
theorem lwCells_same (b off cap b' off' cap' : Nat) (es : List Ent) (w : World) (hE : CelsAt w b off es) (hE' : CelsAt w b' off' es) (hB : b < w.heap.size) (hB' : b' < w.heap.size) (hlen : es.length ≤ maxLen) :
    Calls Try.prog 10 #[.slice (some ⟨b, off, none⟩) es.length cap, .slice (some ⟨b', off', none⟩) es.length cap'] w fun e w' => e = .returned (.bool true) ∧ Below w.heap.size w w' := by
  have HE : Hid (CelsAt w b off es ∧ CelsAt w b' off' es) := ⟨hE, hE'⟩
  clear hE hE'
  unfold maxLen at hlen
  go_enter Try.func10, Try.ntmps10
  go_wp2
  go_loopw [5] (fun i wr => ∃ (k : Nat), k ≤ es.length ∧ i = .int .i64 k ∧ Below w.heap.size w wr) (fun i _ => es.length - (intOf i).toNat)
  case atStart => exact ⟨0, Nat.zero_le _, rfl, Below.refl _ _⟩
  case round =>
    obtain ⟨k, hk, rfl, hb⟩ := hrel
    have hs2 := hb.size
    by_cases hlt : k < es.length
    · obtain ⟨e, he⟩ : ∃ e, es[k]? = some e := ⟨_, List.getElem?_eq_getElem hlt⟩
      obtain ⟨c0, c1, c2, c3, c4⟩ := HE.out.1.below hb hB k e he
      obtain ⟨d0, d1, d2, d3, d4⟩ := HE.out.2.below hb hB' k e he
      clear he
      go_upto_region 6 with fail
      go_cut [25] (fun s wx => s = .bool false ∧ Below w.heap.size w wx)
      case first =>
        have z2 : (k : Int) < (es.length : Int) := by omega
        go_region
        all_goals go_wp2_with fail
        all_goals go_meet
        all_goals exact ⟨rfl, hb.drew⟩
      case rest =>
      obtain ⟨rfl, h3⟩ := hcut
      clear c0 c1 c2 c3 c4 d0 d1 d2 d3 d4
      go_wp2_with fail
      go_roundw
      case rel => exact ⟨k + 1, by omega, by go_num, h3⟩
      case measure => simp [intOf]; omega
    · go_wp2_with fail
      go_ret
      exact ⟨rfl, hb⟩
theorem lwCells_own {w : World} {base g cp base' g' cp' : Nat} {es : List Ent} (h : OwnC w base g cp es) (h' : OwnC w base' g' cp' es) :
    Calls Try.prog 10 #[.slice (some ⟨g, 0, none⟩) es.length cp, .slice (some ⟨g', 0, none⟩) es.length cp'] w fun e w' => e = .returned (.bool true) ∧ Below w.heap.size w w' :=
  lwCells_same g 0 cp g' 0 cp' es w h.at h'.at h.lt.2 h'.lt.2 (Nat.le_trans h.caps.1 h.caps.2)
end Go.Proofs.Ytjphalbjimggcae

/-
  laws.lwAt, laws.lwInRange.
-/
namespace Go.Proofs.Ytjphalbjimggcae
open Go.ChangeShapes Go.WideShapes Go.ChangeAt Go.RowKit Go.Deep
set_option linter.unusedVariables false
set_option linter.unusedSimpArgs false
set_option maxRecDepth 100000

set_option maxHeartbeats 1000000 in
theorem lwAt_core (v : Value) (n k : Nat) (w : World) (h : BytesIn w v n) (hk : k ≤ 1000) :
    Calls Try.prog 17 #[v, .int .i64 k] w fun e w' => ∃ x : Int, e = .returned (.int .i64 x) ∧ 0 ≤ x ∧ x < 256 ∧ w' = w := by
  by_cases hlt : k < n
  · obtain ⟨hn, hh⟩ := h
    rcases hh with ⟨_, _, _, rfl⟩ | ⟨b, off, cap, rfl, hb, hc⟩
    · omega
    obtain ⟨x, hx, hx0, hx1⟩ := hc k hlt
    have z : (k : Int) < (n : Int) := by omega
    clear hc
    go_enter Try.func17, Try.ntmps17
    go_wp2_with fail
    go_ret
    exact ⟨x, rfl, hx0, hx1, rfl⟩
  · obtain ⟨a, cap, rfl⟩ := h.slice
    have z : ¬ (k : Int) < (n : Int) := by omega
    clear h
    obtain ⟨y, hy⟩ : ∃ y : Int, ((k : Int) * 37 + 11) % 256 = y := ⟨_, rfl⟩
    have hy0 : 0 ≤ y ∧ y < 256 := by omega
    go_enter Try.func17, Try.ntmps17
    go_wp2_with fail
    go_ret
    exact ⟨y, rfl, hy0.1, hy0.2, rfl⟩

def inTo (lo : ByteArray) (hh : Bool) (hi : ByteArray) (L : List Ent) (k : Nat) : List Ent := (L.take k).filter fun x => inR lo hh hi x.row
theorem inTo_succ {lo : ByteArray} {hh : Bool} {hi : ByteArray} {L : List Ent} {k : Nat} {x : Ent} (h : L[k]? = some x) : inTo lo hh hi L (k + 1) = inTo lo hh hi L k ++ (if inR lo hh hi x.row = true then [x] else []) := by
  unfold inTo
  rw [List.take_add_one, h]
  cases hq : inR lo hh hi x.row <;> simp [hq]
theorem inTo_len {lo : ByteArray} {hh : Bool} {hi : ByteArray} {L : List Ent} {k : Nat} : (inTo lo hh hi L k).length ≤ L.length := Nat.le_trans (List.length_filter_le _ _) (by simp; omega)

set_option maxHeartbeats 4000000 in
theorem lwInRange_core (b off cap : Nat) (L : List Ent) (lo hi : ByteArray) (hh : Bool) (w : World) (hC : CelsAt w b off L) (hB : b < w.heap.size) (hlen : L.length ≤ 1000000) :
    Calls Try.prog 18 #[.slice (some ⟨b, off, none⟩) L.length cap, .agg #[.string lo, .bool hh, .string hi]] w fun r w' =>
      ∃ (g cp : Nat), r = .returned (.slice (some ⟨g, 0, none⟩) (L.filter fun x => inR lo hh hi x.row).length cp) ∧ OwnC w' w.heap.size g cp (L.filter fun x => inR lo hh hi x.row) ∧ Below w.heap.size w w' := by
  obtain ⟨Wa, hWa⟩ : ∃ Wa : World, Wa = w.alloc (Obj.cells #[.string lo, .bool hh, .string hi] 25) := ⟨_, rfl⟩
  have hba : Below w.heap.size w Wa := by rw [hWa]; exact (Below.refl _ _).alloc (Nat.le_refl _) _
  have hza : Wa.heap.size = w.heap.size + 1 := by rw [hWa]; simp
  obtain ⟨Wb, hWb⟩ : ∃ Wb : World, Wb = Wa.alloc (Obj.cells #[] 71) := ⟨_, rfl⟩
  have hbb : Below Wa.heap.size Wa Wb := by rw [hWb]; exact (Below.refl _ _).alloc (Nat.le_refl _) _
  have hzb : Wb.heap.size = w.heap.size + 1 + 1 := by rw [hWb]; simp [hza]
  have HO : Hid (OwnC Wb (w.heap.size + 1) (w.heap.size + 1) 0 [] ∧ Below w.heap.size w Wb ∧ Wb.cell? ⟨w.heap.size, 0, none⟩ = some (.string lo) ∧ Wb.cell? ⟨w.heap.size, 1, none⟩ = some (.bool hh) ∧ Wb.cell? ⟨w.heap.size, 2, none⟩ = some (.string hi)) := by
    refine ⟨by rw [hWb, ← hza]; exact ownC_new Wa, hba.trans (hbb.mono (by omega)), ?_, ?_, ?_⟩
    · rw [hbb.cell (p := ⟨w.heap.size, 0, none⟩) (by show w.heap.size < Wa.heap.size; omega), hWa]; simp
    · rw [hbb.cell (p := ⟨w.heap.size, 1, none⟩) (by show w.heap.size < Wa.heap.size; omega), hWa]; simp
    · rw [hbb.cell (p := ⟨w.heap.size, 2, none⟩) (by show w.heap.size < Wa.heap.size; omega), hWa]; simp
  have HC : Hid (CelsAt w b off L) := hC
  clear hC
  go_enter Try.func18, Try.ntmps18
  go_wp2_with fail
  rw [← hWa, ← hWb]
  clear hWa hWb
  go_loopw [5, 6] (fun o i wr => ∃ (k g cp : Nat), k ≤ L.length ∧ i = .int .i64 k ∧ o = .slice (some ⟨g, 0, none⟩) (inTo lo hh hi L k).length cp ∧ OwnC wr (w.heap.size + 1) g cp (inTo lo hh hi L k) ∧ Below (w.heap.size + 1) Wb wr) (fun _ i _ => L.length - (intOf i).toNat)
  case atStart => exact ⟨0, w.heap.size + 1, 0, Nat.zero_le _, rfl, rfl, by simpa [inTo] using HO.out.1, Below.refl _ _⟩
  case round =>
    obtain ⟨k, g, cp, hk, rfl, rfl, hOk, hb⟩ := hrel
    have hs := hb.size
    have hg := hOk.lt
    have HOk : Hid (OwnC wr (w.heap.size + 1) g cp (inTo lo hh hi L k)) := hOk
    clear hOk
    have kb : Below w.heap.size w wr := HO.out.2.1.trans (hb.mono (by omega))
    by_cases hlt : k < L.length
    · obtain ⟨x, hx⟩ : ∃ x, L[k]? = some x := ⟨_, List.getElem?_eq_getElem hlt⟩
      have HX : Hid (inTo lo hh hi L (k + 1) = inTo lo hh hi L k ++ (if inR lo hh hi x.row = true then [x] else [])) := inTo_succ hx
      have HXk : Hid (L[k]? = some x) := hx
      obtain ⟨c0, c1, c2, c3, c4⟩ := HC.out.below kb hB k x hx
      have r0 : wr.cell? ⟨w.heap.size, 0, none⟩ = some (.string lo) := by rw [hb.cell (p := ⟨w.heap.size, 0, none⟩) (by show w.heap.size < w.heap.size + 1; omega)]; exact HO.out.2.2.1
      have r1 : wr.cell? ⟨w.heap.size, 1, none⟩ = some (.bool hh) := by rw [hb.cell (p := ⟨w.heap.size, 1, none⟩) (by show w.heap.size < w.heap.size + 1; omega)]; exact HO.out.2.2.2.1
      have r2 : wr.cell? ⟨w.heap.size, 2, none⟩ = some (.string hi) := by rw [hb.cell (p := ⟨w.heap.size, 2, none⟩) (by show w.heap.size < w.heap.size + 1; omega)]; exact HO.out.2.2.2.2
      clear hx
      have z : (k : Int) < (L.length : Int) := by omega
      go_upto_region 5 with fail
      go_cut [36] (fun s wx => s = .bool (inR lo hh hi x.row) ∧ Below wr.heap.size wr wx)
      case first =>
        cases hb1 : Op.bytesLess x.row.toList lo.toList
        · cases hh
          · go_quiet (fail)
            go_wp2_with fail
            go_meet
            exact ⟨by simp [inR, hb1], below_drewN (Below.refl _ _) _⟩
          · go_quiet (fail)
            go_wp2_with fail
            go_meet
            exact ⟨by simp [inR, hb1], below_drewN (Below.refl _ _) _⟩
        · go_quiet (fail)
          go_wp2_with fail
          go_meet
          exact ⟨by simp [inR, hb1], below_drewN (Below.refl _ _) _⟩
      case rest =>
        obtain ⟨rfl, hbc⟩ := hcut
        have hsc := hbc.size
        have hOc := HOk.out.below hbc hg.2
        have kc : Below (w.heap.size + 1) Wb wc := hb.trans (hbc.mono (by omega))
        have kw : Below w.heap.size w wc := kb.trans (hbc.mono (by omega))
        clear c0 c1 c2 c3 c4 r0 r1 r2
        cases hq : inR lo hh hi x.row
        · have HN : Hid (OwnC wc (w.heap.size + 1) g cp (inTo lo hh hi L (k + 1)) ∧ inTo lo hh hi L (k + 1) = inTo lo hh hi L k) := by
            have h1 : inTo lo hh hi L (k + 1) = inTo lo hh hi L k := by rw [HX.out, hq]; simp
            exact ⟨by rw [h1]; exact hOc, h1⟩
          clear hOc
          go_wp2_with fail
          go_roundw
          case rel => exact ⟨k + 1, g, cp, by omega, by go_num, by rw [HN.out.2], HN.out.1, kc⟩
          case measure => go_light; simp [intOf]; omega
        · have HN : Hid (inTo lo hh hi L (k + 1) = inTo lo hh hi L k ++ [x]) := by
            show inTo lo hh hi L (k + 1) = inTo lo hh hi L k ++ [x]
            rw [HX.out, hq]; simp
          have HO2 : Hid (OwnC wc (w.heap.size + 1) g cp (inTo lo hh hi L k) ∧ (inTo lo hh hi L k).length ≤ L.length) := ⟨hOc, inTo_len⟩
          obtain ⟨c0, c1, c2, c3, c4⟩ := HC.out.below kw hB k x HXk.out
          clear hOc
          obtain ⟨m, hm⟩ : ∃ m, (inTo lo hh hi L k).length = m := ⟨_, rfl⟩
          rw [hm]
          have HM : Hid (m = (inTo lo hh hi L k).length) := hm.symm
          clear hm
          go_wp2_with (at_builtin; refine wpList_append_cel _ rfl _ _ rfl (w.heap.size + 1) g cp _ _ (inTo lo hh hi L k) x rfl rfl HM.out ?hO ?hc ?hl ?hb ?_)
          case hO => exact HO2.out.1.below ((Below.refl _ _).alloc (Nat.le_refl _) _) (by omega)
          case hc => exact cel_new wc x
          case hl => have := HO2.out.2; omega
          case hb => simp; omega
          intro g' cp' w' hO' hgr
          have HN2 : Hid (OwnC w' (w.heap.size + 1) g' cp' (inTo lo hh hi L (k + 1))) := by show OwnC w' (w.heap.size + 1) g' cp' (inTo lo hh hi L (k + 1)); rw [HN.out]; exact hO'
          have k2 : Below (w.heap.size + 1) Wb w' := (kc.alloc (by omega) _).grown hgr (by simp; omega) (fun j hj => by cases hj; exact hg.1)
          clear hO' hgr c0 c1 c2 c3 c4
          go_wp2_with fail
          go_roundw
          case rel => exact ⟨k + 1, g', cp', by omega, by go_num, by rw [HN.out, HM.out]; simp, HN2.out, k2⟩
          case measure => go_light; simp [intOf]; omega
    · have HE : Hid (inTo lo hh hi L k = L.filter fun x => inR lo hh hi x.row) := by
        show inTo lo hh hi L k = _
        unfold inTo
        rw [List.take_of_length_le (by omega)]
      have HE2 : Hid (OwnC wr (w.heap.size + 1) g cp (L.filter fun x => inR lo hh hi x.row)) := by have := HOk.out; rw [HE.out] at this; exact this
      rw [HE.out]
      clear HOk
      go_wp2_with fail
      go_ret
      exact ⟨g, cp, rfl, OwnC.mono HE2.out (by omega), kb⟩
end Go.Proofs.Ytjphalbjimggcae

