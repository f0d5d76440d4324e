/-
  impl.CompactRuns.
-/
import Derived.Test.YtjphalbjimggcaeQCmpS
namespace Go.Proofs.Ytjphalbjimggcae
open Go.ChangeShapes Go.WideShapes Go.ChangeAt Go.RowKit Go.Deep
set_option linter.unusedVariables false
set_option linter.unusedSimpArgs false
set_option maxRecDepth 100000

set_option maxHeartbeats 4000000 in
theorem implCompact_core (b off cap : Nat) (l : List Rm) (w : World) (h : RmsAt w b off l) (ho : okM l) (hB : b < w.heap.size) (hn : l.length ≤ 1048576) :
    Calls Try.prog 7 #[.slice (some ⟨b, off, none⟩) l.length cap] w fun r w' =>
      ∃ (a : Option Addr) (n c : Nat) (R : List Ent), r = .returned (.agg #[.slice a n c]) ∧ OwnU w' w.heap.size (.slice a n c) R ∧ CmpOf (esM l) R ∧ Below w.heap.size w w' ∧ (a = none → ∃ L, MrgOf (esM l) (inR ⟨#[]⟩ false ⟨#[]⟩) L ∧ 10000 < L.length) := by
  obtain ⟨i, hi0, hz0, hz1, hz2⟩ := info_parts Try.infoEnt
  have HI : Hid (Try.prog.info? 73 = some i ∧ i.zero = some (.agg #[.string ⟨#[]⟩, .string ⟨#[]⟩, .string ⟨#[]⟩, .int .u64 0, .int .i64 0, .string ⟨#[]⟩]) ∧ i.size = 6 ∧ i.bytes = 80) := ⟨hi0, hz0, hz1, hz2⟩
  clear hi0 hz0 hz1 hz2
  obtain ⟨Wa, hWa⟩ : ∃ Wa : World, Wa = w.alloc (Obj.cells #[.slice none 0 0] 30) := ⟨_, rfl⟩
  have hba : Below w.heap.size w Wa := by rw [hWa]; exact (Below.refl _ _).alloc (Nat.le_refl _) _
  have hza : Wa.heap.size = w.heap.size + 1 := by rw [hWa]; simp
  have HRes : Hid (Wa.cell? ⟨w.heap.size, 0, none⟩ = some (.slice none 0 0) ∧ Wa.frozen? ⟨w.heap.size, 0, none⟩ = false) := by
    rw [hWa]
    exact ⟨by simp, World.ownsRow.frozenAt (World.ownsRow_lit (base := 0) (e := 30) (size := 1) w #[.slice none 0 0] 1 (Nat.zero_le _) (by decide) rfl) 0⟩
  have HO : Hid (RmsAt Wa b off l ∧ okM l) := ⟨h.below hba hB, ho⟩
  have hBa : b < Wa.heap.size := by omega
  clear h ho
  go_enter Try.func7, Try.ntmps7
  go_wp2_with fail
  rw [← hWa]
  clear hWa
  refine (implMerge_core b off cap l ⟨#[]⟩ ⟨#[]⟩ false _ HO.out.1 HO.out.2 hBa hn).mono ?_
  rintro e w1 ⟨gc, cc, L, rfl, hC1, hb1, hM⟩
  have s1 := hb1.size
  have k1 : Below w.heap.size w w1 := hba.trans (hb1.mono (by omega))
  have HC1 : Hid (OwnC w1 Wa.heap.size gc cc L ∧ MrgOf (esM l) (inR ⟨#[]⟩ false ⟨#[]⟩) L) := ⟨hC1, hM⟩
  have hgc := hC1.lt.2
  clear hC1 hM
  have r1 : w1.cell? ⟨w.heap.size, 0, none⟩ = some (.slice none 0 0) := by rw [hb1.cell (p := ⟨w.heap.size, 0, none⟩) (by show w.heap.size < Wa.heap.size; omega)]; exact HRes.out.1
  have f1 : w1.frozen? ⟨w.heap.size, 0, none⟩ = false := by rw [hb1.frozen (p := ⟨w.heap.size, 0, none⟩) (by show w.heap.size < Wa.heap.size; omega)]; exact HRes.out.2
  by_cases hbig : 10000 < L.length
  · have zb : (10000 : Int) < (L.length : Int) := by omega
    go_wp2_with fail
    refine bodyPost_ret (v := .agg #[.slice none 0 0]) (by simp [results, Try.results7, go_sem, World.cell?_setCell_same _ _ _ r1]) rfl ⟨none, 0, 0, [], rfl, .inl ⟨rfl, rfl⟩, ⟨L, HC1.out.2, .inl ⟨hbig, rfl⟩⟩, ?_, fun _ => ⟨L, HC1.out.2, hbig⟩⟩
    exact k1.setCell (Nat.le_refl _) _
  · have zb : ¬ (10000 : Int) < (L.length : Int) := by omega
    have HRs : Hid (w1.cell? ⟨w.heap.size, 0, none⟩ = some (.slice none 0 0) ∧ w1.frozen? ⟨w.heap.size, 0, none⟩ = false) := ⟨r1, f1⟩
    clear r1 f1
    go_wp2_with (at_make; refine wpList_make_own _ rfl _ _ 28 rfl w1.heap.size 73 i _ 6 Try.underlying28 HI.out.1 HI.out.2.1 HI.out.2.2.1 _ _ _ L.length rfl rfl ?_ ?hb ?hm ?hs ?_)
    case hb => rw [HI.out.2.2.2]; omega
    case hm => unfold maxLen; omega
    case hs => exact Nat.le_refl _
    · rfl
    intro w2 hown hgr
    have hb2 : Below w1.heap.size w1 w2 := (Below.refl _ _).grown hgr (Nat.le_refl _) (fun k hk => by cases hk)
    have HE2 : Hid (OwnE w2 w1.heap.size w1.heap.size L.length []) := hown
    clear hown hgr
    go_wp2_with fail
    go_loopw [4, 19] (fun o c wr => ∃ (m g5 cp5 : Nat), m ≤ L.length ∧ c = .int .i64 m ∧ o = .slice (some ⟨g5, 0, none⟩) m cp5 ∧ OwnE wr w1.heap.size g5 cp5 (putsTo L m) ∧ Below w1.heap.size w1 wr) (fun _ c _ => L.length - (intOf c).toNat)
    case atStart => exact ⟨0, _, _, Nat.zero_le _, rfl, rfl, HE2.out, hb2⟩
    case round =>
      obtain ⟨m, g5, cp5, hm, rfl, rfl, hE, hb⟩ := hrel
      have HE : Hid (OwnE wr w1.heap.size g5 cp5 (putsTo L m)) := hE
      have hg5 := hE.lt
      have hs := hb.size
      clear hE
      by_cases hlt : m < L.length
      · obtain ⟨x, hx⟩ : ∃ x, L[m]? = some x := ⟨_, List.getElem?_eq_getElem hlt⟩
        obtain ⟨c0, c1, c2, c3, c4⟩ := (HC1.out.1.below hb hgc).at m x hx
        simp only [Nat.zero_add, Nat.zero_mul] at c0 c1 c2 c3 c4
        have HX : Hid (putsTo L (m + 1) = putsTo L m ++ [putE x]) := putsTo_succ hx
        have HTM : Hid (m = (putsTo L m).length) := (putsTo_len hm).symm
        clear hx
        have zm : (m : Int) < (L.length : Int) := by omega
        obtain ⟨W3, hW3⟩ : ∃ W3 : World, W3 = wr.alloc (Obj.cells #[.string x.row, .string x.fam, .string x.qual, .int .u64 x.ts, .string x.val] 71) := ⟨_, rfl⟩
        have hb3 : Below wr.heap.size wr W3 := by rw [hW3]; exact (Below.refl _ _).alloc (Nat.le_refl _) _
        have hs3 := hb3.size
        go_wp2_with fail
        rw [← hW3]
        clear hW3 c0 c1 c2 c3 c4
        refine (implPut_any x _).mono ?_
        rintro e' w4 ⟨rfl, hb4⟩
        have hs4 := hb4.size
        have k4 : Below wr.heap.size wr w4 := hb3.trans (hb4.mono hs3)
        have HE4 : Hid (OwnE w4 w1.heap.size g5 cp5 (putsTo L m)) := HE.out.below k4 hg5.2
        have kb4 : Below w1.heap.size w1 w4 := hb.trans (k4.mono hs)
        clear hb3 hb4
        go_wp2_with (at_builtin; refine wpList_append_ent _ rfl _ _ rfl w1.heap.size g5 cp5 _ _ (putsTo L m) (putE x) rfl rfl HTM.out ?hO ?hc ?hl ?hb ?_)
        case hO => exact HE4.out.below ((Below.refl _ _).alloc (Nat.le_refl _) _) (by omega)
        case hc => exact ent_box w4 (putE x)
        case hl => rw [← HTM.out]; omega
        case hb => simp; omega
        intro g' cp' w' hO' hgr
        have HO' : Hid (OwnE w' w1.heap.size g' cp' (putsTo L (m + 1))) := by show OwnE w' w1.heap.size g' cp' (putsTo L (m + 1)); rw [HX.out]; exact hO'
        have hb' : Below w1.heap.size w1 w' := (kb4.alloc kb4.size _).grown hgr (by simp; omega) (fun j hj => by cases hj; omega)
        clear hO' hgr
        go_wp2_with fail
        go_roundw
        case rel => exact ⟨m + 1, g', cp', by omega, by go_num, rfl, HO'.out, hb'⟩
        case measure => go_light; simp [intOf]; omega
      · have HF : Hid (OwnE wr w1.heap.size g5 cp5 (L.map putE)) := by have := HE.out; rw [putsTo_all (by omega)] at this; exact this
        have HM : Hid (m = L.length) := by show m = L.length; omega
        have zm : ¬ (m : Int) < (L.length : Int) := by omega
        have r2 : wr.cell? ⟨w.heap.size, 0, none⟩ = some (.slice none 0 0) := by rw [hb.cell (p := ⟨w.heap.size, 0, none⟩) (by show w.heap.size < w1.heap.size; omega)]; exact HRs.out.1
        have f2 : wr.frozen? ⟨w.heap.size, 0, none⟩ = false := by rw [hb.frozen (p := ⟨w.heap.size, 0, none⟩) (by show w.heap.size < w1.heap.size; omega)]; exact HRs.out.2
        go_wp2_with fail
        refine bodyPost_ret (v := .agg #[.slice (some ⟨g5, 0, none⟩) m cp5]) (by simp [results, Try.results7, go_sem, World.cell?_setCell_same _ _ _ r2]) rfl ⟨some ⟨g5, 0, none⟩, m, cp5, rfl, L.map putE, .inr ⟨g5, cp5, by rw [HM.out]; simp, ?_⟩, ⟨L, HC1.out.2, .inr ⟨by omega, rfl⟩⟩, ?_, (fun q => by cases q)⟩
        · exact OwnE.mono (World.ownsRow.kept HF.out (grown_set wr w.heap.size 0 _) (.inr (fun q => by have h2 : g5 = w.heap.size := Option.some.inj q; omega))) (by omega)
        · exact (k1.trans (hb.mono (by omega))).setCell (Nat.le_refl _) _
theorem implCompact_own (base g : Nat) (l : List (Nat × List Ent)) (w : World) (h : OwnRuns w base g l) (ho : okL l) (hn : l.length ≤ 1048576) :
    Calls Try.prog 7 #[.slice (some ⟨g, 0, none⟩) l.length l.length] w fun r w' =>
      ∃ (a : Option Addr) (n c : Nat) (R : List Ent), r = .returned (.agg #[.slice a n c]) ∧ OwnU w' w.heap.size (.slice a n c) R ∧ CmpOf (l.map Prod.snd) R ∧ Below w.heap.size w w' := by
  have := implCompact_core g 0 l.length (rmsOf l) w h.at (okM_of ho) h.lt.2 (by rw [rmsOf_len]; exact hn)
  rw [rmsOf_len, esM_rms] at this
  refine this.mono ?_
  rintro e w' ⟨a, n, c, R, h1, h2, h3, h4, _⟩
  exact ⟨a, n, c, R, h1, h2, h3, h4⟩
end Go.Proofs.Ytjphalbjimggcae
