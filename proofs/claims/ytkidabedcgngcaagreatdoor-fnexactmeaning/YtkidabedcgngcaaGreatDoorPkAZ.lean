import Derived.Test.YtkidabedcgngcaaGreatDoorTie
import Derived.Test.YtkidabedcgngcaaGreatDoorCards
import Derived.ProofKit
import Derived.LaidMore
import Derived.OpenShut
import Derived.Lib.LaidTab
import Derived.Stop.Joined
import Derived.Test.YtkidabedcgngcaaGreatDoorPkAP
import Derived.Test.YtkidabedcgngcaaGreatDoorPkAA
import Derived.Test.YtkidabedcgngcaaGreatDoorPkAY
import Derived.Test.YtkidabedcgngcaaGreatDoorPkAE
/-
  Cells that come in: szCell, toCell, szCellS, toCellS; slices of cells opened.
-/
namespace Go.Proofs.YtkidabedcgngcaaGreatDoor
open Go.ChangeShapes Go.WideShapes Go.ChangeAt Go.RowKit Go.Deep
set_option linter.unusedVariables false
set_option linter.unusedSimpArgs false
set_option maxRecDepth 100000

set_option maxHeartbeats 400000 in
theorem szCell_core (r f q v : ByteArray) (t left : Int) (w : World) (hr : r.size ≤ maxLen) (hf : f.size ≤ maxLen) (hq : q.size ≤ maxLen) (hv : v.size ≤ maxLen) (h0 : 0 ≤ left) (h1 : left ≤ 2 ^ 40) :
    Calls Tryz.prog 23 #[.agg #[.string r, .string f, .string q, .int .u64 t, .string v], .int .i64 left] w fun e w' =>
      ∃ x, e = .returned (.int .i64 x) ∧ (x = -1 ∨ (0 ≤ x ∧ x + r.size + f.size + q.size + v.size = left)) ∧ Below w.heap.size w w' := by
  unfold maxLen at hr hf hq hv
  go_enter Tryz.func23, Tryz.ntmps23
  go_wp2
  · go_ret
    exact ⟨_, rfl, .inl rfl, (Below.refl _ _).alloc (Nat.le_refl _) _⟩
  · go_ret
    exact ⟨_, rfl, .inl rfl, (Below.refl _ _).alloc (Nat.le_refl _) _⟩
  · go_ret
    exact ⟨_, rfl, .inl rfl, (Below.refl _ _).alloc (Nat.le_refl _) _⟩
  · go_ret
    exact ⟨_, rfl, .inl rfl, (Below.refl _ _).alloc (Nat.le_refl _) _⟩
  · go_ret
    exact ⟨_, rfl, .inr ⟨by assumption, by omega⟩, (Below.refl _ _).alloc (Nat.le_refl _) _⟩

set_option maxHeartbeats 400000 in
theorem toCell_core (r f q v : ByteArray) (t : Int) (w : World) :
    Calls Tryz.prog 27 #[.agg #[.string r, .string f, .string q, .int .u64 t, .string v]] w fun e w' =>
      e = .returned (.agg #[.string r, .string f, .string q, .int .u64 t, .string v]) ∧ Below w.heap.size w w' := by
  go_enter Tryz.func27, Tryz.ntmps27
  go_wp2
  refine bodyPost_ret (v := .agg #[.string r, .string f, .string q, .int .u64 t, .string v]) (by simp [results, Tryz.results27, go_sem]) rfl ⟨rfl, ?_⟩
  exact (((Below.refl _ _).alloc (Nat.le_refl _) _).alloc (by simp) _).alloc (by simp; omega) _

theorem Tryz.cellsCel : Tryz.prog.cellsOf 51 = 5 := by kernel_rfl
theorem list5 {α : Type} {cs : List α} (h : cs.length = 5) : ∃ c0 c1 c2 c3 c4, cs = [c0, c1, c2, c3, c4] := by
  match cs, h with
  | [c0, c1, c2, c3, c4], _ => exact ⟨c0, c1, c2, c3, c4, rfl⟩
theorem cel_of_trod {H : Type} {enc : TypeId × Value → H} {w : World} {base : Nat} {spare : Nat → Bool} {held : Bool} {fuel : Nat} {cs : List Value} {x : DataW H × List MemPlace}
    (h : DataW.trod enc Tryz.prog w base spare held fuel 51 cs = some x) :
    ∃ e : Ent, e.ok ∧ cs = [.string e.row, .string e.fam, .string e.qual, .int .u64 e.ts, .string e.val] := by
  obtain ⟨xs, n, _, _, hl, hlen, hf⟩ := DataW.trod_struct Tryz.underlying51 h
  rw [Tryz.cellsCel] at hl
  obtain ⟨c0, c1, c2, c3, c5, rfl⟩ := list5 hl
  obtain ⟨x0, x1, x2, x3, x5, rfl⟩ := list5 (cs := xs) hlen
  have h0 := hf 0 _ rfl
  have h1 := hf 1 _ rfl
  have h2 := hf 2 _ rfl
  have h3 := hf 3 _ rfl
  have h5 := hf 4 _ rfl
  simp [Tryz.cellsStr, Tryz.cellsU64] at h0 h1 h2 h3 h5
  obtain ⟨a0, e0, _, b0⟩ := DataW.trod_string Tryz.underlying9 h0
  obtain ⟨a1, e1, _, b1⟩ := DataW.trod_string Tryz.underlying9 h1
  obtain ⟨a2, e2, _, b2⟩ := DataW.trod_string Tryz.underlying9 h2
  obtain ⟨a3, e3, _, b3⟩ := DataW.trod_int Tryz.underlying49 h3
  obtain ⟨a5, e5, _, b5⟩ := DataW.trod_string Tryz.underlying9 h5
  simp only [List.cons.injEq, and_true] at e0 e1 e2 e3 e5
  exact ⟨⟨a0, a1, a2, a3, 0, a5⟩, ⟨b0, b1, b2, b5, b3, (show (Lit.int .i64 0).wf = true by decide)⟩, by rw [e0, e1, e2, e3, e5]⟩

/-- What is read of a slice of cells that came in. -/
def InCels (w : World) (v : Value) (es : List Ent) : Prop :=
  (∃ a cap, v = .slice a 0 cap ∧ es = []) ∨
  ∃ b off cap, v = .slice (some ⟨b, off, none⟩) es.length cap ∧ CelsAt w b off es ∧ b < w.heap.size ∧ es.length ≤ cap ∧ cap ≤ maxLen
theorem InCels.below {B : Nat} {w w' : World} {v : Value} {es : List Ent} (h : InCels w v es) (hb : Below B w w') (hB : w.heap.size ≤ B) : InCels w' v es := by
  rcases h with h | ⟨b, off, cap, hv, hE, hlt, h1, h2⟩
  · exact .inl h
  · exact .inr ⟨b, off, cap, hv, hE.below hb (by omega), by have := hb.size; omega, h1, h2⟩
theorem cels_of_trod {H : Type} {enc : TypeId × Value → H} {w : World} {base : Nat} {held : Bool} {fuel : Nat} {v : Value} {x : DataW H × List MemPlace}
    (h : DataW.trod enc Tryz.prog w base (fun _ => true) held fuel 25 [v] = some x) : ∃ es : List Ent, InCels w v es ∧ ∀ e ∈ es, e.ok := by
  rcases open_slice Tryz.underlying25 h with ⟨hcs, _⟩ | ⟨a, len, cap, m, n, D, Pl, hcs, hba, hl, hm, hmm, _, hel⟩
  · simp only [List.cons.injEq, and_true] at hcs
    exact ⟨[], .inl ⟨none, 0, hcs, rfl⟩, by simp⟩
  · simp only [List.cons.injEq, and_true] at hcs
    subst hcs
    rw [if_pos rfl] at hmm
    subst hmm
    have hel6 : ∀ i, i < m → ∃ cs', w.cells? base (a.add (i * 5)) 5 = some cs' ∧ DataW.trod enc Tryz.prog w base (fun _ => true) held n 51 cs' = some (D i, Pl i) := fun i hi => by
      have := hel i hi
      rw [Tryz.cellsCel] at this
      exact this
    clear hel
    have HM : Hid (m ≤ maxLen) := hm
    clear hm
    by_cases h0 : len = 0
    · subst h0; exact ⟨[], .inl ⟨_, _, rfl, rfl⟩, by simp⟩
    · obtain ⟨b, off, spot⟩ := a
      have hspot : spot = none := by
        obtain ⟨cs', hc, _⟩ := hel6 0 (by omega)
        obtain ⟨_, hlen, hget⟩ := World.cells?_some hc
        have h1 := hget 0 (by omega)
        have h2 : (w.cell? ((Addr.add ⟨b, off, spot⟩ (0 * 5)).add 0)).isSome = true := by rw [h1]; simp; omega
        obtain ⟨u, hu⟩ := Option.isSome_iff_exists.1 h2
        simpa [Addr.add] using World.cell?_spot hu
      subst hspot
      obtain ⟨es, hes, hp⟩ := list_of_forall (P := fun i (e : Ent) => e.ok ∧ (w.cell? ⟨b, off + i * 5, none⟩ = some (.string e.row) ∧ w.cell? ⟨b, off + i * 5 + 1, none⟩ = some (.string e.fam) ∧ w.cell? ⟨b, off + i * 5 + 2, none⟩ = some (.string e.qual) ∧
          w.cell? ⟨b, off + i * 5 + 3, none⟩ = some (.int .u64 e.ts) ∧ w.cell? ⟨b, off + i * 5 + 4, none⟩ = some (.string e.val))) len (fun i hi => by
        obtain ⟨cs', hc, ht⟩ := hel6 i (by omega)
        obtain ⟨e, ok, rfl⟩ := cel_of_trod ht
        obtain ⟨_, hlen, hget⟩ := World.cells?_some hc
        refine ⟨e, ok, ?_, ?_, ?_, ?_, ?_⟩
        · simpa [Addr.add_mid] using hget 0 (by omega)
        · simpa [Addr.add_mid] using hget 1 (by omega)
        · simpa [Addr.add_mid] using hget 2 (by omega)
        · simpa [Addr.add_mid] using hget 3 (by omega)
        · simpa [Addr.add_mid] using hget 4 (by omega))
      have hlt : b < w.heap.size := by
        obtain ⟨cs', hc, _⟩ := hel6 0 (by omega)
        simpa [Addr.add] using World.cells?_block hc (by omega)
      subst hes
      refine ⟨es, .inr ⟨b, off, m, rfl, fun i e he => (hp i e he).2, hlt, hl, HM.out⟩, fun e he => ?_⟩
      obtain ⟨i, hi⟩ := List.getElem?_of_mem he
      exact (hp i e hi).1

set_option maxHeartbeats 400000 in
theorem szCellS_core (b off cap : Nat) (es : List Ent) (left : Int) (w : World) (hE : CelsAt w b off es) (hok : ∀ e ∈ es, e.ok) (hB : b < w.heap.size) (hlen : es.length ≤ cap) (hcap : cap ≤ maxLen) (h0 : 0 ≤ left) (h1 : left ≤ 2 ^ 40) :
    Calls Tryz.prog 6 #[.slice (some ⟨b, off, none⟩) es.length cap, .int .i64 left] w fun e w' =>
      ∃ x, e = .returned (.int .i64 x) ∧ (x = -1 ∨ (0 ≤ x ∧ x + es.length ≤ left)) ∧ Below w.heap.size w w' := by
  have HE : Hid (CelsAt w b off es) := hE
  have HO : Hid (∀ e ∈ es, e.ok) := hok
  clear hE hok
  unfold maxLen at hcap
  by_cases hle : left < es.length
  · have hle' : left - es.length < 0 := by omega
    go_enter Tryz.func6, Tryz.ntmps6
    go_wp2
    go_ret
    exact ⟨_, rfl, .inl rfl, Below.refl _ _⟩
  have hle' : 0 ≤ left - es.length := by omega
  go_enter Tryz.func6, Tryz.ntmps6
  go_wp2
  go_loopw [1, 5] (fun l i wr => ∃ (k : Nat) (x : Int), k ≤ es.length ∧ i = .int .i64 k ∧ l = .int .i64 x ∧ 0 ≤ x ∧ x + es.length ≤ left ∧ Below w.heap.size w wr) (fun _ i _ => es.length - (intOf i).toNat)
  case atStart => exact ⟨0, _, Nat.zero_le _, rfl, rfl, hle', by omega, Below.refl _ _⟩
  case round =>
    obtain ⟨k, x, hk, rfl, rfl, hx0, hx1, hb⟩ := hrel
    by_cases hlt : k < es.length
    · obtain ⟨e, he⟩ : ∃ e, es[k]? = some e := ⟨_, List.getElem?_eq_getElem hlt⟩
      obtain ⟨c0, c1, c2, c3, c5⟩ := (HE.out.below hb hB) k e he
      have ok := HO.out e (List.mem_of_getElem? he)
      have HK : Hid e.ok := ok
      clear ok he
      go_wp2_with fail
      refine (szCell_core e.row e.fam e.qual e.val e.ts _ _ HK.out.row HK.out.fam HK.out.qual HK.out.val (by omega) (by omega)).mono ?_
      rintro e w1 ⟨y, rfl, hy, hb1⟩
      have hsz := hb.size
      have hb2 := hb.trans (hb1.mono hsz)
      clear c0 c1 c2 c3 c5 hb1
      by_cases hy0 : y < 0
      · go_wp2_with fail
        go_ret
        exact ⟨_, rfl, .inl rfl, hb2⟩
      · have hy1 : 0 ≤ y := by omega
        have hy2 : y + es.length ≤ left := by omega
        go_wp2_with fail
        go_roundw
        case rel => exact ⟨k + 1, y, by omega, by go_num, rfl, hy1, hy2, hb2⟩
        case measure => simp [intOf]; omega
    · go_wp2
      go_ret
      exact ⟨_, rfl, .inr ⟨hx0, hx1⟩, hb⟩
set_option maxHeartbeats 400000 in
theorem szCellS_zero (a : Option Addr) (cap : Nat) (left : Int) (w : World) (h0 : 0 ≤ left) (h1 : left ≤ 2 ^ 40) :
    Calls Tryz.prog 6 #[.slice a 0 cap, .int .i64 left] w fun e w' => e = .returned (.int .i64 left) ∧ Below w.heap.size w w' := by
  go_enter Tryz.func6, Tryz.ntmps6
  go_wp2
  go_loopw [1, 5] (fun l i wr => l = .int .i64 left ∧ i = .int .i64 0 ∧ Below w.heap.size w wr) (fun _ i _ => 0)
  case atStart => exact ⟨rfl, rfl, Below.refl _ _⟩
  case round =>
    obtain ⟨rfl, rfl, hb⟩ := hrel
    go_wp2_with fail
    go_ret
    exact ⟨rfl, hb⟩
theorem szCellS_any (v : Value) (es : List Ent) (left : Int) (w : World) (h : InCels w v es) (hok : ∀ e ∈ es, e.ok) (h0 : 0 ≤ left) (h1 : left ≤ 2 ^ 40) :
    Calls Tryz.prog 6 #[v, .int .i64 left] w fun e w' =>
      ∃ x, e = .returned (.int .i64 x) ∧ (x = -1 ∨ (0 ≤ x ∧ x + es.length ≤ left)) ∧ Below w.heap.size w w' := by
  rcases h with ⟨a, cap, rfl, rfl⟩ | ⟨b, off, cap, rfl, hE, hlt, g1, g2⟩
  · exact (szCellS_zero a cap left w h0 h1).mono fun e w' ⟨he, hb⟩ => ⟨left, he, .inr ⟨h0, by simp⟩, hb⟩
  · exact szCellS_core b off cap es left w hE hok hlt g1 g2 h0 h1

theorem made_zeroC (n : Nat) : (madeCells #[.string ⟨#[]⟩, .string ⟨#[]⟩, .string ⟨#[]⟩, .int .u64 0, .string ⟨#[]⟩] (n * 5)).toList = cellsC (List.replicate n zeroE) := by
  apply List.ext_getElem?
  intro j
  by_cases hj : j < n * 5
  · have h := cellsC_get (List.replicate n zeroE) (j / 5) zeroE (by rw [List.getElem?_replicate, if_pos (by omega)]) (j % 5) (Nat.mod_lt _ (by omega))
    rw [show j / 5 * 5 + j % 5 = j by omega] at h
    rw [h]
    have h6 : j % 5 < 5 := Nat.mod_lt _ (by omega)
    simp [madeCells, hj]
    generalize j % 5 = m at *
    match m, h6 with
    | 0, _ => rfl
    | 1, _ => rfl
    | 2, _ => rfl
    | 3, _ => rfl
    | 4, _ => rfl
  · have h1 : (cellsC (List.replicate n zeroE)).length ≤ j := by rw [length_cellsC, List.length_replicate]; omega
    rw [List.getElem?_eq_none h1]
    simp [madeCells, hj]
/-- An entry that has the cell of another. -/
theorem OwnC.put {w : World} {base g cap : Nat} {es : List Ent} (h : OwnC w base g cap es) (k : Nat) (f e : Ent) (hk : es[k]? = some f) :
    OwnC (((((w.setCell ⟨g, k * 5, none⟩ (.string e.row)).setCell ⟨g, k * 5 + 1, none⟩ (.string e.fam)).setCell ⟨g, k * 5 + 2, none⟩ (.string e.qual)).setCell ⟨g, k * 5 + 3, none⟩ (.int .u64 e.ts)).setCell ⟨g, k * 5 + 4, none⟩ (.string e.val)) base g cap (es.set k e) := by
  have hlt : k < es.length := (List.getElem?_eq_some_iff.1 hk).1
  have g1 := h.set k 0 f { f with row := e.row } (.string e.row) hk (by omega) rfl
  have g2 := g1.set k 1 { f with row := e.row } { f with row := e.row, fam := e.fam } (.string e.fam) (by simp [hlt]) (by omega) rfl
  have g3 := g2.set k 2 { f with row := e.row, fam := e.fam } { f with row := e.row, fam := e.fam, qual := e.qual } (.string e.qual) (by simp [hlt]) (by omega) rfl
  have g4 := g3.set k 3 { f with row := e.row, fam := e.fam, qual := e.qual } { f with row := e.row, fam := e.fam, qual := e.qual, ts := e.ts } (.int .u64 e.ts) (by simp [hlt]) (by omega) rfl
  have g5 := g4.set k 4 { f with row := e.row, fam := e.fam, qual := e.qual, ts := e.ts } e (.string e.val) (by simp [hlt]) (by omega) rfl
  simpa only [List.set_set, Nat.add_zero] using g5
theorem below_put5 {B : Nat} {a w : World} (h : Below B a w) {g : Nat} (hg : B ≤ g) (o0 o1 o2 o3 o4 : Nat) (v0 v1 v2 v3 v4 : Value) :
    Below B a (((((w.setCell ⟨g, o0, none⟩ v0).setCell ⟨g, o1, none⟩ v1).setCell ⟨g, o2, none⟩ v2).setCell ⟨g, o3, none⟩ v3).setCell ⟨g, o4, none⟩ v4) :=
  ((((h.setCell hg _).setCell hg _).setCell hg _).setCell hg _).setCell hg _

set_option maxHeartbeats 400000 in
theorem toCellS_core (b off cap : Nat) (es : List Ent) (w : World) (hE : CelsAt w b off es) (hB : b < w.heap.size) (hlen : es.length ≤ cap) (hcap : cap ≤ maxLen) (h1 : es.length ≤ 1048576) :
    Calls Tryz.prog 9 #[.slice (some ⟨b, off, none⟩) es.length cap] w fun e w' =>
      ∃ g, e = .returned (.slice (some ⟨g, 0, none⟩) es.length es.length) ∧ OwnC w' w.heap.size g es.length es ∧ Below w.heap.size w w' := by
  have HE : Hid (CelsAt w b off es) := hE
  clear hE
  unfold maxLen at hcap
  obtain ⟨i, hi, hz0, hz1, hz2⟩ := info_parts Tryz.infoCel
  have HI : Hid (Tryz.prog.info? 55 = some i ∧ i.zero = some (.agg #[.string ⟨#[]⟩, .string ⟨#[]⟩, .string ⟨#[]⟩, .int .u64 0, .string ⟨#[]⟩]) ∧ i.size = 5 ∧ i.bytes = 72) := ⟨hi, hz0, hz1, hz2⟩
  clear hi hz0 hz1 hz2
  go_enter Tryz.func9, Tryz.ntmps9
  go_wp2_with (at_make; refine wpList_make_full _ rfl _ _ 28 rfl w.heap.size 55 i _ 5 Tryz.underlying28 HI.out.1 HI.out.2.1 HI.out.2.2.1 _ _ _ _ es.length rfl rfl ?_ ?_ ?hb ?hm ?hs ?_)
  case hb => rw [HI.out.2.2.2]; omega
  case hm => unfold maxLen; omega
  case hs => exact Nat.le_refl _
  · rfl
  · rfl
  intro w1 hown hgrow
  rw [made_zeroC] at hown
  have hown1 : OwnC w1 w.heap.size w.heap.size es.length (List.replicate es.length zeroE) := by
    unfold OwnC; rw [List.length_replicate]; exact hown
  have HW : Hid (OwnC w1 w.heap.size w.heap.size es.length (List.replicate es.length zeroE)) := hown1
  have hb1 : Below w.heap.size w w1 := (Below.refl _ _).grown hgrow (Nat.le_refl _) (fun k hk => by cases hk)
  clear hown hown1 hgrow
  go_wp2_with fail
  go_loopw [4] (fun i wr => ∃ (k : Nat) (fs : List Ent), k ≤ es.length ∧ i = .int .i64 k ∧ fs.length = es.length ∧ fs.take k = es.take k ∧ OwnC wr w.heap.size w.heap.size es.length fs ∧ Below w.heap.size w wr) (fun i _ => es.length - (intOf i).toNat)
  case atStart => exact ⟨0, _, Nat.zero_le _, rfl, List.length_replicate .., rfl, HW.out, hb1⟩
  case round =>
    obtain ⟨k, fs, hk, rfl, hfl, hft, hO, hb⟩ := hrel
    have HO : Hid (fs.length = es.length ∧ fs.take k = es.take k ∧ OwnC wr w.heap.size w.heap.size es.length fs) := ⟨hfl, hft, hO⟩
    clear hfl hft hO
    by_cases hlt : k < es.length
    · obtain ⟨e, he⟩ : ∃ e, es[k]? = some e := ⟨_, List.getElem?_eq_getElem hlt⟩
      obtain ⟨c0, c1, c2, c3, c5⟩ := (HE.out.below hb hB) k e he
      have HG : Hid (es[k]? = some e) := he
      clear he
      go_wp2_with fail
      refine (toCell_core e.row e.fam e.qual e.val e.ts _).mono ?_
      rintro e' w2 ⟨rfl, hb2⟩
      have hO2 := (HO.out.2.2).below hb2 (HO.out.2.2).lt.2
      obtain ⟨f, hf⟩ : ∃ f, fs[k]? = some f := ⟨_, List.getElem?_eq_getElem (by rw [HO.out.1]; exact hlt)⟩
      obtain ⟨d0, d1, d2, d3, d5⟩ := hO2.at k f hf
      simp only [Nat.zero_add] at d0 d1 d2 d3 d5
      have hfz := fun j => World.ownsRow.frozenAt hO2 j
      have HO2 : Hid (OwnC w2 w.heap.size w.heap.size es.length fs ∧ fs[k]? = some f) := ⟨hO2, hf⟩
      clear hO2 hf c0 c1 c2 c3 c5
      go_wp2_with fail
      go_roundw
      case rel => exact ⟨k + 1, fs.set k e, by omega, by go_num, by rw [List.length_set]; exact HO.out.1, take_set_succ HO.out.2.1 HO.out.1 HG.out, HO2.out.1.put k f e HO2.out.2, below_put5 (hb.trans (hb2.mono hb.size)) (Nat.le_refl _) _ _ _ _ _ _ _ _ _ _⟩
      case measure => simp [intOf]; omega
    · have hfs : fs = es := by
        have h := HO.out.2.1
        rw [List.take_of_length_le (by have := HO.out.1; omega), List.take_of_length_le (by omega)] at h
        exact h
      go_wp2
      go_ret
      exact ⟨_, rfl, by rw [← hfs] at HO ⊢; exact HO.out.2.2, hb⟩
set_option maxHeartbeats 400000 in
theorem toCellS_zero (a : Option Addr) (cap : Nat) (w : World) :
    Calls Tryz.prog 9 #[.slice a 0 cap] w fun e w' =>
      ∃ g, e = .returned (.slice (some ⟨g, 0, none⟩) 0 0) ∧ OwnC w' w.heap.size g 0 [] ∧ Below w.heap.size w w' := by
  obtain ⟨i, hi, hz0, hz1, hz2⟩ := info_parts Tryz.infoCel
  have HI : Hid (Tryz.prog.info? 55 = some i ∧ i.zero = some (.agg #[.string ⟨#[]⟩, .string ⟨#[]⟩, .string ⟨#[]⟩, .int .u64 0, .string ⟨#[]⟩]) ∧ i.size = 5 ∧ i.bytes = 72) := ⟨hi, hz0, hz1, hz2⟩
  clear hi hz0 hz1 hz2
  go_enter Tryz.func9, Tryz.ntmps9
  go_wp2_with (at_make; refine wpList_make_full _ rfl _ _ 28 rfl w.heap.size 55 i _ 5 Tryz.underlying28 HI.out.1 HI.out.2.1 HI.out.2.2.1 _ _ _ _ 0 rfl rfl ?_ ?_ ?hb ?hm ?hs ?_)
  case hb => rw [HI.out.2.2.2]; omega
  case hm => unfold maxLen; omega
  case hs => exact Nat.le_refl _
  · rfl
  · rfl
  intro w1 hown hgrow
  have HW : Hid (OwnC w1 w.heap.size w.heap.size 0 []) := by
    have h0 := made_zeroC 0
    rw [Nat.zero_mul] at h0
    rw [h0] at hown
    exact hown
  have hb1 : Below w.heap.size w w1 := (Below.refl _ _).grown hgrow (Nat.le_refl _) (fun k hk => by cases hk)
  clear hown hgrow
  go_wp2_with fail
  go_loopw [4] (fun i wr => i = .int .i64 0 ∧ wr = w1) (fun i _ => 0)
  case atStart => exact ⟨rfl, rfl⟩
  case round =>
    obtain ⟨rfl, rfl⟩ := hrel
    go_wp2_with fail
    go_ret
    exact ⟨_, rfl, HW.out, hb1⟩
theorem toCellS_any (v : Value) (es : List Ent) (w : World) (h : InCels w v es) (h1 : es.length ≤ 1048576) :
    Calls Tryz.prog 9 #[v] w fun e w' =>
      ∃ g, e = .returned (.slice (some ⟨g, 0, none⟩) es.length es.length) ∧ OwnC w' w.heap.size g es.length es ∧ Below w.heap.size w w' := by
  rcases h with ⟨a, cap, rfl, rfl⟩ | ⟨b, off, cap, rfl, hE, hlt, g1, g2⟩
  · exact toCellS_zero a cap w
  · exact toCellS_core b off cap es w hE hlt g1 g2 h1
end Go.Proofs.YtkidabedcgngcaaGreatDoor

/-
  The marks that a law lays into rows of cells and looks for.
-/
namespace Go.Proofs.YtkidabedcgngcaaGreatDoor
open Go.ChangeShapes Go.WideShapes Go.ChangeAt Go.RowKit Go.Deep
set_option linter.unusedVariables false
set_option linter.unusedSimpArgs false

/-- The cell that the marks from 'k' on make. -/
def mCel (k : Int) : Ent := ⟨mText k.toNat, mText (k + 1).toNat, mText (k + 1 + 1).toNat, k + 1 + 1 + 1, 0, mText (k + 1 + 1 + 1 + 1).toNat⟩
def markedC (k : Int) (es : List Ent) (i : Nat) : Prop := ∀ j : Nat, j < i → (es[j]?.map Ent.five) = some (mCel (k + j * 5)).five
theorem markedC_set {k : Int} {fs : List Ent} {m : Nat} {e : Ent} (h : markedC k fs m) (hm : m < fs.length) (he : e.five = (mCel (k + m * 5)).five) : markedC k (fs.set m e) (m + 1) := by
  intro j hj
  by_cases e1 : j = m
  · subst e1; simp [hm]; simpa using he
  · rw [List.getElem?_set_ne (by omega)]; exact h j (by omega)

set_option maxHeartbeats 1000000 in
theorem markCellS_core (base g cap : Nat) (es : List Ent) (k : Int) (w : World) (hO : OwnC w base g cap es) (h0 : 0 < k) (h1 : k ≤ 2 ^ 30) (hn : es.length ≤ 1048576) :
    Calls Tryz.prog 14 #[.slice (some ⟨g, 0, none⟩) es.length cap, .int .i64 k] w fun e w' =>
      ∃ fs, e = .returned (.int .i64 (k + es.length * 5)) ∧ OwnC w' base g cap fs ∧ fs.length = es.length ∧ markedC k fs es.length ∧ w.grownBy w' (some g) := by
  have HO : Hid (OwnC w base g cap es) := hO
  clear hO
  go_enter Tryz.func14, Tryz.ntmps14
  go_wp2
  go_loopw [1, 5] (fun c i wr => ∃ (m : Nat) (a : Int) (fs : List Ent), m ≤ es.length ∧ i = .int .i64 m ∧ c = .int .i64 a ∧ a = k + m * 5 ∧ OwnC wr base g cap fs ∧ fs.length = es.length ∧ markedC k fs m ∧ w.grownBy wr (some g)) (fun _ i _ => es.length - (intOf i).toNat)
  case atStart => exact ⟨0, k, es, Nat.zero_le _, rfl, rfl, by simp, HO.out, rfl, fun j hj => by omega, grown_of_below (Below.refl _ _) _⟩
  case round =>
    obtain ⟨m, a, fs, hm, rfl, rfl, ha, hO, hfl, hmk, hgr⟩ := hrel
    have HR : Hid (a = k + m * 5 ∧ OwnC wr base g cap fs ∧ fs.length = es.length ∧ markedC k fs m) := ⟨ha, hO, hfl, hmk⟩
    have ha0 : 0 < a := by omega
    have ha1 : a ≤ 2 ^ 31 := by omega
    have HG : Hid (w.grownBy wr (some g)) := hgr
    clear hO hfl hmk ha hgr
    by_cases hlt : m < es.length
    · obtain ⟨f, hf⟩ : ∃ f, fs[m]? = some f := ⟨_, List.getElem?_eq_getElem (by rw [HR.out.2.2.1]; exact hlt)⟩
      have HF : Hid (fs[m]? = some f ∧ m < fs.length) := ⟨hf, by rw [HR.out.2.2.1]; exact hlt⟩
      clear hf
      go_wp2_with fail
      refine (markText_any a _ (by omega) (by omega)).mono ?_
      rintro e w1 ⟨rfl, hb1⟩
      have hO1 := HR.out.2.1.below hb1 HR.out.2.1.lt.2
      have c1 := (hO1.at m f HF.out.1).1
      simp only [Nat.zero_add] at c1
      have z1 := fun j => World.ownsRow.frozenAt hO1 j
      have hO1' := hO1.set m 0 f { f with row := mText a.toNat } (.string (mText a.toNat)) HF.out.1 (by omega) rfl
      have H1 : Hid (OwnC (w1.setCell ⟨g, m * 5, none⟩ (.string (mText a.toNat))) base g cap (fs.set m { f with row := mText a.toNat }) ∧ w.grownBy (w1.setCell ⟨g, m * 5, none⟩ (.string (mText a.toNat))) (some g)) := ⟨hO1', (HG.out.trans (grown_of_below hb1 _)).trans (grown_set _ _ _ _)⟩
      clear hO1 hO1' hb1
      go_wp2_with fail
      refine (markText_any (a + 1) _ (by omega) (by omega)).mono ?_
      rintro e w2 ⟨rfl, hb2⟩
      have hO2 := H1.out.1.below hb2 H1.out.1.lt.2
      have c2 := (hO2.at m _ (by simp [HF.out.2]; rfl)).2.1
      simp only [Nat.zero_add] at c2
      have z2 := fun j => World.ownsRow.frozenAt hO2 j
      have H2 : Hid (OwnC (w2.setCell ⟨g, m * 5 + 1, none⟩ (.string (mText (a + 1).toNat))) base g cap (fs.set m { f with row := mText a.toNat, fam := mText (a + 1).toNat }) ∧ w.grownBy (w2.setCell ⟨g, m * 5 + 1, none⟩ (.string (mText (a + 1).toNat))) (some g)) :=
        ⟨hO2.upd HF.out.2 (by omega) rfl, (H1.out.2.trans (grown_of_below hb2 _)).trans (grown_set _ _ _ _)⟩
      clear hO2 hb2 c1 z1
      go_wp2_with fail
      refine (markText_any (a + 1 + 1) _ (by omega) (by omega)).mono ?_
      rintro e w3 ⟨rfl, hb3⟩
      have hO3 := H2.out.1.below hb3 H2.out.1.lt.2
      obtain ⟨_, _, c3, c4, _⟩ := hO3.at m _ (by simp [HF.out.2]; rfl)
      simp only [Nat.zero_add] at c3 c4
      have z3 := fun j => World.ownsRow.frozenAt hO3 j
      have H3 : Hid (OwnC w3 base g cap (fs.set m { f with row := mText a.toNat, fam := mText (a + 1).toNat }) ∧ w.grownBy w3 (some g)) := ⟨hO3, H2.out.2.trans (grown_of_below hb3 _)⟩
      clear hO3 hb3 c2 z2
      go_wp2_with fail
      refine (markText_any (a + 1 + 1 + 1 + 1) _ (by omega) (by omega)).mono ?_
      rintro e w4 ⟨rfl, hb4⟩
      have hO3 := (H3.out.1.upd (j := 2) (u := .string (mText (a + 1 + 1).toNat)) (f' := { f with row := mText a.toNat, fam := mText (a + 1).toNat, qual := mText (a + 1 + 1).toNat }) HF.out.2 (by omega) rfl).upd (j := 3) (u := .int .u64 (a + 1 + 1 + 1))
        (f' := { f with row := mText a.toNat, fam := mText (a + 1).toNat, qual := mText (a + 1 + 1).toNat, ts := a + 1 + 1 + 1 }) HF.out.2 (by omega) rfl
      have hO4 := hO3.below hb4 hO3.lt.2
      have c6 := (hO4.at m _ (by simp [HF.out.2]; rfl)).2.2.2.2
      simp only [Nat.zero_add] at c6
      have z4 := fun j => World.ownsRow.frozenAt hO4 j
      have H4 : Hid (OwnC (w4.setCell ⟨g, m * 5 + 4, none⟩ (.string (mText (a + 1 + 1 + 1 + 1).toNat))) base g cap (fs.set m (mCel a)) ∧ w.grownBy (w4.setCell ⟨g, m * 5 + 4, none⟩ (.string (mText (a + 1 + 1 + 1 + 1).toNat))) (some g)) :=
        ⟨hO4.upd HF.out.2 (by omega) rfl, (((((H3.out.2.trans (grown_set _ _ _ _)).trans (grown_set _ _ _ _))).trans (grown_of_below hb4 _)).trans (grown_set _ _ _ _))⟩
      have HE : Hid (a = k + m * 5) := HR.out.1
      clear hO3 hO4 hb4 c3 c4 z3
      go_wp2_with fail
      refine ⟨⟨m + 1, a + 1 + 1 + 1 + 1 + 1, fs.set m (mCel a), by omega, by go_num, rfl, ?_, H4.out.1, by rw [List.length_set]; exact HR.out.2.2.1, ?_, H4.out.2⟩, ?_⟩
      · go_light
        have := HE.out
        omega
      · go_light
        exact markedC_set HR.out.2.2.2 HF.out.2 (by rw [← HE.out])
      · go_light
        simp [intOf]; omega
    · go_wp2_with fail
      go_ret
      have e1 : m = es.length := by omega
      refine ⟨fs, ?_, HR.out.2.1, HR.out.2.2.1, ?_, HG.out⟩
      · rw [HR.out.1, e1]; rfl
      · rw [← e1]; exact HR.out.2.2.2

set_option maxHeartbeats 2000000 in
theorem heldCellS_core (b off cap : Nat) (es : List Ent) (k : Int) (w : World) (hE : CelsAt w b off es) (hmk : markedC k es es.length) (hB : b < w.heap.size) (h0 : 0 < k) (h1 : k ≤ 2 ^ 30) (hn : es.length ≤ 1048576) :
    Calls Tryz.prog 15 #[.slice (some ⟨b, off, none⟩) es.length cap, .int .i64 k] w fun e w' =>
      e = .returned (.int .i64 (k + es.length * 5)) ∧ Below w.heap.size w w' := by
  have HE : Hid (CelsAt w b off es ∧ markedC k es es.length) := ⟨hE, hmk⟩
  clear hE hmk
  go_enter Tryz.func15, Tryz.ntmps15
  go_wp2
  go_loopw [1, 5] (fun c i wr => ∃ (m : Nat) (a : Int), m ≤ es.length ∧ i = .int .i64 m ∧ c = .int .i64 a ∧ a = k + m * 5 ∧ Below w.heap.size w wr) (fun _ i _ => es.length - (intOf i).toNat)
  case atStart => exact ⟨0, k, Nat.zero_le _, rfl, rfl, by simp, Below.refl _ _⟩
  case round =>
    obtain ⟨m, a, hm, rfl, rfl, ha, hb⟩ := hrel
    have ha0 : 0 < a := by omega
    have ha1 : a ≤ 2 ^ 31 := by omega
    have HA : Hid (a = k + m * 5) := ha
    clear ha
    have hs := hb.size
    by_cases hlt : m < es.length
    · obtain ⟨f, he⟩ : ∃ f, es[m]? = some f := ⟨_, List.getElem?_eq_getElem hlt⟩
      have hf : f.five = (mCel a).five := by
        have h := HE.out.2 m hlt
        rw [he, ← HA.out] at h
        simpa using h
      simp only [Ent.five, List.cons.injEq, Value.string.injEq, Value.int.injEq, and_true, true_and] at hf
      obtain ⟨f1, f2, f3, f4, f5⟩ := hf
      have HM : Hid (es[m]? = some f) := he
      clear he
      have z2 : (m : Int) < (es.length : Int) := by omega
      have hce : ∀ wx, Below w.heap.size w wx → wx.cell? ⟨b, off + m * 5, none⟩ = some (.string (mText a.toNat)) ∧ wx.cell? ⟨b, off + m * 5 + 1, none⟩ = some (.string (mText (a + 1).toNat)) ∧ wx.cell? ⟨b, off + m * 5 + 2, none⟩ = some (.string (mText (a + 1 + 1).toNat)) ∧
          wx.cell? ⟨b, off + m * 5 + 3, none⟩ = some (.int .u64 (a + 1 + 1 + 1)) ∧ wx.cell? ⟨b, off + m * 5 + 4, none⟩ = some (.string (mText (a + 1 + 1 + 1 + 1).toNat)) := by
        intro wx hx
        have h := (HE.out.1.below hx hB) m _ HM.out
        rw [f1, f2, f3, f4, f5] at h
        exact h
      have HC : Hid (∀ wx, Below w.heap.size w wx → wx.cell? ⟨b, off + m * 5, none⟩ = some (.string (mText a.toNat)) ∧ wx.cell? ⟨b, off + m * 5 + 1, none⟩ = some (.string (mText (a + 1).toNat)) ∧ wx.cell? ⟨b, off + m * 5 + 2, none⟩ = some (.string (mText (a + 1 + 1).toNat)) ∧
          wx.cell? ⟨b, off + m * 5 + 3, none⟩ = some (.int .u64 (a + 1 + 1 + 1)) ∧ wx.cell? ⟨b, off + m * 5 + 4, none⟩ = some (.string (mText (a + 1 + 1 + 1 + 1).toNat))) := hce
      clear f1 f2 f3 f4 f5
      clear hce
      have c1 := (HC.out wr hb).1
      go_upto_region 4 with fail
      go_cut [19] (fun s wx => s = .bool false ∧ Below w.heap.size w wx)
      case first =>
        go_region_with (go_at_call 36; refine (markText_in w _ _ ?hB (by omega) (by omega)).mono ?_; (case hB => (repeat (first | assumption | refine Below.drew ?_))); rintro e' w' ⟨rfl, hbb⟩; have cx := (HC.out w' hbb).1)
        all_goals go_wp2_with fail
        all_goals go_meet
        all_goals exact ⟨rfl, by assumption⟩
      case rest =>
      obtain ⟨rfl, h2⟩ := hcut
      clear c1
      obtain ⟨wa, rfl⟩ : ∃ wa : World, wa = wc := ⟨_, rfl⟩
      have c2 := (HC.out wa h2).2.1
      go_upto_region 7 with fail
      go_cut [29] (fun s wx => s = .bool false ∧ Below w.heap.size w wx)
      case first =>
        go_region_with (go_at_call 36; refine (markText_in w _ _ ?hB (by omega) (by omega)).mono ?_; (case hB => (repeat (first | assumption | refine Below.drew ?_))); rintro e' w' ⟨rfl, hbb⟩; have cx := (HC.out w' hbb).2.1)
        all_goals go_wp2_with fail
        all_goals go_meet
        all_goals exact ⟨rfl, by assumption⟩
      case rest =>
      obtain ⟨rfl, h3⟩ := hcut
      clear c2
      obtain ⟨wb, rfl⟩ : ∃ wb : World, wb = wc := ⟨_, rfl⟩
      have c3 := (HC.out wb h3).2.2.1
      go_upto_region 10 with fail
      go_cut [39] (fun s wx => s = .bool false ∧ Below w.heap.size w wx)
      case first =>
        go_region_with (go_at_call 36; refine (markText_in w _ _ ?hB (by omega) (by omega)).mono ?_; (case hB => (repeat (first | assumption | refine Below.drew ?_))); rintro e' w' ⟨rfl, hbb⟩; have cx := (HC.out w' hbb).2.2.1)
        all_goals go_wp2_with fail
        all_goals go_meet
        all_goals exact ⟨rfl, by assumption⟩
      case rest =>
      obtain ⟨rfl, h4⟩ := hcut
      clear c3
      obtain ⟨wd, rfl⟩ : ∃ wd : World, wd = wc := ⟨_, rfl⟩
      have c4 := (HC.out wd h4).2.2.2.1
      have c5 := (HC.out wd h4).2.2.2.2
      go_upto_region 16 with fail
      go_cut [59] (fun s wx => s = .bool false ∧ Below w.heap.size w wx)
      case first =>
        go_region_with (go_at_call 36; refine (markText_in w _ _ ?hB (by omega) (by omega)).mono ?_; (case hB => (repeat (first | assumption | refine Below.drew ?_))); rintro e' w' ⟨rfl, hbb⟩; have cx := (HC.out w' hbb).2.2.2.2)
        all_goals go_wp2_with fail
        all_goals go_meet
        all_goals exact ⟨rfl, by assumption⟩
      case rest =>
      obtain ⟨rfl, h5⟩ := hcut
      clear c4 c5
      go_wp2_with fail
      refine ⟨⟨m + 1, a + 1 + 1 + 1 + 1 + 1, by omega, by go_num, rfl, ?_, h5⟩, ?_⟩
      · go_light
        have := HA.out
        omega
      · go_light
        simp [intOf]; omega
    · go_wp2_with fail
      go_ret
      have e1 : m = es.length := by omega
      refine ⟨?_, hb⟩
      rw [HA.out, e1]; rfl
end Go.Proofs.YtkidabedcgngcaaGreatDoor

/-
  The law FnExactMeaning.
-/
namespace Go.Proofs.YtkidabedcgngcaaGreatDoor.exMeaning
open Go.ChangeMaps (open_string shut_string)
open Go.ChangeShapes Go.WideShapes Go.ChangeAt Go.WideMaps Go.WideElems Go.RowKit Go.Deep
set_option linter.unusedVariables false
set_option linter.unusedSimpArgs false
set_option maxRecDepth 100000

theorem own : ownKnob Tryz.prog.godebug = none := by kernel_rfl
theorem laidOut : laidOutB Tryz.prog = true := by kernel_rfl
theorem gD64 : Tryz.prog.globalNamed "math/bits.deBruijn64tab" = some 1 := by kernel_rfl
theorem tD64 : (Tryz.prog.globals[1]?).map (·.type) = some 236 := by kernel_rfl
theorem cU8 : Tryz.prog.cellsOf 5 = 1 := by kernel_rfl
theorem cD64 : Tryz.prog.cellsOf 236 = 64 := by kernel_rfl
theorem var_lt {P : Program} {W : World} {n : String} {g : Nat} {cs : Array Value} (hg : P.globalNamed n = some g) (h : W.var? P n = some cs) : g < W.heap.size := by
  unfold World.var? at h
  rw [hg] at h
  simp only [Option.bind_some] at h
  by_cases hlt : g < W.heap.size
  · exact hlt
  · rw [Array.getElem?_eq_none (by omega)] at h
    simp at h
theorem of_laid {W : World} (h : laidMetH Tryz.prog Rows.fnExactMeaningRow.laid W) : TabD W := by
  have h' : laidMetH Tryz.prog [("math/bits.deBruijn64tab", Rows.laid_math_bits_deBruijn64tab)] W := h
  clear h
  rw [MakeChecks.laidMetH_plain _ _ _ (by kernel_rfl)] at h'
  obtain ⟨ps, ⟨g0, t0, cs0, f0, p0, q0, hg0, ht0, hv0, hd0, _, _⟩, _⟩ := h'
  obtain rfl := Option.some.inj (gD64.symm.trans hg0)
  obtain rfl := Option.some.inj (tD64.symm.trans ht0)
  have hc := Lib.cells_of_tab (zs := Lib.deBruijn64tab.map Int.ofNat) Tryz.underlying236 Tryz.underlying5 cU8 cD64 hd0
  intro j hj
  rw [World.var?_cell hg0 hv0 j]
  have hl : (cs0.toList)[j]? = some (.int .u8 (Lib.deBruijn64tab.getD j 0)) := by
    rw [hc, List.getElem?_map, List.getElem?_map]
    have : j < Lib.deBruijn64tab.length := hj
    rw [List.getElem?_eq_getElem this]
    simp [List.getD, List.getElem?_eq_getElem this]
  simpa using hl
/-- The door's own heap meets the condition. -/
theorem door_met (os : Os) (args : Array Value) : laidMetH Tryz.prog Rows.fnExactMeaningRow.laid ((World.doorLaid Tryz.prog 400 os).forCall (fun _ _ => 0) ⟨#[], args, []⟩).memory :=
  laidMetH_of_parts3 (fuel := 8) (laidMet_of_run' 8 (by kernel_rfl) (by kernel_rfl)) (by kernel_rfl) (by kernel_rfl)
theorem var?_below {P : Program} {B g : Nat} {W W' : World} {n : String} {cs : Array Value} (h : Below B W W') (hg : P.globalNamed n = some g) (hgB : g < B) (hv : W.var? P n = some cs) : W'.var? P n = some cs := by
  unfold World.var? at hv ⊢
  simp only [hg, Option.bind_some] at hv ⊢
  rw [h.block g hgB]
  exact hv

theorem kind_put (es : List Ent) : ∀ e ∈ es.map putE, e.kind = 0 := fun e he => by
  obtain ⟨x, _, rfl⟩ := List.mem_map.1 he
  rfl
theorem ok_put {es : List Ent} (h : ∀ e ∈ es, e.ok) : ∀ e ∈ es.map putE, e.ok := fun e he => by
  obtain ⟨x, hx, rfl⟩ := List.mem_map.1 he
  have := h x hx
  exact ⟨this.row, this.fam, this.qual, this.val, this.ts, (show (Lit.int .i64 0).wf = true by decide)⟩
theorem in_put {w : World} {v : Value} {es : List Ent} (h : InCels w v es) : InCels w v (es.map putE) := by
  rcases h with ⟨a, cap, rfl, rfl⟩ | ⟨b, off, cap, rfl, hE, h1, h2, h3⟩
  · exact .inl ⟨a, cap, rfl, rfl⟩
  · refine .inr ⟨b, off, cap, by rw [List.length_map], fun i e he => ?_, h1, by rw [List.length_map]; exact h2, h3⟩
    rw [List.getElem?_map] at he
    cases hx : es[i]? with
    | none => rw [hx] at he; cases he
    | some x =>
      rw [hx] at he
      cases he
      exact hE i x hx
theorem flat_le {es : List Ent} {t : CT} (hS : Sub es es) : ∀ (f i : Nat), ((cutsF es f i).flatMap fun p => mean t (segE es p)).length ≤ es.length - i
  | 0, i => Nat.zero_le _
  | f + 1, i => by
    unfold cutsF
    split
    · rename_i hi
      have ih := flat_le hS f (rEnd es i) (t := t)
      have h1 := (mean_sub t (segE_sub hS (i, rEnd es i))).len (segE_sub hS (i, rEnd es i)).ord
      have hle : rEnd es i ≤ es.length := rEndF_le es i _ i (Nat.le_of_lt hi)
      have hgt := rEnd_gt hi
      rw [segE_len hle] at h1
      simp only [List.flatMap_cons, List.length_append]
      omega
    · exact Nat.zero_le _
theorem meaOf_len {xs : List Nd} {es R : List Ent} (h : MeaOf xs es R) (hk : ∀ e ∈ es, e.kind = 0) (hok : ∀ e ∈ es, e.ok) : R.length ≤ es.length := by
  rcases h with ⟨_, rfl⟩ | ⟨h1, t, ht, rfl⟩
  · exact Nat.zero_le _
  · exact Nat.le_trans (flat_le (sub_good h1.2 hk hok) _ 0) (by omega)
theorem toFilter_in (W0 : World) (u : Value) (es : List Nd) (w : World) (hb : Below W0.heap.size W0 w) (h : Hid (InNds W0 u es)) (h1 : es.length ≤ 1048576) :
    Calls Tryz.prog 8 #[.agg #[u]] w fun e w' =>
      ∃ g, e = .returned (.agg #[.slice (some ⟨g, 0, none⟩) es.length es.length]) ∧ Hid (InNds w' (.slice (some ⟨g, 0, none⟩) es.length es.length) es) ∧ Below W0.heap.size W0 w' ∧ (∀ b o, b < W0.heap.size → w'.cell? ⟨b, o, none⟩ = W0.cell? ⟨b, o, none⟩) := by
  refine (toFilter_any u es w (h.out.below hb (Nat.le_refl _)) h1).mono ?_
  rintro e w' ⟨g, he, hO, hb'⟩
  have k := hb.trans (hb'.mono hb.size)
  exact ⟨g, he, InNds.own hO rfl, k, fun b o hlt => k.cell (p := ⟨b, o, none⟩) hlt⟩
theorem eqFilter_in (W0 : World) (u u' : Value) (es : List Nd) (w : World) (hb : Below W0.heap.size W0 w) (h : Hid (InNds W0 u es)) (h' : Hid (InNds w u' es)) :
    Calls Tryz.prog 12 #[.agg #[u], .agg #[u']] w fun e w' => e = .returned (.bool true) ∧ Below W0.heap.size W0 w' := by
  refine (eqFilter_any u u' es w (h.out.below hb (Nat.le_refl _)) h'.out).mono ?_
  rintro e w' ⟨he, hb'⟩
  exact ⟨he, hb.trans (hb'.mono hb.size)⟩

set_option maxHeartbeats 16000000 in
theorem walk (u : Value) (xs : List Nd) (v : Value) (es : List Ent) (w : World) (h : InNds w u xs) (hok : ∀ e ∈ xs, e.ok) (hc : InCels w v es) (hoe : ∀ e ∈ es, e.ok) (hk : ∀ e ∈ es, e.kind = 0) (hT : TabD w) :
    Calls Tryz.prog 3 #[.agg #[u], v] w fun e w' => e = .returned (.bool true) ∧ Below w.heap.size w w' := by
  have HE : Hid (InNds w u xs ∧ ∀ e ∈ xs, e.ok) := ⟨h, hok⟩
  have HC : Hid (InCels w v es ∧ (∀ e ∈ es, e.ok) ∧ (∀ e ∈ es, e.kind = 0)) := ⟨hc, hoe, hk⟩
  have HTb : Hid (∀ wx, Below w.heap.size w wx → TabD wx) := fun wx hx => hT.chg (S := fun k => w.heap.size ≤ k) ⟨hx.os, hx.tape, hx.output, hx.size, fun j hj hn => hx.block j (by omega)⟩ (fun q => by have := hT.lt; omega)
  have hu : u.cells = #[u] := by
    rcases h with ⟨a, cap, rfl, _⟩ | ⟨b, off, cap, rfl, _⟩ <;> rfl
  obtain ⟨va, vn, vc, rfl⟩ : ∃ a n c, v = .slice a n c := by
    rcases hc with ⟨a, cap, rfl, _⟩ | ⟨b, off, cap, rfl, _⟩ <;> exact ⟨_, _, _, rfl⟩
  clear h hok hc hoe hk hT
  obtain ⟨W0, hW0⟩ : ∃ W0 : World, W0 = w.alloc (Obj.cells #[u] 24) := ⟨_, rfl⟩
  have hb0 : Below w.heap.size w W0 := by rw [hW0]; exact (Below.refl _ _).alloc (Nat.le_refl _) _
  have hz0 : w.heap.size < W0.heap.size := by rw [hW0]; simp
  have ca : W0.cell? ⟨w.heap.size, 0, none⟩ = some u := by rw [hW0]; simp
  have HE0 : Hid (InNds W0 u xs) := HE.out.1.below hb0 (Nat.le_refl _)
  have HV0 : Hid (InCels W0 (.slice va vn vc) es) := HC.out.1.below hb0 (Nat.le_refl _)
  have HA : Hid (∀ wx, Below W0.heap.size W0 wx → wx.cell? ⟨w.heap.size, 0, none⟩ = some u ∧ InNds wx u xs ∧ InCels wx (.slice va vn vc) es ∧ TabD wx) := fun wx hx => ⟨by rw [hx.cell (p := ⟨w.heap.size, 0, none⟩) hz0]; exact ca, HE0.out.below hx (Nat.le_refl _), HV0.out.below hx (Nat.le_refl _), HTb.out wx (hb0.trans (hx.mono (by omega)))⟩
  go_enter Tryz.func3, Tryz.ntmps3
  go_wp2_with fail
  rw [← hW0]
  clear hW0
  refine (szFilter_any u xs _ _ HE0.out HE.out.2 (by omega) (by omega)).mono ?_
  rintro e w1 ⟨x, rfl, hx, hb1⟩
  have hs1 := hb1.size
  by_cases hx0 : x < 0
  · clear hx
    go_wp2_with fail
    go_ret
    exact ⟨rfl, hb0.trans (hb1.mono (by omega))⟩
  have hn : xs.length ≤ 1048576 := by omega
  have hx1 : x ≤ 1048576 := by omega
  clear hx ca
  have HV1 : Hid (InCels w1 (.slice va vn vc) es) := (HA.out w1 hb1).2.2.1
  go_wp2_with fail
  refine (szCellS_any _ es x w1 HV1.out HC.out.2.1 (by omega) (by omega)).mono ?_
  rintro e w2 ⟨y, rfl, hy, hb2⟩
  have hs2 := hb2.size
  have j2 : Below W0.heap.size W0 w2 := hb1.trans (hb2.mono (by omega))
  by_cases hy0 : y < 0
  · clear hy
    go_wp2_with fail
    go_ret
    exact ⟨rfl, hb0.trans (j2.mono (by omega))⟩
  have hm : es.length ≤ 1048576 := by omega
  clear hy
  have ca := (HA.out w2 j2).1
  have HE2 : Hid (InNds w2 u xs) := (HA.out w2 j2).2.1
  go_wp2_with fail
  refine (toFilter_any u xs _ HE2.out hn).mono ?_
  rintro e w3 ⟨g3, rfl, hO3, hb3⟩
  have hs3 := hb3.size
  have j3 : Below W0.heap.size W0 w3 := j2.trans (hb3.mono (by omega))
  have HO3 : Hid (OwnNd w3 w2.heap.size g3 xs.length xs) := hO3
  have HV3 : Hid (InCels w3 (.slice va vn vc) es) := (HA.out w3 j3).2.2.1
  clear hO3 ca
  go_wp2_with fail
  refine (toCellS_any _ es w3 HV3.out hm).mono ?_
  rintro e w4 ⟨g4, rfl, hO4, hb4⟩
  have hs4 := hb4.size
  have j4 : Below W0.heap.size W0 w4 := j3.trans (hb4.mono (by omega))
  have HO4 : Hid (OwnNd w4 w2.heap.size g3 xs.length xs ∧ OwnC w4 w3.heap.size g4 es.length es) := ⟨HO3.out.below hb4 HO3.out.lt.2, hO4⟩
  clear hO4
  go_wp2_with fail
  refine (specMeaning_core HO4.out.1 HE.out.2 (by omega) HO4.out.2 HC.out.2.1 HC.out.2.2 hm).mono ?_
  rintro e w5 ⟨gs, cs, L, rfl, H5⟩
  have hs5 := H5.out.2.2.size
  have hgs := H5.out.2.1.lt
  have hLl : L.length ≤ 1048576 := Nat.le_trans (meaOf_len H5.out.1 HC.out.2.2 HC.out.2.1) hm
  have HS5 : Hid (OwnC w5 w4.heap.size gs cs L) := H5.out.2.1
  have HMe : Hid (MeaOf xs es L) := H5.out.1
  have j5 : Below W0.heap.size W0 w5 := j4.trans (H5.out.2.2.mono (by omega))
  clear H5
  have ca := (HA.out w5 j5).1
  have HE5 : Hid (InNds w5 u xs) := (HA.out w5 j5).2.1
  go_wp2_with fail
  refine (toFilter_any u xs _ HE5.out hn).mono ?_
  rintro e w6 ⟨gx, rfl, hO6, hb6⟩
  have hs6 := hb6.size
  have hgx := hO6.lt
  have HX6 : Hid (OwnNd w6 w5.heap.size gx xs.length xs) := hO6
  have HS6 : Hid (OwnC w6 w4.heap.size gs cs L) := HS5.out.below hb6 hgs.2
  clear hO6 ca
  obtain ⟨W7, hW7⟩ : ∃ W7 : World, W7 = w6.alloc (Obj.cells #[.slice (some ⟨gx, 0, none⟩) xs.length xs.length] 32) := ⟨_, rfl⟩
  have hb7 : Below w6.heap.size w6 W7 := by rw [hW7]; exact (Below.refl _ _).alloc (Nat.le_refl _) _
  have hs7 : W7.heap.size = w6.heap.size + 1 := by rw [hW7]; simp
  have HC7 : Hid (W7.cell? ⟨w6.heap.size, 0, none⟩ = some (.slice (some ⟨gx, 0, none⟩) xs.length xs.length)) := by show W7.cell? _ = _; rw [hW7]; simp
  have HX7 : Hid (OwnNd W7 w5.heap.size gx xs.length xs ∧ OwnC W7 w4.heap.size gs cs L) := ⟨HX6.out.below hb7 HX6.out.lt.2, HS6.out.below hb7 (by omega)⟩
  have j7 : Below W0.heap.size W0 W7 := (j5.trans (hb6.mono (by omega))).trans (hb7.mono (by have := j5.size; omega))
  have HV7 : Hid (InCels W7 (.slice va vn vc) es) := (HA.out W7 j7).2.2.1
  go_upto_region 10 with fail
  rw [← hW7]
  clear hW7
  go_wp2_with fail
  refine (toCellS_any _ es W7 HV7.out hm).mono ?_
  rintro e w8 ⟨gy, rfl, hO8, hb8⟩
  have hs8 := hb8.size
  have hgy := hO8.lt
  have j8 : Below W0.heap.size W0 w8 := j7.trans (hb8.mono j7.size)
  have HX8 : Hid (OwnNd w8 w5.heap.size gx xs.length xs ∧ OwnC w8 w4.heap.size gs cs L ∧ OwnC w8 W7.heap.size gy es.length es ∧ TabD w8) := ⟨HX7.out.1.below hb8 (by omega), HX7.out.2.below hb8 (by omega), hO8, (HA.out w8 j8).2.2.2⟩
  have cx : w8.cell? ⟨w6.heap.size, 0, none⟩ = some (.slice (some ⟨gx, 0, none⟩) xs.length xs.length) := by rw [hb8.cell (p := ⟨w6.heap.size, 0, none⟩) (by show w6.heap.size < W7.heap.size; omega)]; exact HC7.out
  clear hO8
  go_wp2_with fail
  refine (implMeaning_core HX8.out.1 HE.out.2 HX8.out.2.2.1 HC.out.2.1 HC.out.2.2 hm HX8.out.2.2.2).mono ?_
  rintro e w9 ⟨gi, ci, L9, rfl, H9⟩
  obtain rfl : L9 = L := meaOf_one H9.out.1 HMe.out
  have hs9 := H9.out.2.2.size
  have hgi := H9.out.2.1.lt
  have j9 : Below W0.heap.size W0 w9 := j8.trans (H9.out.2.2.mono j8.size)
  have HX9 : Hid (OwnNd w9 w5.heap.size gx xs.length xs ∧ OwnC w9 w4.heap.size gs cs L9 ∧ OwnC w9 W7.heap.size gy es.length es ∧ OwnC w9 w8.heap.size gi ci L9) := ⟨HX8.out.1.below H9.out.2.2 (by omega), HX8.out.2.1.below H9.out.2.2 (by omega), HX8.out.2.2.1.below H9.out.2.2 (by omega), H9.out.2.1⟩
  have HC9 : Hid (w9.cell? ⟨w6.heap.size, 0, none⟩ = some (.slice (some ⟨gx, 0, none⟩) xs.length xs.length)) := by show w9.cell? _ = _; rw [H9.out.2.2.cell (p := ⟨w6.heap.size, 0, none⟩) (by show w6.heap.size < w8.heap.size; omega)]; exact cx
  clear cx H9
  go_wp2_with fail
  refine (eqCellS_own HX9.out.2.2.2 HX9.out.2.1).mono ?_
  rintro e w10 ⟨rfl, hb10⟩
  have hs10 := hb10.size
  have j10 : Below W0.heap.size W0 w10 := j9.trans (hb10.mono j9.size)
  have HX10 : Hid (OwnNd w10 w5.heap.size gx xs.length xs ∧ OwnC w10 w4.heap.size gs cs L9 ∧ OwnC w10 W7.heap.size gy es.length es ∧ OwnC w10 w8.heap.size gi ci L9) := ⟨HX9.out.1.below hb10 (by omega), HX9.out.2.1.below hb10 (by omega), HX9.out.2.2.1.below hb10 (by omega), HX9.out.2.2.2.below hb10 (by omega)⟩
  have HC10 : Hid (w10.cell? ⟨w6.heap.size, 0, none⟩ = some (.slice (some ⟨gx, 0, none⟩) xs.length xs.length)) := by show w10.cell? _ = _; rw [hb10.cell (p := ⟨w6.heap.size, 0, none⟩) (by show w6.heap.size < w9.heap.size; omega)]; exact HC9.out
  obtain ⟨cx10, ca10⟩ : w10.cell? ⟨w6.heap.size, 0, none⟩ = some (.slice (some ⟨gx, 0, none⟩) xs.length xs.length) ∧ w10.cell? ⟨w.heap.size, 0, none⟩ = some u := ⟨HC10.out, (HA.out w10 j10).1⟩
  have HE10 : Hid (InNds w10 u xs) := (HA.out w10 j10).2.1
  go_upto_region 14 with fail
  go_cut [44] (fun s wx => s = .bool false ∧ Below w10.heap.size w10 wx)
  case first =>
    have hz9 : w6.heap.size < w10.heap.size := by omega
    have hza : w.heap.size < w10.heap.size := by omega
    have HXX : Hid (InNds w10 (.slice (some ⟨gx, 0, none⟩) xs.length xs.length) xs) := InNds.own HX10.out.1 rfl
    go_region_with (first
      | (go_at_call 8; refine (toFilter_in w10 u xs _ ?hB HE10 hn).mono ?_; (case hB => (repeat (first | assumption | exact Below.refl _ _ | refine Below.drew ?_))); rintro e w' ⟨g3, rfl, HG, hbb, hcc⟩)
      | (go_at_call 12; refine (eqFilter_in w10 _ _ xs _ ?hB HXX ?hC).mono ?_; (case hB => (repeat (first | assumption | exact Below.refl _ _ | refine Below.drew ?_))); (case hC => assumption); rintro e w' ⟨rfl, hbb2⟩))
    all_goals go_wp2_with fail
    all_goals go_meet
    all_goals exact ⟨rfl, by assumption⟩
  case rest =>
  obtain ⟨rfl, hb11⟩ := hcut
  obtain ⟨w11, hw11⟩ : ∃ w11 : World, w11 = wc := ⟨_, rfl⟩
  subst hw11
  have hs11 := hb11.size
  have j11 : Below W0.heap.size W0 w11 := j10.trans (hb11.mono j10.size)
  have HX11 : Hid (OwnNd w11 w5.heap.size gx xs.length xs ∧ OwnC w11 w4.heap.size gs cs L9 ∧ OwnC w11 W7.heap.size gy es.length es ∧ OwnC w11 w8.heap.size gi ci L9) := ⟨HX10.out.1.below hb11 (by omega), HX10.out.2.1.below hb11 (by omega), HX10.out.2.2.1.below hb11 (by omega), HX10.out.2.2.2.below hb11 (by omega)⟩
  have HC11 : Hid (w11.cell? ⟨w6.heap.size, 0, none⟩ = some (.slice (some ⟨gx, 0, none⟩) xs.length xs.length)) := by show w11.cell? _ = _; rw [hb11.cell (p := ⟨w6.heap.size, 0, none⟩) (by show w6.heap.size < w10.heap.size; omega)]; exact HC10.out
  clear cx10 ca10
  have HV11 : Hid (InCels w11 (.slice va vn vc) es) := (HA.out w11 j11).2.2.1
  go_wp2_with fail
  refine (toCellS_any _ es w11 HV11.out hm).mono ?_
  rintro e w12 ⟨gz, rfl, hO12, hb12⟩
  have hs12 := hb12.size
  have HZ12 : Hid (OwnC w12 w11.heap.size gz es.length es ∧ OwnC w12 W7.heap.size gy es.length es) := ⟨hO12, HX11.out.2.2.1.below hb12 (by omega)⟩
  clear hO12
  go_wp2_with fail
  refine (eqCellS_own HZ12.out.2 HZ12.out.1).mono ?_
  rintro e w13 ⟨rfl, hb13⟩
  have hs13 := hb13.size
  have k1113 : Below w11.heap.size w11 w13 := hb12.trans (hb13.mono (by omega))
  have j13 : Below W0.heap.size W0 w13 := j11.trans (k1113.mono j11.size)
  have HX13 : Hid (OwnUN w13 w5.heap.size (.slice (some ⟨gx, 0, none⟩) xs.length xs.length) xs ∧ OwnC w13 w4.heap.size gs cs L9 ∧ OwnC w13 W7.heap.size gy es.length es ∧ OwnC w13 w8.heap.size gi ci L9) := ⟨.inr ⟨gx, xs.length, rfl, HX11.out.1.below k1113 (by omega)⟩, HX11.out.2.1.below k1113 (by omega), HX11.out.2.2.1.below k1113 (by omega), HX11.out.2.2.2.below k1113 (by omega)⟩
  have cx : w13.cell? ⟨w6.heap.size, 0, none⟩ = some (.slice (some ⟨gx, 0, none⟩) xs.length xs.length) := by rw [k1113.cell (p := ⟨w6.heap.size, 0, none⟩) (by show w6.heap.size < w11.heap.size; omega)]; exact HC11.out
  go_wp2_with fail
  refine (markFilter_own w5.heap.size _ xs 1 _ HX13.out.1 (by omega) (by omega) hn).mono ?_
  rintro e w14 ⟨E1, rfl, _, _, _, hg14⟩
  have hs14 := hg14.size
  have HX14 : Hid (OwnC w14 w4.heap.size gs cs L9 ∧ OwnC w14 W7.heap.size gy es.length es ∧ OwnC w14 w8.heap.size gi ci L9) := by
    have hne : ∀ k, ¬ k = gx → some k ≠ (Value.slice (some ⟨gx, 0, none⟩) xs.length xs.length).ownBlock := fun k hk q => hk (by simpa [Value.ownBlock] using q)
    exact ⟨HX13.out.2.1.kept hg14 (hne _ (by omega)), HX13.out.2.2.1.kept hg14 (hne _ (by omega)), HX13.out.2.2.2.kept hg14 (hne _ (by omega))⟩
  have j14 : Below W0.heap.size W0 w14 := j13.grown hg14 j13.size (fun k hk => by
    have h2 : gx = k := by simpa [Value.ownBlock] using hk
    have := j5.size; omega)
  clear hg14 cx
  go_wp2_with fail
  refine (markCellS_core W7.heap.size gy es.length es (1 + (xs.length : Int) * 7) _ HX14.out.2.1 (by omega) (by omega) hm).mono ?_
  rintro e w15 ⟨fy, rfl, _, _, _, hg15⟩
  have hs15 := hg15.size
  have HX15 : Hid (OwnC w15 w4.heap.size gs cs L9 ∧ OwnC w15 w8.heap.size gi ci L9) := ⟨HX14.out.1.kept hg15 (fun q => by have := Option.some.inj q; omega), HX14.out.2.2.kept hg15 (fun q => by have := Option.some.inj q; omega)⟩
  have j15 : Below W0.heap.size W0 w15 := j14.grown hg15 j14.size (fun k hk => by cases hk; have := j7.size; omega)
  have hk1 : ¬ (1 + (xs.length : Int) * 7 + (es.length : Int) * 5 < 0) := by omega
  clear hg15
  go_wp2_with fail
  refine (eqCellS_own HX15.out.2 HX15.out.1).mono ?_
  rintro e w16 ⟨rfl, hb16⟩
  have hs16 := hb16.size
  have j16 : Below W0.heap.size W0 w16 := j15.trans (hb16.mono j15.size)
  have HX16 : Hid (OwnC w16 w4.heap.size gs cs L9 ∧ OwnC w16 w8.heap.size gi ci L9) := ⟨HX15.out.1.below hb16 (by omega), HX15.out.2.below hb16 (by omega)⟩
  clear hk1
  go_wp2_with fail
  refine (markCellS_core w8.heap.size gi ci L9 1 _ HX16.out.2 (by omega) (by omega) hLl).mono ?_
  rintro e w17 ⟨fs, rfl, hU17, hl17, hm17, hg17⟩
  have hs17 := hg17.size
  have HF17 : Hid (OwnC w17 w8.heap.size gi ci fs ∧ fs.length = L9.length ∧ markedC 1 fs fs.length) := ⟨hU17, hl17, by rw [hl17]; exact hm17⟩
  have HS17 : Hid (OwnC w17 w4.heap.size gs cs L9) := HX16.out.1.kept hg17 (fun q => by have := Option.some.inj q; omega)
  have j17 : Below W0.heap.size W0 w17 := j16.grown hg17 j16.size (fun j hj => by cases hj; have := j8.size; omega)
  have HRl : Hid (fs.length = L9.length) := hl17
  clear hU17 hm17 hg17 hl17
  go_wp2_with fail
  rw [← HRl.out]
  refine (heldCellS_core gi 0 ci fs 1 _ HF17.out.1.at HF17.out.2.2 HF17.out.1.lt.2 (by omega) (by omega) (by rw [HRl.out]; exact hLl)).mono ?_
  rintro e w18 ⟨rfl, hb18⟩
  rw [HRl.out]
  have hs18 := hb18.size
  have j18 : Below W0.heap.size W0 w18 := j17.trans (hb18.mono j17.size)
  have HS18 : Hid (OwnC w18 w4.heap.size gs cs L9) := HS17.out.below hb18 (by omega)
  have hk2 : (0 : Int) ≤ 1 + (L9.length : Int) * 5 := by omega
  have ca := (HA.out w18 j18).1
  have HE18 : Hid (InNds w18 u xs) := (HA.out w18 j18).2.1
  go_wp2_with fail
  refine (toFilter_any u xs _ HE18.out hn).mono ?_
  rintro e w19 ⟨ga, rfl, hO19, hb19⟩
  have hs19 := hb19.size
  have j19 : Below W0.heap.size W0 w19 := j18.trans (hb19.mono j18.size)
  have HO19 : Hid (OwnNd w19 w18.heap.size ga xs.length xs) := hO19
  have HV19 : Hid (InCels w19 (.slice va vn vc) es) := (HA.out w19 j19).2.2.1
  clear hO19 ca hk2
  go_wp2_with fail
  refine (toCellS_any _ es w19 HV19.out hm).mono ?_
  rintro e w20 ⟨gb, rfl, hO20, hb20⟩
  have hs20 := hb20.size
  have j20 : Below W0.heap.size W0 w20 := j19.trans (hb20.mono j19.size)
  have HO20 : Hid (OwnNd w20 w18.heap.size ga xs.length xs ∧ OwnC w20 w19.heap.size gb es.length es ∧ TabD w20) := ⟨HO19.out.below hb20 HO19.out.lt.2, hO20, (HA.out w20 j20).2.2.2⟩
  clear hO20
  go_wp2_with fail
  refine (implMeaning_core HO20.out.1 HE.out.2 HO20.out.2.1 HC.out.2.1 HC.out.2.2 hm HO20.out.2.2).mono ?_
  rintro e w21 ⟨gj, cj, L21, rfl, H21⟩
  obtain rfl : L21 = L9 := meaOf_one H21.out.1 HMe.out
  have k1821 : Below w18.heap.size w18 w21 := (hb19.trans (hb20.mono (by omega))).trans (H21.out.2.2.mono (by omega))
  have j21 : Below W0.heap.size W0 w21 := j18.trans (k1821.mono j18.size)
  have HX21 : Hid (OwnC w21 w20.heap.size gj cj L21 ∧ OwnC w21 w4.heap.size gs cs L21) := ⟨H21.out.2.1, HS18.out.below k1821 (by omega)⟩
  clear H21
  go_wp2_with fail
  refine (eqCellS_own HX21.out.1 HX21.out.2).mono ?_
  rintro e w22 ⟨rfl, hb22⟩
  have k22 : Below w.heap.size w w22 := hb0.trans ((j21.trans (hb22.mono j21.size)).mono (by omega))
  go_wp2_with fail
  go_ret
  exact ⟨rfl, k22⟩

set_option maxRecDepth 100000 in
theorem lifted (os : Os) (started : os.Started) (H : Type) (enc : TypeId × Value → H) :
    ReturnsInHanded {} Tryz.checked os 3 .any (fun w args => (Rows.fnExactMeaningSpec.pre enc Tryz.prog Tryz.f3 [] false w args ∧ laidMetH Tryz.prog Rows.fnExactMeaningRow.laid w) ∧ sizedMet enc Tryz.prog Tryz.f3 (OpenSpec.ofChange Rows.fnExactMeaningSpec) false w args)
      (Rows.fnExactMeaningSpec.post enc Tryz.prog Tryz.f3 false true false false) := by
  refine returnsInHanded_of_change_and (C := Tryz.checked) (X := fun w _ => laidMetH Tryz.prog Rows.fnExactMeaningRow.laid w) (fun _ _ _ hh h => h.of_heap hh) own started (by kernel_rfl) Tryz.func3
    (ChangeSpec.witness_shaped (enc := enc) (C := Tryz.checked) (os := os) (X := fun w _ => laidMetH Tryz.prog Rows.fnExactMeaningRow.laid w) false (World.doorLaid Tryz.prog 400 os) #[.agg #[.slice none 0 0], .slice none 0 0] 8 rfl (World.shaped_of_RefB (by kernel_rfl) (by kernel_rfl)) (by kernel_rfl) (by kernel_rfl) (by kernel_rfl) (door_met os _)) ?_
  intro W base args ds gs before hval0 hW _ _ hL _
  have hval : ∀ (j : Nat) t v, Tryz.f3.params[j]? = some t → args[j]? = some v → Value.okWide Tryz.prog W .any base t v := hval0
  have hW' := hW
  obtain ⟨p, q, hA0, hV, rfl, hfz, hnd⟩ := hW
  have hA : DataW.TrodAll enc Tryz.prog W 0 (fun _ => true) true Tryz.f3.params.toList args.toList ds p := hA0
  rw [Tryz.params3] at hA hval
  obtain ⟨v0, vs0, d0, ds0, p0, q0, hargs, rfl, rfl, h0, r0⟩ := trodAll_cons hA
  obtain ⟨v1, vs1, d1, ds1, p1, q1, rfl, rfl, rfl, h1, r1⟩ := trodAll_cons r0
  obtain ⟨rfl, rfl, rfl⟩ := trodAll_nil r1
  obtain rfl : args = #[v0, v1] := by cases args; simp_all
  obtain ⟨rfl, rfl⟩ := trodVars_none hV
  have k0 := h0
  have kk1 := h1
  have lt0 : ∀ x ∈ p0, x.block < W.heap.size := by obtain ⟨m, hm⟩ := k0; exact DataW.trod_lt m _ _ _ hm
  have lt1 : ∀ x ∈ p1, x.block < W.heap.size := by obtain ⟨m, hm⟩ := kk1; exact DataW.trod_lt m _ _ _ hm
  obtain ⟨u, xs, rfl, hin, ok0⟩ := open_filter (hval 0 24 v0 rfl rfl) h0
  obtain ⟨es, hic, ok1⟩ : ∃ es : List Ent, InCels W v1 es ∧ ∀ e ∈ es, e.ok := by
    obtain ⟨a0, len0, cap0, rfl⟩ := okWide_slice Tryz.underlying25 (hval 1 25 v1 rfl rfl)
    obtain ⟨fuel, hf⟩ := h1
    exact cels_of_trod (by simpa [Value.cells] using hf)
  clear hA0 hval0
  have hG := of_laid hL
  refine (walk u xs v1 _ W hin ok0 (in_put hic) (ok_put ok1) (kind_put es) hG).mono fun e W' ⟨he, bel⟩ => ?_
  subst he
  exact ⟨_, rfl, _, _, _, [], _, [], hW', trodAll_mk1 (shut_bool Tryz.underlying4 _), (trodAll_cons_mk (Below.trod laidOut (by kernel_rfl) (of_decide_eq_true (by kernel_rfl)) k0 bel lt0) (trodAll_cons_mk (Below.trod laidOut (by kernel_rfl) (of_decide_eq_true (by kernel_rfl)) kk1 bel lt1) trodAll_mk0)), rfl, bel.frame _, fun h => by cases h⟩

theorem over : Rows.FnExactMeaningSaid :=
  OpenClaim.holds_of_wide 3 Tryz.f3 rfl rfl rfl rfl rfl rfl rfl ⟨rfl, rfl, rfl, rfl, rfl⟩ rfl rfl rfl rfl rfl (by kernel_rfl) Tryz.func3 (by kernel_rfl)
    (of_decide_eq_true (by kernel_rfl)) (by unfold Func.isWrapper; first | (rw [if_pos (by decide +kernel)]; kernel_rfl) | (rw [if_neg (by decide +kernel)]; exact ⟨rfl, rfl⟩))
    (fun os started H enc _ => lifted os started H enc)

theorem card : Rows.FnExactMeaningCardSaid :=
  Claim7.holds_tied_plain_at .later [] [.data] true Rows.fnExactMeaningCard.stood.harness true
    over (fun _ h => by cases h) (by kernel_rfl) (fun _ h => by cases h) fnExactMeaning_row_tie rfl ⟨rfl, rfl⟩ (by kernel_rfl) rfl
    (fun f fn hf hfn => by
      obtain rfl : f = 3 := Option.some.inj ((show Tryz.prog.funcNamed "loop.example/s01854/laws.FnExactMeaning" = some 3 by kernel_rfl).symm.trans hf) |>.symm
      obtain rfl : fn = Tryz.f3 := (Option.some.inj (Tryz.func3.symm.trans hfn)).symm
      exact ⟨by kernel_rfl, fun j t ht => by
        rw [Tryz.params3] at ht
        rcases j with _ | _ | j
        · obtain rfl : t = 24 := by simpa using ht.symm
          exact (show Tryz.prog.wantsStandIn 24 = false by kernel_rfl)
        · obtain rfl : t = 25 := by simpa using ht.symm
          exact (show Tryz.prog.wantsStandIn 25 = false by kernel_rfl)
        · simp at ht⟩)
    (by kernel_rfl)
end Go.Proofs.YtkidabedcgngcaaGreatDoor.exMeaning
namespace Go.Proofs.YtkidabedcgngcaaGreatDoor
theorem exactMeaning_holds : Rows.FnExactMeaningCardSaid := exMeaning.card
#print axioms exactMeaning_holds
end Go.Proofs.YtkidabedcgngcaaGreatDoor

