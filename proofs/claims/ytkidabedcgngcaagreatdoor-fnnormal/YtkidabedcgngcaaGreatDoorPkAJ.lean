import Derived.Test.YtkidabedcgngcaaGreatDoorPkAA
import Derived.Test.YtkidabedcgngcaaGreatDoorPkAH
import Derived.Test.YtkidabedcgngcaaGreatDoorPkAI
import Derived.Test.YtkidabedcgngcaaGreatDoorPkAE
import Derived.Test.YtkidabedcgngcaaGreatDoorPkAF
/-
  The drawing's bytes, as they came in.
-/
namespace Go.Proofs.YtkidabedcgngcaaGreatDoor
open Go.ChangeShapes Go.WideShapes Go.ChangeAt Go.RowKit Go.Deep
set_option linter.unusedVariables false
set_option linter.unusedSimpArgs false
set_option maxRecDepth 100000

theorem CodeAt.slice {w : World} {base : Nat} {bv : Value} {n : Nat} (h : CodeAt w base bv n) : ∃ a cap, bv = .slice a n cap := by
  rcases h.2 with ⟨a, cap, rfl, rfl⟩ | ⟨b, off, cap, rfl, _⟩
  · exact ⟨_, _, rfl⟩
  · exact ⟨_, _, rfl⟩
theorem CodeAt.up {w w' : World} {bv : Value} {n : Nat} (h : CodeAt w w.heap.size bv n) (hb : Below w.heap.size w w') : CodeAt w' w'.heap.size bv n := by
  refine ⟨h.1, ?_⟩
  rcases h.2 with h | ⟨b, off, cap, rfl, hlt, hc⟩
  · exact .inl h
  · refine .inr ⟨b, off, cap, rfl, by have := hb.size; omega, fun k hk => ?_⟩
    obtain ⟨x, h1, h2⟩ := hc k hk
    exact ⟨x, by rw [hb.cell (p := ⟨b, off + k, none⟩) hlt]; exact h1, h2⟩
def BytesIn (w : World) (v : Value) (n : Nat) : Prop :=
  n ≤ maxLen ∧ ((∃ a cap, v = .slice a 0 cap ∧ n = 0) ∨ ∃ b off cap, v = .slice (some ⟨b, off, none⟩) n cap ∧ b < w.heap.size ∧ ∀ k, k < n → ∃ x : Int, w.cell? ⟨b, off + k, none⟩ = some (.int .u8 x) ∧ 0 ≤ x ∧ x < 256)
theorem BytesIn.slice {w : World} {v : Value} {n : Nat} (h : BytesIn w v n) : ∃ a cap, v = .slice a n cap := by
  rcases h.2 with ⟨a, cap, rfl, rfl⟩ | ⟨b, off, cap, rfl, _⟩
  · exact ⟨_, _, rfl⟩
  · exact ⟨_, _, rfl⟩
theorem BytesIn.code {w : World} {v : Value} {n : Nat} (h : BytesIn w v n) (hn : n ≤ 1048576) : CodeAt w w.heap.size v n := ⟨hn, h.2⟩
theorem bytes_of_trod {H : Type} {enc : TypeId × Value → H} {w : World} {fuel : Nat} {v : Value} {x : DataW H × List MemPlace}
    (h : DataW.trod enc Tryz.prog w 0 (fun _ => true) true fuel 40 [v] = some x) (hlt : ∀ p ∈ x.2, p.block < w.heap.size) : ∃ n, BytesIn w v n := by
  have hc : Tryz.prog.cellsOf 5 = 1 := by kernel_rfl
  rcases open_ints Tryz.underlying40 Tryz.underlying5 hc h with ⟨hcs, hx⟩ | ⟨a, len, cap, zs, hcs, _, hl, hm, hz, hx, hcell, hwz⟩
  · simp only [List.cons.injEq, and_true] at hcs
    exact ⟨0, Nat.zero_le _, .inl ⟨none, 0, hcs, rfl⟩⟩
  · simp only [List.cons.injEq, and_true] at hcs
    simp only [if_true] at hz
    refine ⟨len, Nat.le_trans hl hm, ?_⟩
    by_cases h0 : len = 0
    · subst h0; exact .inl ⟨some a, cap, hcs, rfl⟩
    · obtain ⟨ab, ao, spot⟩ := a
      have hspot : spot = none := by simpa [Addr.add] using World.cell?_spot (hcell 0 (by omega))
      subst hspot
      refine .inr ⟨ab, ao, cap, hcs, ?_, fun k hk => ?_⟩
      · rw [hx] at hlt
        exact hlt (.cell ab (ao + 0)) (by simp only [MemPlace.row, List.mem_map, List.mem_range]; exact ⟨0, by omega, rfl⟩)
      · have h1 := hcell k (by omega)
        rw [Addr.add_lit] at h1
        have hb := range_u8 hwz k
        rw [List.getD_eq_getElem?_getD] at h1
        exact ⟨_, h1, hb.1, by omega⟩
end Go.Proofs.YtkidabedcgngcaaGreatDoor

/-
  Cells that come in: szCell, toCell, szCellS, toCellS; slices of cells opened.
-/
namespace Go.Proofs.YtkidabedcgngcaaGreatDoor
open Go.ChangeShapes Go.WideShapes Go.ChangeAt Go.RowKit Go.Deep
set_option linter.unusedVariables false
set_option linter.unusedSimpArgs false
set_option maxRecDepth 100000

set_option maxHeartbeats 400000 in
theorem szCell_core (r f q v : ByteArray) (t left : Int) (w : World) (hr : r.size ≤ maxLen) (hf : f.size ≤ maxLen) (hq : q.size ≤ maxLen) (hv : v.size ≤ maxLen) (h0 : 0 ≤ left) (h1 : left ≤ 2 ^ 40) :
    Calls Tryz.prog 23 #[.agg #[.string r, .string f, .string q, .int .u64 t, .string v], .int .i64 left] w fun e w' =>
      ∃ x, e = .returned (.int .i64 x) ∧ (x = -1 ∨ (0 ≤ x ∧ x + r.size + f.size + q.size + v.size = left)) ∧ Below w.heap.size w w' := by
  unfold maxLen at hr hf hq hv
  go_enter Tryz.func23, Tryz.ntmps23
  go_wp2
  · go_ret
    exact ⟨_, rfl, .inl rfl, (Below.refl _ _).alloc (Nat.le_refl _) _⟩
  · go_ret
    exact ⟨_, rfl, .inl rfl, (Below.refl _ _).alloc (Nat.le_refl _) _⟩
  · go_ret
    exact ⟨_, rfl, .inl rfl, (Below.refl _ _).alloc (Nat.le_refl _) _⟩
  · go_ret
    exact ⟨_, rfl, .inl rfl, (Below.refl _ _).alloc (Nat.le_refl _) _⟩
  · go_ret
    exact ⟨_, rfl, .inr ⟨by assumption, by omega⟩, (Below.refl _ _).alloc (Nat.le_refl _) _⟩

set_option maxHeartbeats 400000 in
theorem toCell_core (r f q v : ByteArray) (t : Int) (w : World) :
    Calls Tryz.prog 27 #[.agg #[.string r, .string f, .string q, .int .u64 t, .string v]] w fun e w' =>
      e = .returned (.agg #[.string r, .string f, .string q, .int .u64 t, .string v]) ∧ Below w.heap.size w w' := by
  go_enter Tryz.func27, Tryz.ntmps27
  go_wp2
  refine bodyPost_ret (v := .agg #[.string r, .string f, .string q, .int .u64 t, .string v]) (by simp [results, Tryz.results27, go_sem]) rfl ⟨rfl, ?_⟩
  exact (((Below.refl _ _).alloc (Nat.le_refl _) _).alloc (by simp) _).alloc (by simp; omega) _

theorem Tryz.cellsCel : Tryz.prog.cellsOf 51 = 5 := by kernel_rfl
theorem list5 {α : Type} {cs : List α} (h : cs.length = 5) : ∃ c0 c1 c2 c3 c4, cs = [c0, c1, c2, c3, c4] := by
  match cs, h with
  | [c0, c1, c2, c3, c4], _ => exact ⟨c0, c1, c2, c3, c4, rfl⟩
theorem cel_of_trod {H : Type} {enc : TypeId × Value → H} {w : World} {base : Nat} {spare : Nat → Bool} {held : Bool} {fuel : Nat} {cs : List Value} {x : DataW H × List MemPlace}
    (h : DataW.trod enc Tryz.prog w base spare held fuel 51 cs = some x) :
    ∃ e : Ent, e.ok ∧ cs = [.string e.row, .string e.fam, .string e.qual, .int .u64 e.ts, .string e.val] := by
  obtain ⟨xs, n, _, _, hl, hlen, hf⟩ := DataW.trod_struct Tryz.underlying51 h
  rw [Tryz.cellsCel] at hl
  obtain ⟨c0, c1, c2, c3, c5, rfl⟩ := list5 hl
  obtain ⟨x0, x1, x2, x3, x5, rfl⟩ := list5 (cs := xs) hlen
  have h0 := hf 0 _ rfl
  have h1 := hf 1 _ rfl
  have h2 := hf 2 _ rfl
  have h3 := hf 3 _ rfl
  have h5 := hf 4 _ rfl
  simp [Tryz.cellsStr, Tryz.cellsU64] at h0 h1 h2 h3 h5
  obtain ⟨a0, e0, _, b0⟩ := DataW.trod_string Tryz.underlying9 h0
  obtain ⟨a1, e1, _, b1⟩ := DataW.trod_string Tryz.underlying9 h1
  obtain ⟨a2, e2, _, b2⟩ := DataW.trod_string Tryz.underlying9 h2
  obtain ⟨a3, e3, _, b3⟩ := DataW.trod_int Tryz.underlying49 h3
  obtain ⟨a5, e5, _, b5⟩ := DataW.trod_string Tryz.underlying9 h5
  simp only [List.cons.injEq, and_true] at e0 e1 e2 e3 e5
  exact ⟨⟨a0, a1, a2, a3, 0, a5⟩, ⟨b0, b1, b2, b5, b3, (show (Lit.int .i64 0).wf = true by decide)⟩, by rw [e0, e1, e2, e3, e5]⟩

/-- What is read of a slice of cells that came in. -/
def InCels (w : World) (v : Value) (es : List Ent) : Prop :=
  (∃ a cap, v = .slice a 0 cap ∧ es = []) ∨
  ∃ b off cap, v = .slice (some ⟨b, off, none⟩) es.length cap ∧ CelsAt w b off es ∧ b < w.heap.size ∧ es.length ≤ cap ∧ cap ≤ maxLen
theorem InCels.below {B : Nat} {w w' : World} {v : Value} {es : List Ent} (h : InCels w v es) (hb : Below B w w') (hB : w.heap.size ≤ B) : InCels w' v es := by
  rcases h with h | ⟨b, off, cap, hv, hE, hlt, h1, h2⟩
  · exact .inl h
  · exact .inr ⟨b, off, cap, hv, hE.below hb (by omega), by have := hb.size; omega, h1, h2⟩
theorem cels_of_trod {H : Type} {enc : TypeId × Value → H} {w : World} {base : Nat} {held : Bool} {fuel : Nat} {v : Value} {x : DataW H × List MemPlace}
    (h : DataW.trod enc Tryz.prog w base (fun _ => true) held fuel 25 [v] = some x) : ∃ es : List Ent, InCels w v es ∧ ∀ e ∈ es, e.ok := by
  rcases open_slice Tryz.underlying25 h with ⟨hcs, _⟩ | ⟨a, len, cap, m, n, D, Pl, hcs, hba, hl, hm, hmm, _, hel⟩
  · simp only [List.cons.injEq, and_true] at hcs
    exact ⟨[], .inl ⟨none, 0, hcs, rfl⟩, by simp⟩
  · simp only [List.cons.injEq, and_true] at hcs
    subst hcs
    rw [if_pos rfl] at hmm
    subst hmm
    have hel6 : ∀ i, i < m → ∃ cs', w.cells? base (a.add (i * 5)) 5 = some cs' ∧ DataW.trod enc Tryz.prog w base (fun _ => true) held n 51 cs' = some (D i, Pl i) := fun i hi => by
      have := hel i hi
      rw [Tryz.cellsCel] at this
      exact this
    clear hel
    have HM : Hid (m ≤ maxLen) := hm
    clear hm
    by_cases h0 : len = 0
    · subst h0; exact ⟨[], .inl ⟨_, _, rfl, rfl⟩, by simp⟩
    · obtain ⟨b, off, spot⟩ := a
      have hspot : spot = none := by
        obtain ⟨cs', hc, _⟩ := hel6 0 (by omega)
        obtain ⟨_, hlen, hget⟩ := World.cells?_some hc
        have h1 := hget 0 (by omega)
        have h2 : (w.cell? ((Addr.add ⟨b, off, spot⟩ (0 * 5)).add 0)).isSome = true := by rw [h1]; simp; omega
        obtain ⟨u, hu⟩ := Option.isSome_iff_exists.1 h2
        simpa [Addr.add] using World.cell?_spot hu
      subst hspot
      obtain ⟨es, hes, hp⟩ := list_of_forall (P := fun i (e : Ent) => e.ok ∧ (w.cell? ⟨b, off + i * 5, none⟩ = some (.string e.row) ∧ w.cell? ⟨b, off + i * 5 + 1, none⟩ = some (.string e.fam) ∧ w.cell? ⟨b, off + i * 5 + 2, none⟩ = some (.string e.qual) ∧
          w.cell? ⟨b, off + i * 5 + 3, none⟩ = some (.int .u64 e.ts) ∧ w.cell? ⟨b, off + i * 5 + 4, none⟩ = some (.string e.val))) len (fun i hi => by
        obtain ⟨cs', hc, ht⟩ := hel6 i (by omega)
        obtain ⟨e, ok, rfl⟩ := cel_of_trod ht
        obtain ⟨_, hlen, hget⟩ := World.cells?_some hc
        refine ⟨e, ok, ?_, ?_, ?_, ?_, ?_⟩
        · simpa [Addr.add_mid] using hget 0 (by omega)
        · simpa [Addr.add_mid] using hget 1 (by omega)
        · simpa [Addr.add_mid] using hget 2 (by omega)
        · simpa [Addr.add_mid] using hget 3 (by omega)
        · simpa [Addr.add_mid] using hget 4 (by omega))
      have hlt : b < w.heap.size := by
        obtain ⟨cs', hc, _⟩ := hel6 0 (by omega)
        simpa [Addr.add] using World.cells?_block hc (by omega)
      subst hes
      refine ⟨es, .inr ⟨b, off, m, rfl, fun i e he => (hp i e he).2, hlt, hl, HM.out⟩, fun e he => ?_⟩
      obtain ⟨i, hi⟩ := List.getElem?_of_mem he
      exact (hp i e hi).1

set_option maxHeartbeats 400000 in
theorem szCellS_core (b off cap : Nat) (es : List Ent) (left : Int) (w : World) (hE : CelsAt w b off es) (hok : ∀ e ∈ es, e.ok) (hB : b < w.heap.size) (hlen : es.length ≤ cap) (hcap : cap ≤ maxLen) (h0 : 0 ≤ left) (h1 : left ≤ 2 ^ 40) :
    Calls Tryz.prog 6 #[.slice (some ⟨b, off, none⟩) es.length cap, .int .i64 left] w fun e w' =>
      ∃ x, e = .returned (.int .i64 x) ∧ (x = -1 ∨ (0 ≤ x ∧ x + es.length ≤ left)) ∧ Below w.heap.size w w' := by
  have HE : Hid (CelsAt w b off es) := hE
  have HO : Hid (∀ e ∈ es, e.ok) := hok
  clear hE hok
  unfold maxLen at hcap
  by_cases hle : left < es.length
  · have hle' : left - es.length < 0 := by omega
    go_enter Tryz.func6, Tryz.ntmps6
    go_wp2
    go_ret
    exact ⟨_, rfl, .inl rfl, Below.refl _ _⟩
  have hle' : 0 ≤ left - es.length := by omega
  go_enter Tryz.func6, Tryz.ntmps6
  go_wp2
  go_loopw [1, 5] (fun l i wr => ∃ (k : Nat) (x : Int), k ≤ es.length ∧ i = .int .i64 k ∧ l = .int .i64 x ∧ 0 ≤ x ∧ x + es.length ≤ left ∧ Below w.heap.size w wr) (fun _ i _ => es.length - (intOf i).toNat)
  case atStart => exact ⟨0, _, Nat.zero_le _, rfl, rfl, hle', by omega, Below.refl _ _⟩
  case round =>
    obtain ⟨k, x, hk, rfl, rfl, hx0, hx1, hb⟩ := hrel
    by_cases hlt : k < es.length
    · obtain ⟨e, he⟩ : ∃ e, es[k]? = some e := ⟨_, List.getElem?_eq_getElem hlt⟩
      obtain ⟨c0, c1, c2, c3, c5⟩ := (HE.out.below hb hB) k e he
      have ok := HO.out e (List.mem_of_getElem? he)
      have HK : Hid e.ok := ok
      clear ok he
      go_wp2_with fail
      refine (szCell_core e.row e.fam e.qual e.val e.ts _ _ HK.out.row HK.out.fam HK.out.qual HK.out.val (by omega) (by omega)).mono ?_
      rintro e w1 ⟨y, rfl, hy, hb1⟩
      have hsz := hb.size
      have hb2 := hb.trans (hb1.mono hsz)
      clear c0 c1 c2 c3 c5 hb1
      by_cases hy0 : y < 0
      · go_wp2_with fail
        go_ret
        exact ⟨_, rfl, .inl rfl, hb2⟩
      · have hy1 : 0 ≤ y := by omega
        have hy2 : y + es.length ≤ left := by omega
        go_wp2_with fail
        go_roundw
        case rel => exact ⟨k + 1, y, by omega, by go_num, rfl, hy1, hy2, hb2⟩
        case measure => simp [intOf]; omega
    · go_wp2
      go_ret
      exact ⟨_, rfl, .inr ⟨hx0, hx1⟩, hb⟩
set_option maxHeartbeats 400000 in
theorem szCellS_zero (a : Option Addr) (cap : Nat) (left : Int) (w : World) (h0 : 0 ≤ left) (h1 : left ≤ 2 ^ 40) :
    Calls Tryz.prog 6 #[.slice a 0 cap, .int .i64 left] w fun e w' => e = .returned (.int .i64 left) ∧ Below w.heap.size w w' := by
  go_enter Tryz.func6, Tryz.ntmps6
  go_wp2
  go_loopw [1, 5] (fun l i wr => l = .int .i64 left ∧ i = .int .i64 0 ∧ Below w.heap.size w wr) (fun _ i _ => 0)
  case atStart => exact ⟨rfl, rfl, Below.refl _ _⟩
  case round =>
    obtain ⟨rfl, rfl, hb⟩ := hrel
    go_wp2_with fail
    go_ret
    exact ⟨rfl, hb⟩
theorem szCellS_any (v : Value) (es : List Ent) (left : Int) (w : World) (h : InCels w v es) (hok : ∀ e ∈ es, e.ok) (h0 : 0 ≤ left) (h1 : left ≤ 2 ^ 40) :
    Calls Tryz.prog 6 #[v, .int .i64 left] w fun e w' =>
      ∃ x, e = .returned (.int .i64 x) ∧ (x = -1 ∨ (0 ≤ x ∧ x + es.length ≤ left)) ∧ Below w.heap.size w w' := by
  rcases h with ⟨a, cap, rfl, rfl⟩ | ⟨b, off, cap, rfl, hE, hlt, g1, g2⟩
  · exact (szCellS_zero a cap left w h0 h1).mono fun e w' ⟨he, hb⟩ => ⟨left, he, .inr ⟨h0, by simp⟩, hb⟩
  · exact szCellS_core b off cap es left w hE hok hlt g1 g2 h0 h1

theorem made_zeroC (n : Nat) : (madeCells #[.string ⟨#[]⟩, .string ⟨#[]⟩, .string ⟨#[]⟩, .int .u64 0, .string ⟨#[]⟩] (n * 5)).toList = cellsC (List.replicate n zeroE) := by
  apply List.ext_getElem?
  intro j
  by_cases hj : j < n * 5
  · have h := cellsC_get (List.replicate n zeroE) (j / 5) zeroE (by rw [List.getElem?_replicate, if_pos (by omega)]) (j % 5) (Nat.mod_lt _ (by omega))
    rw [show j / 5 * 5 + j % 5 = j by omega] at h
    rw [h]
    have h6 : j % 5 < 5 := Nat.mod_lt _ (by omega)
    simp [madeCells, hj]
    generalize j % 5 = m at *
    match m, h6 with
    | 0, _ => rfl
    | 1, _ => rfl
    | 2, _ => rfl
    | 3, _ => rfl
    | 4, _ => rfl
  · have h1 : (cellsC (List.replicate n zeroE)).length ≤ j := by rw [length_cellsC, List.length_replicate]; omega
    rw [List.getElem?_eq_none h1]
    simp [madeCells, hj]
/-- An entry that has the cell of another. -/
theorem OwnC.put {w : World} {base g cap : Nat} {es : List Ent} (h : OwnC w base g cap es) (k : Nat) (f e : Ent) (hk : es[k]? = some f) :
    OwnC (((((w.setCell ⟨g, k * 5, none⟩ (.string e.row)).setCell ⟨g, k * 5 + 1, none⟩ (.string e.fam)).setCell ⟨g, k * 5 + 2, none⟩ (.string e.qual)).setCell ⟨g, k * 5 + 3, none⟩ (.int .u64 e.ts)).setCell ⟨g, k * 5 + 4, none⟩ (.string e.val)) base g cap (es.set k e) := by
  have hlt : k < es.length := (List.getElem?_eq_some_iff.1 hk).1
  have g1 := h.set k 0 f { f with row := e.row } (.string e.row) hk (by omega) rfl
  have g2 := g1.set k 1 { f with row := e.row } { f with row := e.row, fam := e.fam } (.string e.fam) (by simp [hlt]) (by omega) rfl
  have g3 := g2.set k 2 { f with row := e.row, fam := e.fam } { f with row := e.row, fam := e.fam, qual := e.qual } (.string e.qual) (by simp [hlt]) (by omega) rfl
  have g4 := g3.set k 3 { f with row := e.row, fam := e.fam, qual := e.qual } { f with row := e.row, fam := e.fam, qual := e.qual, ts := e.ts } (.int .u64 e.ts) (by simp [hlt]) (by omega) rfl
  have g5 := g4.set k 4 { f with row := e.row, fam := e.fam, qual := e.qual, ts := e.ts } e (.string e.val) (by simp [hlt]) (by omega) rfl
  simpa only [List.set_set, Nat.add_zero] using g5
theorem below_put5 {B : Nat} {a w : World} (h : Below B a w) {g : Nat} (hg : B ≤ g) (o0 o1 o2 o3 o4 : Nat) (v0 v1 v2 v3 v4 : Value) :
    Below B a (((((w.setCell ⟨g, o0, none⟩ v0).setCell ⟨g, o1, none⟩ v1).setCell ⟨g, o2, none⟩ v2).setCell ⟨g, o3, none⟩ v3).setCell ⟨g, o4, none⟩ v4) :=
  ((((h.setCell hg _).setCell hg _).setCell hg _).setCell hg _).setCell hg _

set_option maxHeartbeats 400000 in
theorem toCellS_core (b off cap : Nat) (es : List Ent) (w : World) (hE : CelsAt w b off es) (hB : b < w.heap.size) (hlen : es.length ≤ cap) (hcap : cap ≤ maxLen) (h1 : es.length ≤ 1048576) :
    Calls Tryz.prog 9 #[.slice (some ⟨b, off, none⟩) es.length cap] w fun e w' =>
      ∃ g, e = .returned (.slice (some ⟨g, 0, none⟩) es.length es.length) ∧ OwnC w' w.heap.size g es.length es ∧ Below w.heap.size w w' := by
  have HE : Hid (CelsAt w b off es) := hE
  clear hE
  unfold maxLen at hcap
  obtain ⟨i, hi, hz0, hz1, hz2⟩ := info_parts Tryz.infoCel
  have HI : Hid (Tryz.prog.info? 55 = some i ∧ i.zero = some (.agg #[.string ⟨#[]⟩, .string ⟨#[]⟩, .string ⟨#[]⟩, .int .u64 0, .string ⟨#[]⟩]) ∧ i.size = 5 ∧ i.bytes = 72) := ⟨hi, hz0, hz1, hz2⟩
  clear hi hz0 hz1 hz2
  go_enter Tryz.func9, Tryz.ntmps9
  go_wp2_with (at_make; refine wpList_make_full _ rfl _ _ 28 rfl w.heap.size 55 i _ 5 Tryz.underlying28 HI.out.1 HI.out.2.1 HI.out.2.2.1 _ _ _ _ es.length rfl rfl ?_ ?_ ?hb ?hm ?hs ?_)
  case hb => rw [HI.out.2.2.2]; omega
  case hm => unfold maxLen; omega
  case hs => exact Nat.le_refl _
  · rfl
  · rfl
  intro w1 hown hgrow
  rw [made_zeroC] at hown
  have hown1 : OwnC w1 w.heap.size w.heap.size es.length (List.replicate es.length zeroE) := by
    unfold OwnC; rw [List.length_replicate]; exact hown
  have HW : Hid (OwnC w1 w.heap.size w.heap.size es.length (List.replicate es.length zeroE)) := hown1
  have hb1 : Below w.heap.size w w1 := (Below.refl _ _).grown hgrow (Nat.le_refl _) (fun k hk => by cases hk)
  clear hown hown1 hgrow
  go_wp2_with fail
  go_loopw [4] (fun i wr => ∃ (k : Nat) (fs : List Ent), k ≤ es.length ∧ i = .int .i64 k ∧ fs.length = es.length ∧ fs.take k = es.take k ∧ OwnC wr w.heap.size w.heap.size es.length fs ∧ Below w.heap.size w wr) (fun i _ => es.length - (intOf i).toNat)
  case atStart => exact ⟨0, _, Nat.zero_le _, rfl, List.length_replicate .., rfl, HW.out, hb1⟩
  case round =>
    obtain ⟨k, fs, hk, rfl, hfl, hft, hO, hb⟩ := hrel
    have HO : Hid (fs.length = es.length ∧ fs.take k = es.take k ∧ OwnC wr w.heap.size w.heap.size es.length fs) := ⟨hfl, hft, hO⟩
    clear hfl hft hO
    by_cases hlt : k < es.length
    · obtain ⟨e, he⟩ : ∃ e, es[k]? = some e := ⟨_, List.getElem?_eq_getElem hlt⟩
      obtain ⟨c0, c1, c2, c3, c5⟩ := (HE.out.below hb hB) k e he
      have HG : Hid (es[k]? = some e) := he
      clear he
      go_wp2_with fail
      refine (toCell_core e.row e.fam e.qual e.val e.ts _).mono ?_
      rintro e' w2 ⟨rfl, hb2⟩
      have hO2 := (HO.out.2.2).below hb2 (HO.out.2.2).lt.2
      obtain ⟨f, hf⟩ : ∃ f, fs[k]? = some f := ⟨_, List.getElem?_eq_getElem (by rw [HO.out.1]; exact hlt)⟩
      obtain ⟨d0, d1, d2, d3, d5⟩ := hO2.at k f hf
      simp only [Nat.zero_add] at d0 d1 d2 d3 d5
      have hfz := fun j => World.ownsRow.frozenAt hO2 j
      have HO2 : Hid (OwnC w2 w.heap.size w.heap.size es.length fs ∧ fs[k]? = some f) := ⟨hO2, hf⟩
      clear hO2 hf c0 c1 c2 c3 c5
      go_wp2_with fail
      go_roundw
      case rel => exact ⟨k + 1, fs.set k e, by omega, by go_num, by rw [List.length_set]; exact HO.out.1, take_set_succ HO.out.2.1 HO.out.1 HG.out, HO2.out.1.put k f e HO2.out.2, below_put5 (hb.trans (hb2.mono hb.size)) (Nat.le_refl _) _ _ _ _ _ _ _ _ _ _⟩
      case measure => simp [intOf]; omega
    · have hfs : fs = es := by
        have h := HO.out.2.1
        rw [List.take_of_length_le (by have := HO.out.1; omega), List.take_of_length_le (by omega)] at h
        exact h
      go_wp2
      go_ret
      exact ⟨_, rfl, by rw [← hfs] at HO ⊢; exact HO.out.2.2, hb⟩
set_option maxHeartbeats 400000 in
theorem toCellS_zero (a : Option Addr) (cap : Nat) (w : World) :
    Calls Tryz.prog 9 #[.slice a 0 cap] w fun e w' =>
      ∃ g, e = .returned (.slice (some ⟨g, 0, none⟩) 0 0) ∧ OwnC w' w.heap.size g 0 [] ∧ Below w.heap.size w w' := by
  obtain ⟨i, hi, hz0, hz1, hz2⟩ := info_parts Tryz.infoCel
  have HI : Hid (Tryz.prog.info? 55 = some i ∧ i.zero = some (.agg #[.string ⟨#[]⟩, .string ⟨#[]⟩, .string ⟨#[]⟩, .int .u64 0, .string ⟨#[]⟩]) ∧ i.size = 5 ∧ i.bytes = 72) := ⟨hi, hz0, hz1, hz2⟩
  clear hi hz0 hz1 hz2
  go_enter Tryz.func9, Tryz.ntmps9
  go_wp2_with (at_make; refine wpList_make_full _ rfl _ _ 28 rfl w.heap.size 55 i _ 5 Tryz.underlying28 HI.out.1 HI.out.2.1 HI.out.2.2.1 _ _ _ _ 0 rfl rfl ?_ ?_ ?hb ?hm ?hs ?_)
  case hb => rw [HI.out.2.2.2]; omega
  case hm => unfold maxLen; omega
  case hs => exact Nat.le_refl _
  · rfl
  · rfl
  intro w1 hown hgrow
  have HW : Hid (OwnC w1 w.heap.size w.heap.size 0 []) := by
    have h0 := made_zeroC 0
    rw [Nat.zero_mul] at h0
    rw [h0] at hown
    exact hown
  have hb1 : Below w.heap.size w w1 := (Below.refl _ _).grown hgrow (Nat.le_refl _) (fun k hk => by cases hk)
  clear hown hgrow
  go_wp2_with fail
  go_loopw [4] (fun i wr => i = .int .i64 0 ∧ wr = w1) (fun i _ => 0)
  case atStart => exact ⟨rfl, rfl⟩
  case round =>
    obtain ⟨rfl, rfl⟩ := hrel
    go_wp2_with fail
    go_ret
    exact ⟨_, rfl, HW.out, hb1⟩
theorem toCellS_any (v : Value) (es : List Ent) (w : World) (h : InCels w v es) (h1 : es.length ≤ 1048576) :
    Calls Tryz.prog 9 #[v] w fun e w' =>
      ∃ g, e = .returned (.slice (some ⟨g, 0, none⟩) es.length es.length) ∧ OwnC w' w.heap.size g es.length es ∧ Below w.heap.size w w' := by
  rcases h with ⟨a, cap, rfl, rfl⟩ | ⟨b, off, cap, rfl, hE, hlt, g1, g2⟩
  · exact toCellS_zero a cap w
  · exact toCellS_core b off cap es w hE hlt g1 g2 h1
end Go.Proofs.YtkidabedcgngcaaGreatDoor

/-
  DrawMeaning.
-/
namespace Go.Proofs.YtkidabedcgngcaaGreatDoor
open Go.ChangeShapes Go.WideShapes Go.ChangeAt Go.RowKit Go.Deep
set_option linter.unusedVariables false
set_option linter.unusedSimpArgs false
set_option maxRecDepth 100000

/-- A filter and cells drawn. -/
def DmeP (w : World) (e : Ending) (w' : World) : Prop := ∃ (b o c : Nat) (ys : List Nd) (g cp : Nat) (L : List Ent), e = .returned (.tuple #[.agg #[.slice (some ⟨b, o, none⟩) ys.length c], .slice (some ⟨g, 0, none⟩) L.length cp]) ∧ ys.length ≤ 1001 ∧ L.length ≤ 100 ∧ Hid (((∀ e ∈ ys, e.ok) ∧ NdsAt w' b o ys ∧ (w.heap.size ≤ b ∧ b < w'.heap.size) ∧ (ys.length ≤ c ∧ c ≤ maxLen)) ∧ (OwnC w' w.heap.size g cp L ∧ (∀ e ∈ L, e.ok) ∧ (∀ e ∈ L, e.kind = 0)) ∧ Below w.heap.size w w')
/-- Under way: the filter lies in its variable. -/
structure DmI (base cb : Nat) (bv : Value) (n : Nat) (w w1 : World) (tb b o c : Nat) (ys : List Nd) (wr : World) : Prop where
  d : DInv base cb bv n w1 wr
  low : Below w.heap.size w w1
  cb_ : w.heap.size < cb
  res : BoxAt wr w.heap.size 32 1 w.heap.size [.slice none 0 0]
  var : BoxAt wr w.heap.size 32 1 tb [.slice (some ⟨b, o, none⟩) ys.length c]
  nds : NdsAt wr b o ys
  blk : w1.heap.size ≤ b ∧ b < wr.heap.size ∧ ¬ b = tb
  tb_ : w1.heap.size ≤ tb
  ok : ∀ e ∈ ys, e.ok
  len : ys.length ≤ 1001
  cap : ys.length ≤ c ∧ c ≤ maxLen
theorem DmI.call {base cb : Nat} {bv : Value} {n : Nat} {w w1 : World} {tb b o c : Nat} {ys : List Nd} {wr wx : World} (h : DmI base cb bv n w w1 tb b o c ys wr) (hd : DInv base cb bv n wr wx) : DmI base cb bv n w w1 tb b o c ys wx := by
  have h1 := h.d.lt
  have h2 := h.low.size
  have h3 := h.blk
  have h4 := h.tb_
  have h5 := h.cb_
  exact ⟨h.d.trans hd, h.low, h.cb_, h.res.chg hd.c (by omega), h.var.chg hd.c (by omega), h.nds.chg hd.c h3.2.1 (by omega), ⟨h3.1, Nat.lt_of_lt_of_le h3.2.1 hd.c.size, h3.2.2⟩, h4, h.ok, h.len, h.cap⟩
theorem chg_low {base cb : Nat} {bv : Value} {n : Nat} {w w1 wr : World} (h : DInv base cb bv n w1 wr) (hl : Below w.heap.size w w1) (hc : w.heap.size < cb) : Below w.heap.size w wr := Chg.below hl h.c hl.size (fun k q => by omega)
theorem DmI.fin {base cb : Nat} {bv : Value} {n : Nat} {w w1 : World} {tb b o c : Nat} {ys : List Nd} {wr : World} (h : DmI base cb bv n w w1 tb b o c ys wr) {gl cl : Nat} {L : List Ent} (hO : OwnC wr w1.heap.size gl cl L) (hl : L.length ≤ 100) (hok : ∀ e ∈ L, e.ok) (hk : ∀ e ∈ L, e.kind = 0) (M K : Nat) (hM : M = ys.length) (hK : K = L.length) (WF : World) (hWF : WF = wr.setCell ⟨w.heap.size, 0, none⟩ (.slice (some ⟨b, o, none⟩) M c)) :
    WF.cell? ⟨w.heap.size, 0, none⟩ = some (.slice (some ⟨b, o, none⟩) M c) ∧ DmeP w (.returned (.tuple #[.agg #[.slice (some ⟨b, o, none⟩) M c], .slice (some ⟨gl, 0, none⟩) K cl])) WF := by
  subst hM hK
  have h2 := h.low.size
  have h3 := h.blk
  have hr := h.res.lt
  have hgl := hO.lt
  have hw1 : w.heap.size < w1.heap.size := by have := h.d.lt; have := h.cb_; omega
  have hcF : Chg (fun k => k = w.heap.size) wr WF := by rw [hWF]; exact Chg.of_set _ _ _ _ rfl
  refine ⟨by rw [hWF]; exact (h.res.set 0 (.slice (some ⟨b, o, none⟩) ys.length c)).cell (j := 0) rfl, b, o, c, ys, gl, cl, L, rfl, h.len, hl, ⟨h.ok, h.nds.chg hcF h3.2.1 (by omega), ⟨by omega, Nat.lt_of_lt_of_le h3.2.1 hcF.size⟩, h.cap⟩, ⟨own_chg (hO.mono h2) hcF (fun k q z => by simp [Value.ownBlock] at q; omega), hok, hk⟩, Chg.below (chg_low h.d h.low h.cb_) hcF (chg_low h.d h.low h.cb_).size (fun k q => by omega)⟩
theorem DmI.copy {base cb : Nat} {bv : Value} {n : Nat} {w w1 : World} {tb b o c : Nat} {ys : List Nd} {wr : World} (h : DmI base cb bv n w w1 tb b o c ys wr) {gl cl : Nat} {L : List Ent} (hO : OwnC wr w1.heap.size gl cl L) (hg : b < gl ∧ tb < gl) {x0 x1 : Ent} (hx : L[0]? = some x0) (W9 : World) (h9 : W9 = (((((wr.setCell ⟨gl, 0, none⟩ (.string x1.row)).setCell ⟨gl, 1, none⟩ (.string x1.fam)).setCell ⟨gl, 2, none⟩ (.string x1.qual)).setCell ⟨gl, 3, none⟩ (.int .u64 x1.ts)).setCell ⟨gl, 4, none⟩ (.string x1.val))) :
    DmI base cb bv n w w1 tb b o c ys W9 ∧ OwnC W9 w1.heap.size gl cl (L.set 0 x1) := by
  have hp := hO.put 0 x0 x1 hx
  simp only [Nat.zero_mul, Nat.zero_add] at hp
  rw [← h9] at hp
  have hgl := hO.lt
  have h1 := h.d.lt
  have h2 := h.low.size
  have h5 := h.cb_
  have h3 := h.blk
  have hbb := h.d.hb
  have hc9 : Chg (fun k => k = gl) wr W9 := by
    rw [h9]
    exact ((((Chg.of_set (S := fun k => k = gl) _ _ _ _ rfl).trans (Chg.of_set (S := fun k => k = gl) _ _ _ _ rfl)).trans (Chg.of_set (S := fun k => k = gl) _ _ _ _ rfl)).trans (Chg.of_set (S := fun k => k = gl) _ _ _ _ rfl)).trans (Chg.of_set (S := fun k => k = gl) _ _ _ _ rfl)
  refine ⟨⟨⟨h.d.d.chg hc9 (by omega) (fun k q => by omega), ⟨hc9.os.trans h.d.c.os, hc9.tape.trans h.d.c.tape, hc9.output.trans h.d.c.output, Nat.le_trans h.d.c.size hc9.size, fun k hk hnk => (hc9.block k (Nat.lt_of_lt_of_le hk h.d.c.size) (by omega)).trans (h.d.c.block k hk hnk)⟩, h1, hbb⟩, h.low, h5, h.res.chg hc9 (by omega), h.var.chg hc9 (by omega), h.nds.chg hc9 h3.2.1 (by omega), ⟨h3.1, Nat.lt_of_lt_of_le h3.2.1 hc9.size, h3.2.2⟩, h.tb_, h.ok, h.len, h.cap⟩, hp⟩
set_option maxHeartbeats 8000000 in
theorem drawMeaning_core (bv : Value) (n : Nat) (w : World) (h : CodeAt w w.heap.size bv n) : Calls Tryz.prog 17 #[bv] w (DmeP w) := by
  obtain ⟨a, cap, rfl⟩ := h.slice
  have hn := h.1
  obtain ⟨W0, hW0⟩ : ∃ W0 : World, W0 = w.alloc (Obj.cells #[.slice none 0 0] 32) := ⟨_, rfl⟩
  have hb0 : Below w.heap.size w W0 := by rw [hW0]; exact (Below.refl _ _).alloc (Nat.le_refl _) _
  have hz0 : W0.heap.size = w.heap.size + 1 := by rw [hW0]; simp
  have H0 : Hid (CodeAt W0 W0.heap.size (.slice a n cap) n ∧ BoxAt W0 w.heap.size 32 1 w.heap.size [.slice none 0 0] ∧ Below w.heap.size w W0 ∧ W0.heap.size = w.heap.size + 1) := ⟨h.up hb0, by rw [hW0]; exact boxAt_new w #[.slice none 0 0] (Nat.le_refl _) rfl, hb0, hz0⟩
  clear h hb0 hz0
  go_enter Tryz.func17, Tryz.ntmps17
  go_wp2_with fail
  rw [← hW0]
  clear hW0
  refine (new_core _ n W0 H0.out.1).mono ?_
  rintro e w1 ⟨rfl, hD1, hb1⟩
  obtain ⟨cb, hcb⟩ : ∃ cb, cb = W0.heap.size := ⟨_, rfl⟩
  rw [← hcb] at hD1 ⊢
  have H1 : Hid (DrawAt cb cb (.slice a n cap) n w1 ∧ BoxAt w1 w.heap.size 32 1 w.heap.size [.slice none 0 0] ∧ Below w.heap.size w w1 ∧ w.heap.size < cb) := ⟨hD1, H0.out.2.1.below hb1, H0.out.2.2.1.trans (hb1.mono H0.out.2.2.1.size), by have := H0.out.2.2.2; show _ < _; omega⟩
  clear hD1 hb1 hcb H0
  go_wp2_with fail
  refine (drawFilter_core cb cb (.slice a n cap) n w1 H1.out.1).mono ?_
  rintro e w2 ⟨g, cp, xs, rfl, hl2, h02, K2⟩
  obtain ⟨N, hN⟩ : ∃ N, N = xs.length := ⟨_, rfl⟩
  have HN : Hid (N = xs.length) := hN
  rw [← hN] at hl2 h02 ⊢
  obtain ⟨tb, htb⟩ : ∃ tb, tb = w2.heap.size := ⟨_, rfl⟩
  obtain ⟨W3, hW3⟩ : ∃ W3 : World, W3 = w2.alloc (Obj.cells #[.slice (some ⟨g, 0, none⟩) N cp] 32) := ⟨_, rfl⟩
  have H3 : Hid (DmI cb cb (.slice a n cap) n w w1 tb g 0 cp xs W3) := by
    have k3 : Below w2.heap.size w2 W3 := by rw [hW3]; exact (Below.refl _ _).alloc (Nat.le_refl _) _
    have hz := H1.out.2.2.1.size
    have hgl := K2.out.2.1.lt
    have hz2 := K2.out.2.2.c.size
    have hcl := K2.out.2.2.lt
    have hcw := H1.out.2.2.2
    exact ⟨K2.out.2.2.below k3, H1.out.2.2.1, hcw, (H1.out.2.1.chg K2.out.2.2.c (by omega)).below k3, by rw [hW3, htb, ← hN]; exact boxAt_new w2 #[.slice (some ⟨g, 0, none⟩) N cp] (by omega) rfl, (K2.out.2.1.below k3 hgl.2).at, ⟨hgl.1, by have := k3.size; omega, by omega⟩, by omega, fun e he => (K2.out.1 e he).ok, by omega, K2.out.2.1.caps⟩
  clear K2 hN
  go_upto_region 3 with fail
  rw [← hW3, ← htb]
  clear hW3 htb
  go_wp2_with fail
  refine (once_core cb cb (.slice a n cap) n 12 _ H3.out.d.d (by omega) (by omega)).mono ?_
  rintro e w4 ⟨v, rfl, hv, hd4⟩
  have H4 : Hid (DmI cb cb (.slice a n cap) n w w1 tb g 0 cp xs w4) := H3.out.call ((DInv.start H3.out.d.d).call hd4)
  clear hd4 H3
  rcases hv with rfl | rfl
  · go_wp2_with fail
    refine (drawAny_core cb cb (.slice a n cap) n w4 H4.out.d.d).mono ?_
    rintro e w5 ⟨b, o, c, ys, rfl, hl5, K5⟩
    obtain ⟨M, hM⟩ : ∃ M, M = ys.length := ⟨_, rfl⟩
    have HM : Hid (M = ys.length) := hM
    rw [← hM]
    obtain ⟨W6, hW6⟩ : ∃ W6 : World, W6 = w5.setCell ⟨tb, 0, none⟩ (.slice (some ⟨b, o, none⟩) M c) := ⟨_, rfl⟩
    have H5 : Hid (DmI cb cb (.slice a n cap) n w w1 tb g 0 cp xs w5) := H4.out.call K5.out.2.2.2.2
    have H6 : Hid (DmI cb cb (.slice a n cap) n w w1 tb b o c ys W6) := by
      have hb5 := K5.out.2.2.1
      have hz4 := H4.out.d.c.size
      have htl := H4.out.var.lt.2
      have htb := H4.out.tb_
      have hlw := H4.out.low.size
      have hc6 : Chg (fun k => k = tb) w5 W6 := by rw [hW6]; exact Chg.of_set _ _ _ _ rfl
      have hv6 : BoxAt W6 w.heap.size 32 1 tb [.slice (some ⟨b, o, none⟩) ys.length c] := by rw [hW6, hM]; exact H5.out.var.set 0 _
      have hw1 : w.heap.size < w1.heap.size := by have := H4.out.d.lt; have := H4.out.cb_; omega
      exact ⟨by rw [hW6]; exact H5.out.d.grow (grown_set w5 tb 0 _) (fun k q => by cases q; omega), H4.out.low, H4.out.cb_, H5.out.res.chg hc6 (by omega), hv6, K5.out.2.1.chg hc6 hb5.2 (by omega), ⟨by omega, Nat.lt_of_lt_of_le hb5.2 hc6.size, by omega⟩, htb, K5.out.1, hl5, K5.out.2.2.2.1⟩
    have t0 := H5.out.var.cell (j := 0) rfl
    have tf := H5.out.var.frozen 0
    clear hM K5
    go_upto_region 5 with fail
    rw [← hW6]
    clear hW6 t0 tf H5
    go_wp2_with fail
    refine (drawCells_core cb cb a n cap _ H6.out.d.d hn).mono ?_
    rintro e w7 ⟨gl, cl, L, rfl, hL, K7⟩
    have H7 : Hid (DmI cb cb (.slice a n cap) n w w1 tb b o c ys w7 ∧ OwnC w7 w1.heap.size gl cl L ∧ (∀ e ∈ L, e.ok) ∧ (∀ e ∈ L, e.kind = 0)) := ⟨H6.out.call K7.out.2.1, K7.out.1.mono H6.out.d.c.size, K7.out.2.2.1, K7.out.2.2.2⟩
    have HG : Hid (b < gl ∧ tb < gl) := by
      have h1 := K7.out.1.lt.1
      have h2 := H6.out.blk.2.1
      have h3 := H6.out.var.lt.2
      exact ⟨by omega, by omega⟩
    obtain ⟨K, hK⟩ : ∃ K, K = L.length := ⟨_, rfl⟩
    have HK : Hid (K = L.length) := hK
    rw [← hK] at hL ⊢
    clear K7 hK
    have hclm : K ≤ cl ∧ cl ≤ 9223372036854775807 := by have := H7.out.2.1.caps; unfold maxLen at this; have := HK.out; omega
    go_wp2_with fail
    refine (once_core cb cb (.slice a n cap) n 25 _ H7.out.1.d.d (by omega) (by omega)).mono ?_
    rintro e w8 ⟨v, rfl, hv, hd8⟩
    have H8 : Hid (DmI cb cb (.slice a n cap) n w w1 tb b o c ys w8 ∧ OwnC w8 w1.heap.size gl cl L) := by
      have hd := (DInv.start H7.out.1.d.d).call hd8
      have hcl := H7.out.1.d.lt
      have hgl := H7.out.2.1.lt
      exact ⟨H7.out.1.call hd, own_chg H7.out.2.1 hd.c (fun k q z => by simp [Value.ownBlock] at q; omega)⟩
    clear hd8
    rcases hv with rfl | rfl
    · by_cases hK1 : 1 < K
      · have zk : (1 : Int) < (K : Int) := by omega
        obtain ⟨x0, hx0⟩ : ∃ x, L[0]? = some x := ⟨_, List.getElem?_eq_getElem (by have := HK.out; omega)⟩
        obtain ⟨x1, hx1⟩ : ∃ x, L[1]? = some x := ⟨_, List.getElem?_eq_getElem (by have := HK.out; omega)⟩
        obtain ⟨d0, d1, d2, d3, d4⟩ := H8.out.2.at 1 x1 hx1
        obtain ⟨e0, e1, e2, e3, e4⟩ := H8.out.2.at 0 x0 hx0
        simp only [Nat.zero_add, Nat.zero_mul, Nat.one_mul] at d0 d1 d2 d3 d4 e0 e1 e2 e3 e4
        have hfz := fun j => World.ownsRow.frozenAt H8.out.2 j
        obtain ⟨W9, hW9⟩ : ∃ W9 : World, W9 = (((((w8.setCell ⟨gl, 0, none⟩ (.string x1.row)).setCell ⟨gl, 1, none⟩ (.string x1.fam)).setCell ⟨gl, 2, none⟩ (.string x1.qual)).setCell ⟨gl, 3, none⟩ (.int .u64 x1.ts)).setCell ⟨gl, 4, none⟩ (.string x1.val)) := ⟨_, rfl⟩
        have H9 : Hid (DmI cb cb (.slice a n cap) n w w1 tb b o c ys W9 ∧ OwnC W9 w1.heap.size gl cl (L.set 0 x1)) := H8.out.1.copy H8.out.2 HG.out hx0 W9 hW9
        have HL9 : Hid ((L.set 0 x1).length = K ∧ (∀ e ∈ L.set 0 x1, e.ok) ∧ (∀ e ∈ L.set 0 x1, e.kind = 0)) := ⟨by rw [List.length_set, HK.out], fun e he => (List.mem_or_eq_of_mem_set he).elim (fun q => H7.out.2.2.1 e q) (fun q => by rw [q]; exact H7.out.2.2.1 x1 (List.mem_of_getElem? hx1)), fun e he => (List.mem_or_eq_of_mem_set he).elim (fun q => H7.out.2.2.2 e q) (fun q => by rw [q]; exact H7.out.2.2.2 x1 (List.mem_of_getElem? hx1))⟩
        clear hx0 hx1
        go_upto_region 8 with fail
        rw [← hW9]
        clear hW9 d0 d1 d2 d3 d4 e0 e1 e2 e3 e4 hfz
        obtain ⟨WF, hWF⟩ : ∃ WF : World, WF = W9.setCell ⟨w.heap.size, 0, none⟩ (.slice (some ⟨b, o, none⟩) M c) := ⟨_, rfl⟩
        have HR : Hid (WF.cell? ⟨w.heap.size, 0, none⟩ = some (.slice (some ⟨b, o, none⟩) M c) ∧ DmeP w (.returned (.tuple #[.agg #[.slice (some ⟨b, o, none⟩) M c], .slice (some ⟨gl, 0, none⟩) K cl])) WF) := H9.out.1.fin H9.out.2 (by rw [HL9.out.1]; exact hL) HL9.out.2.1 HL9.out.2.2 M K HM.out (by rw [HL9.out.1]) WF hWF
        have t6 : W9.cell? ⟨tb, 0, none⟩ = some (.slice (some ⟨b, o, none⟩) M c) := by rw [HM.out]; exact H9.out.1.var.cell (j := 0) rfl
        have r0 := H9.out.1.res.cell (j := 0) rfl
        have rf := H9.out.1.res.frozen 0
        have p0 := HR.out.1
        go_wp2_with fail
        rw [← hWF]
        exact bodyPost_ret (v := .tuple #[.agg #[.slice (some ⟨b, o, none⟩) M c], .slice (some ⟨gl, 0, none⟩) K cl]) (by simp [results, Tryz.results17, go_sem, p0]) rfl HR.out.2
      · have zk : ¬ (1 : Int) < (K : Int) := by omega
        obtain ⟨WF, hWF⟩ : ∃ WF : World, WF = w8.setCell ⟨w.heap.size, 0, none⟩ (.slice (some ⟨b, o, none⟩) M c) := ⟨_, rfl⟩
        have HR : Hid (WF.cell? ⟨w.heap.size, 0, none⟩ = some (.slice (some ⟨b, o, none⟩) M c) ∧ DmeP w (.returned (.tuple #[.agg #[.slice (some ⟨b, o, none⟩) M c], .slice (some ⟨gl, 0, none⟩) K cl])) WF) := H8.out.1.fin H8.out.2 (by rw [← HK.out]; exact hL) H7.out.2.2.1 H7.out.2.2.2 M K HM.out (by rw [← HK.out]) WF hWF
        have t6 : w8.cell? ⟨tb, 0, none⟩ = some (.slice (some ⟨b, o, none⟩) M c) := by rw [HM.out]; exact H8.out.1.var.cell (j := 0) rfl
        have r0 := H8.out.1.res.cell (j := 0) rfl
        have rf := H8.out.1.res.frozen 0
        have p0 := HR.out.1
        go_wp2_with fail
        rw [← hWF]
        exact bodyPost_ret (v := .tuple #[.agg #[.slice (some ⟨b, o, none⟩) M c], .slice (some ⟨gl, 0, none⟩) K cl]) (by simp [results, Tryz.results17, go_sem, p0]) rfl HR.out.2
    · obtain ⟨WF, hWF⟩ : ∃ WF : World, WF = w8.setCell ⟨w.heap.size, 0, none⟩ (.slice (some ⟨b, o, none⟩) M c) := ⟨_, rfl⟩
      have HR : Hid (WF.cell? ⟨w.heap.size, 0, none⟩ = some (.slice (some ⟨b, o, none⟩) M c) ∧ DmeP w (.returned (.tuple #[.agg #[.slice (some ⟨b, o, none⟩) M c], .slice (some ⟨gl, 0, none⟩) K cl])) WF) := H8.out.1.fin H8.out.2 (by rw [← HK.out]; exact hL) H7.out.2.2.1 H7.out.2.2.2 M K HM.out (by rw [← HK.out]) WF hWF
      have t6 : w8.cell? ⟨tb, 0, none⟩ = some (.slice (some ⟨b, o, none⟩) M c) := by rw [HM.out]; exact H8.out.1.var.cell (j := 0) rfl
      have r0 := H8.out.1.res.cell (j := 0) rfl
      have rf := H8.out.1.res.frozen 0
      have p0 := HR.out.1
      go_wp2_with fail
      rw [← hWF]
      exact bodyPost_ret (v := .tuple #[.agg #[.slice (some ⟨b, o, none⟩) M c], .slice (some ⟨gl, 0, none⟩) K cl]) (by simp [results, Tryz.results17, go_sem, p0]) rfl HR.out.2
  · go_wp2_with fail
    refine (drawCells_core cb cb a n cap _ H4.out.d.d hn).mono ?_
    rintro e w7 ⟨gl, cl, L, rfl, hL, K7⟩
    have H7 : Hid (DmI cb cb (.slice a n cap) n w w1 tb g 0 cp xs w7 ∧ OwnC w7 w1.heap.size gl cl L ∧ (∀ e ∈ L, e.ok) ∧ (∀ e ∈ L, e.kind = 0)) := ⟨H4.out.call K7.out.2.1, K7.out.1.mono H4.out.d.c.size, K7.out.2.2.1, K7.out.2.2.2⟩
    have HG : Hid (g < gl ∧ tb < gl) := by
      have h1 := K7.out.1.lt.1
      have h2 := H4.out.blk.2.1
      have h3 := H4.out.var.lt.2
      exact ⟨by omega, by omega⟩
    obtain ⟨K, hK⟩ : ∃ K, K = L.length := ⟨_, rfl⟩
    have HK : Hid (K = L.length) := hK
    rw [← hK] at hL ⊢
    clear K7 hK
    have hclm : K ≤ cl ∧ cl ≤ 9223372036854775807 := by have := H7.out.2.1.caps; unfold maxLen at this; have := HK.out; omega
    go_wp2_with fail
    refine (once_core cb cb (.slice a n cap) n 25 _ H7.out.1.d.d (by omega) (by omega)).mono ?_
    rintro e w8 ⟨v, rfl, hv, hd8⟩
    have H8 : Hid (DmI cb cb (.slice a n cap) n w w1 tb g 0 cp xs w8 ∧ OwnC w8 w1.heap.size gl cl L) := by
      have hd := (DInv.start H7.out.1.d.d).call hd8
      have hcl := H7.out.1.d.lt
      have hgl := H7.out.2.1.lt
      exact ⟨H7.out.1.call hd, own_chg H7.out.2.1 hd.c (fun k q z => by simp [Value.ownBlock] at q; omega)⟩
    clear hd8
    rcases hv with rfl | rfl
    · by_cases hK1 : 1 < K
      · have zk : (1 : Int) < (K : Int) := by omega
        obtain ⟨x0, hx0⟩ : ∃ x, L[0]? = some x := ⟨_, List.getElem?_eq_getElem (by have := HK.out; omega)⟩
        obtain ⟨x1, hx1⟩ : ∃ x, L[1]? = some x := ⟨_, List.getElem?_eq_getElem (by have := HK.out; omega)⟩
        obtain ⟨d0, d1, d2, d3, d4⟩ := H8.out.2.at 1 x1 hx1
        obtain ⟨e0, e1, e2, e3, e4⟩ := H8.out.2.at 0 x0 hx0
        simp only [Nat.zero_add, Nat.zero_mul, Nat.one_mul] at d0 d1 d2 d3 d4 e0 e1 e2 e3 e4
        have hfz := fun j => World.ownsRow.frozenAt H8.out.2 j
        obtain ⟨W9, hW9⟩ : ∃ W9 : World, W9 = (((((w8.setCell ⟨gl, 0, none⟩ (.string x1.row)).setCell ⟨gl, 1, none⟩ (.string x1.fam)).setCell ⟨gl, 2, none⟩ (.string x1.qual)).setCell ⟨gl, 3, none⟩ (.int .u64 x1.ts)).setCell ⟨gl, 4, none⟩ (.string x1.val)) := ⟨_, rfl⟩
        have H9 : Hid (DmI cb cb (.slice a n cap) n w w1 tb g 0 cp xs W9 ∧ OwnC W9 w1.heap.size gl cl (L.set 0 x1)) := H8.out.1.copy H8.out.2 HG.out hx0 W9 hW9
        have HL9 : Hid ((L.set 0 x1).length = K ∧ (∀ e ∈ L.set 0 x1, e.ok) ∧ (∀ e ∈ L.set 0 x1, e.kind = 0)) := ⟨by rw [List.length_set, HK.out], fun e he => (List.mem_or_eq_of_mem_set he).elim (fun q => H7.out.2.2.1 e q) (fun q => by rw [q]; exact H7.out.2.2.1 x1 (List.mem_of_getElem? hx1)), fun e he => (List.mem_or_eq_of_mem_set he).elim (fun q => H7.out.2.2.2 e q) (fun q => by rw [q]; exact H7.out.2.2.2 x1 (List.mem_of_getElem? hx1))⟩
        clear hx0 hx1
        go_upto_region 8 with fail
        rw [← hW9]
        clear hW9 d0 d1 d2 d3 d4 e0 e1 e2 e3 e4 hfz
        obtain ⟨WF, hWF⟩ : ∃ WF : World, WF = W9.setCell ⟨w.heap.size, 0, none⟩ (.slice (some ⟨g, 0, none⟩) N cp) := ⟨_, rfl⟩
        have HR : Hid (WF.cell? ⟨w.heap.size, 0, none⟩ = some (.slice (some ⟨g, 0, none⟩) N cp) ∧ DmeP w (.returned (.tuple #[.agg #[.slice (some ⟨g, 0, none⟩) N cp], .slice (some ⟨gl, 0, none⟩) K cl])) WF) := H9.out.1.fin H9.out.2 (by rw [HL9.out.1]; exact hL) HL9.out.2.1 HL9.out.2.2 N K HN.out (by rw [HL9.out.1]) WF hWF
        have t6 : W9.cell? ⟨tb, 0, none⟩ = some (.slice (some ⟨g, 0, none⟩) N cp) := by rw [HN.out]; exact H9.out.1.var.cell (j := 0) rfl
        have r0 := H9.out.1.res.cell (j := 0) rfl
        have rf := H9.out.1.res.frozen 0
        have p0 := HR.out.1
        go_wp2_with fail
        rw [← hWF]
        exact bodyPost_ret (v := .tuple #[.agg #[.slice (some ⟨g, 0, none⟩) N cp], .slice (some ⟨gl, 0, none⟩) K cl]) (by simp [results, Tryz.results17, go_sem, p0]) rfl HR.out.2
      · have zk : ¬ (1 : Int) < (K : Int) := by omega
        obtain ⟨WF, hWF⟩ : ∃ WF : World, WF = w8.setCell ⟨w.heap.size, 0, none⟩ (.slice (some ⟨g, 0, none⟩) N cp) := ⟨_, rfl⟩
        have HR : Hid (WF.cell? ⟨w.heap.size, 0, none⟩ = some (.slice (some ⟨g, 0, none⟩) N cp) ∧ DmeP w (.returned (.tuple #[.agg #[.slice (some ⟨g, 0, none⟩) N cp], .slice (some ⟨gl, 0, none⟩) K cl])) WF) := H8.out.1.fin H8.out.2 (by rw [← HK.out]; exact hL) H7.out.2.2.1 H7.out.2.2.2 N K HN.out (by rw [← HK.out]) WF hWF
        have t6 : w8.cell? ⟨tb, 0, none⟩ = some (.slice (some ⟨g, 0, none⟩) N cp) := by rw [HN.out]; exact H8.out.1.var.cell (j := 0) rfl
        have r0 := H8.out.1.res.cell (j := 0) rfl
        have rf := H8.out.1.res.frozen 0
        have p0 := HR.out.1
        go_wp2_with fail
        rw [← hWF]
        exact bodyPost_ret (v := .tuple #[.agg #[.slice (some ⟨g, 0, none⟩) N cp], .slice (some ⟨gl, 0, none⟩) K cl]) (by simp [results, Tryz.results17, go_sem, p0]) rfl HR.out.2
    · obtain ⟨WF, hWF⟩ : ∃ WF : World, WF = w8.setCell ⟨w.heap.size, 0, none⟩ (.slice (some ⟨g, 0, none⟩) N cp) := ⟨_, rfl⟩
      have HR : Hid (WF.cell? ⟨w.heap.size, 0, none⟩ = some (.slice (some ⟨g, 0, none⟩) N cp) ∧ DmeP w (.returned (.tuple #[.agg #[.slice (some ⟨g, 0, none⟩) N cp], .slice (some ⟨gl, 0, none⟩) K cl])) WF) := H8.out.1.fin H8.out.2 (by rw [← HK.out]; exact hL) H7.out.2.2.1 H7.out.2.2.2 N K HN.out (by rw [← HK.out]) WF hWF
      have t6 : w8.cell? ⟨tb, 0, none⟩ = some (.slice (some ⟨g, 0, none⟩) N cp) := by rw [HN.out]; exact H8.out.1.var.cell (j := 0) rfl
      have r0 := H8.out.1.res.cell (j := 0) rfl
      have rf := H8.out.1.res.frozen 0
      have p0 := HR.out.1
      go_wp2_with fail
      rw [← hWF]
      exact bodyPost_ret (v := .tuple #[.agg #[.slice (some ⟨g, 0, none⟩) N cp], .slice (some ⟨gl, 0, none⟩) K cl]) (by simp [results, Tryz.results17, go_sem, p0]) rfl HR.out.2
end Go.Proofs.YtkidabedcgngcaaGreatDoor

/-
  DrawNormal.
-/
namespace Go.Proofs.YtkidabedcgngcaaGreatDoor
open Go.ChangeShapes Go.WideShapes Go.ChangeAt Go.RowKit Go.Deep
set_option linter.unusedVariables false
set_option linter.unusedSimpArgs false
set_option maxRecDepth 100000

def DnoP (w : World) (e : Ending) (w' : World) : Prop := ∃ (b o c : Nat) (ys : List Nd), e = .returned (.agg #[.slice (some ⟨b, o, none⟩) ys.length c]) ∧ ys.length ≤ 1001 ∧ Hid (((∀ e ∈ ys, e.ok) ∧ NdsAt w' b o ys ∧ (w.heap.size ≤ b ∧ b < w'.heap.size) ∧ (ys.length ≤ c ∧ c ≤ maxLen)) ∧ Below w.heap.size w w')
structure DnI (cb : Nat) (bv : Value) (n : Nat) (w w1 : World) (tb g cp N : Nat) (wr : World) : Prop where
  row : ∃ xs : List Nd, N = xs.length ∧ (∀ e ∈ xs, e.small) ∧ OwnNd wr w1.heap.size g cp xs
  d : DInv cb cb bv n w1 wr
  res : BoxAt wr w.heap.size 32 1 w.heap.size [.slice none 0 0]
  var : BoxAt wr w.heap.size 32 1 tb [.slice (some ⟨g, 0, none⟩) N cp]
  ne : g < tb ∧ w1.heap.size ≤ g
theorem DnI.call {cb : Nat} {bv : Value} {n : Nat} {w w1 : World} {tb g cp N : Nat} {wr wx : World} (h : DnI cb bv n w w1 tb g cp N wr) (hc : w.heap.size < cb) (hd : DInv cb cb bv n wr wx) : DnI cb bv n w w1 tb g cp N wx := by
  obtain ⟨xs, h1, h2, h3⟩ := h.row
  have hl := h.d.lt
  have hn := h.ne
  exact ⟨⟨xs, h1, h2, h3.chg hd.c (by omega)⟩, h.d.trans hd, h.res.chg hd.c (by omega), h.var.chg hd.c (by omega), hn⟩
theorem DnI.put {cb : Nat} {bv : Value} {n : Nat} {w w1 : World} {tb g cp N : Nat} {wr : World} (h : DnI cb bv n w w1 tb g cp N wr) (hc : w.heap.size < cb) {i : Nat} (hi : i < N) (k : Int) (hk : 0 ≤ k ∧ k ≤ 100000) (W9 : World)
    (h9 : W9 = (((((((wr.setCell ⟨g, i * 7, none⟩ (.int .i64 k)).setCell ⟨g, i * 7 + 1, none⟩ (.string ⟨#[]⟩)).setCell ⟨g, i * 7 + 2, none⟩ (.bool false)).setCell ⟨g, i * 7 + 3, none⟩ (.string ⟨#[]⟩)).setCell ⟨g, i * 7 + 4, none⟩ (.int .u64 0)).setCell ⟨g, i * 7 + 5, none⟩ (.int .u64 0)).setCell ⟨g, i * 7 + 6, none⟩ (.int .i64 0))) : DnI cb bv n w w1 tb g cp N W9 := by
  obtain ⟨xs, h1, h2, h3⟩ := h.row
  obtain ⟨e0, he⟩ : ∃ e0, xs[i]? = some e0 := ⟨_, List.getElem?_eq_getElem (by omega)⟩
  have hO9 := h3.put i e0 ⟨k, ⟨#[]⟩, false, ⟨#[]⟩, 0, 0, 0⟩ he
  simp only at hO9
  rw [← h9] at hO9
  have hl := h.d.lt
  have hn := h.ne
  have hb := h.d.hb
  have hc9 : Chg (fun k => k = g) wr W9 := by
    rw [h9]
    exact ((((((Chg.of_set (S := fun k => k = g) _ _ _ _ rfl).trans (Chg.of_set (S := fun k => k = g) _ _ _ _ rfl)).trans (Chg.of_set (S := fun k => k = g) _ _ _ _ rfl)).trans (Chg.of_set (S := fun k => k = g) _ _ _ _ rfl)).trans (Chg.of_set (S := fun k => k = g) _ _ _ _ rfl)).trans (Chg.of_set (S := fun k => k = g) _ _ _ _ rfl)).trans (Chg.of_set (S := fun k => k = g) _ _ _ _ rfl)
  refine ⟨⟨xs.set i ⟨k, ⟨#[]⟩, false, ⟨#[]⟩, 0, 0, 0⟩, by rw [List.length_set]; exact h1, fun e he => (List.mem_or_eq_of_mem_set he).elim (fun q => h2 e q) (fun q => by rw [q]; exact small_kind k hk), hO9⟩, ⟨h.d.d.chg hc9 (by omega) (fun k q => by omega), ⟨hc9.os.trans h.d.c.os, hc9.tape.trans h.d.c.tape, hc9.output.trans h.d.c.output, Nat.le_trans h.d.c.size hc9.size, fun k hk hnk => (hc9.block k (Nat.lt_of_lt_of_le hk h.d.c.size) (by omega)).trans (h.d.c.block k hk hnk)⟩, hl, hb⟩, h.res.chg hc9 (by omega), h.var.chg hc9 (by omega), hn⟩
theorem DnI.cellAt {cb : Nat} {bv : Value} {n : Nat} {w w1 : World} {tb g cp N : Nat} {wr : World} (h : DnI cb bv n w w1 tb g cp N wr) {i : Nat} (hi : i < N) : ∃ f : Nd, wr.cell? ⟨g, i * 7, none⟩ = some (.int .i64 f.kind) ∧ wr.cell? ⟨g, i * 7 + 1, none⟩ = some (.string f.s) ∧ wr.cell? ⟨g, i * 7 + 2, none⟩ = some (.bool f.hi) ∧ wr.cell? ⟨g, i * 7 + 3, none⟩ = some (.string f.t) ∧ wr.cell? ⟨g, i * 7 + 4, none⟩ = some (.int .u64 f.lo) ∧ wr.cell? ⟨g, i * 7 + 5, none⟩ = some (.int .u64 f.up) ∧ wr.cell? ⟨g, i * 7 + 6, none⟩ = some (.int .i64 f.n) ∧ ∀ j, wr.frozen? ⟨g, j, none⟩ = false := by
  obtain ⟨xs, h1, h2, h3⟩ := h.row
  obtain ⟨f, hf⟩ : ∃ f, xs[i]? = some f := ⟨_, List.getElem?_eq_getElem (by omega)⟩
  obtain ⟨d0, d1, d2, d3, d4, d5, d6⟩ := h3.at i f hf
  simp only [Nat.zero_add] at d0 d1 d2 d3 d4 d5 d6
  exact ⟨f, d0, d1, d2, d3, d4, d5, d6, fun j => World.ownsRow.frozenAt h3 j⟩
set_option maxHeartbeats 8000000 in
theorem drawNormal_core (bv : Value) (n : Nat) (w : World) (h : CodeAt w w.heap.size bv n) : Calls Tryz.prog 16 #[bv] w (DnoP w) := by
  obtain ⟨a, cap, rfl⟩ := h.slice
  have hn := h.1
  obtain ⟨W0, hW0⟩ : ∃ W0 : World, W0 = w.alloc (Obj.cells #[.slice none 0 0] 32) := ⟨_, rfl⟩
  have hb0 : Below w.heap.size w W0 := by rw [hW0]; exact (Below.refl _ _).alloc (Nat.le_refl _) _
  have hz0 : W0.heap.size = w.heap.size + 1 := by rw [hW0]; simp
  have H0 : Hid (CodeAt W0 W0.heap.size (.slice a n cap) n ∧ BoxAt W0 w.heap.size 32 1 w.heap.size [.slice none 0 0] ∧ Below w.heap.size w W0 ∧ W0.heap.size = w.heap.size + 1) := ⟨h.up hb0, by rw [hW0]; exact boxAt_new w #[.slice none 0 0] (Nat.le_refl _) rfl, hb0, hz0⟩
  clear h hb0 hz0
  go_enter Tryz.func16, Tryz.ntmps16
  go_wp2_with fail
  rw [← hW0]
  clear hW0
  refine (new_core _ n W0 H0.out.1).mono ?_
  rintro e wn ⟨rfl, hDn, hbn⟩
  obtain ⟨cb, hcb⟩ : ∃ cb, cb = W0.heap.size := ⟨_, rfl⟩
  rw [← hcb] at hDn ⊢
  have HN0 : Hid (DrawAt cb cb (.slice a n cap) n wn ∧ BoxAt wn w.heap.size 32 1 w.heap.size [.slice none 0 0] ∧ Below w.heap.size w wn ∧ w.heap.size < cb) := ⟨hDn, H0.out.2.1.below hbn, H0.out.2.2.1.trans (hbn.mono H0.out.2.2.1.size), by have := H0.out.2.2.2; show _ < _; omega⟩
  clear hDn hbn hcb H0
  go_wp2_with fail
  refine (once_core cb cb (.slice a n cap) n 3 _ HN0.out.1 (by omega) (by omega)).mono ?_
  rintro e w1 ⟨v, rfl, hv, hd1⟩
  have H1 : Hid (DrawAt cb cb (.slice a n cap) n w1 ∧ BoxAt w1 w.heap.size 32 1 w.heap.size [.slice none 0 0] ∧ Below w.heap.size w w1 ∧ w.heap.size < cb) := by
    have hcw := HN0.out.2.2.2
    exact ⟨hd1.1, HN0.out.2.1.chg hd1.2 (by omega), Chg.below HN0.out.2.2.1 hd1.2 HN0.out.2.2.1.size (fun k q => by omega), hcw⟩
  clear hd1 HN0
  have hcw := H1.out.2.2.2
  have hwl := H1.out.2.1.lt.2
  have lowOf : ∀ wx, DInv cb cb (.slice a n cap) n w1 wx → Below w.heap.size w wx := fun wx hx => Chg.below H1.out.2.2.1 hx.c H1.out.2.2.1.size (fun k q => by omega)
  have HLow : Hid (∀ wx, DInv cb cb (.slice a n cap) n w1 wx → Below w.heap.size w wx) := lowOf
  clear lowOf
  rcases hv with rfl | rfl
  · have HTr : Hid (Calls Tryz.prog 39 #[.pointer (some ⟨cb, 0, none⟩), .int .i64 2] w1 (TreP cb cb (.slice a n cap) n 40 w1)) := tree_any cb cb (.slice a n cap) n 2 (by omega) (by omega) w1 H1.out.1
    go_wp2_with fail
    refine HTr.out.mono ?_
    rintro e w2 ⟨g, cp, xs, rfl, hl2, h02, K2⟩
    obtain ⟨N, hN⟩ : ∃ N, N = xs.length := ⟨_, rfl⟩
    rw [← hN] at hl2 h02 ⊢
    obtain ⟨tb, htb⟩ : ∃ tb, tb = w2.heap.size := ⟨_, rfl⟩
    obtain ⟨W3, hW3⟩ : ∃ W3 : World, W3 = w2.alloc (Obj.cells #[.slice (some ⟨g, 0, none⟩) N cp] 32) := ⟨_, rfl⟩
    have H3 : Hid (DnI cb (.slice a n cap) n w w1 tb g cp N W3) := by
      have k3 : Below w2.heap.size w2 W3 := by rw [hW3]; exact (Below.refl _ _).alloc (Nat.le_refl _) _
      have hgl := K2.out.2.1.lt
      have hz2 := K2.out.2.2.c.size
      exact ⟨⟨xs, hN, K2.out.1, K2.out.2.1.below k3 hgl.2⟩, K2.out.2.2.below k3, (H1.out.2.1.chg K2.out.2.2.c (by omega)).below k3, by rw [hW3, htb]; exact boxAt_new w2 #[.slice (some ⟨g, 0, none⟩) N cp] (by omega) rfl, by omega, hgl.1⟩
    have hcpm : N ≤ cp ∧ cp ≤ 9223372036854775807 := by have := K2.out.2.1.caps; unfold maxLen at this; omega
    clear K2 hN HTr
    go_upto_region 4 with fail
    rw [← hW3, ← htb]
    clear hW3 htb
    go_wp2_with fail
    go_loopw [5] (fun iv wr => ∃ i : Nat, i ≤ N ∧ iv = .int .i64 (i : Int) ∧ Hid (DnI cb (.slice a n cap) n w w1 tb g cp N wr)) (fun iv _ => N - (intOf iv).toNat)
    case atStart => exact ⟨0, Nat.zero_le _, rfl, H3.out⟩
    case round =>
      obtain ⟨i, hiN, rfl, HJ⟩ := hrel
      have t0 := HJ.out.var.cell (j := 0) rfl
      by_cases hlt : i < N
      · have zi : (i : Int) < (N : Int) := by omega
        obtain ⟨f, d0, _⟩ := HJ.out.cellAt hlt
        by_cases ha : arity f.kind = 0
        · have za : ((arity f.kind : Nat) : Int) = 0 := by omega
          have HAr : Hid (Calls Tryz.prog 40 #[.int .i64 f.kind] wr fun e w' => e = .returned (.int .i64 0) ∧ w' = wr) := by
            have h9 := l5Arity_core f.kind wr
            rw [za] at h9
            exact h9
          clear za
          go_wp2_with fail
          refine HAr.out.mono ?_
          rintro e w4 ⟨rfl, rfl⟩
          go_wp2_with fail
          refine (once_core cb cb (.slice a n cap) n 2 _ HJ.out.d.d (by omega) (by omega)).mono ?_
          rintro e w5 ⟨v, rfl, hv, hd5⟩
          have H5 : Hid (DnI cb (.slice a n cap) n w w1 tb g cp N w5) := HJ.out.call hcw ((DInv.start HJ.out.d.d).call hd5)
          clear hd5 d0 t0 HAr
          rcases hv with rfl | rfl
          · go_upto_region 8 with fail
            have HBl : Hid (Calls Tryz.prog 41 #[.pointer (some ⟨cb, 0, none⟩), .int .i64 3] w5.drew fun e w' => ∃ x : Int, e = .returned (.int .i64 x) ∧ 0 ≤ x ∧ x < 3 ∧ Drew cb cb (.slice a n cap) n w5.drew w') := below_core cb cb (.slice a n cap) n 3 _ (H5.out.d.d.below ((Below.refl _ _).drew)) (by omega) (by omega)
            have hS0 : (fun wz : World => wz.cell? ⟨tb, 0, none⟩ = some (.slice (some ⟨g, 0, none⟩) N cp)) w5.drew := H5.out.var.cell (j := 0) rfl
            refine wp_region_T 8 (fun wz : World => wz.cell? ⟨tb, 0, none⟩ = some (.slice (some ⟨g, 0, none⟩) N cp)) (by kernel_rfl) ?_
            refine anyT_take (i := 0) (v := ?vdn0) rfl (by kernel_rfl) (by kernel_rfl) (by kernel_rfl) (by kernel_rfl) (by decide) (fun _ _ _ h => h) (Or.inl ⟨by rfl, ?ydn0⟩) hS0 ?_
            case ydn0 => (intro wz hSw; go_simp; (try with_reducible rfl))
            try simp only [Act.put, List.getElem_toArray, List.getElem_cons_zero, List.getElem_cons_succ, List.setIfInBounds_toArray, List.set_cons_zero, List.set_cons_succ]
            refine anyT_take (i := 1) (v := ?vdn1) rfl (by kernel_rfl) (by kernel_rfl) (by kernel_rfl) (by kernel_rfl) (by decide) (fun _ _ _ h => h) (Or.inl ⟨by rfl, ?ydn1⟩) hS0 ?_
            case ydn1 => (intro wz hSw; go_simp; (try with_reducible rfl))
            try simp only [Act.put, List.getElem_toArray, List.getElem_cons_zero, List.getElem_cons_succ, List.setIfInBounds_toArray, List.set_cons_zero, List.set_cons_succ]
            refine anyT_take (i := 2) (v := ?vdn2) rfl (by kernel_rfl) (by kernel_rfl) (by kernel_rfl) (by kernel_rfl) (by decide) (fun _ _ _ h => h) (Or.inl ⟨by rfl, ?ydn2⟩) hS0 ?_
            case ydn2 => (intro wz hSw; go_simp; (try with_reducible rfl))
            try simp only [Act.put, List.getElem_toArray, List.getElem_cons_zero, List.getElem_cons_succ, List.setIfInBounds_toArray, List.set_cons_zero, List.set_cons_succ]
            refine anyT_take (i := 3) (v := ?vdn3) rfl (by kernel_rfl) (by kernel_rfl) (by kernel_rfl) (by kernel_rfl) (by decide) (fun _ _ _ h => h) (Or.inl ⟨by rfl, ?ydn3⟩) hS0 ?_
            case ydn3 => (intro wz hSw; go_simp; (try with_reducible rfl))
            try simp only [Act.put, List.getElem_toArray, List.getElem_cons_zero, List.getElem_cons_succ, List.setIfInBounds_toArray, List.set_cons_zero, List.set_cons_succ]
            refine anyT_one (i := 4) (by kernel_rfl) rfl (fun K hK => ?_)
            go_simp
            refine HBl.out.mono ?_
            rintro e w6 ⟨y, rfl, hy0, hy1, hd6⟩
            have H6 : Hid (DnI cb (.slice a n cap) n w w1 tb g cp N w6) := H5.out.call hcw (((DInv.start H5.out.d.d).below ((Below.refl _ _).drew)).call hd6)
            clear hd6 HBl hS0
            have hS0 : (fun wz : World => wz.cell? ⟨tb, 0, none⟩ = some (.slice (some ⟨g, 0, none⟩) N cp)) w6 := H6.out.var.cell (j := 0) rfl
            refine hK.out _ _ (.inr hS0) ?_
            clear hK
            try simp only [Act.put, List.getElem_toArray, List.getElem_cons_zero, List.getElem_cons_succ, List.setIfInBounds_toArray, List.set_cons_zero, List.set_cons_succ]
            refine anyT_take (i := 5) (v := ?vdn5) rfl (by kernel_rfl) (by kernel_rfl) (by kernel_rfl) (by kernel_rfl) (by decide) (fun _ _ _ h => h) (Or.inl ⟨by rfl, ?ydn5⟩) hS0 ?_
            case ydn5 => (intro wz hSw; go_simp; (try with_reducible rfl))
            try simp only [Act.put, List.getElem_toArray, List.getElem_cons_zero, List.getElem_cons_succ, List.setIfInBounds_toArray, List.set_cons_zero, List.set_cons_succ]
            refine anyT_take (i := 6) (v := ?vdn6) rfl (by kernel_rfl) (by kernel_rfl) (by kernel_rfl) (by kernel_rfl) (by decide) (fun _ _ _ h => h) (Or.inl ⟨by rfl, ?ydn6⟩) hS0 ?_
            case ydn6 => (intro wz hSw; go_simp; (try with_reducible rfl))
            try simp only [Act.put, List.getElem_toArray, List.getElem_cons_zero, List.getElem_cons_succ, List.setIfInBounds_toArray, List.set_cons_zero, List.set_cons_succ]
            refine anyT_take (i := 7) (v := ?vdn7) rfl (by kernel_rfl) (by kernel_rfl) (by kernel_rfl) (by kernel_rfl) (by decide) (fun _ _ _ h => h) (Or.inl ⟨by rfl, ?ydn7⟩) hS0 ?_
            case ydn7 => (intro wz hSw; go_simp; (try with_reducible rfl))
            try simp only [Act.put, List.getElem_toArray, List.getElem_cons_zero, List.getElem_cons_succ, List.setIfInBounds_toArray, List.set_cons_zero, List.set_cons_succ]
            obtain ⟨f6, d0, d1, d2, d3, d4, d5, d6, hfz⟩ := H6.out.cellAt hlt
            obtain ⟨W9, hW9⟩ : ∃ W9 : World, W9 = (((((((w6.setCell ⟨g, i * 7, none⟩ (.int .i64 (1 + y))).setCell ⟨g, i * 7 + 1, none⟩ (.string ⟨#[]⟩)).setCell ⟨g, i * 7 + 2, none⟩ (.bool false)).setCell ⟨g, i * 7 + 3, none⟩ (.string ⟨#[]⟩)).setCell ⟨g, i * 7 + 4, none⟩ (.int .u64 0)).setCell ⟨g, i * 7 + 5, none⟩ (.int .u64 0)).setCell ⟨g, i * 7 + 6, none⟩ (.int .i64 0)) := ⟨_, rfl⟩
            have H9 : Hid (DnI cb (.slice a n cap) n w w1 tb g cp N W9) := H6.out.put hcw hlt (1 + y) (by omega) W9 hW9
            refine anyT_one (i := 8) (by kernel_rfl) rfl (fun K hK => ?_)
            go_simp
            refine hK.out _ _ (.inl rfl) ?_
            clear hK
            try simp only [Act.put, List.getElem_toArray, List.getElem_cons_zero, List.getElem_cons_succ, List.setIfInBounds_toArray, List.set_cons_zero, List.set_cons_succ]
            refine anyT_done (by kernel_rfl) ?_
            have hwr : IntKind.i64.wrap (1 + y) = 1 + y := by rw [IntKind.wrap_i64]; omega
            rw [hwr, ← hW9]
            clear hW9 hwr d0 d1 d2 d3 d4 d5 d6 hfz hS0
            go_wp2_with fail
            go_roundw
            case rel => exact ⟨i + 1, by omega, by go_num, H9.out⟩
            case measure => simp [intOf]; omega
          · go_wp2_with fail
            go_roundw
            case rel => exact ⟨i + 1, by omega, by go_num, H5.out⟩
            case measure => simp [intOf]; omega
        · have HAr : Hid (Calls Tryz.prog 40 #[.int .i64 f.kind] wr fun e w' => e = .returned (.int .i64 (arity f.kind : Int)) ∧ w' = wr) := l5Arity_core f.kind wr
          obtain ⟨q, hq⟩ : ∃ q, q = arity f.kind := ⟨_, rfl⟩
          have zq : ((q : Int) == 0) = false := by rw [beq_eq_false_iff_ne]; omega
          rw [← hq] at HAr
          clear hq ha
          go_wp2_with fail
          refine HAr.out.mono ?_
          rintro e w4 ⟨rfl, rfl⟩
          go_wp2_with fail
          go_roundw
          case rel => exact ⟨i + 1, by omega, by go_num, HJ.out⟩
          case measure => simp [intOf]; omega
      · obtain ⟨WF, hWF⟩ : ∃ WF : World, WF = wr.setCell ⟨w.heap.size, 0, none⟩ (.slice (some ⟨g, 0, none⟩) N cp) := ⟨_, rfl⟩
        have HR : Hid (WF.cell? ⟨w.heap.size, 0, none⟩ = some (.slice (some ⟨g, 0, none⟩) N cp) ∧ DnoP w (.returned (.agg #[.slice (some ⟨g, 0, none⟩) N cp])) WF) := by
          obtain ⟨xs, h1, h2, h3⟩ := HJ.out.row
          have hg := HJ.out.ne
          have hcF : Chg (fun k => k = w.heap.size) wr WF := by rw [hWF]; exact Chg.of_set _ _ _ _ rfl
          have hOF := h3.chg hcF (by omega)
          have hlw := HLow.out wr HJ.out.d
          refine ⟨by rw [hWF]; exact (HJ.out.res.set 0 _).cell (j := 0) rfl, g, 0, cp, xs, by rw [h1], by omega, ⟨fun e he => (h2 e he).ok, hOF.at, ⟨by omega, hOF.lt.2⟩, hOF.caps⟩, Chg.below hlw hcF hlw.size (fun k q => by omega)⟩
        have r0 := HJ.out.res.cell (j := 0) rfl
        have rf := HJ.out.res.frozen 0
        have p0 := HR.out.1
        go_wp2_with fail
        rw [← hWF]
        exact bodyPost_ret (by simp [results, Tryz.results16, go_sem, p0]) rfl HR.out.2
  · go_wp2_with fail
    refine (drawAny_core cb cb (.slice a n cap) n w1 H1.out.1).mono ?_
    rintro e w2 ⟨b, o, c, ys, rfl, hl, K2⟩
    have H2 : Hid (BoxAt w2 w.heap.size 32 1 w.heap.size [.slice none 0 0]) := H1.out.2.1.chg K2.out.2.2.2.2.c (by omega)
    obtain ⟨N, hN⟩ : ∃ N, N = ys.length := ⟨_, rfl⟩
    rw [← hN]
    obtain ⟨WF, hWF⟩ : ∃ WF : World, WF = w2.setCell ⟨w.heap.size, 0, none⟩ (.slice (some ⟨b, o, none⟩) N c) := ⟨_, rfl⟩
    have HR : Hid (WF.cell? ⟨w.heap.size, 0, none⟩ = some (.slice (some ⟨b, o, none⟩) N c) ∧ DnoP w (.returned (.agg #[.slice (some ⟨b, o, none⟩) N c])) WF) := by
      have hb2 := K2.out.2.2.1
      have hcF : Chg (fun k => k = w.heap.size) w2 WF := by rw [hWF]; exact Chg.of_set _ _ _ _ rfl
      have hlw := HLow.out w2 K2.out.2.2.2.2
      refine ⟨by rw [hWF]; exact (H2.out.set 0 _).cell (j := 0) rfl, b, o, c, ys, by rw [hN], hl, ⟨K2.out.1, K2.out.2.1.chg hcF hb2.2 (by omega), ⟨by omega, Nat.lt_of_lt_of_le hb2.2 hcF.size⟩, K2.out.2.2.2.1⟩, Chg.below hlw hcF hlw.size (fun k q => by omega)⟩
    have r0 := H2.out.cell (j := 0) rfl
    have rf := H2.out.frozen 0
    have p0 := HR.out.1
    clear hN K2
    go_wp2_with fail
    rw [← hWF]
    exact bodyPost_ret (by simp [results, Tryz.results16, go_sem, p0]) rfl HR.out.2
end Go.Proofs.YtkidabedcgngcaaGreatDoor

/-
  laws.lwFilter over the same nodes.
-/
namespace Go.Proofs.YtkidabedcgngcaaGreatDoor
open Go.ChangeShapes Go.WideShapes Go.ChangeAt Go.RowKit Go.Deep
set_option linter.unusedVariables false
set_option linter.unusedSimpArgs false
set_option maxRecDepth 100000

set_option maxHeartbeats 4000000 in
theorem lwFilter_same {w : World} {b o c b' o' c' : Nat} {ys : List Nd} (h : NdsAt w b o ys) (hb : b < w.heap.size) (h' : NdsAt w b' o' ys) (hb' : b' < w.heap.size) (hl : ys.length ≤ 1000000) :
    Calls Tryz.prog 20 #[.agg #[.slice (some ⟨b, o, none⟩) ys.length c], .agg #[.slice (some ⟨b', o', none⟩) ys.length c']] w fun e w' => e = .returned (.bool true) ∧ Below w.heap.size w w' := by
  obtain ⟨N, hN⟩ : ∃ N, N = ys.length := ⟨_, rfl⟩
  have HN : Hid (N = ys.length) := hN
  rw [← hN] at hl ⊢
  obtain ⟨W0, hW0⟩ : ∃ W0 : World, W0 = (w.alloc (Obj.cells #[.slice (some ⟨b, o, none⟩) N c] 32)).alloc (Obj.cells #[.slice (some ⟨b', o', none⟩) N c'] 32) := ⟨_, rfl⟩
  have H0 : Hid (Below w.heap.size w W0 ∧ BoxAt W0 w.heap.size 32 1 w.heap.size [.slice (some ⟨b, o, none⟩) N c] ∧ BoxAt W0 w.heap.size 32 1 (w.heap.size + 1) [.slice (some ⟨b', o', none⟩) N c'] ∧ NdsAt W0 b o ys ∧ NdsAt W0 b' o' ys ∧ (b < W0.heap.size ∧ b' < W0.heap.size)) := by
    have b1 := boxAt_new w (base := w.heap.size) (t := 32) (sz := 1) #[.slice (some ⟨b, o, none⟩) N c] (Nat.le_refl _) rfl
    obtain ⟨X, hX⟩ : ∃ X, X = w.alloc (Obj.cells #[.slice (some ⟨b, o, none⟩) N c] 32) := ⟨_, rfl⟩
    rw [← hX] at b1 hW0
    have zx : X.heap.size = w.heap.size + 1 := by rw [hX]; simp
    have k1 : Below w.heap.size w X := by rw [hX]; exact (Below.refl _ _).alloc (Nat.le_refl _) _
    have k2 : Below X.heap.size X W0 := by rw [hW0]; exact (Below.refl _ _).alloc (Nat.le_refl _) _
    have b2 := boxAt_new X (base := w.heap.size) (t := 32) (sz := 1) #[.slice (some ⟨b', o', none⟩) N c'] (by omega) rfl
    rw [← hW0, zx] at b2
    have k := k1.trans (k2.mono (by omega))
    exact ⟨k, b1.below k2, b2, h.below k hb, h'.below k hb', by have := k.size; omega, by have := k.size; omega⟩
  clear h h' hN
  have hS : ∀ wx, Below W0.heap.size W0 wx → wx.cell? ⟨w.heap.size, 0, none⟩ = some (.slice (some ⟨b, o, none⟩) N c) ∧ wx.cell? ⟨w.heap.size + 1, 0, none⟩ = some (.slice (some ⟨b', o', none⟩) N c') ∧ NdsAt wx b o ys ∧ NdsAt wx b' o' ys := fun wx hx => ⟨(H0.out.2.1.below hx).cell (j := 0) rfl, (H0.out.2.2.1.below hx).cell (j := 0) rfl, H0.out.2.2.2.1.below hx H0.out.2.2.2.2.2.1, H0.out.2.2.2.2.1.below hx H0.out.2.2.2.2.2.2⟩
  have HS : Hid (∀ wx, Below W0.heap.size W0 wx → wx.cell? ⟨w.heap.size, 0, none⟩ = some (.slice (some ⟨b, o, none⟩) N c) ∧ wx.cell? ⟨w.heap.size + 1, 0, none⟩ = some (.slice (some ⟨b', o', none⟩) N c') ∧ NdsAt wx b o ys ∧ NdsAt wx b' o' ys) := hS
  clear hS
  obtain ⟨q0, q1, _⟩ := HS.out W0 (Below.refl _ _)
  go_enter Tryz.func20, Tryz.ntmps20
  go_upto_region 1 with fail
  rw [← hW0]
  clear hW0
  go_wp2_with fail
  clear q0 q1
  go_loopw [5] (fun iv wr => ∃ i : Nat, i ≤ N ∧ iv = .int .i64 (i : Int) ∧ Below W0.heap.size W0 wr) (fun iv _ => N - (intOf iv).toNat)
  case atStart => exact ⟨0, Nat.zero_le _, rfl, Below.refl _ _⟩
  case round =>
    obtain ⟨i, hi, rfl, hbr⟩ := hrel
    have q0 := (HS.out wr hbr).1
    by_cases hlt : i < N
    · have zi : (i : Int) < (N : Int) := by omega
      obtain ⟨x, hx⟩ : ∃ x, ys[i]? = some x := ⟨_, List.getElem?_eq_getElem (by have := HN.out; omega)⟩
      obtain ⟨Q, hQ, hq⟩ := ndNe_any x x
      obtain rfl : Q = false := hQ.2 rfl
      have hbd : Below W0.heap.size W0 wr.drew := hbr.drew
      have hS0 : (fun wz : World => wz.cell? ⟨w.heap.size, 0, none⟩ = some (.slice (some ⟨b, o, none⟩) N c) ∧ wz.cell? ⟨w.heap.size + 1, 0, none⟩ = some (.slice (some ⟨b', o', none⟩) N c') ∧ NdsAt wz b o ys ∧ NdsAt wz b' o' ys) wr.drew := HS.out _ hbd
      have HXx : Hid (ys[i]? = some x) := hx
      clear hx hQ
      go_upto_region 6 with fail
      refine wp_region_T 99 (fun wz : World => wz.cell? ⟨w.heap.size, 0, none⟩ = some (.slice (some ⟨b, o, none⟩) N c) ∧ wz.cell? ⟨w.heap.size + 1, 0, none⟩ = some (.slice (some ⟨b', o', none⟩) N c') ∧ NdsAt wz b o ys ∧ NdsAt wz b' o' ys) (by kernel_rfl) ?_
      refine anyT_takeN (i := 0) (v := ?vlw0) rfl (by kernel_rfl) (by kernel_rfl) (by kernel_rfl) (by rfl) (fun _ _ _ h => h) (Or.inl ⟨by rfl, ?ylw0⟩) hS0 ?_
      case ylw0 => (intro wz hSw; obtain ⟨z0, z1, z2, z3⟩ := hSw; obtain ⟨c0, c1, c2, c3, c4, c5, c6⟩ := z2 i x HXx.out; obtain ⟨d0, d1, d2, d3, d4, d5, d6⟩ := z3 i x HXx.out; go_simp; (try with_reducible rfl))
      try simp only [Act.put, List.getElem_toArray, List.getElem_cons_zero, List.getElem_cons_succ, List.setIfInBounds_toArray, List.set_cons_zero, List.set_cons_succ]
      refine anyT_takeN (i := 1) (v := ?vlw1) rfl (by kernel_rfl) (by kernel_rfl) (by kernel_rfl) (by rfl) (fun _ _ _ h => h) (Or.inl ⟨by rfl, ?ylw1⟩) hS0 ?_
      case ylw1 => (intro wz hSw; obtain ⟨z0, z1, z2, z3⟩ := hSw; obtain ⟨c0, c1, c2, c3, c4, c5, c6⟩ := z2 i x HXx.out; obtain ⟨d0, d1, d2, d3, d4, d5, d6⟩ := z3 i x HXx.out; go_simp; (try with_reducible rfl))
      try simp only [Act.put, List.getElem_toArray, List.getElem_cons_zero, List.getElem_cons_succ, List.setIfInBounds_toArray, List.set_cons_zero, List.set_cons_succ]
      refine anyT_takeN (i := 2) (v := ?vlw2) rfl (by kernel_rfl) (by kernel_rfl) (by kernel_rfl) (by rfl) (fun _ _ _ h => h) (Or.inl ⟨by rfl, ?ylw2⟩) hS0 ?_
      case ylw2 => (intro wz hSw; obtain ⟨z0, z1, z2, z3⟩ := hSw; obtain ⟨c0, c1, c2, c3, c4, c5, c6⟩ := z2 i x HXx.out; obtain ⟨d0, d1, d2, d3, d4, d5, d6⟩ := z3 i x HXx.out; go_simp; (try with_reducible rfl))
      try simp only [Act.put, List.getElem_toArray, List.getElem_cons_zero, List.getElem_cons_succ, List.setIfInBounds_toArray, List.set_cons_zero, List.set_cons_succ]
      refine anyT_takeN (i := 3) (v := ?vlw3) rfl (by kernel_rfl) (by kernel_rfl) (by kernel_rfl) (by rfl) (fun _ _ _ h => h) (Or.inl ⟨by rfl, ?ylw3⟩) hS0 ?_
      case ylw3 => (intro wz hSw; obtain ⟨z0, z1, z2, z3⟩ := hSw; obtain ⟨c0, c1, c2, c3, c4, c5, c6⟩ := z2 i x HXx.out; obtain ⟨d0, d1, d2, d3, d4, d5, d6⟩ := z3 i x HXx.out; go_simp; (try with_reducible rfl))
      try simp only [Act.put, List.getElem_toArray, List.getElem_cons_zero, List.getElem_cons_succ, List.setIfInBounds_toArray, List.set_cons_zero, List.set_cons_succ]
      refine anyT_takeN (i := 4) (v := ?vlw4) rfl (by kernel_rfl) (by kernel_rfl) (by kernel_rfl) (by rfl) (fun _ _ _ h => h) (Or.inl ⟨by rfl, ?ylw4⟩) hS0 ?_
      case ylw4 => (intro wz hSw; obtain ⟨z0, z1, z2, z3⟩ := hSw; obtain ⟨c0, c1, c2, c3, c4, c5, c6⟩ := z2 i x HXx.out; obtain ⟨d0, d1, d2, d3, d4, d5, d6⟩ := z3 i x HXx.out; go_simp; (try with_reducible rfl))
      try simp only [Act.put, List.getElem_toArray, List.getElem_cons_zero, List.getElem_cons_succ, List.setIfInBounds_toArray, List.set_cons_zero, List.set_cons_succ]
      refine anyT_takeN (i := 5) (v := ?vlw5) rfl (by kernel_rfl) (by kernel_rfl) (by kernel_rfl) (by rfl) (fun _ _ _ h => h) (Or.inl ⟨by rfl, ?ylw5⟩) hS0 ?_
      case ylw5 => (intro wz hSw; obtain ⟨z0, z1, z2, z3⟩ := hSw; obtain ⟨c0, c1, c2, c3, c4, c5, c6⟩ := z2 i x HXx.out; obtain ⟨d0, d1, d2, d3, d4, d5, d6⟩ := z3 i x HXx.out; go_simp; (try with_reducible rfl))
      try simp only [Act.put, List.getElem_toArray, List.getElem_cons_zero, List.getElem_cons_succ, List.setIfInBounds_toArray, List.set_cons_zero, List.set_cons_succ]
      refine anyT_takeN (i := 6) (v := ?vlw6) rfl (by kernel_rfl) (by kernel_rfl) (by kernel_rfl) (by rfl) (fun _ _ _ h => h) (Or.inl ⟨by rfl, ?ylw6⟩) hS0 ?_
      case ylw6 => (intro wz hSw; obtain ⟨z0, z1, z2, z3⟩ := hSw; obtain ⟨c0, c1, c2, c3, c4, c5, c6⟩ := z2 i x HXx.out; obtain ⟨d0, d1, d2, d3, d4, d5, d6⟩ := z3 i x HXx.out; go_simp; (try with_reducible rfl))
      try simp only [Act.put, List.getElem_toArray, List.getElem_cons_zero, List.getElem_cons_succ, List.setIfInBounds_toArray, List.set_cons_zero, List.set_cons_succ]
      refine anyT_takeN (i := 7) (v := ?vlw7) rfl (by kernel_rfl) (by kernel_rfl) (by kernel_rfl) (by rfl) (fun _ _ _ h => h) (Or.inl ⟨by rfl, ?ylw7⟩) hS0 ?_
      case ylw7 => (intro wz hSw; obtain ⟨z0, z1, z2, z3⟩ := hSw; obtain ⟨c0, c1, c2, c3, c4, c5, c6⟩ := z2 i x HXx.out; obtain ⟨d0, d1, d2, d3, d4, d5, d6⟩ := z3 i x HXx.out; go_simp; (try with_reducible rfl))
      try simp only [Act.put, List.getElem_toArray, List.getElem_cons_zero, List.getElem_cons_succ, List.setIfInBounds_toArray, List.set_cons_zero, List.set_cons_succ]
      refine anyT_takeN (i := 8) (v := ?vlw8) rfl (by kernel_rfl) (by kernel_rfl) (by kernel_rfl) (by rfl) (fun _ _ _ h => h) (Or.inl ⟨by rfl, ?ylw8⟩) hS0 ?_
      case ylw8 => (intro wz hSw; obtain ⟨z0, z1, z2, z3⟩ := hSw; obtain ⟨c0, c1, c2, c3, c4, c5, c6⟩ := z2 i x HXx.out; obtain ⟨d0, d1, d2, d3, d4, d5, d6⟩ := z3 i x HXx.out; go_simp; (try with_reducible rfl))
      try simp only [Act.put, List.getElem_toArray, List.getElem_cons_zero, List.getElem_cons_succ, List.setIfInBounds_toArray, List.set_cons_zero, List.set_cons_succ]
      refine anyT_takeN (i := 9) (v := ?vlw9) rfl (by kernel_rfl) (by kernel_rfl) (by kernel_rfl) (by rfl) (fun _ _ _ h => h) (Or.inl ⟨by rfl, ?ylw9⟩) hS0 ?_
      case ylw9 => (intro wz hSw; obtain ⟨z0, z1, z2, z3⟩ := hSw; obtain ⟨c0, c1, c2, c3, c4, c5, c6⟩ := z2 i x HXx.out; obtain ⟨d0, d1, d2, d3, d4, d5, d6⟩ := z3 i x HXx.out; go_simp; (try with_reducible rfl))
      try simp only [Act.put, List.getElem_toArray, List.getElem_cons_zero, List.getElem_cons_succ, List.setIfInBounds_toArray, List.set_cons_zero, List.set_cons_succ]
      refine anyT_takeN (i := 10) (v := .bool false) rfl (by kernel_rfl) (by kernel_rfl) (by kernel_rfl) (by rfl) (fun _ _ _ h => h) (Or.inl ⟨by rfl, ?ylw10⟩) hS0 ?_
      case ylw10 => (intro wz hSw; obtain ⟨z0, z1, z2, z3⟩ := hSw; obtain ⟨c0, c1, c2, c3, c4, c5, c6⟩ := z2 i x HXx.out; obtain ⟨d0, d1, d2, d3, d4, d5, d6⟩ := z3 i x HXx.out; go_simp; (try with_reducible rfl))
      try simp only [Act.put, List.getElem_toArray, List.getElem_cons_zero, List.getElem_cons_succ, List.setIfInBounds_toArray, List.set_cons_zero, List.set_cons_succ]
      refine anyT_done (by kernel_rfl) ?_
      clear hS0 hq
      go_wp2_with fail
      go_roundw
      case rel => exact ⟨i + 1, by omega, by go_num, hbd⟩
      case measure => simp [intOf]; omega
    · go_wp2_with fail
      go_ret
      exact ⟨rfl, H0.out.1.trans (hbr.mono H0.out.1.size)⟩
end Go.Proofs.YtkidabedcgngcaaGreatDoor

/-
  Instructions of code in memory, eleven cells each: szIns, toIns, eqIns.
-/
namespace Go.Proofs.YtkidabedcgngcaaGreatDoor
open Go.ChangeShapes Go.WideShapes Go.ChangeAt Go.RowKit Go.Deep
set_option linter.unusedVariables false
set_option linter.unusedSimpArgs false
set_option maxRecDepth 100000

structure Ix where
  op : Int
  a : Int
  b : Int
  free : Bool
  leaf : Nd
structure Ix.ok (e : Ix) : Prop where
  op : (Lit.int .i64 e.op).wf = true
  a : (Lit.int .i64 e.a).wf = true
  b : (Lit.int .i64 e.b).wf = true
  leaf : e.leaf.ok
abbrev Ix.ten (e : Ix) : List Value := [.int .i64 e.op, .int .i64 e.a, .int .i64 e.b, .bool e.free, .int .i64 e.leaf.kind, .string e.leaf.s, .bool e.leaf.hi, .string e.leaf.t, .int .u64 e.leaf.lo, .int .u64 e.leaf.up, .int .i64 e.leaf.n]
abbrev Ix.v (e : Ix) : Value := .agg #[.int .i64 e.op, .int .i64 e.a, .int .i64 e.b, .bool e.free, .int .i64 e.leaf.kind, .string e.leaf.s, .bool e.leaf.hi, .string e.leaf.t, .int .u64 e.leaf.lo, .int .u64 e.leaf.up, .int .i64 e.leaf.n]
def zeroI : Ix := ⟨0, 0, 0, false, zeroN⟩
def cellsX (es : List Ix) : List Value := es.flatMap Ix.ten
theorem cellsX_cons (e : Ix) (es : List Ix) : cellsX (e :: es) = e.ten ++ cellsX es := by simp [cellsX]
theorem length_cellsX (es : List Ix) : (cellsX es).length = es.length * 11 := by
  induction es with
  | nil => rfl
  | cons e es ih => rw [cellsX_cons, List.length_append, ih]; simp; omega
theorem cellsX_get (es : List Ix) : ∀ (k : Nat) (e : Ix), es[k]? = some e → ∀ j, j < 11 → (cellsX es)[k * 11 + j]? = e.ten[j]? := by
  induction es with
  | nil => intro k e h; simp at h
  | cons f es ih =>
    intro k e h j hj
    rw [cellsX_cons]
    cases k with
    | zero =>
      simp at h; subst h
      rw [List.getElem?_append_left (by show 0 * 11 + j < 11; omega)]
      simp
    | succ k =>
      simp at h
      rw [List.getElem?_append_right (by show 11 ≤ (k + 1) * 11 + j; omega)]
      have : (k + 1) * 11 + j - f.ten.length = k * 11 + j := by show (k + 1) * 11 + j - 11 = _; omega
      rw [this]; exact ih k e h j hj
theorem cellsX_set (es : List Ix) : ∀ (k : Nat) (e e' : Ix) (u : Value) (j : Nat), es[k]? = some e → j < 11 → e'.ten = e.ten.set j u → (cellsX es).set (k * 11 + j) u = cellsX (es.set k e') := by
  induction es with
  | nil => intro k e e' u j h; simp at h
  | cons f es ih =>
    intro k e e' u j h hj hc
    rw [cellsX_cons]
    cases k with
    | zero =>
      simp at h; subst h
      rw [List.set_append_left _ _ (by show 0 * 11 + j < 11; omega), List.set_cons_zero, cellsX_cons, hc]
      simp
    | succ k =>
      simp at h
      rw [List.set_append_right _ _ (by show 11 ≤ (k + 1) * 11 + j; omega), List.set_cons_succ, cellsX_cons]
      have : (k + 1) * 11 + j - f.ten.length = k * 11 + j := by show (k + 1) * 11 + j - 11 = _; omega
      rw [this, ih k e e' u j h hj hc]

/-- The instructions 'es' lie at ⟨b, off⟩, eleven cells each. -/
def IxsAt (w : World) (b off : Nat) (es : List Ix) : Prop :=
  ∀ i e, es[i]? = some e → w.cell? ⟨b, off + i * 11, none⟩ = some (.int .i64 e.op) ∧ w.cell? ⟨b, off + i * 11 + 1, none⟩ = some (.int .i64 e.a) ∧ w.cell? ⟨b, off + i * 11 + 2, none⟩ = some (.int .i64 e.b) ∧ w.cell? ⟨b, off + i * 11 + 3, none⟩ = some (.bool e.free) ∧ w.cell? ⟨b, off + i * 11 + 4, none⟩ = some (.int .i64 e.leaf.kind) ∧ w.cell? ⟨b, off + i * 11 + 5, none⟩ = some (.string e.leaf.s) ∧ w.cell? ⟨b, off + i * 11 + 6, none⟩ = some (.bool e.leaf.hi) ∧ w.cell? ⟨b, off + i * 11 + 7, none⟩ = some (.string e.leaf.t) ∧ w.cell? ⟨b, off + i * 11 + 8, none⟩ = some (.int .u64 e.leaf.lo) ∧ w.cell? ⟨b, off + i * 11 + 9, none⟩ = some (.int .u64 e.leaf.up) ∧ w.cell? ⟨b, off + i * 11 + 10, none⟩ = some (.int .i64 e.leaf.n)
theorem IxsAt.below {B : Nat} {w w' : World} {b off : Nat} {es : List Ix} (h : IxsAt w b off es) (hb : Below B w w') (hlt : b < B) : IxsAt w' b off es := by
  intro i e he
  have := h i e he
  refine ⟨?_, ?_, ?_, ?_, ?_, ?_, ?_, ?_, ?_, ?_, ?_⟩
  all_goals rw [hb.cell (by exact hlt)]
  · exact this.1
  · exact this.2.1
  · exact this.2.2.1
  · exact this.2.2.2.1
  · exact this.2.2.2.2.1
  · exact this.2.2.2.2.2.1
  · exact this.2.2.2.2.2.2.1
  · exact this.2.2.2.2.2.2.2.1
  · exact this.2.2.2.2.2.2.2.2.1
  · exact this.2.2.2.2.2.2.2.2.2.1
  · exact this.2.2.2.2.2.2.2.2.2.2
theorem IxsAt.chg {S : Nat → Prop} {w w' : World} {b off : Nat} {es : List Ix} (h : IxsAt w b off es) (hb : Chg S w w') (hlt : b < w.heap.size) (hn : ¬ S b) : IxsAt w' b off es := by
  intro i e he
  have := h i e he
  refine ⟨?_, ?_, ?_, ?_, ?_, ?_, ?_, ?_, ?_, ?_, ?_⟩
  all_goals rw [hb.cell (by exact hlt) (by exact hn)]
  · exact this.1
  · exact this.2.1
  · exact this.2.2.1
  · exact this.2.2.2.1
  · exact this.2.2.2.2.1
  · exact this.2.2.2.2.2.1
  · exact this.2.2.2.2.2.2.1
  · exact this.2.2.2.2.2.2.2.1
  · exact this.2.2.2.2.2.2.2.2.1
  · exact this.2.2.2.2.2.2.2.2.2.1
  · exact this.2.2.2.2.2.2.2.2.2.2
theorem takeX_succ {es fs : List Ix} {k : Nat} {e : Ix} (h : fs.take k = es.take k) (hl : fs.length = es.length) (he : es[k]? = some e) : (fs.set k e).take (k + 1) = es.take (k + 1) := by
  have hlt : k < es.length := (List.getElem?_eq_some_iff.1 he).1
  rw [List.take_set, List.take_add_one, List.take_add_one (l := es), he, List.getElem?_eq_getElem (by omega), h]
  simp only [Option.toList]
  rw [List.set_append_right _ _ (by simp; omega)]
  simp
  rw [show k - min k es.length = 0 by omega]
  rfl

theorem below_put11 {B : Nat} {a w : World} (h : Below B a w) {g : Nat} (hg : B ≤ g) (o0 o1 o2 o3 o4 o5 o6 o7 o8 o9 o10 : Nat) (v0 v1 v2 v3 v4 v5 v6 v7 v8 v9 v10 : Value) :
    Below B a (((((((((((w.setCell ⟨g, o0, none⟩ v0).setCell ⟨g, o1, none⟩ v1).setCell ⟨g, o2, none⟩ v2).setCell ⟨g, o3, none⟩ v3).setCell ⟨g, o4, none⟩ v4).setCell ⟨g, o5, none⟩ v5).setCell ⟨g, o6, none⟩ v6).setCell ⟨g, o7, none⟩ v7).setCell ⟨g, o8, none⟩ v8).setCell ⟨g, o9, none⟩ v9).setCell ⟨g, o10, none⟩ v10) :=
  ((((((((((h.setCell hg _).setCell hg _).setCell hg _).setCell hg _).setCell hg _).setCell hg _).setCell hg _).setCell hg _).setCell hg _).setCell hg _).setCell hg _
end Go.Proofs.YtkidabedcgngcaaGreatDoor

