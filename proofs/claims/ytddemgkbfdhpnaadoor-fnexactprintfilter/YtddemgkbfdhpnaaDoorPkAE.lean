import Derived.Lib.Bytealg
import Derived.Lib.Slices
import Derived.Lib.Walk
import Derived.Deep.QuietTactic
import Derived.BigQuiet
import Derived.Deep.DeepCutAuto
import Derived.Deep.RegionWith
import Derived.Lib.ItoaNum
import Derived.Maps.AppendAt
import Derived.Lib.ConvBytes
import Derived.Test.YtddemgkbfdhpnaaDoorPkAA
import Derived.Test.YtddemgkbfdhpnaaDoorPkAD
/-
  Nodes that come in: lists of nodes and filters opened, copied and compared.
-/
namespace Go.Proofs.YtddemgkbfdhpnaaDoor
open Go.ChangeShapes Go.WideShapes Go.ChangeAt Go.RowKit Go.Deep
set_option linter.unusedVariables false
set_option linter.unusedSimpArgs false
set_option maxRecDepth 100000

theorem Tryd.cellsNd : Tryd.prog.cellsOf 51 = 7 := by kernel_rfl
theorem list7 {α : Type} {cs : List α} (h : cs.length = 7) : ∃ c0 c1 c2 c3 c4 c5 c6, cs = [c0, c1, c2, c3, c4, c5, c6] := by
  match cs, h with
  | [c0, c1, c2, c3, c4, c5, c6], _ => exact ⟨c0, c1, c2, c3, c4, c5, c6, rfl⟩
theorem nd_of_trod {H : Type} {enc : TypeId × Value → H} {w : World} {base : Nat} {spare : Nat → Bool} {held : Bool} {fuel : Nat} {cs : List Value} {x : DataW H × List MemPlace}
    (h : DataW.trod enc Tryd.prog w base spare held fuel 51 cs = some x) : ∃ e : Nd, e.ok ∧ cs = e.seven := by
  obtain ⟨xs, n, _, _, hl, hlen, hf⟩ := DataW.trod_struct Tryd.underlying51 h
  rw [Tryd.cellsNd] at hl
  obtain ⟨c0, c1, c2, c3, c4, c5, c6, rfl⟩ := list7 hl
  obtain ⟨x0, x1, x2, x3, x4, x5, x6, rfl⟩ := list7 (cs := xs) hlen
  have h0 := hf 0 _ rfl
  have h1 := hf 1 _ rfl
  have h2 := hf 2 _ rfl
  have h3 := hf 3 _ rfl
  have h4 := hf 4 _ rfl
  have h5 := hf 5 _ rfl
  have h6 := hf 6 _ rfl
  simp [Tryd.cellsStr, Tryd.cellsU64, Tryd.cellsI64, Tryd.cellsBool] at h0 h1 h2 h3 h4 h5 h6
  obtain ⟨a0, e0, _, b0⟩ := DataW.trod_int Tryd.underlying2 h0
  obtain ⟨a1, e1, _, b1⟩ := DataW.trod_string Tryd.underlying9 h1
  obtain ⟨a2, e2, _⟩ := DataW.trod_bool Tryd.underlying4 h2
  obtain ⟨a3, e3, _, b3⟩ := DataW.trod_string Tryd.underlying9 h3
  obtain ⟨a4, e4, _, b4⟩ := DataW.trod_int Tryd.underlying49 h4
  obtain ⟨a5, e5, _, b5⟩ := DataW.trod_int Tryd.underlying49 h5
  obtain ⟨a6, e6, _, b6⟩ := DataW.trod_int Tryd.underlying2 h6
  simp only [List.cons.injEq, and_true] at e0 e1 e2 e3 e4 e5 e6
  exact ⟨⟨a0, a1, a2, a3, a4, a5, a6⟩, ⟨b1, b3, b0, b4, b5, b6⟩, by rw [e0, e1, e2, e3, e4, e5, e6]⟩

/-- What is read of a slice of cells that came in. -/
def InNds (w : World) (v : Value) (es : List Nd) : Prop :=
  (∃ a cap, v = .slice a 0 cap ∧ es = []) ∨
  ∃ b off cap, v = .slice (some ⟨b, off, none⟩) es.length cap ∧ NdsAt w b off es ∧ b < w.heap.size ∧ es.length ≤ cap ∧ cap ≤ maxLen
theorem InNds.below {B : Nat} {w w' : World} {v : Value} {es : List Nd} (h : InNds w v es) (hb : Below B w w') (hB : w.heap.size ≤ B) : InNds w' v es := by
  rcases h with h | ⟨b, off, cap, hv, hE, hlt, h1, h2⟩
  · exact .inl h
  · exact .inr ⟨b, off, cap, hv, hE.below hb (by omega), by have := hb.size; omega, h1, h2⟩
theorem nds_of_trod {H : Type} {enc : TypeId × Value → H} {w : World} {base : Nat} {held : Bool} {fuel : Nat} {v : Value} {x : DataW H × List MemPlace}
    (h : DataW.trod enc Tryd.prog w base (fun _ => true) held fuel 22 [v] = some x) : ∃ es : List Nd, InNds w v es ∧ ∀ e ∈ es, e.ok := by
  rcases open_slice Tryd.underlying22 h with ⟨hcs, _⟩ | ⟨a, len, cap, m, n, D, Pl, hcs, hba, hl, hm, hmm, _, hel⟩
  · simp only [List.cons.injEq, and_true] at hcs
    exact ⟨[], .inl ⟨none, 0, hcs, rfl⟩, by simp⟩
  · simp only [List.cons.injEq, and_true] at hcs
    subst hcs
    rw [if_pos rfl] at hmm
    subst hmm
    have hel6 : ∀ i, i < m → ∃ cs', w.cells? base (a.add (i * 7)) 7 = some cs' ∧ DataW.trod enc Tryd.prog w base (fun _ => true) held n 51 cs' = some (D i, Pl i) := fun i hi => by
      have := hel i hi
      rw [Tryd.cellsNd] at this
      exact this
    clear hel
    have HM : Hid (m ≤ maxLen) := hm
    clear hm
    by_cases h0 : len = 0
    · subst h0; exact ⟨[], .inl ⟨_, _, rfl, rfl⟩, by simp⟩
    · obtain ⟨b, off, spot⟩ := a
      have hspot : spot = none := by
        obtain ⟨cs', hc, _⟩ := hel6 0 (by omega)
        obtain ⟨_, hlen, hget⟩ := World.cells?_some hc
        have h1 := hget 0 (by omega)
        have h2 : (w.cell? ((Addr.add ⟨b, off, spot⟩ (0 * 7)).add 0)).isSome = true := by rw [h1]; simp; omega
        obtain ⟨u, hu⟩ := Option.isSome_iff_exists.1 h2
        simpa [Addr.add] using World.cell?_spot hu
      subst hspot
      obtain ⟨es, hes, hp⟩ := list_of_forall (P := fun i (e : Nd) => e.ok ∧ (w.cell? ⟨b, off + i * 7, none⟩ = some (.int .i64 e.kind) ∧ w.cell? ⟨b, off + i * 7 + 1, none⟩ = some (.string e.s) ∧ w.cell? ⟨b, off + i * 7 + 2, none⟩ = some (.bool e.hi) ∧ w.cell? ⟨b, off + i * 7 + 3, none⟩ = some (.string e.t) ∧ w.cell? ⟨b, off + i * 7 + 4, none⟩ = some (.int .u64 e.lo) ∧ w.cell? ⟨b, off + i * 7 + 5, none⟩ = some (.int .u64 e.up) ∧ w.cell? ⟨b, off + i * 7 + 6, none⟩ = some (.int .i64 e.n))) len (fun i hi => by
        obtain ⟨cs', hc, ht⟩ := hel6 i (by omega)
        obtain ⟨e, ok, rfl⟩ := nd_of_trod ht
        obtain ⟨_, hlen, hget⟩ := World.cells?_some hc
        refine ⟨e, ok, ?_, ?_, ?_, ?_, ?_, ?_, ?_⟩
        · simpa [Addr.add_mid] using hget 0 (by omega)
        · simpa [Addr.add_mid] using hget 1 (by omega)
        · simpa [Addr.add_mid] using hget 2 (by omega)
        · simpa [Addr.add_mid] using hget 3 (by omega)
        · simpa [Addr.add_mid] using hget 4 (by omega)
        · simpa [Addr.add_mid] using hget 5 (by omega)
        · simpa [Addr.add_mid] using hget 6 (by omega))
      have hlt : b < w.heap.size := by
        obtain ⟨cs', hc, _⟩ := hel6 0 (by omega)
        simpa [Addr.add] using World.cells?_block hc (by omega)
      subst hes
      refine ⟨es, .inr ⟨b, off, m, rfl, fun i e he => (hp i e he).2, hlt, hl, HM.out⟩, fun e he => ?_⟩
      obtain ⟨i, hi⟩ := List.getElem?_of_mem he
      exact (hp i e hi).1

set_option maxHeartbeats 400000 in
theorem szNodeS_core (b off cap : Nat) (es : List Nd) (left : Int) (w : World) (hE : NdsAt w b off es) (hok : ∀ e ∈ es, e.ok) (hB : b < w.heap.size) (hlen : es.length ≤ cap) (hcap : cap ≤ maxLen) (h0 : 0 ≤ left) (h1 : left ≤ 2 ^ 40) :
    Calls Tryd.prog 13 #[.slice (some ⟨b, off, none⟩) es.length cap, .int .i64 left] w fun e w' =>
      ∃ x, e = .returned (.int .i64 x) ∧ (x = -1 ∨ (0 ≤ x ∧ x + es.length ≤ left)) ∧ Below w.heap.size w w' := by
  have HE : Hid (NdsAt w b off es) := hE
  have HO : Hid (∀ e ∈ es, e.ok) := hok
  clear hE hok
  unfold maxLen at hcap
  by_cases hle : left < es.length
  · have hle' : left - es.length < 0 := by omega
    go_enter Tryd.func13, Tryd.ntmps13
    go_wp2
    go_ret
    exact ⟨_, rfl, .inl rfl, Below.refl _ _⟩
  have hle' : 0 ≤ left - es.length := by omega
  go_enter Tryd.func13, Tryd.ntmps13
  go_wp2
  go_loopw [1, 5] (fun l i wr => ∃ (k : Nat) (x : Int), k ≤ es.length ∧ i = .int .i64 k ∧ l = .int .i64 x ∧ 0 ≤ x ∧ x + es.length ≤ left ∧ Below w.heap.size w wr) (fun _ i _ => es.length - (intOf i).toNat)
  case atStart => exact ⟨0, _, Nat.zero_le _, rfl, rfl, hle', by omega, Below.refl _ _⟩
  case round =>
    obtain ⟨k, x, hk, rfl, rfl, hx0, hx1, hb⟩ := hrel
    by_cases hlt : k < es.length
    · obtain ⟨e, he⟩ : ∃ e, es[k]? = some e := ⟨_, List.getElem?_eq_getElem hlt⟩
      obtain ⟨c0, c1, c2, c3, c4, c5, c6⟩ := (HE.out.below hb hB) k e he
      have ok := HO.out e (List.mem_of_getElem? he)
      have HK : Hid e.ok := ok
      clear ok he
      go_wp2_with fail
      refine (szNode_core e _ _ HK.out (by omega) (by omega)).mono ?_
      rintro e w1 ⟨y, rfl, hy, hb1⟩
      have hsz := hb.size
      have hb2 := hb.trans (hb1.mono hsz)
      clear c0 c1 c2 c3 c4 c5 c6 hb1
      by_cases hy0 : y < 0
      · go_wp2_with fail
        go_ret
        exact ⟨_, rfl, .inl rfl, hb2⟩
      · have hy1 : 0 ≤ y := by omega
        have hy2 : y + es.length ≤ left := by omega
        go_wp2_with fail
        go_roundw
        case rel => exact ⟨k + 1, y, by omega, by go_num, rfl, hy1, hy2, hb2⟩
        case measure => simp [intOf]; omega
    · go_wp2
      go_ret
      exact ⟨_, rfl, .inr ⟨hx0, hx1⟩, hb⟩
set_option maxHeartbeats 400000 in
theorem szNodeS_zero (a : Option Addr) (cap : Nat) (left : Int) (w : World) (h0 : 0 ≤ left) (h1 : left ≤ 2 ^ 40) :
    Calls Tryd.prog 13 #[.slice a 0 cap, .int .i64 left] w fun e w' => e = .returned (.int .i64 left) ∧ Below w.heap.size w w' := by
  go_enter Tryd.func13, Tryd.ntmps13
  go_wp2
  go_loopw [1, 5] (fun l i wr => l = .int .i64 left ∧ i = .int .i64 0 ∧ Below w.heap.size w wr) (fun _ i _ => 0)
  case atStart => exact ⟨rfl, rfl, Below.refl _ _⟩
  case round =>
    obtain ⟨rfl, rfl, hb⟩ := hrel
    go_wp2_with fail
    go_ret
    exact ⟨rfl, hb⟩
theorem szNodeS_any (v : Value) (es : List Nd) (left : Int) (w : World) (h : InNds w v es) (hok : ∀ e ∈ es, e.ok) (h0 : 0 ≤ left) (h1 : left ≤ 2 ^ 40) :
    Calls Tryd.prog 13 #[v, .int .i64 left] w fun e w' =>
      ∃ x, e = .returned (.int .i64 x) ∧ (x = -1 ∨ (0 ≤ x ∧ x + es.length ≤ left)) ∧ Below w.heap.size w w' := by
  rcases h with ⟨a, cap, rfl, rfl⟩ | ⟨b, off, cap, rfl, hE, hlt, g1, g2⟩
  · exact (szNodeS_zero a cap left w h0 h1).mono fun e w' ⟨he, hb⟩ => ⟨left, he, .inr ⟨h0, by simp⟩, hb⟩
  · exact szNodeS_core b off cap es left w hE hok hlt g1 g2 h0 h1

theorem made_zeroN (n : Nat) : (madeCells #[.int .i64 0, .string ⟨#[]⟩, .bool false, .string ⟨#[]⟩, .int .u64 0, .int .u64 0, .int .i64 0] (n * 7)).toList = cellsN (List.replicate n zeroN) := by
  apply List.ext_getElem?
  intro j
  by_cases hj : j < n * 7
  · have h := cellsN_get (List.replicate n zeroN) (j / 7) zeroN (by rw [List.getElem?_replicate, if_pos (by omega)]) (j % 7) (Nat.mod_lt _ (by omega))
    rw [show j / 7 * 7 + j % 7 = j by omega] at h
    rw [h]
    have h6 : j % 7 < 7 := Nat.mod_lt _ (by omega)
    simp [madeCells, hj]
    generalize j % 7 = m at *
    match m, h6 with
    | 0, _ => rfl
    | 1, _ => rfl
    | 2, _ => rfl
    | 3, _ => rfl
    | 4, _ => rfl
    | 5, _ => rfl
    | 6, _ => rfl
  · have h1 : (cellsN (List.replicate n zeroN)).length ≤ j := by rw [length_cellsN, List.length_replicate]; omega
    rw [List.getElem?_eq_none h1]
    simp [madeCells, hj]
set_option maxHeartbeats 400000 in
theorem toNodeS_core (b off cap : Nat) (es : List Nd) (w : World) (hE : NdsAt w b off es) (hB : b < w.heap.size) (hlen : es.length ≤ cap) (hcap : cap ≤ maxLen) (h1 : es.length ≤ 1048576) :
    Calls Tryd.prog 16 #[.slice (some ⟨b, off, none⟩) es.length cap] w fun e w' =>
      ∃ g, e = .returned (.slice (some ⟨g, 0, none⟩) es.length es.length) ∧ OwnNd w' w.heap.size g es.length es ∧ Below w.heap.size w w' := by
  have HE : Hid (NdsAt w b off es) := hE
  clear hE
  unfold maxLen at hcap
  obtain ⟨i, hi, hz0, hz1, hz2⟩ := info_parts Tryd.infoNd
  have HI : Hid (Tryd.prog.info? 53 = some i ∧ i.zero = some (.agg #[.int .i64 0, .string ⟨#[]⟩, .bool false, .string ⟨#[]⟩, .int .u64 0, .int .u64 0, .int .i64 0]) ∧ i.size = 7 ∧ i.bytes = 72) := ⟨hi, hz0, hz1, hz2⟩
  clear hi hz0 hz1 hz2
  go_enter Tryd.func16, Tryd.ntmps16
  go_wp2_with (at_make; refine wpList_make_full _ rfl _ _ 28 rfl w.heap.size 53 i _ 7 Tryd.underlying28 HI.out.1 HI.out.2.1 HI.out.2.2.1 _ _ _ _ es.length rfl rfl ?_ ?_ ?hb ?hm ?hs ?_)
  case hb => rw [HI.out.2.2.2]; omega
  case hm => unfold maxLen; omega
  case hs => exact Nat.le_refl _
  · rfl
  · rfl
  intro w1 hown hgrow
  rw [made_zeroN] at hown
  have hown1 : OwnNd w1 w.heap.size w.heap.size es.length (List.replicate es.length zeroN) := by
    unfold OwnNd; rw [List.length_replicate]; exact hown
  have HW : Hid (OwnNd w1 w.heap.size w.heap.size es.length (List.replicate es.length zeroN)) := hown1
  have hb1 : Below w.heap.size w w1 := (Below.refl _ _).grown hgrow (Nat.le_refl _) (fun k hk => by cases hk)
  clear hown hown1 hgrow
  go_wp2_with fail
  go_loopw [4] (fun i wr => ∃ (k : Nat) (fs : List Nd), k ≤ es.length ∧ i = .int .i64 k ∧ fs.length = es.length ∧ fs.take k = es.take k ∧ OwnNd wr w.heap.size w.heap.size es.length fs ∧ Below w.heap.size w wr) (fun i _ => es.length - (intOf i).toNat)
  case atStart => exact ⟨0, _, Nat.zero_le _, rfl, List.length_replicate .., rfl, HW.out, hb1⟩
  case round =>
    obtain ⟨k, fs, hk, rfl, hfl, hft, hO, hb⟩ := hrel
    have HO : Hid (fs.length = es.length ∧ fs.take k = es.take k ∧ OwnNd wr w.heap.size w.heap.size es.length fs) := ⟨hfl, hft, hO⟩
    clear hfl hft hO
    by_cases hlt : k < es.length
    · obtain ⟨e, he⟩ : ∃ e, es[k]? = some e := ⟨_, List.getElem?_eq_getElem hlt⟩
      obtain ⟨c0, c1, c2, c3, c4, c5, c6⟩ := (HE.out.below hb hB) k e he
      have HG : Hid (es[k]? = some e) := he
      clear he
      go_wp2_with fail
      refine (toNode_core e _).mono ?_
      rintro e' w2 ⟨rfl, hb2⟩
      have hO2 := (HO.out.2.2).below hb2 (HO.out.2.2).lt.2
      obtain ⟨f, hf⟩ : ∃ f, fs[k]? = some f := ⟨_, List.getElem?_eq_getElem (by rw [HO.out.1]; exact hlt)⟩
      obtain ⟨d0, d1, d2, d3, d4, d5, d6⟩ := hO2.at k f hf
      simp only [Nat.zero_add] at d0 d1 d2 d3 d4 d5 d6
      have hfz := fun j => World.ownsRow.frozenAt hO2 j
      have HO2 : Hid (OwnNd w2 w.heap.size w.heap.size es.length fs ∧ fs[k]? = some f) := ⟨hO2, hf⟩
      clear hO2 hf c0 c1 c2 c3 c4 c5 c6
      go_wp2_with fail
      go_roundw
      case rel => exact ⟨k + 1, fs.set k e, by omega, by go_num, by rw [List.length_set]; exact HO.out.1, takeN_succ HO.out.2.1 HO.out.1 HG.out, HO2.out.1.put k f e HO2.out.2, below_put7 (hb.trans (hb2.mono hb.size)) (Nat.le_refl _) _ _ _ _ _ _ _ _ _ _ _ _ _ _⟩
      case measure => simp [intOf]; omega
    · have hfs : fs = es := by
        have h := HO.out.2.1
        rw [List.take_of_length_le (by have := HO.out.1; omega), List.take_of_length_le (by omega)] at h
        exact h
      go_wp2
      go_ret
      exact ⟨_, rfl, by rw [← hfs] at HO ⊢; exact HO.out.2.2, hb⟩
set_option maxHeartbeats 400000 in
theorem toNodeS_zero (a : Option Addr) (cap : Nat) (w : World) :
    Calls Tryd.prog 16 #[.slice a 0 cap] w fun e w' =>
      ∃ g, e = .returned (.slice (some ⟨g, 0, none⟩) 0 0) ∧ OwnNd w' w.heap.size g 0 [] ∧ Below w.heap.size w w' := by
  obtain ⟨i, hi, hz0, hz1, hz2⟩ := info_parts Tryd.infoNd
  have HI : Hid (Tryd.prog.info? 53 = some i ∧ i.zero = some (.agg #[.int .i64 0, .string ⟨#[]⟩, .bool false, .string ⟨#[]⟩, .int .u64 0, .int .u64 0, .int .i64 0]) ∧ i.size = 7 ∧ i.bytes = 72) := ⟨hi, hz0, hz1, hz2⟩
  clear hi hz0 hz1 hz2
  go_enter Tryd.func16, Tryd.ntmps16
  go_wp2_with (at_make; refine wpList_make_full _ rfl _ _ 28 rfl w.heap.size 53 i _ 7 Tryd.underlying28 HI.out.1 HI.out.2.1 HI.out.2.2.1 _ _ _ _ 0 rfl rfl ?_ ?_ ?hb ?hm ?hs ?_)
  case hb => rw [HI.out.2.2.2]; omega
  case hm => unfold maxLen; omega
  case hs => exact Nat.le_refl _
  · rfl
  · rfl
  intro w1 hown hgrow
  have HW : Hid (OwnNd w1 w.heap.size w.heap.size 0 []) := by
    have h0 := made_zeroN 0
    rw [Nat.zero_mul] at h0
    rw [h0] at hown
    exact hown
  have hb1 : Below w.heap.size w w1 := (Below.refl _ _).grown hgrow (Nat.le_refl _) (fun k hk => by cases hk)
  clear hown hgrow
  go_wp2_with fail
  go_loopw [4] (fun i wr => i = .int .i64 0 ∧ wr = w1) (fun i _ => 0)
  case atStart => exact ⟨rfl, rfl⟩
  case round =>
    obtain ⟨rfl, rfl⟩ := hrel
    go_wp2_with fail
    go_ret
    exact ⟨_, rfl, HW.out, hb1⟩
theorem toNodeS_any (v : Value) (es : List Nd) (w : World) (h : InNds w v es) (h1 : es.length ≤ 1048576) :
    Calls Tryd.prog 16 #[v] w fun e w' =>
      ∃ g, e = .returned (.slice (some ⟨g, 0, none⟩) es.length es.length) ∧ OwnNd w' w.heap.size g es.length es ∧ Below w.heap.size w w' := by
  rcases h with ⟨a, cap, rfl, rfl⟩ | ⟨b, off, cap, rfl, hE, hlt, g1, g2⟩
  · exact toNodeS_zero a cap w
  · exact toNodeS_core b off cap es w hE hlt g1 g2 h1
set_option maxHeartbeats 1000000 in
theorem eqNodeS_same (b off cap b' off' cap' : Nat) (es : List Nd) (w : World) (hE : NdsAt w b off es) (hE' : NdsAt w b' off' es) (hB : b < w.heap.size) (hB' : b' < w.heap.size) (hlen : es.length ≤ maxLen) :
    Calls Tryd.prog 20 #[.slice (some ⟨b, off, none⟩) es.length cap, .slice (some ⟨b', off', none⟩) es.length cap'] w fun e w' =>
      e = .returned (.bool true) ∧ Below w.heap.size w w' := by
  have HE : Hid (NdsAt w b off es ∧ NdsAt w b' off' es) := ⟨hE, hE'⟩
  clear hE hE'
  unfold maxLen at hlen
  go_enter Tryd.func20, Tryd.ntmps20
  go_wp2
  go_loopw [5] (fun i wr => ∃ (k : Nat), k ≤ es.length ∧ i = .int .i64 k ∧ Below w.heap.size w wr) (fun i _ => es.length - (intOf i).toNat)
  case atStart => exact ⟨0, Nat.zero_le _, rfl, Below.refl _ _⟩
  case round =>
    obtain ⟨k, hk, rfl, hb⟩ := hrel
    have hs2 := hb.size
    by_cases hlt : k < es.length
    · obtain ⟨e, he⟩ : ∃ e, es[k]? = some e := ⟨_, List.getElem?_eq_getElem hlt⟩
      obtain ⟨c0, c1, c2, c3, c4, c5, c6⟩ := HE.out.1.below hb hB k e he
      obtain ⟨d0, d1, d2, d3, d4, d5, d6⟩ := HE.out.2.below hb hB' k e he
      clear he
      go_upto_region 6 with fail
      go_cut [26] (fun s wx => s = .bool false ∧ Below w.heap.size w wx)
      case first =>
        have z2 : (k : Int) < (es.length : Int) := by omega
        go_region_with (go_at_call 37; refine (eqNode_same e _).mono ?_; rintro e' w' ⟨rfl, hbb⟩)
        all_goals go_wp2_with fail
        all_goals go_meet
        all_goals exact ⟨rfl, hb.drew.trans (hbb.mono (by simp; omega))⟩
      case rest =>
      obtain ⟨rfl, h3⟩ := hcut
      clear c0 c1 c2 c3 c4 c5 c6 d0 d1 d2 d3 d4 d5 d6
      go_wp2_with fail
      go_roundw
      case rel => exact ⟨k + 1, by omega, by go_num, h3⟩
      case measure => simp [intOf]; omega
    · go_wp2_with fail
      go_ret
      exact ⟨rfl, hb⟩
theorem eqNodeS_own {w : World} {base g cp base' g' cp' : Nat} {es : List Nd} (h : OwnNd w base g cp es) (h' : OwnNd w base' g' cp' es) :
    Calls Tryd.prog 20 #[.slice (some ⟨g, 0, none⟩) es.length cp, .slice (some ⟨g', 0, none⟩) es.length cp'] w fun e w' => e = .returned (.bool true) ∧ Below w.heap.size w w' :=
  eqNodeS_same g 0 cp g' 0 cp' es w h.at h'.at h.lt.2 h'.lt.2 (Nat.le_trans h.caps.1 h.caps.2)
set_option maxHeartbeats 400000 in
theorem eqNodeS_zero (a a' : Option Addr) (cap cap' : Nat) (w : World) :
    Calls Tryd.prog 20 #[.slice a 0 cap, .slice a' 0 cap'] w fun e w' => e = .returned (.bool true) ∧ Below w.heap.size w w' := by
  go_enter Tryd.func20, Tryd.ntmps20
  go_wp2
  go_loopw [5] (fun i wr => i = .int .i64 0 ∧ Below w.heap.size w wr) (fun i _ => 0)
  case atStart => exact ⟨rfl, Below.refl _ _⟩
  case round =>
    obtain ⟨rfl, hb⟩ := hrel
    go_wp2_with fail
    go_ret
    exact ⟨rfl, hb⟩
theorem InNds.own {w : World} {base g n cap : Nat} {es : List Nd} (h : OwnNd w base g cap es) (hn : n = es.length) : InNds w (.slice (some ⟨g, 0, none⟩) n cap) es := by
  subst hn
  exact .inr ⟨g, 0, cap, rfl, h.at, h.lt.2, h.caps.1, h.caps.2⟩
theorem eqNodeS_any (u u' : Value) (es : List Nd) (w : World) (h : InNds w u es) (h' : InNds w u' es) :
    Calls Tryd.prog 20 #[u, u'] w fun e w' => e = .returned (.bool true) ∧ Below w.heap.size w w' := by
  rcases h with ⟨a, cap, rfl, rfl⟩ | ⟨b, off, cap, rfl, hE, hlt, g1, g2⟩
  · rcases h' with ⟨a', cap', rfl, _⟩ | ⟨b', off', cap', rfl, hE', hlt', g1', g2'⟩
    · exact eqNodeS_zero a a' cap cap' w
    · exact eqNodeS_zero a _ cap cap' w
  · rcases h' with ⟨a', cap', rfl, rfl⟩ | ⟨b', off', cap', rfl, hE', hlt', g1', g2'⟩
    · exact eqNodeS_zero _ a' cap cap' w
    · exact eqNodeS_same b off cap b' off' cap' es w hE hE' hlt hlt' (Nat.le_trans g1 g2)
set_option maxRecDepth 100000 in
theorem open_filter {H : Type} {enc : TypeId × Value → H} {w : World} {base b0 : Nat} {held : Bool} {r : Reach} {v : Value} {d : DataW H} {p : List MemPlace}
    (hv : Value.okWide Tryd.prog w r b0 24 v) (h : DataW.Trod enc Tryd.prog w base (fun _ => true) held 24 v d p) :
    ∃ (u : Value) (es : List Nd), v = .agg #[u] ∧ InNds w u es ∧ ∀ e ∈ es, e.ok := by
  obtain ⟨cs, rfl, hsz⟩ := okWide_struct Tryd.underlying24 hv
  obtain ⟨fuel, hf⟩ := h
  obtain ⟨y0, n, _, hl, h0⟩ := trod_struct1 Tryd.underlying24 hf
  have h1 : Tryd.prog.cellsOf 24 = 1 := by kernel_rfl
  have h2 : Tryd.prog.cellsOf 22 = 1 := by kernel_rfl
  rw [h1] at hsz
  obtain ⟨l⟩ := cs
  match l, hsz with
  | [u], _ =>
    simp [h2, Value.cells] at h0
    obtain ⟨es, he, ok⟩ := nds_of_trod h0
    exact ⟨u, es, rfl, he, ok⟩

set_option maxHeartbeats 400000 in
theorem szFilter_any (u : Value) (es : List Nd) (left : Int) (w : World) (h : InNds w u es) (hok : ∀ e ∈ es, e.ok) (h0 : 0 ≤ left) (h1 : left ≤ 2 ^ 40) :
    Calls Tryd.prog 4 #[.agg #[u], .int .i64 left] w fun e w' =>
      ∃ x, e = .returned (.int .i64 x) ∧ (x = -1 ∨ (0 ≤ x ∧ x + es.length ≤ left)) ∧ Below w.heap.size w w' := by
  have HE : Hid (InNds w u es ∧ ∀ e ∈ es, e.ok) := ⟨h, hok⟩
  have hu : u.cells = #[u] := by
    rcases h with ⟨a, cap, rfl, _⟩ | ⟨b, off, cap, rfl, _⟩ <;> rfl
  clear h hok
  go_enter Tryd.func4, Tryd.ntmps4
  go_wp2_with fail
  refine (szNodeS_any u es left _ (HE.out.1.below ((Below.refl _ _).alloc (Nat.le_refl _) _) (Nat.le_refl _)) HE.out.2 h0 h1).mono ?_
  rintro e w1 ⟨x, rfl, hx, hb1⟩
  have k1 : Below w.heap.size w w1 := ((Below.refl _ _).alloc (Nat.le_refl _) (Obj.cells #[u] 24)).trans (hb1.mono (by simp))
  have HX : Hid (x = -1 ∨ (0 ≤ x ∧ x + es.length ≤ left)) := hx
  by_cases hx0 : x < 0
  · clear hx
    go_wp2_with fail
    go_ret
    exact ⟨_, rfl, .inl rfl, k1⟩
  · clear hx
    go_wp2_with fail
    go_ret
    exact ⟨_, rfl, HX.out, k1⟩

set_option maxHeartbeats 400000 in
theorem toFilter_any (u : Value) (es : List Nd) (w : World) (h : InNds w u es) (h1 : es.length ≤ 1048576) :
    Calls Tryd.prog 6 #[.agg #[u]] w fun e w' =>
      ∃ g, e = .returned (.agg #[.slice (some ⟨g, 0, none⟩) es.length es.length]) ∧ OwnNd w' w.heap.size g es.length es ∧ Below w.heap.size w w' := by
  have HE : Hid (InNds w u es) := h
  have hu : u.cells = #[u] := by
    rcases h with ⟨a, cap, rfl, _⟩ | ⟨b, off, cap, rfl, _⟩ <;> rfl
  clear h
  go_enter Tryd.func6, Tryd.ntmps6
  go_wp2_with fail
  refine (toNodeS_any u es _ (HE.out.below ((((Below.refl _ _).alloc (Nat.le_refl _) _).alloc (by simp) _).alloc (by simp; omega) _) (Nat.le_refl _)) h1).mono ?_
  rintro e w1 ⟨g, rfl, hO, hb1⟩
  obtain ⟨hc1, hf1⟩ := bcell hb1
  have k1 : Below w.heap.size w w1 := ((((Below.refl _ _).alloc (Nat.le_refl _) (Obj.cells #[u] 24)).alloc (by simp) (Obj.cells #[.slice none 0 0] 30)).alloc (by simp; omega) (Obj.cells #[.slice none 0 0] 30)).trans (hb1.mono (by simp; omega))
  have HO : Hid (OwnNd w1 (w.heap.size + 1 + 1 + 1) g es.length es) := by
    show OwnNd w1 (w.heap.size + 1 + 1 + 1) g es.length es
    simpa using hO
  clear hO
  go_wp2_with fail
  refine bodyPost_ret (v := .agg #[.slice (some ⟨g, 0, none⟩) es.length es.length]) (by simp [results, Tryd.results6, go_sem, hc1]) rfl ⟨g, rfl, ?_, ?_⟩
  · exact OwnNd.mono (ownsRow_setCell_below (ownsRow_setCell_below HO.out (by show w.heap.size + 1 + 1 < _; omega) _) (by show w.heap.size + 1 < _; omega) _) (by omega)
  · exact (k1.setCell (by show w.heap.size ≤ w.heap.size + 1 + 1; omega) _).setCell (by show w.heap.size ≤ w.heap.size + 1; omega) _

set_option maxHeartbeats 400000 in
theorem eqFilter_any (u u' : Value) (es : List Nd) (w : World) (h : InNds w u es) (h' : InNds w u' es) :
    Calls Tryd.prog 9 #[.agg #[u], .agg #[u']] w fun e w' => e = .returned (.bool true) ∧ Below w.heap.size w w' := by
  have HE : Hid (InNds w u es ∧ InNds w u' es) := ⟨h, h'⟩
  have hu : u.cells = #[u] := by
    rcases h with ⟨a, cap, rfl, _⟩ | ⟨b, off, cap, rfl, _⟩ <;> rfl
  have hu' : u'.cells = #[u'] := by
    rcases h' with ⟨a, cap, rfl, _⟩ | ⟨b, off, cap, rfl, _⟩ <;> rfl
  clear h h'
  go_enter Tryd.func9, Tryd.ntmps9
  go_wp2_with fail
  have k0 : Below w.heap.size w ((w.alloc (Obj.cells #[u] 30)).alloc (Obj.cells #[u'] 30)) := ((Below.refl _ _).alloc (Nat.le_refl _) _).alloc (by simp) _
  refine (eqNodeS_any u u' es _ (HE.out.1.below k0 (Nat.le_refl _)) (HE.out.2.below k0 (Nat.le_refl _))).mono ?_
  rintro e w1 ⟨rfl, hb1⟩
  go_wp2_with fail
  go_ret
  exact ⟨rfl, k0.trans (hb1.mono (by simp; omega))⟩
end Go.Proofs.YtddemgkbfdhpnaaDoor

/-
  spec.ValidFilter.
-/
namespace Go.Proofs.YtddemgkbfdhpnaaDoor
open Go.ChangeShapes Go.WideShapes Go.ChangeAt Go.RowKit Go.Deep
set_option linter.unusedVariables false
set_option linter.unusedSimpArgs false
set_option maxRecDepth 100000

open Classical in
/-- Whether a node is valid. -/
noncomputable def goodB (e : Nd) : Bool := decide (GoodN e)
theorem goodB_iff (e : Nd) : goodB e = true ↔ GoodN e := by unfold goodB; simp
/-- What ValidFilter says of nodes. -/
def GoodF (xs : List Nd) : Prop := xs.length ≤ 200 ∧ ∃ s, ShT goodB [s] xs ∧ s.valid = true ∧ s.nest ≤ 20
theorem goodF_all {xs : List Nd} (h : GoodF xs) : ∀ e ∈ xs, GoodN e := by
  obtain ⟨_, s, hs, hv, _⟩ := h
  have := ShT.valid goodB hs
  simp [hv] at this
  exact fun e he => (goodB_iff e).1 (this e he)
theorem sh_one {xs : List Nd} {s t : Shape} (h : ShT goodB [s] xs) (k : ShT goodB [t] xs) : s = t := by
  have a := ShT.fold goodB h []
  have b := ShT.fold goodB k []
  rw [a] at b
  simpa using b
def FltPost (xs : List Nd) (w : World) (r : Ending) (w' : World) : Prop := ∃ b, r = .returned (.bool b) ∧ (b = true ↔ GoodF xs) ∧ Below w.heap.size w w'
set_option maxHeartbeats 4000000 in
theorem specFilter_core {w : World} {base g cp : Nat} {xs : List Nd} (h : OwnNd w base g cp xs) (hok : ∀ e ∈ xs, e.ok) (hc : cp ≤ 281474976710656) : Calls Tryd.prog 14 #[.agg #[.slice (some ⟨g, 0, none⟩) xs.length cp]] w (FltPost xs w) := by
  have HO : Hid (OwnNd w base g cp xs ∧ ∀ e ∈ xs, e.ok) := ⟨h, hok⟩
  have hg := h.lt.2
  have hcp := h.caps
  obtain ⟨n, hn⟩ : ∃ n, n = xs.length := ⟨_, rfl⟩
  have HN : Hid (n = xs.length) := hn
  rw [← hn] at hcp ⊢
  unfold maxLen at hcp
  clear h hok hn
  obtain ⟨W0, hW0⟩ : ∃ W0 : World, W0 = w.alloc (Obj.cells #[.slice (some ⟨g, 0, none⟩) n cp] 30) := ⟨_, rfl⟩
  have HW0 : Hid (BoxAt W0 w.heap.size 30 1 w.heap.size [.slice (some ⟨g, 0, none⟩) n cp] ∧ Below w.heap.size w W0) := by
    rw [hW0]; exact ⟨boxAt_new w _ (Nat.le_refl _) rfl, (Below.refl _ _).alloc (Nat.le_refl _) _⟩
  have c0 := HW0.out.1.cell (j := 0) rfl
  have s0 := HW0.out.2.size
  go_enter Tryd.func14, Tryd.ntmps14
  go_upto_region 1 with fail
  rw [← hW0]
  clear hW0
  by_cases hbig : 200 < n
  · have zb : (200 : Int) < (n : Int) := by omega
    have HF : Hid (¬ GoodF xs) := fun q => by have := q.1; have := HN.out; omega
    go_wp2_with fail
    go_ret
    exact ⟨_, rfl, by simp [HF.out], HW0.out.2⟩
  have zb : ¬ (200 : Int) < (n : Int) := by omega
  go_wp2_with fail
  clear c0
  go_loopw [3] (fun iv wr => ∃ (j : Nat), iv = .int .i64 (j : Int) ∧ j ≤ n ∧ (∀ e ∈ xs.take j, GoodN e) ∧ BoxAt wr w.heap.size 30 1 w.heap.size [.slice (some ⟨g, 0, none⟩) n cp] ∧ Below w.heap.size w wr) (fun iv _ => n - (intOf iv).toNat)
  case atStart => exact ⟨0, rfl, Nat.zero_le _, by simp, HW0.out⟩
  case round =>
    obtain ⟨j, rfl, hj, hG, hB, hb⟩ := hrel
    have HJ : Hid ((∀ e ∈ xs.take j, GoodN e) ∧ BoxAt wr w.heap.size 30 1 w.heap.size [.slice (some ⟨g, 0, none⟩) n cp] ∧ Below w.heap.size w wr) := ⟨hG, hB, hb⟩
    have c0 := hB.cell (j := 0) rfl
    have sr := hb.size
    clear hG hB hb HW0
    by_cases hlt : j < n
    · have zj : (j : Int) < (n : Int) := by omega
      obtain ⟨e, he⟩ : ∃ e, xs[j]? = some e := ⟨_, List.getElem?_eq_getElem (by have := HN.out; omega)⟩
      obtain ⟨d0, d1, d2, d3, d4, d5, d6⟩ := (HO.out.1.at.below HJ.out.2.2 hg) j e he
      simp only [Nat.zero_add] at d0 d1 d2 d3 d4 d5 d6
      have ok := HO.out.2 e (List.mem_of_getElem? he)
      have HE : Hid (e.s.size ≤ maxLen ∧ e.t.size ≤ maxLen ∧ e ∈ xs ∧ xs.take (j + 1) = xs.take j ++ [e]) := ⟨ok.s, ok.t, List.mem_of_getElem? he, by rw [List.take_add_one, he]; rfl⟩
      clear ok he
      go_wp2_with fail
      refine (good_core e wr HE.out.1 HE.out.2.1).mono ?_
      rintro r w2 ⟨b, rfl, hb, hb2⟩
      have HB : Hid (b = true ↔ GoodN e) := hb
      have HJ2 : Hid (BoxAt w2 w.heap.size 30 1 w.heap.size [.slice (some ⟨g, 0, none⟩) n cp] ∧ Below w.heap.size w w2) := ⟨HJ.out.2.1.below hb2, HJ.out.2.2.trans (hb2.mono sr)⟩
      clear hb hb2 c0 d0 d1 d2 d3 d4 d5 d6
      cases b
      · have HF : Hid (¬ GoodF xs) := fun q => by
          have := HB.out.2 (goodF_all q e HE.out.2.2.1)
          cases this
        go_wp2_with fail
        go_ret
        exact ⟨_, rfl, by simp [HF.out], HJ2.out.2⟩
      · go_wp2_with fail
        go_roundw
        case rel =>
          refine ⟨j + 1, by go_num, by omega, ?_, HJ2.out.1, HJ2.out.2⟩
          intro e' he'
          rw [HE.out.2.2.2] at he'
          rcases List.mem_append.1 he' with h | h
          · exact HJ.out.1 e' h
          · simp at h; subst h; exact HB.out.1 (by first | rfl | trivial)
        case measure => simp [intOf]; omega
    · have zj : ¬ (j : Int) < (n : Int) := by omega
      have HA : Hid (∀ e ∈ xs, GoodN e) := by
        have h1 := HJ.out.1
        rw [List.take_of_length_le (by have := HN.out; omega)] at h1
        exact h1
      have hWin : Win wr g 0 cp xs := ⟨HO.out.1.at.below HJ.out.2.2 hg, by omega, by rw [← HN.out]; exact hcp.1, hc⟩
      have HT : Hid (Calls Tryd.prog 24 #[.slice (some ⟨g, 0, none⟩) n cp] wr fun r w' => w' = wr ∧ ((r = .returned (.bool true) ∧ IsT 1 xs) ∨ (r = .returned (.bool false) ∧ ¬ IsT 1 xs))) := by
        rw [HN.out]; exact l5Tree_core hWin
      have HNe : Hid (∀ s, ShT goodB [s] xs → Calls Tryd.prog 25 #[.slice (some ⟨g, 0, none⟩) n cp] wr fun r w' => r = .returned (.int .i64 (s.nest : Int)) ∧ Below wr.heap.size wr w') := fun s hs => by
        rw [HN.out]; exact nest_all goodB xs.length wr g 0 cp xs s (Nat.le_refl _) hWin hs
      clear hWin
      go_wp2_with fail
      refine HT.out.mono ?_
      rintro r w2 ⟨hw2, (⟨rfl, hT⟩ | ⟨rfl, hT⟩)⟩
      · rw [hw2]
        clear hw2
        obtain ⟨ss, hl, hs⟩ := IsT.shapes goodB hT
        obtain ⟨s, rfl⟩ : ∃ s, ss = [s] := by
          match ss, hl with
          | [s], _ => exact ⟨s, rfl⟩
        have HSh : Hid (ShT goodB [s] xs) := hs
        have HV : Hid (s.valid = true) := by
          show s.valid = true
          have h1 := ShT.valid goodB hs
          have h2 : xs.all goodB = true := List.all_eq_true.2 (fun e he => (goodB_iff e).2 (HA.out e he))
          rw [h2] at h1
          simpa using h1
        have HF : Hid (GoodF xs ↔ s.nest ≤ 20) := by
          show GoodF xs ↔ _
          constructor
          · rintro ⟨_, t, ht, _, hn⟩
            rw [sh_one hs ht]; exact hn
          · intro hn
            exact ⟨by have := HN.out; omega, s, hs, HV.out, hn⟩
        clear hT hl hs
        go_wp2_with fail
        refine (HNe.out s HSh.out).mono ?_
        rintro r w3 ⟨rfl, hb3⟩
        have HB3 : Hid (Below w.heap.size w w3) := HJ.out.2.2.trans (hb3.mono sr)
        clear hb3 c0
        go_wp2_with fail
        go_ret
        exact ⟨_, rfl, by rw [HF.out]; simp <;> omega, HB3.out⟩
      · rw [hw2]
        clear hw2
        have HF : Hid (¬ GoodF xs) := fun q => by
          obtain ⟨_, s, hs, _⟩ := q
          exact hT hs.tree
        clear hT
        go_wp2_with fail
        go_ret
        exact ⟨_, rfl, by simp [HF.out], HJ.out.2.2⟩
end Go.Proofs.YtddemgkbfdhpnaaDoor

/-
  Trees folded by any visit; the normal form of a filter.
-/
namespace Go.Proofs.YtddemgkbfdhpnaaDoor
open Go.ChangeShapes Go.WideShapes Go.ChangeAt Go.RowKit Go.Deep
set_option linter.unusedVariables false

section
variable {T : Type} (V : Nd → List T → T)
/-- What a visit makes of trees, one behind another. -/
inductive TrV : List T → List Nd → Prop
  | nil : TrV [] []
  | snoc {ss os : List T} {xs : List Nd} (n : Nd) (ho : os.length = arity n.kind) (h : TrV (ss ++ os) xs) : TrV (ss ++ [V n os]) (xs ++ [n])
def stepV (st : List T) (n : Nd) : Option (List T) :=
  if st.length < arity n.kind then none else some (st.take (st.length - arity n.kind) ++ [V n (st.drop (st.length - arity n.kind))])
def foldV (st : List T) : List Nd → Option (List T)
  | [] => some st
  | n :: ns => (stepV V st n).bind fun s => foldV s ns
theorem foldV_append (st : List T) (xs ys : List Nd) : foldV V st (xs ++ ys) = (foldV V st xs).bind (fun s => foldV V s ys) := by
  induction xs generalizing st with
  | nil => rfl
  | cons x xs ih =>
    simp only [List.cons_append, foldV]
    cases stepV V st x with
    | none => rfl
    | some s => exact ih s
theorem IsT.trv {k : Nat} {xs : List Nd} (h : IsT k xs) : ∃ ss, ss.length = k ∧ TrV V ss xs := by
  induction h with
  | nil => exact ⟨[], rfl, .nil⟩
  | @snoc k xs n h ih =>
    obtain ⟨ss, hl, hs⟩ := ih
    refine ⟨ss.take k ++ [V n (ss.drop k)], by simp; omega, .snoc n (by simp; omega) ?_⟩
    rw [List.take_append_drop]; exact hs
theorem TrV.tree {ss : List T} {xs : List Nd} (h : TrV V ss xs) : IsT ss.length xs := by
  induction h with
  | nil => exact .nil
  | @snoc ss os xs n ho h ih =>
    rw [List.length_append]
    refine IsT.snoc n ?_
    rw [← ho, ← List.length_append]; exact ih
theorem TrV.fold {ss : List T} {xs : List Nd} (h : TrV V ss xs) : ∀ st, foldV V st xs = some (st ++ ss) := by
  induction h with
  | nil => intro st; simp [foldV]
  | @snoc ss os xs n ho h ih =>
    intro st
    rw [foldV_append, ih]
    simp only [Option.bind_some, foldV, stepV]
    rw [if_neg (by simp; omega)]
    have hl : (st ++ (ss ++ os)).length - arity n.kind = (st ++ ss).length := by simp; omega
    rw [hl, ← List.append_assoc, List.take_left, List.drop_left, List.append_assoc]
    simp
theorem TrV.one {ss ts : List T} {xs : List Nd} (h : TrV V ss xs) (k : TrV V ts xs) : ss = ts := by
  have a := h.fold V []
  have b := k.fold V []
  rw [a] at b
  simpa using b
theorem TrV.split {ss : List T} {xs : List Nd} (h : TrV V ss xs) : ∀ {a b : List T}, ss = a ++ b → ∃ ys zs, xs = ys ++ zs ∧ TrV V a ys ∧ TrV V b zs := by
  induction h with
  | nil => intro a b e; obtain ⟨rfl, rfl⟩ : a = [] ∧ b = [] := by simpa using e.symm
           exact ⟨[], [], rfl, .nil, .nil⟩
  | @snoc ss os xs n ho h ih =>
    intro a b e
    rcases List.eq_nil_or_concat b with rfl | ⟨b', z, rfl⟩
    · simp at e; subst e
      exact ⟨xs ++ [n], [], by simp, .snoc n ho h, .nil⟩
    · rw [List.concat_eq_append, ← List.append_assoc] at e
      have e2 := List.append_inj' e rfl
      obtain ⟨e3, e4⟩ := e2
      simp at e4
      subst e3 e4
      obtain ⟨ys, zs, rfl, h1, h2⟩ := ih (a := a) (b := b' ++ os) (by simp)
      refine ⟨ys, zs ++ [n], by simp, h1, ?_⟩
      rw [List.concat_eq_append]
      exact .snoc n ho h2
theorem TrV.inv {s : T} {xs : List Nd} (h : TrV V [s] xs) : ∃ ys n os, xs = ys ++ [n] ∧ os.length = arity n.kind ∧ TrV V os ys ∧ s = V n os := by
  generalize hs : [s] = ss at h
  cases h with
  | nil => cases hs
  | @snoc ss os xs n ho h =>
    have e := List.append_inj' (s₁ := []) (t₁ := [s]) hs rfl
    obtain ⟨e1, e2⟩ := e
    subst e1
    simp at e2
    exact ⟨xs, n, os, rfl, ho, h, e2⟩
/-- The operands of a node, one by one. -/
inductive KidV : List T → List (List Nd) → Prop
  | nil : KidV [] []
  | cons {o : T} {os : List T} {k : List Nd} {ks : List (List Nd)} (h : TrV V [o] k) (t : KidV os ks) : KidV (o :: os) (k :: ks)
theorem TrV.kids : ∀ {os : List T} {ys : List Nd}, TrV V os ys → ∃ ks, ys = ks.flatten ∧ KidV V os ks
  | [], ys, h => by
    have := (TrV.tree V h).zero
    subst this
    exact ⟨[], rfl, .nil⟩
  | o :: os, ys, h => by
    obtain ⟨a, b, rfl, h1, h2⟩ := TrV.split V h (a := [o]) (b := os) rfl
    obtain ⟨ks, rfl, hk⟩ := TrV.kids h2
    exact ⟨a :: ks, rfl, .cons h1 hk⟩
theorem KidV.length {os : List T} {ks : List (List Nd)} (h : KidV V os ks) : os.length = ks.length := by
  induction h with
  | nil => rfl
  | cons _ _ ih => simp [ih]
theorem KidV.tree {os : List T} {ks : List (List Nd)} (h : KidV V os ks) : ∀ k ∈ ks, IsT 1 k := by
  induction h with
  | nil => intro k hk; cases hk
  | cons h1 _ ih =>
    intro k hk
    rcases List.mem_cons.1 hk with rfl | hk
    · exact h1.tree
    · exact ih k hk
theorem KidV.nth {os : List T} {ks : List (List Nd)} (h : KidV V os ks) : ∀ {j : Nat} {k : List Nd}, ks[j]? = some k → ∃ o, os[j]? = some o ∧ TrV V [o] k := by
  induction h with
  | nil => intro j k hk; simp at hk
  | cons h1 _ ih =>
    intro j k hk
    cases j with
    | zero => simp at hk; subst hk; exact ⟨_, rfl, h1⟩
    | succ j => simp at hk; simpa using ih hk
end

/-- One node alone, of a kind. -/
def isK (xs : List Nd) (k : Int) : Prop := ∃ n, xs = [n] ∧ n.kind = k
open Classical in
/-- The normal form of a node over those of its operands. -/
noncomputable def normOf (e : Nd) (ns : List (List Nd)) : List Nd :=
  match ns with
  | [a, b] =>
    if e.kind = 14 then
      if isK a 1 ∨ isK b 2 then b else if isK b 1 ∨ isK a 2 ∨ (isK a 3 ∧ isK b 3) then a else a ++ b ++ [e]
    else
      if isK a 2 then b else if isK b 2 ∨ isK a 1 ∨ a = b then a else a ++ b ++ [e]
  | [p, a, b] => if isK p 1 then a else if isK p 2 then b else if a = b then a else p ++ a ++ b ++ [e]
  | _ => [e]
theorem norm_mem {e : Nd} {ns : List (List Nd)} {x : Nd} (h : x ∈ normOf e ns) : x = e ∨ ∃ k ∈ ns, x ∈ k := by
  unfold normOf at h
  split at h
  · rename_i a b
    have fin : x ∈ a ++ b ++ [e] → x = e ∨ ∃ k ∈ [a, b], x ∈ k := fun q => by
      simp at q
      rcases q with q | q | q
      · exact .inr ⟨a, by simp, q⟩
      · exact .inr ⟨b, by simp, q⟩
      · exact .inl q
    split at h
    · split at h
      · exact .inr ⟨b, by simp, h⟩
      · split at h
        · exact .inr ⟨a, by simp, h⟩
        · exact fin h
    · split at h
      · exact .inr ⟨b, by simp, h⟩
      · split at h
        · exact .inr ⟨a, by simp, h⟩
        · exact fin h
  · rename_i p a b
    split at h
    · exact .inr ⟨a, by simp, h⟩
    · split at h
      · exact .inr ⟨b, by simp, h⟩
      · split at h
        · exact .inr ⟨a, by simp, h⟩
        · simp at h
          rcases h with q | q | q | q
          · exact .inr ⟨p, by simp, q⟩
          · exact .inr ⟨a, by simp, q⟩
          · exact .inr ⟨b, by simp, q⟩
          · exact .inl q
  · simp at h; exact .inl h
theorem norm_len {e : Nd} {ns : List (List Nd)} : (normOf e ns).length ≤ ns.flatten.length + 1 := by
  unfold normOf
  split
  · repeat' split
    all_goals simp
    all_goals omega
  · repeat' split
    all_goals simp
    all_goals omega
  · simp
/-- Nodes of a normal form are nodes of the filter. -/
theorem trv_mem : ∀ (n : Nat) {y : List Nd} {xs : List Nd}, xs.length ≤ n → TrV normOf [y] xs → (∀ x ∈ y, x ∈ xs) ∧ y.length ≤ xs.length
  | 0, y, xs, hn, h => by
    obtain ⟨ys, e, os, rfl, _⟩ := TrV.inv _ h
    simp at hn
  | n + 1, y, xs, hn, h => by
    obtain ⟨ys, e, os, rfl, _, h2, rfl⟩ := TrV.inv _ h
    obtain ⟨ks, rfl, hK⟩ := TrV.kids _ h2
    simp only [List.length_append, List.length_singleton] at hn
    have hk : ∀ (j : Nat) (o : List Nd), os[j]? = some o → ∃ k ∈ ks, (∀ x ∈ o, x ∈ k) ∧ o.length ≤ k.length := fun j o ho => by
      have hj := (List.getElem?_eq_some_iff.1 ho).1
      obtain ⟨k, hk⟩ : ∃ k, ks[j]? = some k := ⟨_, List.getElem?_eq_getElem (by have := KidV.length _ hK; omega)⟩
      obtain ⟨o', ho', ht⟩ := KidV.nth _ hK hk
      rw [ho] at ho'
      cases ho'
      have hm := List.mem_of_getElem? hk
      have := len_flat hm
      exact ⟨k, hm, trv_mem n (by omega) ht⟩
    refine ⟨fun x hx => ?_, ?_⟩
    · rcases norm_mem hx with rfl | ⟨o, ho, hxo⟩
      · simp
      · obtain ⟨j, hj⟩ := List.getElem?_of_mem ho
        obtain ⟨k, hm, h3, _⟩ := hk j o hj
        exact List.mem_append_left _ (List.mem_flatten.2 ⟨k, hm, h3 x hxo⟩)
    · have h4 : ∀ {os : List (List Nd)} {ks : List (List Nd)}, KidV normOf os ks → (∀ k ∈ ks, k.length ≤ n) → os.flatten.length ≤ ks.flatten.length := by
        intro os ks h
        induction h with
        | nil => intro _; simp
        | cons h1 t ih =>
          intro hb
          have h5 := (trv_mem n (hb _ (by simp)) h1).2
          have h6 := ih (fun k hk => hb k (by simp [hk]))
          simp only [List.flatten_cons, List.length_append]
          omega
      have h7 := h4 hK (fun k hk => by have := len_flat hk; omega)
      have h8 := norm_len (e := e) (ns := os)
      simp only [List.length_append, List.length_singleton]
      omega
/-- The normal form of a filter. -/
def NormF (xs y : List Nd) : Prop := TrV normOf [y] xs
theorem normF_one {xs y z : List Nd} (h : NormF xs y) (k : NormF xs z) : y = z := by
  have := TrV.one _ h k
  simpa using this
theorem normF_ex {xs : List Nd} (h : IsT 1 xs) : ∃ y, NormF xs y := by
  obtain ⟨ss, hl, hs⟩ := IsT.trv normOf h
  match ss, hl with
  | [y], _ => exact ⟨y, hs⟩
theorem baInj {a b : ByteArray} (h : a.toList = b.toList) : a = b := by
  rw [ByteArray.toList_eq, ByteArray.toList_eq] at h
  cases a with
  | mk a => cases b with
    | mk b =>
      simp only at h
      congr 1
      exact Array.toList_inj.1 h
/-- A node that has its kind alone. -/
def bareNd (k : Int) : Nd := ⟨k, ⟨#[]⟩, false, ⟨#[]⟩, 0, 0, 0⟩
theorem good_bare {e : Nd} (h : GoodN e) (hk : e.kind = 1 ∨ e.kind = 2 ∨ e.kind = 3 ∨ e.kind = 14 ∨ e.kind = 15 ∨ e.kind = 16) : e = bareNd e.kind := by
  have hE : (⟨#[]⟩ : ByteArray).toList = [] := by rw [ByteArray.toList_eq]
  obtain ⟨kind, s, hi, t, lo, up, n⟩ := e
  obtain ⟨_, _, _, h4⟩ := h
  simp only at hk h4
  have h5 : s.toList = [] ∧ hi = false ∧ t.toList = [] ∧ lo = 0 ∧ up = 0 ∧ n = 0 := by
    rcases h4 with ⟨q, _⟩ | ⟨q, _⟩ | ⟨q, _⟩ | ⟨q, _⟩ | ⟨_, q⟩
    · omega
    · omega
    · omega
    · omega
    · exact q
  obtain ⟨h1, rfl, h2, rfl, rfl, rfl⟩ := h5
  have e1 : s = ⟨#[]⟩ := baInj (by rw [h1, hE])
  have e2 : t = ⟨#[]⟩ := baInj (by rw [h2, hE])
  rw [e1, e2]
  rfl
theorem isK_good {xs : List Nd} {k : Int} (h : isK xs k) (hg : ∀ x ∈ xs, GoodN x) (hk : k = 1 ∨ k = 2 ∨ k = 3) : xs = [bareNd k] := by
  obtain ⟨n, rfl, rfl⟩ := h
  rw [good_bare (hg n (by simp)) (by omega)]
  rfl
end Go.Proofs.YtddemgkbfdhpnaaDoor

/-
  Bytes of a run's file: numbers, strings, fixed numbers, as lists (mathematics).
-/
namespace Go.Proofs.YtddemgkbfdhpnaaDoor
set_option linter.unusedVariables false
set_option linter.unusedSimpArgs false

/-- The byte of a number. -/
def byt (n : Nat) : UInt8 := UInt8.ofNat n
theorem byt_nat {n : Nat} (h : n < 256) : (byt n).toNat = n := by
  unfold byt
  rw [UInt8.toNat_ofNat']
  exact Nat.mod_eq_of_lt h
theorem byt_self (x : UInt8) : byt x.toNat = x := by
  apply UInt8.toNat_inj.1
  rw [byt_nat (UInt8.toNat_lt x)]
theorem u8lt (x : UInt8) : x.toNat < 256 := UInt8.toNat_lt x

/-- A number, seven bits a byte, the last byte below 128. -/
def num (n : Nat) : List UInt8 := if n < 128 then [byt n] else byt (128 + n % 128) :: num (n / 128)
termination_by n
decreasing_by omega
theorem num_small {n : Nat} (h : n < 128) : num n = [byt n] := by rw [num, if_pos h]
theorem num_large {n : Nat} (h : ¬ n < 128) : num n = byt (128 + n % 128) :: num (n / 128) := by rw [num, if_neg h]
theorem num_ne (n : Nat) : num n ≠ [] := by
  by_cases h : n < 128
  · rw [num_small h]; simp
  · rw [num_large h]; simp
theorem num_pos (n : Nat) : 0 < (num n).length := List.length_pos_iff.2 (num_ne n)
theorem num_len : ∀ (k n : Nat), n < 128 ^ (k + 1) → (num n).length ≤ k + 1
  | 0, n, h => by rw [num_small (by simpa using h)]; simp
  | k + 1, n, h => by
    by_cases hs : n < 128
    · rw [num_small hs]; simp
    · rw [num_large hs]
      have := num_len k (n / 128) (by rw [Nat.div_lt_iff_lt_mul (by omega), ← Nat.pow_succ]; exact h)
      simp; omega
theorem num_len64 {n : Nat} (h : n < 2 ^ 64) : (num n).length ≤ 10 := num_len 9 n (Nat.lt_trans h (by decide))

/-- A number read off, of whatever size; none where the bytes end or the form is not the shortest. -/
def getAny : List UInt8 → Option (Nat × List UInt8)
  | [] => none
  | x :: t => if x.toNat < 128 then some (x.toNat, t) else
    match getAny t with
    | none => none
    | some (n, u) => if n = 0 then none else some (x.toNat - 128 + 128 * n, u)
theorem getAny_num : ∀ (n : Nat) (t : List UInt8), getAny (num n ++ t) = some (n, t) := by
  intro n
  induction n using Nat.strongRecOn with
  | ind n ih =>
    intro t
    by_cases h : n < 128
    · rw [num_small h, List.singleton_append, getAny, if_pos (by rw [byt_nat (by omega)]; exact h), byt_nat (by omega)]
    · rw [num_large h, List.cons_append, getAny, if_neg (by rw [byt_nat (by omega)]; omega), ih (n / 128) (by omega) t]
      simp only []
      rw [if_neg (by omega), byt_nat (by omega)]
      congr 2
      omega
theorem getAny_iff {xs t : List UInt8} {n : Nat} : getAny xs = some (n, t) ↔ xs = num n ++ t := by
  constructor
  · induction xs generalizing n t with
    | nil => intro h; cases h
    | cons x l ih =>
      intro h
      rw [getAny] at h
      by_cases hx : x.toNat < 128
      · rw [if_pos hx] at h
        simp only [Option.some.injEq, Prod.mk.injEq] at h
        obtain ⟨rfl, rfl⟩ := h
        rw [num_small hx, byt_self]; rfl
      · rw [if_neg hx] at h
        cases hg : getAny l with
        | none => rw [hg] at h; cases h
        | some p =>
          obtain ⟨m, u⟩ := p
          rw [hg] at h
          simp only [] at h
          by_cases hm : m = 0
          · rw [if_pos hm] at h; cases h
          · rw [if_neg hm] at h
            simp only [Option.some.injEq, Prod.mk.injEq] at h
            obtain ⟨rfl, rfl⟩ := h
            have hx2 := u8lt x
            rw [num_large (by omega), show (x.toNat - 128 + 128 * m) / 128 = m by omega, show 128 + (x.toNat - 128 + 128 * m) % 128 = x.toNat by omega, byt_self, ih hg]
            rfl
  · rintro rfl
    exact getAny_num n t
/-- A number below 2^64 read off. -/
def getNum (xs : List UInt8) : Option (Nat × List UInt8) :=
  match getAny xs with
  | none => none
  | some (n, t) => if n < 2 ^ 64 then some (n, t) else none
theorem getNum_iff {xs t : List UInt8} {n : Nat} : getNum xs = some (n, t) ↔ n < 2 ^ 64 ∧ xs = num n ++ t := by
  unfold getNum
  cases hg : getAny xs with
  | none =>
    simp only []
    constructor
    · intro h; cases h
    · rintro ⟨_, h⟩
      rw [getAny_iff.2 h] at hg; cases hg
  | some p =>
    obtain ⟨m, u⟩ := p
    have h1 := getAny_iff.1 hg
    simp only []
    constructor
    · intro h
      split at h
      · simp only [Option.some.injEq, Prod.mk.injEq] at h
        obtain ⟨rfl, rfl⟩ := h
        exact ⟨by assumption, h1⟩
      · cases h
    · rintro ⟨h2, h3⟩
      rw [getAny_iff.2 h3] at hg
      simp only [Option.some.injEq, Prod.mk.injEq] at hg
      obtain ⟨rfl, rfl⟩ := hg
      rw [if_pos h2]
theorem getNum_num {n : Nat} (h : n < 2 ^ 64) (t : List UInt8) : getNum (num n ++ t) = some (n, t) := getNum_iff.2 ⟨h, rfl⟩
theorem num_split {n m : Nat} {s t : List UInt8} (h : num n ++ s = num m ++ t) : n = m ∧ s = t := by
  have h1 := getAny_num n s
  rw [h, getAny_num m t] at h1
  simp only [Option.some.injEq, Prod.mk.injEq] at h1
  exact ⟨h1.1.symm, h1.2.symm⟩

/-- A string with its length ahead. -/
def strB (s : List UInt8) : List UInt8 := num s.length ++ s
def getStr (xs : List UInt8) : Option (List UInt8 × List UInt8) :=
  match getNum xs with
  | none => none
  | some (n, t) => if n ≤ t.length then some (t.take n, t.drop n) else none
theorem getStr_iff {xs s t : List UInt8} : getStr xs = some (s, t) ↔ s.length < 2 ^ 64 ∧ xs = strB s ++ t := by
  unfold getStr strB
  cases hg : getNum xs with
  | none =>
    simp only []
    constructor
    · intro h; cases h
    · rintro ⟨h1, h⟩
      rw [List.append_assoc] at h
      rw [getNum_iff.2 ⟨h1, h⟩] at hg; cases hg
  | some p =>
    obtain ⟨m, u⟩ := p
    obtain ⟨h1, h2⟩ := getNum_iff.1 hg
    simp only []
    constructor
    · intro h
      split at h
      · next hm =>
        simp only [Option.some.injEq, Prod.mk.injEq] at h
        obtain ⟨rfl, rfl⟩ := h
        rw [List.length_take, Nat.min_eq_left hm]
        exact ⟨h1, by rw [List.append_assoc, List.take_append_drop]; exact h2⟩
      · cases h
    · rintro ⟨h3, h4⟩
      rw [List.append_assoc] at h4
      rw [getNum_iff.2 ⟨h3, h4⟩] at hg
      simp only [Option.some.injEq, Prod.mk.injEq] at hg
      obtain ⟨rfl, rfl⟩ := hg
      rw [if_pos (by simp)]
      simp
theorem getStr_str {s : List UInt8} (h : s.length < 2 ^ 64) (t : List UInt8) : getStr (strB s ++ t) = some (s, t) := getStr_iff.2 ⟨h, rfl⟩

/-- A number in four bytes, the least first. -/
def fixed (n : Nat) : List UInt8 := [byt (n % 256), byt (n / 256 % 256), byt (n / 65536 % 256), byt (n / 16777216 % 256)]
theorem fixed_len (n : Nat) : (fixed n).length = 4 := rfl
def fix4 (a b c d : UInt8) : Nat := a.toNat + 256 * b.toNat + 65536 * c.toNat + 16777216 * d.toNat
theorem fix4_lt (a b c d : UInt8) : fix4 a b c d < 2 ^ 32 := by
  have := u8lt a; have := u8lt b; have := u8lt c; have := u8lt d
  unfold fix4; omega
theorem fix4_fixed {n : Nat} (h : n < 2 ^ 32) : fix4 (byt (n % 256)) (byt (n / 256 % 256)) (byt (n / 65536 % 256)) (byt (n / 16777216 % 256)) = n := by
  unfold fix4
  rw [byt_nat (by omega), byt_nat (by omega), byt_nat (by omega), byt_nat (by omega)]
  omega
theorem fixed_fix4 (a b c d : UInt8) : fixed (fix4 a b c d) = [a, b, c, d] := by
  have ha := u8lt a; have hb := u8lt b; have hc := u8lt c; have hd := u8lt d
  unfold fixed fix4
  rw [show (a.toNat + 256 * b.toNat + 65536 * c.toNat + 16777216 * d.toNat) % 256 = a.toNat by omega,
    show (a.toNat + 256 * b.toNat + 65536 * c.toNat + 16777216 * d.toNat) / 256 % 256 = b.toNat by omega,
    show (a.toNat + 256 * b.toNat + 65536 * c.toNat + 16777216 * d.toNat) / 65536 % 256 = c.toNat by omega,
    show (a.toNat + 256 * b.toNat + 65536 * c.toNat + 16777216 * d.toNat) / 16777216 % 256 = d.toNat by omega]
  simp only [byt_self]
/-- The four bytes at a place, as a number. -/
def fixAt (xs : List UInt8) (i : Nat) : Nat := fix4 (xs.getD i 0) (xs.getD (i + 1) 0) (xs.getD (i + 2) 0) (xs.getD (i + 3) 0)
theorem fixAt_lt (xs : List UInt8) (i : Nat) : fixAt xs i < 2 ^ 32 := fix4_lt _ _ _ _
theorem fixAt_fixed {n : Nat} (h : n < 2 ^ 32) (xs t : List UInt8) : fixAt (xs ++ (fixed n ++ t)) xs.length = n := by
  unfold fixAt fixed
  simp only [List.getD_eq_getElem?_getD, List.getElem?_append_right (Nat.le_refl _), List.getElem?_append_right (show xs.length ≤ xs.length + 1 by omega), List.getElem?_append_right (show xs.length ≤ xs.length + 2 by omega), List.getElem?_append_right (show xs.length ≤ xs.length + 3 by omega), Nat.sub_self, Nat.add_sub_cancel_left]
  exact fix4_fixed h

/-- How many bytes two strings have in common at their beginning. -/
def shared : List UInt8 → List UInt8 → Nat
  | x :: s, y :: t => if x = y then shared s t + 1 else 0
  | _, _ => 0
theorem shared_le : ∀ (s t : List UInt8), shared s t ≤ s.length ∧ shared s t ≤ t.length
  | [], _ => by simp [shared]
  | _ :: _, [] => by simp [shared]
  | x :: s, y :: t => by
    have := shared_le s t
    unfold shared
    split <;> simp <;> omega
theorem shared_take : ∀ (s t : List UInt8), s.take (shared s t) = t.take (shared s t)
  | [], _ => by simp [shared]
  | _ :: _, [] => by simp [shared]
  | x :: s, y :: t => by
    unfold shared
    split
    · next h => rw [List.take_succ_cons, List.take_succ_cons, shared_take s t, h]
    · rfl
/-- The loop's own words: one more in common. -/
theorem shared_iff : ∀ (s t : List UInt8) (n : Nat), n ≤ s.length → n ≤ t.length → s.take n = t.take n → (n = s.length ∨ n = t.length ∨ s[n]? ≠ t[n]?) → shared s t = n
  | [], t, n, h1, _, _, _ => by simp at h1; subst h1; simp [shared]
  | x :: s, [], n, _, h2, _, _ => by simp at h2; subst h2; simp [shared]
  | x :: s, y :: t, 0, _, _, _, h4 => by
    unfold shared
    rw [if_neg]
    rintro rfl
    simp at h4
  | x :: s, y :: t, n + 1, h1, h2, h3, h4 => by
    rw [List.take_succ_cons, List.take_succ_cons] at h3
    obtain ⟨rfl, h5⟩ := List.cons.inj h3
    unfold shared
    rw [if_pos rfl, shared_iff s t n (by simpa using h1) (by simpa using h2) h5 (by simpa using h4)]
end Go.Proofs.YtddemgkbfdhpnaaDoor

/-
  The checksum of a list of bytes (mathematics).
-/
namespace Go.Proofs.YtddemgkbfdhpnaaDoor
set_option linter.unusedVariables false
set_option linter.unusedSimpArgs false

/-- One bit. -/
def sh (c : BitVec 32) : BitVec 32 := if c.toNat % 2 = 1 then (c >>> 1) ^^^ 3988292384#32 else c >>> 1
def shN : Nat → BitVec 32 → BitVec 32
  | 0, c => c
  | k + 1, c => sh (shN k c)
/-- One byte. -/
def crcB (c : BitVec 32) (x : UInt8) : BitVec 32 := shN 8 (c ^^^ BitVec.ofNat 32 x.toNat)
def crcTo (c : BitVec 32) (xs : List UInt8) : BitVec 32 := xs.foldl crcB c
def crc (xs : List UInt8) : BitVec 32 := crcTo 4294967295#32 xs ^^^ 4294967295#32
theorem crcTo_snoc (c : BitVec 32) (xs : List UInt8) (x : UInt8) : crcTo c (xs ++ [x]) = crcB (crcTo c xs) x := by simp [crcTo]
theorem crcTo_append (c : BitVec 32) (xs ys : List UInt8) : crcTo c (xs ++ ys) = crcTo (crcTo c xs) ys := by simp [crcTo]

theorem bit0 (c : BitVec 32) : c.getLsbD 0 = decide (c.toNat % 2 = 1) := by
  unfold BitVec.getLsbD
  exact Nat.testBit_zero _
theorem sh_inj {a b : BitVec 32} (h : sh a = sh b) : a = b := by
  have top : ∀ c : BitVec 32, (sh c).getLsbD 31 = c.getLsbD 0 := by
    intro c
    unfold sh
    by_cases h : c.toNat % 2 = 1
    · rw [if_pos h, BitVec.getLsbD_xor, BitVec.getLsbD_ushiftRight, BitVec.getLsbD_of_ge c (1 + 31) (by omega)]
      have : c.getLsbD 0 = true := by rw [bit0]; simp [h]
      rw [this]; decide
    · rw [if_neg h, BitVec.getLsbD_ushiftRight, BitVec.getLsbD_of_ge c (1 + 31) (by omega)]
      have : c.getLsbD 0 = false := by rw [bit0]; simp [h]
      rw [this]
  have low : a.getLsbD 0 = b.getLsbD 0 := by rw [← top a, ← top b, h]
  have par : (a.toNat % 2 = 1) ↔ (b.toNat % 2 = 1) := by
    rw [bit0, bit0] at low
    exact decide_eq_decide.1 low
  have hs : a >>> 1 = b >>> 1 := by
    unfold sh at h
    by_cases q : a.toNat % 2 = 1
    · rw [if_pos q, if_pos (par.1 q)] at h
      exact (BitVec.xor_left_inj _).1 h
    · rw [if_neg q, if_neg (fun r => q (par.2 r))] at h
      exact h
  apply BitVec.eq_of_getLsbD_eq
  intro i hi
  cases i with
  | zero => exact low
  | succ i =>
    have := congrArg (fun x => x.getLsbD i) hs
    simp only [BitVec.getLsbD_ushiftRight] at this
    rw [Nat.add_comm]; exact this
theorem shN_inj : ∀ (k : Nat) {a b : BitVec 32}, shN k a = shN k b → a = b
  | 0, _, _, h => h
  | k + 1, _, _, h => shN_inj k (sh_inj h)
theorem crcB_inj {a b : BitVec 32} {x : UInt8} (h : crcB a x = crcB b x) : a = b := (BitVec.xor_left_inj _).1 (shN_inj 8 h)
theorem crcTo_inj : ∀ (xs : List UInt8) {a b : BitVec 32}, crcTo a xs = crcTo b xs → a = b
  | [], _, _, h => h
  | x :: xs, a, b, h => crcB_inj (crcTo_inj xs (show crcTo (crcB a x) xs = crcTo (crcB b x) xs from h))
/-- One byte changed: another checksum. -/
theorem crc_one {xs ys : List UInt8} {a b : UInt8} (hab : ¬ a = b) : ¬ crc (xs ++ a :: ys) = crc (xs ++ b :: ys) := by
  intro h
  have h1 := (BitVec.xor_left_inj _).1 h
  rw [crcTo_append, crcTo_append] at h1
  have h2 : crcB (crcTo 4294967295#32 xs) a = crcB (crcTo 4294967295#32 xs) b := crcTo_inj ys h1
  have h3 := (BitVec.xor_right_inj _).1 (shN_inj 8 h2)
  apply hab
  apply UInt8.toNat_inj.1
  have h4 := congrArg BitVec.toNat h3
  have ha := u8lt a
  have hb := u8lt b
  rw [BitVec.toNat_ofNat, BitVec.toNat_ofNat, Nat.mod_eq_of_lt (by omega), Nat.mod_eq_of_lt (by omega)] at h4
  exact h4
end Go.Proofs.YtddemgkbfdhpnaaDoor

/-
  The order of keys: spec.CompareKeys and impl.CompareKeys come to one Lean function.
-/
namespace Go.Proofs.YtddemgkbfdhpnaaDoor
open Go.ChangeShapes Go.WideShapes Go.ChangeAt Go.RowKit Go.Deep

/-- Two strings against each other. -/
def cB (a b : ByteArray) : Int := Lib.compareBytes a.data.toList b.data.toList

theorem compareBytes_less : ∀ a b : List UInt8, Op.bytesLess a b = true → Lib.compareBytes a b = -1
  | [], [] => by simp [Op.bytesLess]
  | [], _ :: _ => by simp [Lib.compareBytes]
  | _ :: _, [] => by simp [Op.bytesLess]
  | a :: x, b :: y => by
    intro h
    simp only [Op.bytesLess, Bool.or_eq_true, decide_eq_true_eq, Bool.and_eq_true, beq_iff_eq] at h
    unfold Lib.compareBytes
    rcases h with h | ⟨rfl, h⟩
    · rw [if_pos h]
    · have hn : ¬ a < a := by simp
      rw [if_neg hn, if_neg hn]; exact compareBytes_less x y h
theorem compareBytes_self : ∀ a : List UInt8, Lib.compareBytes a a = 0
  | [] => rfl
  | a :: x => by
    unfold Lib.compareBytes
    have hn : ¬ a < a := by simp
    rw [if_neg hn, if_neg hn]; exact compareBytes_self x
theorem compareBytes_more : ∀ a b : List UInt8, Op.bytesLess a b = false → (a == b) = false → Lib.compareBytes a b = 1
  | [], [] => by simp
  | [], _ :: _ => by simp [Op.bytesLess]
  | _ :: _, [] => by simp [Lib.compareBytes]
  | a :: x, b :: y => by
    intro h h2
    simp only [Op.bytesLess, Bool.or_eq_false_iff, decide_eq_false_iff_not] at h
    unfold Lib.compareBytes
    rw [if_neg h.1]
    by_cases hb : b < a
    · rw [if_pos hb]
    · rw [if_neg hb]
      have hab : a = b := by
        have h1 := h.1
        rw [UInt8.lt_iff_toNat_lt] at h1 hb
        exact UInt8.toNat_inj.1 (by omega)
      subst hab
      refine compareBytes_more x y ?_ ?_
      · simpa using h.2
      · simpa using h2
theorem compareBytes_vals (a b : List UInt8) : Lib.compareBytes a b = -1 ∨ Lib.compareBytes a b = 0 ∨ Lib.compareBytes a b = 1 := by
  cases h : Op.bytesLess a b
  · cases h2 : (a == b)
    · exact .inr (.inr (compareBytes_more a b h h2))
    · rw [beq_iff_eq] at h2; subst h2; exact .inr (.inl (compareBytes_self a))
  · exact .inl (compareBytes_less a b h)
theorem cB_vals (a b : ByteArray) : cB a b = -1 ∨ cB a b = 0 ∨ cB a b = 1 := compareBytes_vals _ _
theorem cB_less {a b : ByteArray} (h : Op.bytesLess a.toList b.toList = true) : cB a b = -1 := by
  rw [ByteArray.toList_eq, ByteArray.toList_eq] at h; exact compareBytes_less _ _ h
theorem cB_more {a b : ByteArray} (h : Op.bytesLess a.toList b.toList = false) (h2 : (a.toList == b.toList) = false) : cB a b = 1 := by
  rw [ByteArray.toList_eq, ByteArray.toList_eq] at h h2; exact compareBytes_more _ _ h h2
theorem cB_same {a b : ByteArray} (h2 : (a.toList == b.toList) = true) : cB a b = 0 := by
  rw [ByteArray.toList_eq, ByteArray.toList_eq, beq_iff_eq] at h2; unfold cB; rw [h2]; exact compareBytes_self _

def firstOf (a b : Int) : Int := if a = 0 then b else a
def kindCmp (k l : Int) : Int := if k = 2 then (if l = 2 then 0 else -1) else (if l = 2 then 1 else 0)
def tsCmp (t u : Int) : Int := if u < t then -1 else if t < u then 1 else 0
/-- The order of keys. -/
def keyCmp (a b : Ent) : Int := firstOf (cB a.row b.row) (firstOf (cB a.fam b.fam) (firstOf (cB a.qual b.qual) (firstOf (kindCmp a.kind b.kind) (tsCmp a.ts b.ts))))

theorem ret_int {k : IntKind} {a b : Int} (h : a = b) : Ending.returned (.int k a) = .returned (.int k b) := by rw [h]

end Go.Proofs.YtddemgkbfdhpnaaDoor

/-
  The order of keys: spec.CompareKeys and impl.CompareKeys come to 'keyCmp'.
-/
namespace Go.Proofs.YtddemgkbfdhpnaaDoor
open Go.ChangeShapes Go.WideShapes Go.ChangeAt Go.RowKit Go.Deep

def tri (x : Int) : Prop := x = -1 ∨ x = 0 ∨ x = 1
theorem tri_first {a b : Int} (h : tri a) (k : tri b) : tri (firstOf a b) := by
  unfold firstOf; split
  · exact k
  · exact h
theorem tri_kind (k l : Int) : tri (kindCmp k l) := by
  unfold kindCmp tri; repeat' split
  all_goals omega
theorem tri_ts (k l : Int) : tri (tsCmp k l) := by
  unfold tsCmp tri; repeat' split
  all_goals omega
theorem keyCmp_vals (a b : Ent) : keyCmp a b = -1 ∨ keyCmp a b = 0 ∨ keyCmp a b = 1 :=
  tri_first (cB_vals _ _) (tri_first (cB_vals _ _) (tri_first (cB_vals _ _) (tri_first (tri_kind _ _) (tri_ts _ _))))

def colCmp (a b : Ent) : Int := firstOf (cB a.row b.row) (firstOf (cB a.fam b.fam) (cB a.qual b.qual))

theorem firstOf_assoc (a b c : Int) : firstOf (firstOf a b) c = firstOf a (firstOf b c) := by
  unfold firstOf
  by_cases h : a = 0
  · simp [h]
  · simp [h]
theorem keyCmp_col (a b : Ent) : keyCmp a b = firstOf (colCmp a b) (firstOf (kindCmp a.kind b.kind) (tsCmp a.ts b.ts)) := by
  unfold keyCmp colCmp
  rw [firstOf_assoc, firstOf_assoc]
theorem keyCmp_ne {a b : Ent} (h : ¬ colCmp a b = 0) : keyCmp a b = colCmp a b := by
  rw [keyCmp_col]; unfold firstOf; rw [if_neg h]
theorem keyCmp_del1 {a b : Ent} (h : colCmp a b = 0) (h1 : a.kind = 2) (h2 : ¬ b.kind = 2) : keyCmp a b = -1 := by
  rw [keyCmp_col]; unfold firstOf kindCmp; simp [h, h1, h2]
theorem keyCmp_del2 {a b : Ent} (h : colCmp a b = 0) (h1 : ¬ a.kind = 2) (h2 : b.kind = 2) : keyCmp a b = 1 := by
  rw [keyCmp_col]; unfold firstOf kindCmp; simp [h, h1, h2]
theorem keyCmp_ts {a b : Ent} (h : colCmp a b = 0) (h1 : (a.kind = 2) ↔ (b.kind = 2)) : keyCmp a b = tsCmp a.ts b.ts := by
  rw [keyCmp_col]; unfold firstOf kindCmp
  by_cases h2 : a.kind = 2
  · simp [h, h2, h1.1 h2]
  · have h3 : ¬ b.kind = 2 := fun x => h2 (h1.2 x)
    simp [h, h2, h3]

def kt (a b : Ent) (K T : Int) : Prop := keyCmp a b = firstOf (cB a.row b.row) (firstOf (cB a.fam b.fam) (firstOf (cB a.qual b.qual) (firstOf K T)))
theorem kt_of {a b : Ent} {K T : Int} (hk : kindCmp a.kind b.kind = K) (ht : tsCmp a.ts b.ts = T) : kt a b K T := by
  unfold kt keyCmp; rw [hk, ht]
theorem kinds (a b : Ent) :
    ((a.kind == 2) = true ∧ (a.kind != 2) = false ∧ (b.kind == 2) = true ∧ (b.kind != 2) = false ∧ kindCmp a.kind b.kind = 0) ∨
    ((a.kind == 2) = true ∧ (a.kind != 2) = false ∧ (b.kind == 2) = false ∧ (b.kind != 2) = true ∧ kindCmp a.kind b.kind = -1) ∨
    ((a.kind == 2) = false ∧ (a.kind != 2) = true ∧ (b.kind == 2) = true ∧ (b.kind != 2) = false ∧ kindCmp a.kind b.kind = 1) ∨
    ((a.kind == 2) = false ∧ (a.kind != 2) = true ∧ (b.kind == 2) = false ∧ (b.kind != 2) = true ∧ kindCmp a.kind b.kind = 0) := by
  unfold kindCmp
  by_cases ha : a.kind = 2 <;> by_cases hb : b.kind = 2 <;> simp [ha, hb]
theorem tss (a b : Ent) :
    (b.ts < a.ts ∧ ¬ a.ts < b.ts ∧ tsCmp a.ts b.ts = -1) ∨ (¬ b.ts < a.ts ∧ a.ts < b.ts ∧ tsCmp a.ts b.ts = 1) ∨ (¬ b.ts < a.ts ∧ ¬ a.ts < b.ts ∧ tsCmp a.ts b.ts = 0) := by
  unfold tsCmp
  by_cases h1 : b.ts < a.ts
  · exact .inl ⟨h1, by omega, by simp [h1]⟩
  · by_cases h2 : a.ts < b.ts
    · exact .inr (.inl ⟨h1, h2, by simp [h1, h2]⟩)
    · exact .inr (.inr ⟨h1, h2, by simp [h1, h2]⟩)

end Go.Proofs.YtddemgkbfdhpnaaDoor

/-
  Runs that are valid: spec.ValidRun and impl.ValidRun.
-/
namespace Go.Proofs.YtddemgkbfdhpnaaDoor
open Go.ChangeShapes Go.WideShapes Go.ChangeAt Go.RowKit Go.Deep
set_option linter.unusedVariables false

def Ent.vld (e : Ent) : Bool := vE e.row e.fam e.qual e.kind e.val
/-- One column? -/
def sameCol (a b : Ent) : Bool := (a.row.toList == b.row.toList) && ((a.fam.toList == b.fam.toList) && (a.qual.toList == b.qual.toList))

theorem lift_in {P : Program} {f : Nat} {args : Array Value} {w : World} {v : Value} (W0 : World) (h : Below W0.heap.size W0 w) (c : Calls P f args w fun e w' => e = .returned v ∧ Below w.heap.size w w') :
    Calls P f args w fun e w' => e = .returned v ∧ Below W0.heap.size W0 w' ∧ (∀ b o, b < W0.heap.size → w'.cell? ⟨b, o, none⟩ = W0.cell? ⟨b, o, none⟩) := by
  refine c.mono ?_
  rintro e w' ⟨he, hb⟩
  have k := h.trans (hb.mono h.size)
  exact ⟨he, k, fun b o hlt => k.cell (p := ⟨b, o, none⟩) hlt⟩

/-- May 'p' stand right before 'e' in a run? -/
def okPair (p e : Ent) : Bool := (keyCmp p e == -1) && !((p.kind == 2) && ((e.kind == 2) && sameCol p e))

end Go.Proofs.YtddemgkbfdhpnaaDoor

/-
  Runs that are valid: the loops of spec.ValidRun, impl.validWrites, impl.ValidRun.
-/
namespace Go.Proofs.YtddemgkbfdhpnaaDoor
open Go.ChangeShapes Go.WideShapes Go.ChangeAt Go.RowKit Go.Deep
set_option linter.unusedVariables false

/-- All of them are valid, and not too many. -/
def GoodW (es : List Ent) : Prop := es.length ≤ 10000 ∧ ∀ e ∈ es, e.vld = true
/-- Each may stand right before the next. -/
def Pairs (es : List Ent) : Prop := ∀ i p e, es[i]? = some p → es[i + 1]? = some e → okPair p e = true
def GoodR (es : List Ent) : Prop := GoodW es ∧ Pairs es

theorem iffF {p : Prop} (h : ¬ p) : (false = true ↔ p) := ⟨fun x => Bool.noConfusion x, fun x => absurd x h⟩
theorem iffT {p : Prop} (h : p) : (true = true ↔ p) := ⟨fun _ => h, fun _ => rfl⟩
theorem vld_of_take {es : List Ent} {k : Nat} {e : Ent} (h : ∀ x ∈ es.take k, x.vld = true) (he : es[k]? = some e) (hv : e.vld = true) : ∀ x ∈ es.take (k + 1), x.vld = true := by
  intro x hx
  rw [List.take_add_one, he] at hx
  simp at hx
  rcases hx with hx | rfl
  · exact h x hx
  · exact hv

theorem pairs_short {es : List Ent} (h : es.length ≤ 1) : Pairs es := by
  intro i p e h1 h2
  have := (List.getElem?_eq_some_iff.1 h2).1
  omega

/-- The pairs below place 'k'. -/
def PairsTo (es : List Ent) (k : Nat) : Prop := ∀ i p e, i + 1 < k → es[i]? = some p → es[i + 1]? = some e → okPair p e = true
theorem pairsTo_succ {es : List Ent} {m : Nat} {p e : Ent} (h : PairsTo es (m + 1)) (hp : es[m]? = some p) (he : es[m + 1]? = some e) (ho : okPair p e = true) : PairsTo es (m + 1 + 1) := by
  intro i p' e' hi h1 h2
  by_cases hm : i = m
  · subst hm
    rw [hp] at h1; rw [he] at h2
    simp at h1 h2
    subst h1 h2
    exact ho
  · exact h i p' e' (by omega) h1 h2
theorem pairs_of_to {es : List Ent} {k : Nat} (h : PairsTo es k) (hk : es.length ≤ k) : Pairs es := by
  intro i p e h1 h2
  have := (List.getElem?_eq_some_iff.1 h2).1
  exact h i p e (by omega) h1 h2

end Go.Proofs.YtddemgkbfdhpnaaDoor

/-
  The body of a block, the file of a run (mathematics).
-/
namespace Go.Proofs.YtddemgkbfdhpnaaDoor
set_option linter.unusedVariables false
set_option linter.unusedSimpArgs false

/-- The bytes of a string. -/
abbrev bl (s : ByteArray) : List UInt8 := s.data.toList
theorem bl_len (s : ByteArray) : (bl s).length = s.size := by simp [bl]
theorem wf_u64 {t : Int} (h : (Lit.int .u64 t).wf = true) : 0 ≤ t ∧ t < 2 ^ 64 := by
  simp only [Lit.wf, Bool.and_eq_true, decide_eq_true_eq] at h
  have h1 : IntKind.u64.min = 0 := rfl
  have h2 : IntKind.u64.max = 18446744073709551615 := rfl
  omega
/-- One entry behind a row. -/
def entB (before : List UInt8) (e : Ent) : List UInt8 :=
  num (shared before (bl e.row)) ++ strB ((bl e.row).drop (shared before (bl e.row))) ++ strB (bl e.fam) ++ strB (bl e.qual) ++ num e.ts.toNat ++ num e.kind.toNat ++ strB (bl e.val)
def body : List UInt8 → List Ent → List UInt8
  | _, [] => []
  | b, e :: es => entB b e ++ body (bl e.row) es
/-- The row ahead. -/
def lastRow : List UInt8 → List Ent → List UInt8
  | b, [] => b
  | _, e :: es => lastRow (bl e.row) es
theorem body_snoc : ∀ (b : List UInt8) (es : List Ent) (e : Ent), body b (es ++ [e]) = body b es ++ entB (lastRow b es) e
  | b, [], e => by simp [body, lastRow]
  | b, x :: es, e => by rw [List.cons_append, body, body, body_snoc (bl x.row) es e, List.append_assoc]; rfl
theorem lastRow_snoc : ∀ (b : List UInt8) (es : List Ent) (e : Ent), lastRow b (es ++ [e]) = bl e.row
  | _, [], _ => rfl
  | _, x :: es, e => lastRow_snoc (bl x.row) es e
theorem vld_parts {e : Ent} (h : e.vld = true) : 1 ≤ e.row.size ∧ e.row.size ≤ 64 ∧ 1 ≤ e.fam.size ∧ e.fam.size ≤ 16 ∧ e.qual.size ≤ 64 ∧ e.val.size ≤ 200 ∧ 0 ≤ e.kind ∧ e.kind ≤ 2 := by
  unfold Ent.vld vE at h
  simp only [Bool.and_eq_true, decide_eq_true_eq] at h
  omega
theorem strB_len {s : List UInt8} (h : s.length < 2 ^ 64) : (strB s).length ≤ 10 + s.length := by
  unfold strB
  have := num_len64 h
  simp; omega
theorem num_kind {k : Nat} (h : k ≤ 2) : (num k).length = 1 := by rw [num_small (by omega)]; rfl
theorem entB_len {b : List UInt8} {e : Ent} (h : e.vld = true) (ht : e.ts.toNat < 2 ^ 64) : (entB b e).length ≤ 500 := by
  obtain ⟨h1, h2, h3, h4, h5, h6, h7, h8⟩ := vld_parts h
  have l0 := (shared_le b (bl e.row)).2
  rw [bl_len] at l0
  have l1 := num_len64 (n := shared b (bl e.row)) (by omega)
  have l2 := strB_len (s := (bl e.row).drop (shared b (bl e.row))) (by simp only [List.length_drop, bl_len]; omega)
  have l3 := strB_len (s := bl e.fam) (by rw [bl_len]; omega)
  have l4 := strB_len (s := bl e.qual) (by rw [bl_len]; omega)
  have l5 := num_len64 (n := e.ts.toNat) ht
  have l6 := num_len64 (n := e.kind.toNat) (by omega)
  have l7 := strB_len (s := bl e.val) (by rw [bl_len]; omega)
  simp only [List.length_drop, bl_len] at l2 l3 l4 l7
  unfold entB
  simp only [List.length_append]
  omega
theorem body_len : ∀ (es : List Ent) (b : List UInt8), (∀ e ∈ es, e.vld = true) → (∀ e ∈ es, e.ts.toNat < 2 ^ 64) → (body b es).length ≤ 500 * es.length
  | [], b, _, _ => by simp [body]
  | e :: es, b, h, k => by
    have h1 := entB_len (b := b) (h e (by simp)) (k e (by simp))
    have h2 := body_len es (bl e.row) (fun x hx => h x (by simp [hx])) (fun x hx => k x (by simp [hx]))
    simp only [body, List.length_append, List.length_cons]
    omega
theorem body_pos {b : List UInt8} {es : List Ent} (h : 0 < es.length) : 0 < (body b es).length := by
  cases es with
  | nil => simp at h
  | cons e es =>
    have := num_pos (shared b (bl e.row))
    simp only [body, entB, List.length_append]
    omega
end Go.Proofs.YtddemgkbfdhpnaaDoor

/-
  The text of a filter, without memory.
-/
namespace Go.Proofs.YtddemgkbfdhpnaaDoor
open Go.ChangeShapes Go.WideShapes Go.ChangeAt Go.RowKit Go.Deep
set_option linter.unusedVariables false
set_option linter.unusedSimpArgs false

def hexB (n : Nat) : UInt8 := if n < 10 then UInt8.ofNat (48 + n) else UInt8.ofNat (87 + n)
/-- A byte within quotes. -/
def qByte (b : UInt8) : List UInt8 := if b.toNat = 34 ∨ b.toNat = 92 then [92, b] else if 32 ≤ b.toNat ∧ b.toNat ≤ 126 then [b] else [92, 120, hexB (b.toNat / 16), hexB (b.toNat % 16)]
theorem qByte_len (b : UInt8) : (qByte b).length ≤ 4 := by
  unfold qByte
  split
  · simp
  · split <;> simp
def quoL (s : List UInt8) : List UInt8 := s.flatMap qByte
theorem quoL_len (s : List UInt8) : (quoL s).length ≤ 4 * s.length := by
  induction s with
  | nil => simp [quoL]
  | cons b s ih => unfold quoL at ih ⊢; rw [List.flatMap_cons, List.length_append, List.length_cons]; have := qByte_len b; omega
theorem quoL_snoc (s : List UInt8) (b : UInt8) : quoL (s ++ [b]) = quoL s ++ qByte b := by simp [quoL]
def quoM (s : List UInt8) : List UInt8 := [34] ++ quoL s ++ [34]
theorem quoM_len (s : List UInt8) : (quoM s).length ≤ 4 * s.length + 2 := by unfold quoM; have := quoL_len s; simp; omega
/-- The words, by kind. -/
def wordA (k : Int) : ByteArray :=
  if k = 1 then ⟨#[112, 97, 115, 115]⟩ else if k = 2 then ⟨#[98, 108, 111, 99, 107]⟩ else if k = 3 then ⟨#[115, 116, 114, 105, 112]⟩ else if k = 4 then ⟨#[114, 111, 119]⟩
  else if k = 5 then ⟨#[102, 97, 109]⟩ else if k = 6 then ⟨#[113, 117, 97, 108]⟩ else if k = 7 then ⟨#[118, 97, 108]⟩ else if k = 8 then ⟨#[114, 111, 119, 115]⟩
  else if k = 9 then ⟨#[113, 117, 97, 108, 115]⟩ else if k = 10 then ⟨#[116, 115]⟩ else if k = 11 then ⟨#[118, 101, 114, 115, 105, 111, 110, 115]⟩ else if k = 12 then ⟨#[99, 101, 108, 108, 115]⟩
  else if k = 13 then ⟨#[115, 107, 105, 112]⟩ else ⟨#[]⟩
theorem wordA_len (k : Int) : (bl (wordA k)).length ≤ 8 := by
  rw [bl_len]
  have gen : ∀ (p : Prop) [Decidable p] (a b : ByteArray), a.size ≤ 8 → b.size ≤ 8 → (if p then a else b).size ≤ 8 := by
    intro p _ a b ha hb
    split
    · exact ha
    · exact hb
  unfold wordA
  repeat' (first | (apply gen) | decide)
/-- A text or a number, where there is one. -/
def endM (t : List UInt8) (n : Int) : List UInt8 := if t = [] then (if n = 0 then [] else Lib.decDigits n.toNat) else quoM t
def tailM (e : Nd) : List UInt8 :=
  if e.kind = 4 ∨ e.kind = 5 ∨ e.kind = 6 ∨ e.kind = 7 then [32] ++ quoM (bl e.s)
  else if e.kind = 8 ∨ e.kind = 9 ∨ e.kind = 10 then [32] ++ endM (bl e.s) e.lo ++ [46, 46] ++ endM (bl e.t) e.up
  else if e.kind = 11 ∨ e.kind = 12 ∨ e.kind = 13 then [32] ++ Lib.decDigits e.n.toNat else []
def leafM (e : Nd) : List UInt8 := bl (wordA e.kind) ++ tailM e
theorem decDigits_len : ∀ (f n : Nat), n < 10 ^ (f + 1) → (Lib.decDigits n).length ≤ f + 1
  | 0, n, h => by
    rw [Lib.decDigits, dif_pos (by simpa using h)]; simp
  | f + 1, n, h => by
    rw [Lib.decDigits]
    split
    · simp
    · have := decDigits_len f (n / 10) (by rw [Nat.div_lt_iff_lt_mul (by omega), ← Nat.pow_succ]; exact h)
      rw [List.length_append, List.length_singleton]
      omega
theorem dec64_len {n : Nat} (h : n < 2 ^ 64) : (Lib.decDigits n).length ≤ 20 := decDigits_len 19 n (Nat.lt_trans h (by decide))
theorem bl_nil {s : ByteArray} : bl s = [] ↔ s.toList = [] := by rw [ByteArray.toList_eq]
/-- The numbers of a node are numbers of their types. -/
structure NumN (e : Nd) : Prop where
  lo0 : 0 ≤ e.lo
  lo1 : e.lo < 2 ^ 64
  up0 : 0 ≤ e.up
  up1 : e.up < 2 ^ 64
theorem endM_len {t : List UInt8} {n : Int} (ht : t.length ≤ 200) (h0 : 0 ≤ n) (h1 : n < 2 ^ 64) : (endM t n).length ≤ 802 := by
  unfold endM
  split
  · split
    · simp
    · have := dec64_len (n := n.toNat) (by omega); omega
  · have := quoM_len t; omega
theorem leafM_len {e : Nd} (h : GoodN e) (hn : NumN e) : (leafM e).length ≤ 2000 := by
  have hs : (bl e.s).length ≤ 200 := by rw [bl_len]; exact h.1
  have ht : (bl e.t).length ≤ 200 := by rw [bl_len]; exact h.2.1
  have h1 := wordA_len e.kind
  have h2 := quoM_len (bl e.s)
  have h3 := endM_len hs hn.lo0 hn.lo1
  have h4 := endM_len ht hn.up0 hn.up1
  have h5 : (tailM e).length ≤ 1700 := by
    unfold tailM
    split
    · simp; omega
    · split
      · simp; omega
      · split
        · rename_i q1 q2 q3
          have h9 : e.n ≤ 1000 ∧ 1 ≤ e.n := by
            obtain ⟨_, _, _, h4⟩ := h
            omega
          have := dec64_len (n := e.n.toNat) (by omega)
          simp; omega
        · simp
  unfold leafM
  rw [List.length_append]
  omega
/-- A printed tree: its kind and its text. -/
abbrev PT := Int × List UInt8
def wrapB (op : Int) (i : Nat) (kid : Int) : Bool := if op = 16 then false else level op i kid
def wrapT (op : Int) (i : Nat) (x : PT) : List UInt8 := if wrapB op i x.1 = true then [40] ++ x.2 ++ [41] else x.2
theorem wrapT_len (op : Int) (i : Nat) (x : PT) : (wrapT op i x).length ≤ x.2.length + 2 := by
  unfold wrapT
  split
  · simp
  · omega
def sepM (k : Int) : List UInt8 := if k = 16 then [44, 32] else if k = 15 then [32, 124, 32] else [32, 62, 32]
def joinM (k : Int) : Nat → List PT → List UInt8
  | _, [] => []
  | i, x :: xs => (if i = 0 then [] else sepM k) ++ wrapT k i x ++ joinM k (i + 1) xs
def printV (e : Nd) (os : List PT) : PT := (e.kind, if os = [] then leafM e else (if e.kind = 16 then [105, 102, 40] else []) ++ joinM e.kind 0 os ++ (if e.kind = 16 then [41] else []))
def sizeP (ss : List PT) : Nat := (ss.map (·.2.length)).sum
theorem sizeP_append (a b : List PT) : sizeP (a ++ b) = sizeP a + sizeP b := by simp [sizeP]
theorem joinM_len (k : Int) : ∀ (i : Nat) (os : List PT), (joinM k i os).length ≤ sizeP os + 5 * os.length
  | _, [] => by simp [joinM]
  | i, x :: xs => by
    have h1 := joinM_len k (i + 1) xs
    have h2 := wrapT_len k i x
    have h3 : (if i = 0 then [] else sepM k).length ≤ 3 := by
      unfold sepM
      repeat' split
      all_goals simp
    simp only [joinM, List.length_append, sizeP, List.map_cons, List.sum_cons, List.length_cons]
    unfold sizeP at h1
    omega
theorem print_len {ss : List PT} {xs : List Nd} (h : TrV printV ss xs) (hg : ∀ e ∈ xs, GoodN e ∧ NumN e) : sizeP ss ≤ 2000 * xs.length := by
  induction h with
  | nil => simp [sizeP]
  | @snoc ss os xs n ho h ih =>
    have h1 := ih (fun e he => hg e (by simp [he]))
    rw [sizeP_append] at h1 ⊢
    have h2 : (printV n os).2.length ≤ sizeP os + 2000 := by
      unfold printV
      simp only
      split
      · have := leafM_len (hg n (by simp)).1 (hg n (by simp)).2
        omega
      · have h3 := joinM_len n.kind 0 os
        have h4 : os.length ≤ 3 := by rw [ho]; exact arity_le _
        have h5 : (if n.kind = 16 then [105, 102, 40] else ([] : List UInt8)).length ≤ 3 := by split <;> simp
        have h6 : (if n.kind = 16 then [41] else ([] : List UInt8)).length ≤ 1 := by split <;> simp
        simp only [List.length_append]
        omega
    have h7 : sizeP [printV n os] = (printV n os).2.length := by simp [sizeP]
    rw [List.length_append, List.length_singleton, h7]
    omega
theorem joinM_snoc (k : Int) : ∀ (i : Nat) (os : List PT) (x : PT), joinM k i (os ++ [x]) = joinM k i os ++ ((if i + os.length = 0 then [] else sepM k) ++ wrapT k (i + os.length) x)
  | i, [], x => by simp [joinM]
  | i, y :: os, x => by
    rw [List.cons_append, joinM, joinM_snoc k (i + 1) os x, joinM, List.length_cons]
    rw [show i + 1 + os.length = i + (os.length + 1) by omega]
    simp only [List.append_assoc]
/-- The text of a filter. -/
def TextF (xs : List Nd) (y : PT) : Prop := TrV printV [y] xs
theorem textF_one {xs : List Nd} {y z : PT} (h : TextF xs y) (k : TextF xs z) : y = z := by
  have := TrV.one _ h k
  simpa using this
theorem textF_ex {xs : List Nd} (h : IsT 1 xs) : ∃ y, TextF xs y := by
  obtain ⟨ss, hl, hs⟩ := IsT.trv printV h
  match ss, hl with
  | [y], _ => exact ⟨y, hs⟩
theorem textF_len {xs : List Nd} {y : PT} (h : TextF xs y) (hg : ∀ e ∈ xs, GoodN e ∧ NumN e) : y.2.length ≤ 2000 * xs.length := by
  have := print_len h hg
  simpa [sizeP] using this
end Go.Proofs.YtddemgkbfdhpnaaDoor

/-
  Bytes in memory.
-/
namespace Go.Proofs.YtddemgkbfdhpnaaDoor
open Go.ChangeShapes Go.WideShapes Go.ChangeAt Go.RowKit Go.Deep
set_option linter.unusedVariables false
set_option linter.unusedSimpArgs false
set_option maxRecDepth 100000

abbrev ub (x : UInt8) : Value := .int .u8 (x.toNat : Int)
/-- The bytes lie there. -/
def BysAt (w : World) (b off : Nat) (xs : List UInt8) : Prop := ∀ i x, xs[i]? = some x → w.cell? ⟨b, off + i, none⟩ = some (ub x)
theorem BysAt.below {B : Nat} {w w' : World} {b off : Nat} {xs : List UInt8} (h : BysAt w b off xs) (hb : Below B w w') (hlt : b < B) : BysAt w' b off xs := by
  intro i x hx
  rw [hb.cell (p := ⟨b, off + i, none⟩) hlt]
  exact h i x hx

theorem xor32 (s t : BitVec 32) {x : Int} (hx : x = (t.toNat : Int)) : bits .xor .u32 (s.toNat : Int) x = ((s ^^^ t).toNat : Int) := by
  subst hx
  have h1 : BitVec.ofInt 32 (s.toNat : Int) = s := by simp
  have h2 : BitVec.ofInt 32 (t.toNat : Int) = t := by simp
  show IntKind.wrap .u32 ((BitVec.ofInt 32 (s.toNat : Int) ^^^ BitVec.ofInt 32 (t.toNat : Int)).toNat : Int) = _
  rw [h1, h2]
  have := (s ^^^ t).isLt
  simp only [IntKind.wrap, IntKind.bits, IntKind.signed, Bool.false_and, Bool.false_eq_true, if_false]
  omega
end Go.Proofs.YtddemgkbfdhpnaaDoor

/-
  Bytes of the call's own; append; l2Num, l2Cat, l2Str, l2Fixed, l2Shared.
-/
namespace Go.Proofs.YtddemgkbfdhpnaaDoor
open Go.ChangeShapes Go.WideShapes Go.ChangeAt Go.RowKit Go.Deep
set_option linter.unusedVariables false
set_option linter.unusedSimpArgs false
set_option maxRecDepth 100000

/-- A row of bytes of the call's own. -/
def OwnY (w : World) (base g cp : Nat) (xs : List UInt8) : Prop := w.ownsRow base 5 1 (.slice (some ⟨g, 0, none⟩) xs.length cp) xs.length (xs.map ub)
theorem OwnY.lt {w : World} {base g cp : Nat} {xs : List UInt8} (h : OwnY w base g cp xs) : base ≤ g ∧ g < w.heap.size := World.ownsRow.lt h g rfl
theorem OwnY.chg {S : Nat → Prop} {w w' : World} {base g cp : Nat} {xs : List UInt8} (h : OwnY w base g cp xs) (hc : Chg S w w') (hn : ¬ S g) : OwnY w' base g cp xs := own_chg h hc (fun k q => by simp [Value.ownBlock] at q; subst q; exact hn)
theorem OwnY.below {w w' : World} {base g cp : Nat} {xs : List UInt8} (h : OwnY w base g cp xs) (hb : Below w.heap.size w w') : OwnY w' base g cp xs := h.chg (Chg.of_below hb) (S := fun _ => False) (fun q => q)
theorem OwnY.at {w : World} {base g cp : Nat} {xs : List UInt8} (h : OwnY w base g cp xs) : BysAt w g 0 xs := by
  intro k x hx
  have hk := (List.getElem?_eq_some_iff.1 hx).1
  rw [Nat.zero_add, World.ownsRow.cellAt h k (by omega), List.getElem?_map, hx]; rfl
theorem OwnY.caps {w : World} {base g cp : Nat} {xs : List UInt8} (h : OwnY w base g cp xs) : xs.length ≤ cp ∧ cp ≤ maxLen := by
  rcases h.2 with ⟨h0, _⟩ | ⟨g', cap', cur, hv, _, _, hn, hcap, _, _⟩
  · cases h0
  · simp only [Value.slice.injEq, Option.some.injEq, Addr.mk.injEq, and_true, true_and] at hv
    obtain ⟨rfl, rfl⟩ := hv
    exact ⟨hn, hcap⟩
theorem OwnY.mono {w : World} {base base' g cp : Nat} {xs : List UInt8} (h : OwnY w base g cp xs) (hb : base' ≤ base) : OwnY w base' g cp xs := by
  refine ⟨h.1, ?_⟩
  rcases h.2 with hn | ⟨g', cap', cur, hv, h1, rest⟩
  · exact .inl hn
  · exact .inr ⟨g', cap', cur, hv, Nat.le_trans hb h1, rest⟩
theorem ub_one (xs : List UInt8) : ∀ u ∈ xs.map ub, u.oneCell' = true := by
  intro u hu
  obtain ⟨r, _, rfl⟩ := List.mem_map.1 hu
  rfl
theorem Tryd.infoByte : (Tryd.prog.info? 5).map (fun i => (i.zero, i.size, i.bytes)) = some (some (.int .u8 0), 1, 1) := by kernel_rfl
/-- Bytes appended to a row of the call's own. -/
theorem wpList_append_bys {ops : Array Oper} {rest : List Oper} {o : Oper} {a : Act} {Q : Exit → Act → World → Prop} (w : World) (hgd : o.guard = none) (s x : Operand)
    (ho : o.op = .call { callee := .builtin .append, args := #[s, x], argTypes := #[26, 26] })
    (base g cp n b off m cx : Nat) (l k : List UInt8) (hs : a.eval s = .slice (some ⟨g, 0, none⟩) n cp) (hx : a.eval x = .slice (some ⟨b, off, none⟩) m cx) (hn : n = l.length) (hm : m = k.length) (hO : OwnY w base g cp l)
    (hc : BysAt w b off k) (hlen : l.length + k.length ≤ 2 ^ 30) (hbase : base ≤ w.heap.size)
    (h : ∀ g' cp' w', OwnY w' base g' cp' (l ++ k) → w.grownBy w' (some g) → (g' = g ∨ g' = w.heap.size) → wpList Tryd.prog ops Q rest (a.put o.dst (.slice (some ⟨g', 0, none⟩) (n + m) cp')) w') : wpList Tryd.prog ops Q (o :: rest) a w := by
  subst hn hm
  obtain ⟨i, hi, hz0, hz1, hz2⟩ := info_parts Tryd.infoByte
  refine wpList_append_own_at w hgd s x 26 ho base 5 i _ 1 1 Tryd.underlying26 hi hz0 hz1 hz2 rfl (by decide) (.slice (some ⟨g, 0, none⟩) l.length cp) l.length (l.map ub) hs hO ⟨b, off, none⟩ k.length cx (k.map ub) hx (by simp) ?_ (ub_one k) ?_ ?_ hbase ?_
  · intro j u hu
    rw [List.getElem?_map] at hu
    cases hk : k[j]? with
    | none => rw [hk] at hu; cases hu
    | some r =>
      rw [hk] at hu
      simp at hu
      rw [Addr.add_mid, hc j r hk, ← hu]
  · unfold maxLen; omega
  · omega
  · intro v' w' hO' hgr hnil hat
    rcases hO'.2 with ⟨h0, _⟩ | ⟨g', cap', cur, hv, _, _, hn, hcap, _, _⟩
    · have := (hnil.1 h0).1
      cases this
    · subst hv
      refine h g' cap' w' ?_ hgr ?_
      · unfold OwnY
        rw [List.length_append, List.map_append]
        exact hO'
      · simp [Value.ownBlock] at hat
        exact hat
theorem ownY_new (w : World) {base : Nat} (hb : base ≤ w.heap.size) : OwnY (w.alloc (Obj.cells #[] 5)) base w.heap.size 0 [] :=
  World.ownsRow_made w #[] 0 hb (Nat.zero_le _) (by simp)
theorem ownY_one (w : World) {base : Nat} (hb : base ≤ w.heap.size) (x : UInt8) {v : Int} (hv : v = (x.toNat : Int)) : OwnY (w.alloc (Obj.cells #[.int .u8 v] 5)) base w.heap.size 1 [x] := by
  subst hv
  exact World.ownsRow_lit w #[ub x] 1 hb (by decide) rfl

end Go.Proofs.YtddemgkbfdhpnaaDoor

/-
  l2Str, l2Shared.
-/
namespace Go.Proofs.YtddemgkbfdhpnaaDoor
open Go.ChangeShapes Go.WideShapes Go.ChangeAt Go.RowKit Go.Deep
set_option linter.unusedVariables false
set_option linter.unusedSimpArgs false
set_option maxRecDepth 100000

theorem below_bytes (w : World) (s : ByteArray) : Below w.heap.size w (Lib.bytesWorld w 5 s) :=
  ⟨rfl, rfl, rfl, by rw [Lib.bytesWorld_size]; omega, fun k hk => Lib.bytesWorld_at_old w _ s k hk⟩
theorem bys_bytes (w : World) (s : ByteArray) : BysAt (Lib.bytesWorld w 5 s) w.heap.size 0 (bl s) := by
  intro i x hx
  have hi := (List.getElem?_eq_some_iff.1 hx).1
  rw [Nat.zero_add, Lib.bytesWorld_cell w _ s i (by rw [← bl_len]; exact hi), List.getD_eq_getElem?_getD, hx]
  rfl

end Go.Proofs.YtddemgkbfdhpnaaDoor

