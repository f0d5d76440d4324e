import Derived.BigQuiet
import Derived.Deep.QuietTactic
import Derived.Test.YtkbmdkgfgfbilaaPkAA
import Derived.Test.YtkbmdkgfgfbilaaPkAD
/-
  Nodes that come in: lists of nodes and filters opened, copied and compared.
-/
namespace Go.Proofs.Ytkbmdkgfgfbilaa
open Go.ChangeShapes Go.WideShapes Go.ChangeAt Go.RowKit Go.Deep
set_option linter.unusedVariables false
set_option linter.unusedSimpArgs false
set_option maxRecDepth 100000

theorem Try.cellsNd : Try.prog.cellsOf 67 = 7 := by kernel_rfl
theorem list7 {α : Type} {cs : List α} (h : cs.length = 7) : ∃ c0 c1 c2 c3 c4 c5 c6, cs = [c0, c1, c2, c3, c4, c5, c6] := by
  match cs, h with
  | [c0, c1, c2, c3, c4, c5, c6], _ => exact ⟨c0, c1, c2, c3, c4, c5, c6, rfl⟩
theorem nd_of_trod {H : Type} {enc : TypeId × Value → H} {w : World} {base : Nat} {spare : Nat → Bool} {held : Bool} {fuel : Nat} {cs : List Value} {x : DataW H × List MemPlace}
    (h : DataW.trod enc Try.prog w base spare held fuel 67 cs = some x) : ∃ e : Nd, e.ok ∧ cs = e.seven := by
  obtain ⟨xs, n, _, _, hl, hlen, hf⟩ := DataW.trod_struct Try.underlying67 h
  rw [Try.cellsNd] at hl
  obtain ⟨c0, c1, c2, c3, c4, c5, c6, rfl⟩ := list7 hl
  obtain ⟨x0, x1, x2, x3, x4, x5, x6, rfl⟩ := list7 (cs := xs) hlen
  have h0 := hf 0 _ rfl
  have h1 := hf 1 _ rfl
  have h2 := hf 2 _ rfl
  have h3 := hf 3 _ rfl
  have h4 := hf 4 _ rfl
  have h5 := hf 5 _ rfl
  have h6 := hf 6 _ rfl
  simp [Try.cellsStr, Try.cellsU64, Try.cellsI64, Try.cellsBool] at h0 h1 h2 h3 h4 h5 h6
  obtain ⟨a0, e0, _, b0⟩ := DataW.trod_int Try.underlying2 h0
  obtain ⟨a1, e1, _, b1⟩ := DataW.trod_string Try.underlying9 h1
  obtain ⟨a2, e2, _⟩ := DataW.trod_bool Try.underlying4 h2
  obtain ⟨a3, e3, _, b3⟩ := DataW.trod_string Try.underlying9 h3
  obtain ⟨a4, e4, _, b4⟩ := DataW.trod_int Try.underlying65 h4
  obtain ⟨a5, e5, _, b5⟩ := DataW.trod_int Try.underlying65 h5
  obtain ⟨a6, e6, _, b6⟩ := DataW.trod_int Try.underlying2 h6
  simp only [List.cons.injEq, and_true] at e0 e1 e2 e3 e4 e5 e6
  exact ⟨⟨a0, a1, a2, a3, a4, a5, a6⟩, ⟨b1, b3, b0, b4, b5, b6⟩, by rw [e0, e1, e2, e3, e4, e5, e6]⟩

/-- What is read of a slice of cells that came in. -/
def InNds (w : World) (v : Value) (es : List Nd) : Prop :=
  (∃ a cap, v = .slice a 0 cap ∧ es = []) ∨
  ∃ b off cap, v = .slice (some ⟨b, off, none⟩) es.length cap ∧ NdsAt w b off es ∧ b < w.heap.size ∧ es.length ≤ cap ∧ cap ≤ maxLen
theorem InNds.below {B : Nat} {w w' : World} {v : Value} {es : List Nd} (h : InNds w v es) (hb : Below B w w') (hB : w.heap.size ≤ B) : InNds w' v es := by
  rcases h with h | ⟨b, off, cap, hv, hE, hlt, h1, h2⟩
  · exact .inl h
  · exact .inr ⟨b, off, cap, hv, hE.below hb (by omega), by have := hb.size; omega, h1, h2⟩
theorem nds_of_trod {H : Type} {enc : TypeId × Value → H} {w : World} {base : Nat} {held : Bool} {fuel : Nat} {v : Value} {x : DataW H × List MemPlace}
    (h : DataW.trod enc Try.prog w base (fun _ => true) held fuel 22 [v] = some x) : ∃ es : List Nd, InNds w v es ∧ ∀ e ∈ es, e.ok := by
  rcases open_slice Try.underlying22 h with ⟨hcs, _⟩ | ⟨a, len, cap, m, n, D, Pl, hcs, hba, hl, hm, hmm, _, hel⟩
  · simp only [List.cons.injEq, and_true] at hcs
    exact ⟨[], .inl ⟨none, 0, hcs, rfl⟩, by simp⟩
  · simp only [List.cons.injEq, and_true] at hcs
    subst hcs
    rw [if_pos rfl] at hmm
    subst hmm
    have hel6 : ∀ i, i < m → ∃ cs', w.cells? base (a.add (i * 7)) 7 = some cs' ∧ DataW.trod enc Try.prog w base (fun _ => true) held n 67 cs' = some (D i, Pl i) := fun i hi => by
      have := hel i hi
      rw [Try.cellsNd] at this
      exact this
    clear hel
    have HM : Hid (m ≤ maxLen) := hm
    clear hm
    by_cases h0 : len = 0
    · subst h0; exact ⟨[], .inl ⟨_, _, rfl, rfl⟩, by simp⟩
    · obtain ⟨b, off, spot⟩ := a
      have hspot : spot = none := by
        obtain ⟨cs', hc, _⟩ := hel6 0 (by omega)
        obtain ⟨_, hlen, hget⟩ := World.cells?_some hc
        have h1 := hget 0 (by omega)
        have h2 : (w.cell? ((Addr.add ⟨b, off, spot⟩ (0 * 7)).add 0)).isSome = true := by rw [h1]; simp; omega
        obtain ⟨u, hu⟩ := Option.isSome_iff_exists.1 h2
        simpa [Addr.add] using World.cell?_spot hu
      subst hspot
      obtain ⟨es, hes, hp⟩ := list_of_forall (P := fun i (e : Nd) => e.ok ∧ (w.cell? ⟨b, off + i * 7, none⟩ = some (.int .i64 e.kind) ∧ w.cell? ⟨b, off + i * 7 + 1, none⟩ = some (.string e.s) ∧ w.cell? ⟨b, off + i * 7 + 2, none⟩ = some (.bool e.hi) ∧ w.cell? ⟨b, off + i * 7 + 3, none⟩ = some (.string e.t) ∧ w.cell? ⟨b, off + i * 7 + 4, none⟩ = some (.int .u64 e.lo) ∧ w.cell? ⟨b, off + i * 7 + 5, none⟩ = some (.int .u64 e.up) ∧ w.cell? ⟨b, off + i * 7 + 6, none⟩ = some (.int .i64 e.n))) len (fun i hi => by
        obtain ⟨cs', hc, ht⟩ := hel6 i (by omega)
        obtain ⟨e, ok, rfl⟩ := nd_of_trod ht
        obtain ⟨_, hlen, hget⟩ := World.cells?_some hc
        refine ⟨e, ok, ?_, ?_, ?_, ?_, ?_, ?_, ?_⟩
        · simpa [Addr.add_mid] using hget 0 (by omega)
        · simpa [Addr.add_mid] using hget 1 (by omega)
        · simpa [Addr.add_mid] using hget 2 (by omega)
        · simpa [Addr.add_mid] using hget 3 (by omega)
        · simpa [Addr.add_mid] using hget 4 (by omega)
        · simpa [Addr.add_mid] using hget 5 (by omega)
        · simpa [Addr.add_mid] using hget 6 (by omega))
      have hlt : b < w.heap.size := by
        obtain ⟨cs', hc, _⟩ := hel6 0 (by omega)
        simpa [Addr.add] using World.cells?_block hc (by omega)
      subst hes
      refine ⟨es, .inr ⟨b, off, m, rfl, fun i e he => (hp i e he).2, hlt, hl, HM.out⟩, fun e he => ?_⟩
      obtain ⟨i, hi⟩ := List.getElem?_of_mem he
      exact (hp i e hi).1

set_option maxHeartbeats 400000 in
theorem szNodeS_core (b off cap : Nat) (es : List Nd) (left : Int) (w : World) (hE : NdsAt w b off es) (hok : ∀ e ∈ es, e.ok) (hB : b < w.heap.size) (hlen : es.length ≤ cap) (hcap : cap ≤ maxLen) (h0 : 0 ≤ left) (h1 : left ≤ 2 ^ 40) :
    Calls Try.prog 13 #[.slice (some ⟨b, off, none⟩) es.length cap, .int .i64 left] w fun e w' =>
      ∃ x, e = .returned (.int .i64 x) ∧ (x = -1 ∨ (0 ≤ x ∧ x + es.length ≤ left)) ∧ Below w.heap.size w w' := by
  have HE : Hid (NdsAt w b off es) := hE
  have HO : Hid (∀ e ∈ es, e.ok) := hok
  clear hE hok
  unfold maxLen at hcap
  by_cases hle : left < es.length
  · have hle' : left - es.length < 0 := by omega
    go_enter Try.func13, Try.ntmps13
    go_wp2
    go_ret
    exact ⟨_, rfl, .inl rfl, Below.refl _ _⟩
  have hle' : 0 ≤ left - es.length := by omega
  go_enter Try.func13, Try.ntmps13
  go_wp2
  go_loopw [1, 5] (fun l i wr => ∃ (k : Nat) (x : Int), k ≤ es.length ∧ i = .int .i64 k ∧ l = .int .i64 x ∧ 0 ≤ x ∧ x + es.length ≤ left ∧ Below w.heap.size w wr) (fun _ i _ => es.length - (intOf i).toNat)
  case atStart => exact ⟨0, _, Nat.zero_le _, rfl, rfl, hle', by omega, Below.refl _ _⟩
  case round =>
    obtain ⟨k, x, hk, rfl, rfl, hx0, hx1, hb⟩ := hrel
    by_cases hlt : k < es.length
    · obtain ⟨e, he⟩ : ∃ e, es[k]? = some e := ⟨_, List.getElem?_eq_getElem hlt⟩
      obtain ⟨c0, c1, c2, c3, c4, c5, c6⟩ := (HE.out.below hb hB) k e he
      have ok := HO.out e (List.mem_of_getElem? he)
      have HK : Hid e.ok := ok
      clear ok he
      go_wp2_with fail
      refine (szNode_core e _ _ HK.out (by omega) (by omega)).mono ?_
      rintro e w1 ⟨y, rfl, hy, hb1⟩
      have hsz := hb.size
      have hb2 := hb.trans (hb1.mono hsz)
      clear c0 c1 c2 c3 c4 c5 c6 hb1
      by_cases hy0 : y < 0
      · go_wp2_with fail
        go_ret
        exact ⟨_, rfl, .inl rfl, hb2⟩
      · have hy1 : 0 ≤ y := by omega
        have hy2 : y + es.length ≤ left := by omega
        go_wp2_with fail
        go_roundw
        case rel => exact ⟨k + 1, y, by omega, by go_num, rfl, hy1, hy2, hb2⟩
        case measure => simp [intOf]; omega
    · go_wp2
      go_ret
      exact ⟨_, rfl, .inr ⟨hx0, hx1⟩, hb⟩
set_option maxHeartbeats 400000 in
theorem szNodeS_zero (a : Option Addr) (cap : Nat) (left : Int) (w : World) (h0 : 0 ≤ left) (h1 : left ≤ 2 ^ 40) :
    Calls Try.prog 13 #[.slice a 0 cap, .int .i64 left] w fun e w' => e = .returned (.int .i64 left) ∧ Below w.heap.size w w' := by
  go_enter Try.func13, Try.ntmps13
  go_wp2
  go_loopw [1, 5] (fun l i wr => l = .int .i64 left ∧ i = .int .i64 0 ∧ Below w.heap.size w wr) (fun _ i _ => 0)
  case atStart => exact ⟨rfl, rfl, Below.refl _ _⟩
  case round =>
    obtain ⟨rfl, rfl, hb⟩ := hrel
    go_wp2_with fail
    go_ret
    exact ⟨rfl, hb⟩
theorem szNodeS_any (v : Value) (es : List Nd) (left : Int) (w : World) (h : InNds w v es) (hok : ∀ e ∈ es, e.ok) (h0 : 0 ≤ left) (h1 : left ≤ 2 ^ 40) :
    Calls Try.prog 13 #[v, .int .i64 left] w fun e w' =>
      ∃ x, e = .returned (.int .i64 x) ∧ (x = -1 ∨ (0 ≤ x ∧ x + es.length ≤ left)) ∧ Below w.heap.size w w' := by
  rcases h with ⟨a, cap, rfl, rfl⟩ | ⟨b, off, cap, rfl, hE, hlt, g1, g2⟩
  · exact (szNodeS_zero a cap left w h0 h1).mono fun e w' ⟨he, hb⟩ => ⟨left, he, .inr ⟨h0, by simp⟩, hb⟩
  · exact szNodeS_core b off cap es left w hE hok hlt g1 g2 h0 h1

theorem made_zeroN (n : Nat) : (madeCells #[.int .i64 0, .string ⟨#[]⟩, .bool false, .string ⟨#[]⟩, .int .u64 0, .int .u64 0, .int .i64 0] (n * 7)).toList = cellsN (List.replicate n zeroN) := by
  apply List.ext_getElem?
  intro j
  by_cases hj : j < n * 7
  · have h := cellsN_get (List.replicate n zeroN) (j / 7) zeroN (by rw [List.getElem?_replicate, if_pos (by omega)]) (j % 7) (Nat.mod_lt _ (by omega))
    rw [show j / 7 * 7 + j % 7 = j by omega] at h
    rw [h]
    have h6 : j % 7 < 7 := Nat.mod_lt _ (by omega)
    simp [madeCells, hj]
    generalize j % 7 = m at *
    match m, h6 with
    | 0, _ => rfl
    | 1, _ => rfl
    | 2, _ => rfl
    | 3, _ => rfl
    | 4, _ => rfl
    | 5, _ => rfl
    | 6, _ => rfl
  · have h1 : (cellsN (List.replicate n zeroN)).length ≤ j := by rw [length_cellsN, List.length_replicate]; omega
    rw [List.getElem?_eq_none h1]
    simp [madeCells, hj]
set_option maxHeartbeats 400000 in
theorem toNodeS_core (b off cap : Nat) (es : List Nd) (w : World) (hE : NdsAt w b off es) (hB : b < w.heap.size) (hlen : es.length ≤ cap) (hcap : cap ≤ maxLen) (h1 : es.length ≤ 1048576) :
    Calls Try.prog 18 #[.slice (some ⟨b, off, none⟩) es.length cap] w fun e w' =>
      ∃ g, e = .returned (.slice (some ⟨g, 0, none⟩) es.length es.length) ∧ OwnNd w' w.heap.size g es.length es ∧ Below w.heap.size w w' := by
  have HE : Hid (NdsAt w b off es) := hE
  clear hE
  unfold maxLen at hcap
  obtain ⟨i, hi, hz0, hz1, hz2⟩ := info_parts Try.infoNd
  have HI : Hid (Try.prog.info? 69 = some i ∧ i.zero = some (.agg #[.int .i64 0, .string ⟨#[]⟩, .bool false, .string ⟨#[]⟩, .int .u64 0, .int .u64 0, .int .i64 0]) ∧ i.size = 7 ∧ i.bytes = 72) := ⟨hi, hz0, hz1, hz2⟩
  clear hi hz0 hz1 hz2
  go_enter Try.func18, Try.ntmps18
  go_wp2_with (at_make; refine wpList_make_full _ rfl _ _ 33 rfl w.heap.size 69 i _ 7 Try.underlying33 HI.out.1 HI.out.2.1 HI.out.2.2.1 _ _ _ _ es.length rfl rfl ?_ ?_ ?hb ?hm ?hs ?_)
  case hb => rw [HI.out.2.2.2]; omega
  case hm => unfold maxLen; omega
  case hs => exact Nat.le_refl _
  · rfl
  · rfl
  intro w1 hown hgrow
  rw [made_zeroN] at hown
  have hown1 : OwnNd w1 w.heap.size w.heap.size es.length (List.replicate es.length zeroN) := by
    unfold OwnNd; rw [List.length_replicate]; exact hown
  have HW : Hid (OwnNd w1 w.heap.size w.heap.size es.length (List.replicate es.length zeroN)) := hown1
  have hb1 : Below w.heap.size w w1 := (Below.refl _ _).grown hgrow (Nat.le_refl _) (fun k hk => by cases hk)
  clear hown hown1 hgrow
  go_wp2_with fail
  go_loopw [4] (fun i wr => ∃ (k : Nat) (fs : List Nd), k ≤ es.length ∧ i = .int .i64 k ∧ fs.length = es.length ∧ fs.take k = es.take k ∧ OwnNd wr w.heap.size w.heap.size es.length fs ∧ Below w.heap.size w wr) (fun i _ => es.length - (intOf i).toNat)
  case atStart => exact ⟨0, _, Nat.zero_le _, rfl, List.length_replicate .., rfl, HW.out, hb1⟩
  case round =>
    obtain ⟨k, fs, hk, rfl, hfl, hft, hO, hb⟩ := hrel
    have HO : Hid (fs.length = es.length ∧ fs.take k = es.take k ∧ OwnNd wr w.heap.size w.heap.size es.length fs) := ⟨hfl, hft, hO⟩
    clear hfl hft hO
    by_cases hlt : k < es.length
    · obtain ⟨e, he⟩ : ∃ e, es[k]? = some e := ⟨_, List.getElem?_eq_getElem hlt⟩
      obtain ⟨c0, c1, c2, c3, c4, c5, c6⟩ := (HE.out.below hb hB) k e he
      have HG : Hid (es[k]? = some e) := he
      clear he
      go_wp2_with fail
      refine (toNode_core e _).mono ?_
      rintro e' w2 ⟨rfl, hb2⟩
      have hO2 := (HO.out.2.2).below hb2 (HO.out.2.2).lt.2
      obtain ⟨f, hf⟩ : ∃ f, fs[k]? = some f := ⟨_, List.getElem?_eq_getElem (by rw [HO.out.1]; exact hlt)⟩
      obtain ⟨d0, d1, d2, d3, d4, d5, d6⟩ := hO2.at k f hf
      simp only [Nat.zero_add] at d0 d1 d2 d3 d4 d5 d6
      have hfz := fun j => World.ownsRow.frozenAt hO2 j
      have HO2 : Hid (OwnNd w2 w.heap.size w.heap.size es.length fs ∧ fs[k]? = some f) := ⟨hO2, hf⟩
      clear hO2 hf c0 c1 c2 c3 c4 c5 c6
      go_wp2_with fail
      go_roundw
      case rel => exact ⟨k + 1, fs.set k e, by omega, by go_num, by rw [List.length_set]; exact HO.out.1, takeN_succ HO.out.2.1 HO.out.1 HG.out, HO2.out.1.put k f e HO2.out.2, below_put7 (hb.trans (hb2.mono hb.size)) (Nat.le_refl _) _ _ _ _ _ _ _ _ _ _ _ _ _ _⟩
      case measure => simp [intOf]; omega
    · have hfs : fs = es := by
        have h := HO.out.2.1
        rw [List.take_of_length_le (by have := HO.out.1; omega), List.take_of_length_le (by omega)] at h
        exact h
      go_wp2
      go_ret
      exact ⟨_, rfl, by rw [← hfs] at HO ⊢; exact HO.out.2.2, hb⟩
set_option maxHeartbeats 400000 in
theorem toNodeS_zero (a : Option Addr) (cap : Nat) (w : World) :
    Calls Try.prog 18 #[.slice a 0 cap] w fun e w' =>
      ∃ g, e = .returned (.slice (some ⟨g, 0, none⟩) 0 0) ∧ OwnNd w' w.heap.size g 0 [] ∧ Below w.heap.size w w' := by
  obtain ⟨i, hi, hz0, hz1, hz2⟩ := info_parts Try.infoNd
  have HI : Hid (Try.prog.info? 69 = some i ∧ i.zero = some (.agg #[.int .i64 0, .string ⟨#[]⟩, .bool false, .string ⟨#[]⟩, .int .u64 0, .int .u64 0, .int .i64 0]) ∧ i.size = 7 ∧ i.bytes = 72) := ⟨hi, hz0, hz1, hz2⟩
  clear hi hz0 hz1 hz2
  go_enter Try.func18, Try.ntmps18
  go_wp2_with (at_make; refine wpList_make_full _ rfl _ _ 33 rfl w.heap.size 69 i _ 7 Try.underlying33 HI.out.1 HI.out.2.1 HI.out.2.2.1 _ _ _ _ 0 rfl rfl ?_ ?_ ?hb ?hm ?hs ?_)
  case hb => rw [HI.out.2.2.2]; omega
  case hm => unfold maxLen; omega
  case hs => exact Nat.le_refl _
  · rfl
  · rfl
  intro w1 hown hgrow
  have HW : Hid (OwnNd w1 w.heap.size w.heap.size 0 []) := by
    have h0 := made_zeroN 0
    rw [Nat.zero_mul] at h0
    rw [h0] at hown
    exact hown
  have hb1 : Below w.heap.size w w1 := (Below.refl _ _).grown hgrow (Nat.le_refl _) (fun k hk => by cases hk)
  clear hown hgrow
  go_wp2_with fail
  go_loopw [4] (fun i wr => i = .int .i64 0 ∧ wr = w1) (fun i _ => 0)
  case atStart => exact ⟨rfl, rfl⟩
  case round =>
    obtain ⟨rfl, rfl⟩ := hrel
    go_wp2_with fail
    go_ret
    exact ⟨_, rfl, HW.out, hb1⟩
theorem toNodeS_any (v : Value) (es : List Nd) (w : World) (h : InNds w v es) (h1 : es.length ≤ 1048576) :
    Calls Try.prog 18 #[v] w fun e w' =>
      ∃ g, e = .returned (.slice (some ⟨g, 0, none⟩) es.length es.length) ∧ OwnNd w' w.heap.size g es.length es ∧ Below w.heap.size w w' := by
  rcases h with ⟨a, cap, rfl, rfl⟩ | ⟨b, off, cap, rfl, hE, hlt, g1, g2⟩
  · exact toNodeS_zero a cap w
  · exact toNodeS_core b off cap es w hE hlt g1 g2 h1
set_option maxHeartbeats 1000000 in
theorem eqNodeS_same (b off cap b' off' cap' : Nat) (es : List Nd) (w : World) (hE : NdsAt w b off es) (hE' : NdsAt w b' off' es) (hB : b < w.heap.size) (hB' : b' < w.heap.size) (hlen : es.length ≤ maxLen) :
    Calls Try.prog 27 #[.slice (some ⟨b, off, none⟩) es.length cap, .slice (some ⟨b', off', none⟩) es.length cap'] w fun e w' =>
      e = .returned (.bool true) ∧ Below w.heap.size w w' := by
  have HE : Hid (NdsAt w b off es ∧ NdsAt w b' off' es) := ⟨hE, hE'⟩
  clear hE hE'
  unfold maxLen at hlen
  go_enter Try.func27, Try.ntmps27
  go_wp2
  go_loopw [5] (fun i wr => ∃ (k : Nat), k ≤ es.length ∧ i = .int .i64 k ∧ Below w.heap.size w wr) (fun i _ => es.length - (intOf i).toNat)
  case atStart => exact ⟨0, Nat.zero_le _, rfl, Below.refl _ _⟩
  case round =>
    obtain ⟨k, hk, rfl, hb⟩ := hrel
    have hs2 := hb.size
    by_cases hlt : k < es.length
    · obtain ⟨e, he⟩ : ∃ e, es[k]? = some e := ⟨_, List.getElem?_eq_getElem hlt⟩
      obtain ⟨c0, c1, c2, c3, c4, c5, c6⟩ := HE.out.1.below hb hB k e he
      obtain ⟨d0, d1, d2, d3, d4, d5, d6⟩ := HE.out.2.below hb hB' k e he
      clear he
      go_upto_region 6 with fail
      go_cut [26] (fun s wx => s = .bool false ∧ Below w.heap.size w wx)
      case first =>
        have z2 : (k : Int) < (es.length : Int) := by omega
        go_region_with (go_at_call 54; refine (eqNode_same e _).mono ?_; rintro e' w' ⟨rfl, hbb⟩)
        all_goals go_wp2_with fail
        all_goals go_meet
        all_goals exact ⟨rfl, hb.drew.trans (hbb.mono (by simp; omega))⟩
      case rest =>
      obtain ⟨rfl, h3⟩ := hcut
      clear c0 c1 c2 c3 c4 c5 c6 d0 d1 d2 d3 d4 d5 d6
      go_wp2_with fail
      go_roundw
      case rel => exact ⟨k + 1, by omega, by go_num, h3⟩
      case measure => simp [intOf]; omega
    · go_wp2_with fail
      go_ret
      exact ⟨rfl, hb⟩
theorem eqNodeS_own {w : World} {base g cp base' g' cp' : Nat} {es : List Nd} (h : OwnNd w base g cp es) (h' : OwnNd w base' g' cp' es) :
    Calls Try.prog 27 #[.slice (some ⟨g, 0, none⟩) es.length cp, .slice (some ⟨g', 0, none⟩) es.length cp'] w fun e w' => e = .returned (.bool true) ∧ Below w.heap.size w w' :=
  eqNodeS_same g 0 cp g' 0 cp' es w h.at h'.at h.lt.2 h'.lt.2 (Nat.le_trans h.caps.1 h.caps.2)
set_option maxHeartbeats 400000 in
theorem eqNodeS_zero (a a' : Option Addr) (cap cap' : Nat) (w : World) :
    Calls Try.prog 27 #[.slice a 0 cap, .slice a' 0 cap'] w fun e w' => e = .returned (.bool true) ∧ Below w.heap.size w w' := by
  go_enter Try.func27, Try.ntmps27
  go_wp2
  go_loopw [5] (fun i wr => i = .int .i64 0 ∧ Below w.heap.size w wr) (fun i _ => 0)
  case atStart => exact ⟨rfl, Below.refl _ _⟩
  case round =>
    obtain ⟨rfl, hb⟩ := hrel
    go_wp2_with fail
    go_ret
    exact ⟨rfl, hb⟩
theorem InNds.own {w : World} {base g n cap : Nat} {es : List Nd} (h : OwnNd w base g cap es) (hn : n = es.length) : InNds w (.slice (some ⟨g, 0, none⟩) n cap) es := by
  subst hn
  exact .inr ⟨g, 0, cap, rfl, h.at, h.lt.2, h.caps.1, h.caps.2⟩
theorem eqNodeS_any (u u' : Value) (es : List Nd) (w : World) (h : InNds w u es) (h' : InNds w u' es) :
    Calls Try.prog 27 #[u, u'] w fun e w' => e = .returned (.bool true) ∧ Below w.heap.size w w' := by
  rcases h with ⟨a, cap, rfl, rfl⟩ | ⟨b, off, cap, rfl, hE, hlt, g1, g2⟩
  · rcases h' with ⟨a', cap', rfl, _⟩ | ⟨b', off', cap', rfl, hE', hlt', g1', g2'⟩
    · exact eqNodeS_zero a a' cap cap' w
    · exact eqNodeS_zero a _ cap cap' w
  · rcases h' with ⟨a', cap', rfl, rfl⟩ | ⟨b', off', cap', rfl, hE', hlt', g1', g2'⟩
    · exact eqNodeS_zero _ a' cap cap' w
    · exact eqNodeS_same b off cap b' off' cap' es w hE hE' hlt hlt' (Nat.le_trans g1 g2)
set_option maxRecDepth 100000 in
theorem open_filter {H : Type} {enc : TypeId × Value → H} {w : World} {base b0 : Nat} {held : Bool} {r : Reach} {v : Value} {d : DataW H} {p : List MemPlace}
    (hv : Value.okWide Try.prog w r b0 24 v) (h : DataW.Trod enc Try.prog w base (fun _ => true) held 24 v d p) :
    ∃ (u : Value) (es : List Nd), v = .agg #[u] ∧ InNds w u es ∧ ∀ e ∈ es, e.ok := by
  obtain ⟨cs, rfl, hsz⟩ := okWide_struct Try.underlying24 hv
  obtain ⟨fuel, hf⟩ := h
  obtain ⟨y0, n, _, hl, h0⟩ := trod_struct1 Try.underlying24 hf
  have h1 : Try.prog.cellsOf 24 = 1 := by kernel_rfl
  have h2 : Try.prog.cellsOf 22 = 1 := by kernel_rfl
  rw [h1] at hsz
  obtain ⟨l⟩ := cs
  match l, hsz with
  | [u], _ =>
    simp [h2, Value.cells] at h0
    obtain ⟨es, he, ok⟩ := nds_of_trod h0
    exact ⟨u, es, rfl, he, ok⟩

set_option maxHeartbeats 400000 in
theorem szFilter_any (u : Value) (es : List Nd) (left : Int) (w : World) (h : InNds w u es) (hok : ∀ e ∈ es, e.ok) (h0 : 0 ≤ left) (h1 : left ≤ 2 ^ 40) :
    Calls Try.prog 4 #[.agg #[u], .int .i64 left] w fun e w' =>
      ∃ x, e = .returned (.int .i64 x) ∧ (x = -1 ∨ (0 ≤ x ∧ x + es.length ≤ left)) ∧ Below w.heap.size w w' := by
  have HE : Hid (InNds w u es ∧ ∀ e ∈ es, e.ok) := ⟨h, hok⟩
  have hu : u.cells = #[u] := by
    rcases h with ⟨a, cap, rfl, _⟩ | ⟨b, off, cap, rfl, _⟩ <;> rfl
  clear h hok
  go_enter Try.func4, Try.ntmps4
  go_wp2_with fail
  refine (szNodeS_any u es left _ (HE.out.1.below ((Below.refl _ _).alloc (Nat.le_refl _) _) (Nat.le_refl _)) HE.out.2 h0 h1).mono ?_
  rintro e w1 ⟨x, rfl, hx, hb1⟩
  have k1 : Below w.heap.size w w1 := ((Below.refl _ _).alloc (Nat.le_refl _) (Obj.cells #[u] 24)).trans (hb1.mono (by simp))
  have HX : Hid (x = -1 ∨ (0 ≤ x ∧ x + es.length ≤ left)) := hx
  by_cases hx0 : x < 0
  · clear hx
    go_wp2_with fail
    go_ret
    exact ⟨_, rfl, .inl rfl, k1⟩
  · clear hx
    go_wp2_with fail
    go_ret
    exact ⟨_, rfl, HX.out, k1⟩

set_option maxHeartbeats 400000 in
theorem toFilter_any (u : Value) (es : List Nd) (w : World) (h : InNds w u es) (h1 : es.length ≤ 1048576) :
    Calls Try.prog 6 #[.agg #[u]] w fun e w' =>
      ∃ g, e = .returned (.agg #[.slice (some ⟨g, 0, none⟩) es.length es.length]) ∧ OwnNd w' w.heap.size g es.length es ∧ Below w.heap.size w w' := by
  have HE : Hid (InNds w u es) := h
  have hu : u.cells = #[u] := by
    rcases h with ⟨a, cap, rfl, _⟩ | ⟨b, off, cap, rfl, _⟩ <;> rfl
  clear h
  go_enter Try.func6, Try.ntmps6
  go_wp2_with fail
  refine (toNodeS_any u es _ (HE.out.below ((((Below.refl _ _).alloc (Nat.le_refl _) _).alloc (by simp) _).alloc (by simp; omega) _) (Nat.le_refl _)) h1).mono ?_
  rintro e w1 ⟨g, rfl, hO, hb1⟩
  obtain ⟨hc1, hf1⟩ := bcell hb1
  have k1 : Below w.heap.size w w1 := ((((Below.refl _ _).alloc (Nat.le_refl _) (Obj.cells #[u] 24)).alloc (by simp) (Obj.cells #[.slice none 0 0] 35)).alloc (by simp; omega) (Obj.cells #[.slice none 0 0] 35)).trans (hb1.mono (by simp; omega))
  have HO : Hid (OwnNd w1 (w.heap.size + 1 + 1 + 1) g es.length es) := by
    show OwnNd w1 (w.heap.size + 1 + 1 + 1) g es.length es
    simpa using hO
  clear hO
  go_wp2_with fail
  refine bodyPost_ret (v := .agg #[.slice (some ⟨g, 0, none⟩) es.length es.length]) (by simp [results, Try.results6, go_sem, hc1]) rfl ⟨g, rfl, ?_, ?_⟩
  · exact OwnNd.mono (ownsRow_setCell_below (ownsRow_setCell_below HO.out (by show w.heap.size + 1 + 1 < _; omega) _) (by show w.heap.size + 1 < _; omega) _) (by omega)
  · exact (k1.setCell (by show w.heap.size ≤ w.heap.size + 1 + 1; omega) _).setCell (by show w.heap.size ≤ w.heap.size + 1; omega) _

set_option maxHeartbeats 400000 in
theorem eqFilter_any (u u' : Value) (es : List Nd) (w : World) (h : InNds w u es) (h' : InNds w u' es) :
    Calls Try.prog 9 #[.agg #[u], .agg #[u']] w fun e w' => e = .returned (.bool true) ∧ Below w.heap.size w w' := by
  have HE : Hid (InNds w u es ∧ InNds w u' es) := ⟨h, h'⟩
  have hu : u.cells = #[u] := by
    rcases h with ⟨a, cap, rfl, _⟩ | ⟨b, off, cap, rfl, _⟩ <;> rfl
  have hu' : u'.cells = #[u'] := by
    rcases h' with ⟨a, cap, rfl, _⟩ | ⟨b, off, cap, rfl, _⟩ <;> rfl
  clear h h'
  go_enter Try.func9, Try.ntmps9
  go_wp2_with fail
  have k0 : Below w.heap.size w ((w.alloc (Obj.cells #[u] 35)).alloc (Obj.cells #[u'] 35)) := ((Below.refl _ _).alloc (Nat.le_refl _) _).alloc (by simp) _
  refine (eqNodeS_any u u' es _ (HE.out.1.below k0 (Nat.le_refl _)) (HE.out.2.below k0 (Nat.le_refl _))).mono ?_
  rintro e w1 ⟨rfl, hb1⟩
  go_wp2_with fail
  go_ret
  exact ⟨rfl, k0.trans (hb1.mono (by simp; omega))⟩
end Go.Proofs.Ytkbmdkgfgfbilaa

/-
  spec.ValidFilter.
-/
namespace Go.Proofs.Ytkbmdkgfgfbilaa
open Go.ChangeShapes Go.WideShapes Go.ChangeAt Go.RowKit Go.Deep
set_option linter.unusedVariables false
set_option linter.unusedSimpArgs false
set_option maxRecDepth 100000

open Classical in
/-- Whether a node is valid. -/
noncomputable def goodB (e : Nd) : Bool := decide (GoodN e)
theorem goodB_iff (e : Nd) : goodB e = true ↔ GoodN e := by unfold goodB; simp
/-- What ValidFilter says of nodes. -/
def GoodF (xs : List Nd) : Prop := xs.length ≤ 200 ∧ ∃ s, ShT goodB [s] xs ∧ s.valid = true ∧ s.nest ≤ 20
theorem goodF_all {xs : List Nd} (h : GoodF xs) : ∀ e ∈ xs, GoodN e := by
  obtain ⟨_, s, hs, hv, _⟩ := h
  have := ShT.valid goodB hs
  simp [hv] at this
  exact fun e he => (goodB_iff e).1 (this e he)
theorem sh_one {xs : List Nd} {s t : Shape} (h : ShT goodB [s] xs) (k : ShT goodB [t] xs) : s = t := by
  have a := ShT.fold goodB h []
  have b := ShT.fold goodB k []
  rw [a] at b
  simpa using b
def FltPost (xs : List Nd) (w : World) (r : Ending) (w' : World) : Prop := ∃ b, r = .returned (.bool b) ∧ (b = true ↔ GoodF xs) ∧ Below w.heap.size w w'
set_option maxHeartbeats 4000000 in
theorem specFilter_core {w : World} {base g cp : Nat} {xs : List Nd} (h : OwnNd w base g cp xs) (hok : ∀ e ∈ xs, e.ok) (hc : cp ≤ 281474976710656) : Calls Try.prog 14 #[.agg #[.slice (some ⟨g, 0, none⟩) xs.length cp]] w (FltPost xs w) := by
  have HO : Hid (OwnNd w base g cp xs ∧ ∀ e ∈ xs, e.ok) := ⟨h, hok⟩
  have hg := h.lt.2
  have hcp := h.caps
  obtain ⟨n, hn⟩ : ∃ n, n = xs.length := ⟨_, rfl⟩
  have HN : Hid (n = xs.length) := hn
  rw [← hn] at hcp ⊢
  unfold maxLen at hcp
  clear h hok hn
  obtain ⟨W0, hW0⟩ : ∃ W0 : World, W0 = w.alloc (Obj.cells #[.slice (some ⟨g, 0, none⟩) n cp] 35) := ⟨_, rfl⟩
  have HW0 : Hid (BoxAt W0 w.heap.size 35 1 w.heap.size [.slice (some ⟨g, 0, none⟩) n cp] ∧ Below w.heap.size w W0) := by
    rw [hW0]; exact ⟨boxAt_new w _ (Nat.le_refl _) rfl, (Below.refl _ _).alloc (Nat.le_refl _) _⟩
  have c0 := HW0.out.1.cell (j := 0) rfl
  have s0 := HW0.out.2.size
  go_enter Try.func14, Try.ntmps14
  go_upto_region 1 with fail
  rw [← hW0]
  clear hW0
  by_cases hbig : 200 < n
  · have zb : (200 : Int) < (n : Int) := by omega
    have HF : Hid (¬ GoodF xs) := fun q => by have := q.1; have := HN.out; omega
    go_wp2_with fail
    go_ret
    exact ⟨_, rfl, by simp [HF.out], HW0.out.2⟩
  have zb : ¬ (200 : Int) < (n : Int) := by omega
  go_wp2_with fail
  clear c0
  go_loopw [3] (fun iv wr => ∃ (j : Nat), iv = .int .i64 (j : Int) ∧ j ≤ n ∧ (∀ e ∈ xs.take j, GoodN e) ∧ BoxAt wr w.heap.size 35 1 w.heap.size [.slice (some ⟨g, 0, none⟩) n cp] ∧ Below w.heap.size w wr) (fun iv _ => n - (intOf iv).toNat)
  case atStart => exact ⟨0, rfl, Nat.zero_le _, by simp, HW0.out⟩
  case round =>
    obtain ⟨j, rfl, hj, hG, hB, hb⟩ := hrel
    have HJ : Hid ((∀ e ∈ xs.take j, GoodN e) ∧ BoxAt wr w.heap.size 35 1 w.heap.size [.slice (some ⟨g, 0, none⟩) n cp] ∧ Below w.heap.size w wr) := ⟨hG, hB, hb⟩
    have c0 := hB.cell (j := 0) rfl
    have sr := hb.size
    clear hG hB hb HW0
    by_cases hlt : j < n
    · have zj : (j : Int) < (n : Int) := by omega
      obtain ⟨e, he⟩ : ∃ e, xs[j]? = some e := ⟨_, List.getElem?_eq_getElem (by have := HN.out; omega)⟩
      obtain ⟨d0, d1, d2, d3, d4, d5, d6⟩ := (HO.out.1.at.below HJ.out.2.2 hg) j e he
      simp only [Nat.zero_add] at d0 d1 d2 d3 d4 d5 d6
      have ok := HO.out.2 e (List.mem_of_getElem? he)
      have HE : Hid (e.s.size ≤ maxLen ∧ e.t.size ≤ maxLen ∧ e ∈ xs ∧ xs.take (j + 1) = xs.take j ++ [e]) := ⟨ok.s, ok.t, List.mem_of_getElem? he, by rw [List.take_add_one, he]; rfl⟩
      clear ok he
      go_wp2_with fail
      refine (good_core e wr HE.out.1 HE.out.2.1).mono ?_
      rintro r w2 ⟨b, rfl, hb, hb2⟩
      have HB : Hid (b = true ↔ GoodN e) := hb
      have HJ2 : Hid (BoxAt w2 w.heap.size 35 1 w.heap.size [.slice (some ⟨g, 0, none⟩) n cp] ∧ Below w.heap.size w w2) := ⟨HJ.out.2.1.below hb2, HJ.out.2.2.trans (hb2.mono sr)⟩
      clear hb hb2 c0 d0 d1 d2 d3 d4 d5 d6
      cases b
      · have HF : Hid (¬ GoodF xs) := fun q => by
          have := HB.out.2 (goodF_all q e HE.out.2.2.1)
          cases this
        go_wp2_with fail
        go_ret
        exact ⟨_, rfl, by simp [HF.out], HJ2.out.2⟩
      · go_wp2_with fail
        go_roundw
        case rel =>
          refine ⟨j + 1, by go_num, by omega, ?_, HJ2.out.1, HJ2.out.2⟩
          intro e' he'
          rw [HE.out.2.2.2] at he'
          rcases List.mem_append.1 he' with h | h
          · exact HJ.out.1 e' h
          · simp at h; subst h; exact HB.out.1 (by first | rfl | trivial)
        case measure => simp [intOf]; omega
    · have zj : ¬ (j : Int) < (n : Int) := by omega
      have HA : Hid (∀ e ∈ xs, GoodN e) := by
        have h1 := HJ.out.1
        rw [List.take_of_length_le (by have := HN.out; omega)] at h1
        exact h1
      have hWin : Win wr g 0 cp xs := ⟨HO.out.1.at.below HJ.out.2.2 hg, by omega, by rw [← HN.out]; exact hcp.1, hc⟩
      have HT : Hid (Calls Try.prog 35 #[.slice (some ⟨g, 0, none⟩) n cp] wr fun r w' => w' = wr ∧ ((r = .returned (.bool true) ∧ IsT 1 xs) ∨ (r = .returned (.bool false) ∧ ¬ IsT 1 xs))) := by
        rw [HN.out]; exact l5Tree_core hWin
      have HNe : Hid (∀ s, ShT goodB [s] xs → Calls Try.prog 36 #[.slice (some ⟨g, 0, none⟩) n cp] wr fun r w' => r = .returned (.int .i64 (s.nest : Int)) ∧ Below wr.heap.size wr w') := fun s hs => by
        rw [HN.out]; exact nest_all goodB xs.length wr g 0 cp xs s (Nat.le_refl _) hWin hs
      clear hWin
      go_wp2_with fail
      refine HT.out.mono ?_
      rintro r w2 ⟨hw2, (⟨rfl, hT⟩ | ⟨rfl, hT⟩)⟩
      · rw [hw2]
        clear hw2
        obtain ⟨ss, hl, hs⟩ := IsT.shapes goodB hT
        obtain ⟨s, rfl⟩ : ∃ s, ss = [s] := by
          match ss, hl with
          | [s], _ => exact ⟨s, rfl⟩
        have HSh : Hid (ShT goodB [s] xs) := hs
        have HV : Hid (s.valid = true) := by
          show s.valid = true
          have h1 := ShT.valid goodB hs
          have h2 : xs.all goodB = true := List.all_eq_true.2 (fun e he => (goodB_iff e).2 (HA.out e he))
          rw [h2] at h1
          simpa using h1
        have HF : Hid (GoodF xs ↔ s.nest ≤ 20) := by
          show GoodF xs ↔ _
          constructor
          · rintro ⟨_, t, ht, _, hn⟩
            rw [sh_one hs ht]; exact hn
          · intro hn
            exact ⟨by have := HN.out; omega, s, hs, HV.out, hn⟩
        clear hT hl hs
        go_wp2_with fail
        refine (HNe.out s HSh.out).mono ?_
        rintro r w3 ⟨rfl, hb3⟩
        have HB3 : Hid (Below w.heap.size w w3) := HJ.out.2.2.trans (hb3.mono sr)
        clear hb3 c0
        go_wp2_with fail
        go_ret
        exact ⟨_, rfl, by rw [HF.out]; simp <;> omega, HB3.out⟩
      · rw [hw2]
        clear hw2
        have HF : Hid (¬ GoodF xs) := fun q => by
          obtain ⟨_, s, hs, _⟩ := q
          exact hT hs.tree
        clear hT
        go_wp2_with fail
        go_ret
        exact ⟨_, rfl, by simp [HF.out], HJ.out.2.2⟩
end Go.Proofs.Ytkbmdkgfgfbilaa

/-
  Trees folded by any visit; the normal form of a filter.
-/
namespace Go.Proofs.Ytkbmdkgfgfbilaa
open Go.ChangeShapes Go.WideShapes Go.ChangeAt Go.RowKit Go.Deep
set_option linter.unusedVariables false

section
variable {T : Type} (V : Nd → List T → T)
/-- What a visit makes of trees, one behind another. -/
inductive TrV : List T → List Nd → Prop
  | nil : TrV [] []
  | snoc {ss os : List T} {xs : List Nd} (n : Nd) (ho : os.length = arity n.kind) (h : TrV (ss ++ os) xs) : TrV (ss ++ [V n os]) (xs ++ [n])
def stepV (st : List T) (n : Nd) : Option (List T) :=
  if st.length < arity n.kind then none else some (st.take (st.length - arity n.kind) ++ [V n (st.drop (st.length - arity n.kind))])
def foldV (st : List T) : List Nd → Option (List T)
  | [] => some st
  | n :: ns => (stepV V st n).bind fun s => foldV s ns
theorem foldV_append (st : List T) (xs ys : List Nd) : foldV V st (xs ++ ys) = (foldV V st xs).bind (fun s => foldV V s ys) := by
  induction xs generalizing st with
  | nil => rfl
  | cons x xs ih =>
    simp only [List.cons_append, foldV]
    cases stepV V st x with
    | none => rfl
    | some s => exact ih s
theorem IsT.trv {k : Nat} {xs : List Nd} (h : IsT k xs) : ∃ ss, ss.length = k ∧ TrV V ss xs := by
  induction h with
  | nil => exact ⟨[], rfl, .nil⟩
  | @snoc k xs n h ih =>
    obtain ⟨ss, hl, hs⟩ := ih
    refine ⟨ss.take k ++ [V n (ss.drop k)], by simp; omega, .snoc n (by simp; omega) ?_⟩
    rw [List.take_append_drop]; exact hs
theorem TrV.tree {ss : List T} {xs : List Nd} (h : TrV V ss xs) : IsT ss.length xs := by
  induction h with
  | nil => exact .nil
  | @snoc ss os xs n ho h ih =>
    rw [List.length_append]
    refine IsT.snoc n ?_
    rw [← ho, ← List.length_append]; exact ih
theorem TrV.fold {ss : List T} {xs : List Nd} (h : TrV V ss xs) : ∀ st, foldV V st xs = some (st ++ ss) := by
  induction h with
  | nil => intro st; simp [foldV]
  | @snoc ss os xs n ho h ih =>
    intro st
    rw [foldV_append, ih]
    simp only [Option.bind_some, foldV, stepV]
    rw [if_neg (by simp; omega)]
    have hl : (st ++ (ss ++ os)).length - arity n.kind = (st ++ ss).length := by simp; omega
    rw [hl, ← List.append_assoc, List.take_left, List.drop_left, List.append_assoc]
    simp
theorem TrV.one {ss ts : List T} {xs : List Nd} (h : TrV V ss xs) (k : TrV V ts xs) : ss = ts := by
  have a := h.fold V []
  have b := k.fold V []
  rw [a] at b
  simpa using b
theorem TrV.split {ss : List T} {xs : List Nd} (h : TrV V ss xs) : ∀ {a b : List T}, ss = a ++ b → ∃ ys zs, xs = ys ++ zs ∧ TrV V a ys ∧ TrV V b zs := by
  induction h with
  | nil => intro a b e; obtain ⟨rfl, rfl⟩ : a = [] ∧ b = [] := by simpa using e.symm
           exact ⟨[], [], rfl, .nil, .nil⟩
  | @snoc ss os xs n ho h ih =>
    intro a b e
    rcases List.eq_nil_or_concat b with rfl | ⟨b', z, rfl⟩
    · simp at e; subst e
      exact ⟨xs ++ [n], [], by simp, .snoc n ho h, .nil⟩
    · rw [List.concat_eq_append, ← List.append_assoc] at e
      have e2 := List.append_inj' e rfl
      obtain ⟨e3, e4⟩ := e2
      simp at e4
      subst e3 e4
      obtain ⟨ys, zs, rfl, h1, h2⟩ := ih (a := a) (b := b' ++ os) (by simp)
      refine ⟨ys, zs ++ [n], by simp, h1, ?_⟩
      rw [List.concat_eq_append]
      exact .snoc n ho h2
theorem TrV.inv {s : T} {xs : List Nd} (h : TrV V [s] xs) : ∃ ys n os, xs = ys ++ [n] ∧ os.length = arity n.kind ∧ TrV V os ys ∧ s = V n os := by
  generalize hs : [s] = ss at h
  cases h with
  | nil => cases hs
  | @snoc ss os xs n ho h =>
    have e := List.append_inj' (s₁ := []) (t₁ := [s]) hs rfl
    obtain ⟨e1, e2⟩ := e
    subst e1
    simp at e2
    exact ⟨xs, n, os, rfl, ho, h, e2⟩
/-- The operands of a node, one by one. -/
inductive KidV : List T → List (List Nd) → Prop
  | nil : KidV [] []
  | cons {o : T} {os : List T} {k : List Nd} {ks : List (List Nd)} (h : TrV V [o] k) (t : KidV os ks) : KidV (o :: os) (k :: ks)
theorem TrV.kids : ∀ {os : List T} {ys : List Nd}, TrV V os ys → ∃ ks, ys = ks.flatten ∧ KidV V os ks
  | [], ys, h => by
    have := (TrV.tree V h).zero
    subst this
    exact ⟨[], rfl, .nil⟩
  | o :: os, ys, h => by
    obtain ⟨a, b, rfl, h1, h2⟩ := TrV.split V h (a := [o]) (b := os) rfl
    obtain ⟨ks, rfl, hk⟩ := TrV.kids h2
    exact ⟨a :: ks, rfl, .cons h1 hk⟩
theorem KidV.length {os : List T} {ks : List (List Nd)} (h : KidV V os ks) : os.length = ks.length := by
  induction h with
  | nil => rfl
  | cons _ _ ih => simp [ih]
theorem KidV.tree {os : List T} {ks : List (List Nd)} (h : KidV V os ks) : ∀ k ∈ ks, IsT 1 k := by
  induction h with
  | nil => intro k hk; cases hk
  | cons h1 _ ih =>
    intro k hk
    rcases List.mem_cons.1 hk with rfl | hk
    · exact h1.tree
    · exact ih k hk
theorem KidV.nth {os : List T} {ks : List (List Nd)} (h : KidV V os ks) : ∀ {j : Nat} {k : List Nd}, ks[j]? = some k → ∃ o, os[j]? = some o ∧ TrV V [o] k := by
  induction h with
  | nil => intro j k hk; simp at hk
  | cons h1 _ ih =>
    intro j k hk
    cases j with
    | zero => simp at hk; subst hk; exact ⟨_, rfl, h1⟩
    | succ j => simp at hk; simpa using ih hk
end

/-- One node alone, of a kind. -/
def isK (xs : List Nd) (k : Int) : Prop := ∃ n, xs = [n] ∧ n.kind = k
open Classical in
/-- The normal form of a node over those of its operands. -/
noncomputable def normOf (e : Nd) (ns : List (List Nd)) : List Nd :=
  match ns with
  | [a, b] =>
    if e.kind = 14 then
      if isK a 1 ∨ isK b 2 then b else if isK b 1 ∨ isK a 2 ∨ (isK a 3 ∧ isK b 3) then a else a ++ b ++ [e]
    else
      if isK a 2 then b else if isK b 2 ∨ isK a 1 ∨ a = b then a else a ++ b ++ [e]
  | [p, a, b] => if isK p 1 then a else if isK p 2 then b else if a = b then a else p ++ a ++ b ++ [e]
  | _ => [e]
theorem norm_mem {e : Nd} {ns : List (List Nd)} {x : Nd} (h : x ∈ normOf e ns) : x = e ∨ ∃ k ∈ ns, x ∈ k := by
  unfold normOf at h
  split at h
  · rename_i a b
    have fin : x ∈ a ++ b ++ [e] → x = e ∨ ∃ k ∈ [a, b], x ∈ k := fun q => by
      simp at q
      rcases q with q | q | q
      · exact .inr ⟨a, by simp, q⟩
      · exact .inr ⟨b, by simp, q⟩
      · exact .inl q
    split at h
    · split at h
      · exact .inr ⟨b, by simp, h⟩
      · split at h
        · exact .inr ⟨a, by simp, h⟩
        · exact fin h
    · split at h
      · exact .inr ⟨b, by simp, h⟩
      · split at h
        · exact .inr ⟨a, by simp, h⟩
        · exact fin h
  · rename_i p a b
    split at h
    · exact .inr ⟨a, by simp, h⟩
    · split at h
      · exact .inr ⟨b, by simp, h⟩
      · split at h
        · exact .inr ⟨a, by simp, h⟩
        · simp at h
          rcases h with q | q | q | q
          · exact .inr ⟨p, by simp, q⟩
          · exact .inr ⟨a, by simp, q⟩
          · exact .inr ⟨b, by simp, q⟩
          · exact .inl q
  · simp at h; exact .inl h
theorem norm_len {e : Nd} {ns : List (List Nd)} : (normOf e ns).length ≤ ns.flatten.length + 1 := by
  unfold normOf
  split
  · repeat' split
    all_goals simp
    all_goals omega
  · repeat' split
    all_goals simp
    all_goals omega
  · simp
/-- Nodes of a normal form are nodes of the filter. -/
theorem trv_mem : ∀ (n : Nat) {y : List Nd} {xs : List Nd}, xs.length ≤ n → TrV normOf [y] xs → (∀ x ∈ y, x ∈ xs) ∧ y.length ≤ xs.length
  | 0, y, xs, hn, h => by
    obtain ⟨ys, e, os, rfl, _⟩ := TrV.inv _ h
    simp at hn
  | n + 1, y, xs, hn, h => by
    obtain ⟨ys, e, os, rfl, _, h2, rfl⟩ := TrV.inv _ h
    obtain ⟨ks, rfl, hK⟩ := TrV.kids _ h2
    simp only [List.length_append, List.length_singleton] at hn
    have hk : ∀ (j : Nat) (o : List Nd), os[j]? = some o → ∃ k ∈ ks, (∀ x ∈ o, x ∈ k) ∧ o.length ≤ k.length := fun j o ho => by
      have hj := (List.getElem?_eq_some_iff.1 ho).1
      obtain ⟨k, hk⟩ : ∃ k, ks[j]? = some k := ⟨_, List.getElem?_eq_getElem (by have := KidV.length _ hK; omega)⟩
      obtain ⟨o', ho', ht⟩ := KidV.nth _ hK hk
      rw [ho] at ho'
      cases ho'
      have hm := List.mem_of_getElem? hk
      have := len_flat hm
      exact ⟨k, hm, trv_mem n (by omega) ht⟩
    refine ⟨fun x hx => ?_, ?_⟩
    · rcases norm_mem hx with rfl | ⟨o, ho, hxo⟩
      · simp
      · obtain ⟨j, hj⟩ := List.getElem?_of_mem ho
        obtain ⟨k, hm, h3, _⟩ := hk j o hj
        exact List.mem_append_left _ (List.mem_flatten.2 ⟨k, hm, h3 x hxo⟩)
    · have h4 : ∀ {os : List (List Nd)} {ks : List (List Nd)}, KidV normOf os ks → (∀ k ∈ ks, k.length ≤ n) → os.flatten.length ≤ ks.flatten.length := by
        intro os ks h
        induction h with
        | nil => intro _; simp
        | cons h1 t ih =>
          intro hb
          have h5 := (trv_mem n (hb _ (by simp)) h1).2
          have h6 := ih (fun k hk => hb k (by simp [hk]))
          simp only [List.flatten_cons, List.length_append]
          omega
      have h7 := h4 hK (fun k hk => by have := len_flat hk; omega)
      have h8 := norm_len (e := e) (ns := os)
      simp only [List.length_append, List.length_singleton]
      omega
/-- The normal form of a filter. -/
def NormF (xs y : List Nd) : Prop := TrV normOf [y] xs
theorem normF_one {xs y z : List Nd} (h : NormF xs y) (k : NormF xs z) : y = z := by
  have := TrV.one _ h k
  simpa using this
theorem normF_ex {xs : List Nd} (h : IsT 1 xs) : ∃ y, NormF xs y := by
  obtain ⟨ss, hl, hs⟩ := IsT.trv normOf h
  match ss, hl with
  | [y], _ => exact ⟨y, hs⟩
theorem baInj {a b : ByteArray} (h : a.toList = b.toList) : a = b := by
  rw [ByteArray.toList_eq, ByteArray.toList_eq] at h
  cases a with
  | mk a => cases b with
    | mk b =>
      simp only at h
      congr 1
      exact Array.toList_inj.1 h
/-- A node that has its kind alone. -/
def bareNd (k : Int) : Nd := ⟨k, ⟨#[]⟩, false, ⟨#[]⟩, 0, 0, 0⟩
theorem good_bare {e : Nd} (h : GoodN e) (hk : e.kind = 1 ∨ e.kind = 2 ∨ e.kind = 3 ∨ e.kind = 14 ∨ e.kind = 15 ∨ e.kind = 16) : e = bareNd e.kind := by
  have hE : (⟨#[]⟩ : ByteArray).toList = [] := by rw [ByteArray.toList_eq]
  obtain ⟨kind, s, hi, t, lo, up, n⟩ := e
  obtain ⟨_, _, _, h4⟩ := h
  simp only at hk h4
  have h5 : s.toList = [] ∧ hi = false ∧ t.toList = [] ∧ lo = 0 ∧ up = 0 ∧ n = 0 := by
    rcases h4 with ⟨q, _⟩ | ⟨q, _⟩ | ⟨q, _⟩ | ⟨q, _⟩ | ⟨_, q⟩
    · omega
    · omega
    · omega
    · omega
    · exact q
  obtain ⟨h1, rfl, h2, rfl, rfl, rfl⟩ := h5
  have e1 : s = ⟨#[]⟩ := baInj (by rw [h1, hE])
  have e2 : t = ⟨#[]⟩ := baInj (by rw [h2, hE])
  rw [e1, e2]
  rfl
theorem isK_good {xs : List Nd} {k : Int} (h : isK xs k) (hg : ∀ x ∈ xs, GoodN x) (hk : k = 1 ∨ k = 2 ∨ k = 3) : xs = [bareNd k] := by
  obtain ⟨n, rfl, rfl⟩ := h
  rw [good_bare (hg n (by simp)) (by omega)]
  rfl
end Go.Proofs.Ytkbmdkgfgfbilaa

/-
  Instructions of code in memory, eleven cells each: szIns, toIns, eqIns.
-/
namespace Go.Proofs.Ytkbmdkgfgfbilaa
open Go.ChangeShapes Go.WideShapes Go.ChangeAt Go.RowKit Go.Deep
set_option linter.unusedVariables false
set_option linter.unusedSimpArgs false
set_option maxRecDepth 100000

structure Ix where
  op : Int
  a : Int
  b : Int
  free : Bool
  leaf : Nd
structure Ix.ok (e : Ix) : Prop where
  op : (Lit.int .i64 e.op).wf = true
  a : (Lit.int .i64 e.a).wf = true
  b : (Lit.int .i64 e.b).wf = true
  leaf : e.leaf.ok
abbrev Ix.ten (e : Ix) : List Value := [.int .i64 e.op, .int .i64 e.a, .int .i64 e.b, .bool e.free, .int .i64 e.leaf.kind, .string e.leaf.s, .bool e.leaf.hi, .string e.leaf.t, .int .u64 e.leaf.lo, .int .u64 e.leaf.up, .int .i64 e.leaf.n]
abbrev Ix.v (e : Ix) : Value := .agg #[.int .i64 e.op, .int .i64 e.a, .int .i64 e.b, .bool e.free, .int .i64 e.leaf.kind, .string e.leaf.s, .bool e.leaf.hi, .string e.leaf.t, .int .u64 e.leaf.lo, .int .u64 e.leaf.up, .int .i64 e.leaf.n]
def zeroI : Ix := ⟨0, 0, 0, false, zeroN⟩
def cellsX (es : List Ix) : List Value := es.flatMap Ix.ten
theorem cellsX_cons (e : Ix) (es : List Ix) : cellsX (e :: es) = e.ten ++ cellsX es := by simp [cellsX]
theorem length_cellsX (es : List Ix) : (cellsX es).length = es.length * 11 := by
  induction es with
  | nil => rfl
  | cons e es ih => rw [cellsX_cons, List.length_append, ih]; simp; omega
theorem cellsX_get (es : List Ix) : ∀ (k : Nat) (e : Ix), es[k]? = some e → ∀ j, j < 11 → (cellsX es)[k * 11 + j]? = e.ten[j]? := by
  induction es with
  | nil => intro k e h; simp at h
  | cons f es ih =>
    intro k e h j hj
    rw [cellsX_cons]
    cases k with
    | zero =>
      simp at h; subst h
      rw [List.getElem?_append_left (by show 0 * 11 + j < 11; omega)]
      simp
    | succ k =>
      simp at h
      rw [List.getElem?_append_right (by show 11 ≤ (k + 1) * 11 + j; omega)]
      have : (k + 1) * 11 + j - f.ten.length = k * 11 + j := by show (k + 1) * 11 + j - 11 = _; omega
      rw [this]; exact ih k e h j hj
theorem cellsX_set (es : List Ix) : ∀ (k : Nat) (e e' : Ix) (u : Value) (j : Nat), es[k]? = some e → j < 11 → e'.ten = e.ten.set j u → (cellsX es).set (k * 11 + j) u = cellsX (es.set k e') := by
  induction es with
  | nil => intro k e e' u j h; simp at h
  | cons f es ih =>
    intro k e e' u j h hj hc
    rw [cellsX_cons]
    cases k with
    | zero =>
      simp at h; subst h
      rw [List.set_append_left _ _ (by show 0 * 11 + j < 11; omega), List.set_cons_zero, cellsX_cons, hc]
      simp
    | succ k =>
      simp at h
      rw [List.set_append_right _ _ (by show 11 ≤ (k + 1) * 11 + j; omega), List.set_cons_succ, cellsX_cons]
      have : (k + 1) * 11 + j - f.ten.length = k * 11 + j := by show (k + 1) * 11 + j - 11 = _; omega
      rw [this, ih k e e' u j h hj hc]

/-- The instructions 'es' lie at ⟨b, off⟩, eleven cells each. -/
def IxsAt (w : World) (b off : Nat) (es : List Ix) : Prop :=
  ∀ i e, es[i]? = some e → w.cell? ⟨b, off + i * 11, none⟩ = some (.int .i64 e.op) ∧ w.cell? ⟨b, off + i * 11 + 1, none⟩ = some (.int .i64 e.a) ∧ w.cell? ⟨b, off + i * 11 + 2, none⟩ = some (.int .i64 e.b) ∧ w.cell? ⟨b, off + i * 11 + 3, none⟩ = some (.bool e.free) ∧ w.cell? ⟨b, off + i * 11 + 4, none⟩ = some (.int .i64 e.leaf.kind) ∧ w.cell? ⟨b, off + i * 11 + 5, none⟩ = some (.string e.leaf.s) ∧ w.cell? ⟨b, off + i * 11 + 6, none⟩ = some (.bool e.leaf.hi) ∧ w.cell? ⟨b, off + i * 11 + 7, none⟩ = some (.string e.leaf.t) ∧ w.cell? ⟨b, off + i * 11 + 8, none⟩ = some (.int .u64 e.leaf.lo) ∧ w.cell? ⟨b, off + i * 11 + 9, none⟩ = some (.int .u64 e.leaf.up) ∧ w.cell? ⟨b, off + i * 11 + 10, none⟩ = some (.int .i64 e.leaf.n)
theorem IxsAt.below {B : Nat} {w w' : World} {b off : Nat} {es : List Ix} (h : IxsAt w b off es) (hb : Below B w w') (hlt : b < B) : IxsAt w' b off es := by
  intro i e he
  have := h i e he
  refine ⟨?_, ?_, ?_, ?_, ?_, ?_, ?_, ?_, ?_, ?_, ?_⟩
  all_goals rw [hb.cell (by exact hlt)]
  · exact this.1
  · exact this.2.1
  · exact this.2.2.1
  · exact this.2.2.2.1
  · exact this.2.2.2.2.1
  · exact this.2.2.2.2.2.1
  · exact this.2.2.2.2.2.2.1
  · exact this.2.2.2.2.2.2.2.1
  · exact this.2.2.2.2.2.2.2.2.1
  · exact this.2.2.2.2.2.2.2.2.2.1
  · exact this.2.2.2.2.2.2.2.2.2.2
theorem IxsAt.chg {S : Nat → Prop} {w w' : World} {b off : Nat} {es : List Ix} (h : IxsAt w b off es) (hb : Chg S w w') (hlt : b < w.heap.size) (hn : ¬ S b) : IxsAt w' b off es := by
  intro i e he
  have := h i e he
  refine ⟨?_, ?_, ?_, ?_, ?_, ?_, ?_, ?_, ?_, ?_, ?_⟩
  all_goals rw [hb.cell (by exact hlt) (by exact hn)]
  · exact this.1
  · exact this.2.1
  · exact this.2.2.1
  · exact this.2.2.2.1
  · exact this.2.2.2.2.1
  · exact this.2.2.2.2.2.1
  · exact this.2.2.2.2.2.2.1
  · exact this.2.2.2.2.2.2.2.1
  · exact this.2.2.2.2.2.2.2.2.1
  · exact this.2.2.2.2.2.2.2.2.2.1
  · exact this.2.2.2.2.2.2.2.2.2.2
/-- A row of the call's own holds the instructions 'es'. -/
def OwnX (w : World) (base g cap : Nat) (es : List Ix) : Prop := w.ownsRow base 77 11 (.slice (some ⟨g, 0, none⟩) es.length cap) es.length (cellsX es)
theorem OwnX.at {w : World} {base g cap : Nat} {es : List Ix} (h : OwnX w base g cap es) : IxsAt w g 0 es := by
  intro i e he
  have hi : i < es.length := (List.getElem?_eq_some_iff.1 he).1
  have c := fun j (hj : j < 11) => (World.ownsRow.cellAt h (i * 11 + j) (by omega)).trans (cellsX_get es i e he j hj)
  refine ⟨?_, ?_, ?_, ?_, ?_, ?_, ?_, ?_, ?_, ?_, ?_⟩
  · simpa using c 0 (by omega)
  · simpa using c 1 (by omega)
  · simpa using c 2 (by omega)
  · simpa using c 3 (by omega)
  · simpa using c 4 (by omega)
  · simpa using c 5 (by omega)
  · simpa using c 6 (by omega)
  · simpa using c 7 (by omega)
  · simpa using c 8 (by omega)
  · simpa using c 9 (by omega)
  · simpa using c 10 (by omega)
theorem OwnX.lt {w : World} {base g cap : Nat} {es : List Ix} (h : OwnX w base g cap es) : base ≤ g ∧ g < w.heap.size := World.ownsRow.lt h g rfl
theorem OwnX.below {B : Nat} {w w' : World} {base g cap : Nat} {es : List Ix} (h : OwnX w base g cap es) (hb : Below B w w') (hg : g < B) : OwnX w' base g cap es := by
  refine ⟨h.1, ?_⟩
  rcases h.2 with hn | ⟨g', cap', cur, hv, h1, h2, rest⟩
  · exact .inl hn
  · simp only [Value.slice.injEq, Option.some.injEq, Addr.mk.injEq, and_true, true_and] at hv
    obtain ⟨rfl, rfl⟩ := hv
    exact .inr ⟨g, cap, cur, rfl, h1, by rw [hb.block g hg]; exact h2, rest⟩
theorem OwnX.caps {w : World} {base g cp : Nat} {R : List Ix} (h : OwnX w base g cp R) : R.length ≤ cp ∧ cp ≤ maxLen := by
  rcases h.2 with ⟨h0, _⟩ | ⟨g', cap', cur, hv, _, _, hn, hcap, _, _⟩
  · cases h0
  · simp only [Value.slice.injEq, Option.some.injEq, Addr.mk.injEq, and_true, true_and] at hv
    obtain ⟨rfl, rfl⟩ := hv
    exact ⟨hn, hcap⟩
theorem OwnX.set {w : World} {base g cap : Nat} {es : List Ix} (h : OwnX w base g cap es) (k j : Nat) (e e' : Ix) (u : Value) (hk : es[k]? = some e) (hj : j < 11) (hc : e'.ten = e.ten.set j u) :
    OwnX (w.setCell ⟨g, k * 11 + j, none⟩ u) base g cap (es.set k e') := by
  have := (World.ownsRow.stored h (k * 11 + j) u).1
  rw [cellsX_set es k e e' u j hk hj hc] at this
  unfold OwnX
  rw [List.length_set]
  exact this
theorem Try.infoX : (Try.prog.info? 77).map (fun i => (i.zero, i.size, i.bytes)) = some (some (.agg #[.int .i64 0, .int .i64 0, .int .i64 0, .bool false, .int .i64 0, .string ⟨#[]⟩, .bool false, .string ⟨#[]⟩, .int .u64 0, .int .u64 0, .int .i64 0]), 11, 104) := by kernel_rfl
theorem OwnX.put {w : World} {base g cap : Nat} {es : List Ix} (h : OwnX w base g cap es) (k : Nat) (f e : Ix) (hk : es[k]? = some f) :
    OwnX (((((((((((w.setCell ⟨g, k * 11, none⟩ (.int .i64 e.op)).setCell ⟨g, k * 11 + 1, none⟩ (.int .i64 e.a)).setCell ⟨g, k * 11 + 2, none⟩ (.int .i64 e.b)).setCell ⟨g, k * 11 + 3, none⟩ (.bool e.free)).setCell ⟨g, k * 11 + 4, none⟩ (.int .i64 e.leaf.kind)).setCell ⟨g, k * 11 + 5, none⟩ (.string e.leaf.s)).setCell ⟨g, k * 11 + 6, none⟩ (.bool e.leaf.hi)).setCell ⟨g, k * 11 + 7, none⟩ (.string e.leaf.t)).setCell ⟨g, k * 11 + 8, none⟩ (.int .u64 e.leaf.lo)).setCell ⟨g, k * 11 + 9, none⟩ (.int .u64 e.leaf.up)).setCell ⟨g, k * 11 + 10, none⟩ (.int .i64 e.leaf.n)) base g cap (es.set k e) := by
  have hlt : k < es.length := (List.getElem?_eq_some_iff.1 hk).1
  have g1 := h.set k 0 f ({ f with op := e.op }) (.int .i64 e.op) hk (by omega) rfl
  have g2 := g1.set k 1 ({ f with op := e.op }) ({ f with op := e.op, a := e.a }) (.int .i64 e.a) (by simp [hlt]) (by omega) rfl
  have g3 := g2.set k 2 ({ f with op := e.op, a := e.a }) ({ f with op := e.op, a := e.a, b := e.b }) (.int .i64 e.b) (by simp [hlt]) (by omega) rfl
  have g4 := g3.set k 3 ({ f with op := e.op, a := e.a, b := e.b }) ({ f with op := e.op, a := e.a, b := e.b, free := e.free }) (.bool e.free) (by simp [hlt]) (by omega) rfl
  have g5 := g4.set k 4 ({ f with op := e.op, a := e.a, b := e.b, free := e.free }) ({ f with op := e.op, a := e.a, b := e.b, free := e.free, leaf := { f.leaf with kind := e.leaf.kind } }) (.int .i64 e.leaf.kind) (by simp [hlt]) (by omega) rfl
  have g6 := g5.set k 5 ({ f with op := e.op, a := e.a, b := e.b, free := e.free, leaf := { f.leaf with kind := e.leaf.kind } }) ({ f with op := e.op, a := e.a, b := e.b, free := e.free, leaf := { f.leaf with kind := e.leaf.kind, s := e.leaf.s } }) (.string e.leaf.s) (by simp [hlt]) (by omega) rfl
  have g7 := g6.set k 6 ({ f with op := e.op, a := e.a, b := e.b, free := e.free, leaf := { f.leaf with kind := e.leaf.kind, s := e.leaf.s } }) ({ f with op := e.op, a := e.a, b := e.b, free := e.free, leaf := { f.leaf with kind := e.leaf.kind, s := e.leaf.s, hi := e.leaf.hi } }) (.bool e.leaf.hi) (by simp [hlt]) (by omega) rfl
  have g8 := g7.set k 7 ({ f with op := e.op, a := e.a, b := e.b, free := e.free, leaf := { f.leaf with kind := e.leaf.kind, s := e.leaf.s, hi := e.leaf.hi } }) ({ f with op := e.op, a := e.a, b := e.b, free := e.free, leaf := { f.leaf with kind := e.leaf.kind, s := e.leaf.s, hi := e.leaf.hi, t := e.leaf.t } }) (.string e.leaf.t) (by simp [hlt]) (by omega) rfl
  have g9 := g8.set k 8 ({ f with op := e.op, a := e.a, b := e.b, free := e.free, leaf := { f.leaf with kind := e.leaf.kind, s := e.leaf.s, hi := e.leaf.hi, t := e.leaf.t } }) ({ f with op := e.op, a := e.a, b := e.b, free := e.free, leaf := { f.leaf with kind := e.leaf.kind, s := e.leaf.s, hi := e.leaf.hi, t := e.leaf.t, lo := e.leaf.lo } }) (.int .u64 e.leaf.lo) (by simp [hlt]) (by omega) rfl
  have g10 := g9.set k 9 ({ f with op := e.op, a := e.a, b := e.b, free := e.free, leaf := { f.leaf with kind := e.leaf.kind, s := e.leaf.s, hi := e.leaf.hi, t := e.leaf.t, lo := e.leaf.lo } }) ({ f with op := e.op, a := e.a, b := e.b, free := e.free, leaf := { f.leaf with kind := e.leaf.kind, s := e.leaf.s, hi := e.leaf.hi, t := e.leaf.t, lo := e.leaf.lo, up := e.leaf.up } }) (.int .u64 e.leaf.up) (by simp [hlt]) (by omega) rfl
  have g11 := g10.set k 10 ({ f with op := e.op, a := e.a, b := e.b, free := e.free, leaf := { f.leaf with kind := e.leaf.kind, s := e.leaf.s, hi := e.leaf.hi, t := e.leaf.t, lo := e.leaf.lo, up := e.leaf.up } }) e (.int .i64 e.leaf.n) (by simp [hlt]) (by omega) rfl
  simpa only [List.set_set, Nat.add_zero] using g11
theorem takeX_succ {es fs : List Ix} {k : Nat} {e : Ix} (h : fs.take k = es.take k) (hl : fs.length = es.length) (he : es[k]? = some e) : (fs.set k e).take (k + 1) = es.take (k + 1) := by
  have hlt : k < es.length := (List.getElem?_eq_some_iff.1 he).1
  rw [List.take_set, List.take_add_one, List.take_add_one (l := es), he, List.getElem?_eq_getElem (by omega), h]
  simp only [Option.toList]
  rw [List.set_append_right _ _ (by simp; omega)]
  simp
  rw [show k - min k es.length = 0 by omega]
  rfl

theorem below_put11 {B : Nat} {a w : World} (h : Below B a w) {g : Nat} (hg : B ≤ g) (o0 o1 o2 o3 o4 o5 o6 o7 o8 o9 o10 : Nat) (v0 v1 v2 v3 v4 v5 v6 v7 v8 v9 v10 : Value) :
    Below B a (((((((((((w.setCell ⟨g, o0, none⟩ v0).setCell ⟨g, o1, none⟩ v1).setCell ⟨g, o2, none⟩ v2).setCell ⟨g, o3, none⟩ v3).setCell ⟨g, o4, none⟩ v4).setCell ⟨g, o5, none⟩ v5).setCell ⟨g, o6, none⟩ v6).setCell ⟨g, o7, none⟩ v7).setCell ⟨g, o8, none⟩ v8).setCell ⟨g, o9, none⟩ v9).setCell ⟨g, o10, none⟩ v10) :=
  ((((((((((h.setCell hg _).setCell hg _).setCell hg _).setCell hg _).setCell hg _).setCell hg _).setCell hg _).setCell hg _).setCell hg _).setCell hg _).setCell hg _
set_option maxHeartbeats 1000000 in
theorem eqIns_same (e : Ix) (w : World) : Calls Try.prog 68 #[e.v, e.v] w fun r w' => r = .returned (.bool true) ∧ Below w.heap.size w w' := by
  have k0 : Below w.heap.size w ((w.alloc (Obj.cells #[.int .i64 e.op, .int .i64 e.a, .int .i64 e.b, .bool e.free, .int .i64 e.leaf.kind, .string e.leaf.s, .bool e.leaf.hi, .string e.leaf.t, .int .u64 e.leaf.lo, .int .u64 e.leaf.up, .int .i64 e.leaf.n] 77)).alloc (Obj.cells #[.int .i64 e.op, .int .i64 e.a, .int .i64 e.b, .bool e.free, .int .i64 e.leaf.kind, .string e.leaf.s, .bool e.leaf.hi, .string e.leaf.t, .int .u64 e.leaf.lo, .int .u64 e.leaf.up, .int .i64 e.leaf.n] 77)) := ((Below.refl _ _).alloc (Nat.le_refl _) _).alloc (by simp) _
  go_enter Try.func68, Try.ntmps68
  go_wp2_with fail
  refine (eqNode_same e.leaf _).mono ?_
  rintro r w1 ⟨rfl, hb1⟩
  go_wp2_with fail
  go_ret
  exact ⟨rfl, k0.trans (hb1.mono (by simp; omega))⟩
end Go.Proofs.Ytkbmdkgfgfbilaa

/-
  Filters as trees, and their code, without memory.
-/
namespace Go.Proofs.Ytkbmdkgfgfbilaa
open Go.ChangeShapes Go.WideShapes Go.ChangeAt Go.RowKit Go.Deep
set_option linter.unusedVariables false
set_option linter.unusedSimpArgs false
set_option maxRecDepth 100000

/-- A filter as a tree. -/
inductive CT where
  | leaf (n : Nd)
  | chain (n : Nd) (a b : CT)
  | inter (n : Nd) (a b : CT)
  | cond (n : Nd) (a b c : CT)
def ctV (n : Nd) : List CT → CT
  | [a, b] => if n.kind = 14 then .chain n a b else .inter n a b
  | [a, b, c] => .cond n a b c
  | _ => .leaf n
def TreeF (xs : List Nd) (t : CT) : Prop := TrV ctV [t] xs
/-- What a tree is, by its last node. -/
inductive Part : CT → List Nd → Prop
  | leaf (n : Nd) (h : arity n.kind = 0) : Part (.leaf n) [n]
  | chain (n : Nd) {a b : CT} {ka kb : List Nd} (h : n.kind = 14) (ha : TreeF ka a) (hb : TreeF kb b) : Part (.chain n a b) (ka ++ kb ++ [n])
  | inter (n : Nd) {a b : CT} {ka kb : List Nd} (h : n.kind = 15) (ha : TreeF ka a) (hb : TreeF kb b) : Part (.inter n a b) (ka ++ kb ++ [n])
  | cond (n : Nd) {a b c : CT} {ka kb kc : List Nd} (h : n.kind = 16) (ha : TreeF ka a) (hb : TreeF kb b) (hc : TreeF kc c) : Part (.cond n a b c) (ka ++ kb ++ kc ++ [n])
theorem kidV_one {T : Type} {V : Nd → List T → T} {os : List T} {ks : List (List Nd)} {j : Nat} {o : T} {k : List Nd} (h : KidV V os ks) (ho : os[j]? = some o) (hk : ks[j]? = some k) : TrV V [o] k := by
  obtain ⟨o', h1, h2⟩ := KidV.nth _ h hk
  rw [ho] at h1
  cases h1
  exact h2
theorem TreeF.part {xs : List Nd} {t : CT} (h : TreeF xs t) : Part t xs := by
  obtain ⟨ys, n, os, rfl, hl, hT, rfl⟩ := TrV.inv _ h
  obtain ⟨ks, rfl, hK⟩ := TrV.kids _ hT
  have hkl := hK.length
  by_cases h14 : n.kind = 14
  · have ha : arity n.kind = 2 := by unfold arity; rw [if_pos (.inl h14)]
    rw [ha] at hl
    match os, ks, hl, hkl, hK with
    | [a, b], [ka, kb], _, _, hK =>
      have e1 : ctV n [a, b] = .chain n a b := if_pos h14
      have e2 : [ka, kb].flatten ++ [n] = ka ++ kb ++ [n] := by simp
      rw [e1, e2]
      exact .chain n h14 (kidV_one hK (j := 0) rfl rfl) (kidV_one hK (j := 1) rfl rfl)
  · by_cases h15 : n.kind = 15
    · have ha : arity n.kind = 2 := by unfold arity; rw [if_pos (.inr h15)]
      rw [ha] at hl
      match os, ks, hl, hkl, hK with
      | [a, b], [ka, kb], _, _, hK =>
        have e1 : ctV n [a, b] = .inter n a b := if_neg h14
        have e2 : [ka, kb].flatten ++ [n] = ka ++ kb ++ [n] := by simp
        rw [e1, e2]
        exact .inter n h15 (kidV_one hK (j := 0) rfl rfl) (kidV_one hK (j := 1) rfl rfl)
    · by_cases h16 : n.kind = 16
      · have ha : arity n.kind = 3 := by unfold arity; rw [if_neg (by omega), if_pos h16]
        rw [ha] at hl
        match os, ks, hl, hkl, hK with
        | [a, b, c], [ka, kb, kc], _, _, hK =>
          have e2 : [ka, kb, kc].flatten ++ [n] = ka ++ kb ++ kc ++ [n] := by simp
          rw [e2]
          exact .cond n h16 (kidV_one hK (j := 0) rfl rfl) (kidV_one hK (j := 1) rfl rfl) (kidV_one hK (j := 2) rfl rfl)
      · have ha : arity n.kind = 0 := by unfold arity; rw [if_neg (by omega), if_neg h16]
        have hos : os = [] := List.length_eq_zero_iff.1 (by omega)
        have hks : ks = [] := List.length_eq_zero_iff.1 (by omega)
        subst hos; subst hks
        exact .leaf n ha
theorem treeF_one {xs : List Nd} {t u : CT} (h : TreeF xs t) (k : TreeF xs u) : t = u := by
  have := TrV.one _ h k
  exact (List.cons.inj this).1
theorem treeF_ex {xs : List Nd} (h : IsT 1 xs) : ∃ t, TreeF xs t := by
  obtain ⟨ss, hl, hs⟩ := IsT.trv ctV h
  match ss, hl, hs with
  | [t], _, hs => exact ⟨t, hs⟩

/-- How many ifs. -/
def CT.ifs : CT → Nat
  | .leaf _ => 0
  | .chain _ a b => a.ifs + b.ifs
  | .inter _ a b => a.ifs + b.ifs
  | .cond _ a b c => a.ifs + 1 + b.ifs + c.ifs
def isCnt (k : Int) : Bool := decide (k = 11 ∨ k = 12 ∨ k = 13)
/-- Whether a counter stands in what the cells go through. -/
def CT.passes : CT → Bool
  | .leaf n => isCnt n.kind
  | .chain _ a b => a.passes || b.passes
  | .inter _ a b => a.passes || b.passes
  | .cond _ _ b c => b.passes || c.passes
def opI (op : Int) : Ix := ⟨op, 0, 0, false, zeroN⟩
/-- The code of a tree; targets are distances; 'f' is the number of its first if. -/
def CT.gen : CT → Bool → Nat → List Ix
  | .leaf n, s, _ => [⟨1, 0, 0, !s, n⟩]
  | .chain _ a b, s, f => a.gen s f ++ b.gen (s || a.passes) (f + a.ifs)
  | .inter _ a b, s, f => [opI 2] ++ a.gen s f ++ [opI 3] ++ b.gen s (f + a.ifs) ++ [opI 4]
  | .cond _ a b c, s, f => [⟨5, ((f + a.ifs : Nat) : Int), ((b.gen s (f + a.ifs + 1)).length : Int) + 2, false, zeroN⟩] ++ b.gen s (f + a.ifs + 1) ++ [⟨6, 0, ((c.gen s (f + a.ifs + 1 + b.ifs)).length : Int) + 1, false, zeroN⟩] ++ c.gen s (f + a.ifs + 1 + b.ifs)
def cntI (x : Ix) : Nat := if x.op = 1 ∧ isCnt x.leaf.kind = true then 1 else 0
def fixI (k c : Nat) (x : Ix) : Ix := ⟨x.op, if x.op = 1 ∧ isCnt x.leaf.kind = true then (c : Int) else x.a, if x.op = 5 ∨ x.op = 6 then x.b + (k : Int) else x.b, x.free, x.leaf⟩
/-- Instructions at their places: targets and counters have their numbers. -/
def absG : Nat → Nat → List Ix → List Ix
  | _, _, [] => []
  | k, c, x :: r => fixI k c x :: absG (k + 1) (c + cntI x) r
def cntL : List Ix → Nat
  | [] => 0
  | x :: r => cntI x + cntL r
theorem cntL_append (l m : List Ix) : cntL (l ++ m) = cntL l + cntL m := by
  induction l with
  | nil => simp [cntL]
  | cons x r ih => simp only [List.cons_append, cntL, ih]; omega
theorem absG_length : ∀ (k c : Nat) (l : List Ix), (absG k c l).length = l.length
  | _, _, [] => rfl
  | k, c, x :: r => by simp only [absG, List.length_cons, absG_length]
theorem absG_append : ∀ (k c : Nat) (l m : List Ix), absG k c (l ++ m) = absG k c l ++ absG (k + l.length) (c + cntL l) m
  | k, c, [], m => by simp [absG, cntL]
  | k, c, x :: r, m => by
    simp only [List.cons_append, absG, absG_append (k + 1) (c + cntI x) r m, List.length_cons, cntL]
    rw [show k + 1 + r.length = k + (r.length + 1) by omega, Nat.add_assoc c (cntI x) (cntL r)]
/-- The blocks of the ifs, in order, with distances. -/
def CT.conds : CT → List Ix → Bool → Nat → List (List Ix)
  | .leaf _, _, _, _ => []
  | .chain _ a b, l, s, f => a.conds l s f ++ b.conds (l ++ a.gen s f) (s || a.passes) (f + a.ifs)
  | .inter _ a b, l, s, f => a.conds l s f ++ b.conds l s (f + a.ifs)
  | .cond _ a b c, l, s, f => a.conds l s f ++ [l ++ a.gen s f] ++ b.conds l s (f + a.ifs + 1) ++ c.conds l s (f + a.ifs + 1 + b.ifs)
theorem conds_len (t : CT) : ∀ (l : List Ix) (s : Bool) (f : Nat), (t.conds l s f).length = t.ifs := by
  induction t with
  | leaf n => intro l s f; rfl
  | chain n a b ha hb => intro l s f; simp only [CT.conds, CT.ifs, List.length_append, ha, hb]
  | inter n a b ha hb => intro l s f; simp only [CT.conds, CT.ifs, List.length_append, ha, hb]
  | cond n a b c ha hb hc => intro l s f; simp only [CT.conds, CT.ifs, List.length_append, List.length_singleton, ha, hb, hc]
def CT.size : CT → Nat
  | .leaf _ => 1
  | .chain _ a b => a.size + b.size + 1
  | .inter _ a b => a.size + b.size + 1
  | .cond _ a b c => a.size + b.size + c.size + 1
theorem gen_len (t : CT) : ∀ (s : Bool) (f : Nat), (t.gen s f).length + 2 ≤ 3 * t.size := by
  induction t with
  | leaf n => intro s f; simp [CT.gen, CT.size]
  | chain n a b ha hb => intro s f; have h1 := ha s f; have h2 := hb (s || a.passes) (f + a.ifs); simp only [CT.gen, CT.size, List.length_append]; omega
  | inter n a b ha hb => intro s f; have h1 := ha s f; have h2 := hb s (f + a.ifs); simp only [CT.gen, CT.size, List.length_append, List.length_singleton]; omega
  | cond n a b c ha hb hc => intro s f; have h1 := hb s (f + a.ifs + 1); have h2 := hc s (f + a.ifs + 1 + b.ifs); simp only [CT.gen, CT.size, List.length_append, List.length_singleton]; omega
theorem cntL_gen (t : CT) : ∀ (s : Bool) (f : Nat), cntL (t.gen s f) ≤ t.size := by
  induction t with
  | leaf n => intro s f; simp only [CT.gen, CT.size, cntL, cntI]; split <;> omega
  | chain n a b ha hb => intro s f; have h1 := ha s f; have h2 := hb (s || a.passes) (f + a.ifs); simp only [CT.gen, CT.size, cntL_append]; omega
  | inter n a b ha hb =>
    intro s f
    have h1 := ha s f
    have h2 := hb s (f + a.ifs)
    have e : ∀ o : Int, o ≠ 1 → cntL [opI o] = 0 := fun o ho => by simp [cntL, cntI, opI, ho]
    simp only [CT.gen, CT.size, cntL_append, e 2 (by decide), e 3 (by decide), e 4 (by decide)]; omega
  | cond n a b c ha hb hc =>
    intro s f
    have h1 := hb s (f + a.ifs + 1)
    have h2 := hc s (f + a.ifs + 1 + b.ifs)
    simp only [CT.gen, CT.size, cntL_append]
    simp [cntL, cntI]
    omega
theorem conds_bound (t : CT) : ∀ (l : List Ix) (s : Bool) (f : Nat), ∀ x ∈ t.conds l s f, x.length ≤ l.length + 3 * t.size := by
  induction t with
  | leaf n => intro l s f x hx; simp [CT.conds] at hx
  | chain n a b ha hb =>
    intro l s f x hx
    simp only [CT.conds, List.mem_append] at hx
    have hg := gen_len a s f
    simp only [CT.size]
    rcases hx with hx | hx
    · have := ha _ _ _ x hx; omega
    · have := hb _ _ _ x hx; simp only [List.length_append] at this; omega
  | inter n a b ha hb =>
    intro l s f x hx
    simp only [CT.conds, List.mem_append] at hx
    simp only [CT.size]
    rcases hx with hx | hx
    · have := ha _ _ _ x hx; omega
    · have := hb _ _ _ x hx; omega
  | cond n a b c ha hb hc =>
    intro l s f x hx
    simp only [CT.conds, List.mem_append, List.mem_singleton] at hx
    have hg := gen_len a s f
    simp only [CT.size]
    rcases hx with ((hx | hx) | hx) | hx
    · have := ha _ _ _ x hx; omega
    · subst hx; simp only [List.length_append]; omega
    · have := hb _ _ _ x hx; omega
    · have := hc _ _ _ x hx; omega
theorem part_size (n : Nat) : ∀ {t : CT} {xs : List Nd}, xs.length ≤ n → TreeF xs t → t.size = xs.length := by
  induction n with
  | zero => intro t xs hl h; have := h.part; cases this <;> simp at hl
  | succ n ih =>
    intro t xs hl h
    cases h.part with
    | leaf n h => rfl
    | chain n h ha hb => simp only [List.length_append, List.length_singleton] at hl ⊢; simp only [CT.size, ih (by omega) ha, ih (by omega) hb]
    | inter n h ha hb => simp only [List.length_append, List.length_singleton] at hl ⊢; simp only [CT.size, ih (by omega) ha, ih (by omega) hb]
    | cond n h ha hb hc => simp only [List.length_append, List.length_singleton] at hl ⊢; simp only [CT.size, ih (by omega) ha, ih (by omega) hb, ih (by omega) hc]
theorem TreeF.size {xs : List Nd} {t : CT} (h : TreeF xs t) : t.size = xs.length := part_size _ (Nat.le_refl _) h
def ifsL (xs : List Nd) : Nat := (xs.filter (fun e => decide (e.kind = 16))).length
theorem part_ifs (n : Nat) : ∀ {t : CT} {xs : List Nd}, xs.length ≤ n → TreeF xs t → ifsL xs = t.ifs := by
  have hadd : ∀ a b : List Nd, ifsL (a ++ b) = ifsL a + ifsL b := fun a b => by simp [ifsL]
  have hone : ∀ e : Nd, ¬ e.kind = 16 → ifsL [e] = 0 := fun e he => by simp [ifsL, he]
  have htwo : ∀ e : Nd, e.kind = 16 → ifsL [e] = 1 := fun e he => by simp [ifsL, he]
  induction n with
  | zero => intro t xs hl h; have := h.part; cases this <;> simp at hl
  | succ n ih =>
    intro t xs hl h
    cases h.part with
    | leaf n hk => exact hone n (fun q => by rw [q] at hk; simp [arity] at hk)
    | chain n hk ha hb => simp only [List.length_append, List.length_singleton] at hl; rw [hadd, hadd, hone n (by omega), ih (by omega) ha, ih (by omega) hb]; rfl
    | inter n hk ha hb => simp only [List.length_append, List.length_singleton] at hl; rw [hadd, hadd, hone n (by omega), ih (by omega) ha, ih (by omega) hb]; rfl
    | cond n hk ha hb hc => simp only [List.length_append, List.length_singleton] at hl; rw [hadd, hadd, hadd, htwo n hk, ih (by omega) ha, ih (by omega) hb, ih (by omega) hc]; simp only [CT.ifs]; omega
theorem TreeF.ifs {xs : List Nd} {t : CT} (h : TreeF xs t) : ifsL xs = t.ifs := part_ifs _ (Nat.le_refl _) h
end Go.Proofs.Ytkbmdkgfgfbilaa

/-
  spec's l6Counts, l6HasCounter, l6Ifs, l6One, l6Passes.
-/
namespace Go.Proofs.Ytkbmdkgfgfbilaa
open Go.ChangeShapes Go.WideShapes Go.ChangeAt Go.RowKit Go.Deep
set_option linter.unusedVariables false
set_option linter.unusedSimpArgs false
set_option maxRecDepth 100000

set_option maxHeartbeats 1000000 in
theorem counts_any (e : Nd) (w : World) : Calls Try.prog 43 #[e.v] w fun r w' => r = .returned (.bool (isCnt e.kind)) ∧ Below w.heap.size w w' := by
  go_enter Try.func43, Try.ntmps43
  go_wp2_with fail
  all_goals go_ret
  all_goals exact ⟨by (have e0 : isCnt e.kind = (e.kind == 11 || e.kind == 12 || e.kind == 13) := by simp only [isCnt, Bool.decide_or, Bool.or_assoc]; rfl); rw [e0]; simp_all, (Below.refl _ _).alloc (Nat.le_refl _) _⟩
theorem counts_on (W0 : World) (e : Nd) (w : World) (hb : Below W0.heap.size W0 w) : Calls Try.prog 43 #[e.v] w fun r w' => r = .returned (.bool (isCnt e.kind)) ∧ Below W0.heap.size W0 w' := by
  refine (counts_any e w).mono ?_
  rintro r w' ⟨h1, h2⟩
  exact ⟨h1, hb.trans (h2.mono hb.size)⟩
set_option maxHeartbeats 2000000 in
theorem hasCnt_one {w : World} {b o cap : Nat} {e : Nd} (h : Win w b o cap [e]) : Calls Try.prog 63 #[.slice (some ⟨b, o, none⟩) 1 cap] w fun r w' => r = .returned (.bool (isCnt e.kind)) ∧ Below w.heap.size w w' := by
  have HW : Hid (Win w b o cap [e]) := h
  have hcap := h.cap
  have hlen : 1 ≤ cap := h.len
  have hbl := h.lt
  clear h
  go_enter Try.func63, Try.ntmps63
  go_wp2_with fail
  go_loopw [3] (fun i wr => ∃ (k : Nat), k ≤ 1 ∧ i = .int .i64 k ∧ (k = 1 → isCnt e.kind = false) ∧ Below w.heap.size w wr) (fun i _ => 1 - (intOf i).toNat)
  case atStart => exact ⟨0, Nat.zero_le _, rfl, fun q => by omega, Below.refl _ _⟩
  case round =>
    obtain ⟨k, hk, rfl, hK, hbr⟩ := hrel
    by_cases hlt : k < 1
    · obtain rfl : k = 0 := by omega
      clear hK hk hlt
      obtain ⟨d0, d1, d2, d3, d4, d5, d6⟩ := (HW.out.at_.below hbr hbl) 0 e rfl
      simp only [Nat.zero_mul, Nat.add_zero] at d0 d1 d2 d3 d4 d5 d6
      go_wp2_with fail
      refine (counts_any e wr).mono ?_
      rintro r w' ⟨rfl, hb'⟩
      have hb2 : Below w.heap.size w w' := hbr.trans (hb'.mono hbr.size)
      clear d0 d1 d2 d3 d4 d5 d6
      obtain ⟨c, hc⟩ : ∃ c, c = isCnt e.kind := ⟨_, rfl⟩
      rw [← hc]
      have HC : Hid (c = isCnt e.kind) := hc
      clear hc
      cases c
      case true =>
        go_wp2_with fail
        go_ret
        exact ⟨by rw [← HC.out]; rfl, hb2⟩
      case false =>
        go_wp2_with fail
        go_roundw
        case rel => exact ⟨1, Nat.le_refl _, by go_num, fun _ => HC.out.symm, hb2⟩
        case measure => simp [intOf]
    · obtain rfl : k = 1 := by omega
      have hC := hK rfl
      have HC : Hid (isCnt e.kind = false) := hC
      clear hK hC
      go_wp2_with fail
      go_ret
      exact ⟨by rw [HC.out]; rfl, hbr⟩
theorem ifsL_take {xs : List Nd} {i : Nat} {e : Nd} (h : xs[i]? = some e) : ifsL (xs.take (i + 1)) = ifsL (xs.take i) + (if e.kind = 16 then 1 else 0) := by
  rw [List.take_add_one, h]
  simp only [ifsL, List.filter_append, List.length_append, Option.toList_some]
  by_cases hk : e.kind = 16 <;> simp [hk]
theorem ifsL_le (xs : List Nd) : ifsL xs ≤ xs.length := List.length_filter_le _ _
set_option maxHeartbeats 2000000 in
theorem l6Ifs_core {w : World} {b o cap : Nat} {xs : List Nd} (h : Win w b o cap xs) (hl : xs.length ≤ 200) : Calls Try.prog 41 #[.slice (some ⟨b, o, none⟩) xs.length cap] w fun r w' => r = .returned (.int .i64 (ifsL xs : Nat)) ∧ w' = w := by
  have HW : Hid (Win w b o cap xs) := h
  have hcap := h.cap
  have hlen := h.len
  have hbl := h.lt
  obtain ⟨m, hm⟩ : ∃ m, m = xs.length := ⟨_, rfl⟩
  rw [← hm] at hl hlen ⊢
  have HM : Hid (m = xs.length) := hm
  clear h hm
  go_enter Try.func41, Try.ntmps41
  go_wp2_with fail
  go_loopw [3, 4] (fun n i wr => ∃ (k : Nat), k ≤ m ∧ i = .int .i64 k ∧ n = .int .i64 (ifsL (xs.take k) : Nat) ∧ wr = w) (fun _ i _ => m - (intOf i).toNat)
  case atStart => exact ⟨0, Nat.zero_le _, rfl, rfl, rfl⟩
  case round =>
    obtain ⟨k, hk, rfl, rfl, rfl⟩ := hrel
    by_cases hlt : k < m
    · obtain ⟨e, he⟩ : ∃ e, xs[k]? = some e := ⟨_, List.getElem?_eq_getElem (by have := HM.out; omega)⟩
      have hkd := HW.out.kind he
      have hi1 := ifsL_take he
      have hi2 := ifsL_le (xs.take (k + 1))
      rw [List.length_take] at hi2
      have HI : Hid (ifsL (xs.take (k + 1)) = ifsL (xs.take k) + (if e.kind = 16 then 1 else 0)) := hi1
      obtain ⟨q, hq⟩ : ∃ q, q = ifsL (xs.take k) := ⟨_, rfl⟩
      have HQ : Hid (q = ifsL (xs.take k)) := hq
      have hq2 : q ≤ 200 := by rw [hq]; have := ifsL_le (xs.take k); rw [List.length_take] at this; omega
      rw [← hq]
      have zi : (k : Int) < (m : Int) := by omega
      clear hi1 hi2 hq he
      by_cases h16 : e.kind = 16
      · skip
        go_wp2_with fail
        go_roundw
        case rel => exact ⟨k + 1, by omega, by go_num, by have := HI.out; rw [if_pos h16] at this; rw [this, ← HQ.out]; go_num, by trivial⟩
        case measure => simp [intOf]; omega
      · have z16 : (e.kind == 16) = false := by rw [beq_eq_false_iff_ne]; exact h16
        go_wp2_with fail
        go_roundw
        case rel => exact ⟨k + 1, by omega, by go_num, by have := HI.out; rw [if_neg h16] at this; rw [this, ← HQ.out]; rfl, by trivial⟩
        case measure => simp [intOf]; omega
    · obtain rfl : k = m := by omega
      go_wp2_with fail
      go_ret
      exact ⟨by rw [List.take_of_length_le (by rw [HM.out]; exact Nat.le_refl _)]; rfl, rfl⟩
theorem ownX_one (w : World) (x : Ix) : OwnX (w.alloc (Obj.cells #[.int .i64 x.op, .int .i64 x.a, .int .i64 x.b, .bool x.free, .int .i64 x.leaf.kind, .string x.leaf.s, .bool x.leaf.hi, .string x.leaf.t, .int .u64 x.leaf.lo, .int .u64 x.leaf.up, .int .i64 x.leaf.n] 77)) w.heap.size w.heap.size 1 [x] :=
  World.ownsRow_lit w #[.int .i64 x.op, .int .i64 x.a, .int .i64 x.b, .bool x.free, .int .i64 x.leaf.kind, .string x.leaf.s, .bool x.leaf.hi, .string x.leaf.t, .int .u64 x.leaf.lo, .int .u64 x.leaf.up, .int .i64 x.leaf.n] 1 (Nat.le_refl _) (by decide) rfl
/-- Instructions handed back. -/
def GeP (X : List Ix) (w : World) (r : Ending) (w' : World) : Prop := ∃ g cp, r = .returned (.slice (some ⟨g, 0, none⟩) X.length cp) ∧ OwnX w' w.heap.size g cp X ∧ Below w.heap.size w w'
set_option maxHeartbeats 1000000 in
theorem l6One_core (op : Int) (w : World) : Calls Try.prog 44 #[.int .i64 op] w (GeP [opI op] w) := by
  have HG : Hid (GeP [opI op] w (.returned (.slice (some ⟨w.heap.size, 0, none⟩) 1 1)) (w.alloc (Obj.cells #[.int .i64 op, .int .i64 0, .int .i64 0, .bool false, .int .i64 0, .string ⟨#[]⟩, .bool false, .string ⟨#[]⟩, .int .u64 0, .int .u64 0, .int .i64 0] 77))) :=
    ⟨w.heap.size, 1, rfl, ownX_one w (opI op), (Below.refl _ _).alloc (Nat.le_refl _) _⟩
  go_enter Try.func44, Try.ntmps44
  go_wp2_with fail
  go_ret
  exact HG.out
end Go.Proofs.Ytkbmdkgfgfbilaa

/-
  spec.l6Passes.
-/
namespace Go.Proofs.Ytkbmdkgfgfbilaa
open Go.ChangeShapes Go.WideShapes Go.ChangeAt Go.RowKit Go.Deep
set_option linter.unusedVariables false
set_option linter.unusedSimpArgs false
set_option maxRecDepth 100000

/-- The operands of a tree, as the list that spec.l5Kids hands out. -/
inductive Knd : CT → List (List Nd) → Nd → Prop
  | leaf (n : Nd) (h : arity n.kind = 0) : Knd (.leaf n) [] n
  | chain (n : Nd) {a b : CT} {ka kb : List Nd} (h : n.kind = 14) (ha : TreeF ka a) (hb : TreeF kb b) : Knd (.chain n a b) [ka, kb] n
  | inter (n : Nd) {a b : CT} {ka kb : List Nd} (h : n.kind = 15) (ha : TreeF ka a) (hb : TreeF kb b) : Knd (.inter n a b) [ka, kb] n
  | cond (n : Nd) {a b c : CT} {ka kb kc : List Nd} (h : n.kind = 16) (ha : TreeF ka a) (hb : TreeF kb b) (hc : TreeF kc c) : Knd (.cond n a b c) [ka, kb, kc] n
theorem TreeF.knd {xs : List Nd} {t : CT} (h : TreeF xs t) : ∃ ks n, xs = ks.flatten ++ [n] ∧ Knd t ks n ∧ ks.length = arity n.kind ∧ ∀ k ∈ ks, IsT 1 k := by
  have e2 : ∀ ka kb : List Nd, ∀ n : Nd, ka ++ kb ++ [n] = [ka, kb].flatten ++ [n] := fun ka kb n => by simp
  have e3 : ∀ ka kb kc : List Nd, ∀ n : Nd, ka ++ kb ++ kc ++ [n] = [ka, kb, kc].flatten ++ [n] := fun ka kb kc n => by simp
  have tr : ∀ {k : List Nd} {a : CT}, TreeF k a → IsT 1 k := fun q => TrV.tree _ q
  cases h.part with
  | leaf n hk => exact ⟨[], n, rfl, .leaf n hk, hk.symm, fun k hk => by cases hk⟩
  | chain n hk ha hb => exact ⟨[_, _], n, e2 _ _ _, .chain n hk ha hb, by simp [arity, hk], fun k hm => by rcases List.mem_cons.1 hm with rfl | hm; exact tr ha; rcases List.mem_cons.1 hm with rfl | hm; exact tr hb; cases hm⟩
  | inter n hk ha hb => exact ⟨[_, _], n, e2 _ _ _, .inter n hk ha hb, by simp [arity, hk], fun k hm => by rcases List.mem_cons.1 hm with rfl | hm; exact tr ha; rcases List.mem_cons.1 hm with rfl | hm; exact tr hb; cases hm⟩
  | cond n hk ha hb hc => exact ⟨[_, _, _], n, e3 _ _ _ _, .cond n hk ha hb hc, by simp [arity, hk], fun k hm => by rcases List.mem_cons.1 hm with rfl | hm; exact tr ha; rcases List.mem_cons.1 hm with rfl | hm; exact tr hb; rcases List.mem_cons.1 hm with rfl | hm; exact tr hc; cases hm⟩
def PaP (t : CT) (w : World) (r : Ending) (w' : World) : Prop := r = .returned (.bool t.passes) ∧ Below w.heap.size w w'
def PaC (n : Nat) : Prop := ∀ (w : World) (b o cap : Nat) (xs : List Nd) (t : CT), xs.length ≤ n → xs.length ≤ 200 → Win w b o cap xs → TreeF xs t → Calls Try.prog 40 #[.slice (some ⟨b, o, none⟩) xs.length cap] w (PaP t w)
/-- A call of l6Passes in a later world. -/
theorem pass_on {n : Nat} (H : PaC n) {w : World} {b o cap : Nat} {xs : List Nd} {t : CT} (hn : xs.length ≤ n) (h2 : xs.length ≤ 200) (hW : Win w b o cap xs) (hT : TreeF xs t) : ∀ wx, Below w.heap.size w wx → Calls Try.prog 40 #[.slice (some ⟨b, o, none⟩) xs.length cap] wx (PaP t wx) := fun wx hx => H wx b o cap xs t hn h2 (hW.below hx) hT
set_option maxHeartbeats 8000000 in
theorem pass_of {n : Nat} (H : PaC n) : PaC (n + 1) := by
  intro w b o cap xs t hn hn2 hW hT
  obtain ⟨ks, e, rfl, hK, hal, hIs⟩ := hT.knd
  simp only [List.length_append, List.length_singleton] at hn hn2
  obtain ⟨m, hm⟩ : ∃ m, m = ks.flatten.length := ⟨_, rfl⟩
  have HT : Hid (∀ wx, Below w.heap.size w wx → Calls Try.prog 38 #[.slice (some ⟨b, o, none⟩) (m + 1) cap] wx fun r w' => r = .returned (.int .i64 e.kind) ∧ w' = wx) := fun wx hx => by
    rw [hm]; exact l5Top_core (hW.below hx)
  obtain ⟨a3, ha3⟩ : ∃ a3, a3 = ks.length := ⟨_, rfl⟩
  have HKs : Hid (Calls Try.prog 37 #[.slice (some ⟨b, o, none⟩) (m + 1) cap] w fun r w' => ∃ g cp, r = .returned (.slice (some ⟨g, 0, none⟩) a3 cp) ∧ OwnV w' w.heap.size g cp (kidVs b o cap ks) ∧ Below w.heap.size w w') := by
    rw [ha3, hm]; exact l5Kids_core hW hal hIs
  have HN : Hid (∀ {j : Nat} {k : List Nd} {u : CT}, ks[j]? = some k → TreeF k u → ∃ o' cap', (kidVs b o cap ks)[j]? = some (.slice (some ⟨b, o', none⟩) k.length cap') ∧ ∀ wx, Below w.heap.size w wx → Calls Try.prog 40 #[.slice (some ⟨b, o', none⟩) k.length cap'] wx (PaP u wx)) := by
    intro j k u hk hu
    obtain ⟨o', cap', hv, hWk⟩ := kidVs_nth hW hk
    have hkl := len_flat (List.mem_of_getElem? hk)
    exact ⟨o', cap', hv, pass_on H (by omega) (by omega) hWk hu⟩
  have HW : Hid (Win w b o cap (ks.flatten ++ [e])) := hW
  rw [List.length_append, List.length_singleton, ← hm]
  have HM : Hid (a3 = ks.length ∧ m = ks.flatten.length) := ⟨ha3, hm⟩
  clear hW hT hIs H hal hn hn2 hm ha3
  go_enter Try.func40, Try.ntmps40
  go_wp2_with fail
  refine HKs.out.mono ?_
  rintro r w1 ⟨kg, kc, rfl, hO, hb1⟩
  have s1 := hb1.size
  have HO : Hid (OwnV w1 w.heap.size kg kc (kidVs b o cap ks)) := hO
  have hkc := hO.caps
  rw [kidVs_len, ← HM.out.1] at hkc
  have hkl := hO.lt
  clear hO HKs
  go_wp2_with fail
  refine (HT.out w1 hb1).mono ?_
  rintro r w1' ⟨rfl, hw1⟩
  rw [hw1]
  clear hw1
  cases hK with
  | leaf _ hk =>
    have h16 : ¬ e.kind = 16 := fun q => by rw [q] at hk; simp [arity] at hk
    have z16 : (e.kind == 16) = false := by rw [beq_eq_false_iff_ne]; exact h16
    obtain rfl : a3 = 0 := HM.out.1
    obtain rfl : m = 0 := HM.out.2
    have HC : Hid (Calls Try.prog 63 #[.slice (some ⟨b, o, none⟩) (0 + 1) cap] w1 fun r w' => r = .returned (.bool (isCnt e.kind)) ∧ Below w1.heap.size w1 w') := hasCnt_one (HW.out.below hb1)
    go_wp2_with fail
    refine HC.out.mono ?_
    rintro r w2 ⟨rfl, hb2⟩
    have HR : Hid (PaP (.leaf e) w (.returned (.bool (isCnt e.kind))) w2) := ⟨rfl, hb1.trans (hb2.mono s1)⟩
    go_wp2_with fail
    go_ret
    exact HR.out
  | @chain _ x y ka kb h14 hx hy =>
    have z16 : (e.kind == 16) = false := by rw [beq_eq_false_iff_ne]; omega
    obtain rfl : a3 = 2 := HM.out.1
    obtain ⟨o1, c1, hv1, hc1⟩ := HN.out (j := 0) rfl hx
    obtain ⟨o2, c2, hv2, hc2⟩ := HN.out (j := 1) rfl hy
    have q0 := HO.out.cell hv1
    obtain ⟨l1, hl1⟩ : ∃ l1, l1 = ka.length := ⟨_, rfl⟩
    obtain ⟨l2, hl2⟩ : ∃ l2, l2 = kb.length := ⟨_, rfl⟩
    rw [← hl1] at q0 hc1
    rw [← hl2] at hv2 hc2
    have HC : Hid ((∀ wx, Below w.heap.size w wx → Calls Try.prog 40 #[.slice (some ⟨b, o1, none⟩) l1 c1] wx (PaP x wx)) ∧ (∀ wx, Below w.heap.size w wx → Calls Try.prog 40 #[.slice (some ⟨b, o2, none⟩) l2 c2] wx (PaP y wx)) ∧ (kidVs b o cap [ka, kb])[1]? = some (.slice (some ⟨b, o2, none⟩) l2 c2)) := ⟨hc1, hc2, hv2⟩
    clear hc1 hc2 hv1 hv2 hl1 hl2
    go_wp2_with fail
    refine (HC.out.1 w1 hb1).mono ?_
    rintro r w2 ⟨rfl, hb2⟩
    have s2 := hb2.size
    have k2 : Below w.heap.size w w2 := hb1.trans (hb2.mono s1)
    have q1 := (HO.out.below hb2).cell HC.out.2.2
    clear q0
    obtain ⟨p1, hp1⟩ : ∃ p1, p1 = x.passes := ⟨_, rfl⟩
    rw [← hp1]
    have HP : Hid (p1 = x.passes) := hp1
    clear hp1
    cases p1
    case true =>
      have HR : Hid (PaP (.chain e x y) w (.returned (.bool true)) w2) := ⟨by show Ending.returned (.bool true) = .returned (.bool (x.passes || y.passes)); rw [← HP.out]; rfl, k2⟩
      go_wp2_with fail
      go_ret
      exact HR.out
    case false =>
      go_wp2_with fail
      refine (HC.out.2.1 w2 k2).mono ?_
      rintro r w3 ⟨rfl, hb3⟩
      have HR : Hid (PaP (.chain e x y) w (.returned (.bool y.passes)) w3) := ⟨by show Ending.returned (.bool y.passes) = .returned (.bool (x.passes || y.passes)); rw [← HP.out]; rfl, k2.trans (hb3.mono k2.size)⟩
      go_wp2_with fail
      go_ret
      exact HR.out
  | @inter _ x y ka kb h15 hx hy =>
    have z16 : (e.kind == 16) = false := by rw [beq_eq_false_iff_ne]; omega
    obtain rfl : a3 = 2 := HM.out.1
    obtain ⟨o1, c1, hv1, hc1⟩ := HN.out (j := 0) rfl hx
    obtain ⟨o2, c2, hv2, hc2⟩ := HN.out (j := 1) rfl hy
    have q0 := HO.out.cell hv1
    obtain ⟨l1, hl1⟩ : ∃ l1, l1 = ka.length := ⟨_, rfl⟩
    obtain ⟨l2, hl2⟩ : ∃ l2, l2 = kb.length := ⟨_, rfl⟩
    rw [← hl1] at q0 hc1
    rw [← hl2] at hv2 hc2
    have HC : Hid ((∀ wx, Below w.heap.size w wx → Calls Try.prog 40 #[.slice (some ⟨b, o1, none⟩) l1 c1] wx (PaP x wx)) ∧ (∀ wx, Below w.heap.size w wx → Calls Try.prog 40 #[.slice (some ⟨b, o2, none⟩) l2 c2] wx (PaP y wx)) ∧ (kidVs b o cap [ka, kb])[1]? = some (.slice (some ⟨b, o2, none⟩) l2 c2)) := ⟨hc1, hc2, hv2⟩
    clear hc1 hc2 hv1 hv2 hl1 hl2
    go_wp2_with fail
    refine (HC.out.1 w1 hb1).mono ?_
    rintro r w2 ⟨rfl, hb2⟩
    have s2 := hb2.size
    have k2 : Below w.heap.size w w2 := hb1.trans (hb2.mono s1)
    have q1 := (HO.out.below hb2).cell HC.out.2.2
    clear q0
    obtain ⟨p1, hp1⟩ : ∃ p1, p1 = x.passes := ⟨_, rfl⟩
    rw [← hp1]
    have HP : Hid (p1 = x.passes) := hp1
    clear hp1
    cases p1
    case true =>
      have HR : Hid (PaP (.inter e x y) w (.returned (.bool true)) w2) := ⟨by show Ending.returned (.bool true) = .returned (.bool (x.passes || y.passes)); rw [← HP.out]; rfl, k2⟩
      go_wp2_with fail
      go_ret
      exact HR.out
    case false =>
      go_wp2_with fail
      refine (HC.out.2.1 w2 k2).mono ?_
      rintro r w3 ⟨rfl, hb3⟩
      have HR : Hid (PaP (.inter e x y) w (.returned (.bool y.passes)) w3) := ⟨by show Ending.returned (.bool y.passes) = .returned (.bool (x.passes || y.passes)); rw [← HP.out]; rfl, k2.trans (hb3.mono k2.size)⟩
      go_wp2_with fail
      go_ret
      exact HR.out
  | @cond _ x y z ka kb kc h16 hx hy hz =>
    have z16 : (e.kind == 16) = true := by rw [beq_iff_eq]; exact h16
    obtain rfl : a3 = 3 := HM.out.1
    obtain ⟨o1, c1, hv1, hc1⟩ := HN.out (j := 1) rfl hy
    obtain ⟨o2, c2, hv2, hc2⟩ := HN.out (j := 2) rfl hz
    have q0 := HO.out.cell hv1
    obtain ⟨l1, hl1⟩ : ∃ l1, l1 = kb.length := ⟨_, rfl⟩
    obtain ⟨l2, hl2⟩ : ∃ l2, l2 = kc.length := ⟨_, rfl⟩
    rw [← hl1] at q0 hc1
    rw [← hl2] at hv2 hc2
    have HC : Hid ((∀ wx, Below w.heap.size w wx → Calls Try.prog 40 #[.slice (some ⟨b, o1, none⟩) l1 c1] wx (PaP y wx)) ∧ (∀ wx, Below w.heap.size w wx → Calls Try.prog 40 #[.slice (some ⟨b, o2, none⟩) l2 c2] wx (PaP z wx)) ∧ (kidVs b o cap [ka, kb, kc])[2]? = some (.slice (some ⟨b, o2, none⟩) l2 c2)) := ⟨hc1, hc2, hv2⟩
    clear hc1 hc2 hv1 hv2 hl1 hl2
    go_wp2_with fail
    refine (HC.out.1 w1 hb1).mono ?_
    rintro r w2 ⟨rfl, hb2⟩
    have s2 := hb2.size
    have k2 : Below w.heap.size w w2 := hb1.trans (hb2.mono s1)
    have q1 := (HO.out.below hb2).cell HC.out.2.2
    clear q0
    obtain ⟨p1, hp1⟩ : ∃ p1, p1 = y.passes := ⟨_, rfl⟩
    rw [← hp1]
    have HP : Hid (p1 = y.passes) := hp1
    clear hp1
    cases p1
    case true =>
      have HR : Hid (PaP (.cond e x y z) w (.returned (.bool true)) w2) := ⟨by show Ending.returned (.bool true) = .returned (.bool (y.passes || z.passes)); rw [← HP.out]; rfl, k2⟩
      go_wp2_with fail
      go_ret
      exact HR.out
    case false =>
      go_wp2_with fail
      refine (HC.out.2.1 w2 k2).mono ?_
      rintro r w3 ⟨rfl, hb3⟩
      have HR : Hid (PaP (.cond e x y z) w (.returned (.bool z.passes)) w3) := ⟨by show Ending.returned (.bool z.passes) = .returned (.bool (y.passes || z.passes)); rw [← HP.out]; rfl, k2.trans (hb3.mono k2.size)⟩
      go_wp2_with fail
      go_ret
      exact HR.out
theorem pass_all : ∀ n, PaC n
  | 0 => fun w b o cap xs t hn _ _ hT => by have := hT.part; cases this <;> simp at hn
  | n + 1 => pass_of (pass_all n)
end Go.Proofs.Ytkbmdkgfgfbilaa

/-
  spec.l5Is, l5Same, l5Join.
-/
namespace Go.Proofs.Ytkbmdkgfgfbilaa
open Go.ChangeShapes Go.WideShapes Go.ChangeAt Go.RowKit Go.Deep
set_option linter.unusedVariables false
set_option linter.unusedSimpArgs false
set_option maxRecDepth 100000

open Classical in
noncomputable def isKB (xs : List Nd) (k : Int) : Bool := decide (isK xs k)
theorem isKB_iff (xs : List Nd) (k : Int) : isKB xs k = true ↔ isK xs k := by unfold isKB; simp
open Classical in
noncomputable def sameB (xs ys : List Nd) : Bool := decide (xs = ys)
theorem sameB_iff (xs ys : List Nd) : sameB xs ys = true ↔ xs = ys := by unfold sameB; simp
theorem isKB_no {xs : List Nd} {k : Int} (h : ¬ isK xs k) : isKB xs k = false := by
  cases q : isKB xs k with
  | false => rfl
  | true => exact absurd ((isKB_iff xs k).1 q) h
theorem sameB_no {xs ys : List Nd} (h : ¬ xs = ys) : sameB xs ys = false := by
  cases q : sameB xs ys with
  | false => rfl
  | true => exact absurd ((sameB_iff xs ys).1 q) h
theorem InNds.form {w : World} {v : Value} {xs : List Nd} (h : InNds w v xs) : ∃ a c, v = .slice a xs.length c ∧ (xs ≠ [] → ∃ b o, a = some ⟨b, o, none⟩ ∧ NdsAt w b o xs ∧ b < w.heap.size ∧ xs.length ≤ c ∧ c ≤ maxLen) := by
  rcases h with ⟨a, cap, rfl, rfl⟩ | ⟨b, off, cap, rfl, hE, hlt, h1, h2⟩
  · exact ⟨a, cap, rfl, fun q => absurd rfl q⟩
  · exact ⟨_, cap, rfl, fun _ => ⟨b, off, rfl, hE, hlt, h1, h2⟩⟩
theorem ndNe_any (x y : Nd) : ∃ B : Bool, (B = false ↔ x = y) ∧ ∀ wx, (binOp .neq 69 (.agg #[.int .i64 x.kind, .string x.s, .bool x.hi, .string x.t, .int .u64 x.lo, .int .u64 x.up, .int .i64 x.n]) (.agg #[.int .i64 y.kind, .string y.s, .bool y.hi, .string y.t, .int .u64 y.lo, .int .u64 y.up, .int .i64 y.n])).run Try.prog wx = .ok (.bool B) wx := by
  obtain ⟨k, s, h, t, l, u, n⟩ := x
  obtain ⟨k', s', h', t', l', u', n'⟩ := y
  refine ⟨! decide (k = k' ∧ s.toList = s'.toList ∧ h = h' ∧ t.toList = t'.toList ∧ l = l' ∧ u = u' ∧ n = n'), ?_, fun wx => ?_⟩
  · rw [Bool.not_eq_eq_eq_not, Bool.not_false, decide_eq_true_eq]
    constructor
    · rintro ⟨rfl, h1, rfl, h2, rfl, rfl, rfl⟩
      rw [baInj h1, baInj h2]
    · intro q
      cases q
      exact ⟨rfl, rfl, rfl, rfl, rfl, rfl, rfl⟩
  · go_simp
    repeat' split
    all_goals simp_all
end Go.Proofs.Ytkbmdkgfgfbilaa

