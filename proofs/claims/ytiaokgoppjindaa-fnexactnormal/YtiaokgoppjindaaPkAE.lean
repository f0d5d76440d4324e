import Derived.BigQuiet
import Derived.Deep.QuietTactic
import Derived.Lib.AppendZeros
import Derived.Test.YtiaokgoppjindaaPkAA
import Derived.Test.YtiaokgoppjindaaPkAD
/-
  Nodes that come in: lists of nodes and filters opened, copied and compared.
-/
namespace Go.Proofs.Ytiaokgoppjindaa
open Go.ChangeShapes Go.WideShapes Go.ChangeAt Go.RowKit Go.Deep
set_option linter.unusedVariables false
set_option linter.unusedSimpArgs false
set_option maxRecDepth 100000

theorem Try.cellsNd : Try.prog.cellsOf 46 = 7 := by kernel_rfl
theorem list7 {α : Type} {cs : List α} (h : cs.length = 7) : ∃ c0 c1 c2 c3 c4 c5 c6, cs = [c0, c1, c2, c3, c4, c5, c6] := by
  match cs, h with
  | [c0, c1, c2, c3, c4, c5, c6], _ => exact ⟨c0, c1, c2, c3, c4, c5, c6, rfl⟩
theorem nd_of_trod {H : Type} {enc : TypeId × Value → H} {w : World} {base : Nat} {spare : Nat → Bool} {held : Bool} {fuel : Nat} {cs : List Value} {x : DataW H × List MemPlace}
    (h : DataW.trod enc Try.prog w base spare held fuel 46 cs = some x) : ∃ e : Nd, e.ok ∧ cs = e.seven := by
  obtain ⟨xs, n, _, _, hl, hlen, hf⟩ := DataW.trod_struct Try.underlying46 h
  rw [Try.cellsNd] at hl
  obtain ⟨c0, c1, c2, c3, c4, c5, c6, rfl⟩ := list7 hl
  obtain ⟨x0, x1, x2, x3, x4, x5, x6, rfl⟩ := list7 (cs := xs) hlen
  have h0 := hf 0 _ rfl
  have h1 := hf 1 _ rfl
  have h2 := hf 2 _ rfl
  have h3 := hf 3 _ rfl
  have h4 := hf 4 _ rfl
  have h5 := hf 5 _ rfl
  have h6 := hf 6 _ rfl
  simp [Try.cellsStr, Try.cellsU64, Try.cellsI64, Try.cellsBool] at h0 h1 h2 h3 h4 h5 h6
  obtain ⟨a0, e0, _, b0⟩ := DataW.trod_int Try.underlying2 h0
  obtain ⟨a1, e1, _, b1⟩ := DataW.trod_string Try.underlying9 h1
  obtain ⟨a2, e2, _⟩ := DataW.trod_bool Try.underlying4 h2
  obtain ⟨a3, e3, _, b3⟩ := DataW.trod_string Try.underlying9 h3
  obtain ⟨a4, e4, _, b4⟩ := DataW.trod_int Try.underlying44 h4
  obtain ⟨a5, e5, _, b5⟩ := DataW.trod_int Try.underlying44 h5
  obtain ⟨a6, e6, _, b6⟩ := DataW.trod_int Try.underlying2 h6
  simp only [List.cons.injEq, and_true] at e0 e1 e2 e3 e4 e5 e6
  exact ⟨⟨a0, a1, a2, a3, a4, a5, a6⟩, ⟨b1, b3, b0, b4, b5, b6⟩, by rw [e0, e1, e2, e3, e4, e5, e6]⟩

/-- What is read of a slice of cells that came in. -/
def InNds (w : World) (v : Value) (es : List Nd) : Prop :=
  (∃ a cap, v = .slice a 0 cap ∧ es = []) ∨
  ∃ b off cap, v = .slice (some ⟨b, off, none⟩) es.length cap ∧ NdsAt w b off es ∧ b < w.heap.size ∧ es.length ≤ cap ∧ cap ≤ maxLen
theorem InNds.below {B : Nat} {w w' : World} {v : Value} {es : List Nd} (h : InNds w v es) (hb : Below B w w') (hB : w.heap.size ≤ B) : InNds w' v es := by
  rcases h with h | ⟨b, off, cap, hv, hE, hlt, h1, h2⟩
  · exact .inl h
  · exact .inr ⟨b, off, cap, hv, hE.below hb (by omega), by have := hb.size; omega, h1, h2⟩
theorem nds_of_trod {H : Type} {enc : TypeId × Value → H} {w : World} {base : Nat} {held : Bool} {fuel : Nat} {v : Value} {x : DataW H × List MemPlace}
    (h : DataW.trod enc Try.prog w base (fun _ => true) held fuel 22 [v] = some x) : ∃ es : List Nd, InNds w v es ∧ ∀ e ∈ es, e.ok := by
  rcases open_slice Try.underlying22 h with ⟨hcs, _⟩ | ⟨a, len, cap, m, n, D, Pl, hcs, hba, hl, hm, hmm, _, hel⟩
  · simp only [List.cons.injEq, and_true] at hcs
    exact ⟨[], .inl ⟨none, 0, hcs, rfl⟩, by simp⟩
  · simp only [List.cons.injEq, and_true] at hcs
    subst hcs
    rw [if_pos rfl] at hmm
    subst hmm
    have hel6 : ∀ i, i < m → ∃ cs', w.cells? base (a.add (i * 7)) 7 = some cs' ∧ DataW.trod enc Try.prog w base (fun _ => true) held n 46 cs' = some (D i, Pl i) := fun i hi => by
      have := hel i hi
      rw [Try.cellsNd] at this
      exact this
    clear hel
    have HM : Hid (m ≤ maxLen) := hm
    clear hm
    by_cases h0 : len = 0
    · subst h0; exact ⟨[], .inl ⟨_, _, rfl, rfl⟩, by simp⟩
    · obtain ⟨b, off, spot⟩ := a
      have hspot : spot = none := by
        obtain ⟨cs', hc, _⟩ := hel6 0 (by omega)
        obtain ⟨_, hlen, hget⟩ := World.cells?_some hc
        have h1 := hget 0 (by omega)
        have h2 : (w.cell? ((Addr.add ⟨b, off, spot⟩ (0 * 7)).add 0)).isSome = true := by rw [h1]; simp; omega
        obtain ⟨u, hu⟩ := Option.isSome_iff_exists.1 h2
        simpa [Addr.add] using World.cell?_spot hu
      subst hspot
      obtain ⟨es, hes, hp⟩ := list_of_forall (P := fun i (e : Nd) => e.ok ∧ (w.cell? ⟨b, off + i * 7, none⟩ = some (.int .i64 e.kind) ∧ w.cell? ⟨b, off + i * 7 + 1, none⟩ = some (.string e.s) ∧ w.cell? ⟨b, off + i * 7 + 2, none⟩ = some (.bool e.hi) ∧ w.cell? ⟨b, off + i * 7 + 3, none⟩ = some (.string e.t) ∧ w.cell? ⟨b, off + i * 7 + 4, none⟩ = some (.int .u64 e.lo) ∧ w.cell? ⟨b, off + i * 7 + 5, none⟩ = some (.int .u64 e.up) ∧ w.cell? ⟨b, off + i * 7 + 6, none⟩ = some (.int .i64 e.n))) len (fun i hi => by
        obtain ⟨cs', hc, ht⟩ := hel6 i (by omega)
        obtain ⟨e, ok, rfl⟩ := nd_of_trod ht
        obtain ⟨_, hlen, hget⟩ := World.cells?_some hc
        refine ⟨e, ok, ?_, ?_, ?_, ?_, ?_, ?_, ?_⟩
        · simpa [Addr.add_mid] using hget 0 (by omega)
        · simpa [Addr.add_mid] using hget 1 (by omega)
        · simpa [Addr.add_mid] using hget 2 (by omega)
        · simpa [Addr.add_mid] using hget 3 (by omega)
        · simpa [Addr.add_mid] using hget 4 (by omega)
        · simpa [Addr.add_mid] using hget 5 (by omega)
        · simpa [Addr.add_mid] using hget 6 (by omega))
      have hlt : b < w.heap.size := by
        obtain ⟨cs', hc, _⟩ := hel6 0 (by omega)
        simpa [Addr.add] using World.cells?_block hc (by omega)
      subst hes
      refine ⟨es, .inr ⟨b, off, m, rfl, fun i e he => (hp i e he).2, hlt, hl, HM.out⟩, fun e he => ?_⟩
      obtain ⟨i, hi⟩ := List.getElem?_of_mem he
      exact (hp i e hi).1

set_option maxHeartbeats 400000 in
theorem szNodeS_core (b off cap : Nat) (es : List Nd) (left : Int) (w : World) (hE : NdsAt w b off es) (hok : ∀ e ∈ es, e.ok) (hB : b < w.heap.size) (hlen : es.length ≤ cap) (hcap : cap ≤ maxLen) (h0 : 0 ≤ left) (h1 : left ≤ 2 ^ 40) :
    Calls Try.prog 11 #[.slice (some ⟨b, off, none⟩) es.length cap, .int .i64 left] w fun e w' =>
      ∃ x, e = .returned (.int .i64 x) ∧ (x = -1 ∨ (0 ≤ x ∧ x + es.length ≤ left)) ∧ Below w.heap.size w w' := by
  have HE : Hid (NdsAt w b off es) := hE
  have HO : Hid (∀ e ∈ es, e.ok) := hok
  clear hE hok
  unfold maxLen at hcap
  by_cases hle : left < es.length
  · have hle' : left - es.length < 0 := by omega
    go_enter Try.func11, Try.ntmps11
    go_wp2
    go_ret
    exact ⟨_, rfl, .inl rfl, Below.refl _ _⟩
  have hle' : 0 ≤ left - es.length := by omega
  go_enter Try.func11, Try.ntmps11
  go_wp2
  go_loopw [1, 5] (fun l i wr => ∃ (k : Nat) (x : Int), k ≤ es.length ∧ i = .int .i64 k ∧ l = .int .i64 x ∧ 0 ≤ x ∧ x + es.length ≤ left ∧ Below w.heap.size w wr) (fun _ i _ => es.length - (intOf i).toNat)
  case atStart => exact ⟨0, _, Nat.zero_le _, rfl, rfl, hle', by omega, Below.refl _ _⟩
  case round =>
    obtain ⟨k, x, hk, rfl, rfl, hx0, hx1, hb⟩ := hrel
    by_cases hlt : k < es.length
    · obtain ⟨e, he⟩ : ∃ e, es[k]? = some e := ⟨_, List.getElem?_eq_getElem hlt⟩
      obtain ⟨c0, c1, c2, c3, c4, c5, c6⟩ := (HE.out.below hb hB) k e he
      have ok := HO.out e (List.mem_of_getElem? he)
      have HK : Hid e.ok := ok
      clear ok he
      go_wp2_with fail
      refine (szNode_core e _ _ HK.out (by omega) (by omega)).mono ?_
      rintro e w1 ⟨y, rfl, hy, hb1⟩
      have hsz := hb.size
      have hb2 := hb.trans (hb1.mono hsz)
      clear c0 c1 c2 c3 c4 c5 c6 hb1
      by_cases hy0 : y < 0
      · go_wp2_with fail
        go_ret
        exact ⟨_, rfl, .inl rfl, hb2⟩
      · have hy1 : 0 ≤ y := by omega
        have hy2 : y + es.length ≤ left := by omega
        go_wp2_with fail
        go_roundw
        case rel => exact ⟨k + 1, y, by omega, by go_num, rfl, hy1, hy2, hb2⟩
        case measure => simp [intOf]; omega
    · go_wp2
      go_ret
      exact ⟨_, rfl, .inr ⟨hx0, hx1⟩, hb⟩
set_option maxHeartbeats 400000 in
theorem szNodeS_zero (a : Option Addr) (cap : Nat) (left : Int) (w : World) (h0 : 0 ≤ left) (h1 : left ≤ 2 ^ 40) :
    Calls Try.prog 11 #[.slice a 0 cap, .int .i64 left] w fun e w' => e = .returned (.int .i64 left) ∧ Below w.heap.size w w' := by
  go_enter Try.func11, Try.ntmps11
  go_wp2
  go_loopw [1, 5] (fun l i wr => l = .int .i64 left ∧ i = .int .i64 0 ∧ Below w.heap.size w wr) (fun _ i _ => 0)
  case atStart => exact ⟨rfl, rfl, Below.refl _ _⟩
  case round =>
    obtain ⟨rfl, rfl, hb⟩ := hrel
    go_wp2_with fail
    go_ret
    exact ⟨rfl, hb⟩
theorem szNodeS_any (v : Value) (es : List Nd) (left : Int) (w : World) (h : InNds w v es) (hok : ∀ e ∈ es, e.ok) (h0 : 0 ≤ left) (h1 : left ≤ 2 ^ 40) :
    Calls Try.prog 11 #[v, .int .i64 left] w fun e w' =>
      ∃ x, e = .returned (.int .i64 x) ∧ (x = -1 ∨ (0 ≤ x ∧ x + es.length ≤ left)) ∧ Below w.heap.size w w' := by
  rcases h with ⟨a, cap, rfl, rfl⟩ | ⟨b, off, cap, rfl, hE, hlt, g1, g2⟩
  · exact (szNodeS_zero a cap left w h0 h1).mono fun e w' ⟨he, hb⟩ => ⟨left, he, .inr ⟨h0, by simp⟩, hb⟩
  · exact szNodeS_core b off cap es left w hE hok hlt g1 g2 h0 h1

theorem made_zeroN (n : Nat) : (madeCells #[.int .i64 0, .string ⟨#[]⟩, .bool false, .string ⟨#[]⟩, .int .u64 0, .int .u64 0, .int .i64 0] (n * 7)).toList = cellsN (List.replicate n zeroN) := by
  apply List.ext_getElem?
  intro j
  by_cases hj : j < n * 7
  · have h := cellsN_get (List.replicate n zeroN) (j / 7) zeroN (by rw [List.getElem?_replicate, if_pos (by omega)]) (j % 7) (Nat.mod_lt _ (by omega))
    rw [show j / 7 * 7 + j % 7 = j by omega] at h
    rw [h]
    have h6 : j % 7 < 7 := Nat.mod_lt _ (by omega)
    simp [madeCells, hj]
    generalize j % 7 = m at *
    match m, h6 with
    | 0, _ => rfl
    | 1, _ => rfl
    | 2, _ => rfl
    | 3, _ => rfl
    | 4, _ => rfl
    | 5, _ => rfl
    | 6, _ => rfl
  · have h1 : (cellsN (List.replicate n zeroN)).length ≤ j := by rw [length_cellsN, List.length_replicate]; omega
    rw [List.getElem?_eq_none h1]
    simp [madeCells, hj]
set_option maxHeartbeats 400000 in
theorem toNodeS_core (b off cap : Nat) (es : List Nd) (w : World) (hE : NdsAt w b off es) (hB : b < w.heap.size) (hlen : es.length ≤ cap) (hcap : cap ≤ maxLen) (h1 : es.length ≤ 1048576) :
    Calls Try.prog 14 #[.slice (some ⟨b, off, none⟩) es.length cap] w fun e w' =>
      ∃ g, e = .returned (.slice (some ⟨g, 0, none⟩) es.length es.length) ∧ OwnNd w' w.heap.size g es.length es ∧ Below w.heap.size w w' := by
  have HE : Hid (NdsAt w b off es) := hE
  clear hE
  unfold maxLen at hcap
  obtain ⟨i, hi, hz0, hz1, hz2⟩ := info_parts Try.infoNd
  have HI : Hid (Try.prog.info? 48 = some i ∧ i.zero = some (.agg #[.int .i64 0, .string ⟨#[]⟩, .bool false, .string ⟨#[]⟩, .int .u64 0, .int .u64 0, .int .i64 0]) ∧ i.size = 7 ∧ i.bytes = 72) := ⟨hi, hz0, hz1, hz2⟩
  clear hi hz0 hz1 hz2
  go_enter Try.func14, Try.ntmps14
  go_wp2_with (at_make; refine wpList_make_full _ rfl _ _ 26 rfl w.heap.size 48 i _ 7 Try.underlying26 HI.out.1 HI.out.2.1 HI.out.2.2.1 _ _ _ _ es.length rfl rfl ?_ ?_ ?hb ?hm ?hs ?_)
  case hb => rw [HI.out.2.2.2]; omega
  case hm => unfold maxLen; omega
  case hs => exact Nat.le_refl _
  · rfl
  · rfl
  intro w1 hown hgrow
  rw [made_zeroN] at hown
  have hown1 : OwnNd w1 w.heap.size w.heap.size es.length (List.replicate es.length zeroN) := by
    unfold OwnNd; rw [List.length_replicate]; exact hown
  have HW : Hid (OwnNd w1 w.heap.size w.heap.size es.length (List.replicate es.length zeroN)) := hown1
  have hb1 : Below w.heap.size w w1 := (Below.refl _ _).grown hgrow (Nat.le_refl _) (fun k hk => by cases hk)
  clear hown hown1 hgrow
  go_wp2_with fail
  go_loopw [4] (fun i wr => ∃ (k : Nat) (fs : List Nd), k ≤ es.length ∧ i = .int .i64 k ∧ fs.length = es.length ∧ fs.take k = es.take k ∧ OwnNd wr w.heap.size w.heap.size es.length fs ∧ Below w.heap.size w wr) (fun i _ => es.length - (intOf i).toNat)
  case atStart => exact ⟨0, _, Nat.zero_le _, rfl, List.length_replicate .., rfl, HW.out, hb1⟩
  case round =>
    obtain ⟨k, fs, hk, rfl, hfl, hft, hO, hb⟩ := hrel
    have HO : Hid (fs.length = es.length ∧ fs.take k = es.take k ∧ OwnNd wr w.heap.size w.heap.size es.length fs) := ⟨hfl, hft, hO⟩
    clear hfl hft hO
    by_cases hlt : k < es.length
    · obtain ⟨e, he⟩ : ∃ e, es[k]? = some e := ⟨_, List.getElem?_eq_getElem hlt⟩
      obtain ⟨c0, c1, c2, c3, c4, c5, c6⟩ := (HE.out.below hb hB) k e he
      have HG : Hid (es[k]? = some e) := he
      clear he
      go_wp2_with fail
      refine (toNode_core e _).mono ?_
      rintro e' w2 ⟨rfl, hb2⟩
      have hO2 := (HO.out.2.2).below hb2 (HO.out.2.2).lt.2
      obtain ⟨f, hf⟩ : ∃ f, fs[k]? = some f := ⟨_, List.getElem?_eq_getElem (by rw [HO.out.1]; exact hlt)⟩
      obtain ⟨d0, d1, d2, d3, d4, d5, d6⟩ := hO2.at k f hf
      simp only [Nat.zero_add] at d0 d1 d2 d3 d4 d5 d6
      have hfz := fun j => World.ownsRow.frozenAt hO2 j
      have HO2 : Hid (OwnNd w2 w.heap.size w.heap.size es.length fs ∧ fs[k]? = some f) := ⟨hO2, hf⟩
      clear hO2 hf c0 c1 c2 c3 c4 c5 c6
      go_wp2_with fail
      go_roundw
      case rel => exact ⟨k + 1, fs.set k e, by omega, by go_num, by rw [List.length_set]; exact HO.out.1, takeN_succ HO.out.2.1 HO.out.1 HG.out, HO2.out.1.put k f e HO2.out.2, below_put7 (hb.trans (hb2.mono hb.size)) (Nat.le_refl _) _ _ _ _ _ _ _ _ _ _ _ _ _ _⟩
      case measure => simp [intOf]; omega
    · have hfs : fs = es := by
        have h := HO.out.2.1
        rw [List.take_of_length_le (by have := HO.out.1; omega), List.take_of_length_le (by omega)] at h
        exact h
      go_wp2
      go_ret
      exact ⟨_, rfl, by rw [← hfs] at HO ⊢; exact HO.out.2.2, hb⟩
set_option maxHeartbeats 400000 in
theorem toNodeS_zero (a : Option Addr) (cap : Nat) (w : World) :
    Calls Try.prog 14 #[.slice a 0 cap] w fun e w' =>
      ∃ g, e = .returned (.slice (some ⟨g, 0, none⟩) 0 0) ∧ OwnNd w' w.heap.size g 0 [] ∧ Below w.heap.size w w' := by
  obtain ⟨i, hi, hz0, hz1, hz2⟩ := info_parts Try.infoNd
  have HI : Hid (Try.prog.info? 48 = some i ∧ i.zero = some (.agg #[.int .i64 0, .string ⟨#[]⟩, .bool false, .string ⟨#[]⟩, .int .u64 0, .int .u64 0, .int .i64 0]) ∧ i.size = 7 ∧ i.bytes = 72) := ⟨hi, hz0, hz1, hz2⟩
  clear hi hz0 hz1 hz2
  go_enter Try.func14, Try.ntmps14
  go_wp2_with (at_make; refine wpList_make_full _ rfl _ _ 26 rfl w.heap.size 48 i _ 7 Try.underlying26 HI.out.1 HI.out.2.1 HI.out.2.2.1 _ _ _ _ 0 rfl rfl ?_ ?_ ?hb ?hm ?hs ?_)
  case hb => rw [HI.out.2.2.2]; omega
  case hm => unfold maxLen; omega
  case hs => exact Nat.le_refl _
  · rfl
  · rfl
  intro w1 hown hgrow
  have HW : Hid (OwnNd w1 w.heap.size w.heap.size 0 []) := by
    have h0 := made_zeroN 0
    rw [Nat.zero_mul] at h0
    rw [h0] at hown
    exact hown
  have hb1 : Below w.heap.size w w1 := (Below.refl _ _).grown hgrow (Nat.le_refl _) (fun k hk => by cases hk)
  clear hown hgrow
  go_wp2_with fail
  go_loopw [4] (fun i wr => i = .int .i64 0 ∧ wr = w1) (fun i _ => 0)
  case atStart => exact ⟨rfl, rfl⟩
  case round =>
    obtain ⟨rfl, rfl⟩ := hrel
    go_wp2_with fail
    go_ret
    exact ⟨_, rfl, HW.out, hb1⟩
theorem toNodeS_any (v : Value) (es : List Nd) (w : World) (h : InNds w v es) (h1 : es.length ≤ 1048576) :
    Calls Try.prog 14 #[v] w fun e w' =>
      ∃ g, e = .returned (.slice (some ⟨g, 0, none⟩) es.length es.length) ∧ OwnNd w' w.heap.size g es.length es ∧ Below w.heap.size w w' := by
  rcases h with ⟨a, cap, rfl, rfl⟩ | ⟨b, off, cap, rfl, hE, hlt, g1, g2⟩
  · exact toNodeS_zero a cap w
  · exact toNodeS_core b off cap es w hE hlt g1 g2 h1
set_option maxHeartbeats 1000000 in
theorem eqNodeS_same (b off cap b' off' cap' : Nat) (es : List Nd) (w : World) (hE : NdsAt w b off es) (hE' : NdsAt w b' off' es) (hB : b < w.heap.size) (hB' : b' < w.heap.size) (hlen : es.length ≤ maxLen) :
    Calls Try.prog 18 #[.slice (some ⟨b, off, none⟩) es.length cap, .slice (some ⟨b', off', none⟩) es.length cap'] w fun e w' =>
      e = .returned (.bool true) ∧ Below w.heap.size w w' := by
  have HE : Hid (NdsAt w b off es ∧ NdsAt w b' off' es) := ⟨hE, hE'⟩
  clear hE hE'
  unfold maxLen at hlen
  go_enter Try.func18, Try.ntmps18
  go_wp2
  go_loopw [5] (fun i wr => ∃ (k : Nat), k ≤ es.length ∧ i = .int .i64 k ∧ Below w.heap.size w wr) (fun i _ => es.length - (intOf i).toNat)
  case atStart => exact ⟨0, Nat.zero_le _, rfl, Below.refl _ _⟩
  case round =>
    obtain ⟨k, hk, rfl, hb⟩ := hrel
    have hs2 := hb.size
    by_cases hlt : k < es.length
    · obtain ⟨e, he⟩ : ∃ e, es[k]? = some e := ⟨_, List.getElem?_eq_getElem hlt⟩
      obtain ⟨c0, c1, c2, c3, c4, c5, c6⟩ := HE.out.1.below hb hB k e he
      obtain ⟨d0, d1, d2, d3, d4, d5, d6⟩ := HE.out.2.below hb hB' k e he
      clear he
      go_upto_region 6 with fail
      go_cut [26] (fun s wx => s = .bool false ∧ Below w.heap.size w wx)
      case first =>
        have z2 : (k : Int) < (es.length : Int) := by omega
        go_region_with (go_at_call 37; refine (eqNode_same e _).mono ?_; rintro e' w' ⟨rfl, hbb⟩)
        all_goals go_wp2_with fail
        all_goals go_meet
        all_goals exact ⟨rfl, hb.drew.trans (hbb.mono (by simp; omega))⟩
      case rest =>
      obtain ⟨rfl, h3⟩ := hcut
      clear c0 c1 c2 c3 c4 c5 c6 d0 d1 d2 d3 d4 d5 d6
      go_wp2_with fail
      go_roundw
      case rel => exact ⟨k + 1, by omega, by go_num, h3⟩
      case measure => simp [intOf]; omega
    · go_wp2_with fail
      go_ret
      exact ⟨rfl, hb⟩
theorem eqNodeS_own {w : World} {base g cp base' g' cp' : Nat} {es : List Nd} (h : OwnNd w base g cp es) (h' : OwnNd w base' g' cp' es) :
    Calls Try.prog 18 #[.slice (some ⟨g, 0, none⟩) es.length cp, .slice (some ⟨g', 0, none⟩) es.length cp'] w fun e w' => e = .returned (.bool true) ∧ Below w.heap.size w w' :=
  eqNodeS_same g 0 cp g' 0 cp' es w h.at h'.at h.lt.2 h'.lt.2 (Nat.le_trans h.caps.1 h.caps.2)
set_option maxHeartbeats 400000 in
theorem eqNodeS_zero (a a' : Option Addr) (cap cap' : Nat) (w : World) :
    Calls Try.prog 18 #[.slice a 0 cap, .slice a' 0 cap'] w fun e w' => e = .returned (.bool true) ∧ Below w.heap.size w w' := by
  go_enter Try.func18, Try.ntmps18
  go_wp2
  go_loopw [5] (fun i wr => i = .int .i64 0 ∧ Below w.heap.size w wr) (fun i _ => 0)
  case atStart => exact ⟨rfl, Below.refl _ _⟩
  case round =>
    obtain ⟨rfl, hb⟩ := hrel
    go_wp2_with fail
    go_ret
    exact ⟨rfl, hb⟩
theorem InNds.own {w : World} {base g n cap : Nat} {es : List Nd} (h : OwnNd w base g cap es) (hn : n = es.length) : InNds w (.slice (some ⟨g, 0, none⟩) n cap) es := by
  subst hn
  exact .inr ⟨g, 0, cap, rfl, h.at, h.lt.2, h.caps.1, h.caps.2⟩
theorem eqNodeS_any (u u' : Value) (es : List Nd) (w : World) (h : InNds w u es) (h' : InNds w u' es) :
    Calls Try.prog 18 #[u, u'] w fun e w' => e = .returned (.bool true) ∧ Below w.heap.size w w' := by
  rcases h with ⟨a, cap, rfl, rfl⟩ | ⟨b, off, cap, rfl, hE, hlt, g1, g2⟩
  · rcases h' with ⟨a', cap', rfl, _⟩ | ⟨b', off', cap', rfl, hE', hlt', g1', g2'⟩
    · exact eqNodeS_zero a a' cap cap' w
    · exact eqNodeS_zero a _ cap cap' w
  · rcases h' with ⟨a', cap', rfl, rfl⟩ | ⟨b', off', cap', rfl, hE', hlt', g1', g2'⟩
    · exact eqNodeS_zero _ a' cap cap' w
    · exact eqNodeS_same b off cap b' off' cap' es w hE hE' hlt hlt' (Nat.le_trans g1 g2)
set_option maxRecDepth 100000 in
theorem open_filter {H : Type} {enc : TypeId × Value → H} {w : World} {base b0 : Nat} {held : Bool} {r : Reach} {v : Value} {d : DataW H} {p : List MemPlace}
    (hv : Value.okWide Try.prog w r b0 24 v) (h : DataW.Trod enc Try.prog w base (fun _ => true) held 24 v d p) :
    ∃ (u : Value) (es : List Nd), v = .agg #[u] ∧ InNds w u es ∧ ∀ e ∈ es, e.ok := by
  obtain ⟨cs, rfl, hsz⟩ := okWide_struct Try.underlying24 hv
  obtain ⟨fuel, hf⟩ := h
  obtain ⟨y0, n, _, hl, h0⟩ := trod_struct1 Try.underlying24 hf
  have h1 : Try.prog.cellsOf 24 = 1 := by kernel_rfl
  have h2 : Try.prog.cellsOf 22 = 1 := by kernel_rfl
  rw [h1] at hsz
  obtain ⟨l⟩ := cs
  match l, hsz with
  | [u], _ =>
    simp [h2, Value.cells] at h0
    obtain ⟨es, he, ok⟩ := nds_of_trod h0
    exact ⟨u, es, rfl, he, ok⟩

set_option maxHeartbeats 400000 in
theorem szFilter_any (u : Value) (es : List Nd) (left : Int) (w : World) (h : InNds w u es) (hok : ∀ e ∈ es, e.ok) (h0 : 0 ≤ left) (h1 : left ≤ 2 ^ 40) :
    Calls Try.prog 4 #[.agg #[u], .int .i64 left] w fun e w' =>
      ∃ x, e = .returned (.int .i64 x) ∧ (x = -1 ∨ (0 ≤ x ∧ x + es.length ≤ left)) ∧ Below w.heap.size w w' := by
  have HE : Hid (InNds w u es ∧ ∀ e ∈ es, e.ok) := ⟨h, hok⟩
  have hu : u.cells = #[u] := by
    rcases h with ⟨a, cap, rfl, _⟩ | ⟨b, off, cap, rfl, _⟩ <;> rfl
  clear h hok
  go_enter Try.func4, Try.ntmps4
  go_wp2_with fail
  refine (szNodeS_any u es left _ (HE.out.1.below ((Below.refl _ _).alloc (Nat.le_refl _) _) (Nat.le_refl _)) HE.out.2 h0 h1).mono ?_
  rintro e w1 ⟨x, rfl, hx, hb1⟩
  have k1 : Below w.heap.size w w1 := ((Below.refl _ _).alloc (Nat.le_refl _) (Obj.cells #[u] 24)).trans (hb1.mono (by simp))
  have HX : Hid (x = -1 ∨ (0 ≤ x ∧ x + es.length ≤ left)) := hx
  by_cases hx0 : x < 0
  · clear hx
    go_wp2_with fail
    go_ret
    exact ⟨_, rfl, .inl rfl, k1⟩
  · clear hx
    go_wp2_with fail
    go_ret
    exact ⟨_, rfl, HX.out, k1⟩

set_option maxHeartbeats 400000 in
theorem toFilter_any (u : Value) (es : List Nd) (w : World) (h : InNds w u es) (h1 : es.length ≤ 1048576) :
    Calls Try.prog 6 #[.agg #[u]] w fun e w' =>
      ∃ g, e = .returned (.agg #[.slice (some ⟨g, 0, none⟩) es.length es.length]) ∧ OwnNd w' w.heap.size g es.length es ∧ Below w.heap.size w w' := by
  have HE : Hid (InNds w u es) := h
  have hu : u.cells = #[u] := by
    rcases h with ⟨a, cap, rfl, _⟩ | ⟨b, off, cap, rfl, _⟩ <;> rfl
  clear h
  go_enter Try.func6, Try.ntmps6
  go_wp2_with fail
  refine (toNodeS_any u es _ (HE.out.below ((((Below.refl _ _).alloc (Nat.le_refl _) _).alloc (by simp) _).alloc (by simp; omega) _) (Nat.le_refl _)) h1).mono ?_
  rintro e w1 ⟨g, rfl, hO, hb1⟩
  obtain ⟨hc1, hf1⟩ := bcell hb1
  have k1 : Below w.heap.size w w1 := ((((Below.refl _ _).alloc (Nat.le_refl _) (Obj.cells #[u] 24)).alloc (by simp) (Obj.cells #[.slice none 0 0] 28)).alloc (by simp; omega) (Obj.cells #[.slice none 0 0] 28)).trans (hb1.mono (by simp; omega))
  have HO : Hid (OwnNd w1 (w.heap.size + 1 + 1 + 1) g es.length es) := by
    show OwnNd w1 (w.heap.size + 1 + 1 + 1) g es.length es
    simpa using hO
  clear hO
  go_wp2_with fail
  refine bodyPost_ret (v := .agg #[.slice (some ⟨g, 0, none⟩) es.length es.length]) (by simp [results, Try.results6, go_sem, hc1]) rfl ⟨g, rfl, ?_, ?_⟩
  · exact OwnNd.mono (ownsRow_setCell_below (ownsRow_setCell_below HO.out (by show w.heap.size + 1 + 1 < _; omega) _) (by show w.heap.size + 1 < _; omega) _) (by omega)
  · exact (k1.setCell (by show w.heap.size ≤ w.heap.size + 1 + 1; omega) _).setCell (by show w.heap.size ≤ w.heap.size + 1; omega) _

set_option maxHeartbeats 400000 in
theorem eqFilter_any (u u' : Value) (es : List Nd) (w : World) (h : InNds w u es) (h' : InNds w u' es) :
    Calls Try.prog 8 #[.agg #[u], .agg #[u']] w fun e w' => e = .returned (.bool true) ∧ Below w.heap.size w w' := by
  have HE : Hid (InNds w u es ∧ InNds w u' es) := ⟨h, h'⟩
  have hu : u.cells = #[u] := by
    rcases h with ⟨a, cap, rfl, _⟩ | ⟨b, off, cap, rfl, _⟩ <;> rfl
  have hu' : u'.cells = #[u'] := by
    rcases h' with ⟨a, cap, rfl, _⟩ | ⟨b, off, cap, rfl, _⟩ <;> rfl
  clear h h'
  go_enter Try.func8, Try.ntmps8
  go_wp2_with fail
  have k0 : Below w.heap.size w ((w.alloc (Obj.cells #[u] 28)).alloc (Obj.cells #[u'] 28)) := ((Below.refl _ _).alloc (Nat.le_refl _) _).alloc (by simp) _
  refine (eqNodeS_any u u' es _ (HE.out.1.below k0 (Nat.le_refl _)) (HE.out.2.below k0 (Nat.le_refl _))).mono ?_
  rintro e w1 ⟨rfl, hb1⟩
  go_wp2_with fail
  go_ret
  exact ⟨rfl, k0.trans (hb1.mono (by simp; omega))⟩
end Go.Proofs.Ytiaokgoppjindaa

/-
  spec.ValidFilter.
-/
namespace Go.Proofs.Ytiaokgoppjindaa
open Go.ChangeShapes Go.WideShapes Go.ChangeAt Go.RowKit Go.Deep
set_option linter.unusedVariables false
set_option linter.unusedSimpArgs false
set_option maxRecDepth 100000

open Classical in
/-- Whether a node is valid. -/
noncomputable def goodB (e : Nd) : Bool := decide (GoodN e)
theorem goodB_iff (e : Nd) : goodB e = true ↔ GoodN e := by unfold goodB; simp
/-- What ValidFilter says of nodes. -/
def GoodF (xs : List Nd) : Prop := xs.length ≤ 200 ∧ ∃ s, ShT goodB [s] xs ∧ s.valid = true ∧ s.nest ≤ 20
theorem goodF_all {xs : List Nd} (h : GoodF xs) : ∀ e ∈ xs, GoodN e := by
  obtain ⟨_, s, hs, hv, _⟩ := h
  have := ShT.valid goodB hs
  simp [hv] at this
  exact fun e he => (goodB_iff e).1 (this e he)
theorem sh_one {xs : List Nd} {s t : Shape} (h : ShT goodB [s] xs) (k : ShT goodB [t] xs) : s = t := by
  have a := ShT.fold goodB h []
  have b := ShT.fold goodB k []
  rw [a] at b
  simpa using b
def FltPost (xs : List Nd) (w : World) (r : Ending) (w' : World) : Prop := ∃ b, r = .returned (.bool b) ∧ (b = true ↔ GoodF xs) ∧ Below w.heap.size w w'
set_option maxHeartbeats 4000000 in
theorem specFilter_core {w : World} {base g cp : Nat} {xs : List Nd} (h : OwnNd w base g cp xs) (hok : ∀ e ∈ xs, e.ok) (hc : cp ≤ 281474976710656) : Calls Try.prog 12 #[.agg #[.slice (some ⟨g, 0, none⟩) xs.length cp]] w (FltPost xs w) := by
  have HO : Hid (OwnNd w base g cp xs ∧ ∀ e ∈ xs, e.ok) := ⟨h, hok⟩
  have hg := h.lt.2
  have hcp := h.caps
  obtain ⟨n, hn⟩ : ∃ n, n = xs.length := ⟨_, rfl⟩
  have HN : Hid (n = xs.length) := hn
  rw [← hn] at hcp ⊢
  unfold maxLen at hcp
  clear h hok hn
  obtain ⟨W0, hW0⟩ : ∃ W0 : World, W0 = w.alloc (Obj.cells #[.slice (some ⟨g, 0, none⟩) n cp] 28) := ⟨_, rfl⟩
  have HW0 : Hid (BoxAt W0 w.heap.size 28 1 w.heap.size [.slice (some ⟨g, 0, none⟩) n cp] ∧ Below w.heap.size w W0) := by
    rw [hW0]; exact ⟨boxAt_new w _ (Nat.le_refl _) rfl, (Below.refl _ _).alloc (Nat.le_refl _) _⟩
  have c0 := HW0.out.1.cell (j := 0) rfl
  have s0 := HW0.out.2.size
  go_enter Try.func12, Try.ntmps12
  go_upto_region 1 with fail
  rw [← hW0]
  clear hW0
  by_cases hbig : 200 < n
  · have zb : (200 : Int) < (n : Int) := by omega
    have HF : Hid (¬ GoodF xs) := fun q => by have := q.1; have := HN.out; omega
    go_wp2_with fail
    go_ret
    exact ⟨_, rfl, by simp [HF.out], HW0.out.2⟩
  have zb : ¬ (200 : Int) < (n : Int) := by omega
  go_wp2_with fail
  clear c0
  go_loopw [3] (fun iv wr => ∃ (j : Nat), iv = .int .i64 (j : Int) ∧ j ≤ n ∧ (∀ e ∈ xs.take j, GoodN e) ∧ BoxAt wr w.heap.size 28 1 w.heap.size [.slice (some ⟨g, 0, none⟩) n cp] ∧ Below w.heap.size w wr) (fun iv _ => n - (intOf iv).toNat)
  case atStart => exact ⟨0, rfl, Nat.zero_le _, by simp, HW0.out⟩
  case round =>
    obtain ⟨j, rfl, hj, hG, hB, hb⟩ := hrel
    have HJ : Hid ((∀ e ∈ xs.take j, GoodN e) ∧ BoxAt wr w.heap.size 28 1 w.heap.size [.slice (some ⟨g, 0, none⟩) n cp] ∧ Below w.heap.size w wr) := ⟨hG, hB, hb⟩
    have c0 := hB.cell (j := 0) rfl
    have sr := hb.size
    clear hG hB hb HW0
    by_cases hlt : j < n
    · have zj : (j : Int) < (n : Int) := by omega
      obtain ⟨e, he⟩ : ∃ e, xs[j]? = some e := ⟨_, List.getElem?_eq_getElem (by have := HN.out; omega)⟩
      obtain ⟨d0, d1, d2, d3, d4, d5, d6⟩ := (HO.out.1.at.below HJ.out.2.2 hg) j e he
      simp only [Nat.zero_add] at d0 d1 d2 d3 d4 d5 d6
      have ok := HO.out.2 e (List.mem_of_getElem? he)
      have HE : Hid (e.s.size ≤ maxLen ∧ e.t.size ≤ maxLen ∧ e ∈ xs ∧ xs.take (j + 1) = xs.take j ++ [e]) := ⟨ok.s, ok.t, List.mem_of_getElem? he, by rw [List.take_add_one, he]; rfl⟩
      clear ok he
      go_wp2_with fail
      refine (good_core e wr HE.out.1 HE.out.2.1).mono ?_
      rintro r w2 ⟨b, rfl, hb, hb2⟩
      have HB : Hid (b = true ↔ GoodN e) := hb
      have HJ2 : Hid (BoxAt w2 w.heap.size 28 1 w.heap.size [.slice (some ⟨g, 0, none⟩) n cp] ∧ Below w.heap.size w w2) := ⟨HJ.out.2.1.below hb2, HJ.out.2.2.trans (hb2.mono sr)⟩
      clear hb hb2 c0 d0 d1 d2 d3 d4 d5 d6
      cases b
      · have HF : Hid (¬ GoodF xs) := fun q => by
          have := HB.out.2 (goodF_all q e HE.out.2.2.1)
          cases this
        go_wp2_with fail
        go_ret
        exact ⟨_, rfl, by simp [HF.out], HJ2.out.2⟩
      · go_wp2_with fail
        go_roundw
        case rel =>
          refine ⟨j + 1, by go_num, by omega, ?_, HJ2.out.1, HJ2.out.2⟩
          intro e' he'
          rw [HE.out.2.2.2] at he'
          rcases List.mem_append.1 he' with h | h
          · exact HJ.out.1 e' h
          · simp at h; subst h; exact HB.out.1 (by first | rfl | trivial)
        case measure => simp [intOf]; omega
    · have zj : ¬ (j : Int) < (n : Int) := by omega
      have HA : Hid (∀ e ∈ xs, GoodN e) := by
        have h1 := HJ.out.1
        rw [List.take_of_length_le (by have := HN.out; omega)] at h1
        exact h1
      have hWin : Win wr g 0 cp xs := ⟨HO.out.1.at.below HJ.out.2.2 hg, by omega, by rw [← HN.out]; exact hcp.1, hc⟩
      have HT : Hid (Calls Try.prog 23 #[.slice (some ⟨g, 0, none⟩) n cp] wr fun r w' => w' = wr ∧ ((r = .returned (.bool true) ∧ IsT 1 xs) ∨ (r = .returned (.bool false) ∧ ¬ IsT 1 xs))) := by
        rw [HN.out]; exact l5Tree_core hWin
      have HNe : Hid (∀ s, ShT goodB [s] xs → Calls Try.prog 24 #[.slice (some ⟨g, 0, none⟩) n cp] wr fun r w' => r = .returned (.int .i64 (s.nest : Int)) ∧ Below wr.heap.size wr w') := fun s hs => by
        rw [HN.out]; exact nest_all goodB xs.length wr g 0 cp xs s (Nat.le_refl _) hWin hs
      clear hWin
      go_wp2_with fail
      refine HT.out.mono ?_
      rintro r w2 ⟨hw2, (⟨rfl, hT⟩ | ⟨rfl, hT⟩)⟩
      · rw [hw2]
        clear hw2
        obtain ⟨ss, hl, hs⟩ := IsT.shapes goodB hT
        obtain ⟨s, rfl⟩ : ∃ s, ss = [s] := by
          match ss, hl with
          | [s], _ => exact ⟨s, rfl⟩
        have HSh : Hid (ShT goodB [s] xs) := hs
        have HV : Hid (s.valid = true) := by
          show s.valid = true
          have h1 := ShT.valid goodB hs
          have h2 : xs.all goodB = true := List.all_eq_true.2 (fun e he => (goodB_iff e).2 (HA.out e he))
          rw [h2] at h1
          simpa using h1
        have HF : Hid (GoodF xs ↔ s.nest ≤ 20) := by
          show GoodF xs ↔ _
          constructor
          · rintro ⟨_, t, ht, _, hn⟩
            rw [sh_one hs ht]; exact hn
          · intro hn
            exact ⟨by have := HN.out; omega, s, hs, HV.out, hn⟩
        clear hT hl hs
        go_wp2_with fail
        refine (HNe.out s HSh.out).mono ?_
        rintro r w3 ⟨rfl, hb3⟩
        have HB3 : Hid (Below w.heap.size w w3) := HJ.out.2.2.trans (hb3.mono sr)
        clear hb3 c0
        go_wp2_with fail
        go_ret
        exact ⟨_, rfl, by rw [HF.out]; simp <;> omega, HB3.out⟩
      · rw [hw2]
        clear hw2
        have HF : Hid (¬ GoodF xs) := fun q => by
          obtain ⟨_, s, hs, _⟩ := q
          exact hT hs.tree
        clear hT
        go_wp2_with fail
        go_ret
        exact ⟨_, rfl, by simp [HF.out], HJ.out.2.2⟩
end Go.Proofs.Ytiaokgoppjindaa

/-
  Trees folded by any visit; the normal form of a filter.
-/
namespace Go.Proofs.Ytiaokgoppjindaa
open Go.ChangeShapes Go.WideShapes Go.ChangeAt Go.RowKit Go.Deep
set_option linter.unusedVariables false

section
variable {T : Type} (V : Nd → List T → T)
/-- What a visit makes of trees, one behind another. -/
inductive TrV : List T → List Nd → Prop
  | nil : TrV [] []
  | snoc {ss os : List T} {xs : List Nd} (n : Nd) (ho : os.length = arity n.kind) (h : TrV (ss ++ os) xs) : TrV (ss ++ [V n os]) (xs ++ [n])
def stepV (st : List T) (n : Nd) : Option (List T) :=
  if st.length < arity n.kind then none else some (st.take (st.length - arity n.kind) ++ [V n (st.drop (st.length - arity n.kind))])
def foldV (st : List T) : List Nd → Option (List T)
  | [] => some st
  | n :: ns => (stepV V st n).bind fun s => foldV s ns
theorem foldV_append (st : List T) (xs ys : List Nd) : foldV V st (xs ++ ys) = (foldV V st xs).bind (fun s => foldV V s ys) := by
  induction xs generalizing st with
  | nil => rfl
  | cons x xs ih =>
    simp only [List.cons_append, foldV]
    cases stepV V st x with
    | none => rfl
    | some s => exact ih s
theorem IsT.trv {k : Nat} {xs : List Nd} (h : IsT k xs) : ∃ ss, ss.length = k ∧ TrV V ss xs := by
  induction h with
  | nil => exact ⟨[], rfl, .nil⟩
  | @snoc k xs n h ih =>
    obtain ⟨ss, hl, hs⟩ := ih
    refine ⟨ss.take k ++ [V n (ss.drop k)], by simp; omega, .snoc n (by simp; omega) ?_⟩
    rw [List.take_append_drop]; exact hs
theorem TrV.tree {ss : List T} {xs : List Nd} (h : TrV V ss xs) : IsT ss.length xs := by
  induction h with
  | nil => exact .nil
  | @snoc ss os xs n ho h ih =>
    rw [List.length_append]
    refine IsT.snoc n ?_
    rw [← ho, ← List.length_append]; exact ih
theorem TrV.fold {ss : List T} {xs : List Nd} (h : TrV V ss xs) : ∀ st, foldV V st xs = some (st ++ ss) := by
  induction h with
  | nil => intro st; simp [foldV]
  | @snoc ss os xs n ho h ih =>
    intro st
    rw [foldV_append, ih]
    simp only [Option.bind_some, foldV, stepV]
    rw [if_neg (by simp; omega)]
    have hl : (st ++ (ss ++ os)).length - arity n.kind = (st ++ ss).length := by simp; omega
    rw [hl, ← List.append_assoc, List.take_left, List.drop_left, List.append_assoc]
    simp
theorem TrV.one {ss ts : List T} {xs : List Nd} (h : TrV V ss xs) (k : TrV V ts xs) : ss = ts := by
  have a := h.fold V []
  have b := k.fold V []
  rw [a] at b
  simpa using b
theorem TrV.split {ss : List T} {xs : List Nd} (h : TrV V ss xs) : ∀ {a b : List T}, ss = a ++ b → ∃ ys zs, xs = ys ++ zs ∧ TrV V a ys ∧ TrV V b zs := by
  induction h with
  | nil => intro a b e; obtain ⟨rfl, rfl⟩ : a = [] ∧ b = [] := by simpa using e.symm
           exact ⟨[], [], rfl, .nil, .nil⟩
  | @snoc ss os xs n ho h ih =>
    intro a b e
    rcases List.eq_nil_or_concat b with rfl | ⟨b', z, rfl⟩
    · simp at e; subst e
      exact ⟨xs ++ [n], [], by simp, .snoc n ho h, .nil⟩
    · rw [List.concat_eq_append, ← List.append_assoc] at e
      have e2 := List.append_inj' e rfl
      obtain ⟨e3, e4⟩ := e2
      simp at e4
      subst e3 e4
      obtain ⟨ys, zs, rfl, h1, h2⟩ := ih (a := a) (b := b' ++ os) (by simp)
      refine ⟨ys, zs ++ [n], by simp, h1, ?_⟩
      rw [List.concat_eq_append]
      exact .snoc n ho h2
theorem TrV.inv {s : T} {xs : List Nd} (h : TrV V [s] xs) : ∃ ys n os, xs = ys ++ [n] ∧ os.length = arity n.kind ∧ TrV V os ys ∧ s = V n os := by
  generalize hs : [s] = ss at h
  cases h with
  | nil => cases hs
  | @snoc ss os xs n ho h =>
    have e := List.append_inj' (s₁ := []) (t₁ := [s]) hs rfl
    obtain ⟨e1, e2⟩ := e
    subst e1
    simp at e2
    exact ⟨xs, n, os, rfl, ho, h, e2⟩
/-- The operands of a node, one by one. -/
inductive KidV : List T → List (List Nd) → Prop
  | nil : KidV [] []
  | cons {o : T} {os : List T} {k : List Nd} {ks : List (List Nd)} (h : TrV V [o] k) (t : KidV os ks) : KidV (o :: os) (k :: ks)
theorem TrV.kids : ∀ {os : List T} {ys : List Nd}, TrV V os ys → ∃ ks, ys = ks.flatten ∧ KidV V os ks
  | [], ys, h => by
    have := (TrV.tree V h).zero
    subst this
    exact ⟨[], rfl, .nil⟩
  | o :: os, ys, h => by
    obtain ⟨a, b, rfl, h1, h2⟩ := TrV.split V h (a := [o]) (b := os) rfl
    obtain ⟨ks, rfl, hk⟩ := TrV.kids h2
    exact ⟨a :: ks, rfl, .cons h1 hk⟩
theorem KidV.length {os : List T} {ks : List (List Nd)} (h : KidV V os ks) : os.length = ks.length := by
  induction h with
  | nil => rfl
  | cons _ _ ih => simp [ih]
theorem KidV.tree {os : List T} {ks : List (List Nd)} (h : KidV V os ks) : ∀ k ∈ ks, IsT 1 k := by
  induction h with
  | nil => intro k hk; cases hk
  | cons h1 _ ih =>
    intro k hk
    rcases List.mem_cons.1 hk with rfl | hk
    · exact h1.tree
    · exact ih k hk
theorem KidV.nth {os : List T} {ks : List (List Nd)} (h : KidV V os ks) : ∀ {j : Nat} {k : List Nd}, ks[j]? = some k → ∃ o, os[j]? = some o ∧ TrV V [o] k := by
  induction h with
  | nil => intro j k hk; simp at hk
  | cons h1 _ ih =>
    intro j k hk
    cases j with
    | zero => simp at hk; subst hk; exact ⟨_, rfl, h1⟩
    | succ j => simp at hk; simpa using ih hk
end

/-- One node alone, of a kind. -/
def isK (xs : List Nd) (k : Int) : Prop := ∃ n, xs = [n] ∧ n.kind = k
open Classical in
/-- The normal form of a node over those of its operands. -/
noncomputable def normOf (e : Nd) (ns : List (List Nd)) : List Nd :=
  match ns with
  | [a, b] =>
    if e.kind = 14 then
      if isK a 1 ∨ isK b 2 then b else if isK b 1 ∨ isK a 2 ∨ (isK a 3 ∧ isK b 3) then a else a ++ b ++ [e]
    else
      if isK a 2 then b else if isK b 2 ∨ isK a 1 ∨ a = b then a else a ++ b ++ [e]
  | [p, a, b] => if isK p 1 then a else if isK p 2 then b else if a = b then a else p ++ a ++ b ++ [e]
  | _ => [e]
theorem norm_mem {e : Nd} {ns : List (List Nd)} {x : Nd} (h : x ∈ normOf e ns) : x = e ∨ ∃ k ∈ ns, x ∈ k := by
  unfold normOf at h
  split at h
  · rename_i a b
    have fin : x ∈ a ++ b ++ [e] → x = e ∨ ∃ k ∈ [a, b], x ∈ k := fun q => by
      simp at q
      rcases q with q | q | q
      · exact .inr ⟨a, by simp, q⟩
      · exact .inr ⟨b, by simp, q⟩
      · exact .inl q
    split at h
    · split at h
      · exact .inr ⟨b, by simp, h⟩
      · split at h
        · exact .inr ⟨a, by simp, h⟩
        · exact fin h
    · split at h
      · exact .inr ⟨b, by simp, h⟩
      · split at h
        · exact .inr ⟨a, by simp, h⟩
        · exact fin h
  · rename_i p a b
    split at h
    · exact .inr ⟨a, by simp, h⟩
    · split at h
      · exact .inr ⟨b, by simp, h⟩
      · split at h
        · exact .inr ⟨a, by simp, h⟩
        · simp at h
          rcases h with q | q | q | q
          · exact .inr ⟨p, by simp, q⟩
          · exact .inr ⟨a, by simp, q⟩
          · exact .inr ⟨b, by simp, q⟩
          · exact .inl q
  · simp at h; exact .inl h
theorem norm_len {e : Nd} {ns : List (List Nd)} : (normOf e ns).length ≤ ns.flatten.length + 1 := by
  unfold normOf
  split
  · repeat' split
    all_goals simp
    all_goals omega
  · repeat' split
    all_goals simp
    all_goals omega
  · simp
/-- Nodes of a normal form are nodes of the filter. -/
theorem trv_mem : ∀ (n : Nat) {y : List Nd} {xs : List Nd}, xs.length ≤ n → TrV normOf [y] xs → (∀ x ∈ y, x ∈ xs) ∧ y.length ≤ xs.length
  | 0, y, xs, hn, h => by
    obtain ⟨ys, e, os, rfl, _⟩ := TrV.inv _ h
    simp at hn
  | n + 1, y, xs, hn, h => by
    obtain ⟨ys, e, os, rfl, _, h2, rfl⟩ := TrV.inv _ h
    obtain ⟨ks, rfl, hK⟩ := TrV.kids _ h2
    simp only [List.length_append, List.length_singleton] at hn
    have hk : ∀ (j : Nat) (o : List Nd), os[j]? = some o → ∃ k ∈ ks, (∀ x ∈ o, x ∈ k) ∧ o.length ≤ k.length := fun j o ho => by
      have hj := (List.getElem?_eq_some_iff.1 ho).1
      obtain ⟨k, hk⟩ : ∃ k, ks[j]? = some k := ⟨_, List.getElem?_eq_getElem (by have := KidV.length _ hK; omega)⟩
      obtain ⟨o', ho', ht⟩ := KidV.nth _ hK hk
      rw [ho] at ho'
      cases ho'
      have hm := List.mem_of_getElem? hk
      have := len_flat hm
      exact ⟨k, hm, trv_mem n (by omega) ht⟩
    refine ⟨fun x hx => ?_, ?_⟩
    · rcases norm_mem hx with rfl | ⟨o, ho, hxo⟩
      · simp
      · obtain ⟨j, hj⟩ := List.getElem?_of_mem ho
        obtain ⟨k, hm, h3, _⟩ := hk j o hj
        exact List.mem_append_left _ (List.mem_flatten.2 ⟨k, hm, h3 x hxo⟩)
    · have h4 : ∀ {os : List (List Nd)} {ks : List (List Nd)}, KidV normOf os ks → (∀ k ∈ ks, k.length ≤ n) → os.flatten.length ≤ ks.flatten.length := by
        intro os ks h
        induction h with
        | nil => intro _; simp
        | cons h1 t ih =>
          intro hb
          have h5 := (trv_mem n (hb _ (by simp)) h1).2
          have h6 := ih (fun k hk => hb k (by simp [hk]))
          simp only [List.flatten_cons, List.length_append]
          omega
      have h7 := h4 hK (fun k hk => by have := len_flat hk; omega)
      have h8 := norm_len (e := e) (ns := os)
      simp only [List.length_append, List.length_singleton]
      omega
/-- The normal form of a filter. -/
def NormF (xs y : List Nd) : Prop := TrV normOf [y] xs
theorem normF_one {xs y z : List Nd} (h : NormF xs y) (k : NormF xs z) : y = z := by
  have := TrV.one _ h k
  simpa using this
theorem normF_ex {xs : List Nd} (h : IsT 1 xs) : ∃ y, NormF xs y := by
  obtain ⟨ss, hl, hs⟩ := IsT.trv normOf h
  match ss, hl with
  | [y], _ => exact ⟨y, hs⟩
theorem baInj {a b : ByteArray} (h : a.toList = b.toList) : a = b := by
  rw [ByteArray.toList_eq, ByteArray.toList_eq] at h
  cases a with
  | mk a => cases b with
    | mk b =>
      simp only at h
      congr 1
      exact Array.toList_inj.1 h
/-- A node that has its kind alone. -/
def bareNd (k : Int) : Nd := ⟨k, ⟨#[]⟩, false, ⟨#[]⟩, 0, 0, 0⟩
theorem good_bare {e : Nd} (h : GoodN e) (hk : e.kind = 1 ∨ e.kind = 2 ∨ e.kind = 3 ∨ e.kind = 14 ∨ e.kind = 15 ∨ e.kind = 16) : e = bareNd e.kind := by
  have hE : (⟨#[]⟩ : ByteArray).toList = [] := by rw [ByteArray.toList_eq]
  obtain ⟨kind, s, hi, t, lo, up, n⟩ := e
  obtain ⟨_, _, _, h4⟩ := h
  simp only at hk h4
  have h5 : s.toList = [] ∧ hi = false ∧ t.toList = [] ∧ lo = 0 ∧ up = 0 ∧ n = 0 := by
    rcases h4 with ⟨q, _⟩ | ⟨q, _⟩ | ⟨q, _⟩ | ⟨q, _⟩ | ⟨_, q⟩
    · omega
    · omega
    · omega
    · omega
    · exact q
  obtain ⟨h1, rfl, h2, rfl, rfl, rfl⟩ := h5
  have e1 : s = ⟨#[]⟩ := baInj (by rw [h1, hE])
  have e2 : t = ⟨#[]⟩ := baInj (by rw [h2, hE])
  rw [e1, e2]
  rfl
theorem isK_good {xs : List Nd} {k : Int} (h : isK xs k) (hg : ∀ x ∈ xs, GoodN x) (hk : k = 1 ∨ k = 2 ∨ k = 3) : xs = [bareNd k] := by
  obtain ⟨n, rfl, rfl⟩ := h
  rw [good_bare (hg n (by simp)) (by omega)]
  rfl
end Go.Proofs.Ytiaokgoppjindaa

/-
  spec.l5Is, l5Same, l5Join.
-/
namespace Go.Proofs.Ytiaokgoppjindaa
open Go.ChangeShapes Go.WideShapes Go.ChangeAt Go.RowKit Go.Deep
set_option linter.unusedVariables false
set_option linter.unusedSimpArgs false
set_option maxRecDepth 100000

open Classical in
noncomputable def isKB (xs : List Nd) (k : Int) : Bool := decide (isK xs k)
theorem isKB_iff (xs : List Nd) (k : Int) : isKB xs k = true ↔ isK xs k := by unfold isKB; simp
open Classical in
noncomputable def sameB (xs ys : List Nd) : Bool := decide (xs = ys)
theorem sameB_iff (xs ys : List Nd) : sameB xs ys = true ↔ xs = ys := by unfold sameB; simp
theorem isKB_no {xs : List Nd} {k : Int} (h : ¬ isK xs k) : isKB xs k = false := by
  cases q : isKB xs k with
  | false => rfl
  | true => exact absurd ((isKB_iff xs k).1 q) h
theorem sameB_no {xs ys : List Nd} (h : ¬ xs = ys) : sameB xs ys = false := by
  cases q : sameB xs ys with
  | false => rfl
  | true => exact absurd ((sameB_iff xs ys).1 q) h
theorem InNds.form {w : World} {v : Value} {xs : List Nd} (h : InNds w v xs) : ∃ a c, v = .slice a xs.length c ∧ (xs ≠ [] → ∃ b o, a = some ⟨b, o, none⟩ ∧ NdsAt w b o xs ∧ b < w.heap.size ∧ xs.length ≤ c ∧ c ≤ maxLen) := by
  rcases h with ⟨a, cap, rfl, rfl⟩ | ⟨b, off, cap, rfl, hE, hlt, h1, h2⟩
  · exact ⟨a, cap, rfl, fun q => absurd rfl q⟩
  · exact ⟨_, cap, rfl, fun _ => ⟨b, off, rfl, hE, hlt, h1, h2⟩⟩
set_option maxHeartbeats 1000000 in
theorem l5Is_core (v : Value) (xs : List Nd) (k : Int) (w : World) (h : InNds w v xs) (hl : xs.length ≤ 1000000) : Calls Try.prog 27 #[v, .int .i64 k] w fun r w' => r = .returned (.bool (isKB xs k)) ∧ w' = w := by
  obtain ⟨a, c, rfl, hf⟩ := h.form
  obtain ⟨B, hB⟩ : ∃ B, B = isKB xs k := ⟨_, rfl⟩
  rw [← hB]
  have HB : Hid (B = isKB xs k) := hB
  clear hB h
  by_cases h1 : xs.length = 1
  · obtain ⟨n, rfl⟩ : ∃ n, xs = [n] := List.length_eq_one_iff.1 h1
    obtain ⟨b, o, rfl, hE, _⟩ := hf (by simp)
    obtain ⟨c0, _⟩ := hE 0 n rfl
    simp only [Nat.zero_mul, Nat.add_zero] at c0
    clear hf hE h1
    by_cases hk : n.kind = k
    · have hb : B = true := by rw [HB.out]; exact (isKB_iff _ _).2 ⟨n, rfl, hk⟩
      subst hb
      go_enter Try.func27, Try.ntmps27
      go_wp2_with fail
      go_ret
      exact ⟨by simp [hk], rfl⟩
    · have hb : B = false := by rw [HB.out]; exact isKB_no (fun ⟨m, q, r⟩ => by cases q; exact hk r)
      subst hb
      go_enter Try.func27, Try.ntmps27
      go_wp2_with fail
      go_ret
      exact ⟨by simp [hk], rfl⟩
  · have hb : B = false := by rw [HB.out]; exact isKB_no (fun ⟨m, q, r⟩ => by rw [q] at h1; simp at h1)
    subst hb
    have z1 : ((xs.length : Int) == 1) = false := by rw [beq_eq_false_iff_ne]; omega
    clear hf
    go_enter Try.func27, Try.ntmps27
    go_wp2_with fail
    go_ret
    exact ⟨rfl, rfl⟩
theorem ndNe_any (x y : Nd) : ∃ B : Bool, (B = false ↔ x = y) ∧ ∀ wx, (binOp .neq 48 (.agg #[.int .i64 x.kind, .string x.s, .bool x.hi, .string x.t, .int .u64 x.lo, .int .u64 x.up, .int .i64 x.n]) (.agg #[.int .i64 y.kind, .string y.s, .bool y.hi, .string y.t, .int .u64 y.lo, .int .u64 y.up, .int .i64 y.n])).run Try.prog wx = .ok (.bool B) wx := by
  obtain ⟨k, s, h, t, l, u, n⟩ := x
  obtain ⟨k', s', h', t', l', u', n'⟩ := y
  refine ⟨! decide (k = k' ∧ s.toList = s'.toList ∧ h = h' ∧ t.toList = t'.toList ∧ l = l' ∧ u = u' ∧ n = n'), ?_, fun wx => ?_⟩
  · rw [Bool.not_eq_eq_eq_not, Bool.not_false, decide_eq_true_eq]
    constructor
    · rintro ⟨rfl, h1, rfl, h2, rfl, rfl, rfl⟩
      rw [baInj h1, baInj h2]
    · intro q
      cases q
      exact ⟨rfl, rfl, rfl, rfl, rfl, rfl, rfl⟩
  · go_simp
    repeat' split
    all_goals simp_all
set_option maxHeartbeats 4000000 in
theorem l5Same_core (v v' : Value) (xs ys : List Nd) (w : World) (h : InNds w v xs) (h' : InNds w v' ys) (hl : xs.length ≤ 1000000) (hl' : ys.length ≤ 1000000) : Calls Try.prog 28 #[v, v'] w fun r w' => r = .returned (.bool (sameB xs ys)) ∧ ∃ m, w' = w.drewN m := by
  obtain ⟨a, c, rfl, hf⟩ := h.form
  obtain ⟨a', c', rfl, hf'⟩ := h'.form
  obtain ⟨B, hB⟩ : ∃ B, B = sameB xs ys := ⟨_, rfl⟩
  rw [← hB]
  have HB : Hid (B = sameB xs ys) := hB
  have HF : Hid ((xs ≠ [] → ∃ b o, a = some ⟨b, o, none⟩ ∧ NdsAt w b o xs ∧ b < w.heap.size ∧ xs.length ≤ c ∧ c ≤ maxLen) ∧ (ys ≠ [] → ∃ b o, a' = some ⟨b, o, none⟩ ∧ NdsAt w b o ys ∧ b < w.heap.size ∧ ys.length ≤ c' ∧ c' ≤ maxLen)) := ⟨hf, hf'⟩
  clear hB h h' hf hf'
  by_cases hle : xs.length = ys.length
  case neg =>
    have hb : B = false := by rw [HB.out]; exact sameB_no (fun q => hle (by rw [q]))
    subst hb
    have z1 : ((xs.length : Int) != (ys.length : Int)) = true := bne_iff_ne.2 (by omega)
    go_enter Try.func28, Try.ntmps28
    go_wp2_with fail
    go_ret
    exact ⟨rfl, 0, rfl⟩
  obtain ⟨n, hn⟩ : ∃ n, n = xs.length := ⟨_, rfl⟩
  have HN : Hid (n = xs.length ∧ n = ys.length) := ⟨hn, by omega⟩
  rw [← hle, ← hn]
  have hn1 : n ≤ 1000000 := by omega
  clear hn hle hl hl'
  go_enter Try.func28, Try.ntmps28
  go_wp2_with fail
  go_loopw [5] (fun i wr => ∃ (k m : Nat), k ≤ n ∧ i = .int .i64 k ∧ Hid (xs.take k = ys.take k) ∧ wr = w.drewN m) (fun i _ => n - (intOf i).toNat)
  case atStart => exact ⟨0, 0, Nat.zero_le _, rfl, rfl, rfl⟩
  case round =>
    obtain ⟨k, m, hk, rfl, HT, rfl⟩ := hrel
    by_cases hlt : k < n
    · have zk : (k : Int) < (n : Int) := by omega
      obtain ⟨x, hx⟩ : ∃ x, xs[k]? = some x := ⟨_, List.getElem?_eq_getElem (by have := HN.out.1; omega)⟩
      obtain ⟨y, hy⟩ : ∃ y, ys[k]? = some y := ⟨_, List.getElem?_eq_getElem (by have := HN.out.2; omega)⟩
      obtain ⟨b, o, hab, hE, _⟩ := HF.out.1 (by rintro rfl; simp at hx)
      obtain ⟨b', o', hab', hE', _⟩ := HF.out.2 (by rintro rfl; simp at hy)
      obtain ⟨c0, c1, c2, c3, c4, c5, c6⟩ := hE k x hx
      obtain ⟨d0, d1, d2, d3, d4, d5, d6⟩ := hE' k y hy
      obtain ⟨Q, hQ, hq⟩ := ndNe_any x y
      have HX : Hid (xs[k]? = some x ∧ ys[k]? = some y ∧ (Q = false ↔ x = y)) := ⟨hx, hy, hQ⟩
      subst hab hab'
      clear hx hy hE hE' hQ HF
      cases Q
      case true =>
        have hb : B = false := by
          rw [HB.out]
          refine sameB_no (fun q => ?_)
          have h1 := HX.out.1
          rw [q, HX.out.2.1] at h1
          have := HX.out.2.2.2 (Option.some.inj h1).symm
          cases this
        subst hb
        go_wp2_with fail
        go_quiet (fail)
        go_wp2_with fail
        go_ret
        exact ⟨rfl, _, World.drewN_drewN ..⟩
      case false =>
        have HT2 : Hid (xs.take (k + 1) = ys.take (k + 1)) := by
          show _ = _
          rw [List.take_add_one, List.take_add_one, HT.out, HX.out.1, HX.out.2.1, HX.out.2.2.1 rfl]
        go_wp2_with fail
        go_quiet (fail)
        go_wp2_with fail
        go_roundw
        case rel => exact ⟨k + 1, _, by omega, by go_num, HT2, rfl⟩
        case measure => simp [intOf]; omega
    · have zk : ¬ (k : Int) < (n : Int) := by omega
      have hb : B = true := by
        rw [HB.out]
        refine (sameB_iff _ _).2 ?_
        have := HT.out
        rw [List.take_of_length_le (by have := HN.out.1; omega), List.take_of_length_le (by have := HN.out.2; omega)] at this
        exact this
      subst hb
      go_wp2_with fail
      go_ret
      exact ⟨rfl, m, rfl⟩
end Go.Proofs.Ytiaokgoppjindaa

/-
  Nodes appended; spec.l5Join.
-/
namespace Go.Proofs.Ytiaokgoppjindaa
open Go.ChangeShapes Go.WideShapes Go.ChangeAt Go.RowKit Go.Deep
set_option linter.unusedVariables false
set_option linter.unusedSimpArgs false
set_option maxRecDepth 100000

theorem cellsN_append (es fs : List Nd) : cellsN (es ++ fs) = cellsN es ++ cellsN fs := by simp [cellsN]
theorem nds_cells {w : World} {b off : Nat} {es : List Nd} (h : NdsAt w b off es) : ∀ j u, (cellsN es)[j]? = some u → w.cell? ((⟨b, off, none⟩ : Addr).add j) = some u := by
  intro j u hu
  have hj : j < es.length * 7 := by rw [← length_cellsN]; exact (List.getElem?_eq_some_iff.1 hu).1
  obtain ⟨e, he⟩ : ∃ e, es[j / 7]? = some e := ⟨_, List.getElem?_eq_getElem (by omega)⟩
  have hg := cellsN_get es (j / 7) e he (j % 7) (Nat.mod_lt _ (by omega))
  rw [show j / 7 * 7 + j % 7 = j by omega, hu] at hg
  obtain ⟨c0, c1, c2, c3, c4, c5, c6⟩ := h (j / 7) e he
  rw [Addr.add_mid, show off + j = off + j / 7 * 7 + j % 7 by omega]
  have hm : j % 7 < 7 := Nat.mod_lt _ (by omega)
  generalize j % 7 = m at *
  match m, hm, hg with
  | 0, _, hg => rw [Nat.add_zero, c0, hg]; rfl
  | 1, _, hg => rw [c1, hg]; rfl
  | 2, _, hg => rw [c2, hg]; rfl
  | 3, _, hg => rw [c3, hg]; rfl
  | 4, _, hg => rw [c4, hg]; rfl
  | 5, _, hg => rw [c5, hg]; rfl
  | 6, _, hg => rw [c6, hg]; rfl
theorem nds_one (es : List Nd) : ∀ u ∈ cellsN es, u.oneCell' = true := by
  intro u hu
  unfold cellsN at hu
  obtain ⟨e, _, he⟩ := List.mem_flatMap.1 hu
  simp at he
  rcases he with rfl | rfl | rfl | rfl | rfl | rfl | rfl <;> rfl
/-- Nodes appended to a row of the call's own. -/
theorem wpList_append_nd {ops : Array Oper} {rest : List Oper} {o : Oper} {a : Act} {Q : Exit → Act → World → Prop} (w : World) (hgd : o.guard = none) (s x : Operand)
    (ho : o.op = .call { callee := .builtin .append, args := #[s, x], argTypes := #[26, 26] })
    (base g cp n b off m cx : Nat) (fs es : List Nd) (hs : a.eval s = .slice (some ⟨g, 0, none⟩) n cp) (hx : a.eval x = .slice (some ⟨b, off, none⟩) m cx) (hn : n = fs.length) (hm : m = es.length) (hO : OwnNd w base g cp fs)
    (hc : NdsAt w b off es) (hlen : fs.length + es.length ≤ 2 ^ 30) (hbase : base ≤ w.heap.size)
    (h : ∀ g' cp' w', OwnNd w' base g' cp' (fs ++ es) → w.grownBy w' (some g) → (g' = g ∨ g' = w.heap.size) → wpList Try.prog ops Q rest (a.put o.dst (.slice (some ⟨g', 0, none⟩) (n + m) cp')) w') : wpList Try.prog ops Q (o :: rest) a w := by
  subst hn hm
  obtain ⟨i, hi, hz0, hz1, hz2⟩ := info_parts Try.infoNd
  refine wpList_append_own_at w hgd s x 26 ho base 48 i _ 7 72 Try.underlying26 hi hz0 hz1 hz2 rfl (by decide) (.slice (some ⟨g, 0, none⟩) fs.length cp) fs.length (cellsN fs) hs hO ⟨b, off, none⟩ es.length cx (cellsN es) hx (length_cellsN es) (nds_cells hc) (nds_one es) ?_ ?_ hbase ?_
  · unfold maxLen; omega
  · omega
  · intro v' w' hO' hgr hnil hat
    rcases hO'.2 with ⟨h0, _⟩ | ⟨g', cap', cur, hv, _, _, hn, hcap, _, _⟩
    · have := (hnil.1 h0).1
      cases this
    · subst hv
      refine h g' cap' w' ?_ hgr ?_
      · unfold OwnNd
        rw [List.length_append, cellsN_append]
        exact hO'
      · simp [Value.ownBlock] at hat
        exact hat
theorem flat_take {α : Type} {ns : List (List α)} {k : Nat} {y : List α} (h : ns[k]? = some y) : (ns.take (k + 1)).flatten = (ns.take k).flatten ++ y := by
  rw [List.take_add_one, h]
  simp
theorem flat_le {α : Type} (ns : List (List α)) (k : Nat) : (ns.take k).flatten.length ≤ ns.flatten.length := by
  have h : ns.flatten = (ns.take k).flatten ++ (ns.drop k).flatten := by
    rw [← List.flatten_append, List.take_append_drop]
  rw [h, List.length_append]
  omega
set_option maxHeartbeats 4000000 in
theorem l5Join_core (b cp : Nat) (us : List Value) (ns : List (List Nd)) (w : World) (hc : ∀ (j : Nat) (u : Value), us[j]? = some u → w.cell? ⟨b, j, none⟩ = some u) (hb : b < w.heap.size) (hl : us.length = ns.length) (hI : ∀ (j : Nat) (u : Value) (y : List Nd), us[j]? = some u → ns[j]? = some y → InNds w u y ∧ y ≠ []) (ht : ns.flatten.length ≤ 1000000) (hn : ns.length ≤ 1000) :
    Calls Try.prog 29 #[.slice (some ⟨b, 0, none⟩) ns.length cp] w fun r w' => ∃ g' cp', r = .returned (.slice (some ⟨g', 0, none⟩) ns.flatten.length cp') ∧ OwnNd w' w.heap.size g' cp' ns.flatten ∧ Below w.heap.size w w' := by
  have HH : Hid ((∀ (j : Nat) (u : Value), us[j]? = some u → w.cell? ⟨b, j, none⟩ = some u) ∧ us.length = ns.length ∧ (∀ (j : Nat) (u : Value) (y : List Nd), us[j]? = some u → ns[j]? = some y → InNds w u y ∧ y ≠ []) ∧ ns.flatten.length ≤ 1000000) := ⟨hc, hl, hI, ht⟩
  clear hc hl hI ht
  obtain ⟨N, hN⟩ : ∃ N, N = ns.flatten.length := ⟨_, rfl⟩
  have HN : Hid (N = ns.flatten.length) := hN
  rw [← hN]
  clear hN
  obtain ⟨W1, hW1⟩ : ∃ W1 : World, W1 = w.alloc (Obj.cells #[] 48) := ⟨_, rfl⟩
  have hb1 : Below w.heap.size w W1 := by rw [hW1]; exact (Below.refl _ _).alloc (Nat.le_refl _) _
  have HO1 : Hid (OwnNd W1 w.heap.size w.heap.size 0 ((ns.take 0).flatten)) := by
    rw [hW1]
    exact World.ownsRow_made w #[] 0 (Nat.le_refl _) (Nat.zero_le _) (by simp)
  go_enter Try.func29, Try.ntmps29
  go_upto_region 2 with fail
  rw [← hW1]
  clear hW1
  go_wp2_with fail
  go_loopw [3, 4] (fun ov iv wr => ∃ (k g cg m : Nat), k ≤ ns.length ∧ iv = .int .i64 k ∧ ov = .slice (some ⟨g, 0, none⟩) m cg ∧ Hid (m = ((ns.take k).flatten).length ∧ OwnNd wr w.heap.size g cg ((ns.take k).flatten)) ∧ Below w.heap.size w wr) (fun _ iv _ => ns.length - (intOf iv).toNat)
  case atStart => exact ⟨0, _, _, 0, Nat.zero_le _, rfl, rfl, ⟨rfl, HO1.out⟩, hb1⟩
  case round =>
    obtain ⟨k, g, cg, m, hk, rfl, rfl, HO, hbr⟩ := hrel
    have sb := hbr.size
    by_cases hlt : k < ns.length
    · have zk : (k : Int) < (ns.length : Int) := by omega
      obtain ⟨y, hy⟩ : ∃ y, ns[k]? = some y := ⟨_, List.getElem?_eq_getElem hlt⟩
      obtain ⟨u, hu⟩ : ∃ u, us[k]? = some u := ⟨_, List.getElem?_eq_getElem (by have := HH.out.2.1; omega)⟩
      obtain ⟨hin, hne⟩ := HH.out.2.2.1 k u y hu hy
      obtain ⟨a, c, hv, hf⟩ := hin.form
      obtain ⟨b', o', rfl, hE, hlt', _⟩ := hf hne
      have c0 : wr.cell? ⟨b, k, none⟩ = some (.slice (some ⟨b', o', none⟩) y.length c) := by
        rw [hbr.cell (p := ⟨b, k, none⟩) hb, ← hv]; exact HH.out.1 k u hu
      have HY : Hid (ns[k]? = some y ∧ NdsAt wr b' o' y ∧ ((ns.take k).flatten).length + y.length ≤ 2 ^ 30) := by
        refine ⟨hy, hE.below hbr hlt', ?_⟩
        have h1 := flat_le ns (k + 1)
        rw [flat_take hy, List.length_append] at h1
        have := HH.out.2.2.2
        omega
      clear hy hu hin hne hf hE hv
      go_wp2_with (at_builtin; refine wpList_append_nd _ rfl _ _ rfl w.heap.size g cg m b' o' y.length c ((ns.take k).flatten) y rfl rfl HO.out.1 rfl HO.out.2 HY.out.2.1 HY.out.2.2 ?hb ?_)
      case hb => omega
      intro g' cp' w' hO' hgr hat
      have HO' : Hid (m + y.length = ((ns.take (k + 1)).flatten).length ∧ OwnNd w' w.heap.size g' cp' ((ns.take (k + 1)).flatten)) := by
        rw [flat_take HY.out.1]
        exact ⟨by rw [List.length_append, HO.out.1], hO'⟩
      have hb' : Below w.heap.size w w' := hbr.grown hgr sb (fun j hj => by have := HO.out.2.lt.1; cases hj; omega)
      clear hO' hgr hat c0
      go_wp2_with fail
      go_roundw
      case rel => exact ⟨k + 1, g', cp', m + y.length, by omega, by go_num, by first | rfl | go_num, HO', hb'⟩
      case measure => simp [intOf]; omega
    · have zk : ¬ (k : Int) < (ns.length : Int) := by omega
      have hkl : k = ns.length := by omega
      subst hkl
      have HO2 : Hid (m = N ∧ OwnNd wr w.heap.size g cg ns.flatten) := by
        have := HO.out
        rw [List.take_length, ← HN.out] at this
        exact this
      clear HO
      go_wp2_with fail
      go_ret
      exact ⟨g, cg, by rw [HO2.out.1]; rfl, HO2.out.2, hbr⟩
end Go.Proofs.Ytiaokgoppjindaa

/-
  impl's isSingle, slices.Equal, slices.Grow and slices.Concat over nodes.
-/
namespace Go.Proofs.Ytiaokgoppjindaa
open Go.ChangeShapes Go.WideShapes Go.ChangeAt Go.RowKit Go.Deep
set_option linter.unusedVariables false
set_option linter.unusedSimpArgs false
set_option maxRecDepth 100000

set_option maxHeartbeats 1000000 in
theorem isSingle_core (v : Value) (xs : List Nd) (k : Int) (w : World) (h : InNds w v xs) (hl : xs.length ≤ 1000000) : Calls Try.prog 46 #[v, .int .i64 k] w fun r w' => r = .returned (.bool (isKB xs k)) ∧ w' = w := by
  obtain ⟨a, c, rfl, hf⟩ := h.form
  obtain ⟨B, hB⟩ : ∃ B, B = isKB xs k := ⟨_, rfl⟩
  rw [← hB]
  have HB : Hid (B = isKB xs k) := hB
  clear hB h
  by_cases h1 : xs.length = 1
  · obtain ⟨n, rfl⟩ : ∃ n, xs = [n] := List.length_eq_one_iff.1 h1
    obtain ⟨b, o, rfl, hE, _⟩ := hf (by simp)
    obtain ⟨c0, _⟩ := hE 0 n rfl
    simp only [Nat.zero_mul, Nat.add_zero] at c0
    clear hf hE h1
    by_cases hk : n.kind = k
    · have hb : B = true := by rw [HB.out]; exact (isKB_iff _ _).2 ⟨n, rfl, hk⟩
      subst hb
      go_enter Try.func46, Try.ntmps46
      go_wp2_with fail
      go_ret
      exact ⟨by simp [hk], rfl⟩
    · have hb : B = false := by rw [HB.out]; exact isKB_no (fun ⟨m, q, r⟩ => by cases q; exact hk r)
      subst hb
      go_enter Try.func46, Try.ntmps46
      go_wp2_with fail
      go_ret
      exact ⟨by simp [hk], rfl⟩
  · have hb : B = false := by rw [HB.out]; exact isKB_no (fun ⟨m, q, r⟩ => by rw [q] at h1; simp at h1)
    subst hb
    have z1 : ((xs.length : Int) == 1) = false := by rw [beq_eq_false_iff_ne]; omega
    clear hf
    go_enter Try.func46, Try.ntmps46
    go_wp2_with fail
    go_ret
    exact ⟨rfl, rfl⟩
set_option maxHeartbeats 4000000 in
theorem equalN_core (v v' : Value) (xs ys : List Nd) (w : World) (h : InNds w v xs) (h' : InNds w v' ys) (hl : xs.length ≤ 1000000) (hl' : ys.length ≤ 1000000) : Calls Try.prog 48 #[v, v'] w fun r w' => r = .returned (.bool (sameB xs ys)) ∧ ∃ m, w' = w.drewN m := by
  obtain ⟨a, c, rfl, hf⟩ := h.form
  obtain ⟨a', c', rfl, hf'⟩ := h'.form
  obtain ⟨B, hB⟩ : ∃ B, B = sameB xs ys := ⟨_, rfl⟩
  rw [← hB]
  have HB : Hid (B = sameB xs ys) := hB
  have HF : Hid ((xs ≠ [] → ∃ b o, a = some ⟨b, o, none⟩ ∧ NdsAt w b o xs ∧ b < w.heap.size ∧ xs.length ≤ c ∧ c ≤ maxLen) ∧ (ys ≠ [] → ∃ b o, a' = some ⟨b, o, none⟩ ∧ NdsAt w b o ys ∧ b < w.heap.size ∧ ys.length ≤ c' ∧ c' ≤ maxLen)) := ⟨hf, hf'⟩
  clear hB h h' hf hf'
  by_cases hle : xs.length = ys.length
  case neg =>
    have hb : B = false := by rw [HB.out]; exact sameB_no (fun q => hle (by rw [q]))
    subst hb
    have z1 : ((xs.length : Int) != (ys.length : Int)) = true := bne_iff_ne.2 (by omega)
    go_enter Try.func48, Try.ntmps48
    go_wp2_with fail
    go_ret
    exact ⟨rfl, 0, rfl⟩
  obtain ⟨n, hn⟩ : ∃ n, n = xs.length := ⟨_, rfl⟩
  have HN : Hid (n = xs.length ∧ n = ys.length) := ⟨hn, by omega⟩
  rw [← hle, ← hn]
  have hn1 : n ≤ 1000000 := by omega
  clear hn hle hl hl'
  go_enter Try.func48, Try.ntmps48
  go_wp2_with fail
  go_loopw [13] (fun i wr => ∃ (k m : Nat), k ≤ n ∧ i = .int .i64 k ∧ Hid (xs.take k = ys.take k) ∧ wr = w.drewN m) (fun i _ => n - (intOf i).toNat)
  case atStart => exact ⟨0, 0, Nat.zero_le _, rfl, rfl, rfl⟩
  case round =>
    obtain ⟨k, m, hk, rfl, HT, rfl⟩ := hrel
    by_cases hlt : k < n
    · have zk : (k : Int) < (n : Int) := by omega
      obtain ⟨x, hx⟩ : ∃ x, xs[k]? = some x := ⟨_, List.getElem?_eq_getElem (by have := HN.out.1; omega)⟩
      obtain ⟨y, hy⟩ : ∃ y, ys[k]? = some y := ⟨_, List.getElem?_eq_getElem (by have := HN.out.2; omega)⟩
      obtain ⟨b, o, hab, hE, _⟩ := HF.out.1 (by rintro rfl; simp at hx)
      obtain ⟨b', o', hab', hE', _⟩ := HF.out.2 (by rintro rfl; simp at hy)
      obtain ⟨c0, c1, c2, c3, c4, c5, c6⟩ := hE k x hx
      obtain ⟨d0, d1, d2, d3, d4, d5, d6⟩ := hE' k y hy
      obtain ⟨Q, hQ, hq⟩ := ndNe_any x y
      have HX : Hid (xs[k]? = some x ∧ ys[k]? = some y ∧ (Q = false ↔ x = y)) := ⟨hx, hy, hQ⟩
      subst hab hab'
      clear hx hy hE hE' hQ HF
      cases Q
      case true =>
        have hb : B = false := by
          rw [HB.out]
          refine sameB_no (fun q => ?_)
          have h1 := HX.out.1
          rw [q, HX.out.2.1] at h1
          have := HX.out.2.2.2 (Option.some.inj h1).symm
          cases this
        subst hb
        go_wp2_with fail
        go_quiet (fail)
        go_wp2_with fail
        go_ret
        exact ⟨rfl, _, World.drewN_drewN ..⟩
      case false =>
        have HT2 : Hid (xs.take (k + 1) = ys.take (k + 1)) := by
          show _ = _
          rw [List.take_add_one, List.take_add_one, HT.out, HX.out.1, HX.out.2.1, HX.out.2.2.1 rfl]
        go_wp2_with fail
        go_quiet (fail)
        go_wp2_with fail
        go_roundw
        case rel => exact ⟨k + 1, _, by omega, by go_num, HT2, rfl⟩
        case measure => simp [intOf]; omega
    · have zk : ¬ (k : Int) < (n : Int) := by omega
      have hb : B = true := by
        rw [HB.out]
        refine (sameB_iff _ _).2 ?_
        have := HT.out
        rw [List.take_of_length_le (by have := HN.out.1; omega), List.take_of_length_le (by have := HN.out.2; omega)] at this
        exact this
      subst hb
      go_wp2_with fail
      go_ret
      exact ⟨rfl, m, rfl⟩
/-- Nodes appended to a row of the call's own, or to none. -/
theorem wpList_append_ndV {ops : Array Oper} {rest : List Oper} {o : Oper} {a : Act} {Q : Exit → Act → World → Prop} (w : World) (hgd : o.guard = none) (s x : Operand)
    (ho : o.op = .call { callee := .builtin .append, args := #[s, x], argTypes := #[26, 26] })
    (base : Nat) (v : Value) (b off m cx : Nat) (fs es : List Nd) (hs : a.eval s = v) (hx : a.eval x = .slice (some ⟨b, off, none⟩) m cx) (hm : m = es.length) (hO : w.ownsRow base 48 7 v fs.length (cellsN fs))
    (hc : NdsAt w b off es) (hlen : fs.length + es.length ≤ 2 ^ 30) (hbase : base ≤ w.heap.size)
    (h : ∀ v' w', w'.ownsRow base 48 7 v' (fs ++ es).length (cellsN (fs ++ es)) → w.grownBy w' v.ownBlock → wpList Try.prog ops Q rest (a.put o.dst v') w') : wpList Try.prog ops Q (o :: rest) a w := by
  subst hm
  obtain ⟨i, hi, hz0, hz1, hz2⟩ := info_parts Try.infoNd
  refine wpList_append_own_at w hgd s x 26 ho base 48 i _ 7 72 Try.underlying26 hi hz0 hz1 hz2 rfl (by decide) v fs.length (cellsN fs) hs hO ⟨b, off, none⟩ es.length cx (cellsN es) hx (length_cellsN es) (nds_cells hc) (nds_one es) ?_ ?_ hbase ?_
  · unfold maxLen; omega
  · omega
  · intro v' w' hO' hgr hnil hat
    refine h v' w' ?_ hgr
    rw [List.length_append, cellsN_append]
    exact hO'
theorem growN_row (w : World) (t : TypeId) (z : Array Value) (size n c : Nat) (hz : z.size = size) (hn : n ≤ c) (hc : c ≤ maxLen) :
    (w.drew.alloc (.cells (Builtin.zeroCells z n ++ Builtin.zeroCells z (c - n)) t)).ownsRow w.heap.size t size (.slice (some ⟨w.heap.size, 0, none⟩) 0 c) 0 [] := by
  refine ⟨by simp, .inr ⟨w.heap.size, c, _, rfl, Nat.le_refl _, heap_alloc_new w.drew _, Nat.zero_le _, hc, ?_, by simp⟩⟩
  rw [Array.size_append, size_zeroCells, size_zeroCells, hz, ← Nat.add_mul]
  congr 1
  omega
def GrowN (w : World) (r : Ending) (w' : World) : Prop := ∃ v : Value, r = .returned v ∧ w'.ownsRow w.heap.size 48 7 v 0 [] ∧ Below w.heap.size w w'
set_option maxHeartbeats 2000000 in
theorem growN_core (n : Nat) (w : World) (hn : n ≤ 2 ^ 30) :
    Calls Try.prog 55 #[.slice none 0 0, .int .i64 n] w fun r w' => GrowN w r w' := by
  obtain ⟨i, hi, hz0, hz1, hz2⟩ := info_parts Try.infoNd
  by_cases h0 : n = 0
  · subst h0
    go_enter Try.func55, Try.ntmps55
    go_wp2_with fail
    go_ret
    exact ⟨_, rfl, World.ownsRow_nil .., Below.refl _ _⟩
  · have hp : 0 < n := by omega
    have HG : Hid (n ≤ grownCap w n 0 48 ∧ grownCap w n 0 48 ≤ maxLen) := ⟨grownCap_ge w n 0 _, grownCap_le_maxLen w n 0 _ (by unfold maxLen; omega)⟩
    have HRun : Hid (∀ ty, (Builtin.append_ #[26, 3] ty #[.slice none 0 0, .int .i64 n]).run Try.prog w = .ok (.slice (some ⟨w.heap.size, 0, none⟩) n (grownCap w n 0 48)) (w.drew.alloc (.cells (Builtin.zeroCells #[.int .i64 0, .string ⟨#[]⟩, .bool false, .string ⟨#[]⟩, .int .u64 0, .int .u64 0, .int .i64 0] n ++ Builtin.zeroCells #[.int .i64 0, .string ⟨#[]⟩, .bool false, .string ⟨#[]⟩, .int .u64 0, .int .u64 0, .int .i64 0] (grownCap w n 0 48 - n)) 48))) := fun ty =>
      Go.Lib.run_append_nil_zeros w 26 3 ty 48 i (.agg #[.int .i64 0, .string ⟨#[]⟩, .bool false, .string ⟨#[]⟩, .int .u64 0, .int .u64 0, .int .i64 0]) .i64 .i64 Try.underlying26 Try.underlying3 hi hz0 n hp (by omega) (by omega) (by rw [hz2]; omega)
    obtain ⟨c, hc⟩ : ∃ c, c = grownCap w n 0 48 := ⟨_, rfl⟩
    rw [← hc] at HG HRun
    have hcm := HG.out.2
    have hcn := HG.out.1
    unfold maxLen at hcm
    have zp : (0 : Int) < (n : Int) := by omega
    clear h0 hc hi hz0 hz1 hz2
    go_enter Try.func55, Try.ntmps55
    go_wp2_with (at_builtin; refine Go.Lib.wpList_append_run _ rfl _ _ _ _ rfl _ _ rfl rfl _ _ (HRun.out _) ?_)
    obtain ⟨W1, hW1⟩ : ∃ W1 : World, W1 = (w.drew.alloc (.cells (Builtin.zeroCells #[.int .i64 0, .string ⟨#[]⟩, .bool false, .string ⟨#[]⟩, .int .u64 0, .int .u64 0, .int .i64 0] n ++ Builtin.zeroCells #[.int .i64 0, .string ⟨#[]⟩, .bool false, .string ⟨#[]⟩, .int .u64 0, .int .u64 0, .int .i64 0] (c - n)) 48)) := ⟨_, rfl⟩
    have HO : Hid (W1.ownsRow w.heap.size 48 7 (.slice (some ⟨w.heap.size, 0, none⟩) 0 c) 0 [] ∧ Below w.heap.size w W1) := by
      rw [hW1]
      exact ⟨growN_row w _ _ 7 n c rfl hcn (by unfold maxLen; omega), (Below.refl _ _).drew.alloc (by simp) _⟩
    go_ret
    rw [hW1] at HO
    exact ⟨_, rfl, HO.out.1, HO.out.2⟩
end Go.Proofs.Ytiaokgoppjindaa

/-
  slices.Concat over nodes.
-/
namespace Go.Proofs.Ytiaokgoppjindaa
open Go.ChangeShapes Go.WideShapes Go.ChangeAt Go.RowKit Go.Deep
set_option linter.unusedVariables false
set_option linter.unusedSimpArgs false
set_option maxRecDepth 100000

def CatN (w : World) (xs : List Nd) (r : Ending) (w' : World) : Prop := ∃ v : Value, r = .returned v ∧ w'.ownsRow w.heap.size 48 7 v xs.length (cellsN xs) ∧ Below w.heap.size w w'
/-- Slices of nodes, none of them empty, in a row. -/
structure Parts (w : World) (sb : Nat) (ns : List (List Nd)) : Prop where
  lt : sb < w.heap.size
  at_ : ∀ (j : Nat) (y : List Nd), ns[j]? = some y → ∃ b o c, w.cell? ⟨sb, j, none⟩ = some (.slice (some ⟨b, o, none⟩) y.length c) ∧ NdsAt w b o y ∧ b < w.heap.size
theorem Parts.below {w w' : World} {sb : Nat} {ns : List (List Nd)} (h : Parts w sb ns) (hb : Below w.heap.size w w') : Parts w' sb ns := by
  refine ⟨by have := hb.size; have := h.lt; omega, fun j y hy => ?_⟩
  obtain ⟨b, o, c, h1, h2, h3⟩ := h.at_ j y hy
  exact ⟨b, o, c, by rw [hb.cell (p := ⟨sb, j, none⟩) h.lt]; exact h1, h2.below hb h3, by have := hb.size; omega⟩
set_option maxHeartbeats 4000000 in
theorem concatN_core (sb n : Nat) (ns : List (List Nd)) (w : World) (h : Parts w sb ns) (hn : ns.flatten.length ≤ 1000000) (hm : n = ns.length) (hn2 : n ≤ 1000) :
    Calls Try.prog 47 #[.slice (some ⟨sb, 0, none⟩) n n] w (CatN w ns.flatten) := by
  have HP : Hid (Parts w sb ns ∧ n = ns.length ∧ ns.flatten.length ≤ 1000000) := ⟨h, hm, hn⟩
  clear h hm hn
  go_enter Try.func47, Try.ntmps47
  go_wp2_with fail
  go_loopw [3, 11] (fun s i wr => ∃ (k x : Nat), k ≤ n ∧ i = .int .i64 k ∧ s = .int .i64 x ∧ Hid (x = (ns.take k).flatten.length) ∧ x ≤ 1000000 ∧ Below w.heap.size w wr) (fun _ i _ => n - (intOf i).toNat)
  case atStart => exact ⟨0, 0, Nat.zero_le _, rfl, rfl, rfl, by omega, Below.refl _ _⟩
  case round =>
    obtain ⟨k, x, hk, rfl, rfl, HX, hxl, hb0⟩ := hrel
    have hs0 := hb0.size
    by_cases hlt : k < n
    · obtain ⟨y, hy⟩ : ∃ y, ns[k]? = some y := ⟨_, List.getElem?_eq_getElem (by have := HP.out.2.1; omega)⟩
      obtain ⟨b, o, c, c0, _⟩ := (HP.out.1.below hb0).at_ k y hy
      have HX2 : Hid (x + y.length = (ns.take (k + 1)).flatten.length) := by
        show _ = _
        rw [flat_take hy, List.length_append, ← HX.out]
      have hx2 : x + y.length ≤ 1000000 := by
        have h1 := HX2.out
        have h2 := flat_le ns (k + 1)
        have h3 := HP.out.2.2
        omega
      clear hy
      have zk : (k : Int) < (n : Int) := by omega
      have zz : ¬ (x : Int) + (y.length : Int) < 0 := by omega
      go_wp2_with fail
      go_roundw
      case rel => exact ⟨k + 1, x + y.length, by omega, by go_num, by go_num, HX2, hx2, hb0⟩
      case measure => simp [intOf]; omega
    · have zk : ¬ (k : Int) < (n : Int) := by omega
      go_wp2_with fail
      refine (growN_core x _ (by omega)).mono ?_
      rintro e w1 ⟨v, rfl, hO1, hb1⟩
      have HO1 : Hid (w1.ownsRow wr.heap.size 48 7 v 0 [] ∧ Below w.heap.size w w1) := ⟨hO1, hb0.trans (hb1.mono hs0)⟩
      have hs1 := hb1.size
      clear hO1 hb1
      obtain ⟨B0, hB0⟩ : ∃ B0, B0 = wr.heap.size := ⟨_, rfl⟩
      rw [← hB0] at HO1
      have hB1 : w.heap.size ≤ B0 ∧ B0 ≤ w1.heap.size := by omega
      clear hB0
      go_wp2_with fail
      go_loopw [6, 27] (fun ov i wr => ∃ (k : Nat) (v : Value), k ≤ n ∧ i = .int .i64 k ∧ ov = v ∧ Hid (wr.ownsRow B0 48 7 v ((ns.take k).flatten).length (cellsN ((ns.take k).flatten))) ∧ B0 ≤ wr.heap.size ∧ Below w.heap.size w wr) (fun _ i _ => n - (intOf i).toNat)
      case atStart => exact ⟨0, v, Nat.zero_le _, rfl, rfl, HO1.out.1, hB1.2, HO1.out.2⟩
      case round =>
        obtain ⟨v0, hv0⟩ : ∃ v0 : Value, v0 = u6 := ⟨_, rfl⟩
        subst hv0
        obtain ⟨k, v, hk, rfl, hov, HO, hBr, hb⟩ := hrel
        rw [← hov] at HO
        clear hov
        have hs := hb.size
        by_cases hlt : k < n
        · obtain ⟨y, hy⟩ : ∃ y, ns[k]? = some y := ⟨_, List.getElem?_eq_getElem (by have := HP.out.2.1; omega)⟩
          obtain ⟨b, o, c, c0, hE, _⟩ := (HP.out.1.below hb).at_ k y hy
          have HD : Hid (ns[k]? = some y ∧ NdsAt wr b o y ∧ ((ns.take k).flatten).length + y.length ≤ 2 ^ 30) := by
            refine ⟨hy, hE, ?_⟩
            have h1 := flat_le ns (k + 1)
            rw [flat_take hy, List.length_append] at h1
            have := HP.out.2.2
            omega
          clear hy hE
          have zk : (k : Int) < (n : Int) := by omega
          go_wp2_with (at_builtin; refine wpList_append_ndV _ rfl _ _ rfl B0 v0 b o y.length c ((ns.take k).flatten) y rfl rfl rfl HO.out HD.out.2.1 HD.out.2.2 ?hb ?_)
          case hb => omega
          intro v' w2 hO' hgr
          have HN : Hid (w2.ownsRow B0 48 7 v' ((ns.take (k + 1)).flatten).length (cellsN ((ns.take (k + 1)).flatten))) := by
            show World.ownsRow _ _ _ _ _ _ _
            rw [flat_take HD.out.1]
            simpa using hO'
          have hb2 : Below w.heap.size w w2 := hb.grown hgr hs (fun q hq => by have := (World.ownsRow.lt HO.out q hq).1; omega)
          have hB2 : B0 ≤ w2.heap.size := by have := hgr.size; omega
          clear hO' hgr
          go_wp2_with fail
          go_roundw
          case rel => exact ⟨k + 1, v', by omega, by go_num, rfl, HN, hB2, hb2⟩
          case measure => simp [intOf]; omega
        · have zk : ¬ (k : Int) < (n : Int) := by omega
          have HF : Hid (wr.ownsRow w.heap.size 48 7 v0 ns.flatten.length (cellsN ns.flatten)) := by
            have h1 := HO.out
            rw [List.take_of_length_le (by have := HP.out.2.1; omega)] at h1
            refine ⟨h1.1, ?_⟩
            rcases h1.2 with q | ⟨g', cap', cur, hv, h2, rest⟩
            · exact .inl q
            · exact .inr ⟨g', cap', cur, hv, by omega, rest⟩
          go_wp2_with fail
          go_ret
          exact ⟨v0, rfl, HF.out, hb⟩
end Go.Proofs.Ytiaokgoppjindaa

