import Derived.Deep.RegionLaw
import Derived.Deep.AppendLies
import Derived.Test.YtnncedndlhfdkabPkAB
import Derived.Test.YtnncedndlhfdkabPkAE
/-
  Nodes that come in: lists of nodes and filters opened, copied and compared.
-/
namespace Go.Proofs.Ytnncedndlhfdkab
open Go.ChangeShapes Go.WideShapes Go.ChangeAt Go.RowKit Go.Deep
set_option linter.unusedVariables false
set_option linter.unusedSimpArgs false
set_option maxRecDepth 100000

theorem Try.cellsNd : Try.prog.cellsOf 119 = 7 := by kernel_rfl
theorem list7 {α : Type} {cs : List α} (h : cs.length = 7) : ∃ c0 c1 c2 c3 c4 c5 c6, cs = [c0, c1, c2, c3, c4, c5, c6] := by
  match cs, h with
  | [c0, c1, c2, c3, c4, c5, c6], _ => exact ⟨c0, c1, c2, c3, c4, c5, c6, rfl⟩
theorem nd_of_trod {H : Type} {enc : TypeId × Value → H} {w : World} {base : Nat} {spare : Nat → Bool} {held : Bool} {fuel : Nat} {cs : List Value} {x : DataW H × List MemPlace}
    (h : DataW.trod enc Try.prog w base spare held fuel 119 cs = some x) : ∃ e : Nd, e.ok ∧ cs = e.seven := by
  obtain ⟨xs, n, _, _, hl, hlen, hf⟩ := DataW.trod_struct Try.underlying119 h
  rw [Try.cellsNd] at hl
  obtain ⟨c0, c1, c2, c3, c4, c5, c6, rfl⟩ := list7 hl
  obtain ⟨x0, x1, x2, x3, x4, x5, x6, rfl⟩ := list7 (cs := xs) hlen
  have h0 := hf 0 _ rfl
  have h1 := hf 1 _ rfl
  have h2 := hf 2 _ rfl
  have h3 := hf 3 _ rfl
  have h4 := hf 4 _ rfl
  have h5 := hf 5 _ rfl
  have h6 := hf 6 _ rfl
  simp [Try.cellsStr, Try.cellsU64, Try.cellsI64, Try.cellsBool] at h0 h1 h2 h3 h4 h5 h6
  obtain ⟨a0, e0, _, b0⟩ := DataW.trod_int Try.underlying2 h0
  obtain ⟨a1, e1, _, b1⟩ := DataW.trod_string Try.underlying9 h1
  obtain ⟨a2, e2, _⟩ := DataW.trod_bool Try.underlying4 h2
  obtain ⟨a3, e3, _, b3⟩ := DataW.trod_string Try.underlying9 h3
  obtain ⟨a4, e4, _, b4⟩ := DataW.trod_int Try.underlying60 h4
  obtain ⟨a5, e5, _, b5⟩ := DataW.trod_int Try.underlying60 h5
  obtain ⟨a6, e6, _, b6⟩ := DataW.trod_int Try.underlying2 h6
  simp only [List.cons.injEq, and_true] at e0 e1 e2 e3 e4 e5 e6
  exact ⟨⟨a0, a1, a2, a3, a4, a5, a6⟩, ⟨b1, b3, b0, b4, b5, b6⟩, by rw [e0, e1, e2, e3, e4, e5, e6]⟩

/-- What is read of a slice of cells that came in. -/
def InNds (w : World) (v : Value) (es : List Nd) : Prop :=
  (∃ a cap, v = .slice a 0 cap ∧ es = []) ∨
  ∃ b off cap, v = .slice (some ⟨b, off, none⟩) es.length cap ∧ NdsAt w b off es ∧ b < w.heap.size ∧ es.length ≤ cap ∧ cap ≤ maxLen
theorem InNds.below {B : Nat} {w w' : World} {v : Value} {es : List Nd} (h : InNds w v es) (hb : Below B w w') (hB : w.heap.size ≤ B) : InNds w' v es := by
  rcases h with h | ⟨b, off, cap, hv, hE, hlt, h1, h2⟩
  · exact .inl h
  · exact .inr ⟨b, off, cap, hv, hE.below hb (by omega), by have := hb.size; omega, h1, h2⟩
theorem nds_of_trod {H : Type} {enc : TypeId × Value → H} {w : World} {base : Nat} {held : Bool} {fuel : Nat} {v : Value} {x : DataW H × List MemPlace}
    (h : DataW.trod enc Try.prog w base (fun _ => true) held fuel 49 [v] = some x) : ∃ es : List Nd, InNds w v es ∧ ∀ e ∈ es, e.ok := by
  rcases open_slice Try.underlying49 h with ⟨hcs, _⟩ | ⟨a, len, cap, m, n, D, Pl, hcs, hba, hl, hm, hmm, _, hel⟩
  · simp only [List.cons.injEq, and_true] at hcs
    exact ⟨[], .inl ⟨none, 0, hcs, rfl⟩, by simp⟩
  · simp only [List.cons.injEq, and_true] at hcs
    subst hcs
    rw [if_pos rfl] at hmm
    subst hmm
    have hel6 : ∀ i, i < m → ∃ cs', w.cells? base (a.add (i * 7)) 7 = some cs' ∧ DataW.trod enc Try.prog w base (fun _ => true) held n 119 cs' = some (D i, Pl i) := fun i hi => by
      have := hel i hi
      rw [Try.cellsNd] at this
      exact this
    clear hel
    have HM : Hid (m ≤ maxLen) := hm
    clear hm
    by_cases h0 : len = 0
    · subst h0; exact ⟨[], .inl ⟨_, _, rfl, rfl⟩, by simp⟩
    · obtain ⟨b, off, spot⟩ := a
      have hspot : spot = none := by
        obtain ⟨cs', hc, _⟩ := hel6 0 (by omega)
        obtain ⟨_, hlen, hget⟩ := World.cells?_some hc
        have h1 := hget 0 (by omega)
        have h2 : (w.cell? ((Addr.add ⟨b, off, spot⟩ (0 * 7)).add 0)).isSome = true := by rw [h1]; simp; omega
        obtain ⟨u, hu⟩ := Option.isSome_iff_exists.1 h2
        simpa [Addr.add] using World.cell?_spot hu
      subst hspot
      obtain ⟨es, hes, hp⟩ := list_of_forall (P := fun i (e : Nd) => e.ok ∧ (w.cell? ⟨b, off + i * 7, none⟩ = some (.int .i64 e.kind) ∧ w.cell? ⟨b, off + i * 7 + 1, none⟩ = some (.string e.s) ∧ w.cell? ⟨b, off + i * 7 + 2, none⟩ = some (.bool e.hi) ∧ w.cell? ⟨b, off + i * 7 + 3, none⟩ = some (.string e.t) ∧ w.cell? ⟨b, off + i * 7 + 4, none⟩ = some (.int .u64 e.lo) ∧ w.cell? ⟨b, off + i * 7 + 5, none⟩ = some (.int .u64 e.up) ∧ w.cell? ⟨b, off + i * 7 + 6, none⟩ = some (.int .i64 e.n))) len (fun i hi => by
        obtain ⟨cs', hc, ht⟩ := hel6 i (by omega)
        obtain ⟨e, ok, rfl⟩ := nd_of_trod ht
        obtain ⟨_, hlen, hget⟩ := World.cells?_some hc
        refine ⟨e, ok, ?_, ?_, ?_, ?_, ?_, ?_, ?_⟩
        · simpa [Addr.add_mid] using hget 0 (by omega)
        · simpa [Addr.add_mid] using hget 1 (by omega)
        · simpa [Addr.add_mid] using hget 2 (by omega)
        · simpa [Addr.add_mid] using hget 3 (by omega)
        · simpa [Addr.add_mid] using hget 4 (by omega)
        · simpa [Addr.add_mid] using hget 5 (by omega)
        · simpa [Addr.add_mid] using hget 6 (by omega))
      have hlt : b < w.heap.size := by
        obtain ⟨cs', hc, _⟩ := hel6 0 (by omega)
        simpa [Addr.add] using World.cells?_block hc (by omega)
      subst hes
      refine ⟨es, .inr ⟨b, off, m, rfl, fun i e he => (hp i e he).2, hlt, hl, HM.out⟩, fun e he => ?_⟩
      obtain ⟨i, hi⟩ := List.getElem?_of_mem he
      exact (hp i e hi).1

set_option maxHeartbeats 400000 in
theorem szNodeS_core (b off cap : Nat) (es : List Nd) (left : Int) (w : World) (hE : NdsAt w b off es) (hok : ∀ e ∈ es, e.ok) (hB : b < w.heap.size) (hlen : es.length ≤ cap) (hcap : cap ≤ maxLen) (h0 : 0 ≤ left) (h1 : left ≤ 2 ^ 40) :
    Calls Try.prog 61 #[.slice (some ⟨b, off, none⟩) es.length cap, .int .i64 left] w fun e w' =>
      ∃ x, e = .returned (.int .i64 x) ∧ (x = -1 ∨ (0 ≤ x ∧ x + es.length ≤ left)) ∧ Below w.heap.size w w' := by
  have HE : Hid (NdsAt w b off es) := hE
  have HO : Hid (∀ e ∈ es, e.ok) := hok
  clear hE hok
  unfold maxLen at hcap
  by_cases hle : left < es.length
  · have hle' : left - es.length < 0 := by omega
    go_enter Try.func61, Try.ntmps61
    go_wp2
    go_ret
    exact ⟨_, rfl, .inl rfl, Below.refl _ _⟩
  have hle' : 0 ≤ left - es.length := by omega
  go_enter Try.func61, Try.ntmps61
  go_wp2
  go_loopw [1, 5] (fun l i wr => ∃ (k : Nat) (x : Int), k ≤ es.length ∧ i = .int .i64 k ∧ l = .int .i64 x ∧ 0 ≤ x ∧ x + es.length ≤ left ∧ Below w.heap.size w wr) (fun _ i _ => es.length - (intOf i).toNat)
  case atStart => exact ⟨0, _, Nat.zero_le _, rfl, rfl, hle', by omega, Below.refl _ _⟩
  case round =>
    obtain ⟨k, x, hk, rfl, rfl, hx0, hx1, hb⟩ := hrel
    by_cases hlt : k < es.length
    · obtain ⟨e, he⟩ : ∃ e, es[k]? = some e := ⟨_, List.getElem?_eq_getElem hlt⟩
      obtain ⟨c0, c1, c2, c3, c4, c5, c6⟩ := (HE.out.below hb hB) k e he
      have ok := HO.out e (List.mem_of_getElem? he)
      have HK : Hid e.ok := ok
      clear ok he
      go_wp2_with fail
      refine (szNode_core e _ _ HK.out (by omega) (by omega)).mono ?_
      rintro e w1 ⟨y, rfl, hy, hb1⟩
      have hsz := hb.size
      have hb2 := hb.trans (hb1.mono hsz)
      clear c0 c1 c2 c3 c4 c5 c6 hb1
      by_cases hy0 : y < 0
      · go_wp2_with fail
        go_ret
        exact ⟨_, rfl, .inl rfl, hb2⟩
      · have hy1 : 0 ≤ y := by omega
        have hy2 : y + es.length ≤ left := by omega
        go_wp2_with fail
        go_roundw
        case rel => exact ⟨k + 1, y, by omega, by go_num, rfl, hy1, hy2, hb2⟩
        case measure => simp [intOf]; omega
    · go_wp2
      go_ret
      exact ⟨_, rfl, .inr ⟨hx0, hx1⟩, hb⟩
set_option maxHeartbeats 400000 in
theorem szNodeS_zero (a : Option Addr) (cap : Nat) (left : Int) (w : World) (h0 : 0 ≤ left) (h1 : left ≤ 2 ^ 40) :
    Calls Try.prog 61 #[.slice a 0 cap, .int .i64 left] w fun e w' => e = .returned (.int .i64 left) ∧ Below w.heap.size w w' := by
  go_enter Try.func61, Try.ntmps61
  go_wp2
  go_loopw [1, 5] (fun l i wr => l = .int .i64 left ∧ i = .int .i64 0 ∧ Below w.heap.size w wr) (fun _ i _ => 0)
  case atStart => exact ⟨rfl, rfl, Below.refl _ _⟩
  case round =>
    obtain ⟨rfl, rfl, hb⟩ := hrel
    go_wp2_with fail
    go_ret
    exact ⟨rfl, hb⟩
theorem szNodeS_any (v : Value) (es : List Nd) (left : Int) (w : World) (h : InNds w v es) (hok : ∀ e ∈ es, e.ok) (h0 : 0 ≤ left) (h1 : left ≤ 2 ^ 40) :
    Calls Try.prog 61 #[v, .int .i64 left] w fun e w' =>
      ∃ x, e = .returned (.int .i64 x) ∧ (x = -1 ∨ (0 ≤ x ∧ x + es.length ≤ left)) ∧ Below w.heap.size w w' := by
  rcases h with ⟨a, cap, rfl, rfl⟩ | ⟨b, off, cap, rfl, hE, hlt, g1, g2⟩
  · exact (szNodeS_zero a cap left w h0 h1).mono fun e w' ⟨he, hb⟩ => ⟨left, he, .inr ⟨h0, by simp⟩, hb⟩
  · exact szNodeS_core b off cap es left w hE hok hlt g1 g2 h0 h1

theorem made_zeroN (n : Nat) : (madeCells #[.int .i64 0, .string ⟨#[]⟩, .bool false, .string ⟨#[]⟩, .int .u64 0, .int .u64 0, .int .i64 0] (n * 7)).toList = cellsN (List.replicate n zeroN) := by
  apply List.ext_getElem?
  intro j
  by_cases hj : j < n * 7
  · have h := cellsN_get (List.replicate n zeroN) (j / 7) zeroN (by rw [List.getElem?_replicate, if_pos (by omega)]) (j % 7) (Nat.mod_lt _ (by omega))
    rw [show j / 7 * 7 + j % 7 = j by omega] at h
    rw [h]
    have h6 : j % 7 < 7 := Nat.mod_lt _ (by omega)
    simp [madeCells, hj]
    generalize j % 7 = m at *
    match m, h6 with
    | 0, _ => rfl
    | 1, _ => rfl
    | 2, _ => rfl
    | 3, _ => rfl
    | 4, _ => rfl
    | 5, _ => rfl
    | 6, _ => rfl
  · have h1 : (cellsN (List.replicate n zeroN)).length ≤ j := by rw [length_cellsN, List.length_replicate]; omega
    rw [List.getElem?_eq_none h1]
    simp [madeCells, hj]
set_option maxHeartbeats 400000 in
theorem toNodeS_core (b off cap : Nat) (es : List Nd) (w : World) (hE : NdsAt w b off es) (hB : b < w.heap.size) (hlen : es.length ≤ cap) (hcap : cap ≤ maxLen) (h1 : es.length ≤ 1048576) :
    Calls Try.prog 65 #[.slice (some ⟨b, off, none⟩) es.length cap] w fun e w' =>
      ∃ g, e = .returned (.slice (some ⟨g, 0, none⟩) es.length es.length) ∧ OwnNd w' w.heap.size g es.length es ∧ Below w.heap.size w w' := by
  have HE : Hid (NdsAt w b off es) := hE
  clear hE
  unfold maxLen at hcap
  obtain ⟨i, hi, hz0, hz1, hz2⟩ := info_parts Try.infoNd
  have HI : Hid (Try.prog.info? 98 = some i ∧ i.zero = some (.agg #[.int .i64 0, .string ⟨#[]⟩, .bool false, .string ⟨#[]⟩, .int .u64 0, .int .u64 0, .int .i64 0]) ∧ i.size = 7 ∧ i.bytes = 72) := ⟨hi, hz0, hz1, hz2⟩
  clear hi hz0 hz1 hz2
  go_enter Try.func65, Try.ntmps65
  go_wp2_with (at_make; refine wpList_make_full _ rfl _ _ 54 rfl w.heap.size 98 i _ 7 Try.underlying54 HI.out.1 HI.out.2.1 HI.out.2.2.1 _ _ _ _ es.length rfl rfl ?_ ?_ ?hb ?hm ?hs ?_)
  case hb => rw [HI.out.2.2.2]; omega
  case hm => unfold maxLen; omega
  case hs => exact Nat.le_refl _
  · rfl
  · rfl
  intro w1 hown hgrow
  rw [made_zeroN] at hown
  have hown1 : OwnNd w1 w.heap.size w.heap.size es.length (List.replicate es.length zeroN) := by
    unfold OwnNd; rw [List.length_replicate]; exact hown
  have HW : Hid (OwnNd w1 w.heap.size w.heap.size es.length (List.replicate es.length zeroN)) := hown1
  have hb1 : Below w.heap.size w w1 := (Below.refl _ _).grown hgrow (Nat.le_refl _) (fun k hk => by cases hk)
  clear hown hown1 hgrow
  go_wp2_with fail
  go_loopw [4] (fun i wr => ∃ (k : Nat) (fs : List Nd), k ≤ es.length ∧ i = .int .i64 k ∧ fs.length = es.length ∧ fs.take k = es.take k ∧ OwnNd wr w.heap.size w.heap.size es.length fs ∧ Below w.heap.size w wr) (fun i _ => es.length - (intOf i).toNat)
  case atStart => exact ⟨0, _, Nat.zero_le _, rfl, List.length_replicate .., rfl, HW.out, hb1⟩
  case round =>
    obtain ⟨k, fs, hk, rfl, hfl, hft, hO, hb⟩ := hrel
    have HO : Hid (fs.length = es.length ∧ fs.take k = es.take k ∧ OwnNd wr w.heap.size w.heap.size es.length fs) := ⟨hfl, hft, hO⟩
    clear hfl hft hO
    by_cases hlt : k < es.length
    · obtain ⟨e, he⟩ : ∃ e, es[k]? = some e := ⟨_, List.getElem?_eq_getElem hlt⟩
      obtain ⟨c0, c1, c2, c3, c4, c5, c6⟩ := (HE.out.below hb hB) k e he
      have HG : Hid (es[k]? = some e) := he
      clear he
      go_wp2_with fail
      refine (toNode_core e _).mono ?_
      rintro e' w2 ⟨rfl, hb2⟩
      have hO2 := (HO.out.2.2).below hb2 (HO.out.2.2).lt.2
      obtain ⟨f, hf⟩ : ∃ f, fs[k]? = some f := ⟨_, List.getElem?_eq_getElem (by rw [HO.out.1]; exact hlt)⟩
      obtain ⟨d0, d1, d2, d3, d4, d5, d6⟩ := hO2.at k f hf
      simp only [Nat.zero_add] at d0 d1 d2 d3 d4 d5 d6
      have hfz := fun j => World.ownsRow.frozenAt hO2 j
      have HO2 : Hid (OwnNd w2 w.heap.size w.heap.size es.length fs ∧ fs[k]? = some f) := ⟨hO2, hf⟩
      clear hO2 hf c0 c1 c2 c3 c4 c5 c6
      go_wp2_with fail
      go_roundw
      case rel => exact ⟨k + 1, fs.set k e, by omega, by go_num, by rw [List.length_set]; exact HO.out.1, takeN_succ HO.out.2.1 HO.out.1 HG.out, HO2.out.1.put k f e HO2.out.2, below_put7 (hb.trans (hb2.mono hb.size)) (Nat.le_refl _) _ _ _ _ _ _ _ _ _ _ _ _ _ _⟩
      case measure => simp [intOf]; omega
    · have hfs : fs = es := by
        have h := HO.out.2.1
        rw [List.take_of_length_le (by have := HO.out.1; omega), List.take_of_length_le (by omega)] at h
        exact h
      go_wp2
      go_ret
      exact ⟨_, rfl, by rw [← hfs] at HO ⊢; exact HO.out.2.2, hb⟩
set_option maxHeartbeats 400000 in
theorem toNodeS_zero (a : Option Addr) (cap : Nat) (w : World) :
    Calls Try.prog 65 #[.slice a 0 cap] w fun e w' =>
      ∃ g, e = .returned (.slice (some ⟨g, 0, none⟩) 0 0) ∧ OwnNd w' w.heap.size g 0 [] ∧ Below w.heap.size w w' := by
  obtain ⟨i, hi, hz0, hz1, hz2⟩ := info_parts Try.infoNd
  have HI : Hid (Try.prog.info? 98 = some i ∧ i.zero = some (.agg #[.int .i64 0, .string ⟨#[]⟩, .bool false, .string ⟨#[]⟩, .int .u64 0, .int .u64 0, .int .i64 0]) ∧ i.size = 7 ∧ i.bytes = 72) := ⟨hi, hz0, hz1, hz2⟩
  clear hi hz0 hz1 hz2
  go_enter Try.func65, Try.ntmps65
  go_wp2_with (at_make; refine wpList_make_full _ rfl _ _ 54 rfl w.heap.size 98 i _ 7 Try.underlying54 HI.out.1 HI.out.2.1 HI.out.2.2.1 _ _ _ _ 0 rfl rfl ?_ ?_ ?hb ?hm ?hs ?_)
  case hb => rw [HI.out.2.2.2]; omega
  case hm => unfold maxLen; omega
  case hs => exact Nat.le_refl _
  · rfl
  · rfl
  intro w1 hown hgrow
  have HW : Hid (OwnNd w1 w.heap.size w.heap.size 0 []) := by
    have h0 := made_zeroN 0
    rw [Nat.zero_mul] at h0
    rw [h0] at hown
    exact hown
  have hb1 : Below w.heap.size w w1 := (Below.refl _ _).grown hgrow (Nat.le_refl _) (fun k hk => by cases hk)
  clear hown hgrow
  go_wp2_with fail
  go_loopw [4] (fun i wr => i = .int .i64 0 ∧ wr = w1) (fun i _ => 0)
  case atStart => exact ⟨rfl, rfl⟩
  case round =>
    obtain ⟨rfl, rfl⟩ := hrel
    go_wp2_with fail
    go_ret
    exact ⟨_, rfl, HW.out, hb1⟩
theorem toNodeS_any (v : Value) (es : List Nd) (w : World) (h : InNds w v es) (h1 : es.length ≤ 1048576) :
    Calls Try.prog 65 #[v] w fun e w' =>
      ∃ g, e = .returned (.slice (some ⟨g, 0, none⟩) es.length es.length) ∧ OwnNd w' w.heap.size g es.length es ∧ Below w.heap.size w w' := by
  rcases h with ⟨a, cap, rfl, rfl⟩ | ⟨b, off, cap, rfl, hE, hlt, g1, g2⟩
  · exact toNodeS_zero a cap w
  · exact toNodeS_core b off cap es w hE hlt g1 g2 h1
set_option maxHeartbeats 1000000 in
theorem eqNodeS_same (b off cap b' off' cap' : Nat) (es : List Nd) (w : World) (hE : NdsAt w b off es) (hE' : NdsAt w b' off' es) (hB : b < w.heap.size) (hB' : b' < w.heap.size) (hlen : es.length ≤ maxLen) :
    Calls Try.prog 68 #[.slice (some ⟨b, off, none⟩) es.length cap, .slice (some ⟨b', off', none⟩) es.length cap'] w fun e w' =>
      e = .returned (.bool true) ∧ Below w.heap.size w w' := by
  have HE : Hid (NdsAt w b off es ∧ NdsAt w b' off' es) := ⟨hE, hE'⟩
  clear hE hE'
  unfold maxLen at hlen
  go_enter Try.func68, Try.ntmps68
  go_wp2
  go_loopw [5] (fun i wr => ∃ (k : Nat), k ≤ es.length ∧ i = .int .i64 k ∧ Below w.heap.size w wr) (fun i _ => es.length - (intOf i).toNat)
  case atStart => exact ⟨0, Nat.zero_le _, rfl, Below.refl _ _⟩
  case round =>
    obtain ⟨k, hk, rfl, hb⟩ := hrel
    have hs2 := hb.size
    by_cases hlt : k < es.length
    · obtain ⟨e, he⟩ : ∃ e, es[k]? = some e := ⟨_, List.getElem?_eq_getElem hlt⟩
      obtain ⟨c0, c1, c2, c3, c4, c5, c6⟩ := HE.out.1.below hb hB k e he
      obtain ⟨d0, d1, d2, d3, d4, d5, d6⟩ := HE.out.2.below hb hB' k e he
      clear he
      go_upto_region 6 with fail
      go_cut [26] (fun s wx => s = .bool false ∧ Below w.heap.size w wx)
      case first =>
        have z2 : (k : Int) < (es.length : Int) := by omega
        go_region_with (go_at_call 89; refine (eqNode_same e _).mono ?_; rintro e' w' ⟨rfl, hbb⟩)
        all_goals go_wp2_with fail
        all_goals go_meet
        all_goals exact ⟨rfl, hb.drew.trans (hbb.mono (by simp; omega))⟩
      case rest =>
      obtain ⟨rfl, h3⟩ := hcut
      clear c0 c1 c2 c3 c4 c5 c6 d0 d1 d2 d3 d4 d5 d6
      go_wp2_with fail
      go_roundw
      case rel => exact ⟨k + 1, by omega, by go_num, h3⟩
      case measure => simp [intOf]; omega
    · go_wp2_with fail
      go_ret
      exact ⟨rfl, hb⟩
theorem eqNodeS_own {w : World} {base g cp base' g' cp' : Nat} {es : List Nd} (h : OwnNd w base g cp es) (h' : OwnNd w base' g' cp' es) :
    Calls Try.prog 68 #[.slice (some ⟨g, 0, none⟩) es.length cp, .slice (some ⟨g', 0, none⟩) es.length cp'] w fun e w' => e = .returned (.bool true) ∧ Below w.heap.size w w' :=
  eqNodeS_same g 0 cp g' 0 cp' es w h.at h'.at h.lt.2 h'.lt.2 (Nat.le_trans h.caps.1 h.caps.2)
set_option maxHeartbeats 400000 in
theorem eqNodeS_zero (a a' : Option Addr) (cap cap' : Nat) (w : World) :
    Calls Try.prog 68 #[.slice a 0 cap, .slice a' 0 cap'] w fun e w' => e = .returned (.bool true) ∧ Below w.heap.size w w' := by
  go_enter Try.func68, Try.ntmps68
  go_wp2
  go_loopw [5] (fun i wr => i = .int .i64 0 ∧ Below w.heap.size w wr) (fun i _ => 0)
  case atStart => exact ⟨rfl, Below.refl _ _⟩
  case round =>
    obtain ⟨rfl, hb⟩ := hrel
    go_wp2_with fail
    go_ret
    exact ⟨rfl, hb⟩
theorem InNds.own {w : World} {base g n cap : Nat} {es : List Nd} (h : OwnNd w base g cap es) (hn : n = es.length) : InNds w (.slice (some ⟨g, 0, none⟩) n cap) es := by
  subst hn
  exact .inr ⟨g, 0, cap, rfl, h.at, h.lt.2, h.caps.1, h.caps.2⟩
theorem eqNodeS_any (u u' : Value) (es : List Nd) (w : World) (h : InNds w u es) (h' : InNds w u' es) :
    Calls Try.prog 68 #[u, u'] w fun e w' => e = .returned (.bool true) ∧ Below w.heap.size w w' := by
  rcases h with ⟨a, cap, rfl, rfl⟩ | ⟨b, off, cap, rfl, hE, hlt, g1, g2⟩
  · rcases h' with ⟨a', cap', rfl, _⟩ | ⟨b', off', cap', rfl, hE', hlt', g1', g2'⟩
    · exact eqNodeS_zero a a' cap cap' w
    · exact eqNodeS_zero a _ cap cap' w
  · rcases h' with ⟨a', cap', rfl, rfl⟩ | ⟨b', off', cap', rfl, hE', hlt', g1', g2'⟩
    · exact eqNodeS_zero _ a' cap cap' w
    · exact eqNodeS_same b off cap b' off' cap' es w hE hE' hlt hlt' (Nat.le_trans g1 g2)
set_option maxRecDepth 100000 in
theorem open_filter {H : Type} {enc : TypeId × Value → H} {w : World} {base b0 : Nat} {held : Bool} {r : Reach} {v : Value} {d : DataW H} {p : List MemPlace}
    (hv : Value.okWide Try.prog w r b0 51 v) (h : DataW.Trod enc Try.prog w base (fun _ => true) held 51 v d p) :
    ∃ (u : Value) (es : List Nd), v = .agg #[u] ∧ InNds w u es ∧ ∀ e ∈ es, e.ok := by
  obtain ⟨cs, rfl, hsz⟩ := okWide_struct Try.underlying51 hv
  obtain ⟨fuel, hf⟩ := h
  obtain ⟨y0, n, _, hl, h0⟩ := trod_struct1 Try.underlying51 hf
  have h1 : Try.prog.cellsOf 51 = 1 := by kernel_rfl
  have h2 : Try.prog.cellsOf 49 = 1 := by kernel_rfl
  rw [h1] at hsz
  obtain ⟨l⟩ := cs
  match l, hsz with
  | [u], _ =>
    simp [h2, Value.cells] at h0
    obtain ⟨es, he, ok⟩ := nds_of_trod h0
    exact ⟨u, es, rfl, he, ok⟩

set_option maxHeartbeats 400000 in
theorem szFilter_any (u : Value) (es : List Nd) (left : Int) (w : World) (h : InNds w u es) (hok : ∀ e ∈ es, e.ok) (h0 : 0 ≤ left) (h1 : left ≤ 2 ^ 40) :
    Calls Try.prog 30 #[.agg #[u], .int .i64 left] w fun e w' =>
      ∃ x, e = .returned (.int .i64 x) ∧ (x = -1 ∨ (0 ≤ x ∧ x + es.length ≤ left)) ∧ Below w.heap.size w w' := by
  have HE : Hid (InNds w u es ∧ ∀ e ∈ es, e.ok) := ⟨h, hok⟩
  have hu : u.cells = #[u] := by
    rcases h with ⟨a, cap, rfl, _⟩ | ⟨b, off, cap, rfl, _⟩ <;> rfl
  clear h hok
  go_enter Try.func30, Try.ntmps30
  go_wp2_with fail
  refine (szNodeS_any u es left _ (HE.out.1.below ((Below.refl _ _).alloc (Nat.le_refl _) _) (Nat.le_refl _)) HE.out.2 h0 h1).mono ?_
  rintro e w1 ⟨x, rfl, hx, hb1⟩
  have k1 : Below w.heap.size w w1 := ((Below.refl _ _).alloc (Nat.le_refl _) (Obj.cells #[u] 51)).trans (hb1.mono (by simp))
  have HX : Hid (x = -1 ∨ (0 ≤ x ∧ x + es.length ≤ left)) := hx
  by_cases hx0 : x < 0
  · clear hx
    go_wp2_with fail
    go_ret
    exact ⟨_, rfl, .inl rfl, k1⟩
  · clear hx
    go_wp2_with fail
    go_ret
    exact ⟨_, rfl, HX.out, k1⟩

set_option maxHeartbeats 400000 in
theorem toFilter_any (u : Value) (es : List Nd) (w : World) (h : InNds w u es) (h1 : es.length ≤ 1048576) :
    Calls Try.prog 32 #[.agg #[u]] w fun e w' =>
      ∃ g, e = .returned (.agg #[.slice (some ⟨g, 0, none⟩) es.length es.length]) ∧ OwnNd w' w.heap.size g es.length es ∧ Below w.heap.size w w' := by
  have HE : Hid (InNds w u es) := h
  have hu : u.cells = #[u] := by
    rcases h with ⟨a, cap, rfl, _⟩ | ⟨b, off, cap, rfl, _⟩ <;> rfl
  clear h
  go_enter Try.func32, Try.ntmps32
  go_wp2_with fail
  refine (toNodeS_any u es _ (HE.out.below ((((Below.refl _ _).alloc (Nat.le_refl _) _).alloc (by simp) _).alloc (by simp; omega) _) (Nat.le_refl _)) h1).mono ?_
  rintro e w1 ⟨g, rfl, hO, hb1⟩
  obtain ⟨hc1, hf1⟩ := bcell hb1
  have k1 : Below w.heap.size w w1 := ((((Below.refl _ _).alloc (Nat.le_refl _) (Obj.cells #[u] 51)).alloc (by simp) (Obj.cells #[.slice none 0 0] 56)).alloc (by simp; omega) (Obj.cells #[.slice none 0 0] 56)).trans (hb1.mono (by simp; omega))
  have HO : Hid (OwnNd w1 (w.heap.size + 1 + 1 + 1) g es.length es) := by
    show OwnNd w1 (w.heap.size + 1 + 1 + 1) g es.length es
    simpa using hO
  clear hO
  go_wp2_with fail
  refine bodyPost_ret (v := .agg #[.slice (some ⟨g, 0, none⟩) es.length es.length]) (by simp [results, Try.results32, go_sem, hc1]) rfl ⟨g, rfl, ?_, ?_⟩
  · exact OwnNd.mono (ownsRow_setCell_below (ownsRow_setCell_below HO.out (by show w.heap.size + 1 + 1 < _; omega) _) (by show w.heap.size + 1 < _; omega) _) (by omega)
  · exact (k1.setCell (by show w.heap.size ≤ w.heap.size + 1 + 1; omega) _).setCell (by show w.heap.size ≤ w.heap.size + 1; omega) _

set_option maxHeartbeats 400000 in
theorem eqFilter_any (u u' : Value) (es : List Nd) (w : World) (h : InNds w u es) (h' : InNds w u' es) :
    Calls Try.prog 34 #[.agg #[u], .agg #[u']] w fun e w' => e = .returned (.bool true) ∧ Below w.heap.size w w' := by
  have HE : Hid (InNds w u es ∧ InNds w u' es) := ⟨h, h'⟩
  have hu : u.cells = #[u] := by
    rcases h with ⟨a, cap, rfl, _⟩ | ⟨b, off, cap, rfl, _⟩ <;> rfl
  have hu' : u'.cells = #[u'] := by
    rcases h' with ⟨a, cap, rfl, _⟩ | ⟨b, off, cap, rfl, _⟩ <;> rfl
  clear h h'
  go_enter Try.func34, Try.ntmps34
  go_wp2_with fail
  have k0 : Below w.heap.size w ((w.alloc (Obj.cells #[u] 56)).alloc (Obj.cells #[u'] 56)) := ((Below.refl _ _).alloc (Nat.le_refl _) _).alloc (by simp) _
  refine (eqNodeS_any u u' es _ (HE.out.1.below k0 (Nat.le_refl _)) (HE.out.2.below k0 (Nat.le_refl _))).mono ?_
  rintro e w1 ⟨rfl, hb1⟩
  go_wp2_with fail
  go_ret
  exact ⟨rfl, k0.trans (hb1.mono (by simp; omega))⟩
end Go.Proofs.Ytnncedndlhfdkab

/-
  spec.ValidFilter.
-/
namespace Go.Proofs.Ytnncedndlhfdkab
open Go.ChangeShapes Go.WideShapes Go.ChangeAt Go.RowKit Go.Deep
set_option linter.unusedVariables false
set_option linter.unusedSimpArgs false
set_option maxRecDepth 100000

open Classical in
/-- Whether a node is valid. -/
noncomputable def goodB (e : Nd) : Bool := decide (GoodN e)
theorem goodB_iff (e : Nd) : goodB e = true ↔ GoodN e := by unfold goodB; simp
/-- What ValidFilter says of nodes. -/
def GoodF (xs : List Nd) : Prop := xs.length ≤ 200 ∧ ∃ s, ShT goodB [s] xs ∧ s.valid = true ∧ s.nest ≤ 20
theorem goodF_all {xs : List Nd} (h : GoodF xs) : ∀ e ∈ xs, GoodN e := by
  obtain ⟨_, s, hs, hv, _⟩ := h
  have := ShT.valid goodB hs
  simp [hv] at this
  exact fun e he => (goodB_iff e).1 (this e he)
theorem sh_one {xs : List Nd} {s t : Shape} (h : ShT goodB [s] xs) (k : ShT goodB [t] xs) : s = t := by
  have a := ShT.fold goodB h []
  have b := ShT.fold goodB k []
  rw [a] at b
  simpa using b
def FltPost (xs : List Nd) (w : World) (r : Ending) (w' : World) : Prop := ∃ b, r = .returned (.bool b) ∧ (b = true ↔ GoodF xs) ∧ Below w.heap.size w w'
/-- Nodes in a window of memory. -/
structure WdN (w : World) (g o cp : Nat) (xs : List Nd) : Prop where
  nds : NdsAt w g o xs
  lt : g < w.heap.size
  caps : xs.length ≤ cp ∧ cp ≤ maxLen
theorem WdN.at {w : World} {g o cp : Nat} {xs : List Nd} (h : WdN w g o cp xs) : NdsAt w g o xs := h.nds
theorem WdN.below {B : Nat} {w w' : World} {g o cp : Nat} {xs : List Nd} (h : WdN w g o cp xs) (hb : Below B w w') (hg : g < B) : WdN w' g o cp xs :=
  ⟨h.at.below hb hg, by have := hb.size; have := h.lt; omega, h.caps⟩
theorem OwnNd.wd {w : World} {base g cp : Nat} {xs : List Nd} (h : OwnNd w base g cp xs) : WdN w g 0 cp xs := ⟨h.at, h.lt.2, h.caps⟩
set_option maxHeartbeats 4000000 in
theorem specFilter_win {w : World} {g o cp : Nat} {xs : List Nd} (h : WdN w g o cp xs) (hok : ∀ e ∈ xs, e.ok) : Calls Try.prog 31 #[.agg #[.slice (some ⟨g, o, none⟩) xs.length cp]] w (FltPost xs w) := by
  have HO : Hid (WdN w g o cp xs ∧ ∀ e ∈ xs, e.ok) := ⟨h, hok⟩
  have hg := h.lt
  have hcp := h.caps
  obtain ⟨n, hn⟩ : ∃ n, n = xs.length := ⟨_, rfl⟩
  have HN : Hid (n = xs.length) := hn
  rw [← hn] at hcp ⊢
  unfold maxLen at hcp
  clear h hok hn
  obtain ⟨W0, hW0⟩ : ∃ W0 : World, W0 = w.alloc (Obj.cells #[.slice (some ⟨g, o, none⟩) n cp] 56) := ⟨_, rfl⟩
  have HW0 : Hid (BoxAt W0 w.heap.size 56 1 w.heap.size [.slice (some ⟨g, o, none⟩) n cp] ∧ Below w.heap.size w W0) := by
    rw [hW0]; exact ⟨boxAt_new w _ (Nat.le_refl _) rfl, (Below.refl _ _).alloc (Nat.le_refl _) _⟩
  have c0 := HW0.out.1.cell (j := 0) rfl
  have s0 := HW0.out.2.size
  go_enter Try.func31, Try.ntmps31
  go_upto_region 1 with fail
  rw [← hW0]
  clear hW0
  by_cases hbig : 200 < n
  · have zb : (200 : Int) < (n : Int) := by omega
    have HF : Hid (¬ GoodF xs) := fun q => by have := q.1; have := HN.out; omega
    go_wp2_with fail
    go_ret
    exact ⟨_, rfl, by simp [HF.out], HW0.out.2⟩
  have zb : ¬ (200 : Int) < (n : Int) := by omega
  go_wp2_with fail
  clear c0
  go_loopw [3] (fun iv wr => ∃ (j : Nat), iv = .int .i64 (j : Int) ∧ j ≤ n ∧ (∀ e ∈ xs.take j, GoodN e) ∧ BoxAt wr w.heap.size 56 1 w.heap.size [.slice (some ⟨g, o, none⟩) n cp] ∧ Below w.heap.size w wr) (fun iv _ => n - (intOf iv).toNat)
  case atStart => exact ⟨0, rfl, Nat.zero_le _, by simp, HW0.out⟩
  case round =>
    obtain ⟨j, rfl, hj, hG, hB, hb⟩ := hrel
    have HJ : Hid ((∀ e ∈ xs.take j, GoodN e) ∧ BoxAt wr w.heap.size 56 1 w.heap.size [.slice (some ⟨g, o, none⟩) n cp] ∧ Below w.heap.size w wr) := ⟨hG, hB, hb⟩
    have c0 := hB.cell (j := 0) rfl
    have sr := hb.size
    clear hG hB hb HW0
    by_cases hlt : j < n
    · have zj : (j : Int) < (n : Int) := by omega
      obtain ⟨e, he⟩ : ∃ e, xs[j]? = some e := ⟨_, List.getElem?_eq_getElem (by have := HN.out; omega)⟩
      obtain ⟨d0, d1, d2, d3, d4, d5, d6⟩ := (HO.out.1.at.below HJ.out.2.2 hg) j e he
      have ok := HO.out.2 e (List.mem_of_getElem? he)
      have HE : Hid (e.s.size ≤ maxLen ∧ e.t.size ≤ maxLen ∧ e ∈ xs ∧ xs.take (j + 1) = xs.take j ++ [e]) := ⟨ok.s, ok.t, List.mem_of_getElem? he, by rw [List.take_add_one, he]; rfl⟩
      clear ok he
      go_wp2_with fail
      refine (good_core e wr HE.out.1 HE.out.2.1).mono ?_
      rintro r w2 ⟨b, rfl, hb, hb2⟩
      have HB : Hid (b = true ↔ GoodN e) := hb
      have HJ2 : Hid (BoxAt w2 w.heap.size 56 1 w.heap.size [.slice (some ⟨g, o, none⟩) n cp] ∧ Below w.heap.size w w2) := ⟨HJ.out.2.1.below hb2, HJ.out.2.2.trans (hb2.mono sr)⟩
      clear hb hb2 c0 d0 d1 d2 d3 d4 d5 d6
      cases b
      · have HF : Hid (¬ GoodF xs) := fun q => by
          have := HB.out.2 (goodF_all q e HE.out.2.2.1)
          cases this
        go_wp2_with fail
        go_ret
        exact ⟨_, rfl, by simp [HF.out], HJ2.out.2⟩
      · go_wp2_with fail
        go_roundw
        case rel =>
          refine ⟨j + 1, by go_num, by omega, ?_, HJ2.out.1, HJ2.out.2⟩
          intro e' he'
          rw [HE.out.2.2.2] at he'
          rcases List.mem_append.1 he' with h | h
          · exact HJ.out.1 e' h
          · simp at h; subst h; exact HB.out.1 (by first | rfl | trivial)
        case measure => simp [intOf]; omega
    · have zj : ¬ (j : Int) < (n : Int) := by omega
      have HA : Hid (∀ e ∈ xs, GoodN e) := by
        have h1 := HJ.out.1
        rw [List.take_of_length_le (by have := HN.out; omega)] at h1
        exact h1
      have hWin : Win wr g o cp xs := ⟨HO.out.1.at.below HJ.out.2.2 hg, by omega, by rw [← HN.out]; exact hcp.1, by omega, by have := HN.out; omega⟩
      have HT : Hid (Calls Try.prog 63 #[.slice (some ⟨g, o, none⟩) n cp] wr fun r w' => w' = wr ∧ ((r = .returned (.bool true) ∧ IsT 1 xs) ∨ (r = .returned (.bool false) ∧ ¬ IsT 1 xs))) := by
        rw [HN.out]; exact l5Tree_core hWin
      have HNe : Hid (∀ s, ShT goodB [s] xs → Calls Try.prog 64 #[.slice (some ⟨g, o, none⟩) n cp] wr fun r w' => r = .returned (.int .i64 (s.nest : Int)) ∧ Below wr.heap.size wr w') := fun s hs => by
        rw [HN.out]; exact nest_all goodB xs.length wr g o cp xs s (Nat.le_refl _) hWin hs
      clear hWin
      go_wp2_with fail
      refine HT.out.mono ?_
      rintro r w2 ⟨hw2, (⟨rfl, hT⟩ | ⟨rfl, hT⟩)⟩
      · rw [hw2]
        clear hw2
        obtain ⟨ss, hl, hs⟩ := IsT.shapes goodB hT
        obtain ⟨s, rfl⟩ : ∃ s, ss = [s] := by
          match ss, hl with
          | [s], _ => exact ⟨s, rfl⟩
        have HSh : Hid (ShT goodB [s] xs) := hs
        have HV : Hid (s.valid = true) := by
          show s.valid = true
          have h1 := ShT.valid goodB hs
          have h2 : xs.all goodB = true := List.all_eq_true.2 (fun e he => (goodB_iff e).2 (HA.out e he))
          rw [h2] at h1
          simpa using h1
        have HF : Hid (GoodF xs ↔ s.nest ≤ 20) := by
          show GoodF xs ↔ _
          constructor
          · rintro ⟨_, t, ht, _, hn⟩
            rw [sh_one hs ht]; exact hn
          · intro hn
            exact ⟨by have := HN.out; omega, s, hs, HV.out, hn⟩
        clear hT hl hs
        go_wp2_with fail
        refine (HNe.out s HSh.out).mono ?_
        rintro r w3 ⟨rfl, hb3⟩
        have HB3 : Hid (Below w.heap.size w w3) := HJ.out.2.2.trans (hb3.mono sr)
        clear hb3 c0
        go_wp2_with fail
        go_ret
        exact ⟨_, rfl, by rw [HF.out]; simp <;> omega, HB3.out⟩
      · rw [hw2]
        clear hw2
        have HF : Hid (¬ GoodF xs) := fun q => by
          obtain ⟨_, s, hs, _⟩ := q
          exact hT hs.tree
        clear hT
        go_wp2_with fail
        go_ret
        exact ⟨_, rfl, by simp [HF.out], HJ.out.2.2⟩
theorem specFilter_core {w : World} {base g cp : Nat} {xs : List Nd} (h : OwnNd w base g cp xs) (hok : ∀ e ∈ xs, e.ok) (hc : cp ≤ 281474976710656) : Calls Try.prog 31 #[.agg #[.slice (some ⟨g, 0, none⟩) xs.length cp]] w (FltPost xs w) := specFilter_win h.wd hok
end Go.Proofs.Ytnncedndlhfdkab

/-
  impl.operandCount, strength, inParens, shapeOf.
-/
namespace Go.Proofs.Ytnncedndlhfdkab
open Go.ChangeShapes Go.WideShapes Go.ChangeAt Go.RowKit Go.Deep
set_option linter.unusedVariables false
set_option linter.unusedSimpArgs false
set_option linter.unnecessarySimpa false
set_option maxRecDepth 100000

set_option maxHeartbeats 1000000 in
theorem operandCount_core (k : Int) (w : World) : Calls Try.prog 86 #[.int .i64 k] w fun e w' => e = .returned (.int .i64 (arity k : Int)) ∧ w' = w := by
  by_cases h14 : k = 14
  · subst h14
    go_enter Try.func86, Try.ntmps86
    go_wp2_with fail
    go_ret
    exact ⟨rfl, rfl⟩
  by_cases h15 : k = 15
  · subst h15
    go_enter Try.func86, Try.ntmps86
    go_wp2_with fail
    go_ret
    exact ⟨rfl, rfl⟩
  by_cases h16 : k = 16
  · subst h16
    go_enter Try.func86, Try.ntmps86
    go_wp2_with fail
    go_ret
    exact ⟨rfl, rfl⟩
  have z14 : (k == 14) = false := by simpa using h14
  have z15 : (k == 15) = false := by simpa using h15
  have z16 : (k == 16) = false := by simpa using h16
  have H : Hid (arity k = 0) := by show arity k = 0; unfold arity; rw [if_neg (by omega), if_neg h16]
  go_enter Try.func86, Try.ntmps86
  go_wp2_with fail
  go_ret
  exact ⟨by rw [H.out]; rfl, rfl⟩
set_option maxHeartbeats 1000000 in
theorem strength_core (k : Int) (w : World) : Calls Try.prog 108 #[.int .i64 k] w fun e w' => e = .returned (.int .i64 (strong k : Int)) ∧ w' = w := by
  by_cases h15 : k = 15
  · subst h15
    go_enter Try.func108, Try.ntmps108
    go_wp2_with fail
    go_ret
    exact ⟨rfl, rfl⟩
  by_cases h14 : k = 14
  · subst h14
    go_enter Try.func108, Try.ntmps108
    go_wp2_with fail
    go_ret
    exact ⟨rfl, rfl⟩
  have z14 : (k == 14) = false := by simpa using h14
  have z15 : (k == 15) = false := by simpa using h15
  have H : Hid (strong k = 3) := by show strong k = 3; unfold strong; rw [if_neg h15, if_neg h14]
  go_enter Try.func108, Try.ntmps108
  go_wp2_with fail
  go_ret
  exact ⟨by rw [H.out]; rfl, rfl⟩
set_option maxHeartbeats 1000000 in
theorem inParens_core (op : Int) (i : Nat) (kid : Int) (w : World) (hop : ¬ op = 16) : Calls Try.prog 88 #[.int .i64 op, .int .i64 (i : Int), .int .i64 kid] w fun e w' => e = .returned (.bool (level op i kid)) ∧ w' = w := by
  by_cases hi : i = 0
  · subst hi
    have HL : Hid (level op 0 kid = decide (strong kid < strong op)) := by
      show level op 0 kid = _
      unfold level; simp [hop]
    clear hop
    go_enter Try.func88, Try.ntmps88
    go_wp2_with (go_at_call 108; refine (strength_core _ _).mono ?_; rintro e' w' ⟨rfl, rfl⟩)
    go_ret
    exact ⟨by rw [HL.out]; rfl, rfl⟩
  · have zi : ((i : Int) == 0) = false := by simpa using hi
    have HL : Hid (level op i kid = decide (strong kid ≤ strong op)) := by
      show level op i kid = _
      unfold level; simp [hop, hi]
    clear hop
    go_enter Try.func88, Try.ntmps88
    go_wp2_with (go_at_call 108; refine (strength_core _ _).mono ?_; rintro e' w' ⟨rfl, rfl⟩)
    go_ret
    exact ⟨by rw [HL.out]; rfl, rfl⟩
abbrev Shape.three (s : Shape) : List Value := [.bool s.valid, .int .i64 s.kind, .int .i64 (s.nest : Int)]
def cellsS (ss : List Shape) : List Value := ss.flatMap Shape.three
theorem length_cellsS (ss : List Shape) : (cellsS ss).length = ss.length * 3 := by
  induction ss with
  | nil => rfl
  | cons e es ih => simp only [cellsS, List.flatMap_cons, List.length_append] at ih ⊢; rw [ih]; simp; omega
theorem cellsS_append (es fs : List Shape) : cellsS (es ++ fs) = cellsS es ++ cellsS fs := by simp [cellsS]
theorem cellsS_get (es : List Shape) : ∀ (k : Nat) (e : Shape), es[k]? = some e → ∀ j, j < 3 → (cellsS es)[k * 3 + j]? = e.three[j]? := by
  induction es with
  | nil => intro k e h; simp at h
  | cons f es ih =>
    intro k e h j hj
    have hc : cellsS (f :: es) = f.three ++ cellsS es := by simp [cellsS]
    rw [hc]
    cases k with
    | zero =>
      simp at h; subst h
      rw [List.getElem?_append_left (by show 0 * 3 + j < 3; omega)]
      simp
    | succ k =>
      simp at h
      rw [List.getElem?_append_right (by show 3 ≤ (k + 1) * 3 + j; omega)]
      have : (k + 1) * 3 + j - f.three.length = k * 3 + j := by show (k + 1) * 3 + j - 3 = _; omega
      rw [this]; exact ih k e h j hj
theorem cellsS_take (es : List Shape) (k : Nat) : cellsS (es.take k) = (cellsS es).take (k * 3) := by
  induction es generalizing k with
  | nil => simp [cellsS]
  | cons f es ih =>
    cases k with
    | zero => simp [cellsS]
    | succ k =>
      have hc : cellsS (f :: es) = f.three ++ cellsS es := by simp [cellsS]
      have hd : cellsS (f :: es.take k) = f.three ++ cellsS (es.take k) := by simp [cellsS]
      have e1 : (k + 1) * 3 = f.three.length + k * 3 := by show (k + 1) * 3 = 3 + k * 3; omega
      rw [List.take_succ_cons, hd, hc, ih, e1, List.take_length_add_append]
/-- Shapes at ⟨b, o⟩. -/
def ShsAt (w : World) (b o : Nat) (ss : List Shape) : Prop := ∀ i s, ss[i]? = some s → w.cell? ⟨b, o + i * 3, none⟩ = some (.bool s.valid) ∧ w.cell? ⟨b, o + i * 3 + 1, none⟩ = some (.int .i64 s.kind) ∧ w.cell? ⟨b, o + i * 3 + 2, none⟩ = some (.int .i64 (s.nest : Int))
theorem ShsAt.below {B : Nat} {w w' : World} {b o : Nat} {ss : List Shape} (h : ShsAt w b o ss) (hb : Below B w w') (hlt : b < B) : ShsAt w' b o ss := by
  intro i e he
  have := h i e he
  refine ⟨?_, ?_, ?_⟩
  all_goals rw [hb.cell (by exact hlt)]
  · exact this.1
  · exact this.2.1
  · exact this.2.2
theorem ShsAt.drop {w : World} {b o : Nat} {ss : List Shape} (h : ShsAt w b o ss) (k : Nat) : ShsAt w b (o + k * 3) (ss.drop k) := by
  intro i s hs
  have := h (k + i) s (by rw [← List.getElem?_drop]; exact hs)
  rw [Nat.add_mul, ← Nat.add_assoc] at this
  exact this
def OwnSh (w : World) (base g cp : Nat) (ss : List Shape) : Prop := w.ownsRow base 103 3 (.slice (some ⟨g, 0, none⟩) ss.length cp) ss.length (cellsS ss)
theorem OwnSh.lt {w : World} {base g cp : Nat} {ss : List Shape} (h : OwnSh w base g cp ss) : base ≤ g ∧ g < w.heap.size := World.ownsRow.lt h g rfl
theorem OwnSh.below {w w' : World} {base g cp : Nat} {ss : List Shape} (h : OwnSh w base g cp ss) (hb : Below w.heap.size w w') : OwnSh w' base g cp ss := own_chg h (Chg.of_below hb) (S := fun _ => False) (fun k q z => z)
theorem OwnSh.at {w : World} {base g cp : Nat} {ss : List Shape} (h : OwnSh w base g cp ss) : ShsAt w g 0 ss := by
  intro i e he
  have hi : i < ss.length := (List.getElem?_eq_some_iff.1 he).1
  have c := fun j (hj : j < 3) => (World.ownsRow.cellAt h (i * 3 + j) (by omega)).trans (cellsS_get ss i e he j hj)
  refine ⟨?_, ?_, ?_⟩
  · simpa using c 0 (by omega)
  · simpa using c 1 (by omega)
  · simpa using c 2 (by omega)
theorem OwnSh.caps {w : World} {base g cp : Nat} {ss : List Shape} (h : OwnSh w base g cp ss) : ss.length ≤ cp ∧ cp ≤ maxLen := by
  rcases h.2 with ⟨h0, _⟩ | ⟨g', cap', cur, hv, _, _, hn, hcap, _, _⟩
  · cases h0
  · simp only [Value.slice.injEq, Option.some.injEq, Addr.mk.injEq, and_true, true_and] at hv
    obtain ⟨rfl, rfl⟩ := hv
    exact ⟨hn, hcap⟩
theorem OwnSh.take {w : World} {base g cp : Nat} {ss : List Shape} (h : OwnSh w base g cp ss) {k : Nat} (hk : k ≤ ss.length) : OwnSh w base g cp (ss.take k) := by
  rcases h.2 with ⟨h0, _⟩ | ⟨g', cap', cur, hv, h1, h2, h3, h4, h5, h6⟩
  · cases h0
  · simp only [Value.slice.injEq, Option.some.injEq, Addr.mk.injEq, and_true, true_and] at hv
    obtain ⟨rfl, rfl⟩ := hv
    have hl : (ss.take k).length = k := by rw [List.length_take]; omega
    refine ⟨by rw [length_cellsS], .inr ⟨g, cp, cur, rfl, h1, h2, by omega, h4, h5, ?_⟩⟩
    rw [hl, cellsS_take, ← h6, List.take_take]
    congr 1
    omega
theorem ownSh_new (w : World) {base : Nat} (hb : base ≤ w.heap.size) : OwnSh (w.alloc (Obj.cells #[] 103)) base w.heap.size 0 [] :=
  World.ownsRow_made w #[] 0 hb (Nat.zero_le _) (by simp)
/-- The state of shapeOf. -/
structure SoJ (w : World) (e : Nd) (WB : Nat) (v : Bool) (a : Nat) (wr : World) : Prop where
  node : BoxAt wr w.heap.size 98 7 w.heap.size e.seven
  res : BoxAt wr w.heap.size 103 3 (w.heap.size + 1) [.bool false, .int .i64 0, .int .i64 0]
  whole : BoxAt wr w.heap.size 103 3 WB [.bool v, .int .i64 e.kind, .int .i64 (a : Int)]
  ne : w.heap.size + 2 ≤ WB
  below : Below w.heap.size w wr
theorem SoJ.move {w : World} {e : Nd} {WB : Nat} {v : Bool} {a : Nat} {wr w' : World} (h : SoJ w e WB v a wr) (hb : Below wr.heap.size wr w') : SoJ w e WB v a w' :=
  ⟨h.node.below hb, h.res.below hb, h.whole.below hb, h.ne, h.below.trans (hb.mono h.below.size)⟩
theorem valid_is (e : Nd) (w : World) (hs : e.s.size ≤ maxLen) (ht : e.t.size ≤ maxLen) : Calls Try.prog 87 #[.agg #[.int .i64 e.kind, .string e.s, .bool e.hi, .string e.t, .int .u64 e.lo, .int .u64 e.up, .int .i64 e.n]] w fun r w' => r = .returned (.bool (goodB e)) ∧ Below w.heap.size w w' := by
  refine (validNode_core e w hs ht).mono ?_
  rintro r w' ⟨b, rfl, hb, hb2⟩
  refine ⟨?_, hb2⟩
  congr 2
  rw [Bool.eq_iff_iff, hb, goodB_iff]
end Go.Proofs.Ytnncedndlhfdkab

/-
  impl.shapeOf.
-/
namespace Go.Proofs.Ytnncedndlhfdkab
open Go.ChangeShapes Go.WideShapes Go.ChangeAt Go.RowKit Go.Deep
set_option linter.unusedVariables false
set_option linter.unusedSimpArgs false
set_option maxRecDepth 100000

theorem lift0 {P : Program} {f : Nat} {args : Array Value} {w : World} {v : Value} (W0 : World) (h : Below W0.heap.size W0 w) (c : Calls P f args w fun e w' => e = .returned v ∧ Below w.heap.size w w') :
    Calls P f args w fun e w' => e = .returned v ∧ Below W0.heap.size W0 w' ∧ (∀ b o, b < W0.heap.size → w'.cell? ⟨b, o, none⟩ = W0.cell? ⟨b, o, none⟩) := by
  refine c.mono ?_
  rintro e w' ⟨he, hb⟩
  have k := h.trans (hb.mono h.size)
  exact ⟨he, k, fun b o hlt => k.cell (p := ⟨b, o, none⟩) hlt⟩
def SoA (w : World) (e : Nd) (W0 : World) : Prop := BoxAt W0 w.heap.size 98 7 w.heap.size e.seven ∧ BoxAt W0 w.heap.size 103 3 (w.heap.size + 1) [.bool false, .int .i64 0, .int .i64 0] ∧ Below w.heap.size w W0 ∧ W0.heap.size = w.heap.size + 2
theorem so_after {w W0 w' : World} {e : Nd} {gd : Bool} (hA : SoA w e W0) (hb : Below W0.drew.heap.size W0.drew w') : SoJ w e w'.heap.size gd 0 (w'.alloc (Obj.cells #[.bool gd, .int .i64 e.kind, .int .i64 0] 103)) := by
  have h1 : Below W0.heap.size W0 w' := ((Below.refl W0.heap.size W0).drew).trans hb
  have h2 := h1.size
  have h3 : Below W0.heap.size W0 (w'.alloc (Obj.cells #[.bool gd, .int .i64 e.kind, .int .i64 0] 103)) := h1.alloc h2 _
  have h4 := hA.2.2.2
  exact ⟨hA.1.below h3, hA.2.1.below h3, boxAt_new w' _ (by omega) rfl, by omega, hA.2.2.1.trans (h3.mono (by omega))⟩
theorem so_before {w W0 w' : World} {e : Nd} {gd : Bool} (hA : SoA w e W0) (hb : Below (W0.drew.alloc (Obj.cells #[.bool false, .int .i64 0, .int .i64 0] 103)).heap.size (W0.drew.alloc (Obj.cells #[.bool false, .int .i64 0, .int .i64 0] 103)) w') :
    SoJ w e (w.heap.size + 2) gd 0 (((w'.setCell ⟨w.heap.size + 2, 0, none⟩ (.bool gd)).setCell ⟨w.heap.size + 2, 1, none⟩ (.int .i64 e.kind)).setCell ⟨w.heap.size + 2, 2, none⟩ (.int .i64 0)) := by
  have h4 := hA.2.2.2
  have hd : W0.drew.heap.size = W0.heap.size := by simp
  have h0 : Below W0.heap.size W0 (W0.drew.alloc (Obj.cells #[.bool false, .int .i64 0, .int .i64 0] 103)) := ((Below.refl W0.heap.size W0).drew).alloc (by simp) _
  have h1 : Below W0.heap.size W0 w' := h0.trans (hb.mono (by simp))
  have hB : BoxAt w' w.heap.size 103 3 (w.heap.size + 2) [.bool false, .int .i64 0, .int .i64 0] := by
    have := boxAt_new W0.drew (base := w.heap.size) (t := 103) (sz := 3) #[.bool false, .int .i64 0, .int .i64 0] (by simp; omega) rfl
    rw [hd, h4] at this
    exact this.below hb
  refine ⟨(((hA.1.below h1).beside (by omega) 0 _).beside (by omega) 1 _).beside (by omega) 2 _, (((hA.2.1.below h1).beside (by omega) 0 _).beside (by omega) 1 _).beside (by omega) 2 _, ((hB.set 0 _).set 1 _).set 2 _, Nat.le_refl _, ?_⟩
  exact below_set (below_set (below_set (hA.2.2.1.trans (h1.mono (by omega))) (by omega) 0 _) (by omega) 1 _) (by omega) 2 _
/-- One round of shapeOf: the operand's block, then the stores. -/
structure SoK (w : World) (e : Nd) (WB OB : Nat) (v : Bool) (a : Nat) (x : Shape) (q : Nat) (wr : World) : Prop where
  so : SoJ w e WB v a wr
  ob : BoxAt wr w.heap.size 103 3 OB [.bool x.valid, .int .i64 x.kind, .int .i64 (q : Int)]
  ne : ¬ OB = WB
  ge : w.heap.size + 2 ≤ OB
theorem SoJ.round {w : World} {e : Nd} {WB : Nat} {v : Bool} {a : Nat} {wr : World} (h : SoJ w e WB v a wr) (x : Shape) : SoK w e WB wr.heap.size v a x x.nest (wr.alloc (Obj.cells #[.bool x.valid, .int .i64 x.kind, .int .i64 (x.nest : Int)] 103)) := by
  have hb : Below wr.heap.size wr (wr.alloc (Obj.cells #[.bool x.valid, .int .i64 x.kind, .int .i64 (x.nest : Int)] 103)) := (Below.refl _ _).alloc (Nat.le_refl _) _
  have h1 := h.whole.lt.2
  have h2 := h.ne
  exact ⟨h.move hb, boxAt_new wr _ h.below.size rfl, by omega, by omega⟩
theorem SoK.valid {w : World} {e : Nd} {WB OB : Nat} {v : Bool} {a : Nat} {x : Shape} {q : Nat} {wr : World} (h : SoK w e WB OB v a x q wr) (v2 : Bool) : SoK w e WB OB v2 a x q (wr.setCell ⟨WB, 0, none⟩ (.bool v2)) := by
  have h2 := h.so.ne
  exact ⟨⟨h.so.node.beside (by omega) 0 _, h.so.res.beside (by omega) 0 _, h.so.whole.set 0 _, h2, below_set h.so.below (by omega) 0 _⟩, h.ob.beside h.ne 0 _, h.ne, h.ge⟩
theorem SoK.more {w : World} {e : Nd} {WB OB : Nat} {v : Bool} {a : Nat} {x : Shape} {q : Nat} {wr : World} (h : SoK w e WB OB v a x q wr) (q2 : Nat) : SoK w e WB OB v a x q2 (wr.setCell ⟨OB, 2, none⟩ (.int .i64 (q2 : Int))) := by
  have h2 := h.so.ne
  have h3 := h.ge
  have h4 := h.ne
  exact ⟨⟨h.so.node.beside (by omega) 2 _, h.so.res.beside (by omega) 2 _, h.so.whole.beside (by omega) 2 _, h2, below_set h.so.below (by omega) 2 _⟩, h.ob.set 2 _, h.ne, h.ge⟩
theorem SoK.done {w : World} {e : Nd} {WB OB : Nat} {v : Bool} {a : Nat} {x : Shape} {q : Nat} {wr : World} (h : SoK w e WB OB v a x q wr) (a2 : Nat) : SoJ w e WB v a2 (wr.setCell ⟨WB, 2, none⟩ (.int .i64 (a2 : Int))) := by
  have h2 := h.so.ne
  exact ⟨h.so.node.beside (by omega) 2 _, h.so.res.beside (by omega) 2 _, h.so.whole.set 2 _, h2, below_set h.so.below (by omega) 2 _⟩
theorem take_all {os : List Shape} {j : Nat} {x : Shape} (h : os[j]? = some x) : (os.take (j + 1)).all (·.valid) = ((os.take j).all (·.valid) && x.valid) := by
  rw [List.take_add_one, h]
  simp
theorem nestFrom_at (op : Int) {os : List Shape} {j a : Nat} {o : Shape} (h : os[j]? = some o) : nestFrom op j a (os.drop j) = nestFrom op (j + 1) (max a (o.nest + if level op j o.kind then 1 else 0)) (os.drop (j + 1)) := by
  have hj := (List.getElem?_eq_some_iff.1 h).1
  rw [List.drop_eq_getElem_cons hj, show os[j] = o from Option.some.inj ((List.getElem?_eq_getElem hj).symm.trans h)]
  rfl
set_option maxHeartbeats 8000000 in
theorem shapeOf_core {w : World} {b o cap : Nat} {os : List Shape} (e : Nd) (h : ShsAt w b o os) (hbl : b < w.heap.size) (hl : os.length ≤ cap) (h3 : os.length ≤ 3) (hcap : cap ≤ 9223372036854775807) (hN : ∀ x ∈ os, x.nest ≤ 1000) (hs : e.s.size ≤ maxLen) (ht : e.t.size ≤ maxLen) :
    Calls Try.prog 67 #[e.v, .slice (some ⟨b, o, none⟩) os.length cap] w fun r w' => r = .returned (.agg #[.bool (shapeM goodB e os).valid, .int .i64 e.kind, .int .i64 ((shapeM goodB e os).nest : Int)]) ∧ Below w.heap.size w w' := by
  have HF : Hid (ShsAt w b o os ∧ (∀ x ∈ os, x.nest ≤ 1000) ∧ e.s.size ≤ maxLen ∧ e.t.size ≤ maxLen) := ⟨h, hN, hs, ht⟩
  obtain ⟨n, hn⟩ : ∃ n, n = os.length := ⟨_, rfl⟩
  have HL : Hid (n = os.length) := hn
  rw [← hn] at hl h3 ⊢
  clear h hN hs ht hn
  obtain ⟨gd, hgd⟩ : ∃ gd, gd = goodB e := ⟨_, rfl⟩
  have HG : Hid (gd = goodB e) := hgd
  have HVal : Hid (∀ w, Calls Try.prog 87 #[.agg #[.int .i64 e.kind, .string e.s, .bool e.hi, .string e.t, .int .u64 e.lo, .int .u64 e.up, .int .i64 e.n]] w fun r w' => r = .returned (.bool gd) ∧ Below w.heap.size w w') := fun w => by
    rw [hgd]; exact valid_is e w HF.out.2.2.1 HF.out.2.2.2
  clear hgd
  obtain ⟨W0, hW0⟩ : ∃ W0 : World, W0 = (w.alloc (Obj.cells #[.int .i64 e.kind, .string e.s, .bool e.hi, .string e.t, .int .u64 e.lo, .int .u64 e.up, .int .i64 e.n] 98)).alloc (Obj.cells #[.bool false, .int .i64 0, .int .i64 0] 103) := ⟨_, rfl⟩
  have HW0 : Hid (BoxAt W0 w.heap.size 98 7 w.heap.size e.seven ∧ BoxAt W0 w.heap.size 103 3 (w.heap.size + 1) [.bool false, .int .i64 0, .int .i64 0] ∧ Below w.heap.size w W0 ∧ W0.heap.size = w.heap.size + 2) := by
    rw [hW0]
    exact ⟨BoxAt.ofHeap (vs := #[.int .i64 e.kind, .string e.s, .bool e.hi, .string e.t, .int .u64 e.lo, .int .u64 e.up, .int .i64 e.n]) (heap_alloc2_old w _ _) (Nat.le_refl _) rfl, BoxAt.ofHeap (vs := #[.bool false, .int .i64 0, .int .i64 0]) (heap_alloc2_new w _ _) (by omega) rfl, ((Below.refl _ _).alloc (Nat.le_refl _) _).alloc (by simp) _, by simp⟩
  have c0 := HW0.out.1.cell (j := 0) rfl
  have c1 := HW0.out.1.cell (j := 1) rfl
  have c2 := HW0.out.1.cell (j := 2) rfl
  have c3 := HW0.out.1.cell (j := 3) rfl
  have c4 := HW0.out.1.cell (j := 4) rfl
  have c5 := HW0.out.1.cell (j := 5) rfl
  have c6 := HW0.out.1.cell (j := 6) rfl
  have hz := HW0.out.2.2.2
  obtain ⟨tot, htot⟩ : ∃ tot, tot = (shapeM goodB e os).nest := ⟨_, rfl⟩
  have HT : Hid (nestFrom e.kind 0 0 os = tot) := by rw [htot]; exact (rfl : nestFrom e.kind 0 0 os = _)
  have HV : Hid ((shapeM goodB e os).valid = (gd && os.all (·.valid))) := by
    show (shapeM goodB e os).valid = _
    rw [HG.out]; rfl
  rw [← htot]
  clear htot
  go_enter Try.func67, Try.ntmps67
  go_upto_region 1 with fail
  rw [← hW0]
  clear hW0
  go_cut [5] (fun s wx => ∃ WB, s = .pointer (some ⟨WB, 0, none⟩) ∧ SoJ w e WB gd 0 wx)
  case first =>
    have hlt0 : w.heap.size < W0.heap.size := by omega
    have c0a : ∀ o, (W0.alloc o).cell? ⟨w.heap.size, 0, none⟩ = some (.int .i64 e.kind) := fun o => by rw [((Below.refl W0.heap.size W0).alloc (Nat.le_refl _) o).cell (p := ⟨w.heap.size, 0, none⟩) hlt0]; exact c0
    go_region_law ((go_simp; go_at_call 87; refine (HVal.out _).mono ?_; rintro r w' ⟨rfl, hbb⟩; obtain ⟨hcc, hff⟩ := bcell hbb; have hsz' := hbb.size; have k0 : w'.cell? ⟨w.heap.size, 0, none⟩ = some (.int .i64 e.kind) := by { rw [hcc w.heap.size 0 (by simp; omega)]; first | exact c0 | (simp; first | exact c0 | exact c0a _) }; have kl : w.heap.size < w'.heap.size := by { simp at hsz'; omega }; have k0a : ∀ o, (w'.alloc o).cell? ⟨w.heap.size, 0, none⟩ = some (.int .i64 e.kind) := fun o => by { rw [((Below.refl w'.heap.size w').alloc (Nat.le_refl _) o).cell (p := ⟨w.heap.size, 0, none⟩) kl]; exact k0 }))
    all_goals go_wp2_with fail
    all_goals go_meet
    all_goals first
      | exact ⟨_, rfl, so_after HW0.out hbb⟩
      | exact ⟨_, rfl, so_before HW0.out hbb⟩
  case rest =>
  obtain ⟨WB, rfl, hJ⟩ := hcut
  have HJ0 : Hid (SoJ w e WB gd 0 wc) := hJ
  clear hJ c0 c1 c2 c3 c4 c5 c6 hz HW0 HVal
  go_wp2_with fail
  go_loopw [15] (fun iv wr => ∃ (j a : Nat) (v : Bool), iv = .int .i64 (j : Int) ∧ j ≤ n ∧ a ≤ 2000 ∧ v = (gd && (os.take j).all (·.valid)) ∧ nestFrom e.kind j a (os.drop j) = tot ∧ SoJ w e WB v a wr) (fun iv _ => n - (intOf iv).toNat)
  case atStart => exact ⟨0, 0, gd, rfl, Nat.zero_le _, Nat.zero_le _, by simp, HT.out, HJ0.out⟩
  case round =>
    obtain ⟨j, a, v, rfl, hj, ha, hv, hN, hJ⟩ := hrel
    have HJ : Hid (v = (gd && (os.take j).all (·.valid)) ∧ nestFrom e.kind j a (os.drop j) = tot ∧ SoJ w e WB v a wr) := ⟨hv, hN, hJ⟩
    have hWB := hJ.whole.lt
    have hWn := hJ.ne
    clear hv hN hJ HJ0 HT
    by_cases hlt : j < n
    · have zj : (j : Int) < (n : Int) := by omega
      obtain ⟨x, hx⟩ : ∃ x, os[j]? = some x := ⟨_, List.getElem?_eq_getElem (by have := HL.out; omega)⟩
      obtain ⟨d0, d1, d2⟩ := (HF.out.1.below HJ.out.2.2.below hbl) j x hx
      have hxn := HF.out.2.1 x (List.mem_of_getElem? hx)
      have HX : Hid (os[j]? = some x) := hx
      obtain ⟨W1, hW1⟩ : ∃ W1 : World, W1 = wr.alloc (Obj.cells #[.bool x.valid, .int .i64 x.kind, .int .i64 (x.nest : Int)] 103) := ⟨_, rfl⟩
      have HK1 : Hid (SoK w e WB wr.heap.size v a x x.nest W1) := by rw [hW1]; exact HJ.out.2.2.round x
      clear hx
      go_upto_region 5 with fail
      rw [← hW1]
      clear hW1 d0 d1 d2
      obtain ⟨v0, hv0⟩ : ∃ v0, v0 = v := ⟨_, rfl⟩
      have HV0 : Hid (v0 = (gd && (os.take j).all (·.valid))) := by rw [hv0]; exact HJ.out.1
      have HN0 : Hid (nestFrom e.kind j a (os.drop j) = tot) := HJ.out.2.1
      clear HJ
      have w0 := HK1.out.so.whole.cell (j := 0) rfl
      have w0f := HK1.out.so.whole.frozen 0
      have o0 := HK1.out.ob.cell (j := 0) rfl
      have hne := HK1.out.ne
      have hge := HK1.out.ge
      cases v
      · have hv0' : v0 = false := hv0
        clear hv0
        obtain ⟨W2, hW2⟩ : ∃ W2 : World, W2 = W1.setCell ⟨WB, 0, none⟩ (.bool false) := ⟨_, rfl⟩
        have HK2 : Hid (SoK w e WB wr.heap.size false a x x.nest W2) := by rw [hW2]; exact HK1.out.valid false
        have HVn : Hid (false = (gd && (os.take (j + 1)).all (·.valid))) := by
          show false = _
          rw [take_all HX.out, ← Bool.and_assoc, ← HV0.out, hv0']
          simp
        go_upto_region 6 with fail
        rw [← hW2]
        clear hW2 w0 w0f o0 HK1 HV0
        have m0 := HK2.out.so.node.cell (j := 0) rfl
        have o1 := HK2.out.ob.cell (j := 1) rfl
        have o2 := HK2.out.ob.cell (j := 2) rfl
        have o2f := HK2.out.ob.frozen 2
        have w2 := HK2.out.so.whole.cell (j := 2) rfl
        have w2f := HK2.out.so.whole.frozen 2
        have fin : ∀ (y : Nat), y = max a (x.nest + (if level e.kind j x.kind then 1 else 0)) → nestFrom e.kind (j + 1) y (os.drop (j + 1)) = tot := fun y hy => by
          rw [hy, ← nestFrom_at e.kind HX.out]; exact HN0.out
        by_cases h16 : e.kind = 16
        · have hlv : level e.kind j x.kind = true := by unfold level; rw [h16]; rfl
          have z16 : (e.kind == 16) = true := by simpa using h16
          clear h16
          obtain ⟨W3, hW3⟩ : ∃ W3 : World, W3 = W2.setCell ⟨wr.heap.size, 2, none⟩ (.int .i64 ((x.nest : Int) + 1)) := ⟨_, rfl⟩
          have HK3 : Hid (SoK w e WB wr.heap.size false a x (x.nest + 1) W3) := by rw [hW3]; exact HK2.out.more (x.nest + 1)
          go_upto_region 8 with fail
          rw [← hW3]
          clear hW3 m0 o1 o2 o2f w2 w2f HK2
          have o2 := HK3.out.ob.cell (j := 2) rfl
          have w2 := HK3.out.so.whole.cell (j := 2) rfl
          have w2f := HK3.out.so.whole.frozen 2
          obtain ⟨a2, ha2⟩ : ∃ a2, a2 = max a (x.nest + 1) := ⟨_, rfl⟩
          have HFin : Hid (nestFrom e.kind (j + 1) a2 (os.drop (j + 1)) = tot ∧ a2 ≤ 2000) := ⟨fin a2 (by rw [ha2, hlv]; rfl), by omega⟩
          have ha3 : max (a : Int) ((x.nest : Int) + 1) = (a2 : Int) := by omega
          clear fin hlv ha2
          go_wp2_with fail
          go_roundw
          case rel =>
            refine ⟨j + 1, a2, false, by go_num, by omega, HFin.out.2, HVn.out, HFin.out.1, ?_⟩
            exact HK3.out.done a2
          case measure => simp [intOf]; omega
        · have z16 : (e.kind == 16) = false := by simpa using h16
          go_wp2_with fail
          refine (inParens_core e.kind j x.kind _ h16).mono ?_
          rintro r w9 ⟨rfl, hw9⟩
          rw [hw9]
          clear hw9 h16
          cases hlv : level e.kind j x.kind
          · skip
            obtain ⟨a2, ha2⟩ : ∃ a2, a2 = max a (x.nest) := ⟨_, rfl⟩
            have HFin : Hid (nestFrom e.kind (j + 1) a2 (os.drop (j + 1)) = tot ∧ a2 ≤ 2000) := ⟨fin a2 (by rw [ha2, hlv]; rfl), by omega⟩
            have ha3 : max (a : Int) ((x.nest : Int)) = (a2 : Int) := by omega
            clear fin hlv ha2
            go_wp2_with fail
            go_roundw
            case rel =>
              refine ⟨j + 1, a2, false, by go_num, by omega, HFin.out.2, HVn.out, HFin.out.1, ?_⟩
              exact HK2.out.done a2
            case measure => simp [intOf]; omega
          · skip
            obtain ⟨W3, hW3⟩ : ∃ W3 : World, W3 = W2.setCell ⟨wr.heap.size, 2, none⟩ (.int .i64 ((x.nest : Int) + 1)) := ⟨_, rfl⟩
            have HK3 : Hid (SoK w e WB wr.heap.size false a x (x.nest + 1) W3) := by rw [hW3]; exact HK2.out.more (x.nest + 1)
            go_upto_region 8 with fail
            rw [← hW3]
            clear hW3 m0 o1 o2 o2f w2 w2f HK2
            have o2 := HK3.out.ob.cell (j := 2) rfl
            have w2 := HK3.out.so.whole.cell (j := 2) rfl
            have w2f := HK3.out.so.whole.frozen 2
            obtain ⟨a2, ha2⟩ : ∃ a2, a2 = max a (x.nest + 1) := ⟨_, rfl⟩
            have HFin : Hid (nestFrom e.kind (j + 1) a2 (os.drop (j + 1)) = tot ∧ a2 ≤ 2000) := ⟨fin a2 (by rw [ha2, hlv]; rfl), by omega⟩
            have ha3 : max (a : Int) ((x.nest : Int) + 1) = (a2 : Int) := by omega
            clear fin hlv ha2
            go_wp2_with fail
            go_roundw
            case rel =>
              refine ⟨j + 1, a2, false, by go_num, by omega, HFin.out.2, HVn.out, HFin.out.1, ?_⟩
              exact HK3.out.done a2
            case measure => simp [intOf]; omega
      · have hv0' : v0 = true := hv0
        clear hv0
        obtain ⟨W2, hW2⟩ : ∃ W2 : World, W2 = W1.setCell ⟨WB, 0, none⟩ (.bool x.valid) := ⟨_, rfl⟩
        have HK2 : Hid (SoK w e WB wr.heap.size x.valid a x x.nest W2) := by rw [hW2]; exact HK1.out.valid x.valid
        have HVn : Hid (x.valid = (gd && (os.take (j + 1)).all (·.valid))) := by
          show x.valid = _
          rw [take_all HX.out, ← Bool.and_assoc, ← HV0.out, hv0']
          simp
        go_upto_region 6 with fail
        rw [← hW2]
        clear hW2 w0 w0f o0 HK1 HV0
        have m0 := HK2.out.so.node.cell (j := 0) rfl
        have o1 := HK2.out.ob.cell (j := 1) rfl
        have o2 := HK2.out.ob.cell (j := 2) rfl
        have o2f := HK2.out.ob.frozen 2
        have w2 := HK2.out.so.whole.cell (j := 2) rfl
        have w2f := HK2.out.so.whole.frozen 2
        have fin : ∀ (y : Nat), y = max a (x.nest + (if level e.kind j x.kind then 1 else 0)) → nestFrom e.kind (j + 1) y (os.drop (j + 1)) = tot := fun y hy => by
          rw [hy, ← nestFrom_at e.kind HX.out]; exact HN0.out
        by_cases h16 : e.kind = 16
        · have hlv : level e.kind j x.kind = true := by unfold level; rw [h16]; rfl
          have z16 : (e.kind == 16) = true := by simpa using h16
          clear h16
          obtain ⟨W3, hW3⟩ : ∃ W3 : World, W3 = W2.setCell ⟨wr.heap.size, 2, none⟩ (.int .i64 ((x.nest : Int) + 1)) := ⟨_, rfl⟩
          have HK3 : Hid (SoK w e WB wr.heap.size x.valid a x (x.nest + 1) W3) := by rw [hW3]; exact HK2.out.more (x.nest + 1)
          go_upto_region 8 with fail
          rw [← hW3]
          clear hW3 m0 o1 o2 o2f w2 w2f HK2
          have o2 := HK3.out.ob.cell (j := 2) rfl
          have w2 := HK3.out.so.whole.cell (j := 2) rfl
          have w2f := HK3.out.so.whole.frozen 2
          obtain ⟨a2, ha2⟩ : ∃ a2, a2 = max a (x.nest + 1) := ⟨_, rfl⟩
          have HFin : Hid (nestFrom e.kind (j + 1) a2 (os.drop (j + 1)) = tot ∧ a2 ≤ 2000) := ⟨fin a2 (by rw [ha2, hlv]; rfl), by omega⟩
          have ha3 : max (a : Int) ((x.nest : Int) + 1) = (a2 : Int) := by omega
          clear fin hlv ha2
          go_wp2_with fail
          go_roundw
          case rel =>
            refine ⟨j + 1, a2, x.valid, by go_num, by omega, HFin.out.2, HVn.out, HFin.out.1, ?_⟩
            exact HK3.out.done a2
          case measure => simp [intOf]; omega
        · have z16 : (e.kind == 16) = false := by simpa using h16
          go_wp2_with fail
          refine (inParens_core e.kind j x.kind _ h16).mono ?_
          rintro r w9 ⟨rfl, hw9⟩
          rw [hw9]
          clear hw9 h16
          cases hlv : level e.kind j x.kind
          · skip
            obtain ⟨a2, ha2⟩ : ∃ a2, a2 = max a (x.nest) := ⟨_, rfl⟩
            have HFin : Hid (nestFrom e.kind (j + 1) a2 (os.drop (j + 1)) = tot ∧ a2 ≤ 2000) := ⟨fin a2 (by rw [ha2, hlv]; rfl), by omega⟩
            have ha3 : max (a : Int) ((x.nest : Int)) = (a2 : Int) := by omega
            clear fin hlv ha2
            go_wp2_with fail
            go_roundw
            case rel =>
              refine ⟨j + 1, a2, x.valid, by go_num, by omega, HFin.out.2, HVn.out, HFin.out.1, ?_⟩
              exact HK2.out.done a2
            case measure => simp [intOf]; omega
          · skip
            obtain ⟨W3, hW3⟩ : ∃ W3 : World, W3 = W2.setCell ⟨wr.heap.size, 2, none⟩ (.int .i64 ((x.nest : Int) + 1)) := ⟨_, rfl⟩
            have HK3 : Hid (SoK w e WB wr.heap.size x.valid a x (x.nest + 1) W3) := by rw [hW3]; exact HK2.out.more (x.nest + 1)
            go_upto_region 8 with fail
            rw [← hW3]
            clear hW3 m0 o1 o2 o2f w2 w2f HK2
            have o2 := HK3.out.ob.cell (j := 2) rfl
            have w2 := HK3.out.so.whole.cell (j := 2) rfl
            have w2f := HK3.out.so.whole.frozen 2
            obtain ⟨a2, ha2⟩ : ∃ a2, a2 = max a (x.nest + 1) := ⟨_, rfl⟩
            have HFin : Hid (nestFrom e.kind (j + 1) a2 (os.drop (j + 1)) = tot ∧ a2 ≤ 2000) := ⟨fin a2 (by rw [ha2, hlv]; rfl), by omega⟩
            have ha3 : max (a : Int) ((x.nest : Int) + 1) = (a2 : Int) := by omega
            clear fin hlv ha2
            go_wp2_with fail
            go_roundw
            case rel =>
              refine ⟨j + 1, a2, x.valid, by go_num, by omega, HFin.out.2, HVn.out, HFin.out.1, ?_⟩
              exact HK3.out.done a2
            case measure => simp [intOf]; omega
    · have zj : ¬ (j : Int) < (n : Int) := by omega
      have HFi : Hid (a = tot ∧ v = (shapeM goodB e os).valid) := by
        show _ ∧ _
        have h1 := HJ.out.2.1
        have h2 := HJ.out.1
        have hln := HL.out
        rw [List.drop_eq_nil_of_le (by omega)] at h1
        rw [List.take_of_length_le (by omega)] at h2
        exact ⟨h1, by rw [h2, HV.out]⟩
      have w0 := HJ.out.2.2.whole.cell (j := 0) rfl
      have w1 := HJ.out.2.2.whole.cell (j := 1) rfl
      have w2 := HJ.out.2.2.whole.cell (j := 2) rfl
      have r0 := HJ.out.2.2.res.cell (j := 0) rfl
      have r1 := HJ.out.2.2.res.cell (j := 1) rfl
      have r2 := HJ.out.2.2.res.cell (j := 2) rfl
      have f0 := HJ.out.2.2.res.frozen 0
      have f1 := HJ.out.2.2.res.frozen 1
      have f2 := HJ.out.2.2.res.frozen 2
      obtain ⟨W9, hW9⟩ : ∃ W9 : World, W9 = set3 wr (w.heap.size + 1) (.bool v) (.int .i64 e.kind) (.int .i64 (a : Int)) := ⟨_, rfl⟩
      have HW9 : Hid (BoxAt W9 w.heap.size 103 3 (w.heap.size + 1) [.bool v, .int .i64 e.kind, .int .i64 (a : Int)] ∧ Below w.heap.size w W9) := by
        rw [hW9]; exact ⟨HJ.out.2.2.res.set3 _ _ _, below_set3 HJ.out.2.2.below (by omega) _ _ _⟩
      have p0 := HW9.out.1.cell (j := 0) rfl
      have p1 := HW9.out.1.cell (j := 1) rfl
      have p2 := HW9.out.1.cell (j := 2) rfl
      unfold set3 at hW9
      go_wp2_with fail
      rw [← hW9]
      obtain ⟨rfl, hvv⟩ := HFi.out
      rw [← hvv]
      refine bodyPost_ret (v := .agg #[.bool v, .int .i64 e.kind, .int .i64 (a : Int)]) (by simp [results, Try.results67, go_sem, p0, p1, p2]) rfl ⟨rfl, HW9.out.2⟩
end Go.Proofs.Ytnncedndlhfdkab

/-
  impl.foldTree over shapeOf.
-/
namespace Go.Proofs.Ytnncedndlhfdkab
open Go.ChangeShapes Go.WideShapes Go.ChangeAt Go.RowKit Go.Deep
set_option linter.unusedVariables false
set_option linter.unusedSimpArgs false
set_option maxRecDepth 100000

theorem Try.infoSh : (Try.prog.info? 103).map (fun i => (i.zero, i.size, i.bytes)) = some (some (.agg #[.bool false, .int .i64 0, .int .i64 0]), 3, 24) := by kernel_rfl
/-- One shape appended, at a step of a region that draws. -/
theorem step_append_shape {ops : Array Oper} {oo : Oper} {a : Act} {K : Act → World → Prop} {Q : Exit → Act → World → Prop} {E : Prop} (w : World) (hgd : oo.guard = none) (s x : Operand)
    (ho : oo.op = .call { callee := .builtin .append, args := #[s, x], argTypes := #[129, 129] })
    (base n g cp blk : Nat) (ss : List Shape) (y : Shape) (hn : n = ss.length) (hs : a.eval s = .slice (some ⟨g, 0, none⟩) n cp) (hx : a.eval x = .slice (some ⟨blk, 0, none⟩) 1 1) (hO : OwnSh w base g cp ss)
    (hc : ShsAt w blk 0 [y]) (hlen : ss.length ≤ 1000) (hbase : base ≤ w.heap.size)
    (h : ∀ g' cp' w', OwnSh w' base g' cp' (ss ++ [y]) → w.grownBy w' (some g) → (g = g' ∨ g' = w.heap.size) → K (a.put oo.dst (.slice (some ⟨g', 0, none⟩) (n + 1) cp')) w') : if Region.wanted oo (yielded ops a.tmps) = true then Oper.wp Try.prog oo a w K Q else E := by
  subst hn
  obtain ⟨i, hi, hz0, hz1, hz2⟩ := info_parts Try.infoSh
  obtain ⟨c0, c1, c2⟩ := hc 0 y rfl
  refine step_append_lies w hgd s x 129 ho base 103 i _ 3 24 Try.underlying129 hi hz0 hz1 hz2 rfl (by decide) (.slice (some ⟨g, 0, none⟩) ss.length cp) ss.length (cellsS ss) hs hO ⟨blk, 0, none⟩ 1 1 (cellsS [y]) hx rfl ?_ ?_ (by decide) ?_ ?_ hbase w.heap.size rfl ?_
  · intro j u hu
    have hj : j < 3 := by
      have := (List.getElem?_eq_some_iff.1 hu).1
      rw [length_cellsS] at this
      simpa using this
    rw [Addr.add_mid]
    have hcs : cellsS [y] = y.three := by simp [cellsS]
    rw [hcs] at hu
    match j, hj with
    | 0, _ => simp at hu; rw [← hu]; simpa using c0
    | 1, _ => simp at hu; rw [← hu]; simpa using c1
    | 2, _ => simp at hu; rw [← hu]; simpa using c2
  · intro u hu
    have hcs : cellsS [y] = y.three := by simp [cellsS]
    rw [hcs] at hu
    simp at hu
    rcases hu with rfl | rfl | rfl <;> rfl
  · unfold maxLen; omega
  · omega
  · intro g' cp' w' hO' hgr hat hlt
    refine h g' cp' w' ?_ hgr ?_
    · unfold OwnSh
      rw [List.length_append, cellsS_append]
      exact hO'
    · simp [Value.ownBlock] at hat
      exact hat
theorem fold_nest {xs : List Nd} {ss : List Shape} (h : foldM goodB [] xs = some ss) : ∀ s ∈ ss, s.nest ≤ xs.length := by
  intro s hs
  obtain ⟨ks, rfl, hK⟩ := ShT.kids goodB (fold_tree goodB h)
  obtain ⟨k, hk, h3⟩ := kid_len goodB hK hs
  have h4 := len_flat hk
  have h5 := nest_len goodB _ (Nat.le_refl _) h3
  omega
structure FoJ (w : World) (xs : List Nd) (j g cp : Nat) (ss : List Shape) (wr : World) : Prop where
  fold : foldM goodB [] (xs.take j) = some ss
  own : OwnSh wr (w.heap.size + 1) g cp ss
  res : BoxAt wr w.heap.size 103 3 w.heap.size [.bool false, .int .i64 0, .int .i64 0]
  below : Below w.heap.size w wr
theorem FoJ.move {w : World} {xs : List Nd} {j g cp : Nat} {ss : List Shape} {wr w' : World} (h : FoJ w xs j g cp ss wr) (hb : Below wr.heap.size wr w') : FoJ w xs j g cp ss w' :=
  ⟨h.fold, h.own.below hb, h.res.below hb, h.below.trans (hb.mono h.below.size)⟩
theorem fold_next {xs : List Nd} {j : Nat} {ss : List Shape} {e : Nd} (h : foldM goodB [] (xs.take j) = some ss) (he : xs[j]? = some e) (hl : arity e.kind ≤ ss.length) : foldM goodB [] (xs.take (j + 1)) = some (ss.take (ss.length - arity e.kind) ++ [shapeM goodB e (ss.drop (ss.length - arity e.kind))]) := by
  rw [List.take_add_one, he, foldM_append, h]
  simp only [Option.toList, Option.bind_some, foldM, stepM]
  rw [if_neg (by omega)]
theorem fold_stop {xs : List Nd} {j : Nat} {ss : List Shape} {e : Nd} (h : foldM goodB [] (xs.take j) = some ss) (he : xs[j]? = some e) (hl : ss.length < arity e.kind) : foldM goodB [] xs = none := by
  have hj := (List.getElem?_eq_some_iff.1 he).1
  have : xs = xs.take j ++ e :: xs.drop (j + 1) := by
    conv => lhs; rw [← List.take_append_drop j xs, List.drop_eq_getElem_cons hj]
    rw [show xs[j] = e from Option.some.inj ((List.getElem?_eq_getElem hj).symm.trans he)]
  rw [this, foldM_append, h]
  simp only [Option.bind_some, foldM, stepM]
  rw [if_pos hl]
/-- What foldTree hands back. -/
def FoldPost (xs : List Nd) (w : World) (r : Ending) (w' : World) : Prop := Below w.heap.size w w' ∧ ((∃ s, foldM goodB [] xs = some [s] ∧ r = .returned (.tuple #[.agg #[.bool s.valid, .int .i64 s.kind, .int .i64 (s.nest : Int)], .bool true])) ∨ ((∀ s, ¬ foldM goodB [] xs = some [s]) ∧ r = .returned (.tuple #[.agg #[.bool false, .int .i64 0, .int .i64 0], .bool false])))
end Go.Proofs.Ytnncedndlhfdkab

/-
  impl.foldTree, walked.
-/
namespace Go.Proofs.Ytnncedndlhfdkab
open Go.ChangeShapes Go.WideShapes Go.ChangeAt Go.RowKit Go.Deep
set_option linter.unusedVariables false
set_option linter.unusedSimpArgs false
set_option maxRecDepth 100000

/-- The state with the node and its shape laid. -/
structure FoK (w : World) (xs : List Nd) (j g cp : Nat) (ss : List Shape) (SB : Nat) (y : Shape) (wr : World) : Prop where
  fo : FoJ w xs j g cp ss wr
  box : BoxAt wr w.heap.size 103 3 SB y.three
  ne : ¬ SB = g
  ge : w.heap.size + 1 ≤ SB
theorem fo_after {w : World} {xs : List Nd} {j g cp : Nat} {ss : List Shape} {W1 w' : World} (y : Shape) (h : FoJ w xs j g cp ss W1) (hb : Below W1.drew.heap.size W1.drew w') : FoK w xs j g cp ss w'.heap.size y (w'.alloc (Obj.cells #[.bool y.valid, .int .i64 y.kind, .int .i64 (y.nest : Int)] 103)) := by
  have h1 : Below W1.heap.size W1 w' := ((Below.refl W1.heap.size W1).drew).trans hb
  have h2 := h1.size
  have h3 : Below W1.heap.size W1 (w'.alloc (Obj.cells #[.bool y.valid, .int .i64 y.kind, .int .i64 (y.nest : Int)] 103)) := h1.alloc h2 _
  have h4 := h.own.lt
  have h5 := h.below.size
  have h6 := h.res.lt
  exact ⟨h.move h3, boxAt_new w' _ (by omega) rfl, by omega, by omega⟩
theorem fo_before {w : World} {xs : List Nd} {j g cp : Nat} {ss : List Shape} {W1 w' : World} (y : Shape) (h : FoJ w xs j g cp ss W1) (hb : Below (W1.drew.alloc (Obj.cells #[.bool false, .int .i64 0, .int .i64 0] 103)).heap.size (W1.drew.alloc (Obj.cells #[.bool false, .int .i64 0, .int .i64 0] 103)) w') :
    FoK w xs j g cp ss W1.heap.size y (((w'.setCell ⟨W1.heap.size, 0, none⟩ (.bool y.valid)).setCell ⟨W1.heap.size, 1, none⟩ (.int .i64 y.kind)).setCell ⟨W1.heap.size, 2, none⟩ (.int .i64 (y.nest : Int))) := by
  have hd : W1.drew.heap.size = W1.heap.size := by simp
  have h0 : Below W1.heap.size W1 (W1.drew.alloc (Obj.cells #[.bool false, .int .i64 0, .int .i64 0] 103)) := ((Below.refl W1.heap.size W1).drew).alloc (by simp) _
  have h1 : Below W1.heap.size W1 w' := h0.trans (hb.mono (by simp))
  have h4 := h.own.lt
  have h5 := h.below.size
  have h6 := h.res.lt
  have hB : BoxAt w' w.heap.size 103 3 W1.heap.size [.bool false, .int .i64 0, .int .i64 0] := by
    have := boxAt_new W1.drew (base := w.heap.size) (t := 103) (sz := 3) #[.bool false, .int .i64 0, .int .i64 0] (by simp; omega) rfl
    rw [hd] at this
    exact this.below hb
  have hJ := h.move h1
  have hC : Chg (fun k => k = W1.heap.size) w' (((w'.setCell ⟨W1.heap.size, 0, none⟩ (.bool y.valid)).setCell ⟨W1.heap.size, 1, none⟩ (.int .i64 y.kind)).setCell ⟨W1.heap.size, 2, none⟩ (.int .i64 (y.nest : Int))) :=
    ((Chg.of_set w' W1.heap.size 0 _ (S := fun k => k = W1.heap.size) rfl).trans (Chg.of_set _ W1.heap.size 1 _ (S := fun k => k = W1.heap.size) rfl)).trans (Chg.of_set _ W1.heap.size 2 _ (S := fun k => k = W1.heap.size) rfl)
  refine ⟨⟨hJ.fold, own_chg hJ.own hC (fun k q => by simp [Value.ownBlock] at q; omega), hJ.res.chg hC (by omega), ?_⟩, ((hB.set 0 _).set 1 _).set 2 _, by omega, by omega⟩
  exact below_set (below_set (below_set hJ.below (by omega) 0 _) (by omega) 1 _) (by omega) 2 _
theorem sh_new (X : World) (y : Shape) (B : Nat) (hB : X.heap.size = B) : ShsAt (X.alloc (Obj.cells #[.bool y.valid, .int .i64 y.kind, .int .i64 (y.nest : Int)] 103)) B 0 [y] := by
  subst hB
  intro i s hs
  have hi : i = 0 := by have := (List.getElem?_eq_some_iff.1 hs).1; simpa using this
  subst hi
  simp at hs
  subst hs
  exact ⟨by simp, by simp, by simp⟩
theorem fo_push {w wc X w' : World} {xs : List Nd} {j g cp g' cp' fr : Nat} {ss : List Shape} {y : Shape} (h : FoJ w xs j g cp ss wc) (hX : Below wc.heap.size wc X) (hY : foldM goodB [] (xs.take (j + 1)) = some (ss.take fr ++ [y])) (hO : OwnSh w' (w.heap.size + 1) g' cp' (ss.take fr ++ [y])) (hgr : X.grownBy w' (some g)) (hm : fr = (ss.take fr).length) : FoJ w xs (j + 1) g' cp' (ss.take fr ++ [y]) w' ∧ fr + 1 ≤ cp' := by
  have hJ := h.move hX
  have h1 := hJ.own.lt
  have hC : Chg (fun k => k = g) X w' := Chg.of_grown hgr (fun k hk => by cases hk; rfl)
  refine ⟨⟨hY, hO, hJ.res.chg hC (by omega), Chg.below hJ.below hC hJ.below.size (fun k q => by omega)⟩, ?_⟩
  have := hO.caps.1
  rw [List.length_append, List.length_singleton, ← hm] at this
  exact this
set_option maxHeartbeats 16000000 in
theorem foldTree_win {w : World} {gN oN cpN : Nat} {xs : List Nd} (h : NdsAt w gN oN xs) (hg : gN < w.heap.size) (hok : ∀ e ∈ xs, e.ok) (hl : xs.length ≤ 200) :
    Calls Try.prog 66 #[.slice (some ⟨gN, oN, none⟩) xs.length cpN, .func (Fn.func 67) #[] #[]] w (FoldPost xs w) := by
  have HF : Hid (NdsAt w gN oN xs ∧ ∀ e ∈ xs, e.ok) := ⟨h, hok⟩
  obtain ⟨n, hn⟩ : ∃ n, n = xs.length := ⟨_, rfl⟩
  have HL : Hid (n = xs.length) := hn
  rw [← hn] at hl ⊢
  clear h hok hn
  obtain ⟨W0, hW0⟩ : ∃ W0 : World, W0 = (w.alloc (Obj.cells #[.bool false, .int .i64 0, .int .i64 0] 103)).alloc (Obj.cells #[] 103) := ⟨_, rfl⟩
  have HW0 : Hid (FoJ w xs 0 (w.heap.size + 1) 0 [] W0) := by
    obtain ⟨V, hV⟩ : ∃ V : World, V = w.alloc (Obj.cells #[.bool false, .int .i64 0, .int .i64 0] 103) := ⟨_, rfl⟩
    have hz : V.heap.size = w.heap.size + 1 := by rw [hV]; simp
    have hb : Below V.heap.size V W0 := by rw [hW0, ← hV]; exact (Below.refl _ _).alloc (Nat.le_refl _) _
    have hbV : Below w.heap.size w V := by rw [hV]; exact (Below.refl _ _).alloc (Nat.le_refl _) _
    have hB : BoxAt V w.heap.size 103 3 w.heap.size [.bool false, .int .i64 0, .int .i64 0] := by rw [hV]; exact boxAt_new w _ (Nat.le_refl _) rfl
    refine ⟨rfl, ?_, hB.below hb, hbV.trans (hb.mono (by omega))⟩
    rw [hW0, ← hV, ← hz]
    exact ownSh_new V (Nat.le_refl _)
  go_enter Try.func66, Try.ntmps66
  go_upto_region 2 with fail
  rw [← hW0]
  clear hW0
  go_wp2_with fail
  go_loopw [6, 14] (fun sv iv wr => ∃ (j m g cp : Nat) (ss : List Shape), iv = .int .i64 (j : Int) ∧ j ≤ n ∧ m = ss.length ∧ m ≤ j ∧ m ≤ cp ∧ sv = .slice (some ⟨g, 0, none⟩) m cp ∧ FoJ w xs j g cp ss wr) (fun _ iv _ => n - (intOf iv).toNat)
  case atStart => exact ⟨0, 0, _, 0, [], rfl, Nat.zero_le _, rfl, Nat.le_refl _, Nat.zero_le _, rfl, HW0.out⟩
  case round =>
    obtain ⟨j, m, g, cp, ss, rfl, hj, hm, hmj, hmc, rfl, hJ⟩ := hrel
    have HJ : Hid (m = ss.length ∧ FoJ w xs j g cp ss wr) := ⟨hm, hJ⟩
    have hgl := hJ.own.lt
    have hcp : cp ≤ 9223372036854775807 := by have := hJ.own.caps.2; unfold maxLen at this; omega
    have hsz := hJ.below.size
    have hrl := hJ.res.lt.2
    have r0 := hJ.res.cell (j := 0) rfl
    have r1 := hJ.res.cell (j := 1) rfl
    have r2 := hJ.res.cell (j := 2) rfl
    have f0 := hJ.res.frozen 0
    have f1 := hJ.res.frozen 1
    have f2 := hJ.res.frozen 2
    clear hm hJ HW0
    by_cases hlt : j < n
    · have zj : (j : Int) < (n : Int) := by omega
      obtain ⟨e, he⟩ : ∃ e, xs[j]? = some e := ⟨_, List.getElem?_eq_getElem (by have := HL.out; omega)⟩
      obtain ⟨d0, d1, d2, d3, d4, d5, d6⟩ := (HF.out.1.below HJ.out.2.below hg) j e he
      have ok := HF.out.2 e (List.mem_of_getElem? he)
      have HE : Hid (xs[j]? = some e ∧ e.s.size ≤ maxLen ∧ e.t.size ≤ maxLen) := ⟨he, ok.s, ok.t⟩
      clear ok he
      obtain ⟨W1, hW1⟩ : ∃ W1 : World, W1 = wr.alloc (Obj.cells #[.int .i64 e.kind, .string e.s, .bool e.hi, .string e.t, .int .u64 e.lo, .int .u64 e.up, .int .i64 e.n] 98) := ⟨_, rfl⟩
      have hb1 : Below wr.heap.size wr W1 := by rw [hW1]; exact (Below.refl _ _).alloc (Nat.le_refl _) _
      have hz1 : W1.heap.size = wr.heap.size + 1 := by rw [hW1]; simp
      have HJ1 : Hid (m = ss.length ∧ FoJ w xs j g cp ss W1 ∧ BoxAt W1 w.heap.size 98 7 wr.heap.size e.seven) := by
        refine ⟨HJ.out.1, HJ.out.2.move hb1, ?_⟩
        rw [hW1]; exact boxAt_new wr _ hsz rfl
      go_upto_region 5 with fail
      rw [← hW1]
      clear hW1 d0 d1 d2 d3 d4 d5 d6 r0 r1 r2 f0 f1 f2 HJ hb1
      have c0 := HJ1.out.2.2.cell (j := 0) rfl
      have c1 := HJ1.out.2.2.cell (j := 1) rfl
      have c2 := HJ1.out.2.2.cell (j := 2) rfl
      have c3 := HJ1.out.2.2.cell (j := 3) rfl
      have c4 := HJ1.out.2.2.cell (j := 4) rfl
      have c5 := HJ1.out.2.2.cell (j := 5) rfl
      have c6 := HJ1.out.2.2.cell (j := 6) rfl
      obtain ⟨a, ha⟩ : ∃ a, a = arity e.kind := ⟨_, rfl⟩
      have ha3 : a ≤ 3 := by rw [ha]; exact arity_le _
      have HAr : Hid (Calls Try.prog 86 #[.int .i64 e.kind] W1 fun r w' => r = .returned (.int .i64 (a : Int)) ∧ w' = W1) := by rw [ha]; exact operandCount_core e.kind W1
      have HAk : Hid (a = arity e.kind) := ha
      clear ha
      go_wp2_with fail
      refine HAr.out.mono ?_
      rintro r w9 ⟨rfl, hw9⟩
      rw [hw9]
      clear hw9 HAr
      by_cases hfr : m < a
      · have zf : (m : Int) - (a : Int) < 0 := by omega
        have r0 := HJ1.out.2.1.res.cell (j := 0) rfl
        have r1 := HJ1.out.2.1.res.cell (j := 1) rfl
        have r2 := HJ1.out.2.1.res.cell (j := 2) rfl
        have f0 := HJ1.out.2.1.res.frozen 0
        have f1 := HJ1.out.2.1.res.frozen 1
        have f2 := HJ1.out.2.1.res.frozen 2
        have HS : Hid (foldM goodB [] xs = none) := fold_stop HJ1.out.2.1.fold HE.out.1 (by rw [← HJ1.out.1, ← HAk.out]; exact hfr)
        obtain ⟨W9, hW9⟩ : ∃ W9 : World, W9 = set3 W1 w.heap.size (.bool false) (.int .i64 0) (.int .i64 0) := ⟨_, rfl⟩
        have HW9 : Hid (BoxAt W9 w.heap.size 103 3 w.heap.size [.bool false, .int .i64 0, .int .i64 0] ∧ Below w.heap.size w W9) := by
          rw [hW9]; exact ⟨HJ1.out.2.1.res.set3 _ _ _, below_set3 HJ1.out.2.1.below (Nat.le_refl _) _ _ _⟩
        have p0 := HW9.out.1.cell (j := 0) rfl
        have p1 := HW9.out.1.cell (j := 1) rfl
        have p2 := HW9.out.1.cell (j := 2) rfl
        unfold set3 at hW9
        go_wp2_with fail
        rw [← hW9]
        refine bodyPost_ret (v := .tuple #[.agg #[.bool false, .int .i64 0, .int .i64 0], .bool false]) (by simp [results, Try.results66, go_sem, p0, p1, p2]) rfl ⟨HW9.out.2, .inr ⟨fun s q => (by rw [HS.out] at q; cases q), rfl⟩⟩
      · obtain ⟨fr, hfrm⟩ : ∃ fr : Nat, (m : Int) - (a : Int) = (fr : Int) := ⟨m - a, by omega⟩
        have hfrle : fr ≤ m := by omega
        have HFr : Hid (fr = ss.length - arity e.kind ∧ arity e.kind ≤ ss.length) := by
          have h1 := HJ1.out.1
          have h2 := HAk.out
          exact ⟨by omega, by omega⟩
        have zf : ¬ (fr : Int) < 0 := by omega
        have z2 : (fr : Int) ≤ (m : Int) := by omega
        have z3 : (m : Int) ≤ (cp : Int) := by omega
        obtain ⟨y, hy⟩ : ∃ y, y = shapeM goodB e (ss.drop fr) := ⟨_, rfl⟩
        have HY : Hid (foldM goodB [] (xs.take (j + 1)) = some (ss.take fr ++ [y])) := by
          show _ = _
          rw [hy, HFr.out.1]
          exact fold_next HJ1.out.2.1.fold HE.out.1 HFr.out.2
        obtain ⟨ad, had⟩ : ∃ ad : Option Addr, (if cp = fr then some (⟨g, 0, none⟩ : Addr) else some ⟨g, fr * 3, none⟩) = ad := ⟨_, rfl⟩
        have HSh : Hid (∀ X, Below W1.heap.size W1 X → Calls Try.prog 67 #[.agg #[.int .i64 e.kind, .string e.s, .bool e.hi, .string e.t, .int .u64 e.lo, .int .u64 e.up, .int .i64 e.n], .slice ad (m - fr) (cp - fr)] X fun r w' => r = .returned (.agg #[.bool y.valid, .int .i64 y.kind, .int .i64 (y.nest : Int)]) ∧ Below X.heap.size X w') := fun X hX => by
          have hs1 := HJ1.out.2.1.own.at.below hX HJ1.out.2.1.own.lt.2
          have hs2 := hs1.drop fr
          rw [Nat.zero_add] at hs2
          have hlen : (ss.drop fr).length = m - fr := by rw [List.length_drop, ← HJ1.out.1]
          have hX2 := hX.size
          have hg2 := HJ1.out.2.1.own.lt.2
          have hnest : ∀ x ∈ ss.drop fr, x.nest ≤ 1000 := fun x hx => by
            have h1 := fold_nest HJ1.out.2.1.fold x (List.mem_of_mem_drop hx)
            rw [List.length_take] at h1
            omega
          have hos : (ss.drop fr).length ≤ 3 := by rw [hlen]; have := HFr.out.1; have := HAk.out; have := HJ1.out.1; omega
          rw [hy, ← had]
          by_cases hcf : cp = fr
          · rw [if_pos hcf]
            have hnil : ss.drop fr = [] := List.length_eq_zero_iff.1 (by rw [hlen]; omega)
            have h9 := shapeOf_core (w := X) (b := g) (o := 0) (cap := cp - fr) (os := ss.drop fr) e (by rw [hnil]; intro i s hs; simp at hs) (by omega) (by rw [hlen]; omega) hos (by omega) hnest HE.out.2.1 HE.out.2.2
            rw [hlen] at h9
            exact h9
          · rw [if_neg hcf]
            have h9 := shapeOf_core (w := X) (b := g) (o := fr * 3) (cap := cp - fr) (os := ss.drop fr) e hs2 (by omega) (by rw [hlen]; omega) hos (by omega) hnest HE.out.2.1 HE.out.2.2
            rw [hlen] at h9
            exact h9
        clear hy hfr
        go_upto_region 8 with fail
        go_cut [10] (fun sv wx => ∃ SB, sv = .pointer (some ⟨SB, 0, none⟩) ∧ FoK w xs j g cp ss SB y wx)
        case first =>
          go_region_law ((go_simp; go_at_call 67; refine (HSh.out _ ?hX).mono ?_; (case hX => (repeat (first | exact Below.refl _ _ | refine Below.drew ?_ | refine Below.alloc ?_ (by simp) _))); rintro r w' ⟨rfl, hbb⟩; obtain ⟨hcc, hff⟩ := bcell hbb; have hsz' := hbb.size))
          all_goals go_wp2_with fail
          all_goals go_meet
          all_goals first
            | exact ⟨_, rfl, fo_after y HJ1.out.2.1 hbb⟩
            | exact ⟨_, rfl, by have h9 := fo_before y HJ1.out.2.1 hbb; rw [hz1] at h9; exact h9⟩
        case rest =>
        obtain ⟨SB, rfl, hK⟩ := hcut
        have HK : Hid (FoK w xs j g cp ss SB y wc) := hK
        have b0 := hK.box.cell (j := 0) rfl
        have b1 := hK.box.cell (j := 1) rfl
        have b2 := hK.box.cell (j := 2) rfl
        have hgl2 := hK.fo.own.lt
        have hsb := hK.box.lt.2
        have hnsb := hK.ne
        have hsz2 := hK.fo.below.size
        have HM : Hid (fr = (ss.take fr).length) := by
          show fr = _
          rw [List.length_take, ← HJ1.out.1]
          omega
        clear hK c0 c1 c2 c3 c4 c5 c6 HSh
        go_upto_region 9 with fail
        have hfl : fr ≤ ss.length := by rw [← HJ1.out.1]; exact hfrle
        have z4 : (fr : Int) ≤ (cp : Int) := by omega
        have z5 : fr ≤ cp := by omega
        go_region_law ((refine step_append_shape _ (by rfl) _ _ (by rfl) (w.heap.size + 1) fr g cp wc.heap.size (ss.take fr) y HM.out (by rfl) (by rfl) ?hO ?hc ?hl ?hb ?_
                        case hO => (refine OwnSh.below (HK.out.fo.own.take hfl) ?_; repeat (first | exact Below.refl _ _ | refine Below.drew ?_ | refine Below.alloc ?_ (by simp) _))
                        case hc => exact sh_new _ y _ (by simp)
                        case hl => rw [← HM.out]; omega
                        case hb => simp; omega
                        intro g' cp' w' hO' hgr' hat'
                        have fin : Hid (FoJ w xs (j + 1) g' cp' (ss.take fr ++ [y]) w' ∧ fr + 1 ≤ cp') := fo_push HK.out.fo (by repeat (first | exact Below.refl _ _ | refine Below.drew ?_ | refine Below.alloc ?_ (by simp) _)) HY.out hO' hgr' HM.out
                        clear hO' hgr' hat'))
        all_goals go_wp2_with fail
        all_goals go_roundw
        all_goals first
          | exact ⟨j + 1, fr + 1, g', cp', ss.take fr ++ [y], by go_num, by omega, by rw [List.length_append, List.length_singleton, ← HM.out], by omega, fin.out.2, rfl, fin.out.1⟩
          | (simp [intOf]; omega)
    · have zj : ¬ (j : Int) < (n : Int) := by omega
      have HFo : Hid (foldM goodB [] xs = some ss) := by
        have h1 := HJ.out.2.fold
        rw [List.take_of_length_le (by have := HL.out; omega)] at h1
        exact h1
      by_cases hm1 : m = 1
      · subst hm1
        obtain ⟨s, rfl⟩ : ∃ s, ss = [s] := by
          have h1 := HJ.out.1
          match ss, h1 with
          | [s], _ => exact ⟨s, rfl⟩
        obtain ⟨e0, e1, e2⟩ := HJ.out.2.own.at 0 s rfl
        simp only [Nat.zero_add, Nat.zero_mul] at e0 e1 e2
        obtain ⟨W9, hW9⟩ : ∃ W9 : World, W9 = set3 wr w.heap.size (.bool s.valid) (.int .i64 s.kind) (.int .i64 (s.nest : Int)) := ⟨_, rfl⟩
        have HW9 : Hid (BoxAt W9 w.heap.size 103 3 w.heap.size [.bool s.valid, .int .i64 s.kind, .int .i64 (s.nest : Int)] ∧ Below w.heap.size w W9) := by
          rw [hW9]; exact ⟨HJ.out.2.res.set3 _ _ _, below_set3 HJ.out.2.below (Nat.le_refl _) _ _ _⟩
        have p0 := HW9.out.1.cell (j := 0) rfl
        have p1 := HW9.out.1.cell (j := 1) rfl
        have p2 := HW9.out.1.cell (j := 2) rfl
        unfold set3 at hW9
        go_wp2_with fail
        rw [← hW9]
        refine bodyPost_ret (v := .tuple #[.agg #[.bool s.valid, .int .i64 s.kind, .int .i64 (s.nest : Int)], .bool true]) (by simp [results, Try.results66, go_sem, p0, p1, p2]) rfl ⟨HW9.out.2, .inl ⟨s, HFo.out, rfl⟩⟩
      · have zm : ((m : Int) != 1) = true := by have : ¬ (m : Int) = 1 := (by omega); simpa using this
        obtain ⟨W9, hW9⟩ : ∃ W9 : World, W9 = set3 wr w.heap.size (.bool false) (.int .i64 0) (.int .i64 0) := ⟨_, rfl⟩
        have HW9 : Hid (BoxAt W9 w.heap.size 103 3 w.heap.size [.bool false, .int .i64 0, .int .i64 0] ∧ Below w.heap.size w W9) := by
          rw [hW9]; exact ⟨HJ.out.2.res.set3 _ _ _, below_set3 HJ.out.2.below (Nat.le_refl _) _ _ _⟩
        have p0 := HW9.out.1.cell (j := 0) rfl
        have p1 := HW9.out.1.cell (j := 1) rfl
        have p2 := HW9.out.1.cell (j := 2) rfl
        unfold set3 at hW9
        go_wp2_with fail
        rw [← hW9]
        refine bodyPost_ret (v := .tuple #[.agg #[.bool false, .int .i64 0, .int .i64 0], .bool false]) (by simp [results, Try.results66, go_sem, p0, p1, p2]) rfl ⟨HW9.out.2, .inr ⟨fun s q => ?_, rfl⟩⟩
        rw [HFo.out] at q
        have h1 := HJ.out.1
        rw [Option.some.inj q] at h1
        exact hm1 h1
theorem foldTree_core {w : World} {gN cpN : Nat} {xs : List Nd} (h : NdsAt w gN 0 xs) (hg : gN < w.heap.size) (hok : ∀ e ∈ xs, e.ok) (hl : xs.length ≤ 200) :
    Calls Try.prog 66 #[.slice (some ⟨gN, 0, none⟩) xs.length cpN, .func (Fn.func 67) #[] #[]] w (FoldPost xs w) := foldTree_win h hg hok hl
end Go.Proofs.Ytnncedndlhfdkab

