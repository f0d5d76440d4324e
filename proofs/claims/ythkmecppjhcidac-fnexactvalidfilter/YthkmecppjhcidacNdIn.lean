/-
  Nodes that come in: lists of nodes and filters opened, copied and compared.
-/
import Derived.Test.YthkmecppjhcidacNdR
namespace Go.Proofs.Ythkmecppjhcidac
open Go.ChangeShapes Go.WideShapes Go.ChangeAt Go.RowKit Go.Deep
set_option linter.unusedVariables false
set_option linter.unusedSimpArgs false
set_option maxRecDepth 100000

theorem Try.cellsNd : Try.prog.cellsOf 115 = 7 := by kernel_rfl
theorem list7 {α : Type} {cs : List α} (h : cs.length = 7) : ∃ c0 c1 c2 c3 c4 c5 c6, cs = [c0, c1, c2, c3, c4, c5, c6] := by
  match cs, h with
  | [c0, c1, c2, c3, c4, c5, c6], _ => exact ⟨c0, c1, c2, c3, c4, c5, c6, rfl⟩
theorem nd_of_trod {H : Type} {enc : TypeId × Value → H} {w : World} {base : Nat} {spare : Nat → Bool} {held : Bool} {fuel : Nat} {cs : List Value} {x : DataW H × List MemPlace}
    (h : DataW.trod enc Try.prog w base spare held fuel 115 cs = some x) : ∃ e : Nd, e.ok ∧ cs = e.seven := by
  obtain ⟨xs, n, _, _, hl, hlen, hf⟩ := DataW.trod_struct Try.underlying115 h
  rw [Try.cellsNd] at hl
  obtain ⟨c0, c1, c2, c3, c4, c5, c6, rfl⟩ := list7 hl
  obtain ⟨x0, x1, x2, x3, x4, x5, x6, rfl⟩ := list7 (cs := xs) hlen
  have h0 := hf 0 _ rfl
  have h1 := hf 1 _ rfl
  have h2 := hf 2 _ rfl
  have h3 := hf 3 _ rfl
  have h4 := hf 4 _ rfl
  have h5 := hf 5 _ rfl
  have h6 := hf 6 _ rfl
  simp [Try.cellsStr, Try.cellsU64, Try.cellsI64, Try.cellsBool] at h0 h1 h2 h3 h4 h5 h6
  obtain ⟨a0, e0, _, b0⟩ := DataW.trod_int Try.underlying2 h0
  obtain ⟨a1, e1, _, b1⟩ := DataW.trod_string Try.underlying9 h1
  obtain ⟨a2, e2, _⟩ := DataW.trod_bool Try.underlying4 h2
  obtain ⟨a3, e3, _, b3⟩ := DataW.trod_string Try.underlying9 h3
  obtain ⟨a4, e4, _, b4⟩ := DataW.trod_int Try.underlying58 h4
  obtain ⟨a5, e5, _, b5⟩ := DataW.trod_int Try.underlying58 h5
  obtain ⟨a6, e6, _, b6⟩ := DataW.trod_int Try.underlying2 h6
  simp only [List.cons.injEq, and_true] at e0 e1 e2 e3 e4 e5 e6
  exact ⟨⟨a0, a1, a2, a3, a4, a5, a6⟩, ⟨b1, b3, b0, b4, b5, b6⟩, by rw [e0, e1, e2, e3, e4, e5, e6]⟩

/-- What is read of a slice of cells that came in. -/
def InNds (w : World) (v : Value) (es : List Nd) : Prop :=
  (∃ a cap, v = .slice a 0 cap ∧ es = []) ∨
  ∃ b off cap, v = .slice (some ⟨b, off, none⟩) es.length cap ∧ NdsAt w b off es ∧ b < w.heap.size ∧ es.length ≤ cap ∧ cap ≤ maxLen
theorem InNds.below {B : Nat} {w w' : World} {v : Value} {es : List Nd} (h : InNds w v es) (hb : Below B w w') (hB : w.heap.size ≤ B) : InNds w' v es := by
  rcases h with h | ⟨b, off, cap, hv, hE, hlt, h1, h2⟩
  · exact .inl h
  · exact .inr ⟨b, off, cap, hv, hE.below hb (by omega), by have := hb.size; omega, h1, h2⟩
theorem nds_of_trod {H : Type} {enc : TypeId × Value → H} {w : World} {base : Nat} {held : Bool} {fuel : Nat} {v : Value} {x : DataW H × List MemPlace}
    (h : DataW.trod enc Try.prog w base (fun _ => true) held fuel 33 [v] = some x) : ∃ es : List Nd, InNds w v es ∧ ∀ e ∈ es, e.ok := by
  rcases open_slice Try.underlying33 h with ⟨hcs, _⟩ | ⟨a, len, cap, m, n, D, Pl, hcs, hba, hl, hm, hmm, _, hel⟩
  · simp only [List.cons.injEq, and_true] at hcs
    exact ⟨[], .inl ⟨none, 0, hcs, rfl⟩, by simp⟩
  · simp only [List.cons.injEq, and_true] at hcs
    subst hcs
    rw [if_pos rfl] at hmm
    subst hmm
    have hel6 : ∀ i, i < m → ∃ cs', w.cells? base (a.add (i * 7)) 7 = some cs' ∧ DataW.trod enc Try.prog w base (fun _ => true) held n 115 cs' = some (D i, Pl i) := fun i hi => by
      have := hel i hi
      rw [Try.cellsNd] at this
      exact this
    clear hel
    have HM : Hid (m ≤ maxLen) := hm
    clear hm
    by_cases h0 : len = 0
    · subst h0; exact ⟨[], .inl ⟨_, _, rfl, rfl⟩, by simp⟩
    · obtain ⟨b, off, spot⟩ := a
      have hspot : spot = none := by
        obtain ⟨cs', hc, _⟩ := hel6 0 (by omega)
        obtain ⟨_, hlen, hget⟩ := World.cells?_some hc
        have h1 := hget 0 (by omega)
        have h2 : (w.cell? ((Addr.add ⟨b, off, spot⟩ (0 * 7)).add 0)).isSome = true := by rw [h1]; simp; omega
        obtain ⟨u, hu⟩ := Option.isSome_iff_exists.1 h2
        simpa [Addr.add] using World.cell?_spot hu
      subst hspot
      obtain ⟨es, hes, hp⟩ := list_of_forall (P := fun i (e : Nd) => e.ok ∧ (w.cell? ⟨b, off + i * 7, none⟩ = some (.int .i64 e.kind) ∧ w.cell? ⟨b, off + i * 7 + 1, none⟩ = some (.string e.s) ∧ w.cell? ⟨b, off + i * 7 + 2, none⟩ = some (.bool e.hi) ∧ w.cell? ⟨b, off + i * 7 + 3, none⟩ = some (.string e.t) ∧ w.cell? ⟨b, off + i * 7 + 4, none⟩ = some (.int .u64 e.lo) ∧ w.cell? ⟨b, off + i * 7 + 5, none⟩ = some (.int .u64 e.up) ∧ w.cell? ⟨b, off + i * 7 + 6, none⟩ = some (.int .i64 e.n))) len (fun i hi => by
        obtain ⟨cs', hc, ht⟩ := hel6 i (by omega)
        obtain ⟨e, ok, rfl⟩ := nd_of_trod ht
        obtain ⟨_, hlen, hget⟩ := World.cells?_some hc
        refine ⟨e, ok, ?_, ?_, ?_, ?_, ?_, ?_, ?_⟩
        · simpa [Addr.add_mid] using hget 0 (by omega)
        · simpa [Addr.add_mid] using hget 1 (by omega)
        · simpa [Addr.add_mid] using hget 2 (by omega)
        · simpa [Addr.add_mid] using hget 3 (by omega)
        · simpa [Addr.add_mid] using hget 4 (by omega)
        · simpa [Addr.add_mid] using hget 5 (by omega)
        · simpa [Addr.add_mid] using hget 6 (by omega))
      have hlt : b < w.heap.size := by
        obtain ⟨cs', hc, _⟩ := hel6 0 (by omega)
        simpa [Addr.add] using World.cells?_block hc (by omega)
      subst hes
      refine ⟨es, .inr ⟨b, off, m, rfl, fun i e he => (hp i e he).2, hlt, hl, HM.out⟩, fun e he => ?_⟩
      obtain ⟨i, hi⟩ := List.getElem?_of_mem he
      exact (hp i e hi).1

set_option maxHeartbeats 400000 in
theorem szNodeS_core (b off cap : Nat) (es : List Nd) (left : Int) (w : World) (hE : NdsAt w b off es) (hok : ∀ e ∈ es, e.ok) (hB : b < w.heap.size) (hlen : es.length ≤ cap) (hcap : cap ≤ maxLen) (h0 : 0 ≤ left) (h1 : left ≤ 2 ^ 40) :
    Calls Try.prog 40 #[.slice (some ⟨b, off, none⟩) es.length cap, .int .i64 left] w fun e w' =>
      ∃ x, e = .returned (.int .i64 x) ∧ (x = -1 ∨ (0 ≤ x ∧ x + es.length ≤ left)) ∧ Below w.heap.size w w' := by
  have HE : Hid (NdsAt w b off es) := hE
  have HO : Hid (∀ e ∈ es, e.ok) := hok
  clear hE hok
  unfold maxLen at hcap
  by_cases hle : left < es.length
  · have hle' : left - es.length < 0 := by omega
    go_enter Try.func40, Try.ntmps40
    go_wp2
    go_ret
    exact ⟨_, rfl, .inl rfl, Below.refl _ _⟩
  have hle' : 0 ≤ left - es.length := by omega
  go_enter Try.func40, Try.ntmps40
  go_wp2
  go_loopw [1, 5] (fun l i wr => ∃ (k : Nat) (x : Int), k ≤ es.length ∧ i = .int .i64 k ∧ l = .int .i64 x ∧ 0 ≤ x ∧ x + es.length ≤ left ∧ Below w.heap.size w wr) (fun _ i _ => es.length - (intOf i).toNat)
  case atStart => exact ⟨0, _, Nat.zero_le _, rfl, rfl, hle', by omega, Below.refl _ _⟩
  case round =>
    obtain ⟨k, x, hk, rfl, rfl, hx0, hx1, hb⟩ := hrel
    by_cases hlt : k < es.length
    · obtain ⟨e, he⟩ : ∃ e, es[k]? = some e := ⟨_, List.getElem?_eq_getElem hlt⟩
      obtain ⟨c0, c1, c2, c3, c4, c5, c6⟩ := (HE.out.below hb hB) k e he
      have ok := HO.out e (List.mem_of_getElem? he)
      have HK : Hid e.ok := ok
      clear ok he
      go_wp2_with fail
      refine (szNode_core e _ _ HK.out (by omega) (by omega)).mono ?_
      rintro e w1 ⟨y, rfl, hy, hb1⟩
      have hsz := hb.size
      have hb2 := hb.trans (hb1.mono hsz)
      clear c0 c1 c2 c3 c4 c5 c6 hb1
      by_cases hy0 : y < 0
      · go_wp2_with fail
        go_ret
        exact ⟨_, rfl, .inl rfl, hb2⟩
      · have hy1 : 0 ≤ y := by omega
        have hy2 : y + es.length ≤ left := by omega
        go_wp2_with fail
        go_roundw
        case rel => exact ⟨k + 1, y, by omega, by go_num, rfl, hy1, hy2, hb2⟩
        case measure => simp [intOf]; omega
    · go_wp2
      go_ret
      exact ⟨_, rfl, .inr ⟨hx0, hx1⟩, hb⟩
set_option maxHeartbeats 400000 in
theorem szNodeS_zero (a : Option Addr) (cap : Nat) (left : Int) (w : World) (h0 : 0 ≤ left) (h1 : left ≤ 2 ^ 40) :
    Calls Try.prog 40 #[.slice a 0 cap, .int .i64 left] w fun e w' => e = .returned (.int .i64 left) ∧ Below w.heap.size w w' := by
  go_enter Try.func40, Try.ntmps40
  go_wp2
  go_loopw [1, 5] (fun l i wr => l = .int .i64 left ∧ i = .int .i64 0 ∧ Below w.heap.size w wr) (fun _ i _ => 0)
  case atStart => exact ⟨rfl, rfl, Below.refl _ _⟩
  case round =>
    obtain ⟨rfl, rfl, hb⟩ := hrel
    go_wp2_with fail
    go_ret
    exact ⟨rfl, hb⟩
theorem szNodeS_any (v : Value) (es : List Nd) (left : Int) (w : World) (h : InNds w v es) (hok : ∀ e ∈ es, e.ok) (h0 : 0 ≤ left) (h1 : left ≤ 2 ^ 40) :
    Calls Try.prog 40 #[v, .int .i64 left] w fun e w' =>
      ∃ x, e = .returned (.int .i64 x) ∧ (x = -1 ∨ (0 ≤ x ∧ x + es.length ≤ left)) ∧ Below w.heap.size w w' := by
  rcases h with ⟨a, cap, rfl, rfl⟩ | ⟨b, off, cap, rfl, hE, hlt, g1, g2⟩
  · exact (szNodeS_zero a cap left w h0 h1).mono fun e w' ⟨he, hb⟩ => ⟨left, he, .inr ⟨h0, by simp⟩, hb⟩
  · exact szNodeS_core b off cap es left w hE hok hlt g1 g2 h0 h1

theorem made_zeroN (n : Nat) : (madeCells #[.int .i64 0, .string ⟨#[]⟩, .bool false, .string ⟨#[]⟩, .int .u64 0, .int .u64 0, .int .i64 0] (n * 7)).toList = cellsN (List.replicate n zeroN) := by
  apply List.ext_getElem?
  intro j
  by_cases hj : j < n * 7
  · have h := cellsN_get (List.replicate n zeroN) (j / 7) zeroN (by rw [List.getElem?_replicate, if_pos (by omega)]) (j % 7) (Nat.mod_lt _ (by omega))
    rw [show j / 7 * 7 + j % 7 = j by omega] at h
    rw [h]
    have h6 : j % 7 < 7 := Nat.mod_lt _ (by omega)
    simp [madeCells, hj]
    generalize j % 7 = m at *
    match m, h6 with
    | 0, _ => rfl
    | 1, _ => rfl
    | 2, _ => rfl
    | 3, _ => rfl
    | 4, _ => rfl
    | 5, _ => rfl
    | 6, _ => rfl
  · have h1 : (cellsN (List.replicate n zeroN)).length ≤ j := by rw [length_cellsN, List.length_replicate]; omega
    rw [List.getElem?_eq_none h1]
    simp [madeCells, hj]
set_option maxHeartbeats 400000 in
theorem toNodeS_core (b off cap : Nat) (es : List Nd) (w : World) (hE : NdsAt w b off es) (hB : b < w.heap.size) (hlen : es.length ≤ cap) (hcap : cap ≤ maxLen) (h1 : es.length ≤ 1048576) :
    Calls Try.prog 44 #[.slice (some ⟨b, off, none⟩) es.length cap] w fun e w' =>
      ∃ g, e = .returned (.slice (some ⟨g, 0, none⟩) es.length es.length) ∧ OwnNd w' w.heap.size g es.length es ∧ Below w.heap.size w w' := by
  have HE : Hid (NdsAt w b off es) := hE
  clear hE
  unfold maxLen at hcap
  obtain ⟨i, hi, hz0, hz1, hz2⟩ := info_parts Try.infoNd
  have HI : Hid (Try.prog.info? 76 = some i ∧ i.zero = some (.agg #[.int .i64 0, .string ⟨#[]⟩, .bool false, .string ⟨#[]⟩, .int .u64 0, .int .u64 0, .int .i64 0]) ∧ i.size = 7 ∧ i.bytes = 72) := ⟨hi, hz0, hz1, hz2⟩
  clear hi hz0 hz1 hz2
  go_enter Try.func44, Try.ntmps44
  go_wp2_with (at_make; refine wpList_make_full _ rfl _ _ 38 rfl w.heap.size 76 i _ 7 Try.underlying38 HI.out.1 HI.out.2.1 HI.out.2.2.1 _ _ _ _ es.length rfl rfl ?_ ?_ ?hb ?hm ?hs ?_)
  case hb => rw [HI.out.2.2.2]; omega
  case hm => unfold maxLen; omega
  case hs => exact Nat.le_refl _
  · rfl
  · rfl
  intro w1 hown hgrow
  rw [made_zeroN] at hown
  have hown1 : OwnNd w1 w.heap.size w.heap.size es.length (List.replicate es.length zeroN) := by
    unfold OwnNd; rw [List.length_replicate]; exact hown
  have HW : Hid (OwnNd w1 w.heap.size w.heap.size es.length (List.replicate es.length zeroN)) := hown1
  have hb1 : Below w.heap.size w w1 := (Below.refl _ _).grown hgrow (Nat.le_refl _) (fun k hk => by cases hk)
  clear hown hown1 hgrow
  go_wp2_with fail
  go_loopw [4] (fun i wr => ∃ (k : Nat) (fs : List Nd), k ≤ es.length ∧ i = .int .i64 k ∧ fs.length = es.length ∧ fs.take k = es.take k ∧ OwnNd wr w.heap.size w.heap.size es.length fs ∧ Below w.heap.size w wr) (fun i _ => es.length - (intOf i).toNat)
  case atStart => exact ⟨0, _, Nat.zero_le _, rfl, List.length_replicate .., rfl, HW.out, hb1⟩
  case round =>
    obtain ⟨k, fs, hk, rfl, hfl, hft, hO, hb⟩ := hrel
    have HO : Hid (fs.length = es.length ∧ fs.take k = es.take k ∧ OwnNd wr w.heap.size w.heap.size es.length fs) := ⟨hfl, hft, hO⟩
    clear hfl hft hO
    by_cases hlt : k < es.length
    · obtain ⟨e, he⟩ : ∃ e, es[k]? = some e := ⟨_, List.getElem?_eq_getElem hlt⟩
      obtain ⟨c0, c1, c2, c3, c4, c5, c6⟩ := (HE.out.below hb hB) k e he
      have HG : Hid (es[k]? = some e) := he
      clear he
      go_wp2_with fail
      refine (toNode_core e _).mono ?_
      rintro e' w2 ⟨rfl, hb2⟩
      have hO2 := (HO.out.2.2).below hb2 (HO.out.2.2).lt.2
      obtain ⟨f, hf⟩ : ∃ f, fs[k]? = some f := ⟨_, List.getElem?_eq_getElem (by rw [HO.out.1]; exact hlt)⟩
      obtain ⟨d0, d1, d2, d3, d4, d5, d6⟩ := hO2.at k f hf
      simp only [Nat.zero_add] at d0 d1 d2 d3 d4 d5 d6
      have hfz := fun j => World.ownsRow.frozenAt hO2 j
      have HO2 : Hid (OwnNd w2 w.heap.size w.heap.size es.length fs ∧ fs[k]? = some f) := ⟨hO2, hf⟩
      clear hO2 hf c0 c1 c2 c3 c4 c5 c6
      go_wp2_with fail
      go_roundw
      case rel => exact ⟨k + 1, fs.set k e, by omega, by go_num, by rw [List.length_set]; exact HO.out.1, takeN_succ HO.out.2.1 HO.out.1 HG.out, HO2.out.1.put k f e HO2.out.2, below_put7 (hb.trans (hb2.mono hb.size)) (Nat.le_refl _) _ _ _ _ _ _ _ _ _ _ _ _ _ _⟩
      case measure => simp [intOf]; omega
    · have hfs : fs = es := by
        have h := HO.out.2.1
        rw [List.take_of_length_le (by have := HO.out.1; omega), List.take_of_length_le (by omega)] at h
        exact h
      go_wp2
      go_ret
      exact ⟨_, rfl, by rw [← hfs] at HO ⊢; exact HO.out.2.2, hb⟩
set_option maxHeartbeats 400000 in
theorem toNodeS_zero (a : Option Addr) (cap : Nat) (w : World) :
    Calls Try.prog 44 #[.slice a 0 cap] w fun e w' =>
      ∃ g, e = .returned (.slice (some ⟨g, 0, none⟩) 0 0) ∧ OwnNd w' w.heap.size g 0 [] ∧ Below w.heap.size w w' := by
  obtain ⟨i, hi, hz0, hz1, hz2⟩ := info_parts Try.infoNd
  have HI : Hid (Try.prog.info? 76 = some i ∧ i.zero = some (.agg #[.int .i64 0, .string ⟨#[]⟩, .bool false, .string ⟨#[]⟩, .int .u64 0, .int .u64 0, .int .i64 0]) ∧ i.size = 7 ∧ i.bytes = 72) := ⟨hi, hz0, hz1, hz2⟩
  clear hi hz0 hz1 hz2
  go_enter Try.func44, Try.ntmps44
  go_wp2_with (at_make; refine wpList_make_full _ rfl _ _ 38 rfl w.heap.size 76 i _ 7 Try.underlying38 HI.out.1 HI.out.2.1 HI.out.2.2.1 _ _ _ _ 0 rfl rfl ?_ ?_ ?hb ?hm ?hs ?_)
  case hb => rw [HI.out.2.2.2]; omega
  case hm => unfold maxLen; omega
  case hs => exact Nat.le_refl _
  · rfl
  · rfl
  intro w1 hown hgrow
  have HW : Hid (OwnNd w1 w.heap.size w.heap.size 0 []) := by
    have h0 := made_zeroN 0
    rw [Nat.zero_mul] at h0
    rw [h0] at hown
    exact hown
  have hb1 : Below w.heap.size w w1 := (Below.refl _ _).grown hgrow (Nat.le_refl _) (fun k hk => by cases hk)
  clear hown hgrow
  go_wp2_with fail
  go_loopw [4] (fun i wr => i = .int .i64 0 ∧ wr = w1) (fun i _ => 0)
  case atStart => exact ⟨rfl, rfl⟩
  case round =>
    obtain ⟨rfl, rfl⟩ := hrel
    go_wp2_with fail
    go_ret
    exact ⟨_, rfl, HW.out, hb1⟩
theorem toNodeS_any (v : Value) (es : List Nd) (w : World) (h : InNds w v es) (h1 : es.length ≤ 1048576) :
    Calls Try.prog 44 #[v] w fun e w' =>
      ∃ g, e = .returned (.slice (some ⟨g, 0, none⟩) es.length es.length) ∧ OwnNd w' w.heap.size g es.length es ∧ Below w.heap.size w w' := by
  rcases h with ⟨a, cap, rfl, rfl⟩ | ⟨b, off, cap, rfl, hE, hlt, g1, g2⟩
  · exact toNodeS_zero a cap w
  · exact toNodeS_core b off cap es w hE hlt g1 g2 h1
set_option maxHeartbeats 1000000 in
theorem eqNodeS_same (b off cap b' off' cap' : Nat) (es : List Nd) (w : World) (hE : NdsAt w b off es) (hE' : NdsAt w b' off' es) (hB : b < w.heap.size) (hB' : b' < w.heap.size) (hlen : es.length ≤ maxLen) :
    Calls Try.prog 47 #[.slice (some ⟨b, off, none⟩) es.length cap, .slice (some ⟨b', off', none⟩) es.length cap'] w fun e w' =>
      e = .returned (.bool true) ∧ Below w.heap.size w w' := by
  have HE : Hid (NdsAt w b off es ∧ NdsAt w b' off' es) := ⟨hE, hE'⟩
  clear hE hE'
  unfold maxLen at hlen
  go_enter Try.func47, Try.ntmps47
  go_wp2
  go_loopw [5] (fun i wr => ∃ (k : Nat), k ≤ es.length ∧ i = .int .i64 k ∧ Below w.heap.size w wr) (fun i _ => es.length - (intOf i).toNat)
  case atStart => exact ⟨0, Nat.zero_le _, rfl, Below.refl _ _⟩
  case round =>
    obtain ⟨k, hk, rfl, hb⟩ := hrel
    have hs2 := hb.size
    by_cases hlt : k < es.length
    · obtain ⟨e, he⟩ : ∃ e, es[k]? = some e := ⟨_, List.getElem?_eq_getElem hlt⟩
      obtain ⟨c0, c1, c2, c3, c4, c5, c6⟩ := HE.out.1.below hb hB k e he
      obtain ⟨d0, d1, d2, d3, d4, d5, d6⟩ := HE.out.2.below hb hB' k e he
      clear he
      go_upto_region 6 with fail
      go_cut [26] (fun s wx => s = .bool false ∧ Below w.heap.size w wx)
      case first =>
        have z2 : (k : Int) < (es.length : Int) := by omega
        go_region_with (go_at_call 76; refine (eqNode_same e _).mono ?_; rintro e' w' ⟨rfl, hbb⟩)
        all_goals go_wp2_with fail
        all_goals go_meet
        all_goals exact ⟨rfl, hb.drew.trans (hbb.mono (by simp; omega))⟩
      case rest =>
      obtain ⟨rfl, h3⟩ := hcut
      clear c0 c1 c2 c3 c4 c5 c6 d0 d1 d2 d3 d4 d5 d6
      go_wp2_with fail
      go_roundw
      case rel => exact ⟨k + 1, by omega, by go_num, h3⟩
      case measure => simp [intOf]; omega
    · go_wp2_with fail
      go_ret
      exact ⟨rfl, hb⟩
theorem eqNodeS_own {w : World} {base g cp base' g' cp' : Nat} {es : List Nd} (h : OwnNd w base g cp es) (h' : OwnNd w base' g' cp' es) :
    Calls Try.prog 47 #[.slice (some ⟨g, 0, none⟩) es.length cp, .slice (some ⟨g', 0, none⟩) es.length cp'] w fun e w' => e = .returned (.bool true) ∧ Below w.heap.size w w' :=
  eqNodeS_same g 0 cp g' 0 cp' es w h.at h'.at h.lt.2 h'.lt.2 (Nat.le_trans h.caps.1 h.caps.2)
set_option maxHeartbeats 400000 in
theorem eqNodeS_zero (a a' : Option Addr) (cap cap' : Nat) (w : World) :
    Calls Try.prog 47 #[.slice a 0 cap, .slice a' 0 cap'] w fun e w' => e = .returned (.bool true) ∧ Below w.heap.size w w' := by
  go_enter Try.func47, Try.ntmps47
  go_wp2
  go_loopw [5] (fun i wr => i = .int .i64 0 ∧ Below w.heap.size w wr) (fun i _ => 0)
  case atStart => exact ⟨rfl, Below.refl _ _⟩
  case round =>
    obtain ⟨rfl, hb⟩ := hrel
    go_wp2_with fail
    go_ret
    exact ⟨rfl, hb⟩
theorem InNds.own {w : World} {base g n cap : Nat} {es : List Nd} (h : OwnNd w base g cap es) (hn : n = es.length) : InNds w (.slice (some ⟨g, 0, none⟩) n cap) es := by
  subst hn
  exact .inr ⟨g, 0, cap, rfl, h.at, h.lt.2, h.caps.1, h.caps.2⟩
theorem eqNodeS_any (u u' : Value) (es : List Nd) (w : World) (h : InNds w u es) (h' : InNds w u' es) :
    Calls Try.prog 47 #[u, u'] w fun e w' => e = .returned (.bool true) ∧ Below w.heap.size w w' := by
  rcases h with ⟨a, cap, rfl, rfl⟩ | ⟨b, off, cap, rfl, hE, hlt, g1, g2⟩
  · rcases h' with ⟨a', cap', rfl, _⟩ | ⟨b', off', cap', rfl, hE', hlt', g1', g2'⟩
    · exact eqNodeS_zero a a' cap cap' w
    · exact eqNodeS_zero a _ cap cap' w
  · rcases h' with ⟨a', cap', rfl, rfl⟩ | ⟨b', off', cap', rfl, hE', hlt', g1', g2'⟩
    · exact eqNodeS_zero _ a' cap cap' w
    · exact eqNodeS_same b off cap b' off' cap' es w hE hE' hlt hlt' (Nat.le_trans g1 g2)
set_option maxRecDepth 100000 in
theorem open_filter {H : Type} {enc : TypeId × Value → H} {w : World} {base b0 : Nat} {held : Bool} {r : Reach} {v : Value} {d : DataW H} {p : List MemPlace}
    (hv : Value.okWide Try.prog w r b0 35 v) (h : DataW.Trod enc Try.prog w base (fun _ => true) held 35 v d p) :
    ∃ (u : Value) (es : List Nd), v = .agg #[u] ∧ InNds w u es ∧ ∀ e ∈ es, e.ok := by
  obtain ⟨cs, rfl, hsz⟩ := okWide_struct Try.underlying35 hv
  obtain ⟨fuel, hf⟩ := h
  obtain ⟨y0, n, _, hl, h0⟩ := trod_struct1 Try.underlying35 hf
  have h1 : Try.prog.cellsOf 35 = 1 := by kernel_rfl
  have h2 : Try.prog.cellsOf 33 = 1 := by kernel_rfl
  rw [h1] at hsz
  obtain ⟨l⟩ := cs
  match l, hsz with
  | [u], _ =>
    simp [h2, Value.cells] at h0
    obtain ⟨es, he, ok⟩ := nds_of_trod h0
    exact ⟨u, es, rfl, he, ok⟩

set_option maxHeartbeats 400000 in
theorem szFilter_any (u : Value) (es : List Nd) (left : Int) (w : World) (h : InNds w u es) (hok : ∀ e ∈ es, e.ok) (h0 : 0 ≤ left) (h1 : left ≤ 2 ^ 40) :
    Calls Try.prog 15 #[.agg #[u], .int .i64 left] w fun e w' =>
      ∃ x, e = .returned (.int .i64 x) ∧ (x = -1 ∨ (0 ≤ x ∧ x + es.length ≤ left)) ∧ Below w.heap.size w w' := by
  have HE : Hid (InNds w u es ∧ ∀ e ∈ es, e.ok) := ⟨h, hok⟩
  have hu : u.cells = #[u] := by
    rcases h with ⟨a, cap, rfl, _⟩ | ⟨b, off, cap, rfl, _⟩ <;> rfl
  clear h hok
  go_enter Try.func15, Try.ntmps15
  go_wp2_with fail
  refine (szNodeS_any u es left _ (HE.out.1.below ((Below.refl _ _).alloc (Nat.le_refl _) _) (Nat.le_refl _)) HE.out.2 h0 h1).mono ?_
  rintro e w1 ⟨x, rfl, hx, hb1⟩
  have k1 : Below w.heap.size w w1 := ((Below.refl _ _).alloc (Nat.le_refl _) (Obj.cells #[u] 35)).trans (hb1.mono (by simp))
  have HX : Hid (x = -1 ∨ (0 ≤ x ∧ x + es.length ≤ left)) := hx
  by_cases hx0 : x < 0
  · clear hx
    go_wp2_with fail
    go_ret
    exact ⟨_, rfl, .inl rfl, k1⟩
  · clear hx
    go_wp2_with fail
    go_ret
    exact ⟨_, rfl, HX.out, k1⟩

set_option maxHeartbeats 400000 in
theorem toFilter_any (u : Value) (es : List Nd) (w : World) (h : InNds w u es) (h1 : es.length ≤ 1048576) :
    Calls Try.prog 17 #[.agg #[u]] w fun e w' =>
      ∃ g, e = .returned (.agg #[.slice (some ⟨g, 0, none⟩) es.length es.length]) ∧ OwnNd w' w.heap.size g es.length es ∧ Below w.heap.size w w' := by
  have HE : Hid (InNds w u es) := h
  have hu : u.cells = #[u] := by
    rcases h with ⟨a, cap, rfl, _⟩ | ⟨b, off, cap, rfl, _⟩ <;> rfl
  clear h
  go_enter Try.func17, Try.ntmps17
  go_wp2_with fail
  refine (toNodeS_any u es _ (HE.out.below ((((Below.refl _ _).alloc (Nat.le_refl _) _).alloc (by simp) _).alloc (by simp; omega) _) (Nat.le_refl _)) h1).mono ?_
  rintro e w1 ⟨g, rfl, hO, hb1⟩
  obtain ⟨hc1, hf1⟩ := bcell hb1
  have k1 : Below w.heap.size w w1 := ((((Below.refl _ _).alloc (Nat.le_refl _) (Obj.cells #[u] 35)).alloc (by simp) (Obj.cells #[.slice none 0 0] 40)).alloc (by simp; omega) (Obj.cells #[.slice none 0 0] 40)).trans (hb1.mono (by simp; omega))
  have HO : Hid (OwnNd w1 (w.heap.size + 1 + 1 + 1) g es.length es) := by
    show OwnNd w1 (w.heap.size + 1 + 1 + 1) g es.length es
    simpa using hO
  clear hO
  go_wp2_with fail
  refine bodyPost_ret (v := .agg #[.slice (some ⟨g, 0, none⟩) es.length es.length]) (by simp [results, Try.results17, go_sem, hc1]) rfl ⟨g, rfl, ?_, ?_⟩
  · exact OwnNd.mono (ownsRow_setCell_below (ownsRow_setCell_below HO.out (by show w.heap.size + 1 + 1 < _; omega) _) (by show w.heap.size + 1 < _; omega) _) (by omega)
  · exact (k1.setCell (by show w.heap.size ≤ w.heap.size + 1 + 1; omega) _).setCell (by show w.heap.size ≤ w.heap.size + 1; omega) _

set_option maxHeartbeats 400000 in
theorem eqFilter_any (u u' : Value) (es : List Nd) (w : World) (h : InNds w u es) (h' : InNds w u' es) :
    Calls Try.prog 19 #[.agg #[u], .agg #[u']] w fun e w' => e = .returned (.bool true) ∧ Below w.heap.size w w' := by
  have HE : Hid (InNds w u es ∧ InNds w u' es) := ⟨h, h'⟩
  have hu : u.cells = #[u] := by
    rcases h with ⟨a, cap, rfl, _⟩ | ⟨b, off, cap, rfl, _⟩ <;> rfl
  have hu' : u'.cells = #[u'] := by
    rcases h' with ⟨a, cap, rfl, _⟩ | ⟨b, off, cap, rfl, _⟩ <;> rfl
  clear h h'
  go_enter Try.func19, Try.ntmps19
  go_wp2_with fail
  have k0 : Below w.heap.size w ((w.alloc (Obj.cells #[u] 40)).alloc (Obj.cells #[u'] 40)) := ((Below.refl _ _).alloc (Nat.le_refl _) _).alloc (by simp) _
  refine (eqNodeS_any u u' es _ (HE.out.1.below k0 (Nat.le_refl _)) (HE.out.2.below k0 (Nat.le_refl _))).mono ?_
  rintro e w1 ⟨rfl, hb1⟩
  go_wp2_with fail
  go_ret
  exact ⟨rfl, k0.trans (hb1.mono (by simp; omega))⟩
end Go.Proofs.Ythkmecppjhcidac
