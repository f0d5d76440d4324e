/-
  impl.entriesIn.
-/
import Derived.Test.YtlgeffinhbodeaeQBs
namespace Go.Proofs.Ytlgeffinhbodeae
open Go.ChangeShapes Go.WideShapes Go.ChangeAt Go.RowKit Go.Deep
set_option linter.unusedVariables false
set_option linter.unusedSimpArgs false
set_option maxRecDepth 100000

/-- A part of a run. -/
def Rm.part (r : Rm) (i n : Nat) : Rm := ⟨r.b, r.off + i * 6, r.cap - i, (r.es.drop i).take n⟩
theorem Rm.at.part {w : World} {r : Rm} (h : r.at w) {i n : Nat} (hi : i + n ≤ r.es.length) : (r.part i n).at w := by
  refine ⟨?_, h.lt, ?_, ?_⟩
  · intro j e he
    show _ ∧ _
    simp only [Rm.part] at he ⊢
    rw [List.getElem?_take] at he
    by_cases hj : j < n
    · rw [if_pos hj, List.getElem?_drop] at he
      have := h.ents (i + j) e he
      rw [show r.off + (i + j) * 6 = r.off + i * 6 + j * 6 by omega] at this
      exact this
    · rw [if_neg hj] at he; cases he
  · have := h.len
    simp [Rm.part]; omega
  · have := h.cap
    simp only [Rm.part]
    omega
theorem part_len {r : Rm} {i n : Nat} (hi : i + n ≤ r.es.length) : (r.part i n).es.length = n := by simp [Rm.part]; omega
theorem mem_part {r : Rm} {i n : Nat} {x : Ent} : x ∈ (r.part i n).es ↔ ∃ t, i ≤ t ∧ t < i + n ∧ r.es[t]? = some x := by
  constructor
  · intro h
    obtain ⟨j, hj⟩ := List.getElem?_of_mem h
    simp only [Rm.part] at hj
    rw [List.getElem?_take] at hj
    by_cases hn : j < n
    · rw [if_pos hn, List.getElem?_drop] at hj
      exact ⟨i + j, by omega, by omega, hj⟩
    · rw [if_neg hn] at hj; cases hj
  · rintro ⟨t, h1, h2, h3⟩
    refine List.mem_of_getElem? (i := t - i) ?_
    simp only [Rm.part]
    rw [List.getElem?_take, if_pos (by omega), List.getElem?_drop, show i + (t - i) = t by omega]
    exact h3
/-- What of a run lies in a range. -/
structure PartOf (r p : Rm) (lo : ByteArray) (hh : Bool) (hi : ByteArray) : Prop where
  blk : p.b = r.b
  ord : Ord p.es
  mem : ∀ x, x ∈ p.es ↔ x ∈ r.es ∧ inR lo hh hi x.row = true
  len : p.es.length ≤ r.es.length
theorem part_of {r : Rm} (hg : GoodR r.es) {lo hi : ByteArray} {hh : Bool} {i j : Nat} (h1 : RowAt r.es lo i) (h2 : (hh = true → RowAt r.es hi j) ∧ (hh = false → j = r.es.length)) : PartOf r (r.part i (max i j - i)) lo hh hi := by
  refine ⟨rfl, ?_, fun x => ?_, ?_⟩
  · exact ((ord_of_good hg).drop (i := i)).take
  · rw [mem_part]
    constructor
    · rintro ⟨t, a1, a2, a3⟩
      refine ⟨List.mem_of_getElem? a3, ?_⟩
      unfold inR
      have b1 : Op.bytesLess x.row.toList lo.toList = false := by
        cases hb : Op.bytesLess x.row.toList lo.toList
        · rfl
        · have := (h1.2 t x a3).2 hb; omega
      rw [b1]
      cases hh
      · rfl
      · have := (h2.1 rfl).2 t x a3
        rw [this.1 (by omega)]; rfl
    · rintro ⟨hx, hr⟩
      obtain ⟨t, ht⟩ := List.getElem?_of_mem hx
      have hl := (List.getElem?_eq_some_iff.1 ht).1
      unfold inR at hr
      rw [Bool.and_eq_true] at hr
      have c1 : i ≤ t := by
        by_cases q : t < i
        · have := (h1.2 t x ht).1 q
          rw [this] at hr
          simp at hr
        · omega
      have c2 : t < j := by
        cases hh
        · have := h2.2 rfl; omega
        · refine ((h2.1 rfl).2 t x ht).2 ?_
          simpa using hr.2
      exact ⟨t, c1, by omega, ht⟩
  · simp [Rm.part]; omega
/-- Where the part of a run lies. -/
def WhereP (r p : Rm) (lo : ByteArray) : Prop := ∃ i, RowAt r.es lo i ∧ p.off = (if r.cap = i then r.off else r.off + i * 6) ∧ p.cap = r.cap - i

set_option maxHeartbeats 2000000 in
theorem entriesIn_at (r : Rm) (lo hi : ByteArray) (hh : Bool) (w : World) (hr : r.at w) (hg : GoodR r.es) :
    Calls Try.prog 93 #[.agg #[.slice (some ⟨r.b, r.off, none⟩) r.es.length r.cap], .agg #[.string lo, .bool hh, .string hi]] w fun e w' =>
      ∃ p : Rm, e = .returned (.slice (some ⟨p.b, p.off, none⟩) p.es.length p.cap) ∧ p.at w' ∧ PartOf r p lo hh hi ∧ Below w.heap.size w w' ∧ WhereP r p lo := by
  have HR : Hid (r.at w ∧ GoodR r.es) := ⟨hr, hg⟩
  have hL : r.es.length ≤ 1048576 := by have := hg.1.1; omega
  have hcl := hr.len
  have hcm := hr.cap
  unfold maxLen at hcm
  clear hr hg
  obtain ⟨Wa, hWa⟩ : ∃ Wa : World, Wa = w.alloc (Obj.cells #[.slice (some ⟨r.b, r.off, none⟩) r.es.length r.cap] 30) := ⟨_, rfl⟩
  obtain ⟨W0, hW0⟩ : ∃ W0 : World, W0 = Wa.alloc (Obj.cells #[.string lo, .bool hh, .string hi] 25) := ⟨_, rfl⟩
  have hba : Below w.heap.size w Wa := by rw [hWa]; exact (Below.refl _ _).alloc (Nat.le_refl _) _
  have hza : Wa.heap.size = w.heap.size + 1 := by rw [hWa]; simp
  have hbb : Below Wa.heap.size Wa W0 := by rw [hW0]; exact (Below.refl _ _).alloc (Nat.le_refl _) _
  have hz0 : W0.heap.size = w.heap.size + 1 + 1 := by rw [hW0]; simp [hza]
  have hb0 : Below w.heap.size w W0 := hba.trans (hbb.mono (by omega))
  have HC : Hid (∀ wx, Below W0.heap.size W0 wx → wx.cell? ⟨w.heap.size, 0, none⟩ = some (.slice (some ⟨r.b, r.off, none⟩) r.es.length r.cap) ∧ wx.cell? ⟨w.heap.size + 1, 1, none⟩ = some (.bool hh) ∧ wx.cell? ⟨w.heap.size + 1, 2, none⟩ = some (.string hi) ∧ r.at wx) := by
    intro wx hb
    have hat : r.at wx := ((HR.out.1.below hba).below hbb).below hb
    rw [hb.cell (p := ⟨w.heap.size, 0, none⟩) (by show w.heap.size < W0.heap.size; omega), hb.cell (p := ⟨w.heap.size + 1, 1, none⟩) (by show w.heap.size + 1 < W0.heap.size; omega), hb.cell (p := ⟨w.heap.size + 1, 2, none⟩) (by show w.heap.size + 1 < W0.heap.size; omega)]
    refine ⟨?_, ?_, ?_, hat⟩
    · rw [hbb.cell (p := ⟨w.heap.size, 0, none⟩) (by show w.heap.size < Wa.heap.size; omega), hWa]; simp
    · rw [hW0, ← hza]; simp
    · rw [hW0, ← hza]; simp
  have HA0 : Hid (r.at W0) := (HR.out.1.below hba).below hbb
  go_enter Try.func93, Try.ntmps93
  go_wp2_with fail
  rw [← hWa, ← hW0]
  clear hWa hW0
  refine (firstAt_core r lo _ HA0.out HR.out.2).mono ?_
  rintro e w1 ⟨i, rfl, hi1, hb1⟩
  have HI : Hid (RowAt r.es lo i) := hi1
  have hil := hi1.1
  clear hi1
  obtain ⟨c0, c1, c2, hat⟩ := HC.out w1 hb1
  have HA1 : Hid (r.at w1) := hat
  have hs1 := hb1.size
  clear hat
  have fin : ¬ r.cap = i → ∀ (j : Nat) (wx : World), Below W0.heap.size W0 wx → ((hh = true → RowAt r.es hi j) ∧ (hh = false → j = r.es.length)) → ∃ p : Rm, Ending.returned (Value.slice (some ⟨r.b, r.off + i * 6, none⟩) ((max (i : Int) (j : Int)).toNat - i) (r.cap - i)) = .returned (.slice (some ⟨p.b, p.off, none⟩) p.es.length p.cap) ∧ p.at wx ∧ PartOf r p lo hh hi ∧ Below w.heap.size w wx ∧ WhereP r p lo := by
    intro hci j wx hb hj
    have hjl : j ≤ r.es.length := by
      cases hh
      · rw [hj.2 rfl]; exact Nat.le_refl _
      · exact (hj.1 rfl).1
    refine ⟨r.part i (max i j - i), ?_, (HC.out wx hb).2.2.2.part (by omega), part_of HR.out.2 HI.out hj, hb0.trans (hb.mono (by omega)), i, HI.out, ?_, rfl⟩
    rotate_left
    · rw [if_neg hci]; rfl
    rw [part_len (by omega), show (max (i : Int) (j : Int)).toNat - i = max i j - i by omega]; rfl
  have HF : Hid (¬ r.cap = i → ∀ (j : Nat) (wx : World), Below W0.heap.size W0 wx → ((hh = true → RowAt r.es hi j) ∧ (hh = false → j = r.es.length)) → ∃ p : Rm, Ending.returned (Value.slice (some ⟨r.b, r.off + i * 6, none⟩) ((max (i : Int) (j : Int)).toNat - i) (r.cap - i)) = .returned (.slice (some ⟨p.b, p.off, none⟩) p.es.length p.cap) ∧ p.at wx ∧ PartOf r p lo hh hi ∧ Below w.heap.size w wx ∧ WhereP r p lo) := fin
  have fin2 : r.cap = i → ∀ (j : Nat) (wx : World), Below W0.heap.size W0 wx → ((hh = true → RowAt r.es hi j) ∧ (hh = false → j = r.es.length)) → ∃ p : Rm, Ending.returned (Value.slice (some ⟨r.b, r.off, none⟩) ((max (i : Int) (j : Int)).toNat - i) 0) = .returned (.slice (some ⟨p.b, p.off, none⟩) p.es.length p.cap) ∧ p.at wx ∧ PartOf r p lo hh hi ∧ Below w.heap.size w wx ∧ WhereP r p lo := by
    intro hci j wx hb hj
    have hjl : j ≤ r.es.length := by
      cases hh
      · rw [hj.2 rfl]; exact Nat.le_refl _
      · exact (hj.1 rfl).1
    have hp := part_of HR.out.2 HI.out hj
    have hn : (r.part i (max i j - i)).es = [] := List.eq_nil_of_length_eq_zero (by rw [part_len (by omega)]; omega)
    refine ⟨⟨r.b, r.off, 0, []⟩, ?_, ⟨fun j e he => by simp at he, (HC.out wx hb).2.2.2.lt, by simp, by simp [maxLen]⟩, ⟨rfl, List.Pairwise.nil, fun x => ?_, by simp⟩, hb0.trans (hb.mono (by omega)), i, HI.out, by rw [if_pos hci], by show 0 = r.cap - i; omega⟩
    · rw [show (max (i : Int) (j : Int)).toNat - i = 0 by omega]; rfl
    · have := hp.mem x
      rw [hn] at this
      exact this
  have HF2 : Hid (r.cap = i → ∀ (j : Nat) (wx : World), Below W0.heap.size W0 wx → ((hh = true → RowAt r.es hi j) ∧ (hh = false → j = r.es.length)) → ∃ p : Rm, Ending.returned (Value.slice (some ⟨r.b, r.off, none⟩) ((max (i : Int) (j : Int)).toNat - i) 0) = .returned (.slice (some ⟨p.b, p.off, none⟩) p.es.length p.cap) ∧ p.at wx ∧ PartOf r p lo hh hi ∧ Below w.heap.size w wx ∧ WhereP r p lo) := fin2
  clear fin fin2
  cases hh
  · by_cases hci : r.cap = i
    · have HCI : Hid (r.cap = i) := hci
      go_wp2_with fail
      go_ret
      exact HF2.out HCI.out r.es.length w1 hb1 ⟨fun q => by simp at q, fun _ => rfl⟩
    · have HCI : Hid (¬ r.cap = i) := hci
      go_wp2_with fail
      go_ret
      exact HF.out HCI.out r.es.length w1 hb1 ⟨fun q => by simp at q, fun _ => rfl⟩
  · go_wp2_with fail
    refine (firstAt_core r hi _ HA1.out HR.out.2).mono ?_
    rintro e w2 ⟨j, rfl, hj1, hb2⟩
    have hjl := hj1.1
    have HJ : Hid (RowAt r.es hi j) := hj1
    have hb3 := hb1.trans (hb2.mono (by omega))
    clear c0 c1 c2 hj1
    obtain ⟨c0, c1, c2, hat⟩ := HC.out w2 hb3
    clear hat
    by_cases hci : r.cap = i
    · have HCI : Hid (r.cap = i) := hci
      go_wp2_with fail
      go_ret
      exact HF2.out HCI.out j w2 hb3 ⟨fun _ => HJ.out, fun q => by simp at q⟩
    · have HCI : Hid (¬ r.cap = i) := hci
      go_wp2_with fail
      go_ret
      exact HF.out HCI.out j w2 hb3 ⟨fun _ => HJ.out, fun q => by simp at q⟩
theorem entriesIn_core (r : Rm) (lo hi : ByteArray) (hh : Bool) (w : World) (hr : r.at w) (hg : GoodR r.es) :
    Calls Try.prog 93 #[.agg #[.slice (some ⟨r.b, r.off, none⟩) r.es.length r.cap], .agg #[.string lo, .bool hh, .string hi]] w fun e w' =>
      ∃ p : Rm, e = .returned (.slice (some ⟨p.b, p.off, none⟩) p.es.length p.cap) ∧ p.at w' ∧ PartOf r p lo hh hi ∧ Below w.heap.size w w' :=
  (entriesIn_at r lo hi hh w hr hg).mono fun e w' ⟨p, h1, h2, h3, h4, _⟩ => ⟨p, h1, h2, h3, h4⟩
end Go.Proofs.Ytlgeffinhbodeae
