import Derived.Deep.AppendLies
import Derived.Deep.DeepCutAuto
import Derived.Deep.RegionWith
import Derived.Deep.RegionHeld3
import Derived.Deep.RegionLaw
import Derived.Test.YtnncedndlhfdkacPkAF
import Derived.Test.YtnncedndlhfdkacPkAB
import Derived.Test.YtnncedndlhfdkacPkAA
import Derived.Test.YtnncedndlhfdkacPkAC
/-
  impl.entriesIn.
-/
namespace Go.Proofs.Ytnncedndlhfdkac
open Go.ChangeShapes Go.WideShapes Go.ChangeAt Go.RowKit Go.Deep
set_option linter.unusedVariables false
set_option linter.unusedSimpArgs false
set_option maxRecDepth 100000

/-- A part of a run. -/
def Rm.part (r : Rm) (i n : Nat) : Rm := ⟨r.b, r.off + i * 6, r.cap - i, (r.es.drop i).take n⟩
theorem Rm.at.part {w : World} {r : Rm} (h : r.at w) {i n : Nat} (hi : i + n ≤ r.es.length) : (r.part i n).at w := by
  refine ⟨?_, h.lt, ?_, ?_⟩
  · intro j e he
    show _ ∧ _
    simp only [Rm.part] at he ⊢
    rw [List.getElem?_take] at he
    by_cases hj : j < n
    · rw [if_pos hj, List.getElem?_drop] at he
      have := h.ents (i + j) e he
      rw [show r.off + (i + j) * 6 = r.off + i * 6 + j * 6 by omega] at this
      exact this
    · rw [if_neg hj] at he; cases he
  · have := h.len
    simp [Rm.part]; omega
  · have := h.cap
    simp only [Rm.part]
    omega
theorem part_len {r : Rm} {i n : Nat} (hi : i + n ≤ r.es.length) : (r.part i n).es.length = n := by simp [Rm.part]; omega
theorem mem_part {r : Rm} {i n : Nat} {x : Ent} : x ∈ (r.part i n).es ↔ ∃ t, i ≤ t ∧ t < i + n ∧ r.es[t]? = some x := by
  constructor
  · intro h
    obtain ⟨j, hj⟩ := List.getElem?_of_mem h
    simp only [Rm.part] at hj
    rw [List.getElem?_take] at hj
    by_cases hn : j < n
    · rw [if_pos hn, List.getElem?_drop] at hj
      exact ⟨i + j, by omega, by omega, hj⟩
    · rw [if_neg hn] at hj; cases hj
  · rintro ⟨t, h1, h2, h3⟩
    refine List.mem_of_getElem? (i := t - i) ?_
    simp only [Rm.part]
    rw [List.getElem?_take, if_pos (by omega), List.getElem?_drop, show i + (t - i) = t by omega]
    exact h3
/-- What of a run lies in a range. -/
structure PartOf (r p : Rm) (lo : ByteArray) (hh : Bool) (hi : ByteArray) : Prop where
  blk : p.b = r.b
  ord : Ord p.es
  mem : ∀ x, x ∈ p.es ↔ x ∈ r.es ∧ inR lo hh hi x.row = true
  len : p.es.length ≤ r.es.length
theorem part_of {r : Rm} (hg : GoodR r.es) {lo hi : ByteArray} {hh : Bool} {i j : Nat} (h1 : RowAt r.es lo i) (h2 : (hh = true → RowAt r.es hi j) ∧ (hh = false → j = r.es.length)) : PartOf r (r.part i (max i j - i)) lo hh hi := by
  refine ⟨rfl, ?_, fun x => ?_, ?_⟩
  · exact ((ord_of_good hg).drop (i := i)).take
  · rw [mem_part]
    constructor
    · rintro ⟨t, a1, a2, a3⟩
      refine ⟨List.mem_of_getElem? a3, ?_⟩
      unfold inR
      have b1 : Op.bytesLess x.row.toList lo.toList = false := by
        cases hb : Op.bytesLess x.row.toList lo.toList
        · rfl
        · have := (h1.2 t x a3).2 hb; omega
      rw [b1]
      cases hh
      · rfl
      · have := (h2.1 rfl).2 t x a3
        rw [this.1 (by omega)]; rfl
    · rintro ⟨hx, hr⟩
      obtain ⟨t, ht⟩ := List.getElem?_of_mem hx
      have hl := (List.getElem?_eq_some_iff.1 ht).1
      unfold inR at hr
      rw [Bool.and_eq_true] at hr
      have c1 : i ≤ t := by
        by_cases q : t < i
        · have := (h1.2 t x ht).1 q
          rw [this] at hr
          simp at hr
        · omega
      have c2 : t < j := by
        cases hh
        · have := h2.2 rfl; omega
        · refine ((h2.1 rfl).2 t x ht).2 ?_
          simpa using hr.2
      exact ⟨t, c1, by omega, ht⟩
  · simp [Rm.part]; omega
/-- Where the part of a run lies. -/
def WhereP (r p : Rm) (lo : ByteArray) : Prop := ∃ i, RowAt r.es lo i ∧ p.off = (if r.cap = i then r.off else r.off + i * 6) ∧ p.cap = r.cap - i

set_option maxHeartbeats 2000000 in
theorem entriesIn_at (r : Rm) (lo hi : ByteArray) (hh : Bool) (w : World) (hr : r.at w) (hg : GoodR r.es) :
    Calls Try.prog 75 #[.agg #[.slice (some ⟨r.b, r.off, none⟩) r.es.length r.cap], .agg #[.string lo, .bool hh, .string hi]] w fun e w' =>
      ∃ p : Rm, e = .returned (.slice (some ⟨p.b, p.off, none⟩) p.es.length p.cap) ∧ p.at w' ∧ PartOf r p lo hh hi ∧ Below w.heap.size w w' ∧ WhereP r p lo := by
  have HR : Hid (r.at w ∧ GoodR r.es) := ⟨hr, hg⟩
  have hL : r.es.length ≤ 1048576 := by have := hg.1.1; omega
  have hcl := hr.len
  have hcm := hr.cap
  unfold maxLen at hcm
  clear hr hg
  obtain ⟨Wa, hWa⟩ : ∃ Wa : World, Wa = w.alloc (Obj.cells #[.slice (some ⟨r.b, r.off, none⟩) r.es.length r.cap] 40) := ⟨_, rfl⟩
  obtain ⟨W0, hW0⟩ : ∃ W0 : World, W0 = Wa.alloc (Obj.cells #[.string lo, .bool hh, .string hi] 31) := ⟨_, rfl⟩
  have hba : Below w.heap.size w Wa := by rw [hWa]; exact (Below.refl _ _).alloc (Nat.le_refl _) _
  have hza : Wa.heap.size = w.heap.size + 1 := by rw [hWa]; simp
  have hbb : Below Wa.heap.size Wa W0 := by rw [hW0]; exact (Below.refl _ _).alloc (Nat.le_refl _) _
  have hz0 : W0.heap.size = w.heap.size + 1 + 1 := by rw [hW0]; simp [hza]
  have hb0 : Below w.heap.size w W0 := hba.trans (hbb.mono (by omega))
  have HC : Hid (∀ wx, Below W0.heap.size W0 wx → wx.cell? ⟨w.heap.size, 0, none⟩ = some (.slice (some ⟨r.b, r.off, none⟩) r.es.length r.cap) ∧ wx.cell? ⟨w.heap.size + 1, 1, none⟩ = some (.bool hh) ∧ wx.cell? ⟨w.heap.size + 1, 2, none⟩ = some (.string hi) ∧ r.at wx) := by
    intro wx hb
    have hat : r.at wx := ((HR.out.1.below hba).below hbb).below hb
    rw [hb.cell (p := ⟨w.heap.size, 0, none⟩) (by show w.heap.size < W0.heap.size; omega), hb.cell (p := ⟨w.heap.size + 1, 1, none⟩) (by show w.heap.size + 1 < W0.heap.size; omega), hb.cell (p := ⟨w.heap.size + 1, 2, none⟩) (by show w.heap.size + 1 < W0.heap.size; omega)]
    refine ⟨?_, ?_, ?_, hat⟩
    · rw [hbb.cell (p := ⟨w.heap.size, 0, none⟩) (by show w.heap.size < Wa.heap.size; omega), hWa]; simp
    · rw [hW0, ← hza]; simp
    · rw [hW0, ← hza]; simp
  have HA0 : Hid (r.at W0) := (HR.out.1.below hba).below hbb
  go_enter Try.func75, Try.ntmps75
  go_wp2_with fail
  rw [← hWa, ← hW0]
  clear hWa hW0
  refine (firstAt_core r lo _ HA0.out HR.out.2).mono ?_
  rintro e w1 ⟨i, rfl, hi1, hb1⟩
  have HI : Hid (RowAt r.es lo i) := hi1
  have hil := hi1.1
  clear hi1
  obtain ⟨c0, c1, c2, hat⟩ := HC.out w1 hb1
  have HA1 : Hid (r.at w1) := hat
  have hs1 := hb1.size
  clear hat
  have fin : ¬ r.cap = i → ∀ (j : Nat) (wx : World), Below W0.heap.size W0 wx → ((hh = true → RowAt r.es hi j) ∧ (hh = false → j = r.es.length)) → ∃ p : Rm, Ending.returned (Value.slice (some ⟨r.b, r.off + i * 6, none⟩) ((max (i : Int) (j : Int)).toNat - i) (r.cap - i)) = .returned (.slice (some ⟨p.b, p.off, none⟩) p.es.length p.cap) ∧ p.at wx ∧ PartOf r p lo hh hi ∧ Below w.heap.size w wx ∧ WhereP r p lo := by
    intro hci j wx hb hj
    have hjl : j ≤ r.es.length := by
      cases hh
      · rw [hj.2 rfl]; exact Nat.le_refl _
      · exact (hj.1 rfl).1
    refine ⟨r.part i (max i j - i), ?_, (HC.out wx hb).2.2.2.part (by omega), part_of HR.out.2 HI.out hj, hb0.trans (hb.mono (by omega)), i, HI.out, ?_, rfl⟩
    rotate_left
    · rw [if_neg hci]; rfl
    rw [part_len (by omega), show (max (i : Int) (j : Int)).toNat - i = max i j - i by omega]; rfl
  have HF : Hid (¬ r.cap = i → ∀ (j : Nat) (wx : World), Below W0.heap.size W0 wx → ((hh = true → RowAt r.es hi j) ∧ (hh = false → j = r.es.length)) → ∃ p : Rm, Ending.returned (Value.slice (some ⟨r.b, r.off + i * 6, none⟩) ((max (i : Int) (j : Int)).toNat - i) (r.cap - i)) = .returned (.slice (some ⟨p.b, p.off, none⟩) p.es.length p.cap) ∧ p.at wx ∧ PartOf r p lo hh hi ∧ Below w.heap.size w wx ∧ WhereP r p lo) := fin
  have fin2 : r.cap = i → ∀ (j : Nat) (wx : World), Below W0.heap.size W0 wx → ((hh = true → RowAt r.es hi j) ∧ (hh = false → j = r.es.length)) → ∃ p : Rm, Ending.returned (Value.slice (some ⟨r.b, r.off, none⟩) ((max (i : Int) (j : Int)).toNat - i) 0) = .returned (.slice (some ⟨p.b, p.off, none⟩) p.es.length p.cap) ∧ p.at wx ∧ PartOf r p lo hh hi ∧ Below w.heap.size w wx ∧ WhereP r p lo := by
    intro hci j wx hb hj
    have hjl : j ≤ r.es.length := by
      cases hh
      · rw [hj.2 rfl]; exact Nat.le_refl _
      · exact (hj.1 rfl).1
    have hp := part_of HR.out.2 HI.out hj
    have hn : (r.part i (max i j - i)).es = [] := List.eq_nil_of_length_eq_zero (by rw [part_len (by omega)]; omega)
    refine ⟨⟨r.b, r.off, 0, []⟩, ?_, ⟨fun j e he => by simp at he, (HC.out wx hb).2.2.2.lt, by simp, by simp [maxLen]⟩, ⟨rfl, List.Pairwise.nil, fun x => ?_, by simp⟩, hb0.trans (hb.mono (by omega)), i, HI.out, by rw [if_pos hci], by show 0 = r.cap - i; omega⟩
    · rw [show (max (i : Int) (j : Int)).toNat - i = 0 by omega]; rfl
    · have := hp.mem x
      rw [hn] at this
      exact this
  have HF2 : Hid (r.cap = i → ∀ (j : Nat) (wx : World), Below W0.heap.size W0 wx → ((hh = true → RowAt r.es hi j) ∧ (hh = false → j = r.es.length)) → ∃ p : Rm, Ending.returned (Value.slice (some ⟨r.b, r.off, none⟩) ((max (i : Int) (j : Int)).toNat - i) 0) = .returned (.slice (some ⟨p.b, p.off, none⟩) p.es.length p.cap) ∧ p.at wx ∧ PartOf r p lo hh hi ∧ Below w.heap.size w wx ∧ WhereP r p lo) := fin2
  clear fin fin2
  cases hh
  · by_cases hci : r.cap = i
    · have HCI : Hid (r.cap = i) := hci
      go_wp2_with fail
      go_ret
      exact HF2.out HCI.out r.es.length w1 hb1 ⟨fun q => by simp at q, fun _ => rfl⟩
    · have HCI : Hid (¬ r.cap = i) := hci
      go_wp2_with fail
      go_ret
      exact HF.out HCI.out r.es.length w1 hb1 ⟨fun q => by simp at q, fun _ => rfl⟩
  · go_wp2_with fail
    refine (firstAt_core r hi _ HA1.out HR.out.2).mono ?_
    rintro e w2 ⟨j, rfl, hj1, hb2⟩
    have hjl := hj1.1
    have HJ : Hid (RowAt r.es hi j) := hj1
    have hb3 := hb1.trans (hb2.mono (by omega))
    clear c0 c1 c2 hj1
    obtain ⟨c0, c1, c2, hat⟩ := HC.out w2 hb3
    clear hat
    by_cases hci : r.cap = i
    · have HCI : Hid (r.cap = i) := hci
      go_wp2_with fail
      go_ret
      exact HF2.out HCI.out j w2 hb3 ⟨fun _ => HJ.out, fun q => by simp at q⟩
    · have HCI : Hid (¬ r.cap = i) := hci
      go_wp2_with fail
      go_ret
      exact HF.out HCI.out j w2 hb3 ⟨fun _ => HJ.out, fun q => by simp at q⟩
theorem entriesIn_core (r : Rm) (lo hi : ByteArray) (hh : Bool) (w : World) (hr : r.at w) (hg : GoodR r.es) :
    Calls Try.prog 75 #[.agg #[.slice (some ⟨r.b, r.off, none⟩) r.es.length r.cap], .agg #[.string lo, .bool hh, .string hi]] w fun e w' =>
      ∃ p : Rm, e = .returned (.slice (some ⟨p.b, p.off, none⟩) p.es.length p.cap) ∧ p.at w' ∧ PartOf r p lo hh hi ∧ Below w.heap.size w w' :=
  (entriesIn_at r lo hi hh w hr hg).mono fun e w' ⟨p, h1, h2, h3, h4, _⟩ => ⟨p, h1, h2, h3, h4⟩
end Go.Proofs.Ytnncedndlhfdkac

/-
  The cursors that are opened, with and without memory.
-/
namespace Go.Proofs.Ytnncedndlhfdkac
open Go.ChangeShapes Go.WideShapes Go.ChangeAt Go.RowKit Go.Deep
set_option linter.unusedVariables false
set_option linter.unusedSimpArgs false
set_option maxRecDepth 100000

/-- The cursors of the first 'k' runs: those that have something in the range. -/
structure OpenTo (l : List Rm) (lo : ByteArray) (hh : Bool) (hi : ByteArray) (k : Nat) (cs : List Cu) : Prop where
  mem : ∀ (a : Nat) (x : Ent), (a < k ∧ (∃ r, l[a]? = some r ∧ x ∈ r.es) ∧ inR lo hh hi x.row = true) ↔ ∃ c ∈ cs, c.age = a ∧ x ∈ c.r.es
  age : ∀ c ∈ cs, c.age < k
  zero : ∀ c ∈ cs, c.pos = 0 ∧ Ord c.r.es
  ages : cs.Pairwise fun a b => a.age ≠ b.age
  blks : cs.Pairwise fun a b => a.blk ≠ b.blk
  sum : sumL (cs.map fl) ≤ 10000 * k
  few : cs.length ≤ k
  src : ∀ c ∈ cs, ∃ r ∈ l, c.r.b = r.b
theorem OpenTo.perm {l : List Rm} {lo hi : ByteArray} {hh : Bool} {k : Nat} {cs ds : List Cu} (h : OpenTo l lo hh hi k cs) (hp : cs.Perm ds) : OpenTo l lo hh hi k ds where
  mem := fun a x => (h.mem a x).trans ⟨fun ⟨c, hc, q⟩ => ⟨c, hp.mem_iff.1 hc, q⟩, fun ⟨c, hc, q⟩ => ⟨c, hp.mem_iff.2 hc, q⟩⟩
  age := fun c hc => h.age c (hp.mem_iff.2 hc)
  zero := fun c hc => h.zero c (hp.mem_iff.2 hc)
  ages := (hp.pairwise_iff (fun h => Ne.symm h)).1 h.ages
  blks := (hp.pairwise_iff (fun h => Ne.symm h)).1 h.blks
  sum := by
    have : sumL (ds.map fl) = sumL (cs.map fl) := (((hp.map fl).map (fun p : Nat × List Ent => p.2.length)).sum_nat).symm
    rw [this]; exact h.sum
  few := by rw [← hp.length_eq]; exact h.few
  src := fun c hc => h.src c (hp.mem_iff.2 hc)
theorem openTo_zero (l : List Rm) (lo hi : ByteArray) (hh : Bool) : OpenTo l lo hh hi 0 [] where
  mem := fun a x => ⟨fun h => by omega, fun ⟨c, hc, _⟩ => by simp at hc⟩
  age := fun c hc => by simp at hc
  zero := fun c hc => by simp at hc
  ages := List.Pairwise.nil
  blks := List.Pairwise.nil
  sum := by simp [sumL]
  few := by simp
  src := fun c hc => by simp at hc
theorem openTo_mem {l : List Rm} {lo hi : ByteArray} {hh : Bool} {k : Nat} {cs : List Cu} {r p : Rm} (h : OpenTo l lo hh hi k cs) (hr : l[k]? = some r) (hp : PartOf r p lo hh hi) (a : Nat) (x : Ent) :
    (a < k + 1 ∧ (∃ r, l[a]? = some r ∧ x ∈ r.es) ∧ inR lo hh hi x.row = true) ↔ (∃ c ∈ cs, c.age = a ∧ x ∈ c.r.es) ∨ (a = k ∧ x ∈ p.es) := by
  rw [← h.mem a x]
  constructor
  · rintro ⟨h1, ⟨r', h2, h3⟩, h4⟩
    by_cases hk : a = k
    · subst hk
      rw [hr] at h2
      simp at h2
      subst h2
      exact .inr ⟨rfl, (hp.mem x).2 ⟨h3, h4⟩⟩
    · exact .inl ⟨by omega, ⟨r', h2, h3⟩, h4⟩
  · rintro (⟨h1, h2, h3⟩ | ⟨rfl, h2⟩)
    · exact ⟨by omega, h2, h3⟩
    · obtain ⟨h3, h4⟩ := (hp.mem x).1 h2
      exact ⟨by omega, ⟨r, hr, h3⟩, h4⟩
theorem openTo_skip {l : List Rm} {lo hi : ByteArray} {hh : Bool} {k : Nat} {cs : List Cu} {r p : Rm} (h : OpenTo l lo hh hi k cs) (hr : l[k]? = some r) (hp : PartOf r p lo hh hi) (h0 : p.es = []) : OpenTo l lo hh hi (k + 1) cs where
  mem := fun a x => (openTo_mem h hr hp a x).trans (by rw [h0]; simp)
  age := fun c hc => by have := h.age c hc; omega
  zero := h.zero
  ages := h.ages
  blks := h.blks
  sum := by have := h.sum; omega
  few := by have := h.few; omega
  src := h.src
theorem openTo_push {l : List Rm} {lo hi : ByteArray} {hh : Bool} {k B : Nat} {cs : List Cu} {r p : Rm} (h : OpenTo l lo hh hi k cs) (hr : l[k]? = some r) (hg : GoodR r.es) (hp : PartOf r p lo hh hi) (hB : ∀ c ∈ cs, c.blk ≠ B) :
    OpenTo l lo hh hi (k + 1) (cs ++ [⟨B, p, 0, k⟩]) where
  mem := fun a x => (openTo_mem h hr hp a x).trans (by
    constructor
    · rintro (⟨c, hc, q⟩ | ⟨rfl, q⟩)
      · exact ⟨c, List.mem_append_left _ hc, q⟩
      · exact ⟨⟨B, p, 0, a⟩, by simp, rfl, q⟩
    · rintro ⟨c, hc, q1, q2⟩
      rcases List.mem_append.1 hc with hc | hc
      · exact .inl ⟨c, hc, q1, q2⟩
      · simp at hc
        subst hc
        exact .inr ⟨q1.symm, q2⟩)
  age := fun c hc => by
    rcases List.mem_append.1 hc with hc | hc
    · have := h.age c hc; omega
    · simp at hc
      subst hc
      show k < k + 1
      omega
  zero := fun c hc => by
    rcases List.mem_append.1 hc with hc | hc
    · exact h.zero c hc
    · simp at hc
      subst hc
      exact ⟨rfl, hp.ord⟩
  ages := List.pairwise_append.2 ⟨h.ages, by simp, fun a ha b hb => by
    simp at hb
    subst hb
    have := h.age a ha
    show a.age ≠ k
    omega⟩
  blks := List.pairwise_append.2 ⟨h.blks, by simp, fun a ha b hb => by
    simp at hb
    subst hb
    exact hB a ha⟩
  sum := by
    have h1 := h.sum
    have h2 := hp.len
    have h3 := hg.1.1
    simp [sumL, fl, Cu.rest] at h1 ⊢
    omega
  few := by have := h.few; simp; omega
  src := fun c hc => by
    rcases List.mem_append.1 hc with hc | hc
    · exact h.src c hc
    · simp at hc
      subst hc
      exact ⟨r, List.mem_of_getElem? hr, hp.blk⟩
/-- What the heap's flow begins with. -/
theorem flow_open {l : List Rm} {lo hi : ByteArray} {hh : Bool} {cs : List Cu} (h : OpenTo l lo hh hi l.length cs) : Flow (fun a x => (∃ j, At (esM l) a j x) ∧ inR lo hh hi x.row = true) (sumL (cs.map fl)) [] (cs.map fl) where
  sorted := List.Pairwise.nil
  ahead := fun p hp => by simp at hp
  all := fun a x => by
    have hm := h.mem a x
    constructor
    · rintro ⟨⟨j, es, h1, h2⟩, h3⟩
      rw [List.getElem?_map] at h1
      cases hl : l[a]? with
      | none => rw [hl] at h1; cases h1
      | some r =>
        rw [hl] at h1
        simp at h1
        subst h1
        obtain ⟨c, hc, q1, q2⟩ := hm.1 ⟨(List.getElem?_eq_some_iff.1 hl).1, ⟨r, hl, List.mem_of_getElem? h2⟩, h3⟩
        refine .inr ⟨fl c, List.mem_map.2 ⟨c, hc, rfl⟩, q1, ?_⟩
        show x ∈ c.r.es.drop c.pos
        rw [(h.zero c hc).1]; exact q2
    · rintro (h1 | ⟨c', hc', q1, q2⟩)
      · simp at h1
      · obtain ⟨c, hc, rfl⟩ := List.mem_map.1 hc'
        have q3 : x ∈ c.r.es.drop c.pos := q2
        rw [(h.zero c hc).1] at q3
        obtain ⟨_, ⟨r, hr, hx⟩, h3⟩ := hm.2 ⟨c, hc, q1, q3⟩
        obtain ⟨j, hj⟩ := List.getElem?_of_mem hx
        exact ⟨⟨j, r.es, by rw [List.getElem?_map, hr]; rfl, hj⟩, h3⟩
  ages := by
    rw [List.pairwise_map]
    exact h.ages
  ord := fun c' hc' => by
    obtain ⟨c, hc, rfl⟩ := List.mem_map.1 hc'
    show Ord (c.r.es.drop c.pos)
    rw [(h.zero c hc).1]; exact (h.zero c hc).2
  count := by simp

/-- The row of cursors, in memory. -/
structure RowOk (w : World) (base g cap : Nat) (d : Array Cu) : Prop where
  row : OwnH w base g cap d
  cur : ∀ c ∈ d, CuAt w c
  low : ∀ c ∈ d, c.r.b < base
  high : ∀ c ∈ d, base ≤ c.blk ∧ ¬ c.blk = g
theorem RowOk.below {w w' : World} {base g cap : Nat} {d : Array Cu} (h : RowOk w base g cap d) (hb : Below w.heap.size w w') : RowOk w' base g cap d :=
  ⟨h.row.below hb h.row.lt.2, fun c hc => (h.cur c hc).below hb, h.low, h.high⟩
theorem HeapW.rowOk {w : World} {hp base g cap : Nat} {d : Array Cu} (h : HeapW w hp base g cap d) : RowOk w base g cap d := ⟨h.row, h.cur, h.low, fun c hc => ⟨(h.high c hc).1, (h.high c hc).2.1⟩⟩

/-- How the opening stands. -/
structure OInv (W : World) (hv : Nat) (l : List Rm) (lo : ByteArray) (hh : Bool) (hi : ByteArray) (k g cp : Nat) (d : Array Cu) (w : World) : Prop where
  below : Below W.heap.size W w
  hdr : w.cell? ⟨hv, 0, none⟩ = some (.slice (some ⟨g, 0, none⟩) d.size cp)
  free : ∀ j, w.frozen? ⟨hv, j, none⟩ = false
  lt : hv < w.heap.size
  own : W.heap.size < hv
  new : W.heap.size < g
  ne : ¬ hv = g
  apart : ∀ c ∈ d, W.heap.size < c.blk ∧ ¬ c.blk = hv
  row : RowOk w W.heap.size g cp d
  opened : OpenTo l lo hh hi k d.toList
  rg0 : w.cell? ⟨W.heap.size, 0, none⟩ = some (.string lo)
  rg1 : w.cell? ⟨W.heap.size, 1, none⟩ = some (.bool hh)
  rg2 : w.cell? ⟨W.heap.size, 2, none⟩ = some (.string hi)
theorem OInv.step {W : World} {hv : Nat} {l : List Rm} {lo hi : ByteArray} {hh : Bool} {k g cp : Nat} {d : Array Cu} {w w' : World} (h : OInv W hv l lo hh hi k g cp d w) (hb : Below w.heap.size w w') : OInv W hv l lo hh hi k g cp d w' where
  below := h.below.trans (hb.mono h.below.size)
  hdr := by rw [hb.cell (p := ⟨hv, 0, none⟩) h.lt]; exact h.hdr
  free := fun j => by rw [hb.frozen (p := ⟨hv, j, none⟩) h.lt]; exact h.free j
  lt := by have := hb.size; have := h.lt; omega
  own := h.own
  new := h.new
  ne := h.ne
  apart := h.apart
  row := h.row.below hb
  opened := h.opened
  rg0 := by rw [hb.cell (p := ⟨W.heap.size, 0, none⟩) (by have := h.own; have := h.lt; show W.heap.size < w.heap.size; omega)]; exact h.rg0
  rg1 := by rw [hb.cell (p := ⟨W.heap.size, 1, none⟩) (by have := h.own; have := h.lt; show W.heap.size < w.heap.size; omega)]; exact h.rg1
  rg2 := by rw [hb.cell (p := ⟨W.heap.size, 2, none⟩) (by have := h.own; have := h.lt; show W.heap.size < w.heap.size; omega)]; exact h.rg2

theorem cu_new (w : World) (p : Rm) (k : Nat) (hp : p.at w) (h0 : 0 < p.es.length) (hs : p.es.length ≤ 1048576) (hk : k ≤ 1048576) :
    CuAt (w.alloc (Obj.cells #[.slice (some ⟨p.b, p.off, none⟩) p.es.length p.cap, .int .i64 0, .int .i64 k] 119)) ⟨w.heap.size, p, 0, k⟩ where
  slice := by simp
  pos := by simp
  age := by simp
  free := fun j => World.ownsRow.frozenAt (World.ownsRow_lit (base := 0) (e := 119) (size := 3) w #[.slice (some ⟨p.b, p.off, none⟩) p.es.length p.cap, .int .i64 0, .int .i64 k] 1 (Nat.zero_le _) (by decide) rfl) j
  lt := by simp
  ents := hp.below ((Below.refl _ _).alloc (Nat.le_refl _) _)
  here := h0
  short := hs
  young := hk

theorem OInv.push {W : World} {hv : Nat} {l : List Rm} {lo hi : ByteArray} {hh : Bool} {k g cp : Nat} {d : Array Cu} {w w3 w4 : World} (h : OInv W hv l lo hh hi k g cp d w) {r p : Rm} (hr : l[k]? = some r) (hg : GoodR r.es) (hrb : r.b < W.heap.size) (hp : PartOf r p lo hh hi) (hat : p.at w) (h0 : 0 < p.es.length) (hk : k ≤ 1048576)
    (hb3 : Below (w.heap.size + 1) (w.alloc (Obj.cells #[.slice (some ⟨p.b, p.off, none⟩) p.es.length p.cap, .int .i64 0, .int .i64 k] 119)) w3) {g' cp' : Nat} (hO : OwnH w4 W.heap.size g' cp' (d.push ⟨w.heap.size, p, 0, k⟩)) (hgr : w3.grownBy w4 (some g)) (hgg : g = g' ∨ g' = w3.heap.size) :
    OInv W hv l lo hh hi (k + 1) g' cp' (d.push ⟨w.heap.size, p, 0, k⟩) (w4.setCell ⟨hv, 0, none⟩ (.slice (some ⟨g', 0, none⟩) (d.size + 1) cp')) := by
  have hbA : Below w.heap.size w (w.alloc (Obj.cells #[.slice (some ⟨p.b, p.off, none⟩) p.es.length p.cap, .int .i64 0, .int .i64 k] 119)) := (Below.refl _ _).alloc (Nat.le_refl _) _
  have hzA : (w.alloc (Obj.cells #[.slice (some ⟨p.b, p.off, none⟩) p.es.length p.cap, .int .i64 0, .int .i64 k] 119)).heap.size = w.heap.size + 1 := by simp
  have hnew := cu_new w p k hat h0 (by have := hp.len; have := hg.1.1; omega) hk
  generalize w.alloc (Obj.cells #[.slice (some ⟨p.b, p.off, none⟩) p.es.length p.cap, .int .i64 0, .int .i64 k] 119) = wA at *
  rw [← hzA] at hb3
  have hs3 := hb3.size
  have hs4 := hgr.size
  have hlt := h.lt
  have hown := h.own
  have hgl := h.row.row.lt
  have hne' : ¬ hv = g' := by
    rcases hgg with q | q
    · rw [← q]; exact h.ne
    · omega
  have h3 : OInv W hv l lo hh hi k g cp d w3 := (h.step hbA).step hb3
  have hC4 : Chg (fun k => k = g) w3 w4 := Chg.of_grown hgr (fun k hk => by cases hk; rfl)
  have hC5 : Chg (fun k => k = hv) w4 (w4.setCell ⟨hv, 0, none⟩ (.slice (some ⟨g', 0, none⟩) (d.size + 1) cp')) := Chg.of_set _ _ _ _ rfl
  have hs5 := hC5.size
  have c4 : w4.cell? ⟨hv, 0, none⟩ = some (.slice (some ⟨g, 0, none⟩) d.size cp) := by rw [hC4.cell (p := ⟨hv, 0, none⟩) h3.lt h.ne]; exact h3.hdr
  have hmem : ∀ c ∈ d.push ⟨w.heap.size, p, 0, k⟩, c ∈ d ∨ c = ⟨w.heap.size, p, 0, k⟩ := fun c hc => by simpa using hc
  have hcu : ∀ c ∈ d.push ⟨w.heap.size, p, 0, k⟩, CuAt w3 c ∧ ¬ c.blk = g ∧ ¬ c.blk = hv ∧ c.r.b < W.heap.size ∧ W.heap.size < c.blk ∧ c.blk < w3.heap.size := fun c hc => by
    rcases hmem c hc with hc | rfl
    · have q := h3.row.cur c hc
      exact ⟨q, (h.row.high c hc).2, (h.apart c hc).2, h.row.low c hc, (h.apart c hc).1, q.lt⟩
    · have q := hnew.below hb3
      refine ⟨q, ?_, ?_, ?_, ?_, q.lt⟩
      · show ¬ w.heap.size = g; omega
      · show ¬ w.heap.size = hv; omega
      · show p.b < W.heap.size
        rw [hp.blk]; exact hrb
      · show W.heap.size < w.heap.size; omega
  have hbig := h3.below.size
  exact {
    below := (Chg.below (Chg.below h3.below hC4 h3.below.size (fun k q => by omega)) hC5 (by omega) (fun k q => by omega))
    hdr := by rw [World.cell?_setCell_same _ _ _ c4]; simp
    free := fun j => by
      rw [World.frozen?_setCell, hC4.frozen (p := ⟨hv, j, none⟩) h3.lt h.ne]; exact h3.free j
    lt := by omega
    own := h.own
    new := by
      rcases hgg with q | q
      · rw [← q]; exact h.new
      · omega
    ne := hne'
    apart := fun c hc => ⟨(hcu c hc).2.2.2.2.1, (hcu c hc).2.2.1⟩
    row := {
      row := World.ownsRow.kept hO (grown_set w4 hv 0 _) (.inr (fun q => hne' (Option.some.inj q).symm))
      cur := fun c hc => by
        obtain ⟨q1, q2, q3, q4, q5, q6⟩ := hcu c hc
        exact (q1.chg hC4 q2 (by omega)).chg hC5 q3 (by omega)
      low := fun c hc => (hcu c hc).2.2.2.1
      high := fun c hc => by
        obtain ⟨q1, q2, q3, q4, q5, q6⟩ := hcu c hc
        refine ⟨by omega, ?_⟩
        rcases hgg with q | q
        · rw [← q]; exact q2
        · omega }
    opened := by
      have := openTo_push (B := w.heap.size) h.opened hr hg hp (fun c hc => by
        have := (h.row.cur c (by simpa using hc)).lt
        omega)
      simpa using this
    rg0 := by
      have hx : W.heap.size < w3.heap.size := by omega
      rw [hC5.cell (p := ⟨W.heap.size, 0, none⟩) (by show W.heap.size < w4.heap.size; omega) (by show ¬ W.heap.size = hv; omega), hC4.cell (p := ⟨W.heap.size, 0, none⟩) hx (by have := h.new; show ¬ W.heap.size = g; omega)]
      exact h3.rg0
    rg1 := by
      have hx : W.heap.size < w3.heap.size := by omega
      rw [hC5.cell (p := ⟨W.heap.size, 1, none⟩) (by show W.heap.size < w4.heap.size; omega) (by show ¬ W.heap.size = hv; omega), hC4.cell (p := ⟨W.heap.size, 1, none⟩) hx (by have := h.new; show ¬ W.heap.size = g; omega)]
      exact h3.rg1
    rg2 := by
      have hx : W.heap.size < w3.heap.size := by omega
      rw [hC5.cell (p := ⟨W.heap.size, 2, none⟩) (by show W.heap.size < w4.heap.size; omega) (by show ¬ W.heap.size = hv; omega), hC4.cell (p := ⟨W.heap.size, 2, none⟩) hx (by have := h.new; show ¬ W.heap.size = g; omega)]
      exact h3.rg2 }
end Go.Proofs.Ytnncedndlhfdkac

/-
  impl.openCursors.
-/
namespace Go.Proofs.Ytnncedndlhfdkac
open Go.ChangeShapes Go.WideShapes Go.ChangeAt Go.RowKit Go.Deep
set_option linter.unusedVariables false
set_option linter.unusedSimpArgs false
set_option maxRecDepth 100000

theorem Try.infoCur : (Try.prog.info? 83).map (fun i => (i.zero, i.size, i.bytes)) = some (some .nilIface, 1, 16) := by kernel_rfl

/-- One cursor appended to the row. -/
theorem wpList_append_cu {ops : Array Oper} {rest : List Oper} {o : Oper} {a : Act} {Q : Exit → Act → World → Prop} (w : World) (hgd : o.guard = none) (s x : Operand)
    (ho : o.op = .call { callee := .builtin .append, args := #[s, x], argTypes := #[78, 78] })
    (base g cp blk : Nat) (d : Array Cu) (c : Cu) (hs : a.eval s = .slice (some ⟨g, 0, none⟩) d.size cp) (hx : a.eval x = .slice (some ⟨blk, 0, none⟩) 1 1) (hO : OwnH w base g cp d)
    (hc : w.cell? ⟨blk, 0, none⟩ = some (ifc c)) (hlen : d.size ≤ 2 ^ 30) (hbase : base ≤ w.heap.size)
    (h : ∀ g' cp' w', OwnH w' base g' cp' (d.push c) → w.grownBy w' (some g) → (g = g' ∨ g' = w.heap.size) → wpList Try.prog ops Q rest (a.put o.dst (.slice (some ⟨g', 0, none⟩) (d.size + 1) cp')) w') : wpList Try.prog ops Q (o :: rest) a w := by
  obtain ⟨i, hi, hz0, hz1, hz2⟩ := info_parts Try.infoCur
  refine wpList_append_lies w hgd s x 78 ho base 83 i _ 1 16 Try.underlying78 hi hz0 hz1 hz2 rfl (by decide) (.slice (some ⟨g, 0, none⟩) d.size cp) d.size (d.toList.map ifc) hs hO ⟨blk, 0, none⟩ 1 1 [ifc c] hx rfl ?_ ?_ (by decide) ?_ ?_ hbase w.heap.size rfl ?_
  · intro j u hu
    have hj : j < 1 := by simpa using (List.getElem?_eq_some_iff.1 hu).1
    obtain rfl : j = 0 := by omega
    simp at hu
    rw [← hu]
    simpa [Addr.add] using hc
  · intro u hu
    simp at hu
    subst hu
    rfl
  · unfold maxLen; omega
  · omega
  · intro g' cp' w' hO' hgr hat hlt
    refine h g' cp' w' ?_ hgr ?_
    · unfold OwnH
      have e : (d.push c).toList.map ifc = d.toList.map ifc ++ [ifc c] := by simp
      rw [Array.size_push, e]
      exact hO'
    · rcases hat with q | q
      · exact .inl (by simpa [Value.ownBlock] using q)
      · exact .inr q

set_option maxHeartbeats 4000000 in
theorem openCursors_core (b off cap : Nat) (l : List Rm) (lo hi : ByteArray) (hh : Bool) (w : World) (hR : RmsAt w b off l) (hG : GoodRs (esM l)) (hB : b < w.heap.size) :
    Calls Try.prog 41 #[.slice (some ⟨b, off, none⟩) l.length cap, .agg #[.string lo, .bool hh, .string hi]] w fun e w' =>
      ∃ (g cp : Nat) (d : Array Cu), e = .returned (.slice (some ⟨g, 0, none⟩) d.size cp) ∧ RowOk w' w.heap.size g cp d ∧ Heap d ∧ OpenTo l lo hh hi l.length d.toList ∧ Below w.heap.size w w' := by
  have HR : Hid (RmsAt w b off l) := hR
  have HG : Hid (GoodRs (esM l)) := hG
  have hl50 : l.length ≤ 50 := by simpa using hG.1
  clear hR hG
  obtain ⟨i, hi0, hz0, hz1, hz2⟩ := info_parts Try.infoCur
  have HI : Hid (Try.prog.info? 83 = some i ∧ i.zero = some .nilIface ∧ i.size = 1 ∧ i.bytes = 16) := ⟨hi0, hz0, hz1, hz2⟩
  clear hi0 hz0 hz1 hz2
  obtain ⟨W1, hW1⟩ : ∃ W1 : World, W1 = w.alloc (Obj.cells #[.string lo, .bool hh, .string hi] 31) := ⟨_, rfl⟩
  have hb1 : Below w.heap.size w W1 := by rw [hW1]; exact (Below.refl _ _).alloc (Nat.le_refl _) _
  have hz1 : W1.heap.size = w.heap.size + 1 := by rw [hW1]; simp
  have HG1 : Hid (W1.cell? ⟨w.heap.size, 0, none⟩ = some (.string lo) ∧ W1.cell? ⟨w.heap.size, 1, none⟩ = some (.bool hh) ∧ W1.cell? ⟨w.heap.size, 2, none⟩ = some (.string hi)) := by
    refine ⟨?_, ?_, ?_⟩ <;> (rw [hW1]; simp)
  go_enter Try.func41, Try.ntmps41
  go_wp2_with (at_make; refine wpList_make_own _ rfl _ _ 78 rfl w.heap.size 83 i _ 1 Try.underlying78 HI.out.1 HI.out.2.1 HI.out.2.2.1 _ _ _ l.length rfl rfl ?_ ?hb ?hm ?hs ?_)
  case hb => rw [HI.out.2.2.2]; omega
  case hm => unfold maxLen; omega
  case hs => simp
  · rfl
  rw [← hW1]
  clear hW1
  intro w2 hown hgr
  have hb2 : Below W1.heap.size W1 w2 := (Below.refl _ _).grown hgr (Nat.le_refl _) (fun k hk => by cases hk)
  have hs2 : w.heap.size + 1 < w2.heap.size := (World.ownsRow.lt hown _ rfl).2
  obtain ⟨W3, hW3⟩ : ∃ W3 : World, W3 = w2.alloc (Obj.cells #[.slice (some ⟨w.heap.size + 1, 0, none⟩) 0 l.length] 78) := ⟨_, rfl⟩
  have hb3 : Below w2.heap.size w2 W3 := by rw [hW3]; exact (Below.refl _ _).alloc (Nat.le_refl _) _
  have hz3 : W3.heap.size = w2.heap.size + 1 := by rw [hW3]; simp
  have HO : Hid (OInv w w2.heap.size l lo hh hi 0 (w.heap.size + 1) l.length #[] W3) := by
    have k13 : Below W1.heap.size W1 W3 := hb2.trans (hb3.mono hb2.size)
    exact {
      below := hb1.trans (k13.mono (by omega))
      hdr := by rw [hW3]; simp
      free := fun j => by
        rw [hW3]
        exact World.ownsRow.frozenAt (World.ownsRow_lit (base := 0) (e := 78) (size := 1) w2 #[.slice (some ⟨w.heap.size + 1, 0, none⟩) 0 l.length] 1 (Nat.zero_le _) (by decide) rfl) j
      lt := by omega
      own := by omega
      new := by omega
      ne := by omega
      apart := fun c hc => by simp at hc
      row := ⟨OwnH.below (d := #[]) hown hb3 (by omega), fun c hc => by simp at hc, fun c hc => by simp at hc, fun c hc => by simp at hc⟩
      opened := openTo_zero l lo hi hh
      rg0 := by rw [k13.cell (p := ⟨w.heap.size, 0, none⟩) (by show w.heap.size < W1.heap.size; omega)]; exact HG1.out.1
      rg1 := by rw [k13.cell (p := ⟨w.heap.size, 1, none⟩) (by show w.heap.size < W1.heap.size; omega)]; exact HG1.out.2.1
      rg2 := by rw [k13.cell (p := ⟨w.heap.size, 2, none⟩) (by show w.heap.size < W1.heap.size; omega)]; exact HG1.out.2.2 }
  clear hown hgr
  go_wp2_with fail
  rw [← hW3]
  clear hW3 HG1 hb1 hb2 hb3
  generalize hhv : w2.heap.size = hv at *
  clear hhv
  go_loopw [14] (fun c wr => ∃ (k g cp : Nat) (d : Array Cu), k ≤ l.length ∧ c = .int .i64 k ∧ OInv w hv l lo hh hi k g cp d wr) (fun c _ => l.length - (intOf c).toNat)
  case atStart => exact ⟨0, _, _, #[], Nat.zero_le _, rfl, HO.out⟩
  case round =>
    obtain ⟨k, g, cp, d, hk, rfl, hI⟩ := hrel
    have HV : Hid (OInv w hv l lo hh hi k g cp d wr) := hI
    have hbw := hI.below
    have hsw := hbw.size
    clear hI HO
    by_cases hlt : k < l.length
    · obtain ⟨r, hr⟩ : ∃ r, l[k]? = some r := ⟨_, List.getElem?_eq_getElem hlt⟩
      obtain ⟨c0, ha⟩ := (HR.out.below hbw hB) k r hr
      have HA : Hid (r.at wr ∧ l[k]? = some r ∧ GoodR r.es ∧ r.b < w.heap.size) := ⟨ha, hr, goodRs_mem HG.out (List.mem_of_getElem? hr), (HR.out k r hr).2.lt⟩
      clear ha hr
      obtain ⟨Wa, hWa⟩ : ∃ Wa : World, Wa = wr.alloc (Obj.cells #[.slice (some ⟨r.b, r.off, none⟩) r.es.length r.cap] 40) := ⟨_, rfl⟩
      have hba : Below wr.heap.size wr Wa := by rw [hWa]; exact (Below.refl _ _).alloc (Nat.le_refl _) _
      have hca : Wa.cell? ⟨wr.heap.size, 0, none⟩ = some (.slice (some ⟨r.b, r.off, none⟩) r.es.length r.cap) := by rw [hWa]; simp
      have HVa : Hid (OInv w hv l lo hh hi k g cp d Wa) := HV.out.step hba
      have HAa : Hid (r.at Wa) := HA.out.1.below hba
      go_upto_region 5 with fail
      rw [← hWa]
      clear hWa c0
      have q0 := HVa.out.rg0
      have q1 := HVa.out.rg1
      have q2 := HVa.out.rg2
      go_wp2_with fail
      refine (entriesIn_core r lo hi hh _ HAa.out HA.out.2.2.1).mono ?_
      rintro e wb ⟨p, rfl, hpa, hpp, hbb⟩
      have HP : Hid (p.at wb ∧ PartOf r p lo hh hi) := ⟨hpa, hpp⟩
      have HVb : Hid (OInv w hv l lo hh hi k g cp d wb) := HVa.out.step hbb
      clear hpa hpp q0 q1 q2 hca
      by_cases hp0 : p.es.length = 0
      · have HN : Hid (OInv w hv l lo hh hi (k + 1) g cp d wb) := { HVb.out with opened := openTo_skip HVb.out.opened HA.out.2.1 HP.out.2 (List.eq_nil_of_length_eq_zero hp0) }
        go_wp2_with fail
        go_roundw
        case rel => exact ⟨k + 1, g, cp, d, by omega, by go_num, HN.out⟩
        case measure => go_light; simp [intOf]; omega
      · have zp : (0 : Int) < (p.es.length : Int) := by omega
        have q0 := HVb.out.hdr
        have hdk : d.size ≤ k := by simpa using HVb.out.opened.few
        have hgl := HVb.out.row.row.lt.2
        have hvl := HVb.out.lt
        have f0 := HVb.out.free 0
        have hnv := HVb.out.ne
        have hws := HVb.out.below.size
        clear hba hbb hbw hsw
        go_wp2_with (at_builtin; refine wpList_append_cu _ rfl _ _ rfl w.heap.size g cp (wb.heap.size + 1) d ⟨wb.heap.size, p, 0, k⟩ rfl rfl ?hO ?hc ?hl ?hb ?_)
        case hO => exact (HVb.out.row.row.below ((Below.refl _ _).alloc (Nat.le_refl _) _) hgl).below ((Below.refl _ _).alloc (Nat.le_refl _) _) (by simp; omega)
        case hc => simp
        case hl => omega
        case hb => simp; omega
        intro g' cp' w4 hO hgr hgg
        have hb3 : Below (wb.heap.size + 1) (wb.alloc (Obj.cells #[.slice (some ⟨p.b, p.off, none⟩) p.es.length p.cap, .int .i64 0, .int .i64 k] 119)) ((wb.alloc (Obj.cells #[.slice (some ⟨p.b, p.off, none⟩) p.es.length p.cap, .int .i64 0, .int .i64 k] 119)).alloc (Obj.cells #[.iface 117 (.pointer (some ⟨wb.heap.size, 0, none⟩))] 83)) := (Below.refl _ _).alloc (by simp) _
        have HN : Hid (OInv w hv l lo hh hi (k + 1) g' cp' (d.push ⟨wb.heap.size, p, 0, k⟩) (w4.setCell ⟨hv, 0, none⟩ (.slice (some ⟨g', 0, none⟩) (d.size + 1) cp'))) :=
          HVb.out.push HA.out.2.1 HA.out.2.2.1 HA.out.2.2.2 HP.out.2 HP.out.1 (by omega) (by omega) hb3 hO hgr (by simpa using hgg)
        have hx := (HVb.out.step ((Below.refl wb.heap.size wb).alloc (Nat.le_refl _) (Obj.cells #[.slice (some ⟨p.b, p.off, none⟩) p.es.length p.cap, .int .i64 0, .int .i64 k] 119))).step (w' := (wb.alloc (Obj.cells #[.slice (some ⟨p.b, p.off, none⟩) p.es.length p.cap, .int .i64 0, .int .i64 k] 119)).alloc (Obj.cells #[.iface 117 (.pointer (some ⟨wb.heap.size, 0, none⟩))] 83)) ((Below.refl _ _).alloc (Nat.le_refl _) _)
        have c4 : w4.cell? ⟨hv, 0, none⟩ = some (.slice (some ⟨g, 0, none⟩) d.size cp) := by rw [hgr.cell_far ⟨hv, 0, none⟩ hx.lt (fun q => hnv (Option.some.inj q))]; exact hx.hdr
        have f4 : w4.frozen? ⟨hv, 0, none⟩ = false := by rw [hgr.frozen_far ⟨hv, 0, none⟩ hx.lt (fun q => hnv (Option.some.inj q))]; exact hx.free 0
        clear hO hgr hgg hb3 hx q0 f0
        go_wp2_with fail
        go_roundw
        case rel => exact ⟨k + 1, g', cp', _, by omega, by go_num, HN.out⟩
        case measure => go_light; simp [intOf]; omega
    · have hkl : k = l.length := by omega
      have HW : Hid (HeapW wr hv w.heap.size g cp d) := by
        have h := HV.out
        exact ⟨h.hdr, h.free, h.lt, h.ne, h.row.row, by have := h.own; omega, h.row.cur, h.row.low, fun c hc => ⟨(h.row.high c hc).1, (h.row.high c hc).2, (h.apart c hc).2⟩⟩
      have HK : Hid (OpenTo l lo hh hi l.length d.toList) := by have := HV.out.opened; rw [hkl] at this; exact this
      have hdk : d.size ≤ k := by simpa using HV.out.opened.few
      clear hkl
      go_wp2_with fail
      refine (init_core hv w.heap.size g cp d _ HW.out (by omega)).mono ?_
      rintro e wf ⟨rfl, hHf, hCf⟩
      have hb := heap_build (d := d)
      have hgl := HW.out.row.lt.1
      have HF : Hid (RowOk wf w.heap.size g cp (Go.Sort.heapBuild gtC d.size 0 (d.size / 2) d) ∧ Heap (Go.Sort.heapBuild gtC d.size 0 (d.size / 2) d) ∧ OpenTo l lo hh hi l.length (Go.Sort.heapBuild gtC d.size 0 (d.size / 2) d).toList ∧ Below w.heap.size w wf) :=
        ⟨hHf.rowOk, hb.1, HK.out.perm hb.2.symm, Chg.below hbw hCf hsw (fun k q => by omega)⟩
      have q0 := hHf.hdr
      clear hHf hCf hb
      go_wp2_with fail
      go_ret
      exact ⟨g, cp, _, rfl, HF.out.1, HF.out.2.1, HF.out.2.2.1, HF.out.2.2.2⟩
end Go.Proofs.Ytnncedndlhfdkac

/-
  Visible cells in memory, one behind another: an entry without its kind.
-/
namespace Go.Proofs.Ytnncedndlhfdkac
open Go.ChangeShapes Go.WideShapes Go.ChangeAt Go.RowKit Go.Deep
set_option linter.unusedVariables false
set_option linter.unusedSimpArgs false

abbrev Ent.five (e : Ent) : List Value := [.string e.row, .string e.fam, .string e.qual, .int .u64 e.ts, .string e.val]
abbrev Ent.c (e : Ent) : Value := .agg #[.string e.row, .string e.fam, .string e.qual, .int .u64 e.ts, .string e.val]
def cellsC (es : List Ent) : List Value := es.flatMap Ent.five
theorem cellsC_nil : cellsC [] = [] := rfl
theorem cellsC_cons (e : Ent) (es : List Ent) : cellsC (e :: es) = e.five ++ cellsC es := by simp [cellsC]
theorem cellsC_append (es fs : List Ent) : cellsC (es ++ fs) = cellsC es ++ cellsC fs := by simp [cellsC]
theorem length_cellsC (es : List Ent) : (cellsC es).length = es.length * 5 := by
  induction es with
  | nil => rfl
  | cons e es ih => rw [cellsC_cons, List.length_append, ih]; simp; omega
theorem cellsC_get (es : List Ent) : ∀ (k : Nat) (e : Ent), es[k]? = some e → ∀ j, j < 5 → (cellsC es)[k * 5 + j]? = e.five[j]? := by
  induction es with
  | nil => intro k e h; simp at h
  | cons f es ih =>
    intro k e h j hj
    rw [cellsC_cons]
    cases k with
    | zero =>
      simp at h; subst h
      rw [List.getElem?_append_left (by show 0 * 5 + j < 5; omega)]
      simp
    | succ k =>
      simp at h
      rw [List.getElem?_append_right (by show 5 ≤ (k + 1) * 5 + j; omega)]
      have : (k + 1) * 5 + j - f.five.length = k * 5 + j := by show (k + 1) * 5 + j - 5 = _; omega
      rw [this]; exact ih k e h j hj
theorem cellsC_set (es : List Ent) : ∀ (k : Nat) (e e' : Ent) (u : Value) (j : Nat), es[k]? = some e → j < 5 → e'.five = e.five.set j u → (cellsC es).set (k * 5 + j) u = cellsC (es.set k e') := by
  induction es with
  | nil => intro k e e' u j h; simp at h
  | cons f es ih =>
    intro k e e' u j h hj hc
    rw [cellsC_cons]
    cases k with
    | zero =>
      simp at h; subst h
      rw [List.set_append_left _ _ (by show 0 * 5 + j < 5; omega), List.set_cons_zero, cellsC_cons, hc]
      simp
    | succ k =>
      simp at h
      rw [List.set_append_right _ _ (by show 5 ≤ (k + 1) * 5 + j; omega), List.set_cons_succ, cellsC_cons]
      have : (k + 1) * 5 + j - f.five.length = k * 5 + j := by show (k + 1) * 5 + j - 5 = _; omega
      rw [this, ih k e e' u j h hj hc]

/-- The cells 'es' lie at ⟨b, off⟩, five each. -/
def CelsAt (w : World) (b off : Nat) (es : List Ent) : Prop :=
  ∀ i e, es[i]? = some e → w.cell? ⟨b, off + i * 5, none⟩ = some (.string e.row) ∧ w.cell? ⟨b, off + i * 5 + 1, none⟩ = some (.string e.fam) ∧ w.cell? ⟨b, off + i * 5 + 2, none⟩ = some (.string e.qual) ∧
    w.cell? ⟨b, off + i * 5 + 3, none⟩ = some (.int .u64 e.ts) ∧ w.cell? ⟨b, off + i * 5 + 4, none⟩ = some (.string e.val)
theorem CelsAt.below {B : Nat} {w w' : World} {b off : Nat} {es : List Ent} (h : CelsAt w b off es) (hb : Below B w w') (hlt : b < B) : CelsAt w' b off es := by
  intro i e he
  have := h i e he
  refine ⟨?_, ?_, ?_, ?_, ?_⟩
  all_goals rw [hb.cell (by exact hlt)]
  · exact this.1
  · exact this.2.1
  · exact this.2.2.1
  · exact this.2.2.2.1
  · exact this.2.2.2.2

/-- A row of the call's own holds the cells 'es'. -/
def OwnC (w : World) (base g cap : Nat) (es : List Ent) : Prop := w.ownsRow base 69 5 (.slice (some ⟨g, 0, none⟩) es.length cap) es.length (cellsC es)
theorem OwnC.at {w : World} {base g cap : Nat} {es : List Ent} (h : OwnC w base g cap es) : CelsAt w g 0 es := by
  intro i e he
  have hi : i < es.length := (List.getElem?_eq_some_iff.1 he).1
  have c := fun j (hj : j < 5) => (World.ownsRow.cellAt h (i * 5 + j) (by omega)).trans (cellsC_get es i e he j hj)
  refine ⟨?_, ?_, ?_, ?_, ?_⟩
  · simpa using c 0 (by omega)
  · simpa using c 1 (by omega)
  · simpa using c 2 (by omega)
  · simpa using c 3 (by omega)
  · simpa using c 4 (by omega)
theorem OwnC.lt {w : World} {base g cap : Nat} {es : List Ent} (h : OwnC w base g cap es) : base ≤ g ∧ g < w.heap.size := World.ownsRow.lt h g rfl
theorem OwnC.below {B : Nat} {w w' : World} {base g cap : Nat} {es : List Ent} (h : OwnC w base g cap es) (hb : Below B w w') (hg : g < B) : OwnC w' base g cap es := by
  refine ⟨h.1, ?_⟩
  rcases h.2 with hn | ⟨g', cap', cur, hv, h1, h2, rest⟩
  · exact .inl hn
  · simp only [Value.slice.injEq, Option.some.injEq, Addr.mk.injEq, and_true, true_and] at hv
    obtain ⟨rfl, rfl⟩ := hv
    exact .inr ⟨g, cap, cur, rfl, h1, by rw [hb.block g hg]; exact h2, rest⟩
theorem OwnC.set {w : World} {base g cap : Nat} {es : List Ent} (h : OwnC w base g cap es) (k j : Nat) (e e' : Ent) (u : Value) (hk : es[k]? = some e) (hj : j < 5) (hc : e'.five = e.five.set j u) :
    OwnC (w.setCell ⟨g, k * 5 + j, none⟩ u) base g cap (es.set k e') := by
  have := (World.ownsRow.stored h (k * 5 + j) u).1
  rw [cellsC_set es k e e' u j hk hj hc] at this
  unfold OwnC
  rw [List.length_set]
  exact this
theorem OwnC.upd {w : World} {base g cap m j : Nat} {fs : List Ent} {f f' : Ent} {u : Value} (h : OwnC w base g cap (fs.set m f)) (hm : m < fs.length) (hj : j < 5) (hc : f'.five = f.five.set j u) :
    OwnC (w.setCell ⟨g, m * 5 + j, none⟩ u) base g cap (fs.set m f') := by
  have := h.set m j f f' u (by simp [hm]) hj hc
  rwa [List.set_set] at this
theorem OwnC.mono {w : World} {base base' g cap : Nat} {es : List Ent} (h : OwnC w base g cap es) (hb : base' ≤ base) : OwnC w base' g cap es := by
  refine ⟨h.1, ?_⟩
  rcases h.2 with hn | ⟨g', cap', cur, hv, h1, rest⟩
  · exact .inl hn
  · exact .inr ⟨g', cap', cur, hv, Nat.le_trans hb h1, rest⟩
theorem OwnC.kept {w w' : World} {base g cp : Nat} {fs : List Ent} {row : Option Nat} (h : OwnC w base g cp fs) (hg : w.grownBy w' row) (hne : some g ≠ row) : OwnC w' base g cp fs :=
  World.ownsRow.kept h hg (.inr hne)
theorem OwnC.caps {w : World} {base g cp : Nat} {R : List Ent} (h : OwnC w base g cp R) : R.length ≤ cp ∧ cp ≤ maxLen := by
  rcases h.2 with ⟨h0, _⟩ | ⟨g', cap', cur, hv, _, _, hn, hcap, _, _⟩
  · cases h0
  · simp only [Value.slice.injEq, Option.some.injEq, Addr.mk.injEq, and_true, true_and] at hv
    obtain ⟨rfl, rfl⟩ := hv
    exact ⟨hn, hcap⟩
theorem ownC_new (w : World) : OwnC (w.alloc (Obj.cells #[] 69)) w.heap.size w.heap.size 0 [] := World.ownsRow_made w #[] 0 (Nat.le_refl _) (Nat.zero_le _) (by simp)

theorem Try.infoCel : (Try.prog.info? 69).map (fun i => (i.zero, i.size, i.bytes)) = some (some (.agg #[.string ⟨#[]⟩, .string ⟨#[]⟩, .string ⟨#[]⟩, .int .u64 0, .string ⟨#[]⟩]), 5, 72) := by kernel_rfl

theorem cel_new (wx : World) (f : Ent) : CelsAt (wx.alloc (Obj.cells #[.string f.row, .string f.fam, .string f.qual, .int .u64 f.ts, .string f.val] 69)) wx.heap.size 0 [f] := by
  intro j y hy
  obtain rfl : j = 0 := by
    have := (List.getElem?_eq_some_iff.1 hy).1
    simpa using this
  simp at hy
  subst hy
  simp

/-- One cell appended to a row of the call's own. -/
theorem wpList_append_cel {ops : Array Oper} {rest : List Oper} {o : Oper} {a : Act} {Q : Exit → Act → World → Prop} (w : World) (hgd : o.guard = none) (s x : Operand)
    (ho : o.op = .call { callee := .builtin .append, args := #[s, x], argTypes := #[27, 27] })
    (base g cp n blk : Nat) (fs : List Ent) (e : Ent) (hs : a.eval s = .slice (some ⟨g, 0, none⟩) n cp) (hx : a.eval x = .slice (some ⟨blk, 0, none⟩) 1 1) (hn : n = fs.length) (hO : OwnC w base g cp fs)
    (hc : CelsAt w blk 0 [e]) (hlen : fs.length ≤ 2 ^ 30) (hbase : base ≤ w.heap.size)
    (h : ∀ g' cp' w', OwnC w' base g' cp' (fs ++ [e]) → w.grownBy w' (some g) → wpList Try.prog ops Q rest (a.put o.dst (.slice (some ⟨g', 0, none⟩) (n + 1) cp')) w') : wpList Try.prog ops Q (o :: rest) a w := by
  obtain ⟨i, hi, hz0, hz1, hz2⟩ := info_parts Try.infoCel
  subst hn
  obtain ⟨c0, c1, c2, c3, c4⟩ := hc 0 e rfl
  refine wpList_append_own w hgd s x 27 ho base 69 i _ 5 72 Try.underlying27 hi hz0 hz1 hz2 rfl (by decide) (.slice (some ⟨g, 0, none⟩) fs.length cp) fs.length (cellsC fs) hs hO ⟨blk, 0, none⟩ 1 1 (cellsC [e]) hx rfl ?_ ?_ ?_ ?_ hbase ?_
  · intro j u hu
    have hj : j < 5 := by
      have := (List.getElem?_eq_some_iff.1 hu).1
      rw [length_cellsC] at this
      simpa using this
    rw [Addr.add_mid, Nat.zero_add]
    simp only [Nat.zero_mul, Nat.zero_add] at c0 c1 c2 c3 c4
    match j, hj, hu with
    | 0, _, hu => simp [cellsC] at hu; rw [← hu]; exact c0
    | 1, _, hu => simp [cellsC] at hu; rw [← hu]; exact c1
    | 2, _, hu => simp [cellsC] at hu; rw [← hu]; exact c2
    | 3, _, hu => simp [cellsC] at hu; rw [← hu]; exact c3
    | 4, _, hu => simp [cellsC] at hu; rw [← hu]; exact c4
  · intro u hu
    simp [cellsC] at hu
    rcases hu with rfl | rfl | rfl | rfl | rfl <;> rfl
  · unfold maxLen; omega
  · omega
  · intro v' w' hown hgr hnil
    rw [← cellsC_append] at hown
    have hlen' : (fs ++ [e]).length = fs.length + 1 := by simp
    rcases hown.2 with ⟨hv, _⟩ | ⟨g', cap', cur, hv, h1, h2, h3⟩
    · have := (hnil.1 hv).1
      simp at this
    · subst hv
      exact h g' cap' w' (by unfold OwnC; rw [hlen']; exact hown) hgr

set_option maxHeartbeats 400000 in
theorem specCell_any (e : Ent) (w : World) :
    Calls Try.prog 38 #[e.v] w fun r w' => r = .returned e.c ∧ Below w.heap.size w w' := by
  unfold Ent.v
  go_enter Try.func38, Try.ntmps38
  go_wp2
  refine bodyPost_ret (v := e.c) (by simp [results, Try.results38, go_sem]) rfl ⟨rfl, ?_⟩
  exact ((Below.refl _ _).alloc (Nat.le_refl _) _).alloc (by simp) _
set_option maxHeartbeats 400000 in
theorem implCell_any (e : Ent) (w : World) :
    Calls Try.prog 66 #[e.v] w fun r w' => r = .returned e.c ∧ Below w.heap.size w w' := by
  unfold Ent.v
  go_enter Try.func66, Try.ntmps66
  go_wp2
  refine bodyPost_ret (v := e.c) (by simp [results, Try.results66, go_sem]) rfl ⟨rfl, ?_⟩
  exact ((Below.refl _ _).alloc (Nat.le_refl _) _).alloc (by simp) _

set_option maxHeartbeats 400000 in
theorem eqCell_same (a : Ent) (w : World) :
    Calls Try.prog 45 #[a.c, a.c] w fun e w' => e = .returned (.bool true) ∧ Below w.heap.size w w' := by
  unfold Ent.c
  go_enter Try.func45, Try.ntmps45
  go_wp2
  go_ret
  exact ⟨rfl, ((Below.refl _ _).alloc (Nat.le_refl _) _).alloc (by simp) _⟩

set_option maxHeartbeats 1000000 in
theorem eqCellS_same (b off cap b' off' cap' : Nat) (es : List Ent) (w : World) (hE : CelsAt w b off es) (hE' : CelsAt w b' off' es) (hB : b < w.heap.size) (hB' : b' < w.heap.size) (hlen : es.length ≤ maxLen) :
    Calls Try.prog 13 #[.slice (some ⟨b, off, none⟩) es.length cap, .slice (some ⟨b', off', none⟩) es.length cap'] w fun e w' =>
      e = .returned (.bool true) ∧ Below w.heap.size w w' := by
  have HE : Hid (CelsAt w b off es ∧ CelsAt w b' off' es) := ⟨hE, hE'⟩
  clear hE hE'
  unfold maxLen at hlen
  go_enter Try.func13, Try.ntmps13
  go_wp2
  go_loopw [5] (fun i wr => ∃ (k : Nat), k ≤ es.length ∧ i = .int .i64 k ∧ Below w.heap.size w wr) (fun i _ => es.length - (intOf i).toNat)
  case atStart => exact ⟨0, Nat.zero_le _, rfl, Below.refl _ _⟩
  case round =>
    obtain ⟨k, hk, rfl, hb⟩ := hrel
    have hs2 := hb.size
    by_cases hlt : k < es.length
    · obtain ⟨e, he⟩ : ∃ e, es[k]? = some e := ⟨_, List.getElem?_eq_getElem hlt⟩
      obtain ⟨c0, c1, c2, c3, c4⟩ := HE.out.1.below hb hB k e he
      obtain ⟨d0, d1, d2, d3, d4⟩ := HE.out.2.below hb hB' k e he
      clear he
      go_upto_region 6 with fail
      go_cut [26] (fun s wx => s = .bool false ∧ Below w.heap.size w wx)
      case first =>
        have z2 : (k : Int) < (es.length : Int) := by omega
        go_region_with (go_at_call 45; refine (eqCell_same e _).mono ?_; rintro e' w' ⟨rfl, hbb⟩)
        all_goals go_wp2_with fail
        all_goals go_meet
        all_goals exact ⟨rfl, hb.drew.trans (hbb.mono (by simp; omega))⟩
      case rest =>
      obtain ⟨rfl, h3⟩ := hcut
      clear c0 c1 c2 c3 c4 d0 d1 d2 d3 d4
      go_wp2_with fail
      go_roundw
      case rel => exact ⟨k + 1, by omega, by go_num, h3⟩
      case measure => simp [intOf]; omega
    · go_wp2_with fail
      go_ret
      exact ⟨rfl, hb⟩
theorem eqCellS_own {w : World} {base g cp base' g' cp' : Nat} {es : List Ent} (h : OwnC w base g cp es) (h' : OwnC w base' g' cp' es) :
    Calls Try.prog 13 #[.slice (some ⟨g, 0, none⟩) es.length cp, .slice (some ⟨g', 0, none⟩) es.length cp'] w fun e w' => e = .returned (.bool true) ∧ Below w.heap.size w w' :=
  eqCellS_same g 0 cp g' 0 cp' es w h.at h'.at h.lt.2 h'.lt.2 (Nat.le_trans h.caps.1 h.caps.2)
end Go.Proofs.Ytnncedndlhfdkac

/-
  The merger in memory; its look at the deletes.
-/
namespace Go.Proofs.Ytnncedndlhfdkac
open Go.ChangeShapes Go.WideShapes Go.ChangeAt Go.RowKit Go.Deep
set_option linter.unusedVariables false
set_option linter.unusedSimpArgs false
set_option maxRecDepth 100000

def cellsD (ds : List (Nat × Int)) : List Value := ds.flatMap fun d => [.int .i64 d.1, .int .u64 d.2]
theorem cellsD_append (a b : List (Nat × Int)) : cellsD (a ++ b) = cellsD a ++ cellsD b := by simp [cellsD]
theorem cellsD_len : ∀ ds : List (Nat × Int), (cellsD ds).length = ds.length * 2
  | [] => rfl
  | d :: ds => by
    have := cellsD_len ds
    unfold cellsD at *
    rw [List.flatMap_cons, List.length_append, this]; simp; omega
theorem cellsD_get : ∀ (ds : List (Nat × Int)) (k : Nat) (d : Nat × Int), ds[k]? = some d → (cellsD ds)[k * 2]? = some (.int .i64 d.1) ∧ (cellsD ds)[k * 2 + 1]? = some (.int .u64 d.2)
  | [], k, d, h => by simp at h
  | x :: ds, 0, d, h => by
    simp at h
    subst h
    exact ⟨rfl, rfl⟩
  | x :: ds, k + 1, d, h => by
    simp at h
    have := cellsD_get ds k d h
    have e : cellsD (x :: ds) = .int .i64 x.1 :: .int .u64 x.2 :: cellsD ds := rfl
    rw [e, show (k + 1) * 2 = k * 2 + 1 + 1 by omega, show k * 2 + 1 + 1 + 1 = (k * 2 + 1) + 1 + 1 by omega]
    simpa using this

/-- The merger's own variable. -/
def OwnM (w : World) (base mb : Nat) (vs : List Value) : Prop := w.ownsRow base 76 7 (.slice (some ⟨mb, 0, none⟩) 1 1) 1 vs
def OwnD (w : World) (base : Nat) (dv : Value) (ds : List (Nat × Int)) : Prop := w.ownsRow base 125 2 dv ds.length (cellsD ds)
/-- The merger with its two rows. -/
structure MgAt (w : World) (base mb : Nat) (c : ByteArray × ByteArray × ByteArray) (dv : Value) (ds : List (Nat × Int)) (dec : Bool) (ts : Int) (cg cc : Nat) (L : List Ent) : Prop where
  own : OwnM w base mb [.string c.1, .string c.2.1, .string c.2.2, dv, .bool dec, .int .u64 ts, .slice (some ⟨cg, 0, none⟩) L.length cc]
  dels : OwnD w base dv ds
  cells : OwnC w base cg cc L
/-- The merger's blocks. -/
def Mine (mb : Nat) (dv : Value) (cg : Nat) (k : Nat) : Prop := k = mb ∨ dv.ownBlock = some k ∨ k = cg
theorem MgAt.chg {S : Nat → Prop} {w w' : World} {base mb : Nat} {c : ByteArray × ByteArray × ByteArray} {dv : Value} {ds : List (Nat × Int)} {dec : Bool} {ts : Int} {cg cc : Nat} {L : List Ent} (h : MgAt w base mb c dv ds dec ts cg cc L) (hb : Chg S w w') (hn : ∀ k, Mine mb dv cg k → ¬ S k) : MgAt w' base mb c dv ds dec ts cg cc L where
  own := own_chg h.own hb (fun k q => hn k (.inl (by simpa [Value.ownBlock] using q.symm)))
  dels := own_chg h.dels hb (fun k q => hn k (.inr (.inl q)))
  cells := own_chg h.cells hb (fun k q => hn k (.inr (.inr (by simpa [Value.ownBlock] using q.symm))))
theorem MgAt.below {w w' : World} {base mb : Nat} {c : ByteArray × ByteArray × ByteArray} {dv : Value} {ds : List (Nat × Int)} {dec : Bool} {ts : Int} {cg cc : Nat} {L : List Ent} (h : MgAt w base mb c dv ds dec ts cg cc L) (hb : Below w.heap.size w w') : MgAt w' base mb c dv ds dec ts cg cc L :=
  h.chg (S := fun _ => False) (Chg.of_below hb) (fun k _ q => q)
theorem MgAt.low {w : World} {base mb : Nat} {c : ByteArray × ByteArray × ByteArray} {dv : Value} {ds : List (Nat × Int)} {dec : Bool} {ts : Int} {cg cc : Nat} {L : List Ent} (h : MgAt w base mb c dv ds dec ts cg cc L) : ∀ k, Mine mb dv cg k → base ≤ k ∧ k < w.heap.size := by
  rintro k (rfl | q | rfl)
  · exact World.ownsRow.lt h.own k rfl
  · exact World.ownsRow.lt h.dels k q
  · exact World.ownsRow.lt h.cells k rfl
theorem MgAt.cell {w : World} {base mb : Nat} {c : ByteArray × ByteArray × ByteArray} {dv : Value} {ds : List (Nat × Int)} {dec : Bool} {ts : Int} {cg cc : Nat} {L : List Ent} (h : MgAt w base mb c dv ds dec ts cg cc L) :
    w.cell? ⟨mb, 0, none⟩ = some (.string c.1) ∧ w.cell? ⟨mb, 1, none⟩ = some (.string c.2.1) ∧ w.cell? ⟨mb, 2, none⟩ = some (.string c.2.2) ∧ w.cell? ⟨mb, 3, none⟩ = some dv ∧ w.cell? ⟨mb, 4, none⟩ = some (.bool dec) ∧ w.cell? ⟨mb, 5, none⟩ = some (.int .u64 ts) ∧ w.cell? ⟨mb, 6, none⟩ = some (.slice (some ⟨cg, 0, none⟩) L.length cc) ∧ (∀ j, w.frozen? ⟨mb, j, none⟩ = false) :=
  ⟨World.ownsRow.cellAt h.own 0 (by decide), World.ownsRow.cellAt h.own 1 (by decide), World.ownsRow.cellAt h.own 2 (by decide), World.ownsRow.cellAt h.own 3 (by decide), World.ownsRow.cellAt h.own 4 (by decide), World.ownsRow.cellAt h.own 5 (by decide), World.ownsRow.cellAt h.own 6 (by decide), fun j => World.ownsRow.frozenAt h.own j⟩
/-- A cell of the merger written: its rows stay. -/
theorem MgAt.apart {w : World} {base mb : Nat} {c : ByteArray × ByteArray × ByteArray} {dv : Value} {ds : List (Nat × Int)} {dec : Bool} {ts : Int} {cg cc : Nat} {L : List Ent} (h : MgAt w base mb c dv ds dec ts cg cc L) : (∀ k, dv.ownBlock = some k → ¬ k = mb) ∧ ¬ cg = mb ∧ (∀ k, dv.ownBlock = some k → ¬ k = cg) := by
  refine ⟨fun k hk q => ?_, fun q => ?_, fun k hk q => ?_⟩
  · exact own_apart h.dels h.own (by decide) k hk (by rw [q]; rfl)
  · exact own_apart h.cells h.own (by decide) cg rfl (by rw [q]; rfl)
  · exact own_apart h.dels h.cells (by decide) k hk (by rw [q]; rfl)
theorem rows_set {w : World} {base mb : Nat} {c : ByteArray × ByteArray × ByteArray} {dv : Value} {ds : List (Nat × Int)} {dec : Bool} {ts : Int} {cg cc : Nat} {L : List Ent} (h : MgAt w base mb c dv ds dec ts cg cc L) (j : Nat) (u : Value) :
    OwnD (w.setCell ⟨mb, j, none⟩ u) base dv ds ∧ OwnC (w.setCell ⟨mb, j, none⟩ u) base cg cc L :=
  ⟨own_chg h.dels (Chg.of_set (S := fun k => k = mb) w mb j u rfl) h.apart.1, own_chg h.cells (Chg.of_set (S := fun k => k = mb) w mb j u rfl) (fun k q => by simp [Value.ownBlock] at q; subst q; exact h.apart.2.1)⟩
theorem MgAt.setCol {w : World} {base mb : Nat} {c : ByteArray × ByteArray × ByteArray} {dv : Value} {ds : List (Nat × Int)} {dec : Bool} {ts : Int} {cg cc : Nat} {L : List Ent} (h : MgAt w base mb c dv ds dec ts cg cc L) (c' : ByteArray × ByteArray × ByteArray) :
    MgAt (((w.setCell ⟨mb, 0, none⟩ (.string c'.1)).setCell ⟨mb, 1, none⟩ (.string c'.2.1)).setCell ⟨mb, 2, none⟩ (.string c'.2.2)) base mb c' dv ds dec ts cg cc L := by
  have h1 : MgAt (w.setCell ⟨mb, 0, none⟩ (.string c'.1)) base mb (c'.1, c.2.1, c.2.2) dv ds dec ts cg cc L := ⟨(World.ownsRow.stored h.own 0 _).1, (rows_set h 0 _).1, (rows_set h 0 _).2⟩
  have h2 : MgAt ((w.setCell ⟨mb, 0, none⟩ (.string c'.1)).setCell ⟨mb, 1, none⟩ (.string c'.2.1)) base mb (c'.1, c'.2.1, c.2.2) dv ds dec ts cg cc L := ⟨(World.ownsRow.stored h1.own 1 _).1, (rows_set h1 1 _).1, (rows_set h1 1 _).2⟩
  exact ⟨(World.ownsRow.stored h2.own 2 _).1, (rows_set h2 2 _).1, (rows_set h2 2 _).2⟩
theorem MgAt.setDec {w : World} {base mb : Nat} {c : ByteArray × ByteArray × ByteArray} {dv : Value} {ds : List (Nat × Int)} {dec : Bool} {ts : Int} {cg cc : Nat} {L : List Ent} (h : MgAt w base mb c dv ds dec ts cg cc L) (dec' : Bool) :
    MgAt (w.setCell ⟨mb, 4, none⟩ (.bool dec')) base mb c dv ds dec' ts cg cc L := ⟨(World.ownsRow.stored h.own 4 _).1, (rows_set h 4 _).1, (rows_set h 4 _).2⟩
theorem MgAt.setTs {w : World} {base mb : Nat} {c : ByteArray × ByteArray × ByteArray} {dv : Value} {ds : List (Nat × Int)} {dec : Bool} {ts : Int} {cg cc : Nat} {L : List Ent} (h : MgAt w base mb c dv ds dec ts cg cc L) (ts' : Int) :
    MgAt (w.setCell ⟨mb, 5, none⟩ (.int .u64 ts')) base mb c dv ds dec ts' cg cc L := ⟨(World.ownsRow.stored h.own 5 _).1, (rows_set h 5 _).1, (rows_set h 5 _).2⟩
/-- Cut to nothing. -/
def cut0 : Value → Value
  | .slice a _ cap => .slice a 0 cap
  | v => v
theorem cut0_block {w : World} {base : Nat} {dv : Value} {ds : List (Nat × Int)} (h : OwnD w base dv ds) : (cut0 dv).ownBlock = dv.ownBlock := by
  rcases h.2 with ⟨rfl, _⟩ | ⟨g, cap, cur, rfl, _⟩ <;> rfl
theorem OwnD.cut {w : World} {base : Nat} {dv : Value} {ds : List (Nat × Int)} (h : OwnD w base dv ds) : OwnD w base (cut0 dv) [] := by
  rcases h.2 with ⟨rfl, _⟩ | ⟨g, cap, cur, rfl, h1, h2, h3, h4, h5, h6⟩
  · exact ⟨rfl, .inl ⟨rfl, rfl⟩⟩
  · exact ⟨rfl, .inr ⟨g, cap, cur, rfl, h1, h2, Nat.zero_le _, h4, h5, by simp [cellsD]⟩⟩
theorem MgAt.setDels {w : World} {base mb : Nat} {c : ByteArray × ByteArray × ByteArray} {dv dv' : Value} {ds ds' : List (Nat × Int)} {dec : Bool} {ts : Int} {cg cc : Nat} {L : List Ent} (h : MgAt w base mb c dv ds dec ts cg cc L) (hd : OwnD w base dv' ds') :
    MgAt (w.setCell ⟨mb, 3, none⟩ dv') base mb c dv' ds' dec ts cg cc L :=
  ⟨(World.ownsRow.stored h.own 3 _).1, own_chg hd (Chg.of_set (S := fun k => k = mb) w mb 3 dv' rfl) (fun k hk q => own_apart hd h.own (by decide) k hk (by rw [q]; rfl)), (rows_set h 3 _).2⟩
theorem MgAt.setCells {w : World} {base mb : Nat} {c : ByteArray × ByteArray × ByteArray} {dv : Value} {ds : List (Nat × Int)} {dec : Bool} {ts : Int} {cg cc cg' cc' : Nat} {L L' : List Ent} (h : MgAt w base mb c dv ds dec ts cg cc L) (hd : OwnC w base cg' cc' L') :
    MgAt (w.setCell ⟨mb, 6, none⟩ (.slice (some ⟨cg', 0, none⟩) L'.length cc')) base mb c dv ds dec ts cg' cc' L' :=
  ⟨(World.ownsRow.stored h.own 6 _).1, (rows_set h 6 _).1, own_chg hd (Chg.of_set (S := fun k => k = mb) w mb 6 _ rfl) (fun k hk q => own_apart hd h.own (by decide) k hk (by rw [q]; rfl))⟩

set_option maxHeartbeats 1000000 in
theorem hides_core (base mb : Nat) (c : ByteArray × ByteArray × ByteArray) (dv : Value) (ds : List (Nat × Int)) (dec : Bool) (ts : Int) (cg cc : Nat) (L : List Ent) (t : Int) (a : Nat) (w : World) (h : MgAt w base mb c dv ds dec ts cg cc L) (hn : ds.length ≤ 1048576) :
    Calls Try.prog 78 #[.pointer (some ⟨mb, 0, none⟩), .int .u64 t, .int .i64 a] w fun e w' => e = .returned (.bool (hides ds t a)) ∧ Below w.heap.size w w' := by
  obtain ⟨_, _, _, c3, _, _, _, _⟩ := h.cell
  rcases h.dels.2 with ⟨rfl, h0⟩ | ⟨g, cap, cur, rfl, h1, h2, h3, h4, h5, h6⟩
  · have hd : ds = [] := List.eq_nil_of_length_eq_zero h0
    subst hd
    clear h
    go_enter Try.func78, Try.ntmps78
    go_wp2_with fail
    go_loopw [14] (fun c wr => c = .int .i64 0 ∧ wr = w) (fun _ _ => 0)
    case atStart => exact ⟨rfl, rfl⟩
    case round =>
      obtain ⟨rfl, rfl⟩ := hrel
      go_wp2_with fail
      go_ret
      exact ⟨rfl, Below.refl _ _⟩
  · have HD : Hid (OwnD w base (.slice (some ⟨g, 0, none⟩) ds.length cap) ds) := h.dels
    have hgl : g < w.heap.size := (World.ownsRow.lt h.dels g rfl).2
    clear h h1 h2 h3 h4 h5 h6
    go_enter Try.func78, Try.ntmps78
    go_wp2_with fail
    go_loopw [14] (fun c wr => ∃ k : Nat, k ≤ ds.length ∧ c = .int .i64 k ∧ hides (ds.take k) t a = false ∧ Below w.heap.size w wr) (fun c _ => ds.length - (intOf c).toNat)
    case atStart => exact ⟨0, Nat.zero_le _, rfl, rfl, Below.refl _ _⟩
    case round =>
      obtain ⟨k, hk, rfl, hf, hb⟩ := hrel
      have HF : Hid (hides (ds.take k) t a = false) := hf
      have hs := hb.size
      clear hf c3
      by_cases hlt : k < ds.length
      · obtain ⟨d, hd⟩ : ∃ d, ds[k]? = some d := ⟨_, List.getElem?_eq_getElem hlt⟩
        have hg2 := cellsD_get ds k d hd
        have q0 : wr.cell? ⟨g, k * 2, none⟩ = some (.int .i64 d.1) := by
          rw [hb.cell (p := ⟨g, k * 2, none⟩) hgl]; exact (World.ownsRow.cellAt HD.out (k * 2) (by omega)).trans hg2.1
        have q1 : wr.cell? ⟨g, k * 2 + 1, none⟩ = some (.int .u64 d.2) := by
          rw [hb.cell (p := ⟨g, k * 2 + 1, none⟩) hgl]; exact (World.ownsRow.cellAt HD.out (k * 2 + 1) (by omega)).trans hg2.2
        have HN : Hid (ds[k]? = some d) := hd
        have HT : Hid (hides (ds.take (k + 1)) t a = (decide (d.1 < a) && decide (t ≤ d.2))) := by
          show hides (ds.take (k + 1)) t a = _
          have := HF.out
          unfold hides at *
          rw [List.take_add_one, hd, List.any_append, this]; simp
        clear hg2 hd
        have zk : (k : Int) < (ds.length : Int) := by omega
        by_cases h1 : d.1 < a
        · have z1 : (d.1 : Int) < (a : Int) := by omega
          by_cases h2 : t ≤ d.2
          · have HX : Hid (hides ds t a = true) := by
              show hides ds t a = true
              unfold hides
              rw [List.any_eq_true]
              exact ⟨d, List.mem_of_getElem? HN.out, by simp [h1, h2]⟩
            go_wp2_with fail
            go_ret
            exact ⟨by rw [HX.out]; rfl, (hb.alloc (by omega) _)⟩
          · have HX : Hid (hides (ds.take (k + 1)) t a = false) := by show _ = _; rw [HT.out]; simp [h2]
            go_wp2_with fail
            go_roundw
            case rel => exact ⟨k + 1, by omega, by go_num, HX.out, hb.alloc (by omega) _⟩
            case measure => go_light; simp [intOf]; omega
        · have z1 : ¬ (d.1 : Int) < (a : Int) := by omega
          have HX : Hid (hides (ds.take (k + 1)) t a = false) := by show _ = _; rw [HT.out]; simp [h1]
          go_wp2_with fail
          go_roundw
          case rel => exact ⟨k + 1, by omega, by go_num, HX.out, hb.alloc (by omega) _⟩
          case measure => go_light; simp [intOf]; omega
      · have HX : Hid (hides ds t a = false) := by
          have := HF.out
          rw [List.take_of_length_le (by omega)] at this
          exact this
        go_wp2_with fail
        go_ret
        exact ⟨by rw [HX.out]; rfl, hb⟩
end Go.Proofs.Ytnncedndlhfdkac

/-
  (*impl.merger).take.
-/
namespace Go.Proofs.Ytnncedndlhfdkac
open Go.ChangeShapes Go.WideShapes Go.ChangeAt Go.RowKit Go.Deep
set_option linter.unusedVariables false
set_option linter.unusedSimpArgs false
set_option maxRecDepth 100000

theorem colNe_run (e : Ent) (r f q : ByteArray) (b : Bool) (h : sameCol e ⟨r, f, q, 0, 0, ⟨#[]⟩⟩ = !b) (wx : World) : (binOp .neq 73 (.agg #[.string e.row, .string e.fam, .string e.qual]) (.agg #[.string r, .string f, .string q])).run Try.prog wx = .ok (.bool b) wx := by
  have hb : b = !(sameCol e ⟨r, f, q, 0, 0, ⟨#[]⟩⟩) := by rw [h]; simp
  rw [hb]
  unfold sameCol
  cases h1 : (e.row.toList == r.toList)
  · go_simp
  · cases h2 : (e.fam.toList == f.toList)
    · go_simp
    · cases h3 : (e.qual.toList == q.toList)
      · go_simp
      · go_simp
theorem Try.infoDel : (Try.prog.info? 125).map (fun i => (i.zero, i.size, i.bytes)) = some (some (.agg #[.int .i64 0, .int .u64 0]), 2, 16) := by kernel_rfl

/-- One cell appended, at a step of a region that draws. -/
theorem step_append_cel {ops : Array Oper} {o : Oper} {a : Act} {K : Act → World → Prop} {Q : Exit → Act → World → Prop} {E : Prop} (w : World) (hgd : o.guard = none) (s x : Operand)
    (ho : o.op = .call { callee := .builtin .append, args := #[s, x], argTypes := #[27, 27] })
    (base g cp blk : Nat) (fs : List Ent) (e : Ent) (hs : a.eval s = .slice (some ⟨g, 0, none⟩) fs.length cp) (hx : a.eval x = .slice (some ⟨blk, 0, none⟩) 1 1) (hO : OwnC w base g cp fs)
    (hc : CelsAt w blk 0 [e]) (hlen : fs.length ≤ 2 ^ 30) (hbase : base ≤ w.heap.size)
    (h : ∀ g' cp' w', OwnC w' base g' cp' (fs ++ [e]) → w.grownBy w' (some g) → (g = g' ∨ g' = w.heap.size) → K (a.put o.dst (.slice (some ⟨g', 0, none⟩) (fs.length + 1) cp')) w') : if Region.wanted o (yielded ops a.tmps) = true then Oper.wp Try.prog o a w K Q else E := by
  obtain ⟨i, hi, hz0, hz1, hz2⟩ := info_parts Try.infoCel
  obtain ⟨c0, c1, c2, c3, c4⟩ := hc 0 e rfl
  refine step_append_lies w hgd s x 27 ho base 69 i _ 5 72 Try.underlying27 hi hz0 hz1 hz2 rfl (by decide) (.slice (some ⟨g, 0, none⟩) fs.length cp) fs.length (cellsC fs) hs hO ⟨blk, 0, none⟩ 1 1 (cellsC [e]) hx rfl ?_ ?_ (by decide) ?_ ?_ hbase w.heap.size rfl ?_
  · intro j u hu
    have hj : j < 5 := by
      have := (List.getElem?_eq_some_iff.1 hu).1
      rw [length_cellsC] at this
      simpa using this
    rw [Addr.add_mid, Nat.zero_add]
    simp only [Nat.zero_mul, Nat.zero_add] at c0 c1 c2 c3 c4
    match j, hj, hu with
    | 0, _, hu => simp [cellsC] at hu; rw [← hu]; exact c0
    | 1, _, hu => simp [cellsC] at hu; rw [← hu]; exact c1
    | 2, _, hu => simp [cellsC] at hu; rw [← hu]; exact c2
    | 3, _, hu => simp [cellsC] at hu; rw [← hu]; exact c3
    | 4, _, hu => simp [cellsC] at hu; rw [← hu]; exact c4
  · intro u hu
    simp [cellsC] at hu
    rcases hu with rfl | rfl | rfl | rfl | rfl <;> rfl
  · unfold maxLen; omega
  · omega
  · intro g' cp' w' hO' hgr hat hlt
    refine h g' cp' w' ?_ hgr ?_
    · unfold OwnC
      rw [List.length_append, cellsC_append]
      exact hO'
    · rcases hat with q | q
      · exact .inl (by simpa [Value.ownBlock] using q)
      · exact .inr q

/-- One delete appended, at a step of a region that draws. -/
theorem step_append_del {ops : Array Oper} {o : Oper} {a : Act} {K : Act → World → Prop} {Q : Exit → Act → World → Prop} {E : Prop} (w : World) (hgd : o.guard = none) (s x : Operand)
    (ho : o.op = .call { callee := .builtin .append, args := #[s, x], argTypes := #[74, 74] })
    (base blk : Nat) (dv : Value) (ds : List (Nat × Int)) (ag : Nat) (t : Int) (hs : a.eval s = dv) (hx : a.eval x = .slice (some ⟨blk, 0, none⟩) 1 1) (hO : OwnD w base dv ds)
    (h0 : w.cell? ⟨blk, 0, none⟩ = some (.int .i64 ag)) (h1 : w.cell? ⟨blk, 1, none⟩ = some (.int .u64 t)) (hlen : ds.length ≤ 2 ^ 30) (hbase : base ≤ w.heap.size)
    (h : ∀ g' cp' w', OwnD w' base (.slice (some ⟨g', 0, none⟩) (ds.length + 1) cp') (ds ++ [(ag, t)]) → w.grownBy w' dv.ownBlock → (dv.ownBlock = some g' ∨ g' = w.heap.size) → K (a.put o.dst (.slice (some ⟨g', 0, none⟩) (ds.length + 1) cp')) w') : if Region.wanted o (yielded ops a.tmps) = true then Oper.wp Try.prog o a w K Q else E := by
  obtain ⟨i, hi, hz0, hz1, hz2⟩ := info_parts Try.infoDel
  refine step_append_lies w hgd s x 74 ho base 125 i _ 2 16 Try.underlying74 hi hz0 hz1 hz2 rfl (by decide) dv ds.length (cellsD ds) hs hO ⟨blk, 0, none⟩ 1 1 (cellsD [(ag, t)]) hx rfl ?_ ?_ (by decide) ?_ ?_ hbase w.heap.size rfl ?_
  · intro j u hu
    have hj : j < 2 := by
      have := (List.getElem?_eq_some_iff.1 hu).1
      rw [cellsD_len] at this
      simpa using this
    rw [Addr.add_mid, Nat.zero_add]
    match j, hj, hu with
    | 0, _, hu => simp [cellsD] at hu; rw [← hu]; exact h0
    | 1, _, hu => simp [cellsD] at hu; rw [← hu]; exact h1
  · intro u hu
    simp [cellsD] at hu
    rcases hu with rfl | rfl <;> rfl
  · unfold maxLen; omega
  · omega
  · intro g' cp' w' hO' hgr hat hlt
    refine h g' cp' w' ?_ hgr hat
    unfold OwnD
    rw [List.length_append, cellsD_append]
    exact hO'

/-- What the merger has behind 'P', with its memory. -/
structure MInv (S : Nat → Prop) (base mb : Nat) (P : List (Nat × Ent)) (w : World) (c : ByteArray × ByteArray × ByteArray) (dv : Value) (ds : List (Nat × Int)) (dec : Bool) (ts : Int) (cg cc : Nat) (L : List Ent) : Prop where
  at_ : MgAt w base mb c dv ds dec ts cg cc L
  mem : Mem P c ds dec ts
  shown : Shown P L
  out : ∀ k, Mine mb dv cg k → ¬ S k
  short : L.length ≤ P.length

def MSt (S : Nat → Prop) (base mb : Nat) (P : List (Nat × Ent)) (w : World) (c : ByteArray × ByteArray × ByteArray) : Prop := ∃ dv ds dec ts cg cc L, MInv S base mb P w c dv ds dec ts cg cc L
theorem MSt.below {S : Nat → Prop} {base mb : Nat} {P : List (Nat × Ent)} {w w' : World} {c : ByteArray × ByteArray × ByteArray} (h : MSt S base mb P w c) (hb : Below w.heap.size w w') : MSt S base mb P w' c := by
  obtain ⟨dv, ds, dec, ts, cg, cc, L, hR⟩ := h
  exact ⟨dv, ds, dec, ts, cg, cc, L, ⟨hR.at_.below hb, hR.mem, hR.shown, hR.out, hR.short⟩⟩

theorem mg_cells {w : World} {base mb : Nat} {c : ByteArray × ByteArray × ByteArray} {dv old : Value} {ds : List (Nat × Int)} {dec : Bool} {ts : Int} {cg' cc' : Nat} {L' : List Ent} (ho : OwnM w base mb [.string c.1, .string c.2.1, .string c.2.2, dv, .bool dec, .int .u64 ts, old]) (hd : OwnD w base dv ds) (hc : OwnC w base cg' cc' L') :
    MgAt (w.setCell ⟨mb, 6, none⟩ (.slice (some ⟨cg', 0, none⟩) L'.length cc')) base mb c dv ds dec ts cg' cc' L' :=
  ⟨(World.ownsRow.stored ho 6 _).1, own_chg hd (Chg.of_set (S := fun k => k = mb) w mb 6 _ rfl) (fun k hk q => own_apart hd ho (by decide) k hk (by rw [q]; rfl)), own_chg hc (Chg.of_set (S := fun k => k = mb) w mb 6 _ rfl) (fun k hk q => own_apart hc ho (by decide) k hk (by rw [q]; rfl))⟩
theorem mg_dels {w : World} {base mb : Nat} {c : ByteArray × ByteArray × ByteArray} {old dv' : Value} {ds' : List (Nat × Int)} {dec : Bool} {ts : Int} {cg cc : Nat} {L : List Ent} (ho : OwnM w base mb [.string c.1, .string c.2.1, .string c.2.2, old, .bool dec, .int .u64 ts, .slice (some ⟨cg, 0, none⟩) L.length cc]) (hd : OwnD w base dv' ds') (hc : OwnC w base cg cc L) :
    MgAt (w.setCell ⟨mb, 3, none⟩ dv') base mb c dv' ds' dec ts cg cc L :=
  ⟨(World.ownsRow.stored ho 3 _).1, own_chg hd (Chg.of_set (S := fun k => k = mb) w mb 3 _ rfl) (fun k hk q => own_apart hd ho (by decide) k hk (by rw [q]; rfl)), own_chg hc (Chg.of_set (S := fun k => k = mb) w mb 3 _ rfl) (fun k hk q => own_apart hc ho (by decide) k hk (by rw [q]; rfl))⟩
theorem put_fin {S : Nat → Prop} {base mb : Nat} {P : List (Nat × Ent)} {a : Nat} {e : Ent} {dv : Value} {ds : List (Nat × Int)} {cg cc : Nat} {L : List Ent} {w5 w6 w7 : World} {g7 cp7 : Nat} (hM : MgAt w5 base mb e.col dv ds true e.ts cg cc L) (hq : Below w5.heap.size w5 w6) (hO : OwnC w7 base g7 cp7 (L ++ [e]))
    (hgr : (w6.alloc (Obj.cells #[.string e.row, .string e.fam, .string e.qual, .int .u64 e.ts, .string e.val] 69)).grownBy w7 (some cg)) (hgg : cg = g7 ∨ g7 = (w6.alloc (Obj.cells #[.string e.row, .string e.fam, .string e.qual, .int .u64 e.ts, .string e.val] 69)).heap.size)
    (hmem : Mem (P ++ [(a, e)]) e.col ds true e.ts) (hsh : Shown (P ++ [(a, e)]) (L ++ [e])) (hout : ∀ k, Mine mb dv cg k → ¬ S k) (hin : ∀ k, S k → k < w5.heap.size) (hsl : L.length ≤ P.length) :
    MSt S base mb (P ++ [(a, e)]) (w7.setCell ⟨mb, 6, none⟩ (.slice (some ⟨g7, 0, none⟩) (L.length + 1) cp7)) e.col ∧ Chg (Mine mb dv cg) w5 (w7.setCell ⟨mb, 6, none⟩ (.slice (some ⟨g7, 0, none⟩) (L.length + 1) cp7)) := by
  have hbA : Below w6.heap.size w6 (w6.alloc (Obj.cells #[.string e.row, .string e.fam, .string e.qual, .int .u64 e.ts, .string e.val] 69)) := (Below.refl _ _).alloc (Nat.le_refl _) _
  generalize w6.alloc (Obj.cells #[.string e.row, .string e.fam, .string e.qual, .int .u64 e.ts, .string e.val] 69) = wA at *
  have hb : Below w5.heap.size w5 wA := hq.trans (hbA.mono hq.size)
  have hsA := hb.size
  have hMA := hM.below hb
  have hc7 : Chg (fun k => k = cg) wA w7 := Chg.of_grown hgr (fun k hk => by cases hk; rfl)
  have ho7 := own_chg hMA.own hc7 (fun k hk q => by simp [Value.ownBlock] at hk; subst hk; exact hMA.apart.2.1 q.symm)
  have hd7 := own_chg hMA.dels hc7 (fun k hk q => hMA.apart.2.2 k hk q)
  have hfin := mg_cells (c := e.col) (dec := true) (ts := e.ts) ho7 hd7 hO
  rw [List.length_append] at hfin
  refine ⟨⟨dv, ds, true, e.ts, g7, cp7, L ++ [e], ⟨hfin, hmem, hsh, ?_, by simp; exact hsl⟩⟩, ?_⟩
  · rintro k (rfl | q | rfl) hS
    · exact hout k (.inl rfl) hS
    · exact hout k (.inr (.inl q)) hS
    · rcases hgg with q | q
      · exact hout k (.inr (.inr q.symm)) hS
      · have := hin k hS
        omega
  · exact ((Chg.of_below hb).trans (hc7.mono (fun k q => .inr (.inr q)))).trans (Chg.of_set _ _ _ _ (.inl rfl))

theorem del_fin {S : Nat → Prop} {base mb : Nat} {P : List (Nat × Ent)} {a : Nat} {e : Ent} {dv : Value} {ds : List (Nat × Int)} {dec : Bool} {ts : Int} {cg cc : Nat} {L : List Ent} {w5 wA w7 : World} {g7 cp7 : Nat} (hM : MgAt w5 base mb e.col dv ds dec ts cg cc L) (hb : Below w5.heap.size w5 wA) (hO : OwnD w7 base (.slice (some ⟨g7, 0, none⟩) (ds.length + 1) cp7) (ds ++ [(a, e.ts)]))
    (hgr : wA.grownBy w7 dv.ownBlock) (hgg : dv.ownBlock = some g7 ∨ g7 = wA.heap.size)
    (hmem : Mem (P ++ [(a, e)]) e.col (ds ++ [(a, e.ts)]) dec ts) (hsh : Shown (P ++ [(a, e)]) L) (hout : ∀ k, Mine mb dv cg k → ¬ S k) (hin : ∀ k, S k → k < w5.heap.size) (hsl : L.length ≤ P.length) :
    MSt S base mb (P ++ [(a, e)]) (w7.setCell ⟨mb, 3, none⟩ (.slice (some ⟨g7, 0, none⟩) (ds.length + 1) cp7)) e.col ∧ Chg (Mine mb dv cg) w5 (w7.setCell ⟨mb, 3, none⟩ (.slice (some ⟨g7, 0, none⟩) (ds.length + 1) cp7)) ∧ w7.cell? ⟨mb, 3, none⟩ = some dv ∧ w7.frozen? ⟨mb, 3, none⟩ = false := by
  have hsA := hb.size
  have hMA := hM.below hb
  have hc7 : Chg (fun k => dv.ownBlock = some k) wA w7 := Chg.of_grown hgr (fun k hk => hk)
  have ho7 : OwnM w7 base mb [.string e.col.1, .string e.col.2.1, .string e.col.2.2, dv, .bool dec, .int .u64 ts, .slice (some ⟨cg, 0, none⟩) L.length cc] := own_chg hMA.own hc7 (fun k hk q => by simp [Value.ownBlock] at hk; subst hk; exact hMA.apart.1 mb q rfl)
  have hd7 : OwnC w7 base cg cc L := own_chg hMA.cells hc7 (fun k hk q => by simp [Value.ownBlock] at hk; subst hk; exact hMA.apart.2.2 cg q rfl)
  have hfin := mg_dels ho7 hO hd7
  refine ⟨⟨_, ds ++ [(a, e.ts)], dec, ts, cg, cc, L, ⟨hfin, hmem, hsh, ?_, by simp; omega⟩⟩, ?_, World.ownsRow.cellAt ho7 3 (by decide), World.ownsRow.frozenAt ho7 3⟩
  · rintro k (rfl | q | rfl) hS
    · exact hout k (.inl rfl) hS
    · simp [Value.ownBlock] at q
      subst q
      rcases hgg with q | q
      · exact hout g7 (.inr (.inl q)) hS
      · have := hin g7 hS
        omega
    · exact hout k (.inr (.inr rfl)) hS
  · exact ((Chg.of_below hb).trans (hc7.mono (fun k q => .inr (.inl q)))).trans (Chg.of_set _ _ _ _ (.inl rfl))

end Go.Proofs.Ytnncedndlhfdkac

