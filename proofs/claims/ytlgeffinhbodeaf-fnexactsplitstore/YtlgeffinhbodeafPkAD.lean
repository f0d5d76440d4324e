import Derived.Test.YtlgeffinhbodeafPkAC
import Derived.Test.YtlgeffinhbodeafPkAB
/-
  slices.BinarySearchFunc over entries; impl.firstAt, impl.entriesIn.
-/
namespace Go.Proofs.Ytlgeffinhbodeaf
open Go.ChangeShapes Go.WideShapes Go.ChangeAt Go.RowKit Go.Deep
set_option linter.unusedVariables false
set_option linter.unusedSimpArgs false
set_option maxRecDepth 100000

/-- Up to 'i' the entries stand before the key, from there on they don't. -/
def CutAt (es : List Ent) (k : Ent) (i : Nat) : Prop := i ≤ es.length ∧ (∀ (t : Nat) (x : Ent), t < i → es[t]? = some x → keyCmp x k = -1) ∧ (∀ (t : Nat) (x : Ent), i ≤ t → es[t]? = some x → ¬ keyCmp x k = -1)

set_option maxHeartbeats 4000000 in
theorem bsearch_core (b off cap : Nat) (es : List Ent) (e : Ent) (w : World) (hE : EntsAt w b off es) (hB : b < w.heap.size) (hlen : es.length ≤ 1048576)
    (hmono : ∀ (i j : Nat) (x y : Ent), i ≤ j → es[i]? = some x → es[j]? = some y → keyCmp y e = -1 → keyCmp x e = -1) :
    Calls Try.prog 126 #[.slice (some ⟨b, off, none⟩) es.length cap, .agg #[.string e.row, .string e.fam, .string e.qual, .int .u64 e.ts, .int .i64 e.kind, .string e.val], .func (.func 127) #[] #[]] w fun r w' =>
      ∃ (i : Nat) (f : Value), r = .returned (.tuple #[.int .i64 i, f]) ∧ CutAt es e i ∧ Below w.heap.size w w' := by
  obtain ⟨W0, hW0⟩ : ∃ W0 : World, W0 = w.alloc (Obj.cells #[.string e.row, .string e.fam, .string e.qual, .int .u64 e.ts, .int .i64 e.kind, .string e.val] 106) := ⟨_, rfl⟩
  have hb0 : Below w.heap.size w W0 := by rw [hW0]; exact (Below.refl _ _).alloc (Nat.le_refl _) _
  have hz0 : w.heap.size < W0.heap.size := by rw [hW0]; simp
  have HE : Hid (EntsAt W0 b off es) := hE.below hb0 hB
  have HX : Hid (EntsAt W0 w.heap.size 0 [e]) := by show EntsAt W0 w.heap.size 0 [e]; rw [hW0]; exact ent_box w e
  have HM : Hid (∀ (i j : Nat) (x y : Ent), i ≤ j → es[i]? = some x → es[j]? = some y → keyCmp y e = -1 → keyCmp x e = -1) := hmono
  clear hE hmono
  go_enter Try.func126, Try.ntmps126
  go_wp2_with fail
  rw [← hW0]
  clear hW0
  go_loopw [9, 10] (fun i j wr => ∃ lo hi : Nat, i = .int .i64 lo ∧ j = .int .i64 hi ∧ lo ≤ hi ∧ hi ≤ es.length ∧ (∀ (t : Nat) (x : Ent), t < lo → es[t]? = some x → keyCmp x e = -1) ∧ (∀ (t : Nat) (x : Ent), hi ≤ t → es[t]? = some x → ¬ keyCmp x e = -1) ∧ Below W0.heap.size W0 wr) (fun i j _ => (intOf j).toNat - (intOf i).toNat)
  case atStart => exact ⟨0, es.length, rfl, rfl, Nat.zero_le _, Nat.le_refl _, fun t x ht => by omega, fun t x ht hx => by have := (List.getElem?_eq_some_iff.1 hx).1; omega, Below.refl _ _⟩
  case round =>
    obtain ⟨lo, hi, rfl, rfl, hlh, hhi, hA, hZ, hb⟩ := hrel
    have HA : Hid ((∀ (t : Nat) (x : Ent), t < lo → es[t]? = some x → keyCmp x e = -1) ∧ (∀ (t : Nat) (x : Ent), hi ≤ t → es[t]? = some x → ¬ keyCmp x e = -1)) := ⟨hA, hZ⟩
    have hs := hb.size
    clear hA hZ
    by_cases hlt : lo < hi
    · have zl : (lo : Int) < (hi : Int) := by omega
      go_upto_region 5 with fail
      obtain ⟨m, hm⟩ : ∃ m : Nat, m = (lo + hi) / 2 := ⟨_, rfl⟩
      have em : ((lo : Int) + (hi : Int)) / 2 = (m : Int) := by omega
      have hm1 : lo ≤ m := by omega
      have hm2 : m < hi := by omega
      rw [em]
      clear em hm
      obtain ⟨v, hv⟩ : ∃ v, es[m]? = some v := ⟨_, List.getElem?_eq_getElem (by omega)⟩
      obtain ⟨q0, q1, q2, q3, q4, q5⟩ := ents_out (HE.out.below hb (by omega)) (by omega) hv
      obtain ⟨r0, r1, r2, r3, r4, r5⟩ := ents_out (HX.out.below hb (by omega)) (by omega) (rfl : [e][0]? = some e)
      simp only [Nat.zero_add, Nat.zero_mul] at q0 q1 q2 q3 q4 q5 r0 r1 r2 r3 r4 r5
      have HV : Hid (es[m]? = some v) := hv
      clear hv
      have inh : Nonempty (Out wr) := ⟨⟨wr, Below.refl _ _⟩⟩
      have zm : (m : Int) < (es.length : Int) := by omega
      refine wp_region_out (by kernel_rfl) (by kernel_rfl) ?_
      repeat (go_big_quiet_step ((go_at_call 127; exact Calls.out_of (compare_any v e _))))
      refine wpQuiet_nil ?_
      rintro wy ⟨⟨wx, hby⟩, rfl⟩
      have hb2 : Below W0.heap.size W0 wy := hb.trans (hby.mono hs)
      clear q0 q1 q2 q3 q4 q5 r0 r1 r2 r3 r4 r5
      by_cases hk : keyCmp v e < 0
      · have HK : Hid (keyCmp v e = -1) := by
          rcases keyCmp_vals v e with h | h | h
          · exact h
          · omega
          · omega
        have HN : Hid (∀ (t : Nat) (x : Ent), t < m + 1 → es[t]? = some x → keyCmp x e = -1) := fun t x ht hx => HM.out t m x v (by omega) hx HV.out HK.out
        go_wp2_with fail
        go_roundw
        case rel => exact ⟨m + 1, hi, by go_num, rfl, by omega, hhi, HN.out, HA.out.2, hb2⟩
        case measure => go_light; simp [intOf]; omega
      · have HN : Hid (∀ (t : Nat) (x : Ent), m ≤ t → es[t]? = some x → ¬ keyCmp x e = -1) := fun t x ht hx q => by
          have := HM.out m t v x ht HV.out hx q
          omega
        go_wp2_with fail
        go_roundw
        case rel => exact ⟨lo, m, rfl, rfl, hm1, by omega, HA.out.1, HN.out, hb2⟩
        case measure => go_light; simp [intOf]; omega
    · obtain rfl : lo = hi := by omega
      have HC : Hid (CutAt es e lo) := ⟨hhi, HA.out.1, HA.out.2⟩
      have hbw : Below w.heap.size w wr := hb0.trans (hb.mono (by omega))
      have zl : ¬ (lo : Int) < (lo : Int) := by omega
      by_cases hn : lo < es.length
      · obtain ⟨v, hv⟩ : ∃ v, es[lo]? = some v := ⟨_, List.getElem?_eq_getElem hn⟩
        have zm : (lo : Int) < (es.length : Int) := by omega
        go_upto_region 8 with fail
        obtain ⟨q0, q1, q2, q3, q4, q5⟩ := ents_out (HE.out.below hb (by omega)) (by omega) hv
        obtain ⟨r0, r1, r2, r3, r4, r5⟩ := ents_out (HX.out.below hb (by omega)) (by omega) (rfl : [e][0]? = some e)
        simp only [Nat.zero_add, Nat.zero_mul] at q0 q1 q2 q3 q4 q5 r0 r1 r2 r3 r4 r5
        clear hv
        have inh : Nonempty (Out wr) := ⟨⟨wr, Below.refl _ _⟩⟩
        refine wp_region_out (by kernel_rfl) (by kernel_rfl) ?_
        repeat (go_big_quiet_step ((go_at_call 127; exact Calls.out_of (compare_any v e _))))
        refine wpQuiet_nil ?_
        rintro wy ⟨⟨wx, hby⟩, rfl⟩
        go_wp2_with fail
        go_ret2
        first | exact ⟨lo, _, rfl, HC.out, hbw.trans (hby.mono (by have := hbw.size; omega))⟩ | exact ⟨lo, ⟨_, rfl⟩, HC.out, hbw.trans (hby.mono (by have := hbw.size; omega))⟩
      · have zm : ¬ (lo : Int) < (es.length : Int) := by omega
        go_upto_region 8 with fail
        have inh : Nonempty (Out wr) := ⟨⟨wr, Below.refl _ _⟩⟩
        refine wp_region_out (by kernel_rfl) (by kernel_rfl) ?_
        repeat (go_big_quiet_step (fail))
        refine wpQuiet_nil ?_
        rintro wy ⟨⟨wx, hby⟩, rfl⟩
        go_wp2_with fail
        go_ret2
        first | exact ⟨lo, _, rfl, HC.out, hbw.trans (hby.mono (by have := hbw.size; omega))⟩ | exact ⟨lo, ⟨_, rfl⟩, HC.out, hbw.trans (hby.mono (by have := hbw.size; omega))⟩

/-- It stands before every valid entry of the row. -/
def lstE (row : ByteArray) : Ent := ⟨row, ⟨#[]⟩, ⟨#[]⟩, 18446744073709551615, 2, ⟨#[]⟩⟩
theorem cB_empty {a : ByteArray} (h : 1 ≤ a.size) : cB a ⟨#[]⟩ = 1 := by
  obtain ⟨⟨l⟩⟩ := a
  cases l with
  | nil => simp [ByteArray.size] at h
  | cons x l => simp [cB, Lib.compareBytes]
theorem cB_less_iff (a b : ByteArray) : Op.bytesLess a.toList b.toList = true ↔ cB a b = -1 := by
  constructor
  · exact cB_less
  · intro h
    cases hl : Op.bytesLess a.toList b.toList
    · cases he : (a.toList == b.toList)
      · have := cB_more hl he
        omega
      · have : a = b := toList_inj (by simpa using he)
        subst this
        have := cB_zero.2 (rfl : a = a)
        omega
    · rfl
theorem least_iff {x : Ent} (hv : x.vld = true) (row : ByteArray) : keyCmp x (lstE row) = -1 ↔ Op.bytesLess x.row.toList row.toList = true := by
  have hf : 1 ≤ x.fam.size := by
    unfold Ent.vld vE at hv
    have := of_decide_eq_true hv
    omega
  rw [cB_less_iff]
  unfold keyCmp lstE firstOf
  simp only [cB_empty hf]
  by_cases h : cB x.row row = 0
  · simp [h]
  · simp [h]
/-- Where a row begins. -/
def RowAt (es : List Ent) (row : ByteArray) (i : Nat) : Prop := i ≤ es.length ∧ ∀ (t : Nat) (x : Ent), es[t]? = some x → (t < i ↔ Op.bytesLess x.row.toList row.toList = true)
theorem rowAt_of {es : List Ent} (hg : GoodR es) {row : ByteArray} {i : Nat} (h : CutAt es (lstE row) i) : RowAt es row i := by
  refine ⟨h.1, fun t x hx => ?_⟩
  have hv := hg.1.2 x (List.mem_of_getElem? hx)
  rw [← least_iff hv]
  constructor
  · intro ht; exact h.2.1 t x ht hx
  · intro hk
    by_cases ht : t < i
    · exact ht
    · exact absurd hk (h.2.2 t x (by omega) hx)

set_option maxHeartbeats 1000000 in
theorem firstAt_core (r : Rm) (row : ByteArray) (w : World) (hr : r.at w) (hg : GoodR r.es) :
    Calls Try.prog 103 #[.agg #[.slice (some ⟨r.b, r.off, none⟩) r.es.length r.cap], .string row] w fun e w' =>
      ∃ i : Nat, e = .returned (.int .i64 i) ∧ RowAt r.es row i ∧ Below w.heap.size w w' := by
  obtain ⟨rb, ro, rc, es⟩ := r
  simp only at *
  obtain ⟨Wa, hWa⟩ : ∃ Wa : World, Wa = w.alloc (Obj.cells #[.slice (some ⟨rb, ro, none⟩) es.length rc] 101) := ⟨_, rfl⟩
  obtain ⟨W0, hW0⟩ : ∃ W0 : World, W0 = Wa.alloc (Obj.cells #[.string row, .string ⟨#[]⟩, .string ⟨#[]⟩, .int .u64 18446744073709551615, .int .i64 2, .string ⟨#[]⟩] 106) := ⟨_, rfl⟩
  have hba : Below w.heap.size w Wa := by rw [hWa]; exact (Below.refl _ _).alloc (Nat.le_refl _) _
  have hza : Wa.heap.size = w.heap.size + 1 := by rw [hWa]; simp
  have hbb : Below Wa.heap.size Wa W0 := by rw [hW0]; exact (Below.refl _ _).alloc (Nat.le_refl _) _
  have HR : Hid (EntsAt W0 rb ro es ∧ rb < W0.heap.size) := ⟨(hr.below hba).ents.below hbb (hr.below hba).lt, ((hr.below hba).below hbb).lt⟩
  have hb0 : Below w.heap.size w W0 := hba.trans (hbb.mono (by omega))
  have hL : es.length ≤ 1048576 := by have := hg.1.1; omega
  have HG : Hid (GoodR es) := hg
  have HM : Hid (∀ (i j : Nat) (x y : Ent), i ≤ j → es[i]? = some x → es[j]? = some y → keyCmp y (lstE row) = -1 → keyCmp x (lstE row) = -1) := by
    intro i j x y hij hx hy hk
    by_cases h : i = j
    · subst h; rw [hx] at hy; simp at hy; subst hy; exact hk
    · exact keyCmp_trans (ord_get (ord_of_good hg) (by omega) hx hy) hk
  clear hr hg
  go_enter Try.func103, Try.ntmps103
  go_wp2_with fail
  rw [← hWa, ← hW0]
  clear hWa hW0
  refine (bsearch_core rb ro rc es (lstE row) _ HR.out.1 HR.out.2 hL HM.out).mono ?_
  rintro e w1 ⟨i, f, rfl, hc, hb1⟩
  have HC : Hid (RowAt es row i) := rowAt_of HG.out hc
  have hbw := hb0.trans (hb1.mono hb0.size)
  clear hc hb1
  go_wp2_with fail
  go_ret
  exact ⟨i, rfl, HC.out, hbw⟩
end Go.Proofs.Ytlgeffinhbodeaf

/-
  impl.entriesIn.
-/
namespace Go.Proofs.Ytlgeffinhbodeaf
open Go.ChangeShapes Go.WideShapes Go.ChangeAt Go.RowKit Go.Deep
set_option linter.unusedVariables false
set_option linter.unusedSimpArgs false
set_option maxRecDepth 100000

/-- A part of a run. -/
def Rm.part (r : Rm) (i n : Nat) : Rm := ⟨r.b, r.off + i * 6, r.cap - i, (r.es.drop i).take n⟩
theorem Rm.at.part {w : World} {r : Rm} (h : r.at w) {i n : Nat} (hi : i + n ≤ r.es.length) : (r.part i n).at w := by
  refine ⟨?_, h.lt, ?_, ?_⟩
  · intro j e he
    show _ ∧ _
    simp only [Rm.part] at he ⊢
    rw [List.getElem?_take] at he
    by_cases hj : j < n
    · rw [if_pos hj, List.getElem?_drop] at he
      have := h.ents (i + j) e he
      rw [show r.off + (i + j) * 6 = r.off + i * 6 + j * 6 by omega] at this
      exact this
    · rw [if_neg hj] at he; cases he
  · have := h.len
    simp [Rm.part]; omega
  · have := h.cap
    simp only [Rm.part]
    omega
theorem part_len {r : Rm} {i n : Nat} (hi : i + n ≤ r.es.length) : (r.part i n).es.length = n := by simp [Rm.part]; omega
theorem mem_part {r : Rm} {i n : Nat} {x : Ent} : x ∈ (r.part i n).es ↔ ∃ t, i ≤ t ∧ t < i + n ∧ r.es[t]? = some x := by
  constructor
  · intro h
    obtain ⟨j, hj⟩ := List.getElem?_of_mem h
    simp only [Rm.part] at hj
    rw [List.getElem?_take] at hj
    by_cases hn : j < n
    · rw [if_pos hn, List.getElem?_drop] at hj
      exact ⟨i + j, by omega, by omega, hj⟩
    · rw [if_neg hn] at hj; cases hj
  · rintro ⟨t, h1, h2, h3⟩
    refine List.mem_of_getElem? (i := t - i) ?_
    simp only [Rm.part]
    rw [List.getElem?_take, if_pos (by omega), List.getElem?_drop, show i + (t - i) = t by omega]
    exact h3
/-- What of a run lies in a range. -/
structure PartOf (r p : Rm) (lo : ByteArray) (hh : Bool) (hi : ByteArray) : Prop where
  blk : p.b = r.b
  ord : Ord p.es
  mem : ∀ x, x ∈ p.es ↔ x ∈ r.es ∧ inR lo hh hi x.row = true
  len : p.es.length ≤ r.es.length
theorem part_of {r : Rm} (hg : GoodR r.es) {lo hi : ByteArray} {hh : Bool} {i j : Nat} (h1 : RowAt r.es lo i) (h2 : (hh = true → RowAt r.es hi j) ∧ (hh = false → j = r.es.length)) : PartOf r (r.part i (max i j - i)) lo hh hi := by
  refine ⟨rfl, ?_, fun x => ?_, ?_⟩
  · exact ((ord_of_good hg).drop (i := i)).take
  · rw [mem_part]
    constructor
    · rintro ⟨t, a1, a2, a3⟩
      refine ⟨List.mem_of_getElem? a3, ?_⟩
      unfold inR
      have b1 : Op.bytesLess x.row.toList lo.toList = false := by
        cases hb : Op.bytesLess x.row.toList lo.toList
        · rfl
        · have := (h1.2 t x a3).2 hb; omega
      rw [b1]
      cases hh
      · rfl
      · have := (h2.1 rfl).2 t x a3
        rw [this.1 (by omega)]; rfl
    · rintro ⟨hx, hr⟩
      obtain ⟨t, ht⟩ := List.getElem?_of_mem hx
      have hl := (List.getElem?_eq_some_iff.1 ht).1
      unfold inR at hr
      rw [Bool.and_eq_true] at hr
      have c1 : i ≤ t := by
        by_cases q : t < i
        · have := (h1.2 t x ht).1 q
          rw [this] at hr
          simp at hr
        · omega
      have c2 : t < j := by
        cases hh
        · have := h2.2 rfl; omega
        · refine ((h2.1 rfl).2 t x ht).2 ?_
          simpa using hr.2
      exact ⟨t, c1, by omega, ht⟩
  · simp [Rm.part]; omega
/-- Where the part of a run lies. -/
def WhereP (r p : Rm) (lo : ByteArray) : Prop := ∃ i, RowAt r.es lo i ∧ p.off = (if r.cap = i then r.off else r.off + i * 6) ∧ p.cap = r.cap - i

set_option maxHeartbeats 2000000 in
theorem entriesIn_at (r : Rm) (lo hi : ByteArray) (hh : Bool) (w : World) (hr : r.at w) (hg : GoodR r.es) :
    Calls Try.prog 68 #[.agg #[.slice (some ⟨r.b, r.off, none⟩) r.es.length r.cap], .agg #[.string lo, .bool hh, .string hi]] w fun e w' =>
      ∃ p : Rm, e = .returned (.slice (some ⟨p.b, p.off, none⟩) p.es.length p.cap) ∧ p.at w' ∧ PartOf r p lo hh hi ∧ Below w.heap.size w w' ∧ WhereP r p lo := by
  have HR : Hid (r.at w ∧ GoodR r.es) := ⟨hr, hg⟩
  have hL : r.es.length ≤ 1048576 := by have := hg.1.1; omega
  have hcl := hr.len
  have hcm := hr.cap
  unfold maxLen at hcm
  clear hr hg
  obtain ⟨Wa, hWa⟩ : ∃ Wa : World, Wa = w.alloc (Obj.cells #[.slice (some ⟨r.b, r.off, none⟩) r.es.length r.cap] 101) := ⟨_, rfl⟩
  obtain ⟨W0, hW0⟩ : ∃ W0 : World, W0 = Wa.alloc (Obj.cells #[.string lo, .bool hh, .string hi] 63) := ⟨_, rfl⟩
  have hba : Below w.heap.size w Wa := by rw [hWa]; exact (Below.refl _ _).alloc (Nat.le_refl _) _
  have hza : Wa.heap.size = w.heap.size + 1 := by rw [hWa]; simp
  have hbb : Below Wa.heap.size Wa W0 := by rw [hW0]; exact (Below.refl _ _).alloc (Nat.le_refl _) _
  have hz0 : W0.heap.size = w.heap.size + 1 + 1 := by rw [hW0]; simp [hza]
  have hb0 : Below w.heap.size w W0 := hba.trans (hbb.mono (by omega))
  have HC : Hid (∀ wx, Below W0.heap.size W0 wx → wx.cell? ⟨w.heap.size, 0, none⟩ = some (.slice (some ⟨r.b, r.off, none⟩) r.es.length r.cap) ∧ wx.cell? ⟨w.heap.size + 1, 1, none⟩ = some (.bool hh) ∧ wx.cell? ⟨w.heap.size + 1, 2, none⟩ = some (.string hi) ∧ r.at wx) := by
    intro wx hb
    have hat : r.at wx := ((HR.out.1.below hba).below hbb).below hb
    rw [hb.cell (p := ⟨w.heap.size, 0, none⟩) (by show w.heap.size < W0.heap.size; omega), hb.cell (p := ⟨w.heap.size + 1, 1, none⟩) (by show w.heap.size + 1 < W0.heap.size; omega), hb.cell (p := ⟨w.heap.size + 1, 2, none⟩) (by show w.heap.size + 1 < W0.heap.size; omega)]
    refine ⟨?_, ?_, ?_, hat⟩
    · rw [hbb.cell (p := ⟨w.heap.size, 0, none⟩) (by show w.heap.size < Wa.heap.size; omega), hWa]; simp
    · rw [hW0, ← hza]; simp
    · rw [hW0, ← hza]; simp
  have HA0 : Hid (r.at W0) := (HR.out.1.below hba).below hbb
  go_enter Try.func68, Try.ntmps68
  go_wp2_with fail
  rw [← hWa, ← hW0]
  clear hWa hW0
  refine (firstAt_core r lo _ HA0.out HR.out.2).mono ?_
  rintro e w1 ⟨i, rfl, hi1, hb1⟩
  have HI : Hid (RowAt r.es lo i) := hi1
  have hil := hi1.1
  clear hi1
  obtain ⟨c0, c1, c2, hat⟩ := HC.out w1 hb1
  have HA1 : Hid (r.at w1) := hat
  have hs1 := hb1.size
  clear hat
  have fin : ¬ r.cap = i → ∀ (j : Nat) (wx : World), Below W0.heap.size W0 wx → ((hh = true → RowAt r.es hi j) ∧ (hh = false → j = r.es.length)) → ∃ p : Rm, Ending.returned (Value.slice (some ⟨r.b, r.off + i * 6, none⟩) ((max (i : Int) (j : Int)).toNat - i) (r.cap - i)) = .returned (.slice (some ⟨p.b, p.off, none⟩) p.es.length p.cap) ∧ p.at wx ∧ PartOf r p lo hh hi ∧ Below w.heap.size w wx ∧ WhereP r p lo := by
    intro hci j wx hb hj
    have hjl : j ≤ r.es.length := by
      cases hh
      · rw [hj.2 rfl]; exact Nat.le_refl _
      · exact (hj.1 rfl).1
    refine ⟨r.part i (max i j - i), ?_, (HC.out wx hb).2.2.2.part (by omega), part_of HR.out.2 HI.out hj, hb0.trans (hb.mono (by omega)), i, HI.out, ?_, rfl⟩
    rotate_left
    · rw [if_neg hci]; rfl
    rw [part_len (by omega), show (max (i : Int) (j : Int)).toNat - i = max i j - i by omega]; rfl
  have HF : Hid (¬ r.cap = i → ∀ (j : Nat) (wx : World), Below W0.heap.size W0 wx → ((hh = true → RowAt r.es hi j) ∧ (hh = false → j = r.es.length)) → ∃ p : Rm, Ending.returned (Value.slice (some ⟨r.b, r.off + i * 6, none⟩) ((max (i : Int) (j : Int)).toNat - i) (r.cap - i)) = .returned (.slice (some ⟨p.b, p.off, none⟩) p.es.length p.cap) ∧ p.at wx ∧ PartOf r p lo hh hi ∧ Below w.heap.size w wx ∧ WhereP r p lo) := fin
  have fin2 : r.cap = i → ∀ (j : Nat) (wx : World), Below W0.heap.size W0 wx → ((hh = true → RowAt r.es hi j) ∧ (hh = false → j = r.es.length)) → ∃ p : Rm, Ending.returned (Value.slice (some ⟨r.b, r.off, none⟩) ((max (i : Int) (j : Int)).toNat - i) 0) = .returned (.slice (some ⟨p.b, p.off, none⟩) p.es.length p.cap) ∧ p.at wx ∧ PartOf r p lo hh hi ∧ Below w.heap.size w wx ∧ WhereP r p lo := by
    intro hci j wx hb hj
    have hjl : j ≤ r.es.length := by
      cases hh
      · rw [hj.2 rfl]; exact Nat.le_refl _
      · exact (hj.1 rfl).1
    have hp := part_of HR.out.2 HI.out hj
    have hn : (r.part i (max i j - i)).es = [] := List.eq_nil_of_length_eq_zero (by rw [part_len (by omega)]; omega)
    refine ⟨⟨r.b, r.off, 0, []⟩, ?_, ⟨fun j e he => by simp at he, (HC.out wx hb).2.2.2.lt, by simp, by simp [maxLen]⟩, ⟨rfl, List.Pairwise.nil, fun x => ?_, by simp⟩, hb0.trans (hb.mono (by omega)), i, HI.out, by rw [if_pos hci], by show 0 = r.cap - i; omega⟩
    · rw [show (max (i : Int) (j : Int)).toNat - i = 0 by omega]; rfl
    · have := hp.mem x
      rw [hn] at this
      exact this
  have HF2 : Hid (r.cap = i → ∀ (j : Nat) (wx : World), Below W0.heap.size W0 wx → ((hh = true → RowAt r.es hi j) ∧ (hh = false → j = r.es.length)) → ∃ p : Rm, Ending.returned (Value.slice (some ⟨r.b, r.off, none⟩) ((max (i : Int) (j : Int)).toNat - i) 0) = .returned (.slice (some ⟨p.b, p.off, none⟩) p.es.length p.cap) ∧ p.at wx ∧ PartOf r p lo hh hi ∧ Below w.heap.size w wx ∧ WhereP r p lo) := fin2
  clear fin fin2
  cases hh
  · by_cases hci : r.cap = i
    · have HCI : Hid (r.cap = i) := hci
      go_wp2_with fail
      go_ret
      exact HF2.out HCI.out r.es.length w1 hb1 ⟨fun q => by simp at q, fun _ => rfl⟩
    · have HCI : Hid (¬ r.cap = i) := hci
      go_wp2_with fail
      go_ret
      exact HF.out HCI.out r.es.length w1 hb1 ⟨fun q => by simp at q, fun _ => rfl⟩
  · go_wp2_with fail
    refine (firstAt_core r hi _ HA1.out HR.out.2).mono ?_
    rintro e w2 ⟨j, rfl, hj1, hb2⟩
    have hjl := hj1.1
    have HJ : Hid (RowAt r.es hi j) := hj1
    have hb3 := hb1.trans (hb2.mono (by omega))
    clear c0 c1 c2 hj1
    obtain ⟨c0, c1, c2, hat⟩ := HC.out w2 hb3
    clear hat
    by_cases hci : r.cap = i
    · have HCI : Hid (r.cap = i) := hci
      go_wp2_with fail
      go_ret
      exact HF2.out HCI.out j w2 hb3 ⟨fun _ => HJ.out, fun q => by simp at q⟩
    · have HCI : Hid (¬ r.cap = i) := hci
      go_wp2_with fail
      go_ret
      exact HF.out HCI.out j w2 hb3 ⟨fun _ => HJ.out, fun q => by simp at q⟩
theorem entriesIn_core (r : Rm) (lo hi : ByteArray) (hh : Bool) (w : World) (hr : r.at w) (hg : GoodR r.es) :
    Calls Try.prog 68 #[.agg #[.slice (some ⟨r.b, r.off, none⟩) r.es.length r.cap], .agg #[.string lo, .bool hh, .string hi]] w fun e w' =>
      ∃ p : Rm, e = .returned (.slice (some ⟨p.b, p.off, none⟩) p.es.length p.cap) ∧ p.at w' ∧ PartOf r p lo hh hi ∧ Below w.heap.size w w' :=
  (entriesIn_at r lo hi hh w hr hg).mono fun e w' ⟨p, h1, h2, h3, h4, _⟩ => ⟨p, h1, h2, h3, h4⟩
end Go.Proofs.Ytlgeffinhbodeaf

/-
  Stores as lists: when one is valid; what of a run lies in a range.
-/
namespace Go.Proofs.Ytlgeffinhbodeaf
open Go.ChangeShapes Go.WideShapes Go.ChangeAt Go.RowKit Go.Deep
set_option linter.unusedVariables false
set_option linter.unusedSimpArgs false

/-- A tablet: its first row, and its runs. -/
structure Tb where
  lo : ByteArray
  rs : List (List Ent)
/-- Whether a tablet has a next one, and that one's first row. -/
def hasN (ts : List Tb) (i : Nat) : Bool := decide (i + 1 < ts.length)
def hiN (ts : List Tb) (i : Nat) : ByteArray := match ts[i + 1]? with | some t => t.lo | none => ⟨#[]⟩
/-- The runs of a tablet are in its range. -/
def RowsIn (lo : ByteArray) (hh : Bool) (hi : ByteArray) (rs : List (List Ent)) : Prop := ∀ es ∈ rs, es ≠ [] ∧ ∀ e ∈ es, inR lo hh hi e.row = true
structure GoodT (ts : List Tb) (i : Nat) (t : Tb) : Prop where
  size : t.lo.size ≤ 64
  up : ∀ p, 0 < i → ts[i - 1]? = some p → Op.bytesLess p.lo.toList t.lo.toList = true
  runs : GoodRs t.rs
  rows : RowsIn t.lo (hasN ts i) (hiN ts i) t.rs
structure GoodS (ts : List Tb) : Prop where
  ne : 1 ≤ ts.length
  le : ts.length ≤ 100
  first : ∀ t, ts[0]? = some t → t.lo.size = 0
  tabs : ∀ i t, ts[i]? = some t → GoodT ts i t

theorem partOf_filter {r p : Rm} {lo hi : ByteArray} {hh : Bool} (h : PartOf r p lo hh hi) (hg : GoodR r.es) : p.es = r.es.filter (fun x => inR lo hh hi x.row) :=
  ord_ext h.ord ((ord_of_good hg).filter _) (fun x => by rw [h.mem x, List.mem_filter])
theorem partOf_all {r p : Rm} {lo hi : ByteArray} {hh : Bool} (h : PartOf r p lo hh hi) (hg : GoodR r.es) : r.es.length ≤ p.es.length ↔ ∀ e ∈ r.es, inR lo hh hi e.row = true := by
  rw [partOf_filter h hg]
  constructor
  · intro hl
    have := List.length_filter_le (fun x => inR lo hh hi x.row) r.es
    exact List.length_filter_eq_length_iff.1 (by omega)
  · intro hl
    rw [List.filter_eq_self.2 hl]
    exact Nat.le_refl _
end Go.Proofs.Ytlgeffinhbodeaf

/-
  Tablets of the call's own: toTablet, toTabletS, toStore.
-/
namespace Go.Proofs.Ytlgeffinhbodeaf
open Go.ChangeShapes Go.WideShapes Go.ChangeAt Go.RowKit Go.Deep
set_option linter.unusedVariables false
set_option linter.unusedSimpArgs false
set_option maxRecDepth 100000

theorem OwnR.mono {w : World} {base base' g : Nat} {us : List Value} (h : OwnR w base g us) (hb : base' ≤ base) : OwnR w base' g us := by
  refine ⟨h.1, ?_⟩
  rcases h.2 with hn | ⟨g', cap', cur, hv, h1, rest⟩
  · exact .inl hn
  · exact .inr ⟨g', cap', cur, hv, Nat.le_trans hb h1, rest⟩
theorem OwnRuns.mono {w : World} {base base' g : Nat} {l : List (Nat × List Ent)} (h : OwnRuns w base g l) (hb : base' ≤ base) : OwnRuns w base' g l :=
  ⟨h.row.mono hb, ⟨h.rows.1, fun p hp => (h.rows.2 p hp).mono hb⟩, h.ne, h.short⟩
theorem OwnR.setNe {w : World} {base g : Nat} {us : List Value} (h : OwnR w base g us) (g' k : Nat) (u : Value) (hne : g ≠ g') : OwnR (w.setCell ⟨g', k, none⟩ u) base g us :=
  World.ownsRow.kept h (grown_set w g' k u) (.inr (fun q => hne (Option.some.inj q)))
theorem OwnRuns.setNe {w : World} {base g : Nat} {l : List (Nat × List Ent)} (h : OwnRuns w base g l) (g' k : Nat) (u : Value) (hne : g' < g) : OwnRuns (w.setCell ⟨g', k, none⟩ u) base g l :=
  ⟨h.row.setNe g' k u (by omega), ⟨h.rows.1, fun p hp => (h.rows.2 p hp).setNe g' k u (by have := h.ne p hp; omega)⟩, h.ne, h.short⟩

/-- A tablet of the call's own: its first row, the block of its runs, and those. -/
structure Tw where
  lo : ByteArray
  g : Nat
  l : List (Nat × List Ent)
def Tw.pr (t : Tw) : Pr := (t.lo, .slice (some ⟨t.g, 0, none⟩) t.l.length t.l.length)
def Tw.tb (t : Tw) : Tb := ⟨t.lo, t.l.map Prod.snd⟩
def Tn.tb (t : Tn) : Tb := ⟨t.lo, esOf t.rs⟩
structure OwnTabs (w : World) (base g : Nat) (ts : List Tw) : Prop where
  row : OwnP w base g ts.length (ts.map Tw.pr)
  tabs : ∀ t ∈ ts, OwnRuns w base t.g t.l
  ne : ∀ t ∈ ts, g < t.g
  up : ts.Pairwise fun a b => a.g < b.g ∧ ∀ p ∈ a.l, p.1 < b.g
  short : ∀ t ∈ ts, t.l.length + totL t.l ≤ 1048576
theorem OwnTabs.lt {w : World} {base g : Nat} {ts : List Tw} (h : OwnTabs w base g ts) : base ≤ g ∧ g < w.heap.size := h.row.lt
theorem OwnTabs.below {w w' : World} {base g : Nat} {ts : List Tw} (h : OwnTabs w base g ts) (hb : Below w.heap.size w w') : OwnTabs w' base g ts :=
  ⟨h.row.below hb h.row.lt.2, fun t ht => (h.tabs t ht).below hb, h.ne, h.up, h.short⟩

theorem prs_set {l : List Tw} {t : Tw} {n k : Nat} (hk : l.length = k) (hn : k < n) :
    (l.map Tw.pr ++ List.replicate (n - k) zeroP).set k t.pr = (l ++ [t]).map Tw.pr ++ List.replicate (n - (k + 1)) zeroP := by
  rw [List.set_append_right _ _ (by simp [hk])]
  have : n - k = (n - (k + 1)) + 1 := by omega
  rw [this, List.replicate_succ]
  simp [hk]
theorem tbs_take {ts : List Tn} {k : Nat} {t : Tn} (h : ts[k]? = some t) : (ts.take (k + 1)).map Tn.tb = (ts.take k).map Tn.tb ++ [t.tb] := by
  rw [List.take_add_one, h]; simp
theorem wt_le {t : Tn} {n : Nat} (h : wt t ≤ n) : t.rs.length + tot t.rs ≤ n := by unfold wt at h; omega
end Go.Proofs.Ytlgeffinhbodeaf

/-
  Tablets in memory, each with runs that are not nil: the reading view.
-/
namespace Go.Proofs.Ytlgeffinhbodeaf
open Go.ChangeShapes Go.WideShapes Go.ChangeAt Go.RowKit Go.Deep
set_option linter.unusedVariables false
set_option linter.unusedSimpArgs false
set_option maxRecDepth 100000

/-- A tablet: its first row, where its runs lie, and what they are. -/
structure Tm where
  lo : ByteArray
  b : Nat
  off : Nat
  cap : Nat
  l : List Rm
abbrev Tm.u (t : Tm) : Value := .slice (some ⟨t.b, t.off, none⟩) t.l.length t.cap
def Tm.tb (t : Tm) : Tb := ⟨t.lo, esM t.l⟩
structure Tm.at (w : World) (t : Tm) : Prop where
  rms : RmsAt w t.b t.off t.l
  lt : t.b < w.heap.size
  len : t.l.length ≤ t.cap
  cap : t.cap ≤ maxLen
theorem Tm.at.below {w w' : World} {t : Tm} (h : t.at w) (hb : Below w.heap.size w w') : t.at w' := ⟨h.rms.below hb h.lt, by have := hb.size; have := h.lt; omega, h.len, h.cap⟩
def TmsAt (w : World) (b off : Nat) (ts : List Tm) : Prop := ∀ i t, ts[i]? = some t → w.cell? ⟨b, off + i * 2, none⟩ = some (.string t.lo) ∧ w.cell? ⟨b, off + i * 2 + 1, none⟩ = some t.u ∧ t.at w
theorem TmsAt.below {w w' : World} {b off : Nat} {ts : List Tm} (h : TmsAt w b off ts) (hb : Below w.heap.size w w') (hlt : b < w.heap.size) : TmsAt w' b off ts := by
  intro i t ht
  obtain ⟨h1, h2, h3⟩ := h i t ht
  exact ⟨by rw [hb.cell (p := ⟨b, off + i * 2, none⟩) (by exact hlt)]; exact h1, by rw [hb.cell (p := ⟨b, off + i * 2 + 1, none⟩) (by exact hlt)]; exact h2, h3.below hb⟩
structure OkTm (t : Tm) : Prop where
  ents : okM t.l
  runs : t.l.length ≤ 1048576
  lo : t.lo.size ≤ maxLen
def okTs (ts : List Tm) : Prop := ∀ t ∈ ts, OkTm t

def Tw.tm (t : Tw) : Tm := ⟨t.lo, t.g, 0, t.l.length, rmsOf t.l⟩
theorem Tw.tm_tb (t : Tw) : t.tm.tb = t.tb := by simp [Tw.tm, Tm.tb, Tw.tb, esM_rms]
theorem tms_tbs (ts : List Tw) : (ts.map Tw.tm).map Tm.tb = ts.map Tw.tb := by simp [List.map_map, Function.comp_def, Tw.tm_tb]
theorem OwnTabs.at {w : World} {base g : Nat} {ts : List Tw} (h : OwnTabs w base g ts) : TmsAt w g 0 (ts.map Tw.tm) := by
  intro i t ht
  rw [List.getElem?_map] at ht
  cases hp : ts[i]? with
  | none => rw [hp] at ht; cases ht
  | some p =>
    rw [hp] at ht
    simp at ht
    subst ht
    have hm := List.mem_of_getElem? hp
    obtain ⟨c0, c1⟩ := h.row.cells (p := p.pr) (i := i) (by rw [List.getElem?_map, hp]; rfl)
    rw [Nat.zero_add]
    have hs := h.short p hm
    refine ⟨c0, ?_, ⟨(h.tabs p hm).at, (h.tabs p hm).lt.2, by simp [Tw.tm, rmsOf_len], ?_⟩⟩
    · rw [c1]; simp [Tw.pr, Tw.tm, Tm.u, rmsOf_len]
    · have : p.tm.cap = p.l.length := rfl
      unfold maxLen; omega
theorem ok_tms {ts : List Tw} {tn : List Tn} (h : ts.map Tw.tb = tn.map Tn.tb) (hok : okT tn) (hs : ∀ t ∈ ts, t.l.length + totL t.l ≤ 1048576) : okTs (ts.map Tw.tm) := by
  intro t ht
  obtain ⟨p, hp, rfl⟩ := List.mem_map.1 ht
  have h1 : p.tb ∈ tn.map Tn.tb := by rw [← h]; exact List.mem_map.2 ⟨p, hp, rfl⟩
  obtain ⟨q, hq, he⟩ := List.mem_map.1 h1
  obtain ⟨a1, a2⟩ := hok q hq
  unfold Tn.tb Tw.tb at he
  simp only [Tb.mk.injEq] at he
  refine ⟨okM_of (okL_of he.2.symm a2), ?_, ?_⟩
  · have := hs p hp
    simp [Tw.tm, rmsOf_len]; omega
  · show p.lo.size ≤ maxLen
    rw [← he.1]; exact a1
end Go.Proofs.Ytlgeffinhbodeaf

/-
  The range of a tablet: spec.l7Range, impl's rowsIn.
-/
namespace Go.Proofs.Ytlgeffinhbodeaf
open Go.ChangeShapes Go.WideShapes Go.ChangeAt Go.RowKit Go.Deep
set_option linter.unusedVariables false
set_option linter.unusedSimpArgs false
set_option maxRecDepth 100000

def tbs (ts : List Tm) : List Tb := ts.map Tm.tb
theorem tbs_len (ts : List Tm) : (tbs ts).length = ts.length := by simp [tbs]
theorem tbs_get (ts : List Tm) (i : Nat) : (tbs ts)[i]? = ts[i]?.map Tm.tb := by simp [tbs]
theorem hasN_T {ts : List Tm} {i : Nat} (h : i + 1 < ts.length) : hasN (tbs ts) i = true := by unfold hasN; rw [tbs_len]; exact decide_eq_true h
theorem hasN_F {ts : List Tm} {i : Nat} (h : ¬ i + 1 < ts.length) : hasN (tbs ts) i = false := by unfold hasN; rw [tbs_len]; exact decide_eq_false h
theorem hiN_T {ts : List Tm} {i : Nat} {n : Tm} (h : ts[i + 1]? = some n) : hiN (tbs ts) i = n.lo := by unfold hiN; rw [tbs_get, h]; rfl
theorem hiN_F {ts : List Tm} {i : Nat} (h : ¬ i + 1 < ts.length) : hiN (tbs ts) i = ⟨#[]⟩ := by unfold hiN; rw [tbs_get, List.getElem?_eq_none (by omega)]; rfl

set_option maxHeartbeats 2000000 in
theorem specRange_core (b off cap : Nat) (ts : List Tm) (i : Nat) (t : Tm) (w : World) (h : TmsAt w b off ts) (hB : b < w.heap.size) (ht : ts[i]? = some t) (hn : ts.length ≤ 1048576) :
    Calls Try.prog 59 #[.agg #[.slice (some ⟨b, off, none⟩) ts.length cap], .int .i64 i] w fun e w' =>
      e = .returned (.agg #[.string t.lo, .bool (hasN (tbs ts) i), .string (hiN (tbs ts) i)]) ∧ Below w.heap.size w w' := by
  have hi : i < ts.length := (List.getElem?_eq_some_iff.1 ht).1
  obtain ⟨c0, c1, _⟩ := h i t ht
  clear c1
  by_cases hx : i + 1 < ts.length
  · obtain ⟨n, hn'⟩ : ∃ n, ts[i + 1]? = some n := ⟨_, List.getElem?_eq_getElem hx⟩
    obtain ⟨d0, d1, _⟩ := h (i + 1) n hn'
    clear d1
    rw [hasN_T hx, hiN_T hn']
    clear h ht hn'
    have kb : ∀ x, Below w.heap.size w (((w.alloc (Obj.cells #[.slice (some ⟨b, off, none⟩) ts.length cap] 28)).alloc (Obj.cells #[.string ⟨#[]⟩, .bool false, .string ⟨#[]⟩] 63)).alloc (Obj.cells #[.string t.lo, .bool x, .string ⟨#[]⟩] 63)) := fun x => (((Below.refl _ _).alloc (Nat.le_refl _) _).alloc (by simp) _).alloc (by simp; omega) _
    have d1 := (kb true).cell (p := ⟨b, off + (i + 1) * 2, none⟩) (by exact hB)
    rw [d0] at d1
    have HK : Hid (Below w.heap.size w (((w.alloc (Obj.cells #[.slice (some ⟨b, off, none⟩) ts.length cap] 28)).alloc (Obj.cells #[.string t.lo, .bool true, .string n.lo] 63)).alloc (Obj.cells #[.string t.lo, .bool true, .string n.lo] 63))) := (((Below.refl _ _).alloc (Nat.le_refl _) _).alloc (by simp) _).alloc (by simp; omega) _
    clear kb
    go_enter Try.func59, Try.ntmps59
    go_wp2_with fail
    refine bodyPost_ret (v := .agg #[.string t.lo, .bool true, .string n.lo]) (by simp [results, Try.results59, go_sem]) rfl ⟨rfl, HK.out⟩
  · rw [hasN_F hx, hiN_F hx]
    clear h ht
    go_enter Try.func59, Try.ntmps59
    go_wp2_with fail
    refine bodyPost_ret (v := .agg #[.string t.lo, .bool false, .string ⟨#[]⟩]) (by simp [results, Try.results59, go_sem]) rfl ⟨rfl, (((Below.refl _ _).alloc (Nat.le_refl _) _).alloc (by simp) _).alloc (by simp; omega) _⟩

set_option maxHeartbeats 2000000 in
theorem rowsIn_core (b off cap : Nat) (ts : List Tm) (i : Nat) (t : Tm) (w : World) (h : TmsAt w b off ts) (hB : b < w.heap.size) (ht : ts[i]? = some t) (hn : ts.length ≤ 1048576) :
    Calls Try.prog 64 #[.agg #[.slice (some ⟨b, off, none⟩) ts.length cap], .int .i64 i] w fun e w' =>
      e = .returned (.agg #[.string t.lo, .bool (hasN (tbs ts) i), .string (hiN (tbs ts) i)]) ∧ Below w.heap.size w w' := by
  have hi : i < ts.length := (List.getElem?_eq_some_iff.1 ht).1
  obtain ⟨c0, c1, _⟩ := h i t ht
  clear c1
  by_cases hx : i + 1 < ts.length
  · obtain ⟨n, hn'⟩ : ∃ n, ts[i + 1]? = some n := ⟨_, List.getElem?_eq_getElem hx⟩
    obtain ⟨d0, d1, _⟩ := h (i + 1) n hn'
    clear d1
    rw [hasN_T hx, hiN_T hn']
    clear h ht hn'
    have zx : ¬ (i : Int) + 1 = (ts.length : Int) := by omega
    go_enter Try.func64, Try.ntmps64
    go_upto_region 3 with fail
    go_region
    all_goals go_wp2_with fail
    all_goals refine bodyPost_ret (v := .agg #[.string t.lo, .bool true, .string n.lo]) (by simp [results, Try.results64, go_sem]) rfl ⟨rfl, ?_⟩
    all_goals exact (((Below.refl _ _).alloc (Nat.le_refl _) _).alloc (by simp) _).drew
  · rw [hasN_F hx, hiN_F hx]
    clear h ht
    have zx : (i : Int) + 1 = (ts.length : Int) := by omega
    go_enter Try.func64, Try.ntmps64
    go_wp2_with fail
    refine bodyPost_ret (v := .agg #[.string t.lo, .bool false, .string ⟨#[]⟩]) (by simp [results, Try.results64, go_sem]) rfl ⟨rfl, ((Below.refl _ _).alloc (Nat.le_refl _) _).alloc (by simp) _⟩
end Go.Proofs.Ytlgeffinhbodeaf

/-
  entriesIn with its answer told ahead; impl's validRuns, ValidStore.
-/
namespace Go.Proofs.Ytlgeffinhbodeaf
open Go.ChangeShapes Go.WideShapes Go.ChangeAt Go.RowKit Go.Deep
set_option linter.unusedVariables false
set_option linter.unusedSimpArgs false
set_option maxRecDepth 100000

/-- Not later: not larger. -/
theorem le_less (a b : ByteArray) : (Op.bytesLess a.toList b.toList || a.toList == b.toList) = !Op.bytesLess b.toList a.toList := by
  have hn := cB_neg a b
  cases h1 : Op.bytesLess a.toList b.toList
  · cases h2 : (a.toList == b.toList)
    · have := cB_more h1 h2
      have h3 : cB b a = -1 := by rw [hn, this]
      rw [(cB_less_iff b a).2 h3]; rfl
    · have := cB_same h2
      cases h3 : Op.bytesLess b.toList a.toList
      · rfl
      · have := cB_less h3
        omega
  · have := cB_less h1
    cases h3 : Op.bytesLess b.toList a.toList
    · rfl
    · have := cB_less h3
      omega
theorem rowAt_uniq {es : List Ent} {row : ByteArray} {i j : Nat} (h : RowAt es row i) (k : RowAt es row j) : i = j := by
  rcases Nat.lt_trichotomy i j with q | q | q
  · have hl : i < es.length := by have := k.1; omega
    have hx := List.getElem?_eq_getElem hl
    have h1 := (k.2 i _ hx).1 q
    have h2 := (h.2 i _ hx).2 h1
    omega
  · exact q
  · have hl : j < es.length := by have := h.1; omega
    have hx := List.getElem?_eq_getElem hl
    have h1 := (h.2 j _ hx).1 q
    have h2 := (k.2 j _ hx).2 h1
    omega
theorem where_uniq {r p q : Rm} {lo hi : ByteArray} {hh : Bool} (hg : GoodR r.es) (h : PartOf r p lo hh hi) (h' : PartOf r q lo hh hi) (k : WhereP r p lo) (k' : WhereP r q lo) : p = q := by
  have e1 := partOf_filter h hg
  have e2 := partOf_filter h' hg
  obtain ⟨i, a1, a2, a3⟩ := k
  obtain ⟨j, b1, b2, b3⟩ := k'
  have hij := rowAt_uniq a1 b1
  subst hij
  cases p; cases q
  simp only at *
  rw [e1, e2, a2, b2, a3, b3]
  have hb := h.blk
  have hb' := h'.blk
  simp only at hb hb'
  rw [hb, hb']
theorem cut_ex {α : Type} (P : α → Bool) : ∀ (l : List α), (∀ (i j : Nat) (x y : α), i ≤ j → l[i]? = some x → l[j]? = some y → P y = true → P x = true) → ∃ i : Nat, i ≤ l.length ∧ ∀ (t : Nat) (x : α), l[t]? = some x → (t < i ↔ P x = true)
  | [], _ => ⟨0, Nat.le_refl _, fun t x h => by simp at h⟩
  | a :: l, hm => by
    cases ha : P a
    · refine ⟨0, Nat.zero_le _, fun t x hx => ⟨fun q => by omega, fun q => ?_⟩⟩
      have := hm 0 t a x (Nat.zero_le _) rfl hx q
      rw [ha] at this
      cases this
    · obtain ⟨i, h1, h2⟩ := cut_ex P l (fun i j x y hij hx hy => hm (i + 1) (j + 1) x y (by omega) (by simpa using hx) (by simpa using hy))
      refine ⟨i + 1, by simp; omega, fun t x hx => ?_⟩
      cases t with
      | zero =>
        simp at hx
        subst hx
        exact ⟨fun _ => ha, fun _ => by omega⟩
      | succ t =>
        have := h2 t x (by simpa using hx)
        rw [← this]
        omega
theorem rowAt_ex {es : List Ent} (hg : GoodR es) (row : ByteArray) : ∃ i, RowAt es row i := by
  refine cut_ex (fun x : Ent => Op.bytesLess x.row.toList row.toList) es (fun i j x y hij hx hy hk => ?_)
  have vx := hg.1.2 x (List.mem_of_getElem? hx)
  have vy := hg.1.2 y (List.mem_of_getElem? hy)
  rw [← least_iff vx]
  rw [← least_iff vy] at hk
  by_cases h : i = j
  · subst h; rw [hx] at hy; simp at hy; subst hy; exact hk
  · exact keyCmp_trans (ord_get (ord_of_good hg) (by omega) hx hy) hk
/-- The part of a run in a range, told ahead. -/
theorem part_ex {r : Rm} (hg : GoodR r.es) (hc : r.es.length ≤ r.cap) (lo hi : ByteArray) (hh : Bool) : ∃ p : Rm, PartOf r p lo hh hi ∧ WhereP r p lo ∧ p.es.length ≤ p.cap := by
  obtain ⟨i, h1⟩ := rowAt_ex hg lo
  obtain ⟨j, hj⟩ : ∃ j, (hh = true → RowAt r.es hi j) ∧ (hh = false → j = r.es.length) := by
    cases hh
    · exact ⟨r.es.length, ⟨fun q => (by cases q), fun _ => rfl⟩⟩
    · obtain ⟨j, hj⟩ := rowAt_ex hg hi
      exact ⟨j, ⟨fun _ => hj, fun q => (by cases q)⟩⟩
  have hp := part_of hg h1 hj
  have hil := h1.1
  have hjl : j ≤ r.es.length := by
    cases hh
    · rw [hj.2 rfl]; exact Nat.le_refl _
    · exact (hj.1 rfl).1
  by_cases hci : r.cap = i
  · have hn : (r.part i (max i j - i)).es = [] := List.eq_nil_of_length_eq_zero (by rw [part_len (by omega)]; omega)
    refine ⟨⟨r.b, r.off, 0, []⟩, ⟨rfl, List.Pairwise.nil, fun x => ?_, by simp⟩, ⟨i, h1, by rw [if_pos hci], by show 0 = r.cap - i; omega⟩, by simp⟩
    have := hp.mem x
    rw [hn] at this
    exact this
  · exact ⟨r.part i (max i j - i), hp, ⟨i, h1, by rw [if_neg hci]; rfl, rfl⟩, by rw [part_len (by omega)]; show max i j - i ≤ r.cap - i; omega⟩
theorem entriesIn_det (r p : Rm) (lo hi : ByteArray) (hh : Bool) (w : World) (hr : r.at w) (hg : GoodR r.es) (hp : PartOf r p lo hh hi) (hw : WhereP r p lo) :
    Calls Try.prog 68 #[.agg #[.slice (some ⟨r.b, r.off, none⟩) r.es.length r.cap], .agg #[.string lo, .bool hh, .string hi]] w fun e w' =>
      e = .returned (.slice (some ⟨p.b, p.off, none⟩) p.es.length p.cap) ∧ Below w.heap.size w w' :=
  (entriesIn_at r lo hi hh w hr hg).mono fun e w' ⟨q, h1, h2, h3, h4, h5⟩ => by
    have := where_uniq hg hp h3 hw h5
    subst this
    exact ⟨h1, h4⟩

theorem rowsIn_mem {lo hi : ByteArray} {hh : Bool} {l : List Rm} (h : RowsIn lo hh hi (esM l)) {r : Rm} (hr : r ∈ l) : r.es ≠ [] ∧ ∀ e ∈ r.es, inR lo hh hi e.row = true := h _ (List.mem_map.2 ⟨r, hr, rfl⟩)
theorem rowsIn_of {lo hi : ByteArray} {hh : Bool} {l : List Rm} (h : ∀ r ∈ l, r.es ≠ [] ∧ ∀ e ∈ r.es, inR lo hh hi e.row = true) : RowsIn lo hh hi (esM l) := by
  intro es he
  obtain ⟨r, hr, rfl⟩ := List.mem_map.1 he
  exact h r hr

set_option maxHeartbeats 4000000 in
theorem validRuns_core (t : Tm) (lo hi : ByteArray) (hh : Bool) (w : World) (ht : t.at w) (hok : OkTm t) :
    Calls Try.prog 63 #[.agg #[.string t.lo, .slice (some ⟨t.b, t.off, none⟩) t.l.length t.cap], .agg #[.string lo, .bool hh, .string hi]] w fun e w' =>
      ∃ r : Bool, e = .returned (.bool r) ∧ (r = true ↔ GoodRs (esM t.l) ∧ RowsIn lo hh hi (esM t.l)) ∧ Below w.heap.size w w' := by
  have HT : Hid (t.at w ∧ OkTm t) := ⟨ht, hok⟩
  have hn := hok.runs
  clear ht hok
  obtain ⟨Wa, hWa⟩ : ∃ Wa : World, Wa = w.alloc (Obj.cells #[.string t.lo, .slice (some ⟨t.b, t.off, none⟩) t.l.length t.cap] 60) := ⟨_, rfl⟩
  obtain ⟨W0, hW0⟩ : ∃ W0 : World, W0 = Wa.alloc (Obj.cells #[.string lo, .bool hh, .string hi] 63) := ⟨_, rfl⟩
  have hba : Below w.heap.size w Wa := by rw [hWa]; exact (Below.refl _ _).alloc (Nat.le_refl _) _
  have hza : Wa.heap.size = w.heap.size + 1 := by rw [hWa]; simp
  have hbb : Below Wa.heap.size Wa W0 := by rw [hW0]; exact (Below.refl _ _).alloc (Nat.le_refl _) _
  have hz0 : W0.heap.size = w.heap.size + 1 + 1 := by rw [hW0]; simp [hza]
  have hb0 : Below w.heap.size w W0 := hba.trans (hbb.mono (by omega))
  have HC : Hid (∀ wx, Below W0.heap.size W0 wx → wx.cell? ⟨w.heap.size, 1, none⟩ = some (.slice (some ⟨t.b, t.off, none⟩) t.l.length t.cap) ∧ wx.cell? ⟨w.heap.size + 1, 0, none⟩ = some (.string lo) ∧ wx.cell? ⟨w.heap.size + 1, 1, none⟩ = some (.bool hh) ∧ wx.cell? ⟨w.heap.size + 1, 2, none⟩ = some (.string hi)) := by
    intro wx hb
    rw [hb.cell (p := ⟨w.heap.size, 1, none⟩) (by show w.heap.size < W0.heap.size; omega), hb.cell (p := ⟨w.heap.size + 1, 0, none⟩) (by show w.heap.size + 1 < W0.heap.size; omega), hb.cell (p := ⟨w.heap.size + 1, 1, none⟩) (by show w.heap.size + 1 < W0.heap.size; omega), hb.cell (p := ⟨w.heap.size + 1, 2, none⟩) (by show w.heap.size + 1 < W0.heap.size; omega)]
    refine ⟨?_, ?_, ?_, ?_⟩
    · rw [hbb.cell (p := ⟨w.heap.size, 1, none⟩) (by show w.heap.size < Wa.heap.size; omega), hWa]; simp
    · rw [hW0, ← hza]; simp
    · rw [hW0, ← hza]; simp
    · rw [hW0, ← hza]; simp
  have HT0 : Hid (t.at W0) := (HT.out.1.below hba).below hbb
  obtain ⟨c0, c1, c2, c3⟩ := HC.out W0 (Below.refl _ _)
  go_enter Try.func63, Try.ntmps63
  go_wp2_with fail
  rw [← hWa, ← hW0]
  clear hWa hW0
  refine (validStack_core t.b t.off t.cap t.l _ HT0.out.rms HT.out.2.ents HT0.out.lt hn).mono ?_
  rintro e w1 ⟨s, rfl, hs, hb1⟩
  have HS : Hid (s = true ↔ GoodRs (esM t.l)) := hs
  have hs1 := hb1.size
  have HT1 : Hid (t.at w1) := HT0.out.below hb1
  clear hs c0 c1 c2 c3
  obtain ⟨c0, c1, c2, c3⟩ := HC.out w1 hb1
  cases s
  · have H : Hid (¬ (GoodRs (esM t.l) ∧ RowsIn lo hh hi (esM t.l))) := fun q => Bool.noConfusion (HS.out.2 q.1)
    go_wp2_with fail
    go_ret
    exact ⟨_, rfl, iffF H.out, hb0.trans (hb1.mono (by omega))⟩
  have HG : Hid (GoodRs (esM t.l)) := HS.out.1 rfl
  go_wp2_with fail
  clear c0 c1 c2 c3
  go_loopw [14] (fun i wr => ∃ (k : Nat), k ≤ t.l.length ∧ i = .int .i64 k ∧ (∀ r ∈ t.l.take k, r.es ≠ [] ∧ ∀ e ∈ r.es, inR lo hh hi e.row = true) ∧ Below w1.heap.size w1 wr) (fun i _ => t.l.length - (intOf i).toNat)
  case atStart => exact ⟨0, Nat.zero_le _, rfl, by simp, Below.refl _ _⟩
  case round =>
    obtain ⟨k, hk, rfl, hv, hb⟩ := hrel
    have HV : Hid (∀ r ∈ t.l.take k, r.es ≠ [] ∧ ∀ e ∈ r.es, inR lo hh hi e.row = true) := hv
    have hsz := hb.size
    have hbx := hb1.trans (hb.mono (by omega))
    clear hv
    by_cases hlt : k < t.l.length
    · obtain ⟨r, hr⟩ : ∃ r, t.l[k]? = some r := ⟨_, List.getElem?_eq_getElem hlt⟩
      obtain ⟨c0, ha⟩ := ((HT1.out.below hb).rms) k r hr
      have HA : Hid (r.at wr ∧ t.l[k]? = some r ∧ GoodR r.es) := ⟨ha, hr, goodRs_mem HG.out (List.mem_of_getElem? hr)⟩
      have hrl : r.es.length ≤ 1048576 := by have := HA.out.2.2.1.1; omega
      clear ha hr
      obtain ⟨W1, hW1⟩ : ∃ W1 : World, W1 = wr.alloc (Obj.cells #[.slice (some ⟨r.b, r.off, none⟩) r.es.length r.cap] 101) := ⟨_, rfl⟩
      have hbA : Below wr.heap.size wr W1 := by rw [hW1]; exact (Below.refl _ _).alloc (Nat.le_refl _) _
      have hzA : W1.heap.size = wr.heap.size + 1 := by rw [hW1]; simp
      have HA1 : Hid (r.at W1) := HA.out.1.below hbA
      have hbz : Below w1.heap.size w1 W1 := hb.trans (hbA.mono hsz)
      have cR : ∀ n : Out W1, n.u.cell? ⟨wr.heap.size, 0, none⟩ = some (.slice (some ⟨r.b, r.off, none⟩) r.es.length r.cap) := fun n => by
        rw [n.out.cell (p := ⟨wr.heap.size, 0, none⟩) (by show wr.heap.size < W1.heap.size; omega), hW1]; simp
      obtain ⟨p, hp1, hp2, hp3⟩ := part_ex HA.out.2.2 HA.out.1.len lo hi hh
      have HP : Hid (PartOf r p lo hh hi ∧ WhereP r p lo ∧ ∀ n : Out W1, r.at n.u) := ⟨hp1, hp2, fun n => HA1.out.below n.out⟩
      have hpl := hp1.len
      clear hp1 hp2 hp3
      have qq : ∀ n : Out W1, n.u.cell? ⟨w.heap.size + 1, 0, none⟩ = some (.string lo) ∧ n.u.cell? ⟨w.heap.size + 1, 1, none⟩ = some (.bool hh) ∧ n.u.cell? ⟨w.heap.size + 1, 2, none⟩ = some (.string hi) := fun n => (HC.out n.u (hb1.trans ((hbz.trans (n.out.mono (by omega))).mono (by omega)))).2
      have q1 := fun n => (qq n).1
      have q2 := fun n => (qq n).2.1
      have q3 := fun n => (qq n).2.2
      clear qq
      have zk : (k : Int) < (t.l.length : Int) := by omega
      have inh : Nonempty (Out W1) := ⟨⟨W1, Below.refl _ _⟩⟩
      by_cases hemp : r.es.length = 0
      · have H : Hid (¬ (GoodRs (esM t.l) ∧ RowsIn lo hh hi (esM t.l))) := fun q => (rowsIn_mem q.2 (List.mem_of_getElem? HA.out.2.1)).1 (List.eq_nil_of_length_eq_zero hemp)
        have hd : ((r.es.length : Int) == 0) = true := by rw [hemp]; rfl
        clear hemp
        go_upto_region 6 with fail
        rw [← hW1]
        clear hW1
        refine wp_region_out (by kernel_rfl) (by kernel_rfl) ?_
        repeat (go_big_quiet_step ((go_at_call 68; exact Calls.out_of (entriesIn_det r p lo hi hh _ (HP.out.2.2 _) HA.out.2.2 HP.out.1 HP.out.2.1))))
        refine wpQuiet_nil ?_
        rintro wy ⟨⟨wx, hby⟩, rfl⟩
        have hbw : Below w.heap.size w wy := hb0.trans ((hb1.trans ((hbz.trans (hby.mono (by omega))).mono (by omega))).mono (by omega))
        go_wp2_with fail
        go_ret
        exact ⟨_, rfl, iffF H.out, hbw⟩
      · have hd : ((r.es.length : Int) == 0) = false := beq_eq_false_iff_ne.2 (by omega)
        have HM : Hid (¬ r.es.length = 0) := hemp
        clear hemp
        go_upto_region 6 with fail
        rw [← hW1]
        clear hW1
        refine wp_region_out (by kernel_rfl) (by kernel_rfl) ?_
        repeat (go_big_quiet_step ((go_at_call 68; exact Calls.out_of (entriesIn_det r p lo hi hh _ (HP.out.2.2 _) HA.out.2.2 HP.out.1 HP.out.2.1))))
        refine wpQuiet_nil ?_
        rintro wy ⟨⟨wx, hby⟩, rfl⟩
        have hb2 : Below w1.heap.size w1 wy := hbz.trans (hby.mono (by omega))
        by_cases hall : p.es.length < r.es.length
        · have H : Hid (¬ (GoodRs (esM t.l) ∧ RowsIn lo hh hi (esM t.l))) := fun q => by
            have h1 := (rowsIn_mem q.2 (List.mem_of_getElem? HA.out.2.1)).2
            have h2 := (partOf_all HP.out.1 HA.out.2.2).2 h1
            omega
          have hbw : Below w.heap.size w wy := hb0.trans ((hb1.trans (hb2.mono (by omega))).mono (by omega))
          have zl : (p.es.length : Int) < (r.es.length : Int) := by omega
          go_wp2_with fail
          go_ret
          exact ⟨_, rfl, iffF H.out, hbw⟩
        · have zl : ¬ (p.es.length : Int) < (r.es.length : Int) := by omega
          have H : Hid (∀ r ∈ t.l.take (k + 1), r.es ≠ [] ∧ ∀ e ∈ r.es, inR lo hh hi e.row = true) := fun x hx => by
            rcases mem_take_succ HA.out.2.1 hx with h | rfl
            · exact HV.out x h
            · exact ⟨fun q => HM.out (by rw [q]; rfl), (partOf_all HP.out.1 HA.out.2.2).1 (by omega)⟩
          go_wp2_with fail
          go_roundw
          case rel => exact ⟨k + 1, by omega, by go_num, H.out, hb2⟩
          case measure => go_light; simp [intOf]; omega
    · have zk : ¬ (k : Int) < (t.l.length : Int) := by omega
      have H : Hid (GoodRs (esM t.l) ∧ RowsIn lo hh hi (esM t.l)) := ⟨HG.out, rowsIn_of (fun r hr => HV.out r (by rw [List.take_of_length_le (by omega)]; exact hr))⟩
      go_wp2_with fail
      go_ret
      exact .inr ⟨rfl, H.out, hb0.trans (hbx.mono (by omega))⟩

theorem tmsAt_out {w : World} {b off m : Nat} {l : List Tm} {r : Tm} (h : TmsAt w b off l) (hb : b < w.heap.size) (hr : l[m]? = some r) : (∀ n : Out w, n.u.cell? ⟨b, off + m * 2, none⟩ = some (.string r.lo)) ∧ (∀ n : Out w, n.u.cell? ⟨b, off + m * 2 + 1, none⟩ = some r.u) ∧ ∀ n : Out w, r.at n.u :=
  ⟨fun n => (h.below n.out hb m r hr).1, fun n => (h.below n.out hb m r hr).2.1, fun n => (h.below n.out hb m r hr).2.2⟩
theorem goodS_of {ts : List Tm} (h1 : 1 ≤ ts.length) (h2 : ts.length ≤ 100) (h3 : ∀ t, ts[0]? = some t → t.lo.size = 0) (h4 : ∀ i t, ts[i]? = some t → GoodT (tbs ts) i t.tb) : GoodS (tbs ts) := by
  refine ⟨by rw [tbs_len]; exact h1, by rw [tbs_len]; exact h2, fun t ht => ?_, fun i t ht => ?_⟩
  · rw [tbs_get] at ht
    obtain ⟨u, hu, rfl⟩ := Option.map_eq_some_iff.1 ht
    exact h3 u hu
  · rw [tbs_get] at ht
    obtain ⟨u, hu, rfl⟩ := Option.map_eq_some_iff.1 ht
    exact h4 i u hu
theorem goodS_at {ts : List Tm} (h : GoodS (tbs ts)) {i : Nat} {t : Tm} (ht : ts[i]? = some t) : GoodT (tbs ts) i t.tb := h.tabs i t.tb (by rw [tbs_get, ht]; rfl)
end Go.Proofs.Ytlgeffinhbodeaf

/-
  The tablet that holds a row: spec.l7Holder, impl's holder.
-/
namespace Go.Proofs.Ytlgeffinhbodeaf
open Go.ChangeShapes Go.WideShapes Go.ChangeAt Go.RowKit Go.Deep
set_option linter.unusedVariables false
set_option linter.unusedSimpArgs false
set_option maxRecDepth 100000

/-- The tablets up to 'i' begin no later than the row, the others do. -/
def HoldAt (ts : List Tb) (row : ByteArray) (i : Nat) : Prop := i < ts.length ∧ ∀ (j : Nat) (t : Tb), ts[j]? = some t → (j ≤ i ↔ Op.bytesLess row.toList t.lo.toList = false)
theorem less_trans {a b c : ByteArray} (h1 : Op.bytesLess a.toList b.toList = true) (h2 : Op.bytesLess b.toList c.toList = true) : Op.bytesLess a.toList c.toList = true :=
  (cB_less_iff a c).2 (cB_trans ((cB_less_iff a b).1 h1) ((cB_less_iff b c).1 h2))
theorem los_up {ts : List Tb} (h : GoodS ts) : ∀ (n j : Nat) (x y : Tb), ts[j]? = some x → ts[j + n + 1]? = some y → Op.bytesLess x.lo.toList y.lo.toList = true := by
  intro n
  induction n with
  | zero =>
    intro j x y hx hy
    exact (h.tabs (j + 1) y (by simpa using hy)).up x (by omega) (by simpa using hx)
  | succ n ih =>
    intro j x y hx hy
    obtain ⟨z, hz⟩ : ∃ z, ts[j + n + 1]? = some z := ⟨_, List.getElem?_eq_getElem (by have := (List.getElem?_eq_some_iff.1 hy).1; omega)⟩
    have h1 := ih j x z hx hz
    have h2 := (h.tabs (j + (n + 1) + 1) y hy).up z (by omega) (by rw [show j + (n + 1) + 1 - 1 = j + n + 1 by omega]; exact hz)
    exact less_trans h1 h2
theorem size_emptyL {b : ByteArray} (h : b.size = 0) : b.toList = [] := List.isEmpty_iff.1 (by rw [isE]; exact decide_eq_true h)
theorem less_empty (a b : ByteArray) (h : b.size = 0) : Op.bytesLess a.toList b.toList = false := by
  have hb : b.toList = [] := by
    have := size_emptyL h
    exact this
  rw [hb]
  cases a.toList <;> simp [Op.bytesLess]
theorem hold_ex {ts : List Tb} (h : GoodS ts) (row : ByteArray) : ∃ i, HoldAt ts row i := by
  obtain ⟨c, hc, hp⟩ := cut_ex (fun t : Tb => !Op.bytesLess row.toList t.lo.toList) ts (fun i j x y hij hx hy hk => by
    by_cases e : i = j
    · subst e; rw [hx] at hy; cases hy; exact hk
    · have hl := los_up h (j - i - 1) i x y hx (by rw [show i + (j - i - 1) + 1 = j by omega]; exact hy)
      cases hq : Op.bytesLess row.toList x.lo.toList
      · rfl
      · have := less_trans hq hl
        simp only [this] at hk
        cases hk)
  obtain ⟨t, ht⟩ : ∃ t, ts[0]? = some t := ⟨_, List.getElem?_eq_getElem (by have := h.ne; omega)⟩
  have h0 : 0 < c := (hp 0 t ht).2 (by rw [less_empty row t.lo (h.first t ht)]; rfl)
  refine ⟨c - 1, by omega, fun j t hj => ?_⟩
  have := hp j t hj
  constructor
  · intro q
    have := this.1 (by omega)
    simpa using this
  · intro q
    have := this.2 (by rw [q]; rfl)
    omega
theorem hold_uniq {ts : List Tb} {row : ByteArray} {i j : Nat} (h : HoldAt ts row i) (k : HoldAt ts row j) : i = j := by
  have hi := List.getElem?_eq_getElem h.1
  have hj := List.getElem?_eq_getElem k.1
  have h1 := (k.2 i _ hi).2 ((h.2 i _ hi).1 (Nat.le_refl _))
  have h2 := (h.2 j _ hj).2 ((k.2 j _ hj).1 (Nat.le_refl _))
  omega

set_option maxHeartbeats 2000000 in
theorem specHolder_core (b off cap : Nat) (ts : List Tm) (row : ByteArray) (i : Nat) (w : World) (h : TmsAt w b off ts) (hB : b < w.heap.size) (hn : ts.length ≤ 1048576) (hh : HoldAt (tbs ts) row i) :
    Calls Try.prog 24 #[.agg #[.slice (some ⟨b, off, none⟩) ts.length cap], .string row] w fun e w' => e = .returned (.int .i64 i) ∧ Below w.heap.size w w' := by
  obtain ⟨W0, hW0⟩ : ∃ W0 : World, W0 = w.alloc (Obj.cells #[.slice (some ⟨b, off, none⟩) ts.length cap] 28) := ⟨_, rfl⟩
  have hb0 : Below w.heap.size w W0 := by rw [hW0]; exact (Below.refl _ _).alloc (Nat.le_refl _) _
  have c0 : W0.cell? ⟨w.heap.size, 0, none⟩ = some (.slice (some ⟨b, off, none⟩) ts.length cap) := by rw [hW0]; simp
  have HT : Hid (TmsAt W0 b off ts ∧ HoldAt (tbs ts) row i) := ⟨h.below hb0 hB, hh⟩
  have hil : i < ts.length := by have := hh.1; rw [tbs_len] at this; exact this
  clear h hh
  go_enter Try.func24, Try.ntmps24
  go_wp2_with fail
  rw [← hW0]
  clear hW0
  go_loopw [5, 6] (fun a j wr => ∃ (m x : Nat), m ≤ ts.length ∧ j = .int .i64 m ∧ a = .int .i64 x ∧ x = min (m - 1) i ∧ wr = W0) (fun _ j _ => ts.length - (intOf j).toNat)
  case atStart => exact ⟨0, 0, Nat.zero_le _, rfl, rfl, by omega, rfl⟩
  case round =>
    obtain ⟨m, x, hm, rfl, rfl, hx, rfl⟩ := hrel
    have HX : Hid (x = min (m - 1) i) := hx
    clear hx
    by_cases hlt : m < ts.length
    · obtain ⟨t, ht⟩ : ∃ t, ts[m]? = some t := ⟨_, List.getElem?_eq_getElem hlt⟩
      obtain ⟨d0, _⟩ := HT.out.1 m t ht
      have hq := HT.out.2.2 m t.tb (by rw [tbs_get, ht]; rfl)
      have hlo : t.tb.lo = t.lo := rfl
      rw [hlo] at hq
      have zm : (m : Int) < (ts.length : Int) := by omega
      cases hl : Op.bytesLess row.toList t.lo.toList
      · have hle : (Op.bytesLess t.lo.toList row.toList || t.lo.toList == row.toList) = true := by rw [le_less, hl]; rfl
        have hmi : m ≤ i := hq.2 hl
        clear hq ht hl
        go_wp2_with fail
        go_roundw
        case rel => go_light; exact ⟨m + 1, m, by omega, by go_num, rfl, by omega, by first | rfl | trivial⟩
        case measure => go_light; simp [intOf]; omega
      · have hle : (Op.bytesLess t.lo.toList row.toList || t.lo.toList == row.toList) = false := by rw [le_less, hl]; rfl
        have hmi : ¬ m ≤ i := fun q => by have := hq.1 q; rw [hl] at this; cases this
        clear hq ht hl
        go_wp2_with fail
        go_roundw
        case rel => go_light; exact ⟨m + 1, x, by omega, by go_num, rfl, by have := HX.out; omega, by first | rfl | trivial⟩
        case measure => go_light; simp [intOf]; omega
    · have zm : ¬ (m : Int) < (ts.length : Int) := by omega
      have HXI : Hid (x = i) := by
        have := HX.out
        show x = i
        omega
      go_wp2_with fail
      go_ret
      exact ⟨by rw [HXI.out]; rfl, hb0⟩

set_option maxHeartbeats 1000000 in
theorem compareLo_any (lo : ByteArray) (a : Option Addr) (n c : Nat) (row : ByteArray) (w : World) :
    Calls Try.prog 67 #[.agg #[.string lo, .slice a n c], .string row] w fun e w' => e = .returned (.int .i64 (cB lo row)) ∧ Below w.heap.size w w' := by
  go_enter Try.func67, Try.ntmps67
  go_wp2_with fail
  refine (stringsCompare_any _ _ _).mono ?_
  rintro e w' ⟨rfl, rfl⟩
  go_wp2_with fail
  go_ret
  exact ⟨rfl, (Below.refl _ _).alloc (Nat.le_refl _) _⟩

/-- Up to 'i' the tablets begin before the row, from there on they don't. -/
def CutLo (ts : List Tm) (row : ByteArray) (i : Nat) : Prop := i ≤ ts.length ∧ (∀ (j : Nat) (t : Tm), j < i → ts[j]? = some t → cB t.lo row = -1) ∧ (∀ (j : Nat) (t : Tm), i ≤ j → ts[j]? = some t → ¬ cB t.lo row = -1)

/-- What the search hands back. -/
def BsPost (ts : List Tm) (row : ByteArray) (w : World) (r : Ending) (w' : World) : Prop := ∃ (i : Nat) (f : Bool), r = .returned (.tuple #[.int .i64 i, .bool f]) ∧ CutLo ts row i ∧ (f = true ↔ ∃ t, ts[i]? = some t ∧ cB t.lo row = 0) ∧ Below w.heap.size w w'

set_option maxHeartbeats 4000000 in
theorem bsearchT_core (b off cap : Nat) (ts : List Tm) (row : ByteArray) (w : World) (hE : TmsAt w b off ts) (hB : b < w.heap.size) (hlen : ts.length ≤ 1048576)
    (hmono : ∀ (i j : Nat) (x y : Tm), i ≤ j → ts[i]? = some x → ts[j]? = some y → cB y.lo row = -1 → cB x.lo row = -1) :
    Calls Try.prog 66 #[.slice (some ⟨b, off, none⟩) ts.length cap, .string row, .func (.func 67) #[] #[]] w fun r w' => BsPost ts row w r w' := by
  have HE : Hid (TmsAt w b off ts) := hE
  have HM : Hid (∀ (i j : Nat) (x y : Tm), i ≤ j → ts[i]? = some x → ts[j]? = some y → cB y.lo row = -1 → cB x.lo row = -1) := hmono
  clear hE hmono
  go_enter Try.func66, Try.ntmps66
  go_wp2_with fail
  go_loopw [9, 10] (fun i j wr => ∃ lo hi : Nat, i = .int .i64 lo ∧ j = .int .i64 hi ∧ lo ≤ hi ∧ hi ≤ ts.length ∧ (∀ (t : Nat) (x : Tm), t < lo → ts[t]? = some x → cB x.lo row = -1) ∧ (∀ (t : Nat) (x : Tm), hi ≤ t → ts[t]? = some x → ¬ cB x.lo row = -1) ∧ Below w.heap.size w wr) (fun i j _ => (intOf j).toNat - (intOf i).toNat)
  case atStart => exact ⟨0, ts.length, rfl, rfl, Nat.zero_le _, Nat.le_refl _, fun t x ht => by omega, fun t x ht hx => by have := (List.getElem?_eq_some_iff.1 hx).1; omega, Below.refl _ _⟩
  case round =>
    obtain ⟨lo, hi, rfl, rfl, hlh, hhi, hA, hZ, hb⟩ := hrel
    have HA : Hid ((∀ (t : Nat) (x : Tm), t < lo → ts[t]? = some x → cB x.lo row = -1) ∧ (∀ (t : Nat) (x : Tm), hi ≤ t → ts[t]? = some x → ¬ cB x.lo row = -1)) := ⟨hA, hZ⟩
    have hs := hb.size
    clear hA hZ
    by_cases hlt : lo < hi
    · have zl : (lo : Int) < (hi : Int) := by omega
      go_upto_region 5 with fail
      obtain ⟨m, hm⟩ : ∃ m : Nat, m = (lo + hi) / 2 := ⟨_, rfl⟩
      have em : ((lo : Int) + (hi : Int)) / 2 = (m : Int) := by omega
      have hm1 : lo ≤ m := by omega
      have hm2 : m < hi := by omega
      rw [em]
      clear em hm
      obtain ⟨v, hv⟩ : ∃ v, ts[m]? = some v := ⟨_, List.getElem?_eq_getElem (by omega)⟩
      obtain ⟨q0, q1, _⟩ := (HE.out.below hb hB) m v hv
      have HV : Hid (ts[m]? = some v) := hv
      clear hv
      have zm : (m : Int) < (ts.length : Int) := by omega
      go_wp2_with fail
      refine (compareLo_any v.lo _ _ _ row _).mono ?_
      rintro e w2 ⟨rfl, hb2'⟩
      have hb2 : Below w.heap.size w w2 := hb.trans (hb2'.mono hs)
      clear q0 q1 hb2'
      by_cases hk : cB v.lo row < 0
      · have HK : Hid (cB v.lo row = -1) := by
          rcases cB_vals v.lo row with h | h | h
          · exact h
          · omega
          · omega
        have HN : Hid (∀ (t : Nat) (x : Tm), t < m + 1 → ts[t]? = some x → cB x.lo row = -1) := fun t x ht hx => HM.out t m x v (by omega) hx HV.out HK.out
        go_wp2_with fail
        go_roundw
        case rel => exact ⟨m + 1, hi, by go_num, rfl, by omega, hhi, HN.out, HA.out.2, hb2⟩
        case measure => go_light; simp [intOf]; omega
      · have HN : Hid (∀ (t : Nat) (x : Tm), m ≤ t → ts[t]? = some x → ¬ cB x.lo row = -1) := fun t x ht hx q => by
          have := HM.out m t v x ht HV.out hx q
          omega
        go_wp2_with fail
        go_roundw
        case rel => exact ⟨lo, m, rfl, rfl, hm1, by omega, HA.out.1, HN.out, hb2⟩
        case measure => go_light; simp [intOf]; omega
    · obtain rfl : lo = hi := by omega
      have HC : Hid (CutLo ts row lo) := ⟨hhi, HA.out.1, HA.out.2⟩
      have zl : ¬ (lo : Int) < (lo : Int) := by omega
      by_cases hn : lo < ts.length
      · obtain ⟨v, hv⟩ : ∃ v, ts[lo]? = some v := ⟨_, List.getElem?_eq_getElem hn⟩
        obtain ⟨q0, q1, _⟩ := (HE.out.below hb hB) lo v hv
        have HV : Hid (ts[lo]? = some v) := hv
        clear hv
        have zm : (lo : Int) < (ts.length : Int) := by omega
        go_wp2_with fail
        refine (compareLo_any v.lo _ _ _ row _).mono ?_
        rintro e w2 ⟨rfl, hb2'⟩
        have hb2 : Below w.heap.size w w2 := hb.trans (hb2'.mono hs)
        clear q0 q1 hb2'
        have HF : Hid ((cB v.lo row == 0) = true ↔ ∃ t, ts[lo]? = some t ∧ cB t.lo row = 0) := by
          show _ ↔ _
          rw [beq_iff_eq]
          constructor
          · intro q; exact ⟨v, HV.out, q⟩
          · rintro ⟨t, ht, q⟩
            rw [HV.out] at ht
            cases ht
            exact q
        go_wp2_with fail
        go_ret2
        exact ⟨lo, _, rfl, HC.out, HF.out, hb2⟩
      · have zm : ¬ (lo : Int) < (ts.length : Int) := by omega
        have HF : Hid (¬ ∃ t, ts[lo]? = some t ∧ cB t.lo row = 0) := fun ⟨t, ht, _⟩ => by have := (List.getElem?_eq_some_iff.1 ht).1; omega
        go_wp2_with fail
        go_ret2
        exact ⟨lo, false, rfl, HC.out, iffF HF.out, hb⟩

theorem mono_lo {ts : List Tm} (h : GoodS (tbs ts)) (row : ByteArray) : ∀ (i j : Nat) (x y : Tm), i ≤ j → ts[i]? = some x → ts[j]? = some y → cB y.lo row = -1 → cB x.lo row = -1 := by
  intro i j x y hij hx hy hk
  by_cases e : i = j
  · subst e; rw [hx] at hy; cases hy; exact hk
  · have hl := los_up h (j - i - 1) i x.tb y.tb (by rw [tbs_get, hx]; rfl) (by rw [tbs_get, show i + (j - i - 1) + 1 = j by omega, hy]; rfl)
    exact cB_trans ((cB_less_iff x.lo y.lo).1 hl) hk

set_option maxHeartbeats 2000000 in
theorem implHolder_core (b off cap : Nat) (ts : List Tm) (row : ByteArray) (i : Nat) (w : World) (h : TmsAt w b off ts) (hB : b < w.heap.size) (hn : ts.length ≤ 1048576) (hg : GoodS (tbs ts)) (hh : HoldAt (tbs ts) row i) :
    Calls Try.prog 30 #[.agg #[.slice (some ⟨b, off, none⟩) ts.length cap], .string row] w fun e w' => e = .returned (.int .i64 i) ∧ Below w.heap.size w w' := by
  obtain ⟨W0, hW0⟩ : ∃ W0 : World, W0 = w.alloc (Obj.cells #[.slice (some ⟨b, off, none⟩) ts.length cap] 28) := ⟨_, rfl⟩
  have hb0 : Below w.heap.size w W0 := by rw [hW0]; exact (Below.refl _ _).alloc (Nat.le_refl _) _
  have hz0 : W0.heap.size = w.heap.size + 1 := by rw [hW0]; simp
  have HT : Hid (TmsAt W0 b off ts ∧ GoodS (tbs ts) ∧ HoldAt (tbs ts) row i) := ⟨h.below hb0 hB, hg, hh⟩
  have hil : i < ts.length := by have := hh.1; rw [tbs_len] at this; exact this
  clear h hh hg
  go_enter Try.func30, Try.ntmps30
  go_wp2_with fail
  rw [← hW0]
  clear hW0
  refine (bsearchT_core b off cap ts row _ HT.out.1 (by omega) hn (mono_lo HT.out.2.1 row)).mono ?_
  rintro e w1 ⟨c, f, rfl, hc, hf, hb1⟩
  have hbw : Below w.heap.size w w1 := hb0.trans (hb1.mono (by omega))
  obtain ⟨t, ht⟩ : ∃ t, ts[i]? = some t := ⟨_, List.getElem?_eq_getElem hil⟩
  have hhi : ∀ (j : Nat) (u : Tm), ts[j]? = some u → (j ≤ i ↔ ¬ cB row u.lo = -1) := fun j u hj => by
    have h1 := HT.out.2.2.2 j u.tb (by rw [tbs_get, hj]; rfl)
    have h2 : Op.bytesLess row.toList u.tb.lo.toList = Op.bytesLess row.toList u.lo.toList := rfl
    rw [h2] at h1
    rw [h1, ← cB_less_iff]
    cases Op.bytesLess row.toList u.lo.toList <;> simp
  cases f
  · -- it begins before the row: the next one is found
    have HC : Hid (c = i + 1) := by
      show c = i + 1
      have e1 : cB t.lo row = -1 := by
        have h1 := (hhi i t ht).1 (Nat.le_refl _)
        rw [cB_neg t.lo row] at h1
        rcases cB_vals t.lo row with q | q | q
        · exact q
        · -- it would have been found
          exfalso
          have hci : c = i := by
            rcases Nat.lt_trichotomy c i with q1 | q1 | q1
            · exfalso
              have hx := List.getElem?_eq_getElem (show c < ts.length by omega)
              have h3 := hc.2.2 c _ (Nat.le_refl _) hx
              have h4 := los_up HT.out.2.1 (i - c - 1) c _ t.tb (by rw [tbs_get, hx]; rfl) (by rw [tbs_get, show c + (i - c - 1) + 1 = i by omega, ht]; rfl)
              have h5 := (cB_less_iff _ _).1 h4
              have h6 : t.lo = row := cB_zero.1 q
              have h7 : t.tb.lo = t.lo := rfl
              rw [h7, h6] at h5
              exact h3 h5
            · exact q1
            · exfalso
              have h3 := hc.2.1 i t q1 ht
              omega
          have := hf.2 ⟨t, by rw [hci]; exact ht, q⟩
          cases this
        · exact absurd (by rw [q]) h1
      have h8 : ¬ c ≤ i := fun q => hc.2.2 i t q ht e1
      by_cases q : c = i + 1
      · exact q
      · exfalso
        have hx := List.getElem?_eq_getElem (show i + 1 < ts.length by have := hc.1; omega)
        have h9 := hc.2.1 (i + 1) _ (by omega) hx
        have h10 := (hhi (i + 1) _ hx)
        have : ¬ cB row (ts[i + 1]'(by have := hc.1; omega)).lo = -1 := by rw [cB_neg, h9]; decide
        have := h10.2 this
        omega
    have hci := HC.out
    clear hf hhi hc ht
    have hcn : c ≤ 1048577 := by omega
    go_wp2_with fail
    go_ret
    exact ⟨rfl, hbw⟩
  · have HC : Hid (c = i) := by
      obtain ⟨u, hu, hq⟩ := hf.1 rfl
      have h1 : c ≤ i := (hhi c u hu).2 (by rw [cB_neg, hq]; decide)
      by_cases q : c = i
      · exact q
      · exfalso
        have h4 := los_up HT.out.2.1 (i - c - 1) c u.tb t.tb (by rw [tbs_get, hu]; rfl) (by rw [tbs_get, show c + (i - c - 1) + 1 = i by omega, ht]; rfl)
        have h5 := (cB_less_iff _ _).1 h4
        have h6 : u.lo = row := cB_zero.1 hq
        have h7 : u.tb.lo = u.lo := rfl
        have h8 : t.tb.lo = t.lo := rfl
        rw [h7, h6, h8] at h5
        exact (hhi i t ht).1 (Nat.le_refl _) h5
    clear hf hhi hc ht
    go_wp2_with fail
    go_ret
    exact ⟨by rw [HC.out]; rfl, hbw⟩
end Go.Proofs.Ytlgeffinhbodeaf

