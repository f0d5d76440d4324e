/-
  slices.BinarySearchFunc over entries; impl.firstAt, impl.entriesIn.
-/
import Derived.Test.YtlgeffinhbodeaeQRms
import Derived.Test.YtlgeffinhbodeaeQSub
import Derived.Test.YtlgeffinhbodeaeQSays
namespace Go.Proofs.Ytlgeffinhbodeae
open Go.ChangeShapes Go.WideShapes Go.ChangeAt Go.RowKit Go.Deep
set_option linter.unusedVariables false
set_option linter.unusedSimpArgs false
set_option maxRecDepth 100000

/-- Up to 'i' the entries stand before the key, from there on they don't. -/
def CutAt (es : List Ent) (k : Ent) (i : Nat) : Prop := i ≤ es.length ∧ (∀ (t : Nat) (x : Ent), t < i → es[t]? = some x → keyCmp x k = -1) ∧ (∀ (t : Nat) (x : Ent), i ≤ t → es[t]? = some x → ¬ keyCmp x k = -1)

set_option maxHeartbeats 4000000 in
theorem bsearch_core (b off cap : Nat) (es : List Ent) (e : Ent) (w : World) (hE : EntsAt w b off es) (hB : b < w.heap.size) (hlen : es.length ≤ 1048576)
    (hmono : ∀ (i j : Nat) (x y : Ent), i ≤ j → es[i]? = some x → es[j]? = some y → keyCmp y e = -1 → keyCmp x e = -1) :
    Calls Try.prog 162 #[.slice (some ⟨b, off, none⟩) es.length cap, .agg #[.string e.row, .string e.fam, .string e.qual, .int .u64 e.ts, .int .i64 e.kind, .string e.val], .func (.func 62) #[] #[]] w fun r w' =>
      ∃ (i : Nat) (f : Value), r = .returned (.tuple #[.int .i64 i, f]) ∧ CutAt es e i ∧ Below w.heap.size w w' := by
  obtain ⟨W0, hW0⟩ : ∃ W0 : World, W0 = w.alloc (Obj.cells #[.string e.row, .string e.fam, .string e.qual, .int .u64 e.ts, .int .i64 e.kind, .string e.val] 85) := ⟨_, rfl⟩
  have hb0 : Below w.heap.size w W0 := by rw [hW0]; exact (Below.refl _ _).alloc (Nat.le_refl _) _
  have hz0 : w.heap.size < W0.heap.size := by rw [hW0]; simp
  have HE : Hid (EntsAt W0 b off es) := hE.below hb0 hB
  have HX : Hid (EntsAt W0 w.heap.size 0 [e]) := by show EntsAt W0 w.heap.size 0 [e]; rw [hW0]; exact ent_box w e
  have HM : Hid (∀ (i j : Nat) (x y : Ent), i ≤ j → es[i]? = some x → es[j]? = some y → keyCmp y e = -1 → keyCmp x e = -1) := hmono
  clear hE hmono
  go_enter Try.func162, Try.ntmps162
  go_wp2_with fail
  rw [← hW0]
  clear hW0
  go_loopw [9, 10] (fun i j wr => ∃ lo hi : Nat, i = .int .i64 lo ∧ j = .int .i64 hi ∧ lo ≤ hi ∧ hi ≤ es.length ∧ (∀ (t : Nat) (x : Ent), t < lo → es[t]? = some x → keyCmp x e = -1) ∧ (∀ (t : Nat) (x : Ent), hi ≤ t → es[t]? = some x → ¬ keyCmp x e = -1) ∧ Below W0.heap.size W0 wr) (fun i j _ => (intOf j).toNat - (intOf i).toNat)
  case atStart => exact ⟨0, es.length, rfl, rfl, Nat.zero_le _, Nat.le_refl _, fun t x ht => by omega, fun t x ht hx => by have := (List.getElem?_eq_some_iff.1 hx).1; omega, Below.refl _ _⟩
  case round =>
    obtain ⟨lo, hi, rfl, rfl, hlh, hhi, hA, hZ, hb⟩ := hrel
    have HA : Hid ((∀ (t : Nat) (x : Ent), t < lo → es[t]? = some x → keyCmp x e = -1) ∧ (∀ (t : Nat) (x : Ent), hi ≤ t → es[t]? = some x → ¬ keyCmp x e = -1)) := ⟨hA, hZ⟩
    have hs := hb.size
    clear hA hZ
    by_cases hlt : lo < hi
    · have zl : (lo : Int) < (hi : Int) := by omega
      go_upto_region 5 with fail
      obtain ⟨m, hm⟩ : ∃ m : Nat, m = (lo + hi) / 2 := ⟨_, rfl⟩
      have em : ((lo : Int) + (hi : Int)) / 2 = (m : Int) := by omega
      have hm1 : lo ≤ m := by omega
      have hm2 : m < hi := by omega
      rw [em]
      clear em hm
      obtain ⟨v, hv⟩ : ∃ v, es[m]? = some v := ⟨_, List.getElem?_eq_getElem (by omega)⟩
      obtain ⟨q0, q1, q2, q3, q4, q5⟩ := ents_out (HE.out.below hb (by omega)) (by omega) hv
      obtain ⟨r0, r1, r2, r3, r4, r5⟩ := ents_out (HX.out.below hb (by omega)) (by omega) (rfl : [e][0]? = some e)
      simp only [Nat.zero_add, Nat.zero_mul] at q0 q1 q2 q3 q4 q5 r0 r1 r2 r3 r4 r5
      have HV : Hid (es[m]? = some v) := hv
      clear hv
      have inh : Nonempty (Out wr) := ⟨⟨wr, Below.refl _ _⟩⟩
      have zm : (m : Int) < (es.length : Int) := by omega
      refine wp_region_out (by kernel_rfl) (by kernel_rfl) ?_
      repeat (go_big_quiet_step ((go_at_call 62; exact Calls.out_of (compare_any v e _))))
      refine wpQuiet_nil ?_
      rintro wy ⟨⟨wx, hby⟩, rfl⟩
      have hb2 : Below W0.heap.size W0 wy := hb.trans (hby.mono hs)
      clear q0 q1 q2 q3 q4 q5 r0 r1 r2 r3 r4 r5
      by_cases hk : keyCmp v e < 0
      · have HK : Hid (keyCmp v e = -1) := by
          rcases keyCmp_vals v e with h | h | h
          · exact h
          · omega
          · omega
        have HN : Hid (∀ (t : Nat) (x : Ent), t < m + 1 → es[t]? = some x → keyCmp x e = -1) := fun t x ht hx => HM.out t m x v (by omega) hx HV.out HK.out
        go_wp2_with fail
        go_roundw
        case rel => exact ⟨m + 1, hi, by go_num, rfl, by omega, hhi, HN.out, HA.out.2, hb2⟩
        case measure => go_light; simp [intOf]; omega
      · have HN : Hid (∀ (t : Nat) (x : Ent), m ≤ t → es[t]? = some x → ¬ keyCmp x e = -1) := fun t x ht hx q => by
          have := HM.out m t v x ht HV.out hx q
          omega
        go_wp2_with fail
        go_roundw
        case rel => exact ⟨lo, m, rfl, rfl, hm1, by omega, HA.out.1, HN.out, hb2⟩
        case measure => go_light; simp [intOf]; omega
    · obtain rfl : lo = hi := by omega
      have HC : Hid (CutAt es e lo) := ⟨hhi, HA.out.1, HA.out.2⟩
      have hbw : Below w.heap.size w wr := hb0.trans (hb.mono (by omega))
      have zl : ¬ (lo : Int) < (lo : Int) := by omega
      by_cases hn : lo < es.length
      · obtain ⟨v, hv⟩ : ∃ v, es[lo]? = some v := ⟨_, List.getElem?_eq_getElem hn⟩
        have zm : (lo : Int) < (es.length : Int) := by omega
        go_upto_region 8 with fail
        obtain ⟨q0, q1, q2, q3, q4, q5⟩ := ents_out (HE.out.below hb (by omega)) (by omega) hv
        obtain ⟨r0, r1, r2, r3, r4, r5⟩ := ents_out (HX.out.below hb (by omega)) (by omega) (rfl : [e][0]? = some e)
        simp only [Nat.zero_add, Nat.zero_mul] at q0 q1 q2 q3 q4 q5 r0 r1 r2 r3 r4 r5
        clear hv
        have inh : Nonempty (Out wr) := ⟨⟨wr, Below.refl _ _⟩⟩
        refine wp_region_out (by kernel_rfl) (by kernel_rfl) ?_
        repeat (go_big_quiet_step ((go_at_call 62; exact Calls.out_of (compare_any v e _))))
        refine wpQuiet_nil ?_
        rintro wy ⟨⟨wx, hby⟩, rfl⟩
        go_wp2_with fail
        go_ret2
        first | exact ⟨lo, _, rfl, HC.out, hbw.trans (hby.mono (by have := hbw.size; omega))⟩ | exact ⟨lo, ⟨_, rfl⟩, HC.out, hbw.trans (hby.mono (by have := hbw.size; omega))⟩
      · have zm : ¬ (lo : Int) < (es.length : Int) := by omega
        go_upto_region 8 with fail
        have inh : Nonempty (Out wr) := ⟨⟨wr, Below.refl _ _⟩⟩
        refine wp_region_out (by kernel_rfl) (by kernel_rfl) ?_
        repeat (go_big_quiet_step (fail))
        refine wpQuiet_nil ?_
        rintro wy ⟨⟨wx, hby⟩, rfl⟩
        go_wp2_with fail
        go_ret2
        first | exact ⟨lo, _, rfl, HC.out, hbw.trans (hby.mono (by have := hbw.size; omega))⟩ | exact ⟨lo, ⟨_, rfl⟩, HC.out, hbw.trans (hby.mono (by have := hbw.size; omega))⟩

/-- It stands before every valid entry of the row. -/
def lstE (row : ByteArray) : Ent := ⟨row, ⟨#[]⟩, ⟨#[]⟩, 18446744073709551615, 2, ⟨#[]⟩⟩
theorem cB_empty {a : ByteArray} (h : 1 ≤ a.size) : cB a ⟨#[]⟩ = 1 := by
  obtain ⟨⟨l⟩⟩ := a
  cases l with
  | nil => simp [ByteArray.size] at h
  | cons x l => simp [cB, Lib.compareBytes]
theorem cB_less_iff (a b : ByteArray) : Op.bytesLess a.toList b.toList = true ↔ cB a b = -1 := by
  constructor
  · exact cB_less
  · intro h
    cases hl : Op.bytesLess a.toList b.toList
    · cases he : (a.toList == b.toList)
      · have := cB_more hl he
        omega
      · have : a = b := toList_inj (by simpa using he)
        subst this
        have := cB_zero.2 (rfl : a = a)
        omega
    · rfl
theorem least_iff {x : Ent} (hv : x.vld = true) (row : ByteArray) : keyCmp x (lstE row) = -1 ↔ Op.bytesLess x.row.toList row.toList = true := by
  have hf : 1 ≤ x.fam.size := by
    unfold Ent.vld vE at hv
    have := of_decide_eq_true hv
    omega
  rw [cB_less_iff]
  unfold keyCmp lstE firstOf
  simp only [cB_empty hf]
  by_cases h : cB x.row row = 0
  · simp [h]
  · simp [h]
/-- Where a row begins. -/
def RowAt (es : List Ent) (row : ByteArray) (i : Nat) : Prop := i ≤ es.length ∧ ∀ (t : Nat) (x : Ent), es[t]? = some x → (t < i ↔ Op.bytesLess x.row.toList row.toList = true)
theorem rowAt_of {es : List Ent} (hg : GoodR es) {row : ByteArray} {i : Nat} (h : CutAt es (lstE row) i) : RowAt es row i := by
  refine ⟨h.1, fun t x hx => ?_⟩
  have hv := hg.1.2 x (List.mem_of_getElem? hx)
  rw [← least_iff hv]
  constructor
  · intro ht; exact h.2.1 t x ht hx
  · intro hk
    by_cases ht : t < i
    · exact ht
    · exact absurd hk (h.2.2 t x (by omega) hx)

set_option maxHeartbeats 1000000 in
theorem firstAt_core (r : Rm) (row : ByteArray) (w : World) (hr : r.at w) (hg : GoodR r.es) :
    Calls Try.prog 130 #[.agg #[.slice (some ⟨r.b, r.off, none⟩) r.es.length r.cap], .string row] w fun e w' =>
      ∃ i : Nat, e = .returned (.int .i64 i) ∧ RowAt r.es row i ∧ Below w.heap.size w w' := by
  obtain ⟨rb, ro, rc, es⟩ := r
  simp only at *
  obtain ⟨Wa, hWa⟩ : ∃ Wa : World, Wa = w.alloc (Obj.cells #[.slice (some ⟨rb, ro, none⟩) es.length rc] 30) := ⟨_, rfl⟩
  obtain ⟨W0, hW0⟩ : ∃ W0 : World, W0 = Wa.alloc (Obj.cells #[.string row, .string ⟨#[]⟩, .string ⟨#[]⟩, .int .u64 18446744073709551615, .int .i64 2, .string ⟨#[]⟩] 85) := ⟨_, rfl⟩
  have hba : Below w.heap.size w Wa := by rw [hWa]; exact (Below.refl _ _).alloc (Nat.le_refl _) _
  have hza : Wa.heap.size = w.heap.size + 1 := by rw [hWa]; simp
  have hbb : Below Wa.heap.size Wa W0 := by rw [hW0]; exact (Below.refl _ _).alloc (Nat.le_refl _) _
  have HR : Hid (EntsAt W0 rb ro es ∧ rb < W0.heap.size) := ⟨(hr.below hba).ents.below hbb (hr.below hba).lt, ((hr.below hba).below hbb).lt⟩
  have hb0 : Below w.heap.size w W0 := hba.trans (hbb.mono (by omega))
  have hL : es.length ≤ 1048576 := by have := hg.1.1; omega
  have HG : Hid (GoodR es) := hg
  have HM : Hid (∀ (i j : Nat) (x y : Ent), i ≤ j → es[i]? = some x → es[j]? = some y → keyCmp y (lstE row) = -1 → keyCmp x (lstE row) = -1) := by
    intro i j x y hij hx hy hk
    by_cases h : i = j
    · subst h; rw [hx] at hy; simp at hy; subst hy; exact hk
    · exact keyCmp_trans (ord_get (ord_of_good hg) (by omega) hx hy) hk
  clear hr hg
  go_enter Try.func130, Try.ntmps130
  go_wp2_with fail
  rw [← hWa, ← hW0]
  clear hWa hW0
  refine (bsearch_core rb ro rc es (lstE row) _ HR.out.1 HR.out.2 hL HM.out).mono ?_
  rintro e w1 ⟨i, f, rfl, hc, hb1⟩
  have HC : Hid (RowAt es row i) := rowAt_of HG.out hc
  have hbw := hb0.trans (hb1.mono hb0.size)
  clear hc hb1
  go_wp2_with fail
  go_ret
  exact ⟨i, rfl, HC.out, hbw⟩
end Go.Proofs.Ytlgeffinhbodeae
