/-
  The tablet that holds a row: spec.l7Holder, impl's holder.
-/
import Derived.Test.YtlgeffinhbodeaeQVStI
namespace Go.Proofs.Ytlgeffinhbodeae
open Go.ChangeShapes Go.WideShapes Go.ChangeAt Go.RowKit Go.Deep
set_option linter.unusedVariables false
set_option linter.unusedSimpArgs false
set_option maxRecDepth 100000

/-- The tablets up to 'i' begin no later than the row, the others do. -/
def HoldAt (ts : List Tb) (row : ByteArray) (i : Nat) : Prop := i < ts.length ∧ ∀ (j : Nat) (t : Tb), ts[j]? = some t → (j ≤ i ↔ Op.bytesLess row.toList t.lo.toList = false)
theorem less_trans {a b c : ByteArray} (h1 : Op.bytesLess a.toList b.toList = true) (h2 : Op.bytesLess b.toList c.toList = true) : Op.bytesLess a.toList c.toList = true :=
  (cB_less_iff a c).2 (cB_trans ((cB_less_iff a b).1 h1) ((cB_less_iff b c).1 h2))
theorem los_up {ts : List Tb} (h : GoodS ts) : ∀ (n j : Nat) (x y : Tb), ts[j]? = some x → ts[j + n + 1]? = some y → Op.bytesLess x.lo.toList y.lo.toList = true := by
  intro n
  induction n with
  | zero =>
    intro j x y hx hy
    exact (h.tabs (j + 1) y (by simpa using hy)).up x (by omega) (by simpa using hx)
  | succ n ih =>
    intro j x y hx hy
    obtain ⟨z, hz⟩ : ∃ z, ts[j + n + 1]? = some z := ⟨_, List.getElem?_eq_getElem (by have := (List.getElem?_eq_some_iff.1 hy).1; omega)⟩
    have h1 := ih j x z hx hz
    have h2 := (h.tabs (j + (n + 1) + 1) y hy).up z (by omega) (by rw [show j + (n + 1) + 1 - 1 = j + n + 1 by omega]; exact hz)
    exact less_trans h1 h2
theorem size_emptyL {b : ByteArray} (h : b.size = 0) : b.toList = [] := List.isEmpty_iff.1 (by rw [isE]; exact decide_eq_true h)
theorem less_empty (a b : ByteArray) (h : b.size = 0) : Op.bytesLess a.toList b.toList = false := by
  have hb : b.toList = [] := by
    have := size_emptyL h
    exact this
  rw [hb]
  cases a.toList <;> simp [Op.bytesLess]
theorem hold_ex {ts : List Tb} (h : GoodS ts) (row : ByteArray) : ∃ i, HoldAt ts row i := by
  obtain ⟨c, hc, hp⟩ := cut_ex (fun t : Tb => !Op.bytesLess row.toList t.lo.toList) ts (fun i j x y hij hx hy hk => by
    by_cases e : i = j
    · subst e; rw [hx] at hy; cases hy; exact hk
    · have hl := los_up h (j - i - 1) i x y hx (by rw [show i + (j - i - 1) + 1 = j by omega]; exact hy)
      cases hq : Op.bytesLess row.toList x.lo.toList
      · rfl
      · have := less_trans hq hl
        simp only [this] at hk
        cases hk)
  obtain ⟨t, ht⟩ : ∃ t, ts[0]? = some t := ⟨_, List.getElem?_eq_getElem (by have := h.ne; omega)⟩
  have h0 : 0 < c := (hp 0 t ht).2 (by rw [less_empty row t.lo (h.first t ht)]; rfl)
  refine ⟨c - 1, by omega, fun j t hj => ?_⟩
  have := hp j t hj
  constructor
  · intro q
    have := this.1 (by omega)
    simpa using this
  · intro q
    have := this.2 (by rw [q]; rfl)
    omega
theorem hold_uniq {ts : List Tb} {row : ByteArray} {i j : Nat} (h : HoldAt ts row i) (k : HoldAt ts row j) : i = j := by
  have hi := List.getElem?_eq_getElem h.1
  have hj := List.getElem?_eq_getElem k.1
  have h1 := (k.2 i _ hi).2 ((h.2 i _ hi).1 (Nat.le_refl _))
  have h2 := (h.2 j _ hj).2 ((k.2 j _ hj).1 (Nat.le_refl _))
  omega

set_option maxHeartbeats 2000000 in
theorem specHolder_core (b off cap : Nat) (ts : List Tm) (row : ByteArray) (i : Nat) (w : World) (h : TmsAt w b off ts) (hB : b < w.heap.size) (hn : ts.length ≤ 1048576) (hh : HoldAt (tbs ts) row i) :
    Calls Try.prog 74 #[.agg #[.slice (some ⟨b, off, none⟩) ts.length cap], .string row] w fun e w' => e = .returned (.int .i64 i) ∧ Below w.heap.size w w' := by
  obtain ⟨W0, hW0⟩ : ∃ W0 : World, W0 = w.alloc (Obj.cells #[.slice (some ⟨b, off, none⟩) ts.length cap] 66) := ⟨_, rfl⟩
  have hb0 : Below w.heap.size w W0 := by rw [hW0]; exact (Below.refl _ _).alloc (Nat.le_refl _) _
  have c0 : W0.cell? ⟨w.heap.size, 0, none⟩ = some (.slice (some ⟨b, off, none⟩) ts.length cap) := by rw [hW0]; simp
  have HT : Hid (TmsAt W0 b off ts ∧ HoldAt (tbs ts) row i) := ⟨h.below hb0 hB, hh⟩
  have hil : i < ts.length := by have := hh.1; rw [tbs_len] at this; exact this
  clear h hh
  go_enter Try.func74, Try.ntmps74
  go_wp2_with fail
  rw [← hW0]
  clear hW0
  go_loopw [5, 6] (fun a j wr => ∃ (m x : Nat), m ≤ ts.length ∧ j = .int .i64 m ∧ a = .int .i64 x ∧ x = min (m - 1) i ∧ wr = W0) (fun _ j _ => ts.length - (intOf j).toNat)
  case atStart => exact ⟨0, 0, Nat.zero_le _, rfl, rfl, by omega, rfl⟩
  case round =>
    obtain ⟨m, x, hm, rfl, rfl, hx, rfl⟩ := hrel
    have HX : Hid (x = min (m - 1) i) := hx
    clear hx
    by_cases hlt : m < ts.length
    · obtain ⟨t, ht⟩ : ∃ t, ts[m]? = some t := ⟨_, List.getElem?_eq_getElem hlt⟩
      obtain ⟨d0, _⟩ := HT.out.1 m t ht
      have hq := HT.out.2.2 m t.tb (by rw [tbs_get, ht]; rfl)
      have hlo : t.tb.lo = t.lo := rfl
      rw [hlo] at hq
      have zm : (m : Int) < (ts.length : Int) := by omega
      cases hl : Op.bytesLess row.toList t.lo.toList
      · have hle : (Op.bytesLess t.lo.toList row.toList || t.lo.toList == row.toList) = true := by rw [le_less, hl]; rfl
        have hmi : m ≤ i := hq.2 hl
        clear hq ht hl
        go_wp2_with fail
        go_roundw
        case rel => go_light; exact ⟨m + 1, m, by omega, by go_num, rfl, by omega, by first | rfl | trivial⟩
        case measure => go_light; simp [intOf]; omega
      · have hle : (Op.bytesLess t.lo.toList row.toList || t.lo.toList == row.toList) = false := by rw [le_less, hl]; rfl
        have hmi : ¬ m ≤ i := fun q => by have := hq.1 q; rw [hl] at this; cases this
        clear hq ht hl
        go_wp2_with fail
        go_roundw
        case rel => go_light; exact ⟨m + 1, x, by omega, by go_num, rfl, by have := HX.out; omega, by first | rfl | trivial⟩
        case measure => go_light; simp [intOf]; omega
    · have zm : ¬ (m : Int) < (ts.length : Int) := by omega
      have HXI : Hid (x = i) := by
        have := HX.out
        show x = i
        omega
      go_wp2_with fail
      go_ret
      exact ⟨by rw [HXI.out]; rfl, hb0⟩

set_option maxHeartbeats 1000000 in
theorem compareLo_any (lo : ByteArray) (a : Option Addr) (n c : Nat) (row : ByteArray) (w : World) :
    Calls Try.prog 120 #[.agg #[.string lo, .slice a n c], .string row] w fun e w' => e = .returned (.int .i64 (cB lo row)) ∧ Below w.heap.size w w' := by
  go_enter Try.func120, Try.ntmps120
  go_wp2_with fail
  refine (stringsCompare_any _ _ _).mono ?_
  rintro e w' ⟨rfl, rfl⟩
  go_wp2_with fail
  go_ret
  exact ⟨rfl, (Below.refl _ _).alloc (Nat.le_refl _) _⟩

/-- Up to 'i' the tablets begin before the row, from there on they don't. -/
def CutLo (ts : List Tm) (row : ByteArray) (i : Nat) : Prop := i ≤ ts.length ∧ (∀ (j : Nat) (t : Tm), j < i → ts[j]? = some t → cB t.lo row = -1) ∧ (∀ (j : Nat) (t : Tm), i ≤ j → ts[j]? = some t → ¬ cB t.lo row = -1)

/-- What the search hands back. -/
def BsPost (ts : List Tm) (row : ByteArray) (w : World) (r : Ending) (w' : World) : Prop := ∃ (i : Nat) (f : Bool), r = .returned (.tuple #[.int .i64 i, .bool f]) ∧ CutLo ts row i ∧ (f = true ↔ ∃ t, ts[i]? = some t ∧ cB t.lo row = 0) ∧ Below w.heap.size w w'

set_option maxHeartbeats 4000000 in
theorem bsearchT_core (b off cap : Nat) (ts : List Tm) (row : ByteArray) (w : World) (hE : TmsAt w b off ts) (hB : b < w.heap.size) (hlen : ts.length ≤ 1048576)
    (hmono : ∀ (i j : Nat) (x y : Tm), i ≤ j → ts[i]? = some x → ts[j]? = some y → cB y.lo row = -1 → cB x.lo row = -1) :
    Calls Try.prog 119 #[.slice (some ⟨b, off, none⟩) ts.length cap, .string row, .func (.func 120) #[] #[]] w fun r w' => BsPost ts row w r w' := by
  have HE : Hid (TmsAt w b off ts) := hE
  have HM : Hid (∀ (i j : Nat) (x y : Tm), i ≤ j → ts[i]? = some x → ts[j]? = some y → cB y.lo row = -1 → cB x.lo row = -1) := hmono
  clear hE hmono
  go_enter Try.func119, Try.ntmps119
  go_wp2_with fail
  go_loopw [9, 10] (fun i j wr => ∃ lo hi : Nat, i = .int .i64 lo ∧ j = .int .i64 hi ∧ lo ≤ hi ∧ hi ≤ ts.length ∧ (∀ (t : Nat) (x : Tm), t < lo → ts[t]? = some x → cB x.lo row = -1) ∧ (∀ (t : Nat) (x : Tm), hi ≤ t → ts[t]? = some x → ¬ cB x.lo row = -1) ∧ Below w.heap.size w wr) (fun i j _ => (intOf j).toNat - (intOf i).toNat)
  case atStart => exact ⟨0, ts.length, rfl, rfl, Nat.zero_le _, Nat.le_refl _, fun t x ht => by omega, fun t x ht hx => by have := (List.getElem?_eq_some_iff.1 hx).1; omega, Below.refl _ _⟩
  case round =>
    obtain ⟨lo, hi, rfl, rfl, hlh, hhi, hA, hZ, hb⟩ := hrel
    have HA : Hid ((∀ (t : Nat) (x : Tm), t < lo → ts[t]? = some x → cB x.lo row = -1) ∧ (∀ (t : Nat) (x : Tm), hi ≤ t → ts[t]? = some x → ¬ cB x.lo row = -1)) := ⟨hA, hZ⟩
    have hs := hb.size
    clear hA hZ
    by_cases hlt : lo < hi
    · have zl : (lo : Int) < (hi : Int) := by omega
      go_upto_region 5 with fail
      obtain ⟨m, hm⟩ : ∃ m : Nat, m = (lo + hi) / 2 := ⟨_, rfl⟩
      have em : ((lo : Int) + (hi : Int)) / 2 = (m : Int) := by omega
      have hm1 : lo ≤ m := by omega
      have hm2 : m < hi := by omega
      rw [em]
      clear em hm
      obtain ⟨v, hv⟩ : ∃ v, ts[m]? = some v := ⟨_, List.getElem?_eq_getElem (by omega)⟩
      obtain ⟨q0, q1, _⟩ := (HE.out.below hb hB) m v hv
      have HV : Hid (ts[m]? = some v) := hv
      clear hv
      have zm : (m : Int) < (ts.length : Int) := by omega
      go_wp2_with fail
      refine (compareLo_any v.lo _ _ _ row _).mono ?_
      rintro e w2 ⟨rfl, hb2'⟩
      have hb2 : Below w.heap.size w w2 := hb.trans (hb2'.mono hs)
      clear q0 q1 hb2'
      by_cases hk : cB v.lo row < 0
      · have HK : Hid (cB v.lo row = -1) := by
          rcases cB_vals v.lo row with h | h | h
          · exact h
          · omega
          · omega
        have HN : Hid (∀ (t : Nat) (x : Tm), t < m + 1 → ts[t]? = some x → cB x.lo row = -1) := fun t x ht hx => HM.out t m x v (by omega) hx HV.out HK.out
        go_wp2_with fail
        go_roundw
        case rel => exact ⟨m + 1, hi, by go_num, rfl, by omega, hhi, HN.out, HA.out.2, hb2⟩
        case measure => go_light; simp [intOf]; omega
      · have HN : Hid (∀ (t : Nat) (x : Tm), m ≤ t → ts[t]? = some x → ¬ cB x.lo row = -1) := fun t x ht hx q => by
          have := HM.out m t v x ht HV.out hx q
          omega
        go_wp2_with fail
        go_roundw
        case rel => exact ⟨lo, m, rfl, rfl, hm1, by omega, HA.out.1, HN.out, hb2⟩
        case measure => go_light; simp [intOf]; omega
    · obtain rfl : lo = hi := by omega
      have HC : Hid (CutLo ts row lo) := ⟨hhi, HA.out.1, HA.out.2⟩
      have zl : ¬ (lo : Int) < (lo : Int) := by omega
      by_cases hn : lo < ts.length
      · obtain ⟨v, hv⟩ : ∃ v, ts[lo]? = some v := ⟨_, List.getElem?_eq_getElem hn⟩
        obtain ⟨q0, q1, _⟩ := (HE.out.below hb hB) lo v hv
        have HV : Hid (ts[lo]? = some v) := hv
        clear hv
        have zm : (lo : Int) < (ts.length : Int) := by omega
        go_wp2_with fail
        refine (compareLo_any v.lo _ _ _ row _).mono ?_
        rintro e w2 ⟨rfl, hb2'⟩
        have hb2 : Below w.heap.size w w2 := hb.trans (hb2'.mono hs)
        clear q0 q1 hb2'
        have HF : Hid ((cB v.lo row == 0) = true ↔ ∃ t, ts[lo]? = some t ∧ cB t.lo row = 0) := by
          show _ ↔ _
          rw [beq_iff_eq]
          constructor
          · intro q; exact ⟨v, HV.out, q⟩
          · rintro ⟨t, ht, q⟩
            rw [HV.out] at ht
            cases ht
            exact q
        go_wp2_with fail
        go_ret2
        exact ⟨lo, _, rfl, HC.out, HF.out, hb2⟩
      · have zm : ¬ (lo : Int) < (ts.length : Int) := by omega
        have HF : Hid (¬ ∃ t, ts[lo]? = some t ∧ cB t.lo row = 0) := fun ⟨t, ht, _⟩ => by have := (List.getElem?_eq_some_iff.1 ht).1; omega
        go_wp2_with fail
        go_ret2
        exact ⟨lo, false, rfl, HC.out, iffF HF.out, hb⟩

theorem mono_lo {ts : List Tm} (h : GoodS (tbs ts)) (row : ByteArray) : ∀ (i j : Nat) (x y : Tm), i ≤ j → ts[i]? = some x → ts[j]? = some y → cB y.lo row = -1 → cB x.lo row = -1 := by
  intro i j x y hij hx hy hk
  by_cases e : i = j
  · subst e; rw [hx] at hy; cases hy; exact hk
  · have hl := los_up h (j - i - 1) i x.tb y.tb (by rw [tbs_get, hx]; rfl) (by rw [tbs_get, show i + (j - i - 1) + 1 = j by omega, hy]; rfl)
    exact cB_trans ((cB_less_iff x.lo y.lo).1 hl) hk

set_option maxHeartbeats 2000000 in
theorem implHolder_core (b off cap : Nat) (ts : List Tm) (row : ByteArray) (i : Nat) (w : World) (h : TmsAt w b off ts) (hB : b < w.heap.size) (hn : ts.length ≤ 1048576) (hg : GoodS (tbs ts)) (hh : HoldAt (tbs ts) row i) :
    Calls Try.prog 80 #[.agg #[.slice (some ⟨b, off, none⟩) ts.length cap], .string row] w fun e w' => e = .returned (.int .i64 i) ∧ Below w.heap.size w w' := by
  obtain ⟨W0, hW0⟩ : ∃ W0 : World, W0 = w.alloc (Obj.cells #[.slice (some ⟨b, off, none⟩) ts.length cap] 66) := ⟨_, rfl⟩
  have hb0 : Below w.heap.size w W0 := by rw [hW0]; exact (Below.refl _ _).alloc (Nat.le_refl _) _
  have hz0 : W0.heap.size = w.heap.size + 1 := by rw [hW0]; simp
  have HT : Hid (TmsAt W0 b off ts ∧ GoodS (tbs ts) ∧ HoldAt (tbs ts) row i) := ⟨h.below hb0 hB, hg, hh⟩
  have hil : i < ts.length := by have := hh.1; rw [tbs_len] at this; exact this
  clear h hh hg
  go_enter Try.func80, Try.ntmps80
  go_wp2_with fail
  rw [← hW0]
  clear hW0
  refine (bsearchT_core b off cap ts row _ HT.out.1 (by omega) hn (mono_lo HT.out.2.1 row)).mono ?_
  rintro e w1 ⟨c, f, rfl, hc, hf, hb1⟩
  have hbw : Below w.heap.size w w1 := hb0.trans (hb1.mono (by omega))
  obtain ⟨t, ht⟩ : ∃ t, ts[i]? = some t := ⟨_, List.getElem?_eq_getElem hil⟩
  have hhi : ∀ (j : Nat) (u : Tm), ts[j]? = some u → (j ≤ i ↔ ¬ cB row u.lo = -1) := fun j u hj => by
    have h1 := HT.out.2.2.2 j u.tb (by rw [tbs_get, hj]; rfl)
    have h2 : Op.bytesLess row.toList u.tb.lo.toList = Op.bytesLess row.toList u.lo.toList := rfl
    rw [h2] at h1
    rw [h1, ← cB_less_iff]
    cases Op.bytesLess row.toList u.lo.toList <;> simp
  cases f
  · -- it begins before the row: the next one is found
    have HC : Hid (c = i + 1) := by
      show c = i + 1
      have e1 : cB t.lo row = -1 := by
        have h1 := (hhi i t ht).1 (Nat.le_refl _)
        rw [cB_neg t.lo row] at h1
        rcases cB_vals t.lo row with q | q | q
        · exact q
        · -- it would have been found
          exfalso
          have hci : c = i := by
            rcases Nat.lt_trichotomy c i with q1 | q1 | q1
            · exfalso
              have hx := List.getElem?_eq_getElem (show c < ts.length by omega)
              have h3 := hc.2.2 c _ (Nat.le_refl _) hx
              have h4 := los_up HT.out.2.1 (i - c - 1) c _ t.tb (by rw [tbs_get, hx]; rfl) (by rw [tbs_get, show c + (i - c - 1) + 1 = i by omega, ht]; rfl)
              have h5 := (cB_less_iff _ _).1 h4
              have h6 : t.lo = row := cB_zero.1 q
              have h7 : t.tb.lo = t.lo := rfl
              rw [h7, h6] at h5
              exact h3 h5
            · exact q1
            · exfalso
              have h3 := hc.2.1 i t q1 ht
              omega
          have := hf.2 ⟨t, by rw [hci]; exact ht, q⟩
          cases this
        · exact absurd (by rw [q]) h1
      have h8 : ¬ c ≤ i := fun q => hc.2.2 i t q ht e1
      by_cases q : c = i + 1
      · exact q
      · exfalso
        have hx := List.getElem?_eq_getElem (show i + 1 < ts.length by have := hc.1; omega)
        have h9 := hc.2.1 (i + 1) _ (by omega) hx
        have h10 := (hhi (i + 1) _ hx)
        have : ¬ cB row (ts[i + 1]'(by have := hc.1; omega)).lo = -1 := by rw [cB_neg, h9]; decide
        have := h10.2 this
        omega
    have hci := HC.out
    clear hf hhi hc ht
    have hcn : c ≤ 1048577 := by omega
    go_wp2_with fail
    go_ret
    exact ⟨rfl, hbw⟩
  · have HC : Hid (c = i) := by
      obtain ⟨u, hu, hq⟩ := hf.1 rfl
      have h1 : c ≤ i := (hhi c u hu).2 (by rw [cB_neg, hq]; decide)
      by_cases q : c = i
      · exact q
      · exfalso
        have h4 := los_up HT.out.2.1 (i - c - 1) c u.tb t.tb (by rw [tbs_get, hu]; rfl) (by rw [tbs_get, show c + (i - c - 1) + 1 = i by omega, ht]; rfl)
        have h5 := (cB_less_iff _ _).1 h4
        have h6 : u.lo = row := cB_zero.1 hq
        have h7 : u.tb.lo = u.lo := rfl
        have h8 : t.tb.lo = t.lo := rfl
        rw [h7, h6, h8] at h5
        exact (hhi i t ht).1 (Nat.le_refl _) h5
    clear hf hhi hc ht
    go_wp2_with fail
    go_ret
    exact ⟨by rw [HC.out]; rfl, hbw⟩
end Go.Proofs.Ytlgeffinhbodeae
