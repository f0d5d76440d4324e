import Derived.Maps.AppendAt
import Derived.Lib.SliceRun
import Derived.BigQuiet
import Derived.Sort.LotB
import Derived.Deep.RegionHeld3
import Derived.Test.YtlgeffinhbodeafGreatPkAC
import Derived.Test.YtlgeffinhbodeafGreatPkAB
import Derived.Test.YtlgeffinhbodeafGreatPkAA
/-
  entriesIn with its answer told ahead; impl's validRuns, ValidStore.
-/
namespace Go.Proofs.YtlgeffinhbodeafGreat
open Go.ChangeShapes Go.WideShapes Go.ChangeAt Go.RowKit Go.Deep
set_option linter.unusedVariables false
set_option linter.unusedSimpArgs false
set_option maxRecDepth 100000

/-- Not later: not larger. -/
theorem le_less (a b : ByteArray) : (Op.bytesLess a.toList b.toList || a.toList == b.toList) = !Op.bytesLess b.toList a.toList := by
  have hn := cB_neg a b
  cases h1 : Op.bytesLess a.toList b.toList
  · cases h2 : (a.toList == b.toList)
    · have := cB_more h1 h2
      have h3 : cB b a = -1 := by rw [hn, this]
      rw [(cB_less_iff b a).2 h3]; rfl
    · have := cB_same h2
      cases h3 : Op.bytesLess b.toList a.toList
      · rfl
      · have := cB_less h3
        omega
  · have := cB_less h1
    cases h3 : Op.bytesLess b.toList a.toList
    · rfl
    · have := cB_less h3
      omega
theorem rowAt_uniq {es : List Ent} {row : ByteArray} {i j : Nat} (h : RowAt es row i) (k : RowAt es row j) : i = j := by
  rcases Nat.lt_trichotomy i j with q | q | q
  · have hl : i < es.length := by have := k.1; omega
    have hx := List.getElem?_eq_getElem hl
    have h1 := (k.2 i _ hx).1 q
    have h2 := (h.2 i _ hx).2 h1
    omega
  · exact q
  · have hl : j < es.length := by have := h.1; omega
    have hx := List.getElem?_eq_getElem hl
    have h1 := (h.2 j _ hx).1 q
    have h2 := (k.2 j _ hx).2 h1
    omega
theorem where_uniq {r p q : Rm} {lo hi : ByteArray} {hh : Bool} (hg : GoodR r.es) (h : PartOf r p lo hh hi) (h' : PartOf r q lo hh hi) (k : WhereP r p lo) (k' : WhereP r q lo) : p = q := by
  have e1 := partOf_filter h hg
  have e2 := partOf_filter h' hg
  obtain ⟨i, a1, a2, a3⟩ := k
  obtain ⟨j, b1, b2, b3⟩ := k'
  have hij := rowAt_uniq a1 b1
  subst hij
  cases p; cases q
  simp only at *
  rw [e1, e2, a2, b2, a3, b3]
  have hb := h.blk
  have hb' := h'.blk
  simp only at hb hb'
  rw [hb, hb']
theorem cut_ex {α : Type} (P : α → Bool) : ∀ (l : List α), (∀ (i j : Nat) (x y : α), i ≤ j → l[i]? = some x → l[j]? = some y → P y = true → P x = true) → ∃ i : Nat, i ≤ l.length ∧ ∀ (t : Nat) (x : α), l[t]? = some x → (t < i ↔ P x = true)
  | [], _ => ⟨0, Nat.le_refl _, fun t x h => by simp at h⟩
  | a :: l, hm => by
    cases ha : P a
    · refine ⟨0, Nat.zero_le _, fun t x hx => ⟨fun q => by omega, fun q => ?_⟩⟩
      have := hm 0 t a x (Nat.zero_le _) rfl hx q
      rw [ha] at this
      cases this
    · obtain ⟨i, h1, h2⟩ := cut_ex P l (fun i j x y hij hx hy => hm (i + 1) (j + 1) x y (by omega) (by simpa using hx) (by simpa using hy))
      refine ⟨i + 1, by simp; omega, fun t x hx => ?_⟩
      cases t with
      | zero =>
        simp at hx
        subst hx
        exact ⟨fun _ => ha, fun _ => by omega⟩
      | succ t =>
        have := h2 t x (by simpa using hx)
        rw [← this]
        omega
theorem rowAt_ex {es : List Ent} (hg : GoodR es) (row : ByteArray) : ∃ i, RowAt es row i := by
  refine cut_ex (fun x : Ent => Op.bytesLess x.row.toList row.toList) es (fun i j x y hij hx hy hk => ?_)
  have vx := hg.1.2 x (List.mem_of_getElem? hx)
  have vy := hg.1.2 y (List.mem_of_getElem? hy)
  rw [← least_iff vx]
  rw [← least_iff vy] at hk
  by_cases h : i = j
  · subst h; rw [hx] at hy; simp at hy; subst hy; exact hk
  · exact keyCmp_trans (ord_get (ord_of_good hg) (by omega) hx hy) hk
/-- The part of a run in a range, told ahead. -/
theorem part_ex {r : Rm} (hg : GoodR r.es) (hc : r.es.length ≤ r.cap) (lo hi : ByteArray) (hh : Bool) : ∃ p : Rm, PartOf r p lo hh hi ∧ WhereP r p lo ∧ p.es.length ≤ p.cap := by
  obtain ⟨i, h1⟩ := rowAt_ex hg lo
  obtain ⟨j, hj⟩ : ∃ j, (hh = true → RowAt r.es hi j) ∧ (hh = false → j = r.es.length) := by
    cases hh
    · exact ⟨r.es.length, ⟨fun q => (by cases q), fun _ => rfl⟩⟩
    · obtain ⟨j, hj⟩ := rowAt_ex hg hi
      exact ⟨j, ⟨fun _ => hj, fun q => (by cases q)⟩⟩
  have hp := part_of hg h1 hj
  have hil := h1.1
  have hjl : j ≤ r.es.length := by
    cases hh
    · rw [hj.2 rfl]; exact Nat.le_refl _
    · exact (hj.1 rfl).1
  by_cases hci : r.cap = i
  · have hn : (r.part i (max i j - i)).es = [] := List.eq_nil_of_length_eq_zero (by rw [part_len (by omega)]; omega)
    refine ⟨⟨r.b, r.off, 0, []⟩, ⟨rfl, List.Pairwise.nil, fun x => ?_, by simp⟩, ⟨i, h1, by rw [if_pos hci], by show 0 = r.cap - i; omega⟩, by simp⟩
    have := hp.mem x
    rw [hn] at this
    exact this
  · exact ⟨r.part i (max i j - i), hp, ⟨i, h1, by rw [if_neg hci]; rfl, rfl⟩, by rw [part_len (by omega)]; show max i j - i ≤ r.cap - i; omega⟩
theorem entriesIn_det (r p : Rm) (lo hi : ByteArray) (hh : Bool) (w : World) (hr : r.at w) (hg : GoodR r.es) (hp : PartOf r p lo hh hi) (hw : WhereP r p lo) :
    Calls Tryz.prog 73 #[.agg #[.slice (some ⟨r.b, r.off, none⟩) r.es.length r.cap], .agg #[.string lo, .bool hh, .string hi]] w fun e w' =>
      e = .returned (.slice (some ⟨p.b, p.off, none⟩) p.es.length p.cap) ∧ Below w.heap.size w w' :=
  (entriesIn_at r lo hi hh w hr hg).mono fun e w' ⟨q, h1, h2, h3, h4, h5⟩ => by
    have := where_uniq hg hp h3 hw h5
    subst this
    exact ⟨h1, h4⟩

theorem rowsIn_mem {lo hi : ByteArray} {hh : Bool} {l : List Rm} (h : RowsIn lo hh hi (esM l)) {r : Rm} (hr : r ∈ l) : r.es ≠ [] ∧ ∀ e ∈ r.es, inR lo hh hi e.row = true := h _ (List.mem_map.2 ⟨r, hr, rfl⟩)
theorem rowsIn_of {lo hi : ByteArray} {hh : Bool} {l : List Rm} (h : ∀ r ∈ l, r.es ≠ [] ∧ ∀ e ∈ r.es, inR lo hh hi e.row = true) : RowsIn lo hh hi (esM l) := by
  intro es he
  obtain ⟨r, hr, rfl⟩ := List.mem_map.1 he
  exact h r hr

set_option maxHeartbeats 4000000 in
theorem validRuns_core (t : Tm) (lo hi : ByteArray) (hh : Bool) (w : World) (ht : t.at w) (hok : OkTm t) :
    Calls Tryz.prog 56 #[.agg #[.string t.lo, .slice (some ⟨t.b, t.off, none⟩) t.l.length t.cap], .agg #[.string lo, .bool hh, .string hi]] w fun e w' =>
      ∃ r : Bool, e = .returned (.bool r) ∧ (r = true ↔ GoodRs (esM t.l) ∧ RowsIn lo hh hi (esM t.l)) ∧ Below w.heap.size w w' := by
  have HT : Hid (t.at w ∧ OkTm t) := ⟨ht, hok⟩
  have hn := hok.runs
  clear ht hok
  obtain ⟨Wa, hWa⟩ : ∃ Wa : World, Wa = w.alloc (Obj.cells #[.string t.lo, .slice (some ⟨t.b, t.off, none⟩) t.l.length t.cap] 56) := ⟨_, rfl⟩
  obtain ⟨W0, hW0⟩ : ∃ W0 : World, W0 = Wa.alloc (Obj.cells #[.string lo, .bool hh, .string hi] 52) := ⟨_, rfl⟩
  have hba : Below w.heap.size w Wa := by rw [hWa]; exact (Below.refl _ _).alloc (Nat.le_refl _) _
  have hza : Wa.heap.size = w.heap.size + 1 := by rw [hWa]; simp
  have hbb : Below Wa.heap.size Wa W0 := by rw [hW0]; exact (Below.refl _ _).alloc (Nat.le_refl _) _
  have hz0 : W0.heap.size = w.heap.size + 1 + 1 := by rw [hW0]; simp [hza]
  have hb0 : Below w.heap.size w W0 := hba.trans (hbb.mono (by omega))
  have HC : Hid (∀ wx, Below W0.heap.size W0 wx → wx.cell? ⟨w.heap.size, 1, none⟩ = some (.slice (some ⟨t.b, t.off, none⟩) t.l.length t.cap) ∧ wx.cell? ⟨w.heap.size + 1, 0, none⟩ = some (.string lo) ∧ wx.cell? ⟨w.heap.size + 1, 1, none⟩ = some (.bool hh) ∧ wx.cell? ⟨w.heap.size + 1, 2, none⟩ = some (.string hi)) := by
    intro wx hb
    rw [hb.cell (p := ⟨w.heap.size, 1, none⟩) (by show w.heap.size < W0.heap.size; omega), hb.cell (p := ⟨w.heap.size + 1, 0, none⟩) (by show w.heap.size + 1 < W0.heap.size; omega), hb.cell (p := ⟨w.heap.size + 1, 1, none⟩) (by show w.heap.size + 1 < W0.heap.size; omega), hb.cell (p := ⟨w.heap.size + 1, 2, none⟩) (by show w.heap.size + 1 < W0.heap.size; omega)]
    refine ⟨?_, ?_, ?_, ?_⟩
    · rw [hbb.cell (p := ⟨w.heap.size, 1, none⟩) (by show w.heap.size < Wa.heap.size; omega), hWa]; simp
    · rw [hW0, ← hza]; simp
    · rw [hW0, ← hza]; simp
    · rw [hW0, ← hza]; simp
  have HT0 : Hid (t.at W0) := (HT.out.1.below hba).below hbb
  obtain ⟨c0, c1, c2, c3⟩ := HC.out W0 (Below.refl _ _)
  go_enter Tryz.func56, Tryz.ntmps56
  go_wp2_with fail
  rw [← hWa, ← hW0]
  clear hWa hW0
  refine (validStack_core t.b t.off t.cap t.l _ HT0.out.rms HT.out.2.ents HT0.out.lt hn).mono ?_
  rintro e w1 ⟨s, rfl, hs, hb1⟩
  have HS : Hid (s = true ↔ GoodRs (esM t.l)) := hs
  have hs1 := hb1.size
  have HT1 : Hid (t.at w1) := HT0.out.below hb1
  clear hs c0 c1 c2 c3
  obtain ⟨c0, c1, c2, c3⟩ := HC.out w1 hb1
  cases s
  · have H : Hid (¬ (GoodRs (esM t.l) ∧ RowsIn lo hh hi (esM t.l))) := fun q => Bool.noConfusion (HS.out.2 q.1)
    go_wp2_with fail
    go_ret
    exact ⟨_, rfl, iffF H.out, hb0.trans (hb1.mono (by omega))⟩
  have HG : Hid (GoodRs (esM t.l)) := HS.out.1 rfl
  go_wp2_with fail
  clear c0 c1 c2 c3
  go_loopw [14] (fun i wr => ∃ (k : Nat), k ≤ t.l.length ∧ i = .int .i64 k ∧ (∀ r ∈ t.l.take k, r.es ≠ [] ∧ ∀ e ∈ r.es, inR lo hh hi e.row = true) ∧ Below w1.heap.size w1 wr) (fun i _ => t.l.length - (intOf i).toNat)
  case atStart => exact ⟨0, Nat.zero_le _, rfl, by simp, Below.refl _ _⟩
  case round =>
    obtain ⟨k, hk, rfl, hv, hb⟩ := hrel
    have HV : Hid (∀ r ∈ t.l.take k, r.es ≠ [] ∧ ∀ e ∈ r.es, inR lo hh hi e.row = true) := hv
    have hsz := hb.size
    have hbx := hb1.trans (hb.mono (by omega))
    clear hv
    by_cases hlt : k < t.l.length
    · obtain ⟨r, hr⟩ : ∃ r, t.l[k]? = some r := ⟨_, List.getElem?_eq_getElem hlt⟩
      obtain ⟨c0, ha⟩ := ((HT1.out.below hb).rms) k r hr
      have HA : Hid (r.at wr ∧ t.l[k]? = some r ∧ GoodR r.es) := ⟨ha, hr, goodRs_mem HG.out (List.mem_of_getElem? hr)⟩
      have hrl : r.es.length ≤ 1048576 := by have := HA.out.2.2.1.1; omega
      clear ha hr
      obtain ⟨W1, hW1⟩ : ∃ W1 : World, W1 = wr.alloc (Obj.cells #[.slice (some ⟨r.b, r.off, none⟩) r.es.length r.cap] 58) := ⟨_, rfl⟩
      have hbA : Below wr.heap.size wr W1 := by rw [hW1]; exact (Below.refl _ _).alloc (Nat.le_refl _) _
      have hzA : W1.heap.size = wr.heap.size + 1 := by rw [hW1]; simp
      have HA1 : Hid (r.at W1) := HA.out.1.below hbA
      have hbz : Below w1.heap.size w1 W1 := hb.trans (hbA.mono hsz)
      have cR : ∀ n : Out W1, n.u.cell? ⟨wr.heap.size, 0, none⟩ = some (.slice (some ⟨r.b, r.off, none⟩) r.es.length r.cap) := fun n => by
        rw [n.out.cell (p := ⟨wr.heap.size, 0, none⟩) (by show wr.heap.size < W1.heap.size; omega), hW1]; simp
      obtain ⟨p, hp1, hp2, hp3⟩ := part_ex HA.out.2.2 HA.out.1.len lo hi hh
      have HP : Hid (PartOf r p lo hh hi ∧ WhereP r p lo ∧ ∀ n : Out W1, r.at n.u) := ⟨hp1, hp2, fun n => HA1.out.below n.out⟩
      have hpl := hp1.len
      clear hp1 hp2 hp3
      have qq : ∀ n : Out W1, n.u.cell? ⟨w.heap.size + 1, 0, none⟩ = some (.string lo) ∧ n.u.cell? ⟨w.heap.size + 1, 1, none⟩ = some (.bool hh) ∧ n.u.cell? ⟨w.heap.size + 1, 2, none⟩ = some (.string hi) := fun n => (HC.out n.u (hb1.trans ((hbz.trans (n.out.mono (by omega))).mono (by omega)))).2
      have q1 := fun n => (qq n).1
      have q2 := fun n => (qq n).2.1
      have q3 := fun n => (qq n).2.2
      clear qq
      have zk : (k : Int) < (t.l.length : Int) := by omega
      have inh : Nonempty (Out W1) := ⟨⟨W1, Below.refl _ _⟩⟩
      by_cases hemp : r.es.length = 0
      · have H : Hid (¬ (GoodRs (esM t.l) ∧ RowsIn lo hh hi (esM t.l))) := fun q => (rowsIn_mem q.2 (List.mem_of_getElem? HA.out.2.1)).1 (List.eq_nil_of_length_eq_zero hemp)
        have hd : ((r.es.length : Int) == 0) = true := by rw [hemp]; rfl
        clear hemp
        go_upto_region 6 with fail
        rw [← hW1]
        clear hW1
        refine wp_region_out (by kernel_rfl) (by kernel_rfl) ?_
        repeat (go_big_quiet_step ((go_at_call 73; exact Calls.out_of (entriesIn_det r p lo hi hh _ (HP.out.2.2 _) HA.out.2.2 HP.out.1 HP.out.2.1))))
        refine wpQuiet_nil ?_
        rintro wy ⟨⟨wx, hby⟩, rfl⟩
        have hbw : Below w.heap.size w wy := hb0.trans ((hb1.trans ((hbz.trans (hby.mono (by omega))).mono (by omega))).mono (by omega))
        go_wp2_with fail
        go_ret
        exact ⟨_, rfl, iffF H.out, hbw⟩
      · have hd : ((r.es.length : Int) == 0) = false := beq_eq_false_iff_ne.2 (by omega)
        have HM : Hid (¬ r.es.length = 0) := hemp
        clear hemp
        go_upto_region 6 with fail
        rw [← hW1]
        clear hW1
        refine wp_region_out (by kernel_rfl) (by kernel_rfl) ?_
        repeat (go_big_quiet_step ((go_at_call 73; exact Calls.out_of (entriesIn_det r p lo hi hh _ (HP.out.2.2 _) HA.out.2.2 HP.out.1 HP.out.2.1))))
        refine wpQuiet_nil ?_
        rintro wy ⟨⟨wx, hby⟩, rfl⟩
        have hb2 : Below w1.heap.size w1 wy := hbz.trans (hby.mono (by omega))
        by_cases hall : p.es.length < r.es.length
        · have H : Hid (¬ (GoodRs (esM t.l) ∧ RowsIn lo hh hi (esM t.l))) := fun q => by
            have h1 := (rowsIn_mem q.2 (List.mem_of_getElem? HA.out.2.1)).2
            have h2 := (partOf_all HP.out.1 HA.out.2.2).2 h1
            omega
          have hbw : Below w.heap.size w wy := hb0.trans ((hb1.trans (hb2.mono (by omega))).mono (by omega))
          have zl : (p.es.length : Int) < (r.es.length : Int) := by omega
          go_wp2_with fail
          go_ret
          exact ⟨_, rfl, iffF H.out, hbw⟩
        · have zl : ¬ (p.es.length : Int) < (r.es.length : Int) := by omega
          have H : Hid (∀ r ∈ t.l.take (k + 1), r.es ≠ [] ∧ ∀ e ∈ r.es, inR lo hh hi e.row = true) := fun x hx => by
            rcases mem_take_succ HA.out.2.1 hx with h | rfl
            · exact HV.out x h
            · exact ⟨fun q => HM.out (by rw [q]; rfl), (partOf_all HP.out.1 HA.out.2.2).1 (by omega)⟩
          go_wp2_with fail
          go_roundw
          case rel => exact ⟨k + 1, by omega, by go_num, H.out, hb2⟩
          case measure => go_light; simp [intOf]; omega
    · have zk : ¬ (k : Int) < (t.l.length : Int) := by omega
      have H : Hid (GoodRs (esM t.l) ∧ RowsIn lo hh hi (esM t.l)) := ⟨HG.out, rowsIn_of (fun r hr => HV.out r (by rw [List.take_of_length_le (by omega)]; exact hr))⟩
      go_wp2_with fail
      go_ret
      exact .inr ⟨rfl, H.out, hb0.trans (hbx.mono (by omega))⟩

theorem tmsAt_out {w : World} {b off m : Nat} {l : List Tm} {r : Tm} (h : TmsAt w b off l) (hb : b < w.heap.size) (hr : l[m]? = some r) : (∀ n : Out w, n.u.cell? ⟨b, off + m * 2, none⟩ = some (.string r.lo)) ∧ (∀ n : Out w, n.u.cell? ⟨b, off + m * 2 + 1, none⟩ = some r.u) ∧ ∀ n : Out w, r.at n.u :=
  ⟨fun n => (h.below n.out hb m r hr).1, fun n => (h.below n.out hb m r hr).2.1, fun n => (h.below n.out hb m r hr).2.2⟩
theorem goodS_of {ts : List Tm} (h1 : 1 ≤ ts.length) (h2 : ts.length ≤ 100) (h3 : ∀ t, ts[0]? = some t → t.lo.size = 0) (h4 : ∀ i t, ts[i]? = some t → GoodT (tbs ts) i t.tb) : GoodS (tbs ts) := by
  refine ⟨by rw [tbs_len]; exact h1, by rw [tbs_len]; exact h2, fun t ht => ?_, fun i t ht => ?_⟩
  · rw [tbs_get] at ht
    obtain ⟨u, hu, rfl⟩ := Option.map_eq_some_iff.1 ht
    exact h3 u hu
  · rw [tbs_get] at ht
    obtain ⟨u, hu, rfl⟩ := Option.map_eq_some_iff.1 ht
    exact h4 i u hu
theorem goodS_at {ts : List Tm} (h : GoodS (tbs ts)) {i : Nat} {t : Tm} (ht : ts[i]? = some t) : GoodT (tbs ts) i t.tb := h.tabs i t.tb (by rw [tbs_get, ht]; rfl)
end Go.Proofs.YtlgeffinhbodeafGreat

/-
  The tablet that holds a row: spec.l7Holder, impl's holder.
-/
namespace Go.Proofs.YtlgeffinhbodeafGreat
open Go.ChangeShapes Go.WideShapes Go.ChangeAt Go.RowKit Go.Deep
set_option linter.unusedVariables false
set_option linter.unusedSimpArgs false
set_option maxRecDepth 100000

/-- The tablets up to 'i' begin no later than the row, the others do. -/
def HoldAt (ts : List Tb) (row : ByteArray) (i : Nat) : Prop := i < ts.length ∧ ∀ (j : Nat) (t : Tb), ts[j]? = some t → (j ≤ i ↔ Op.bytesLess row.toList t.lo.toList = false)
theorem less_trans {a b c : ByteArray} (h1 : Op.bytesLess a.toList b.toList = true) (h2 : Op.bytesLess b.toList c.toList = true) : Op.bytesLess a.toList c.toList = true :=
  (cB_less_iff a c).2 (cB_trans ((cB_less_iff a b).1 h1) ((cB_less_iff b c).1 h2))
theorem los_up {ts : List Tb} (h : GoodS ts) : ∀ (n j : Nat) (x y : Tb), ts[j]? = some x → ts[j + n + 1]? = some y → Op.bytesLess x.lo.toList y.lo.toList = true := by
  intro n
  induction n with
  | zero =>
    intro j x y hx hy
    exact (h.tabs (j + 1) y (by simpa using hy)).up x (by omega) (by simpa using hx)
  | succ n ih =>
    intro j x y hx hy
    obtain ⟨z, hz⟩ : ∃ z, ts[j + n + 1]? = some z := ⟨_, List.getElem?_eq_getElem (by have := (List.getElem?_eq_some_iff.1 hy).1; omega)⟩
    have h1 := ih j x z hx hz
    have h2 := (h.tabs (j + (n + 1) + 1) y hy).up z (by omega) (by rw [show j + (n + 1) + 1 - 1 = j + n + 1 by omega]; exact hz)
    exact less_trans h1 h2
theorem size_emptyL {b : ByteArray} (h : b.size = 0) : b.toList = [] := List.isEmpty_iff.1 (by rw [isE]; exact decide_eq_true h)
theorem less_empty (a b : ByteArray) (h : b.size = 0) : Op.bytesLess a.toList b.toList = false := by
  have hb : b.toList = [] := by
    have := size_emptyL h
    exact this
  rw [hb]
  cases a.toList <;> simp [Op.bytesLess]
theorem hold_ex {ts : List Tb} (h : GoodS ts) (row : ByteArray) : ∃ i, HoldAt ts row i := by
  obtain ⟨c, hc, hp⟩ := cut_ex (fun t : Tb => !Op.bytesLess row.toList t.lo.toList) ts (fun i j x y hij hx hy hk => by
    by_cases e : i = j
    · subst e; rw [hx] at hy; cases hy; exact hk
    · have hl := los_up h (j - i - 1) i x y hx (by rw [show i + (j - i - 1) + 1 = j by omega]; exact hy)
      cases hq : Op.bytesLess row.toList x.lo.toList
      · rfl
      · have := less_trans hq hl
        simp only [this] at hk
        cases hk)
  obtain ⟨t, ht⟩ : ∃ t, ts[0]? = some t := ⟨_, List.getElem?_eq_getElem (by have := h.ne; omega)⟩
  have h0 : 0 < c := (hp 0 t ht).2 (by rw [less_empty row t.lo (h.first t ht)]; rfl)
  refine ⟨c - 1, by omega, fun j t hj => ?_⟩
  have := hp j t hj
  constructor
  · intro q
    have := this.1 (by omega)
    simpa using this
  · intro q
    have := this.2 (by rw [q]; rfl)
    omega
theorem hold_uniq {ts : List Tb} {row : ByteArray} {i j : Nat} (h : HoldAt ts row i) (k : HoldAt ts row j) : i = j := by
  have hi := List.getElem?_eq_getElem h.1
  have hj := List.getElem?_eq_getElem k.1
  have h1 := (k.2 i _ hi).2 ((h.2 i _ hi).1 (Nat.le_refl _))
  have h2 := (h.2 j _ hj).2 ((k.2 j _ hj).1 (Nat.le_refl _))
  omega

set_option maxHeartbeats 2000000 in
theorem specHolder_core (b off cap : Nat) (ts : List Tm) (row : ByteArray) (i : Nat) (w : World) (h : TmsAt w b off ts) (hB : b < w.heap.size) (hn : ts.length ≤ 1048576) (hh : HoldAt (tbs ts) row i) :
    Calls Tryz.prog 39 #[.agg #[.slice (some ⟨b, off, none⟩) ts.length cap], .string row] w fun e w' => e = .returned (.int .i64 i) ∧ Below w.heap.size w w' := by
  obtain ⟨W0, hW0⟩ : ∃ W0 : World, W0 = w.alloc (Obj.cells #[.slice (some ⟨b, off, none⟩) ts.length cap] 30) := ⟨_, rfl⟩
  have hb0 : Below w.heap.size w W0 := by rw [hW0]; exact (Below.refl _ _).alloc (Nat.le_refl _) _
  have c0 : W0.cell? ⟨w.heap.size, 0, none⟩ = some (.slice (some ⟨b, off, none⟩) ts.length cap) := by rw [hW0]; simp
  have HT : Hid (TmsAt W0 b off ts ∧ HoldAt (tbs ts) row i) := ⟨h.below hb0 hB, hh⟩
  have hil : i < ts.length := by have := hh.1; rw [tbs_len] at this; exact this
  clear h hh
  go_enter Tryz.func39, Tryz.ntmps39
  go_wp2_with fail
  rw [← hW0]
  clear hW0
  go_loopw [5, 6] (fun a j wr => ∃ (m x : Nat), m ≤ ts.length ∧ j = .int .i64 m ∧ a = .int .i64 x ∧ x = min (m - 1) i ∧ wr = W0) (fun _ j _ => ts.length - (intOf j).toNat)
  case atStart => exact ⟨0, 0, Nat.zero_le _, rfl, rfl, by omega, rfl⟩
  case round =>
    obtain ⟨m, x, hm, rfl, rfl, hx, rfl⟩ := hrel
    have HX : Hid (x = min (m - 1) i) := hx
    clear hx
    by_cases hlt : m < ts.length
    · obtain ⟨t, ht⟩ : ∃ t, ts[m]? = some t := ⟨_, List.getElem?_eq_getElem hlt⟩
      obtain ⟨d0, _⟩ := HT.out.1 m t ht
      have hq := HT.out.2.2 m t.tb (by rw [tbs_get, ht]; rfl)
      have hlo : t.tb.lo = t.lo := rfl
      rw [hlo] at hq
      have zm : (m : Int) < (ts.length : Int) := by omega
      cases hl : Op.bytesLess row.toList t.lo.toList
      · have hle : (Op.bytesLess t.lo.toList row.toList || t.lo.toList == row.toList) = true := by rw [le_less, hl]; rfl
        have hmi : m ≤ i := hq.2 hl
        clear hq ht hl
        go_wp2_with fail
        go_roundw
        case rel => go_light; exact ⟨m + 1, m, by omega, by go_num, rfl, by omega, by first | rfl | trivial⟩
        case measure => go_light; simp [intOf]; omega
      · have hle : (Op.bytesLess t.lo.toList row.toList || t.lo.toList == row.toList) = false := by rw [le_less, hl]; rfl
        have hmi : ¬ m ≤ i := fun q => by have := hq.1 q; rw [hl] at this; cases this
        clear hq ht hl
        go_wp2_with fail
        go_roundw
        case rel => go_light; exact ⟨m + 1, x, by omega, by go_num, rfl, by have := HX.out; omega, by first | rfl | trivial⟩
        case measure => go_light; simp [intOf]; omega
    · have zm : ¬ (m : Int) < (ts.length : Int) := by omega
      have HXI : Hid (x = i) := by
        have := HX.out
        show x = i
        omega
      go_wp2_with fail
      go_ret
      exact ⟨by rw [HXI.out]; rfl, hb0⟩

set_option maxHeartbeats 1000000 in
theorem compareLo_any (lo : ByteArray) (a : Option Addr) (n c : Nat) (row : ByteArray) (w : World) :
    Calls Tryz.prog 72 #[.agg #[.string lo, .slice a n c], .string row] w fun e w' => e = .returned (.int .i64 (cB lo row)) ∧ Below w.heap.size w w' := by
  go_enter Tryz.func72, Tryz.ntmps72
  go_wp2_with fail
  refine (stringsCompare_any _ _ _).mono ?_
  rintro e w' ⟨rfl, rfl⟩
  go_wp2_with fail
  go_ret
  exact ⟨rfl, (Below.refl _ _).alloc (Nat.le_refl _) _⟩

/-- Up to 'i' the tablets begin before the row, from there on they don't. -/
def CutLo (ts : List Tm) (row : ByteArray) (i : Nat) : Prop := i ≤ ts.length ∧ (∀ (j : Nat) (t : Tm), j < i → ts[j]? = some t → cB t.lo row = -1) ∧ (∀ (j : Nat) (t : Tm), i ≤ j → ts[j]? = some t → ¬ cB t.lo row = -1)

/-- What the search hands back. -/
def BsPost (ts : List Tm) (row : ByteArray) (w : World) (r : Ending) (w' : World) : Prop := ∃ (i : Nat) (f : Bool), r = .returned (.tuple #[.int .i64 i, .bool f]) ∧ CutLo ts row i ∧ (f = true ↔ ∃ t, ts[i]? = some t ∧ cB t.lo row = 0) ∧ Below w.heap.size w w'

set_option maxHeartbeats 4000000 in
theorem bsearchT_core (b off cap : Nat) (ts : List Tm) (row : ByteArray) (w : World) (hE : TmsAt w b off ts) (hB : b < w.heap.size) (hlen : ts.length ≤ 1048576)
    (hmono : ∀ (i j : Nat) (x y : Tm), i ≤ j → ts[i]? = some x → ts[j]? = some y → cB y.lo row = -1 → cB x.lo row = -1) :
    Calls Tryz.prog 71 #[.slice (some ⟨b, off, none⟩) ts.length cap, .string row, .func (.func 72) #[] #[]] w fun r w' => BsPost ts row w r w' := by
  have HE : Hid (TmsAt w b off ts) := hE
  have HM : Hid (∀ (i j : Nat) (x y : Tm), i ≤ j → ts[i]? = some x → ts[j]? = some y → cB y.lo row = -1 → cB x.lo row = -1) := hmono
  clear hE hmono
  go_enter Tryz.func71, Tryz.ntmps71
  go_wp2_with fail
  go_loopw [9, 10] (fun i j wr => ∃ lo hi : Nat, i = .int .i64 lo ∧ j = .int .i64 hi ∧ lo ≤ hi ∧ hi ≤ ts.length ∧ (∀ (t : Nat) (x : Tm), t < lo → ts[t]? = some x → cB x.lo row = -1) ∧ (∀ (t : Nat) (x : Tm), hi ≤ t → ts[t]? = some x → ¬ cB x.lo row = -1) ∧ Below w.heap.size w wr) (fun i j _ => (intOf j).toNat - (intOf i).toNat)
  case atStart => exact ⟨0, ts.length, rfl, rfl, Nat.zero_le _, Nat.le_refl _, fun t x ht => by omega, fun t x ht hx => by have := (List.getElem?_eq_some_iff.1 hx).1; omega, Below.refl _ _⟩
  case round =>
    obtain ⟨lo, hi, rfl, rfl, hlh, hhi, hA, hZ, hb⟩ := hrel
    have HA : Hid ((∀ (t : Nat) (x : Tm), t < lo → ts[t]? = some x → cB x.lo row = -1) ∧ (∀ (t : Nat) (x : Tm), hi ≤ t → ts[t]? = some x → ¬ cB x.lo row = -1)) := ⟨hA, hZ⟩
    have hs := hb.size
    clear hA hZ
    by_cases hlt : lo < hi
    · have zl : (lo : Int) < (hi : Int) := by omega
      go_upto_region 5 with fail
      obtain ⟨m, hm⟩ : ∃ m : Nat, m = (lo + hi) / 2 := ⟨_, rfl⟩
      have em : ((lo : Int) + (hi : Int)) / 2 = (m : Int) := by omega
      have hm1 : lo ≤ m := by omega
      have hm2 : m < hi := by omega
      rw [em]
      clear em hm
      obtain ⟨v, hv⟩ : ∃ v, ts[m]? = some v := ⟨_, List.getElem?_eq_getElem (by omega)⟩
      obtain ⟨q0, q1, _⟩ := (HE.out.below hb hB) m v hv
      have HV : Hid (ts[m]? = some v) := hv
      clear hv
      have zm : (m : Int) < (ts.length : Int) := by omega
      go_wp2_with fail
      refine (compareLo_any v.lo _ _ _ row _).mono ?_
      rintro e w2 ⟨rfl, hb2'⟩
      have hb2 : Below w.heap.size w w2 := hb.trans (hb2'.mono hs)
      clear q0 q1 hb2'
      by_cases hk : cB v.lo row < 0
      · have HK : Hid (cB v.lo row = -1) := by
          rcases cB_vals v.lo row with h | h | h
          · exact h
          · omega
          · omega
        have HN : Hid (∀ (t : Nat) (x : Tm), t < m + 1 → ts[t]? = some x → cB x.lo row = -1) := fun t x ht hx => HM.out t m x v (by omega) hx HV.out HK.out
        go_wp2_with fail
        go_roundw
        case rel => exact ⟨m + 1, hi, by go_num, rfl, by omega, hhi, HN.out, HA.out.2, hb2⟩
        case measure => go_light; simp [intOf]; omega
      · have HN : Hid (∀ (t : Nat) (x : Tm), m ≤ t → ts[t]? = some x → ¬ cB x.lo row = -1) := fun t x ht hx q => by
          have := HM.out m t v x ht HV.out hx q
          omega
        go_wp2_with fail
        go_roundw
        case rel => exact ⟨lo, m, rfl, rfl, hm1, by omega, HA.out.1, HN.out, hb2⟩
        case measure => go_light; simp [intOf]; omega
    · obtain rfl : lo = hi := by omega
      have HC : Hid (CutLo ts row lo) := ⟨hhi, HA.out.1, HA.out.2⟩
      have zl : ¬ (lo : Int) < (lo : Int) := by omega
      by_cases hn : lo < ts.length
      · obtain ⟨v, hv⟩ : ∃ v, ts[lo]? = some v := ⟨_, List.getElem?_eq_getElem hn⟩
        obtain ⟨q0, q1, _⟩ := (HE.out.below hb hB) lo v hv
        have HV : Hid (ts[lo]? = some v) := hv
        clear hv
        have zm : (lo : Int) < (ts.length : Int) := by omega
        go_wp2_with fail
        refine (compareLo_any v.lo _ _ _ row _).mono ?_
        rintro e w2 ⟨rfl, hb2'⟩
        have hb2 : Below w.heap.size w w2 := hb.trans (hb2'.mono hs)
        clear q0 q1 hb2'
        have HF : Hid ((cB v.lo row == 0) = true ↔ ∃ t, ts[lo]? = some t ∧ cB t.lo row = 0) := by
          show _ ↔ _
          rw [beq_iff_eq]
          constructor
          · intro q; exact ⟨v, HV.out, q⟩
          · rintro ⟨t, ht, q⟩
            rw [HV.out] at ht
            cases ht
            exact q
        go_wp2_with fail
        go_ret2
        exact ⟨lo, _, rfl, HC.out, HF.out, hb2⟩
      · have zm : ¬ (lo : Int) < (ts.length : Int) := by omega
        have HF : Hid (¬ ∃ t, ts[lo]? = some t ∧ cB t.lo row = 0) := fun ⟨t, ht, _⟩ => by have := (List.getElem?_eq_some_iff.1 ht).1; omega
        go_wp2_with fail
        go_ret2
        exact ⟨lo, false, rfl, HC.out, iffF HF.out, hb⟩

theorem mono_lo {ts : List Tm} (h : GoodS (tbs ts)) (row : ByteArray) : ∀ (i j : Nat) (x y : Tm), i ≤ j → ts[i]? = some x → ts[j]? = some y → cB y.lo row = -1 → cB x.lo row = -1 := by
  intro i j x y hij hx hy hk
  by_cases e : i = j
  · subst e; rw [hx] at hy; cases hy; exact hk
  · have hl := los_up h (j - i - 1) i x.tb y.tb (by rw [tbs_get, hx]; rfl) (by rw [tbs_get, show i + (j - i - 1) + 1 = j by omega, hy]; rfl)
    exact cB_trans ((cB_less_iff x.lo y.lo).1 hl) hk

set_option maxHeartbeats 2000000 in
theorem implHolder_core (b off cap : Nat) (ts : List Tm) (row : ByteArray) (i : Nat) (w : World) (h : TmsAt w b off ts) (hB : b < w.heap.size) (hn : ts.length ≤ 1048576) (hg : GoodS (tbs ts)) (hh : HoldAt (tbs ts) row i) :
    Calls Tryz.prog 43 #[.agg #[.slice (some ⟨b, off, none⟩) ts.length cap], .string row] w fun e w' => e = .returned (.int .i64 i) ∧ Below w.heap.size w w' := by
  obtain ⟨W0, hW0⟩ : ∃ W0 : World, W0 = w.alloc (Obj.cells #[.slice (some ⟨b, off, none⟩) ts.length cap] 30) := ⟨_, rfl⟩
  have hb0 : Below w.heap.size w W0 := by rw [hW0]; exact (Below.refl _ _).alloc (Nat.le_refl _) _
  have hz0 : W0.heap.size = w.heap.size + 1 := by rw [hW0]; simp
  have HT : Hid (TmsAt W0 b off ts ∧ GoodS (tbs ts) ∧ HoldAt (tbs ts) row i) := ⟨h.below hb0 hB, hg, hh⟩
  have hil : i < ts.length := by have := hh.1; rw [tbs_len] at this; exact this
  clear h hh hg
  go_enter Tryz.func43, Tryz.ntmps43
  go_wp2_with fail
  rw [← hW0]
  clear hW0
  refine (bsearchT_core b off cap ts row _ HT.out.1 (by omega) hn (mono_lo HT.out.2.1 row)).mono ?_
  rintro e w1 ⟨c, f, rfl, hc, hf, hb1⟩
  have hbw : Below w.heap.size w w1 := hb0.trans (hb1.mono (by omega))
  obtain ⟨t, ht⟩ : ∃ t, ts[i]? = some t := ⟨_, List.getElem?_eq_getElem hil⟩
  have hhi : ∀ (j : Nat) (u : Tm), ts[j]? = some u → (j ≤ i ↔ ¬ cB row u.lo = -1) := fun j u hj => by
    have h1 := HT.out.2.2.2 j u.tb (by rw [tbs_get, hj]; rfl)
    have h2 : Op.bytesLess row.toList u.tb.lo.toList = Op.bytesLess row.toList u.lo.toList := rfl
    rw [h2] at h1
    rw [h1, ← cB_less_iff]
    cases Op.bytesLess row.toList u.lo.toList <;> simp
  cases f
  · -- it begins before the row: the next one is found
    have HC : Hid (c = i + 1) := by
      show c = i + 1
      have e1 : cB t.lo row = -1 := by
        have h1 := (hhi i t ht).1 (Nat.le_refl _)
        rw [cB_neg t.lo row] at h1
        rcases cB_vals t.lo row with q | q | q
        · exact q
        · -- it would have been found
          exfalso
          have hci : c = i := by
            rcases Nat.lt_trichotomy c i with q1 | q1 | q1
            · exfalso
              have hx := List.getElem?_eq_getElem (show c < ts.length by omega)
              have h3 := hc.2.2 c _ (Nat.le_refl _) hx
              have h4 := los_up HT.out.2.1 (i - c - 1) c _ t.tb (by rw [tbs_get, hx]; rfl) (by rw [tbs_get, show c + (i - c - 1) + 1 = i by omega, ht]; rfl)
              have h5 := (cB_less_iff _ _).1 h4
              have h6 : t.lo = row := cB_zero.1 q
              have h7 : t.tb.lo = t.lo := rfl
              rw [h7, h6] at h5
              exact h3 h5
            · exact q1
            · exfalso
              have h3 := hc.2.1 i t q1 ht
              omega
          have := hf.2 ⟨t, by rw [hci]; exact ht, q⟩
          cases this
        · exact absurd (by rw [q]) h1
      have h8 : ¬ c ≤ i := fun q => hc.2.2 i t q ht e1
      by_cases q : c = i + 1
      · exact q
      · exfalso
        have hx := List.getElem?_eq_getElem (show i + 1 < ts.length by have := hc.1; omega)
        have h9 := hc.2.1 (i + 1) _ (by omega) hx
        have h10 := (hhi (i + 1) _ hx)
        have : ¬ cB row (ts[i + 1]'(by have := hc.1; omega)).lo = -1 := by rw [cB_neg, h9]; decide
        have := h10.2 this
        omega
    have hci := HC.out
    clear hf hhi hc ht
    have hcn : c ≤ 1048577 := by omega
    go_wp2_with fail
    go_ret
    exact ⟨rfl, hbw⟩
  · have HC : Hid (c = i) := by
      obtain ⟨u, hu, hq⟩ := hf.1 rfl
      have h1 : c ≤ i := (hhi c u hu).2 (by rw [cB_neg, hq]; decide)
      by_cases q : c = i
      · exact q
      · exfalso
        have h4 := los_up HT.out.2.1 (i - c - 1) c u.tb t.tb (by rw [tbs_get, hu]; rfl) (by rw [tbs_get, show c + (i - c - 1) + 1 = i by omega, ht]; rfl)
        have h5 := (cB_less_iff _ _).1 h4
        have h6 : u.lo = row := cB_zero.1 hq
        have h7 : u.tb.lo = u.lo := rfl
        have h8 : t.tb.lo = t.lo := rfl
        rw [h7, h6, h8] at h5
        exact (hhi i t ht).1 (Nat.le_refl _) h5
    clear hf hhi hc ht
    go_wp2_with fail
    go_ret
    exact ⟨by rw [HC.out]; rfl, hbw⟩
end Go.Proofs.YtlgeffinhbodeafGreat

/-
  Appends to rows of entries, runs and tablets; slices.Clone over entries.
-/
namespace Go.Proofs.YtlgeffinhbodeafGreat
open Go.ChangeShapes Go.WideShapes Go.ChangeAt Go.RowKit Go.Deep
set_option linter.unusedVariables false
set_option linter.unusedSimpArgs false
set_option maxRecDepth 100000

theorem ents_cells {w : World} {b off : Nat} {es : List Ent} (h : EntsAt w b off es) : ∀ j u, (cellsE es)[j]? = some u → w.cell? ((⟨b, off, none⟩ : Addr).add j) = some u := by
  intro j u hu
  have hj : j < es.length * 6 := by rw [← length_cellsE]; exact (List.getElem?_eq_some_iff.1 hu).1
  obtain ⟨e, he⟩ : ∃ e, es[j / 6]? = some e := ⟨_, List.getElem?_eq_getElem (by omega)⟩
  have hg := cellsE_get es (j / 6) e he (j % 6) (Nat.mod_lt _ (by omega))
  rw [show j / 6 * 6 + j % 6 = j by omega, hu] at hg
  obtain ⟨c0, c1, c2, c3, c4, c5⟩ := h (j / 6) e he
  rw [Addr.add_mid, show off + j = off + j / 6 * 6 + j % 6 by omega]
  have hm : j % 6 < 6 := Nat.mod_lt _ (by omega)
  generalize j % 6 = m at *
  match m, hm, hg with
  | 0, _, hg => rw [Nat.add_zero, c0, hg]; rfl
  | 1, _, hg => rw [c1, hg]; rfl
  | 2, _, hg => rw [c2, hg]; rfl
  | 3, _, hg => rw [c3, hg]; rfl
  | 4, _, hg => rw [c4, hg]; rfl
  | 5, _, hg => rw [c5, hg]; rfl
theorem ents_one (es : List Ent) : ∀ u ∈ cellsE es, u.oneCell' = true := by
  intro u hu
  unfold cellsE at hu
  obtain ⟨e, _, he⟩ := List.mem_flatMap.1 hu
  simp at he
  rcases he with rfl | rfl | rfl | rfl | rfl | rfl <;> rfl

/-- Entries appended to a row of the call's own. -/
theorem wpList_append_entO {ops : Array Oper} {rest : List Oper} {o : Oper} {a : Act} {Q : Exit → Act → World → Prop} (w : World) (hgd : o.guard = none) (s x : Operand)
    (ho : o.op = .call { callee := .builtin .append, args := #[s, x], argTypes := #[33, 33] })
    (base g cp n b off m cx : Nat) (fs es : List Ent) (hs : a.eval s = .slice (some ⟨g, 0, none⟩) n cp) (hx : a.eval x = .slice (some ⟨b, off, none⟩) m cx) (hn : n = fs.length) (hm : m = es.length) (hO : OwnE w base g cp fs)
    (hc : EntsAt w b off es) (hlen : fs.length + es.length ≤ 2 ^ 30) (hbase : base ≤ w.heap.size)
    (h : ∀ g' cp' w', OwnE w' base g' cp' (fs ++ es) → w.grownBy w' (some g) → (g' = g ∨ g' = w.heap.size) → wpList Tryz.prog ops Q rest (a.put o.dst (.slice (some ⟨g', 0, none⟩) (n + m) cp')) w') : wpList Tryz.prog ops Q (o :: rest) a w := by
  subst hn hm
  obtain ⟨i, hi, hz0, hz1, hz2⟩ := info_parts Tryz.infoEnt
  refine wpList_append_own_at w hgd s x 33 ho base 61 i _ 6 80 Tryz.underlying33 hi hz0 hz1 hz2 rfl (by decide) (.slice (some ⟨g, 0, none⟩) fs.length cp) fs.length (cellsE fs) hs hO ⟨b, off, none⟩ es.length cx (cellsE es) hx (length_cellsE es) (ents_cells hc) (ents_one es) ?_ ?_ hbase ?_
  · unfold maxLen; omega
  · omega
  · intro v' w' hO' hgr hnil hat
    rcases hO'.2 with ⟨h0, _⟩ | ⟨g', cap', cur, hv, _, _, hn, hcap, _, _⟩
    · have := (hnil.1 h0).1
      cases this
    · subst hv
      refine h g' cap' w' ?_ hgr ?_
      · unfold OwnE
        rw [List.length_append, cellsE_append]
        exact hO'
      · simpa [Value.ownBlock] using hat

/-- What an append to a row of runs leaves behind. -/
structure AppR (w w' : World) (base : Nat) (v v' : Value) (us ns : List Value) : Prop where
  row : w'.ownsRow base 58 1 v' (us ++ ns).length (us ++ ns)
  grown : w.grownBy w' v.ownBlock
  nil : v' = .slice none 0 0 ↔ v = .slice none 0 0 ∧ ns.length = 0
  blk : v'.ownBlock = v.ownBlock ∨ v'.ownBlock = some w.heap.size
theorem AppR.form {w w' : World} {base : Nat} {v v' : Value} {us ns : List Value} (h : AppR w w' base v v' us ns) (hv : v ≠ .slice none 0 0) : ∃ g cp, v' = .slice (some ⟨g, 0, none⟩) (us ++ ns).length cp := by
  rcases h.row.2 with ⟨h0, _⟩ | ⟨g3, cap', cur, hv', _⟩
  · exact absurd (h.nil.1 h0).1 hv
  · exact ⟨g3, cap', hv'⟩
/-- Slices appended to a row of runs (nil too). -/
theorem wpList_append_runO {ops : Array Oper} {rest : List Oper} {o : Oper} {a : Act} {Q : Exit → Act → World → Prop} (w : World) (hgd : o.guard = none) (s x : Operand)
    (ho : o.op = .call { callee := .builtin .append, args := #[s, x], argTypes := #[54, 54] })
    (base : Nat) (v : Value) (us : List Value) (b off m cx : Nat) (ns : List Value) (hs : a.eval s = v) (hx : a.eval x = .slice (some ⟨b, off, none⟩) m cx) (hm : m = ns.length) (hO : w.ownsRow base 58 1 v us.length us)
    (hc : ∀ j u, ns[j]? = some u → w.cell? ⟨b, off + j, none⟩ = some u) (h1 : ∀ u ∈ ns, u.oneCell' = true) (hlen : us.length + ns.length ≤ 2 ^ 30) (hbase : base ≤ w.heap.size)
    (h : ∀ v' w', AppR w w' base v v' us ns → wpList Tryz.prog ops Q rest (a.put o.dst v') w') : wpList Tryz.prog ops Q (o :: rest) a w := by
  subst hm
  obtain ⟨i, hi, hz0, hz1, hz2⟩ := info_parts Tryz.infoRun
  refine wpList_append_own_at w hgd s x 54 ho base 58 i _ 1 24 Tryz.underlying54 hi hz0 hz1 hz2 rfl (by decide) v us.length us hs hO ⟨b, off, none⟩ ns.length cx ns hx (by omega) (fun j u hu => by rw [Addr.add_mid]; exact hc j u hu) h1 ?_ ?_ hbase ?_
  · unfold maxLen; omega
  · omega
  · intro v' w' hO' hgr hnil hat
    exact h v' w' ⟨by rw [List.length_append]; exact hO', hgr, hnil, hat⟩
/-- What an append to a row of tablets leaves behind. -/
structure AppT (w w' : World) (base : Nat) (v v' : Value) (us ns : List Pr) : Prop where
  row : w'.ownsRow base 56 2 v' (us ++ ns).length (cellsP (us ++ ns))
  grown : w.grownBy w' v.ownBlock
  nil : v' = .slice none 0 0 ↔ v = .slice none 0 0 ∧ ns.length = 0
  blk : v'.ownBlock = v.ownBlock ∨ v'.ownBlock = some w.heap.size
theorem AppT.form {w w' : World} {base : Nat} {v v' : Value} {us ns : List Pr} (h : AppT w w' base v v' us ns) (hv : v ≠ .slice none 0 0 ∨ 0 < ns.length) : ∃ g cp, v' = .slice (some ⟨g, 0, none⟩) (us ++ ns).length cp := by
  rcases h.row.2 with ⟨h0, _⟩ | ⟨g3, cap', cur, hv', _⟩
  · have := h.nil.1 h0
    rcases hv with hv | hv
    · exact absurd this.1 hv
    · omega
  · exact ⟨g3, cap', hv'⟩
theorem pcells {w : World} {b off : Nat} {ps : List Pr} (h : ∀ i p, ps[i]? = some p → w.cell? ⟨b, off + i * 2, none⟩ = some (.string p.1) ∧ w.cell? ⟨b, off + i * 2 + 1, none⟩ = some p.2) : ∀ j u, (cellsP ps)[j]? = some u → w.cell? ((⟨b, off, none⟩ : Addr).add j) = some u := by
  intro j u hu
  have hj : j < ps.length * 2 := by rw [← length_cellsP]; exact (List.getElem?_eq_some_iff.1 hu).1
  obtain ⟨e, he⟩ : ∃ e, ps[j / 2]? = some e := ⟨_, List.getElem?_eq_getElem (by omega)⟩
  have hg := cellsP_get ps (j / 2) e he (j % 2) (Nat.mod_lt _ (by omega))
  rw [show j / 2 * 2 + j % 2 = j by omega, hu] at hg
  obtain ⟨c0, c1⟩ := h (j / 2) e he
  rw [Addr.add_mid, show off + j = off + j / 2 * 2 + j % 2 by omega]
  have hm : j % 2 < 2 := Nat.mod_lt _ (by omega)
  generalize j % 2 = m at *
  match m, hm, hg with
  | 0, _, hg => rw [Nat.add_zero, c0, hg]; rfl
  | 1, _, hg => rw [c1, hg]; rfl
/-- Tablets appended to a row of tablets (nil too). -/
theorem wpList_append_tabO {ops : Array Oper} {rest : List Oper} {o : Oper} {a : Act} {Q : Exit → Act → World → Prop} (w : World) (hgd : o.guard = none) (s x : Operand)
    (ho : o.op = .call { callee := .builtin .append, args := #[s, x], argTypes := #[28, 28] })
    (base : Nat) (v : Value) (us : List Pr) (b off m cx : Nat) (ns : List Pr) (hs : a.eval s = v) (hx : a.eval x = .slice (some ⟨b, off, none⟩) m cx) (hm : m = ns.length) (hO : w.ownsRow base 56 2 v us.length (cellsP us))
    (hc : ∀ i p, ns[i]? = some p → w.cell? ⟨b, off + i * 2, none⟩ = some (.string p.1) ∧ w.cell? ⟨b, off + i * 2 + 1, none⟩ = some p.2) (h1 : ∀ p ∈ ns, p.2.oneCell' = true) (hlen : us.length + ns.length ≤ 2 ^ 30) (hbase : base ≤ w.heap.size)
    (h : ∀ v' w', AppT w w' base v v' us ns → wpList Tryz.prog ops Q rest (a.put o.dst v') w') : wpList Tryz.prog ops Q (o :: rest) a w := by
  subst hm
  obtain ⟨i, hi, hz0, hz1, hz2⟩ := info_parts Tryz.infoTab
  refine wpList_append_own_at w hgd s x 28 ho base 56 i _ 2 40 Tryz.underlying28 hi hz0 hz1 hz2 rfl (by decide) v us.length (cellsP us) hs hO ⟨b, off, none⟩ ns.length cx (cellsP ns) hx (length_cellsP ns) (pcells hc) (fun u hu => ?_) ?_ ?_ hbase ?_
  · unfold cellsP at hu
    obtain ⟨p, hp, he⟩ := List.mem_flatMap.1 hu
    simp at he
    rcases he with rfl | rfl
    · rfl
    · exact h1 p hp
  · unfold maxLen; omega
  · omega
  · intro v' w' hO' hgr hnil hat
    exact h v' w' ⟨by rw [List.length_append, cellsP_append]; exact hO', hgr, hnil, hat⟩

theorem step_append_tabO {ops : Array Oper} {oo : Oper} {a : Act} {K : Act → World → Prop} {Q : Exit → Act → World → Prop} {E : Prop} (w : World) (hgd : oo.guard = none) (s x : Operand)
    (ho : oo.op = .call { callee := .builtin .append, args := #[s, x], argTypes := #[28, 28] })
    (base : Nat) (v : Value) (us : List Pr) (b off m cx : Nat) (ns : List Pr) (hs : a.eval s = v) (hx : a.eval x = .slice (some ⟨b, off, none⟩) m cx) (hm : m = ns.length) (hO : w.ownsRow base 56 2 v us.length (cellsP us))
    (hc : ∀ i p, ns[i]? = some p → w.cell? ⟨b, off + i * 2, none⟩ = some (.string p.1) ∧ w.cell? ⟨b, off + i * 2 + 1, none⟩ = some p.2) (h1 : ∀ p ∈ ns, p.2.oneCell' = true) (hlen : us.length + ns.length ≤ 2 ^ 30) (hbase : base ≤ w.heap.size)
    (h : ∀ v' w', AppT w w' base v v' us ns → K (a.put oo.dst v') w') : if Region.wanted oo (yielded ops a.tmps) = true then Oper.wp Tryz.prog oo a w K Q else E := by
  have hw : Region.wanted oo (yielded ops a.tmps) = true := by simp [Region.wanted, hgd]
  rw [if_pos hw]
  subst hm
  obtain ⟨i, hi, hz0, hz1, hz2⟩ := info_parts Tryz.infoTab
  obtain ⟨v', w', hr, hO', hgr, hnil, hat⟩ := run_append_own_at (P := Tryz.prog) w base 28 oo.type 56 i _ 2 40 Tryz.underlying28 hi hz0 hz1 hz2 rfl (by decide) v us.length (cellsP us) hO ⟨b, off, none⟩ ns.length cx (cellsP ns) (length_cellsP ns) (pcells hc) (fun u hu => by
    unfold cellsP at hu
    obtain ⟨p, hp, he⟩ := List.mem_flatMap.1 hu
    simp at he
    rcases he with rfl | rfl
    · rfl
    · exact h1 p hp) (by unfold maxLen; omega) (by omega) hbase
  have hfin := h v' w' ⟨by rw [List.length_append, cellsP_append]; exact hO', hgr, hnil, hat⟩
  unfold Oper.wp
  simp [execOp, ho, resolve, invoke, builtin, hs, hx, hr, Result.andThen]
  exact hfin
theorem step_append_runO {ops : Array Oper} {oo : Oper} {a : Act} {K : Act → World → Prop} {Q : Exit → Act → World → Prop} {E : Prop} (w : World) (hgd : oo.guard = none) (s x : Operand)
    (ho : oo.op = .call { callee := .builtin .append, args := #[s, x], argTypes := #[54, 54] })
    (base : Nat) (v : Value) (us : List Value) (b off m cx : Nat) (ns : List Value) (hs : a.eval s = v) (hx : a.eval x = .slice (some ⟨b, off, none⟩) m cx) (hm : m = ns.length) (hO : w.ownsRow base 58 1 v us.length us)
    (hc : ∀ j u, ns[j]? = some u → w.cell? ⟨b, off + j, none⟩ = some u) (h1 : ∀ u ∈ ns, u.oneCell' = true) (hlen : us.length + ns.length ≤ 2 ^ 30) (hbase : base ≤ w.heap.size)
    (h : ∀ v' w', AppR w w' base v v' us ns → K (a.put oo.dst v') w') : if Region.wanted oo (yielded ops a.tmps) = true then Oper.wp Tryz.prog oo a w K Q else E := by
  have hw : Region.wanted oo (yielded ops a.tmps) = true := by simp [Region.wanted, hgd]
  rw [if_pos hw]
  subst hm
  obtain ⟨i, hi, hz0, hz1, hz2⟩ := info_parts Tryz.infoRun
  obtain ⟨v', w', hr, hO', hgr, hnil, hat⟩ := run_append_own_at (P := Tryz.prog) w base 54 oo.type 58 i _ 1 24 Tryz.underlying54 hi hz0 hz1 hz2 rfl (by decide) v us.length us hO ⟨b, off, none⟩ ns.length cx ns (by omega) (fun j u hu => by rw [Addr.add_mid]; exact hc j u hu) h1 (by unfold maxLen; omega) (by omega) hbase
  have hfin := h v' w' ⟨by rw [List.length_append]; exact hO', hgr, hnil, hat⟩
  unfold Oper.wp
  simp [execOp, ho, resolve, invoke, builtin, hs, hx, hr, Result.andThen]
  exact hfin

theorem ownE_empty (w : World) (base : Nat) (hb : base ≤ w.heap.size) : OwnE (w.alloc (Obj.cells #[] 61)) base w.heap.size 0 [] :=
  World.ownsRow_lit w #[] 0 hb (by decide) (by decide)
theorem ownR_empty (w : World) (base : Nat) (hb : base ≤ w.heap.size) : (w.alloc (Obj.cells #[] 58)).ownsRow base 58 1 (.slice (some ⟨w.heap.size, 0, none⟩) 0 0) 0 [] :=
  World.ownsRow_lit w #[] 0 hb (by decide) (by decide)

set_option maxHeartbeats 1000000 in
theorem clone_core (r : Rm) (w : World) (hr : r.at w) (hl : r.es.length ≤ 1048576) :
    Calls Tryz.prog 59 #[.slice (some ⟨r.b, r.off, none⟩) r.es.length r.cap] w fun e w' =>
      ∃ g cp, e = .returned (.slice (some ⟨g, 0, none⟩) r.es.length cp) ∧ OwnE w' w.heap.size g cp r.es ∧ Below w.heap.size w w' := by
  have HR : Hid (r.at w) := hr
  clear hr
  have HE : Hid (OwnE (w.alloc (Obj.cells #[] 61)) w.heap.size w.heap.size 0 []) := ownE_empty w _ (Nat.le_refl _)
  have hba : Below w.heap.size w (w.alloc (Obj.cells #[] 61)) := (Below.refl _ _).alloc (Nat.le_refl _) _
  go_enter Tryz.func59, Tryz.ntmps59
  have hnil : ∀ wx : World, (binOp .eql 33 (.slice (some ⟨r.b, r.off, none⟩) r.es.length r.cap) (.slice none 0 0)).run Tryz.prog wx = .ok (.bool false) wx := fun wx => Go.Lib.run_eql_slice_nil wx _ _ _ _ _ _ _ Tryz.underlying33
  go_wp2_with (at_builtin; refine wpList_append_entO _ rfl _ _ rfl w.heap.size w.heap.size 0 0 r.b r.off r.es.length r.cap [] r.es rfl rfl rfl rfl HE.out ?hc ?hl ?hb ?_)
  case hc => exact (HR.out.below hba).ents
  case hl => simp; omega
  case hb => simp
  intro g' cp' w' hO' hgr hat
  have hb' : Below w.heap.size w w' := hba.grown hgr (by simp) (fun j hj => by cases hj; exact Nat.le_refl _)
  have HO : Hid (OwnE w' w.heap.size g' cp' r.es) := hO'
  clear hO' hgr
  go_wp2_with fail
  go_ret
  exact ⟨g', cp', rfl, HO.out, hb'⟩
end Go.Proofs.YtlgeffinhbodeafGreat

/-
  spec.l7Part: the entries of a run whose rows are in a range.
-/
namespace Go.Proofs.YtlgeffinhbodeafGreat
open Go.ChangeShapes Go.WideShapes Go.ChangeAt Go.RowKit Go.Deep
set_option linter.unusedVariables false
set_option linter.unusedSimpArgs false
set_option maxRecDepth 100000

abbrev inP (lo : ByteArray) (hh : Bool) (hi : ByteArray) (es : List Ent) : List Ent := es.filter fun x => inR lo hh hi x.row
theorem inP_yes {lo hi : ByteArray} {hh : Bool} {es : List Ent} {k : Nat} {x : Ent} (h : es[k]? = some x) (hx : inR lo hh hi x.row = true) : inP lo hh hi (es.take (k + 1)) = inP lo hh hi (es.take k) ++ [x] := by
  unfold inP
  rw [List.take_add_one, h, List.filter_append]
  simp [hx]
theorem inP_no {lo hi : ByteArray} {hh : Bool} {es : List Ent} {k : Nat} {x : Ent} (h : es[k]? = some x) (hx : inR lo hh hi x.row = false) : inP lo hh hi (es.take (k + 1)) = inP lo hh hi (es.take k) := by
  unfold inP
  rw [List.take_add_one, h, List.filter_append]
  simp [hx]
theorem inP_len (lo hi : ByteArray) (hh : Bool) (es : List Ent) (k : Nat) : (inP lo hh hi (es.take k)).length ≤ es.length := by
  have h1 : (inP lo hh hi (es.take k)).length ≤ (es.take k).length := List.length_filter_le ..
  have := List.length_take_le k es
  have := List.length_take (i := k) (l := es)
  omega
def SpPPost (w : World) (fs : List Ent) (e : Ending) (w' : World) : Prop := ∃ g cp, e = .returned (.slice (some ⟨g, 0, none⟩) fs.length cp) ∧ OwnE w' w.heap.size g cp fs ∧ Below w.heap.size w w'

set_option maxHeartbeats 4000000 in
theorem specPart_core (r : Rm) (lo hi : ByteArray) (hh : Bool) (w : World) (h : r.at w) (hn : r.es.length ≤ 1048576) :
    Calls Tryz.prog 23 #[.slice (some ⟨r.b, r.off, none⟩) r.es.length r.cap, .agg #[.string lo, .bool hh, .string hi]] w fun e w' => SpPPost w (inP lo hh hi r.es) e w' := by
  obtain ⟨Wa, hWa⟩ : ∃ Wa : World, Wa = (w.alloc (Obj.cells #[.string lo, .bool hh, .string hi] 52)).alloc (Obj.cells #[] 61) := ⟨_, rfl⟩
  have hba : Below w.heap.size w Wa := by rw [hWa]; exact ((Below.refl _ _).alloc (Nat.le_refl _) _).alloc (by simp) _
  have hza : Wa.heap.size = w.heap.size + 1 + 1 := by rw [hWa]; simp
  have HO0 : Hid (OwnE Wa (w.heap.size + 1) (w.heap.size + 1) 0 []) := by
    rw [hWa]
    have := ownE_empty (w.alloc (Obj.cells #[.string lo, .bool hh, .string hi] 52)) (w.heap.size + 1) (by simp)
    have h2 : OwnE ((w.alloc (Obj.cells #[.string lo, .bool hh, .string hi] 52)).alloc (Obj.cells #[] 61)) (w.heap.size + 1) (w.heap.size + 1) 0 [] := by simpa using this
    exact h2
  have HC : Hid (∀ wx, Below (w.heap.size + 1) Wa wx → wx.cell? ⟨w.heap.size, 0, none⟩ = some (.string lo) ∧ wx.cell? ⟨w.heap.size, 1, none⟩ = some (.bool hh) ∧ wx.cell? ⟨w.heap.size, 2, none⟩ = some (.string hi) ∧ r.at wx) := by
    intro wx hx
    refine ⟨?_, ?_, ?_, ?_⟩
    · rw [hx.cell (p := ⟨w.heap.size, 0, none⟩) (by show w.heap.size < w.heap.size + 1; omega), hWa]; simp [go_sem]
    · rw [hx.cell (p := ⟨w.heap.size, 1, none⟩) (by show w.heap.size < w.heap.size + 1; omega), hWa]; simp [go_sem]
    · rw [hx.cell (p := ⟨w.heap.size, 2, none⟩) (by show w.heap.size < w.heap.size + 1; omega), hWa]; simp [go_sem]
    · have hbx : Below w.heap.size w wx := hba.trans (hx.mono (by omega))
      exact h.below hbx
  clear h
  go_enter Tryz.func23, Tryz.ntmps23
  go_wp2_with fail
  rw [← hWa]
  clear hWa
  go_loopw [5, 6] (fun o i wr => ∃ (k g cp : Nat) (fs : List Ent), k ≤ r.es.length ∧ i = .int .i64 k ∧ o = .slice (some ⟨g, 0, none⟩) fs.length cp ∧ fs = inP lo hh hi (r.es.take k) ∧ OwnE wr (w.heap.size + 1) g cp fs ∧ Below (w.heap.size + 1) Wa wr) (fun _ i _ => r.es.length - (intOf i).toNat)
  case atStart => exact ⟨0, w.heap.size + 1, 0, [], Nat.zero_le _, rfl, rfl, rfl, HO0.out, Below.refl _ _⟩
  case round =>
    obtain ⟨k, g, cp, fs, hk, rfl, rfl, hfs, hO, hb⟩ := hrel
    have HR : Hid (fs = inP lo hh hi (r.es.take k) ∧ OwnE wr (w.heap.size + 1) g cp fs) := ⟨hfs, hO⟩
    have hfl : fs.length ≤ 1048576 := by rw [hfs]; exact Nat.le_trans (inP_len ..) hn
    have hgl := hO.lt
    have hsz := hb.size
    clear hfs hO
    by_cases hlt : k < r.es.length
    · obtain ⟨x, hx⟩ : ∃ x, r.es[k]? = some x := ⟨_, List.getElem?_eq_getElem hlt⟩
      have HX : Hid (r.es[k]? = some x) := hx
      clear hx
      have zk : (k : Int) < (r.es.length : Int) := by omega
      have HCo : Hid (∀ n : Out wr, Below (w.heap.size + 1) Wa n.u) := fun n => hb.trans (n.out.mono (by omega))
      have q1 : ∀ n : Out wr, n.u.cell? ⟨w.heap.size, 0, none⟩ = some (.string lo) := fun n => (HC.out n.u (HCo.out n)).1
      have q2 : ∀ n : Out wr, n.u.cell? ⟨w.heap.size, 1, none⟩ = some (.bool hh) := fun n => (HC.out n.u (HCo.out n)).2.1
      have q3 : ∀ n : Out wr, n.u.cell? ⟨w.heap.size, 2, none⟩ = some (.string hi) := fun n => (HC.out n.u (HCo.out n)).2.2.1
      have q4 : ∀ n : Out wr, n.u.cell? ⟨r.b, r.off + k * 6, none⟩ = some (.string x.row) := fun n => ((HC.out n.u (HCo.out n)).2.2.2.ents k x HX.out).1
      have inh2 : Nonempty (Out wr) := ⟨⟨wr, Below.refl _ _⟩⟩
      go_upto_region 5 with fail
      refine wp_region_out (by kernel_rfl) (by kernel_rfl) ?_
      repeat (go_big_quiet_step ((go_at_call 50; exact Calls.out_of (specInRange_core lo hi x.row hh _))))
      refine wpQuiet_nil ?_
      rintro wz ⟨⟨wx', hbz⟩, rfl⟩
      have hbz2 : Below (w.heap.size + 1) Wa wz := hb.trans (hbz.mono (by omega))
      have sz := hbz.size
      obtain ⟨d0, d1, d2, d3, d4, d5⟩ := (HC.out wz hbz2).2.2.2.ents k x HX.out
      clear q1 q2 q3 q4 inh2
      cases hin : inR lo hh hi x.row
      · have H : Hid (fs = inP lo hh hi (r.es.take (k + 1)) ∧ OwnE wz (w.heap.size + 1) g cp fs) := ⟨by rw [inP_no HX.out hin]; exact HR.out.1, HR.out.2.below hbz HR.out.2.lt.2⟩
        go_wp2_with fail
        go_roundw
        case rel => go_light; exact ⟨k + 1, g, cp, fs, by omega, by go_num, rfl, H.out.1, H.out.2, hbz2⟩
        case measure => go_light; simp [intOf]; omega
      · obtain ⟨W2, hW2⟩ : ∃ W2 : World, W2 = wz.alloc (Obj.cells #[.string x.row, .string x.fam, .string x.qual, .int .u64 x.ts, .int .i64 x.kind, .string x.val] 61) := ⟨_, rfl⟩
        have hb2 : Below wz.heap.size wz W2 := by rw [hW2]; exact (Below.refl _ _).alloc (Nat.le_refl _) _
        have HO2 : Hid (OwnE W2 (w.heap.size + 1) g cp fs) := (HR.out.2.below hbz HR.out.2.lt.2).below hb2 (by have := HR.out.2.lt.2; omega)
        have HE2 : Hid (EntsAt W2 wz.heap.size 0 [x]) := by rw [hW2]; exact ent_box wz x
        have s2 := hb2.size
        go_wp2_with (at_builtin; rw [← hW2]; refine wpList_append_entO _ rfl _ _ rfl (w.heap.size + 1) g cp fs.length wz.heap.size 0 1 1 fs [x] rfl rfl rfl rfl HO2.out HE2.out ?hl ?hb ?_)
        case hl => simp; omega
        case hb => omega
        intro g' cp' w3 hO3 hgr3 hat3
        have hgr4 : W2.grownBy w3 (some g) := by rw [hW2]; exact hgr3
        have hb3 : Below (w.heap.size + 1) Wa w3 := (hbz2.trans (hb2.mono (by omega))).grown hgr4 (by omega) (fun j hj => by cases hj; exact hgl.1)
        have H : Hid (fs ++ [x] = inP lo hh hi (r.es.take (k + 1)) ∧ OwnE w3 (w.heap.size + 1) g' cp' (fs ++ [x])) := ⟨by rw [inP_yes HX.out hin]; rw [← HR.out.1], hO3⟩
        clear hO3 hgr3 hgr4 hW2
        go_wp2_with fail
        go_roundw
        case rel => go_light; exact ⟨k + 1, g', cp', fs ++ [x], by omega, by go_num, by simp, H.out.1, H.out.2, hb3⟩
        case measure => go_light; simp [intOf]; omega
    · have zk : ¬ (k : Int) < (r.es.length : Int) := by omega
      have H : Hid (fs = inP lo hh hi r.es) := by
        have h1 := HR.out.1
        rw [List.take_of_length_le (by omega)] at h1
        exact h1
      go_wp2_with fail
      go_ret
      refine ⟨g, cp, (by rw [← H.out]; rfl), ?_, hba.trans (hb.mono (by omega))⟩
      rw [← H.out]
      exact HR.out.2.mono (by omega)
end Go.Proofs.YtlgeffinhbodeafGreat

/-
  The merge as a fold: entries come in the order of keys, and at one key the newest run's first.
-/
namespace Go.Proofs.YtlgeffinhbodeafGreat
set_option linter.unusedVariables false
set_option linter.unusedSimpArgs false

/-- Comes before: a smaller key, or the same key in a newer run. -/
def Lt2 (p q : Nat × Ent) : Prop := keyCmp p.2 q.2 = -1 ∨ (keyCmp p.2 q.2 = 0 ∧ p.1 < q.1)
theorem lt2_trans {p q r : Nat × Ent} (h : Lt2 p q) (k : Lt2 q r) : Lt2 p r := by
  rcases h with h | ⟨h, h'⟩ <;> rcases k with k | ⟨k, k'⟩
  · exact .inl (keyCmp_trans h k)
  · left
    have h1 := keyCmp_congr k (c := p.2)
    have h2 := keyCmp_neg p.2 q.2
    have h3 := keyCmp_neg p.2 r.2
    omega
  · left
    have h1 := keyCmp_congr h (c := r.2)
    omega
  · right
    have h1 := keyCmp_congr h (c := r.2)
    exact ⟨by omega, by omega⟩
theorem lt2_irrefl (p : Nat × Ent) : ¬ Lt2 p p := by
  rintro (h | ⟨_, h⟩)
  · rw [keyCmp_self] at h; omega
  · omega
theorem lt2_total {p q : Nat × Ent} (h : ¬ p.1 = q.1) : Lt2 p q ∨ Lt2 q p := by
  have h2 := keyCmp_neg p.2 q.2
  rcases keyCmp_vals p.2 q.2 with k | k | k
  · exact .inl (.inl k)
  · by_cases hl : p.1 < q.1
    · exact .inl (.inr ⟨k, hl⟩)
    · exact .inr (.inr ⟨by omega, by omega⟩)
  · exact .inr (.inl (by omega))
theorem lt2_asymm {p q : Nat × Ent} (h : Lt2 p q) : ¬ Lt2 q p := fun k => lt2_irrefl p (lt2_trans h k)

/-- What stands in the way of a put of run 'a'. -/
def Over (P : List (Nat × Ent)) (a : Nat) (x : Ent) : Prop := ∃ p ∈ P, p.1 < a ∧ kills p.2 x = true
/-- What has been shown of what came. -/
def Shown (P : List (Nat × Ent)) (L : List Ent) : Prop := Ord L ∧ ∀ x, x ∈ L ↔ ∃ a, (a, x) ∈ P ∧ x.kind = 0 ∧ ¬ Over P a x

abbrev Ent.col (e : Ent) : ByteArray × ByteArray × ByteArray := (e.row, e.fam, e.qual)
theorem sameCol_col {a b : Ent} : sameCol a b = true ↔ a.col = b.col := by
  rw [sameCol_iff]; simp [Ent.col]
theorem key_le {a b : Ent} (h : keyCmp a b ≤ 0) : cB a.row b.row ≤ 0 ∧ (a.row = b.row → cB a.fam b.fam ≤ 0 ∧ (a.fam = b.fam → cB a.qual b.qual ≤ 0 ∧ (a.qual = b.qual → kindCmp a.kind b.kind ≤ 0 ∧ (kindCmp a.kind b.kind = 0 → tsCmp a.ts b.ts ≤ 0)))) := by
  have F : ∀ {x y : Int}, firstOf x y ≤ 0 → x ≤ 0 ∧ (x = 0 → y ≤ 0) := by
    intro x y
    unfold firstOf
    by_cases h : x = 0
    · rw [if_pos h]; intro k; exact ⟨by omega, fun _ => k⟩
    · rw [if_neg h]; intro k; exact ⟨k, fun q => absurd q h⟩
  unfold keyCmp at h
  obtain ⟨h1, h⟩ := F h
  refine ⟨h1, fun q => ?_⟩
  obtain ⟨h2, h⟩ := F (h (cB_zero.2 q))
  refine ⟨h2, fun q => ?_⟩
  obtain ⟨h3, h⟩ := F (h (cB_zero.2 q))
  refine ⟨h3, fun q => ?_⟩
  exact F (h (cB_zero.2 q))
theorem Lt2.le {p q : Nat × Ent} (h : Lt2 p q) : keyCmp p.2 q.2 ≤ 0 := by
  rcases h with h | ⟨h, _⟩ <;> omega
/-- A column's entries stand together. -/
theorem col_between {a b c : Ent} (h : keyCmp a b ≤ 0) (k : keyCmp b c ≤ 0) (q : a.col = c.col) : b.col = c.col := by
  simp only [Ent.col, Prod.mk.injEq] at q ⊢
  obtain ⟨q1, q2, q3⟩ := q
  obtain ⟨h1, h⟩ := key_le h
  obtain ⟨k1, k⟩ := key_le k
  have n1 := cB_neg a.row b.row
  rw [← q1] at k1 k ⊢
  have e1 : b.row = a.row := cB_zero.1 (by omega)
  obtain ⟨h2, h⟩ := h e1.symm
  obtain ⟨k2, k⟩ := k e1
  have n2 := cB_neg a.fam b.fam
  rw [← q2] at k2 k ⊢
  have e2 : b.fam = a.fam := cB_zero.1 (by omega)
  obtain ⟨h3, h⟩ := h e2.symm
  obtain ⟨k3, k⟩ := k e2
  have n3 := cB_neg a.qual b.qual
  rw [← q3] at k3 k ⊢
  have e3 : b.qual = a.qual := cB_zero.1 (by omega)
  exact ⟨e1, e2, e3⟩
/-- Timestamps fall. -/
theorem ts_falls {a b : Ent} (h : keyCmp a b ≤ 0) (q : a.col = b.col) (ha : ¬ a.kind = 2) (hb : ¬ b.kind = 2) : b.ts ≤ a.ts := by
  simp only [Ent.col, Prod.mk.injEq] at q
  have hk : kindCmp a.kind b.kind = 0 := kindCmp_zero.2 ⟨fun h => absurd h ha, fun h => absurd h hb⟩
  have := (((((key_le h).2 q.1).2 q.2.1).2 q.2.2).2) hk
  unfold tsCmp at this
  (repeat' split at this) <;> omega
/-- What does away with a put of an older run comes before it. -/
theorem kill_lt2 {d x : Ent} {a b : Nat} (h : kills d x = true) (hab : a < b) (hx : x.kind = 0) : Lt2 (a, d) (b, x) := by
  unfold kills at h
  rw [Bool.and_eq_true, sameCol_iff] at h
  obtain ⟨⟨h1, h2, h3⟩, h4⟩ := h
  by_cases hd : d.kind = 2
  · left
    show keyCmp d x = -1
    unfold keyCmp
    rw [cB_zero.2 h1, cB_zero.2 h2, cB_zero.2 h3]
    have : kindCmp d.kind x.kind = -1 := by
      unfold kindCmp
      rw [if_pos hd, if_neg (by omega)]
    rw [this]
    simp [firstOf]
  · right
    refine ⟨keyCmp_zero.2 ⟨h1, h2, h3, ⟨fun q => absurd q hd, fun q => by have q' : x.kind = 2 := q; omega⟩, ?_⟩, hab⟩
    simpa [hd] using h4

theorem over_push {P : List (Nat × Ent)} {a b : Nat} {e x : Ent} (hx : x.kind = 0) (h : Lt2 (b, x) (a, e)) : Over (P ++ [(a, e)]) b x ↔ Over P b x := by
  constructor
  · rintro ⟨p, hp, h1, h2⟩
    rcases List.mem_append.1 hp with hp | hp
    · exact ⟨p, hp, h1, h2⟩
    · simp at hp
      subst hp
      exact absurd h (lt2_asymm (kill_lt2 h2 h1 hx))
  · rintro ⟨p, hp, h1, h2⟩
    exact ⟨p, List.mem_append_left _ hp, h1, h2⟩
theorem over_self {P : List (Nat × Ent)} {a : Nat} {e : Ent} : Over (P ++ [(a, e)]) a e ↔ Over P a e := by
  constructor
  · rintro ⟨p, hp, h1, h2⟩
    rcases List.mem_append.1 hp with hp | hp
    · exact ⟨p, hp, h1, h2⟩
    · simp at hp
      subst hp
      simp at h1
  · rintro ⟨p, hp, h1, h2⟩
    exact ⟨p, List.mem_append_left _ hp, h1, h2⟩
theorem shown_nil : Shown [] [] := ⟨List.Pairwise.nil, fun x => by simp⟩
theorem shown_skip {P : List (Nat × Ent)} {L : List Ent} {a : Nat} {e : Ent} (h : Shown P L) (hP : ∀ p ∈ P, Lt2 p (a, e)) (hn : ¬ (e.kind = 0 ∧ ¬ Over P a e)) : Shown (P ++ [(a, e)]) L := by
  refine ⟨h.1, fun x => (h.2 x).trans ⟨?_, ?_⟩⟩
  · rintro ⟨b, h1, h2, h3⟩
    exact ⟨b, List.mem_append_left _ h1, h2, fun q => h3 ((over_push h2 (hP _ h1)).1 q)⟩
  · rintro ⟨b, h1, h2, h3⟩
    rcases List.mem_append.1 h1 with h1 | h1
    · exact ⟨b, h1, h2, fun q => h3 ((over_push h2 (hP _ h1)).2 q)⟩
    · simp at h1
      obtain ⟨rfl, rfl⟩ := h1
      exact absurd ⟨h2, fun q => h3 (over_self.2 q)⟩ hn
theorem shown_put {P : List (Nat × Ent)} {L : List Ent} {a : Nat} {e : Ent} (h : Shown P L) (hP : ∀ p ∈ P, Lt2 p (a, e)) (h0 : e.kind = 0) (hn : ¬ Over P a e) : Shown (P ++ [(a, e)]) (L ++ [e]) := by
  refine ⟨List.pairwise_append.2 ⟨h.1, by simp, fun y hy z hz => ?_⟩, fun x => ?_⟩
  · simp at hz
    subst hz
    obtain ⟨b, h1, h2, h3⟩ := (h.2 y).1 hy
    rcases hP _ h1 with q | ⟨q, q'⟩
    · exact q
    · refine absurd ⟨(b, y), h1, q', ?_⟩ hn
      obtain ⟨k1, k2, k3, k4, k5⟩ := keyCmp_zero.1 q
      unfold kills
      have hk : ¬ y.kind = 2 := by omega
      simp at k1 k2 k3 k5
      simp [sameCol_iff, hk, k1, k2, k3, k5]
  · rw [List.mem_append, h.2 x]
    constructor
    · rintro (⟨b, h1, h2, h3⟩ | hx)
      · exact ⟨b, List.mem_append_left _ h1, h2, fun q => h3 ((over_push h2 (hP _ h1)).1 q)⟩
      · simp at hx
        subst hx
        exact ⟨a, by simp, h0, fun q => hn (over_self.1 q)⟩
    · rintro ⟨b, h1, h2, h3⟩
      rcases List.mem_append.1 h1 with h1 | h1
      · exact .inl ⟨b, h1, h2, fun q => h3 ((over_push h2 (hP _ h1)).2 q)⟩
      · simp at h1
        obtain ⟨rfl, rfl⟩ := h1
        exact .inr (by simp)

/-- The merger's memory of the column at hand, behind what came. -/
structure Mem (P : List (Nat × Ent)) (c : ByteArray × ByteArray × ByteArray) (ds : List (Nat × Int)) (dec : Bool) (ts : Int) : Prop where
  dels : ∀ d, d ∈ ds ↔ ∃ p ∈ P, p.2.kind = 2 ∧ p.2.col = c ∧ d = (p.1, p.2.ts)
  some : dec = true → ∃ p ∈ P, ¬ p.2.kind = 2 ∧ p.2.col = c ∧ p.2.ts = ts
  all : ∀ p ∈ P, ¬ p.2.kind = 2 → p.2.col = c → dec = true ∧ ts ≤ p.2.ts
  len : ds.length ≤ P.length
/-- It is the last one's column. -/
def Last (P : List (Nat × Ent)) (c : ByteArray × ByteArray × ByteArray) : Prop := ∀ p, P.getLast? = some p → p.2.col = c

theorem mem_nil (c : ByteArray × ByteArray × ByteArray) (ts : Int) : Mem [] c [] false ts := ⟨by simp, by simp, by simp, by simp⟩
theorem last_nil (c : ByteArray × ByteArray × ByteArray) : Last [] c := by intro p h; simp at h
theorem last_push (P : List (Nat × Ent)) (a : Nat) (e : Ent) : Last (P ++ [(a, e)]) e.col := by intro p h; simp at h; subst h; rfl
theorem col_fresh {P : List (Nat × Ent)} {c : ByteArray × ByteArray × ByteArray} {a : Nat} {e : Ent} (hl : Last P c) (hS : P.Pairwise Lt2) (hP : ∀ p ∈ P, Lt2 p (a, e)) (hc : ¬ e.col = c) : ∀ p ∈ P, ¬ p.2.col = e.col := by
  intro p hp hq
  obtain ⟨l, hll⟩ : ∃ l, P.getLast? = some l := by
    cases hg : P.getLast? with
    | none => rw [List.getLast?_eq_none_iff] at hg; subst hg; simp at hp
    | some l => exact ⟨l, rfl⟩
  have hm : l ∈ P := List.mem_of_getLast? hll
  have h1 : keyCmp p.2 l.2 ≤ 0 := by
    by_cases hpl : p = l
    · subst hpl; rw [keyCmp_self]; omega
    · obtain ⟨Q, hQ⟩ := List.getLast?_eq_some_iff.1 hll
      subst hQ
      rcases List.mem_append.1 hp with hp | hp
      · exact ((List.pairwise_append.1 hS).2.2 p hp l (by simp)).le
      · simp at hp; exact absurd hp hpl
  have := col_between h1 (hP l hm).le hq
  exact hc (this.symm.trans (hl l hll))
theorem mem_turn {P : List (Nat × Ent)} {c : ByteArray × ByteArray × ByteArray} {a : Nat} {e : Ent} (hl : Last P c) (hS : P.Pairwise Lt2) (hP : ∀ p ∈ P, Lt2 p (a, e)) (hc : ¬ e.col = c) (ts : Int) : Mem P e.col [] false ts := by
  have := col_fresh hl hS hP hc
  refine ⟨fun d => ⟨fun h => by simp at h, ?_⟩, by simp, fun p hp _ q => absurd q (this p hp), by simp⟩
  rintro ⟨p, hp, _, q, _⟩
  exact absurd q (this p hp)
theorem mem_del {P : List (Nat × Ent)} {ds : List (Nat × Int)} {dec : Bool} {ts : Int} {a : Nat} {e : Ent} (h : Mem P e.col ds dec ts) (h2 : e.kind = 2) : Mem (P ++ [(a, e)]) e.col (ds ++ [(a, e.ts)]) dec ts := by
  refine ⟨fun d => ?_, fun q => ?_, fun p hp hn hc => ?_, by simpa using h.len⟩
  · rw [List.mem_append, h.dels]
    constructor
    · rintro (⟨p, hp, q⟩ | hd)
      · exact ⟨p, List.mem_append_left _ hp, q⟩
      · simp at hd
        exact ⟨(a, e), by simp, h2, rfl, hd⟩
    · rintro ⟨p, hp, q1, q2, q3⟩
      rcases List.mem_append.1 hp with hp | hp
      · exact .inl ⟨p, hp, q1, q2, q3⟩
      · simp at hp
        subst hp
        exact .inr (by simpa using q3)
  · obtain ⟨p, hp, k⟩ := h.some q
    exact ⟨p, List.mem_append_left _ hp, k⟩
  · rcases List.mem_append.1 hp with hp | hp
    · exact h.all p hp hn hc
    · simp at hp
      subst hp
      exact absurd h2 hn
theorem mem_same {P : List (Nat × Ent)} {ds : List (Nat × Int)} {dec : Bool} {ts : Int} {a : Nat} {e : Ent} (h : Mem P e.col ds dec ts) (h2 : ¬ e.kind = 2) (hd : dec = true) (ht : ts = e.ts) : Mem (P ++ [(a, e)]) e.col ds dec ts := by
  refine ⟨fun d => ?_, fun q => ?_, fun p hp hn hc => ?_, by simpa using Nat.le_succ_of_le h.len⟩
  · rw [h.dels]
    constructor
    · rintro ⟨p, hp, q⟩
      exact ⟨p, List.mem_append_left _ hp, q⟩
    · rintro ⟨p, hp, q1, q2, q3⟩
      rcases List.mem_append.1 hp with hp | hp
      · exact ⟨p, hp, q1, q2, q3⟩
      · simp at hp
        subst hp
        exact absurd q1 h2
  · obtain ⟨p, hp, k⟩ := h.some q
    exact ⟨p, List.mem_append_left _ hp, k⟩
  · rcases List.mem_append.1 hp with hp | hp
    · exact h.all p hp hn hc
    · simp at hp
      subst hp
      exact ⟨hd, by simp [ht]⟩
theorem mem_new {P : List (Nat × Ent)} {ds : List (Nat × Int)} {dec : Bool} {ts : Int} {a : Nat} {e : Ent} (h : Mem P e.col ds dec ts) (hP : ∀ p ∈ P, Lt2 p (a, e)) (h2 : ¬ e.kind = 2) : Mem (P ++ [(a, e)]) e.col ds true e.ts := by
  refine ⟨fun d => ?_, fun q => ⟨(a, e), by simp, h2, rfl, rfl⟩, fun p hp hn hc => ⟨rfl, ?_⟩, by simpa using Nat.le_succ_of_le h.len⟩
  · rw [h.dels]
    constructor
    · rintro ⟨p, hp, q⟩
      exact ⟨p, List.mem_append_left _ hp, q⟩
    · rintro ⟨p, hp, q1, q2, q3⟩
      rcases List.mem_append.1 hp with hp | hp
      · exact ⟨p, hp, q1, q2, q3⟩
      · simp at hp
        subst hp
        exact absurd q1 h2
  · rcases List.mem_append.1 hp with hp | hp
    · exact ts_falls (hP p hp).le hc hn h2
    · simp at hp
      subst hp
      simp
/-- A newer run's entry at the same key decides. -/
theorem over_decided {P : List (Nat × Ent)} {ds : List (Nat × Int)} {dec : Bool} {ts : Int} {a : Nat} {e : Ent} (h : Mem P e.col ds dec ts) (hP : ∀ p ∈ P, Lt2 p (a, e)) (h2 : ¬ e.kind = 2) (hd : dec = true) (ht : ts = e.ts) : Over P a e := by
  obtain ⟨p, hp, k1, k2, k3⟩ := h.some hd
  simp only [Ent.col, Prod.mk.injEq] at k2
  have hz : keyCmp p.2 e = 0 := keyCmp_zero.2 ⟨k2.1, k2.2.1, k2.2.2, ⟨fun q => absurd q k1, fun q => absurd q h2⟩, by omega⟩
  refine ⟨p, hp, ?_, ?_⟩
  · rcases hP p hp with q | ⟨_, q⟩
    · have q' : keyCmp p.2 e = -1 := q
      omega
    · exact q
  · unfold kills
    simp [sameCol_iff, k1, k2]
    omega
def hides (ds : List (Nat × Int)) (ts : Int) (a : Nat) : Bool := ds.any fun d => decide (d.1 < a) && decide (ts ≤ d.2)
theorem over_hides {P : List (Nat × Ent)} {ds : List (Nat × Int)} {dec : Bool} {ts : Int} {a : Nat} {e : Ent} (h : Mem P e.col ds dec ts) (hP : ∀ p ∈ P, Lt2 p (a, e)) (h2 : ¬ e.kind = 2) (hd : ¬ (dec = true ∧ ts = e.ts)) : Over P a e ↔ hides ds e.ts a = true := by
  unfold hides
  rw [List.any_eq_true]
  constructor
  · rintro ⟨p, hp, h1, hk⟩
    have hk' := hk
    unfold kills at hk
    rw [Bool.and_eq_true, sameCol_col] at hk
    by_cases hp2 : p.2.kind = 2
    · refine ⟨(p.1, p.2.ts), (h.dels _).2 ⟨p, hp, hp2, hk.1, rfl⟩, ?_⟩
      have := hk.2
      simp [hp2] at this
      simp [h1, this]
    · exfalso
      have hts : p.2.ts = e.ts := by
        have := hk.2
        simpa [hp2] using this
      obtain ⟨hdec, hle⟩ := h.all p hp hp2 hk.1
      obtain ⟨y, hy, y1, y2, y3⟩ := h.some hdec
      have f1 := ts_falls (hP y hy).le y2 y1 h2
      have f1' : e.ts ≤ y.2.ts := f1
      exact hd ⟨hdec, by omega⟩
  · rintro ⟨d, hd1, hd2⟩
    obtain ⟨p, hp, q1, q2, rfl⟩ := (h.dels d).1 hd1
    simp at hd2
    refine ⟨p, hp, hd2.1, ?_⟩
    unfold kills
    rw [sameCol_col.2 q2]
    simp [q1, hd2.2]
/-- All that lies in the range has come. -/
theorem shown_all {rs : List (List Ent)} {inr : ByteArray → Bool} {P : List (Nat × Ent)} {L : List Ent} (h : Shown P L) (hP : ∀ a x, (a, x) ∈ P ↔ (∃ j, At rs a j x) ∧ inr x.row = true) : Mrg rs inr L := by
  have ho : ∀ a x, inr x.row = true → (Over P a x ↔ HidTo rs a x) := by
    intro a x hr
    constructor
    · rintro ⟨⟨b, d⟩, hp, h1, h2⟩
      obtain ⟨⟨j, es, k1, k2⟩, _⟩ := (hP b d).1 hp
      exact ⟨b, es, d, h1, k1, List.mem_of_getElem? k2, h2⟩
    · rintro ⟨b, es, d, h1, k1, k2, h2⟩
      obtain ⟨j, hj⟩ := List.getElem?_of_mem k2
      refine ⟨(b, d), (hP b d).2 ⟨⟨j, es, k1, hj⟩, ?_⟩, h1, h2⟩
      unfold kills at h2
      rw [Bool.and_eq_true, sameCol_iff] at h2
      rw [h2.1.1]; exact hr
  refine ⟨h.1, fun x => (h.2 x).trans ⟨?_, ?_⟩⟩
  · rintro ⟨a, h1, h2, h3⟩
    obtain ⟨⟨j, hj⟩, hr⟩ := (hP a x).1 h1
    exact ⟨a, j, hj, h2, hr, fun q => h3 ((ho a x hr).2 q)⟩
  · rintro ⟨a, j, hj, h2, hr, h3⟩
    exact ⟨a, (hP a x).2 ⟨⟨j, hj⟩, hr⟩, h2, fun q => h3 ((ho a x hr).1 q)⟩
end Go.Proofs.YtlgeffinhbodeafGreat

/-
  Cursors and their heap, without memory: what the least one gives next.
-/
namespace Go.Proofs.YtlgeffinhbodeafGreat
set_option linter.unusedVariables false
set_option linter.unusedSimpArgs false

/-- A cursor: its block, the entries that it holds, its place among them and its age. -/
structure Cu where
  blk : Nat
  r : Rm
  pos : Nat
  age : Nat
instance : Inhabited Cu := ⟨⟨0, ⟨0, 0, 0, []⟩, 0, 0⟩⟩
def Cu.head (c : Cu) : Ent := c.r.es[c.pos]?.getD zeroE
def Cu.rest (c : Cu) : List Ent := c.r.es.drop c.pos
theorem Cu.head_get {c : Cu} (h : c.pos < c.r.es.length) : c.r.es[c.pos]? = some c.head := by
  unfold Cu.head
  rw [List.getElem?_eq_getElem h]; rfl
theorem Cu.rest_cons {c : Cu} (h : c.pos < c.r.es.length) : c.rest = c.head :: c.r.es.drop (c.pos + 1) := by
  unfold Cu.rest
  obtain ⟨h1, h2⟩ := List.getElem?_eq_some_iff.1 (Cu.head_get h)
  rw [← h2]; exact List.drop_eq_getElem_cons h1
def lessC (a b : Cu) : Bool := if keyCmp a.head b.head = 0 then decide (a.age < b.age) else decide (keyCmp a.head b.head < 0)
/-- The heap's order, from the other side. -/
def gtC (a b : Cu) : Bool := lessC b a
theorem lessC_iff {a b : Cu} : lessC a b = true ↔ Lt2 (a.age, a.head) (b.age, b.head) := by
  unfold lessC Lt2
  rcases keyCmp_vals a.head b.head with h | h | h <;> simp [h]
theorem lessC_false {a b : Cu} : lessC a b = false ↔ ¬ Lt2 (a.age, a.head) (b.age, b.head) := by
  rw [← lessC_iff]; simp
theorem lt2_not_trans {p q r : Nat × Ent} (h : ¬ Lt2 p q) (k : ¬ Lt2 q r) : ¬ Lt2 p r := by
  intro hr
  by_cases hpq : p.1 = q.1
  · have h2 := keyCmp_neg p.2 q.2
    rcases keyCmp_vals p.2 q.2 with c | c | c
    · exact h (.inl c)
    · have e := keyCmp_congr c (c := r.2)
      refine k ?_
      rcases hr with g | ⟨g, g'⟩
      · exact .inl (by omega)
      · exact .inr ⟨by omega, by omega⟩
    · exact k (lt2_trans (.inl (by omega)) hr)
  · rcases lt2_total hpq with g | g
    · exact h g
    · exact k (lt2_trans g hr)
theorem swo_gtC : Go.Sort.SWO gtC where
  irrefl := fun x => lessC_false.2 (lt2_irrefl _)
  trans := fun x y z h k => by
    unfold gtC at *
    rw [lessC_iff] at *
    exact lt2_trans k h
  ntrans := fun x y z h k => by
    unfold gtC at *
    rw [lessC_false] at *
    exact lt2_not_trans k h

def sumL (l : List (Nat × List Ent)) : Nat := (l.map fun p => p.2.length).sum
/-- What came and what is still to come. -/
structure Flow (A : Nat → Ent → Prop) (N : Nat) (P : List (Nat × Ent)) (l : List (Nat × List Ent)) : Prop where
  sorted : P.Pairwise Lt2
  ahead : ∀ p ∈ P, ∀ c ∈ l, ∀ x ∈ c.2, Lt2 p (c.1, x)
  all : ∀ a x, A a x ↔ (a, x) ∈ P ∨ ∃ c ∈ l, c.1 = a ∧ x ∈ c.2
  ages : l.Pairwise fun c c' => c.1 ≠ c'.1
  ord : ∀ c ∈ l, Ord c.2
  count : P.length + sumL l = N
theorem Flow.perm {A : Nat → Ent → Prop} {N : Nat} {P : List (Nat × Ent)} {l m : List (Nat × List Ent)} (h : Flow A N P l) (hp : l.Perm m) : Flow A N P m where
  sorted := h.sorted
  ahead := fun p hp' c hc => h.ahead p hp' c (hp.mem_iff.2 hc)
  all := fun a x => (h.all a x).trans (by
    constructor
    · rintro (k | ⟨c, hc, k⟩)
      · exact .inl k
      · exact .inr ⟨c, hp.mem_iff.1 hc, k⟩
    · rintro (k | ⟨c, hc, k⟩)
      · exact .inl k
      · exact .inr ⟨c, hp.mem_iff.2 hc, k⟩)
  ages := (hp.pairwise_iff (fun h => Ne.symm h)).1 h.ages
  ord := fun c hc => h.ord c (hp.mem_iff.2 hc)
  count := by
    have : sumL m = sumL l := ((hp.map (fun p : Nat × List Ent => p.2.length)).sum_nat).symm
    rw [this]; exact h.count
theorem Flow.done {A : Nat → Ent → Prop} {N : Nat} {P : List (Nat × Ent)} (h : Flow A N P []) : ∀ a x, (a, x) ∈ P ↔ A a x := fun a x => by
  rw [h.all]; simp
theorem Flow.next {A : Nat → Ent → Prop} {N : Nat} {P : List (Nat × Ent)} {a : Nat} {e : Ent} {r : List Ent} {l : List (Nat × List Ent)} (h : Flow A N P ((a, e :: r) :: l)) : ∀ p ∈ P, Lt2 p (a, e) :=
  fun p hp => h.ahead p hp (a, e :: r) (by simp) e (by simp)
theorem Flow.step {A : Nat → Ent → Prop} {N : Nat} {P : List (Nat × Ent)} {a : Nat} {e : Ent} {r : List Ent} {l : List (Nat × List Ent)} (h : Flow A N P ((a, e :: r) :: l))
    (hm : ∀ c ∈ l, ∃ y ys, c.2 = y :: ys ∧ ¬ Lt2 (c.1, y) (a, e)) : Flow A N (P ++ [(a, e)]) ((a, r) :: l) where
  sorted := List.pairwise_append.2 ⟨h.sorted, by simp, fun p hp q hq => by simp at hq; subst hq; exact h.next p hp⟩
  ahead := fun p hp c hc x hx => by
    rcases List.mem_append.1 hp with hp | hp
    · rcases List.mem_cons.1 hc with rfl | hc
      · exact h.ahead p hp (a, e :: r) (by simp) x (List.mem_cons_of_mem _ hx)
      · exact h.ahead p hp c (List.mem_cons_of_mem _ hc) x hx
    · simp at hp
      subst hp
      have ho := List.pairwise_cons.1 (h.ord (a, e :: r) (by simp))
      rcases List.mem_cons.1 hc with rfl | hc
      · exact .inl (ho.1 x hx)
      · obtain ⟨y, ys, e1, e2⟩ := hm c hc
        have hne : ¬ a = c.1 := (List.pairwise_cons.1 h.ages).1 c hc
        have h1 : Lt2 (a, e) (c.1, y) := (lt2_total (p := (a, e)) (q := (c.1, y)) hne).resolve_right e2
        rw [e1] at hx
        rcases List.mem_cons.1 hx with rfl | hx
        · exact h1
        · have ho' := h.ord c (List.mem_cons_of_mem _ hc)
          rw [e1] at ho'
          exact lt2_trans h1 (.inl ((List.pairwise_cons.1 ho').1 x hx))
  all := fun b x => (h.all b x).trans (by
    constructor
    · rintro (k | ⟨c, hc, k1, k2⟩)
      · exact .inl (List.mem_append_left _ k)
      · rcases List.mem_cons.1 hc with rfl | hc
        · rcases List.mem_cons.1 k2 with rfl | k2
          · left; simp at k1; subst k1; simp
          · exact .inr ⟨(a, r), by simp, k1, k2⟩
        · exact .inr ⟨c, List.mem_cons_of_mem _ hc, k1, k2⟩
    · rintro (k | ⟨c, hc, k1, k2⟩)
      · rcases List.mem_append.1 k with k | k
        · exact .inl k
        · simp at k
          exact .inr ⟨(a, e :: r), by simp, k.1.symm, by simp [k.2]⟩
      · rcases List.mem_cons.1 hc with rfl | hc
        · exact .inr ⟨(a, e :: r), by simp, k1, List.mem_cons_of_mem _ k2⟩
        · exact .inr ⟨c, List.mem_cons_of_mem _ hc, k1, k2⟩)
  ages := List.pairwise_cons.2 ⟨fun c hc => (List.pairwise_cons.1 h.ages).1 c hc, (List.pairwise_cons.1 h.ages).2⟩
  ord := fun c hc => by
    rcases List.mem_cons.1 hc with rfl | hc
    · exact (List.pairwise_cons.1 (h.ord (a, e :: r) (by simp))).2
    · exact h.ord c (List.mem_cons_of_mem _ hc)
  count := by
    have := h.count
    simp [sumL] at this ⊢
    omega
theorem Flow.drop {A : Nat → Ent → Prop} {N : Nat} {P : List (Nat × Ent)} {a : Nat} {l : List (Nat × List Ent)} (h : Flow A N P ((a, []) :: l)) : Flow A N P l where
  sorted := h.sorted
  ahead := fun p hp c hc => h.ahead p hp c (List.mem_cons_of_mem _ hc)
  all := fun b x => (h.all b x).trans (by simp)
  ages := (List.pairwise_cons.1 h.ages).2
  ord := fun c hc => h.ord c (List.mem_cons_of_mem _ hc)
  count := by
    have := h.count
    simp [sumL] at this ⊢
    omega
end Go.Proofs.YtlgeffinhbodeafGreat

/-
  What has turned between two worlds.
-/
namespace Go.Proofs.YtlgeffinhbodeafGreat
open Go.ChangeShapes Go.WideShapes Go.ChangeAt Go.RowKit Go.Deep
set_option linter.unusedVariables false
set_option linter.unusedSimpArgs false

/-- From 'w' to 'w'': only what lies in blocks of 'S' has turned, and new blocks came. -/
structure Chg (S : Nat → Prop) (w w' : World) : Prop where
  os : w'.os = w.os
  tape : w'.tape = w.tape
  output : w'.output = w.output
  size : w.heap.size ≤ w'.heap.size
  block : ∀ k, k < w.heap.size → ¬ S k → w'.heap[k]? = w.heap[k]?
theorem Chg.refl (S : Nat → Prop) (w : World) : Chg S w w := ⟨rfl, rfl, rfl, Nat.le_refl _, fun _ _ _ => rfl⟩
theorem Chg.trans {S : Nat → Prop} {a b c : World} (h : Chg S a b) (k : Chg S b c) : Chg S a c :=
  ⟨k.os.trans h.os, k.tape.trans h.tape, k.output.trans h.output, Nat.le_trans h.size k.size, fun i hi hn => (k.block i (Nat.lt_of_lt_of_le hi h.size) hn).trans (h.block i hi hn)⟩
theorem Chg.mono {S T : Nat → Prop} {w w' : World} (h : Chg S w w') (hs : ∀ k, S k → T k) : Chg T w w' := ⟨h.os, h.tape, h.output, h.size, fun k hk hn => h.block k hk (fun q => hn (hs k q))⟩
theorem Chg.of_below {S : Nat → Prop} {w w' : World} (h : Below w.heap.size w w') : Chg S w w' := ⟨h.os, h.tape, h.output, h.size, fun k hk _ => h.block k hk⟩
theorem Chg.of_grown {S : Nat → Prop} {w w' : World} {row : Option Nat} (h : w.grownBy w' row) (hs : ∀ k, row = some k → S k) : Chg S w w' :=
  ⟨h.os, h.tape, h.output, h.size, fun k hk hn => h.block k hk (fun q => hn (hs k q.symm))⟩
theorem Chg.of_set {S : Nat → Prop} (w : World) (g o : Nat) (u : Value) (hs : S g) : Chg S w (w.setCell ⟨g, o, none⟩ u) := Chg.of_grown (grown_set w g o u) (fun k hk => by cases hk; exact hs)
theorem Chg.below {S : Nat → Prop} {B : Nat} {a w w' : World} (h : Below B a w) (k : Chg S w w') (hB : B ≤ w.heap.size) (hs : ∀ k, S k → B ≤ k) : Below B a w' :=
  h.trans ⟨k.os, k.tape, k.output, k.size, fun i hi => k.block i (by omega) (fun q => by have := hs i q; omega)⟩
theorem Chg.cell {S : Nat → Prop} {w w' : World} (h : Chg S w w') {p : Addr} (hp : p.block < w.heap.size) (hn : ¬ S p.block) : w'.cell? p = w.cell? p := World.cell?_of_block (w := w) (h.block p.block hp hn)
theorem Chg.frozen {S : Nat → Prop} {w w' : World} (h : Chg S w w') {p : Addr} (hp : p.block < w.heap.size) (hn : ¬ S p.block) : w'.frozen? p = w.frozen? p := World.frozen?_of_block (w := w) (h.block p.block hp hn)
theorem EntsAt.chg {S : Nat → Prop} {w w' : World} {b off : Nat} {es : List Ent} (h : EntsAt w b off es) (hb : Chg S w w') (hlt : b < w.heap.size) (hn : ¬ S b) : EntsAt w' b off es := by
  intro i e he
  have := h i e he
  refine ⟨?_, ?_, ?_, ?_, ?_, ?_⟩
  all_goals rw [hb.cell (by exact hlt) (by exact hn)]
  · exact this.1
  · exact this.2.1
  · exact this.2.2.1
  · exact this.2.2.2.1
  · exact this.2.2.2.2.1
  · exact this.2.2.2.2.2
theorem own_apart {w : World} {base e size : Nat} {v : Value} {n : Nat} {xs : List Value} {base' e' size' : Nat} {v' : Value} {n' : Nat} {xs' : List Value} (h : w.ownsRow base e size v n xs) (h' : w.ownsRow base' e' size' v' n' xs') (hne : e ≠ e') : ∀ k, v.ownBlock = some k → v'.ownBlock ≠ some k := by
  intro k hk hk'
  rcases h.2 with ⟨rfl, _⟩ | ⟨g1, cap1, cur, rfl, _, hc, _⟩
  · simp [Value.ownBlock] at hk
  · rcases h'.2 with ⟨rfl, _⟩ | ⟨g2, cap2, cur2, rfl, _, hc2, _⟩
    · simp [Value.ownBlock] at hk'
    · simp [Value.ownBlock] at hk hk'
      subst hk hk'
      rw [hc] at hc2
      simp at hc2
      exact hne hc2.2
theorem own_chg {S : Nat → Prop} {w w' : World} {base e size : Nat} {v : Value} {n : Nat} {xs : List Value} (h : w.ownsRow base e size v n xs) (hb : Chg S w w') (hn : ∀ k, v.ownBlock = some k → ¬ S k) : w'.ownsRow base e size v n xs := by
  refine ⟨h.1, ?_⟩
  rcases h.2 with hz | ⟨g, cap, cur, rfl, h1, hg, rest⟩
  · exact .inl hz
  · refine .inr ⟨g, cap, cur, rfl, h1, ?_, rest⟩
    have hlt : g < w.heap.size := by
      rcases Nat.lt_or_ge g w.heap.size with q | q
      · exact q
      · rw [Array.getElem?_eq_none q] at hg; cases hg
    rw [hb.block g hlt (hn g rfl)]; exact hg

end Go.Proofs.YtlgeffinhbodeafGreat

/-
  A run beside what is changed.
-/
namespace Go.Proofs.YtlgeffinhbodeafGreat
set_option linter.unusedVariables false
theorem Rm.at.chg {S : Nat → Prop} {w w' : World} {r : Rm} (h : r.at w) (hb : Chg S w w') (hn : ¬ S r.b) : r.at w' := ⟨h.ents.chg hb h.lt hn, by have := hb.size; have := h.lt; omega, h.len, h.cap⟩
end Go.Proofs.YtlgeffinhbodeafGreat

/-
  A cursor in memory: its entry, its age, its move.
-/
namespace Go.Proofs.YtlgeffinhbodeafGreat
open Go.ChangeShapes Go.WideShapes Go.ChangeAt Go.RowKit Go.Deep
set_option linter.unusedVariables false
set_option linter.unusedSimpArgs false

structure CuAt (w : World) (c : Cu) : Prop where
  slice : w.cell? ⟨c.blk, 0, none⟩ = some (.slice (some ⟨c.r.b, c.r.off, none⟩) c.r.es.length c.r.cap)
  pos : w.cell? ⟨c.blk, 1, none⟩ = some (.int .i64 c.pos)
  age : w.cell? ⟨c.blk, 2, none⟩ = some (.int .i64 c.age)
  free : ∀ j, w.frozen? ⟨c.blk, j, none⟩ = false
  lt : c.blk < w.heap.size
  ents : c.r.at w
  here : c.pos < c.r.es.length
  short : c.r.es.length ≤ 1048576
  young : c.age ≤ 1048576
theorem CuAt.below {w w' : World} {c : Cu} (h : CuAt w c) (hb : Below w.heap.size w w') : CuAt w' c where
  slice := by rw [hb.cell (p := ⟨c.blk, 0, none⟩) h.lt]; exact h.slice
  pos := by rw [hb.cell (p := ⟨c.blk, 1, none⟩) h.lt]; exact h.pos
  age := by rw [hb.cell (p := ⟨c.blk, 2, none⟩) h.lt]; exact h.age
  free := fun j => by rw [hb.frozen (p := ⟨c.blk, j, none⟩) h.lt]; exact h.free j
  lt := by have := hb.size; have := h.lt; omega
  ents := h.ents.below hb
  here := h.here
  short := h.short
  young := h.young

set_option maxHeartbeats 1000000 in
theorem entry_core (c : Cu) (w : World) (h : CuAt w c) :
    Calls Tryz.prog 151 #[.pointer (some ⟨c.blk, 0, none⟩)] w fun e w' => e = .returned c.head.v ∧ Below w.heap.size w w' := by
  obtain ⟨c0, c1, c2, c3, c4, c5⟩ := h.ents.ents c.pos c.head (Cu.head_get h.here)
  have hs := h.slice
  have hp := h.pos
  have hl := h.lt
  have hr := h.ents.lt
  have hh := h.here
  have z1 : (0 : Int) ≤ (c.pos : Int) := by omega
  have z2 : (c.pos : Int) < (c.r.es.length : Int) := by omega
  have n1 := World.new_ne w _ hs
  have n2 := World.new_ne w _ hp
  have n3 := World.new_ne w _ c0
  simp only at n1 n2 n3
  clear h
  unfold Ent.v
  generalize c.head = e at *
  obtain ⟨blk, ⟨rb, ro, rc, es⟩, pos, age⟩ := c
  simp only at *
  go_enter Tryz.func151, Tryz.ntmps151
  go_upto_region 1 with fail
  go_region_held3 (fun w' => w'.cell? ⟨blk, 0, none⟩ = some (.slice (some ⟨rb, ro, none⟩) es.length rc) ∧ w'.cell? ⟨blk, 1, none⟩ = some (.int .i64 pos) ∧ w'.cell? ⟨rb, ro + pos * 6, none⟩ = some (.string e.row) ∧ w'.cell? ⟨rb, ro + pos * 6 + 1, none⟩ = some (.string e.fam) ∧ w'.cell? ⟨rb, ro + pos * 6 + 2, none⟩ = some (.string e.qual) ∧
    w'.cell? ⟨rb, ro + pos * 6 + 3, none⟩ = some (.int .u64 e.ts) ∧ w'.cell? ⟨rb, ro + pos * 6 + 4, none⟩ = some (.int .i64 e.kind) ∧ w'.cell? ⟨rb, ro + pos * 6 + 5, none⟩ = some (.string e.val)) (go_keep) (fail)
  go_wp2
  refine bodyPost_ret (v := .agg #[.string e.row, .string e.fam, .string e.qual, .int .u64 e.ts, .int .i64 e.kind, .string e.val]) (by simp [results, Tryz.results151, go_sem]) rfl ⟨rfl, ?_⟩
  exact ((Below.refl _ _).alloc (Nat.le_refl _) _).drew

set_option maxHeartbeats 400000 in
theorem age_core (c : Cu) (w : World) (h : CuAt w c) :
    Calls Tryz.prog 150 #[.pointer (some ⟨c.blk, 0, none⟩)] w fun e w' => e = .returned (.int .i64 c.age) ∧ Below w.heap.size w w' := by
  have ha := h.age
  go_enter Tryz.func150, Tryz.ntmps150
  go_wp2
  go_ret
  exact ⟨rfl, Below.refl _ _⟩

theorem CuAt.chg {S : Nat → Prop} {w w' : World} {c : Cu} (h : CuAt w c) (hb : Chg S w w') (h1 : ¬ S c.blk) (h2 : ¬ S c.r.b) : CuAt w' c where
  slice := by rw [hb.cell (p := ⟨c.blk, 0, none⟩) h.lt h1]; exact h.slice
  pos := by rw [hb.cell (p := ⟨c.blk, 1, none⟩) h.lt h1]; exact h.pos
  age := by rw [hb.cell (p := ⟨c.blk, 2, none⟩) h.lt h1]; exact h.age
  free := fun j => by rw [hb.frozen (p := ⟨c.blk, j, none⟩) h.lt h1]; exact h.free j
  lt := by have := hb.size; have := h.lt; omega
  ents := h.ents.chg hb h2
  here := h.here
  short := h.short
  young := h.young

/-- The cursor, one further. -/
def Cu.on (c : Cu) : Cu := { c with pos := c.pos + 1 }
theorem CuAt.on {w : World} {c : Cu} (h : CuAt w c) (hb : ¬ c.r.b = c.blk) (hn : c.pos + 1 < c.r.es.length) : CuAt (w.setCell ⟨c.blk, 1, none⟩ (.int .i64 (c.pos + 1 : Nat))) c.on := by
  have hg : Chg (fun k => k = c.blk) w (w.setCell ⟨c.blk, 1, none⟩ (.int .i64 (c.pos + 1 : Nat))) := Chg.of_set w c.blk 1 _ rfl
  exact {
    slice := by
      show World.cell? _ ⟨c.blk, 0, none⟩ = _
      rw [World.cell?_setCell_other _ _ _ _ (by simp)]; exact h.slice
    pos := World.cell?_setCell_same _ _ _ h.pos
    age := by
      show World.cell? _ ⟨c.blk, 2, none⟩ = _
      rw [World.cell?_setCell_other _ _ _ _ (by simp)]; exact h.age
    free := fun j => by
      show World.frozen? _ ⟨c.blk, j, none⟩ = _
      rw [World.frozen?_setCell]; exact h.free j
    lt := by have := hg.size; have := h.lt; show c.blk < _; omega
    ents := h.ents.chg hg hb
    here := hn
    short := h.short
    young := h.young }

set_option maxHeartbeats 1000000 in
theorem advance_more (c : Cu) (w : World) (h : CuAt w c) (hn : c.pos + 1 < c.r.es.length) :
    Calls Tryz.prog 149 #[.pointer (some ⟨c.blk, 0, none⟩)] w fun e w' =>
      e = .returned (.bool true) ∧ ∃ w1, Below w.heap.size w w1 ∧ w' = w1.setCell ⟨c.blk, 1, none⟩ (.int .i64 (c.pos + 1 : Nat)) := by
  have hs := h.slice
  have hp := h.pos
  have hh := h.here
  have hq := h.short
  have hf := h.free 1
  clear h
  obtain ⟨blk, ⟨rb, ro, rc, es⟩, pos, age⟩ := c
  simp only at *
  have z : ¬ ((es.length : Int) ≤ (pos : Int) + 1) := by omega
  go_enter Tryz.func149, Tryz.ntmps149
  go_upto_region 1 with fail
  go_quiet (fail)
  go_wp2
  go_ret
  exact ⟨rfl, _, below_drewN (Below.refl _ _) _, rfl⟩
set_option maxHeartbeats 1000000 in
theorem advance_last (c : Cu) (w : World) (h : CuAt w c) (hn : ¬ c.pos + 1 < c.r.es.length) :
    Calls Tryz.prog 149 #[.pointer (some ⟨c.blk, 0, none⟩)] w fun e w' => e = .returned (.bool false) ∧ Below w.heap.size w w' := by
  have hs := h.slice
  have hp := h.pos
  have hh := h.here
  have hq := h.short
  clear h
  obtain ⟨blk, ⟨rb, ro, rc, es⟩, pos, age⟩ := c
  simp only at *
  have z : (es.length : Int) ≤ (pos : Int) + 1 := by omega
  go_enter Tryz.func149, Tryz.ntmps149
  go_upto_region 1 with fail
  go_quiet (fail)
  go_wp2
  go_ret
  exact ⟨rfl, below_drewN (Below.refl _ _) _⟩
end Go.Proofs.YtlgeffinhbodeafGreat

