/-
  entriesIn with its answer told ahead; impl's validRuns, ValidStore.
-/
import Derived.Test.YtlgeffinhbodeaeQVStR
namespace Go.Proofs.Ytlgeffinhbodeae
open Go.ChangeShapes Go.WideShapes Go.ChangeAt Go.RowKit Go.Deep
set_option linter.unusedVariables false
set_option linter.unusedSimpArgs false
set_option maxRecDepth 100000

/-- Not later: not larger. -/
theorem le_less (a b : ByteArray) : (Op.bytesLess a.toList b.toList || a.toList == b.toList) = !Op.bytesLess b.toList a.toList := by
  have hn := cB_neg a b
  cases h1 : Op.bytesLess a.toList b.toList
  · cases h2 : (a.toList == b.toList)
    · have := cB_more h1 h2
      have h3 : cB b a = -1 := by rw [hn, this]
      rw [(cB_less_iff b a).2 h3]; rfl
    · have := cB_same h2
      cases h3 : Op.bytesLess b.toList a.toList
      · rfl
      · have := cB_less h3
        omega
  · have := cB_less h1
    cases h3 : Op.bytesLess b.toList a.toList
    · rfl
    · have := cB_less h3
      omega
theorem rowAt_uniq {es : List Ent} {row : ByteArray} {i j : Nat} (h : RowAt es row i) (k : RowAt es row j) : i = j := by
  rcases Nat.lt_trichotomy i j with q | q | q
  · have hl : i < es.length := by have := k.1; omega
    have hx := List.getElem?_eq_getElem hl
    have h1 := (k.2 i _ hx).1 q
    have h2 := (h.2 i _ hx).2 h1
    omega
  · exact q
  · have hl : j < es.length := by have := h.1; omega
    have hx := List.getElem?_eq_getElem hl
    have h1 := (h.2 j _ hx).1 q
    have h2 := (k.2 j _ hx).2 h1
    omega
theorem where_uniq {r p q : Rm} {lo hi : ByteArray} {hh : Bool} (hg : GoodR r.es) (h : PartOf r p lo hh hi) (h' : PartOf r q lo hh hi) (k : WhereP r p lo) (k' : WhereP r q lo) : p = q := by
  have e1 := partOf_filter h hg
  have e2 := partOf_filter h' hg
  obtain ⟨i, a1, a2, a3⟩ := k
  obtain ⟨j, b1, b2, b3⟩ := k'
  have hij := rowAt_uniq a1 b1
  subst hij
  cases p; cases q
  simp only at *
  rw [e1, e2, a2, b2, a3, b3]
  have hb := h.blk
  have hb' := h'.blk
  simp only at hb hb'
  rw [hb, hb']
theorem cut_ex {α : Type} (P : α → Bool) : ∀ (l : List α), (∀ (i j : Nat) (x y : α), i ≤ j → l[i]? = some x → l[j]? = some y → P y = true → P x = true) → ∃ i : Nat, i ≤ l.length ∧ ∀ (t : Nat) (x : α), l[t]? = some x → (t < i ↔ P x = true)
  | [], _ => ⟨0, Nat.le_refl _, fun t x h => by simp at h⟩
  | a :: l, hm => by
    cases ha : P a
    · refine ⟨0, Nat.zero_le _, fun t x hx => ⟨fun q => by omega, fun q => ?_⟩⟩
      have := hm 0 t a x (Nat.zero_le _) rfl hx q
      rw [ha] at this
      cases this
    · obtain ⟨i, h1, h2⟩ := cut_ex P l (fun i j x y hij hx hy => hm (i + 1) (j + 1) x y (by omega) (by simpa using hx) (by simpa using hy))
      refine ⟨i + 1, by simp; omega, fun t x hx => ?_⟩
      cases t with
      | zero =>
        simp at hx
        subst hx
        exact ⟨fun _ => ha, fun _ => by omega⟩
      | succ t =>
        have := h2 t x (by simpa using hx)
        rw [← this]
        omega
theorem rowAt_ex {es : List Ent} (hg : GoodR es) (row : ByteArray) : ∃ i, RowAt es row i := by
  refine cut_ex (fun x : Ent => Op.bytesLess x.row.toList row.toList) es (fun i j x y hij hx hy hk => ?_)
  have vx := hg.1.2 x (List.mem_of_getElem? hx)
  have vy := hg.1.2 y (List.mem_of_getElem? hy)
  rw [← least_iff vx]
  rw [← least_iff vy] at hk
  by_cases h : i = j
  · subst h; rw [hx] at hy; simp at hy; subst hy; exact hk
  · exact keyCmp_trans (ord_get (ord_of_good hg) (by omega) hx hy) hk
/-- The part of a run in a range, told ahead. -/
theorem part_ex {r : Rm} (hg : GoodR r.es) (hc : r.es.length ≤ r.cap) (lo hi : ByteArray) (hh : Bool) : ∃ p : Rm, PartOf r p lo hh hi ∧ WhereP r p lo ∧ p.es.length ≤ p.cap := by
  obtain ⟨i, h1⟩ := rowAt_ex hg lo
  obtain ⟨j, hj⟩ : ∃ j, (hh = true → RowAt r.es hi j) ∧ (hh = false → j = r.es.length) := by
    cases hh
    · exact ⟨r.es.length, ⟨fun q => (by cases q), fun _ => rfl⟩⟩
    · obtain ⟨j, hj⟩ := rowAt_ex hg hi
      exact ⟨j, ⟨fun _ => hj, fun q => (by cases q)⟩⟩
  have hp := part_of hg h1 hj
  have hil := h1.1
  have hjl : j ≤ r.es.length := by
    cases hh
    · rw [hj.2 rfl]; exact Nat.le_refl _
    · exact (hj.1 rfl).1
  by_cases hci : r.cap = i
  · have hn : (r.part i (max i j - i)).es = [] := List.eq_nil_of_length_eq_zero (by rw [part_len (by omega)]; omega)
    refine ⟨⟨r.b, r.off, 0, []⟩, ⟨rfl, List.Pairwise.nil, fun x => ?_, by simp⟩, ⟨i, h1, by rw [if_pos hci], by show 0 = r.cap - i; omega⟩, by simp⟩
    have := hp.mem x
    rw [hn] at this
    exact this
  · exact ⟨r.part i (max i j - i), hp, ⟨i, h1, by rw [if_neg hci]; rfl, rfl⟩, by rw [part_len (by omega)]; show max i j - i ≤ r.cap - i; omega⟩
theorem entriesIn_det (r p : Rm) (lo hi : ByteArray) (hh : Bool) (w : World) (hr : r.at w) (hg : GoodR r.es) (hp : PartOf r p lo hh hi) (hw : WhereP r p lo) :
    Calls Try.prog 93 #[.agg #[.slice (some ⟨r.b, r.off, none⟩) r.es.length r.cap], .agg #[.string lo, .bool hh, .string hi]] w fun e w' =>
      e = .returned (.slice (some ⟨p.b, p.off, none⟩) p.es.length p.cap) ∧ Below w.heap.size w w' :=
  (entriesIn_at r lo hi hh w hr hg).mono fun e w' ⟨q, h1, h2, h3, h4, h5⟩ => by
    have := where_uniq hg hp h3 hw h5
    subst this
    exact ⟨h1, h4⟩

theorem rowsIn_mem {lo hi : ByteArray} {hh : Bool} {l : List Rm} (h : RowsIn lo hh hi (esM l)) {r : Rm} (hr : r ∈ l) : r.es ≠ [] ∧ ∀ e ∈ r.es, inR lo hh hi e.row = true := h _ (List.mem_map.2 ⟨r, hr, rfl⟩)
theorem rowsIn_of {lo hi : ByteArray} {hh : Bool} {l : List Rm} (h : ∀ r ∈ l, r.es ≠ [] ∧ ∀ e ∈ r.es, inR lo hh hi e.row = true) : RowsIn lo hh hi (esM l) := by
  intro es he
  obtain ⟨r, hr, rfl⟩ := List.mem_map.1 he
  exact h r hr

set_option maxHeartbeats 4000000 in
theorem validRuns_core (t : Tm) (lo hi : ByteArray) (hh : Bool) (w : World) (ht : t.at w) (hok : OkTm t) :
    Calls Try.prog 116 #[.agg #[.string t.lo, .slice (some ⟨t.b, t.off, none⟩) t.l.length t.cap], .agg #[.string lo, .bool hh, .string hi]] w fun e w' =>
      ∃ r : Bool, e = .returned (.bool r) ∧ (r = true ↔ GoodRs (esM t.l) ∧ RowsIn lo hh hi (esM t.l)) ∧ Below w.heap.size w w' := by
  have HT : Hid (t.at w ∧ OkTm t) := ⟨ht, hok⟩
  have hn := hok.runs
  clear ht hok
  obtain ⟨Wa, hWa⟩ : ∃ Wa : World, Wa = w.alloc (Obj.cells #[.string t.lo, .slice (some ⟨t.b, t.off, none⟩) t.l.length t.cap] 133) := ⟨_, rfl⟩
  obtain ⟨W0, hW0⟩ : ∃ W0 : World, W0 = Wa.alloc (Obj.cells #[.string lo, .bool hh, .string hi] 25) := ⟨_, rfl⟩
  have hba : Below w.heap.size w Wa := by rw [hWa]; exact (Below.refl _ _).alloc (Nat.le_refl _) _
  have hza : Wa.heap.size = w.heap.size + 1 := by rw [hWa]; simp
  have hbb : Below Wa.heap.size Wa W0 := by rw [hW0]; exact (Below.refl _ _).alloc (Nat.le_refl _) _
  have hz0 : W0.heap.size = w.heap.size + 1 + 1 := by rw [hW0]; simp [hza]
  have hb0 : Below w.heap.size w W0 := hba.trans (hbb.mono (by omega))
  have HC : Hid (∀ wx, Below W0.heap.size W0 wx → wx.cell? ⟨w.heap.size, 1, none⟩ = some (.slice (some ⟨t.b, t.off, none⟩) t.l.length t.cap) ∧ wx.cell? ⟨w.heap.size + 1, 0, none⟩ = some (.string lo) ∧ wx.cell? ⟨w.heap.size + 1, 1, none⟩ = some (.bool hh) ∧ wx.cell? ⟨w.heap.size + 1, 2, none⟩ = some (.string hi)) := by
    intro wx hb
    rw [hb.cell (p := ⟨w.heap.size, 1, none⟩) (by show w.heap.size < W0.heap.size; omega), hb.cell (p := ⟨w.heap.size + 1, 0, none⟩) (by show w.heap.size + 1 < W0.heap.size; omega), hb.cell (p := ⟨w.heap.size + 1, 1, none⟩) (by show w.heap.size + 1 < W0.heap.size; omega), hb.cell (p := ⟨w.heap.size + 1, 2, none⟩) (by show w.heap.size + 1 < W0.heap.size; omega)]
    refine ⟨?_, ?_, ?_, ?_⟩
    · rw [hbb.cell (p := ⟨w.heap.size, 1, none⟩) (by show w.heap.size < Wa.heap.size; omega), hWa]; simp
    · rw [hW0, ← hza]; simp
    · rw [hW0, ← hza]; simp
    · rw [hW0, ← hza]; simp
  have HT0 : Hid (t.at W0) := (HT.out.1.below hba).below hbb
  obtain ⟨c0, c1, c2, c3⟩ := HC.out W0 (Below.refl _ _)
  go_enter Try.func116, Try.ntmps116
  go_wp2_with fail
  rw [← hWa, ← hW0]
  clear hWa hW0
  refine (validStack_core t.b t.off t.cap t.l _ HT0.out.rms HT.out.2.ents HT0.out.lt hn).mono ?_
  rintro e w1 ⟨s, rfl, hs, hb1⟩
  have HS : Hid (s = true ↔ GoodRs (esM t.l)) := hs
  have hs1 := hb1.size
  have HT1 : Hid (t.at w1) := HT0.out.below hb1
  clear hs c0 c1 c2 c3
  obtain ⟨c0, c1, c2, c3⟩ := HC.out w1 hb1
  cases s
  · have H : Hid (¬ (GoodRs (esM t.l) ∧ RowsIn lo hh hi (esM t.l))) := fun q => Bool.noConfusion (HS.out.2 q.1)
    go_wp2_with fail
    go_ret
    exact ⟨_, rfl, iffF H.out, hb0.trans (hb1.mono (by omega))⟩
  have HG : Hid (GoodRs (esM t.l)) := HS.out.1 rfl
  go_wp2_with fail
  clear c0 c1 c2 c3
  go_loopw [14] (fun i wr => ∃ (k : Nat), k ≤ t.l.length ∧ i = .int .i64 k ∧ (∀ r ∈ t.l.take k, r.es ≠ [] ∧ ∀ e ∈ r.es, inR lo hh hi e.row = true) ∧ Below w1.heap.size w1 wr) (fun i _ => t.l.length - (intOf i).toNat)
  case atStart => exact ⟨0, Nat.zero_le _, rfl, by simp, Below.refl _ _⟩
  case round =>
    obtain ⟨k, hk, rfl, hv, hb⟩ := hrel
    have HV : Hid (∀ r ∈ t.l.take k, r.es ≠ [] ∧ ∀ e ∈ r.es, inR lo hh hi e.row = true) := hv
    have hsz := hb.size
    have hbx := hb1.trans (hb.mono (by omega))
    clear hv
    by_cases hlt : k < t.l.length
    · obtain ⟨r, hr⟩ : ∃ r, t.l[k]? = some r := ⟨_, List.getElem?_eq_getElem hlt⟩
      obtain ⟨c0, ha⟩ := ((HT1.out.below hb).rms) k r hr
      have HA : Hid (r.at wr ∧ t.l[k]? = some r ∧ GoodR r.es) := ⟨ha, hr, goodRs_mem HG.out (List.mem_of_getElem? hr)⟩
      have hrl : r.es.length ≤ 1048576 := by have := HA.out.2.2.1.1; omega
      clear ha hr
      obtain ⟨W1, hW1⟩ : ∃ W1 : World, W1 = wr.alloc (Obj.cells #[.slice (some ⟨r.b, r.off, none⟩) r.es.length r.cap] 30) := ⟨_, rfl⟩
      have hbA : Below wr.heap.size wr W1 := by rw [hW1]; exact (Below.refl _ _).alloc (Nat.le_refl _) _
      have hzA : W1.heap.size = wr.heap.size + 1 := by rw [hW1]; simp
      have HA1 : Hid (r.at W1) := HA.out.1.below hbA
      have hbz : Below w1.heap.size w1 W1 := hb.trans (hbA.mono hsz)
      have cR : ∀ n : Out W1, n.u.cell? ⟨wr.heap.size, 0, none⟩ = some (.slice (some ⟨r.b, r.off, none⟩) r.es.length r.cap) := fun n => by
        rw [n.out.cell (p := ⟨wr.heap.size, 0, none⟩) (by show wr.heap.size < W1.heap.size; omega), hW1]; simp
      obtain ⟨p, hp1, hp2, hp3⟩ := part_ex HA.out.2.2 HA.out.1.len lo hi hh
      have HP : Hid (PartOf r p lo hh hi ∧ WhereP r p lo ∧ ∀ n : Out W1, r.at n.u) := ⟨hp1, hp2, fun n => HA1.out.below n.out⟩
      have hpl := hp1.len
      clear hp1 hp2 hp3
      have qq : ∀ n : Out W1, n.u.cell? ⟨w.heap.size + 1, 0, none⟩ = some (.string lo) ∧ n.u.cell? ⟨w.heap.size + 1, 1, none⟩ = some (.bool hh) ∧ n.u.cell? ⟨w.heap.size + 1, 2, none⟩ = some (.string hi) := fun n => (HC.out n.u (hb1.trans ((hbz.trans (n.out.mono (by omega))).mono (by omega)))).2
      have q1 := fun n => (qq n).1
      have q2 := fun n => (qq n).2.1
      have q3 := fun n => (qq n).2.2
      clear qq
      have zk : (k : Int) < (t.l.length : Int) := by omega
      have inh : Nonempty (Out W1) := ⟨⟨W1, Below.refl _ _⟩⟩
      by_cases hemp : r.es.length = 0
      · have H : Hid (¬ (GoodRs (esM t.l) ∧ RowsIn lo hh hi (esM t.l))) := fun q => (rowsIn_mem q.2 (List.mem_of_getElem? HA.out.2.1)).1 (List.eq_nil_of_length_eq_zero hemp)
        have hd : ((r.es.length : Int) == 0) = true := by rw [hemp]; rfl
        clear hemp
        go_upto_region 6 with fail
        rw [← hW1]
        clear hW1
        refine wp_region_out (by kernel_rfl) (by kernel_rfl) ?_
        repeat (go_big_quiet_step ((go_at_call 93; exact Calls.out_of (entriesIn_det r p lo hi hh _ (HP.out.2.2 _) HA.out.2.2 HP.out.1 HP.out.2.1))))
        refine wpQuiet_nil ?_
        rintro wy ⟨⟨wx, hby⟩, rfl⟩
        have hbw : Below w.heap.size w wy := hb0.trans ((hb1.trans ((hbz.trans (hby.mono (by omega))).mono (by omega))).mono (by omega))
        go_wp2_with fail
        go_ret
        exact ⟨_, rfl, iffF H.out, hbw⟩
      · have hd : ((r.es.length : Int) == 0) = false := beq_eq_false_iff_ne.2 (by omega)
        have HM : Hid (¬ r.es.length = 0) := hemp
        clear hemp
        go_upto_region 6 with fail
        rw [← hW1]
        clear hW1
        refine wp_region_out (by kernel_rfl) (by kernel_rfl) ?_
        repeat (go_big_quiet_step ((go_at_call 93; exact Calls.out_of (entriesIn_det r p lo hi hh _ (HP.out.2.2 _) HA.out.2.2 HP.out.1 HP.out.2.1))))
        refine wpQuiet_nil ?_
        rintro wy ⟨⟨wx, hby⟩, rfl⟩
        have hb2 : Below w1.heap.size w1 wy := hbz.trans (hby.mono (by omega))
        by_cases hall : p.es.length < r.es.length
        · have H : Hid (¬ (GoodRs (esM t.l) ∧ RowsIn lo hh hi (esM t.l))) := fun q => by
            have h1 := (rowsIn_mem q.2 (List.mem_of_getElem? HA.out.2.1)).2
            have h2 := (partOf_all HP.out.1 HA.out.2.2).2 h1
            omega
          have hbw : Below w.heap.size w wy := hb0.trans ((hb1.trans (hb2.mono (by omega))).mono (by omega))
          have zl : (p.es.length : Int) < (r.es.length : Int) := by omega
          go_wp2_with fail
          go_ret
          exact ⟨_, rfl, iffF H.out, hbw⟩
        · have zl : ¬ (p.es.length : Int) < (r.es.length : Int) := by omega
          have H : Hid (∀ r ∈ t.l.take (k + 1), r.es ≠ [] ∧ ∀ e ∈ r.es, inR lo hh hi e.row = true) := fun x hx => by
            rcases mem_take_succ HA.out.2.1 hx with h | rfl
            · exact HV.out x h
            · exact ⟨fun q => HM.out (by rw [q]; rfl), (partOf_all HP.out.1 HA.out.2.2).1 (by omega)⟩
          go_wp2_with fail
          go_roundw
          case rel => exact ⟨k + 1, by omega, by go_num, H.out, hb2⟩
          case measure => go_light; simp [intOf]; omega
    · have zk : ¬ (k : Int) < (t.l.length : Int) := by omega
      have H : Hid (GoodRs (esM t.l) ∧ RowsIn lo hh hi (esM t.l)) := ⟨HG.out, rowsIn_of (fun r hr => HV.out r (by rw [List.take_of_length_le (by omega)]; exact hr))⟩
      go_wp2_with fail
      go_ret
      exact .inr ⟨rfl, H.out, hb0.trans (hbx.mono (by omega))⟩

theorem tmsAt_out {w : World} {b off m : Nat} {l : List Tm} {r : Tm} (h : TmsAt w b off l) (hb : b < w.heap.size) (hr : l[m]? = some r) : (∀ n : Out w, n.u.cell? ⟨b, off + m * 2, none⟩ = some (.string r.lo)) ∧ (∀ n : Out w, n.u.cell? ⟨b, off + m * 2 + 1, none⟩ = some r.u) ∧ ∀ n : Out w, r.at n.u :=
  ⟨fun n => (h.below n.out hb m r hr).1, fun n => (h.below n.out hb m r hr).2.1, fun n => (h.below n.out hb m r hr).2.2⟩
theorem goodS_of {ts : List Tm} (h1 : 1 ≤ ts.length) (h2 : ts.length ≤ 100) (h3 : ∀ t, ts[0]? = some t → t.lo.size = 0) (h4 : ∀ i t, ts[i]? = some t → GoodT (tbs ts) i t.tb) : GoodS (tbs ts) := by
  refine ⟨by rw [tbs_len]; exact h1, by rw [tbs_len]; exact h2, fun t ht => ?_, fun i t ht => ?_⟩
  · rw [tbs_get] at ht
    obtain ⟨u, hu, rfl⟩ := Option.map_eq_some_iff.1 ht
    exact h3 u hu
  · rw [tbs_get] at ht
    obtain ⟨u, hu, rfl⟩ := Option.map_eq_some_iff.1 ht
    exact h4 i u hu
theorem goodS_at {ts : List Tm} (h : GoodS (tbs ts)) {i : Nat} {t : Tm} (ht : ts[i]? = some t) : GoodT (tbs ts) i t.tb := h.tabs i t.tb (by rw [tbs_get, ht]; rfl)
end Go.Proofs.Ytlgeffinhbodeae
