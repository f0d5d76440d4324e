import Derived.Test.YtkidabedcgngcaaGreatDoorPkAS
import Derived.Test.YtkidabedcgngcaaGreatDoorPkAC
import Derived.Test.YtkidabedcgngcaaGreatDoorPkAQ
import Derived.Test.YtkidabedcgngcaaGreatDoorPkAK
import Derived.Test.YtkidabedcgngcaaGreatDoorPkAG
import Derived.Test.YtkidabedcgngcaaGreatDoorPkAH
/-
  spec's l4Atom at a class.
-/
namespace Go.Proofs.YtkidabedcgngcaaGreatDoor
open Go.ChangeShapes Go.WideShapes Go.ChangeAt Go.RowKit Go.Deep
set_option linter.unusedVariables false
set_option linter.unusedSimpArgs false
set_option maxRecDepth 100000

set_option maxHeartbeats 8000000 in
theorem atm_cls {s : ByteArray} (hs : s.size ≤ 200) (q : ByteArray) (fc : UInt8 → Bool) (hq91 : (sb q)[0]? = some 91) (hqs : q.size ≤ 200) (hcl : classM (sb q) 1 = .inl (fc, q.size)) (w : World) : Calls Tryz.prog 178 #[.string q, .string s] w (MxG s (Lg (.cls fc)) w) := by
  obtain ⟨d, hd⟩ : ∃ d : UInt8, d = 91 := ⟨_, rfl⟩
  rw [← hd] at hq91
  have hql : 0 < q.size := by have := lt_of_at hq91; rw [sb_len] at this; exact this
  obtain ⟨_, gq⟩ := sb_get (s := q) (i := 0) (x := d) hq91
  have z40 : ((d.toNat : Int) == 40) = false := by rw [hd]; rfl
  have z46 : ((d.toNat : Int) == 46) = false := by rw [hd]; rfl
  have z92 : ((d.toNat : Int) == 92) = false := by rw [hd]; rfl
  have z91 : ((d.toNat : Int) == 91) = true := by rw [hd]; rfl
  have HHo : Hid (∀ (b : UInt8) (wx : World), Calls Tryz.prog 185 #[.string q, .int .u8 (b.toNat : Int)] wx fun e w' => e = .returned (.bool (fc b)) ∧ w' = wx) := fun b wx => l4Holds_core q hqs b fc hcl wx
  have zq : (0 : Int) < (q.size : Int) := by omega
  have HNo : Hid (Calls Tryz.prog 168 #[.int .i64 (s.size : Int)] w (MaP (s.size + 1) (fun _ _ => false) w)) := l4None_core s.size (by omega) w
  clear hq91 hd hqs hcl
  go_enter Tryz.func178, Tryz.ntmps178
  go_wp2_with fail
  refine HNo.out.mono ?_
  rintro r w1 ⟨g, cp, ρ, γ, rfl, HM, hb1⟩
  have hcp := HM.out.out.caps
  go_wp2_with fail
  go_loopw [6] (fun iv wr => ∃ (k : Nat) (f : Nat → Nat → Bool), k ≤ s.size ∧ iv = .int .i64 k ∧ Hid (MatO wr w.heap.size g cp (s.size + 1) (s.size + 1) ρ γ f ∧ (∀ i j, i ≤ j → j < s.size + 1 → f i j = (decide (j = i + 1) && (((sb s)[i]?).map (fun x => fc x)).getD false && decide (i < k))) ∧ Below w.heap.size w wr)) (fun iv _ => s.size - (intOf iv).toNat)
  case atStart => exact ⟨0, _, Nat.zero_le _, rfl, HM.out, fun i j _ _ => by simp, hb1⟩
  case round =>
    obtain ⟨k, f, hk, rfl, HJ⟩ := hrel
    by_cases hlt : k < s.size
    · have zk : (k : Int) < (s.size : Int) := by omega
      obtain ⟨x, hx⟩ : ∃ x, (sb s)[k]? = some x := ⟨_, List.getElem?_eq_getElem (by rw [sb_len]; exact hlt)⟩
      obtain ⟨_, gx⟩ := sb_get hx
      have c0 : wr.cell? ⟨g, k, none⟩ = some (slV (ρ k) (s.size + 1) (γ k)) := HJ.out.1.cell (by omega)
      have hkk : k < s.size + 1 := by omega
      have c1 : wr.cell? ⟨ρ k, k + 1, none⟩ = some (.bool (f k (k + 1))) := (HJ.out.1.row k hkk).cell (by omega)
      have y1 : wr.frozen? ⟨ρ k, k + 1, none⟩ = false := World.ownsRow.frozenAt (HJ.out.1.row k hkk) _
      have hrc := (HJ.out.1.row k hkk).caps
      obtain ⟨bv, hbv⟩ : ∃ bv, bv = (fc x) := ⟨_, rfl⟩
      have HV : Hid (bv = (fun x => fc x) x) := by exact hbv
      have HX : Hid ((sb s)[k]? = some x) := hx
      clear hx
      go_upto_region 7 with fail
      refine wp_region_T 99 (fun _ => True) (by kernel_rfl) ?_
      refine anyT_takeN (i := 0) (v := ?vb0) rfl (by kernel_rfl) (by kernel_rfl) (by kernel_rfl) (by rfl) (fun _ _ _ h => h) (Or.inl ⟨by rfl, ?yb0⟩) True.intro ?_
      case yb0 => (intro wz hSw; go_simp; (try with_reducible rfl))
      try simp only [Act.put, List.getElem_toArray, List.getElem_cons_zero, List.getElem_cons_succ, List.setIfInBounds_toArray, List.set_cons_zero, List.set_cons_succ]
      refine anyT_takeN (i := 1) (v := ?vb1) rfl (by kernel_rfl) (by kernel_rfl) (by kernel_rfl) (by rfl) (fun _ _ _ h => h) (Or.inl ⟨by rfl, ?yb1⟩) True.intro ?_
      case yb1 => (intro wz hSw; go_simp; (try with_reducible rfl))
      try simp only [Act.put, List.getElem_toArray, List.getElem_cons_zero, List.getElem_cons_succ, List.setIfInBounds_toArray, List.set_cons_zero, List.set_cons_succ]
      refine anyT_takeN (i := 2) (v := .bool false) rfl (by kernel_rfl) (by kernel_rfl) (by kernel_rfl) (by rfl) (fun _ _ _ h => h) (Or.inl ⟨by rfl, ?yb2⟩) True.intro ?_
      case yb2 => (intro wz hSw; go_simp; (try simp only [z46]); (try with_reducible rfl))
      try simp only [Act.put, List.getElem_toArray, List.getElem_cons_zero, List.getElem_cons_succ, List.setIfInBounds_toArray, List.set_cons_zero, List.set_cons_succ]
      refine anyT_takeN (i := 3) (v := ?vb3) rfl (by kernel_rfl) (by kernel_rfl) (by kernel_rfl) (by rfl) (fun _ _ _ h => h) (Or.inl ⟨by rfl, ?yb3⟩) True.intro ?_
      case yb3 => (intro wz hSw; go_simp; (try with_reducible rfl))
      try simp only [Act.put, List.getElem_toArray, List.getElem_cons_zero, List.getElem_cons_succ, List.setIfInBounds_toArray, List.set_cons_zero, List.set_cons_succ]
      refine anyT_takeN (i := 4) (v := ?vb4) rfl (by kernel_rfl) (by kernel_rfl) (by kernel_rfl) (by rfl) (fun _ _ _ h => h) (Or.inl ⟨by rfl, ?yb4⟩) True.intro ?_
      case yb4 => (intro wz hSw; go_simp; (try with_reducible rfl))
      try simp only [Act.put, List.getElem_toArray, List.getElem_cons_zero, List.getElem_cons_succ, List.setIfInBounds_toArray, List.set_cons_zero, List.set_cons_succ]
      refine anyT_takeN (i := 5) (v := ?vb5) rfl (by kernel_rfl) (by kernel_rfl) (by kernel_rfl) (by rfl) (fun _ _ _ h => h) (Or.inl ⟨by rfl, ?yb5⟩) True.intro ?_
      case yb5 => (intro wz hSw; go_simp; (try with_reducible rfl))
      try simp only [Act.put, List.getElem_toArray, List.getElem_cons_zero, List.getElem_cons_succ, List.setIfInBounds_toArray, List.set_cons_zero, List.set_cons_succ]
      refine anyT_takeN (i := 6) (v := ?vb6) rfl (by kernel_rfl) (by kernel_rfl) (by kernel_rfl) (by rfl) (fun _ _ _ h => h) (Or.inl ⟨by rfl, ?yb6⟩) True.intro ?_
      case yb6 => (intro wz hSw; go_simp; (try with_reducible rfl))
      try simp only [Act.put, List.getElem_toArray, List.getElem_cons_zero, List.getElem_cons_succ, List.setIfInBounds_toArray, List.set_cons_zero, List.set_cons_succ]
      refine anyT_takeN (i := 7) (v := ?vb7) rfl (by kernel_rfl) (by kernel_rfl) (by kernel_rfl) (by rfl) (fun _ _ _ h => h) (Or.inl ⟨by rfl, ?yb7⟩) True.intro ?_
      case yb7 => (intro wz hSw; go_simp; (try with_reducible rfl))
      try simp only [Act.put, List.getElem_toArray, List.getElem_cons_zero, List.getElem_cons_succ, List.setIfInBounds_toArray, List.set_cons_zero, List.set_cons_succ]
      refine anyT_takeN (i := 8) (v := ?vb8) rfl (by kernel_rfl) (by kernel_rfl) (by kernel_rfl) (by rfl) (fun _ _ _ h => h) (Or.inl ⟨by rfl, ?yb8⟩) True.intro ?_
      case yb8 => (intro wz hSw; go_simp; (try with_reducible rfl))
      try simp only [Act.put, List.getElem_toArray, List.getElem_cons_zero, List.getElem_cons_succ, List.setIfInBounds_toArray, List.set_cons_zero, List.set_cons_succ]
      refine anyT_takeN (i := 9) (v := ?vb9) rfl (by kernel_rfl) (by kernel_rfl) (by kernel_rfl) (by rfl) (fun _ _ _ h => h) (Or.inl ⟨by rfl, ?yb9⟩) True.intro ?_
      case yb9 => (intro wz hSw; go_simp; (try with_reducible rfl))
      try simp only [Act.put, List.getElem_toArray, List.getElem_cons_zero, List.getElem_cons_succ, List.setIfInBounds_toArray, List.set_cons_zero, List.set_cons_succ]
      refine anyT_takeN (i := 10) (v := ?vb10) rfl (by kernel_rfl) (by kernel_rfl) (by kernel_rfl) (by rfl) (fun _ _ _ h => h) (Or.inl ⟨by rfl, ?yb10⟩) True.intro ?_
      case yb10 => (intro wz hSw; go_simp; (try with_reducible rfl))
      try simp only [Act.put, List.getElem_toArray, List.getElem_cons_zero, List.getElem_cons_succ, List.setIfInBounds_toArray, List.set_cons_zero, List.set_cons_succ]
      refine anyT_one (i := 11) (by kernel_rfl) rfl (fun K hK => ?_)
      go_simp
      refine hK.out _ _ (.inr True.intro) ?_
      clear hK
      try simp only [Act.put, List.getElem_toArray, List.getElem_cons_zero, List.getElem_cons_succ, List.setIfInBounds_toArray, List.set_cons_zero, List.set_cons_succ]
      refine anyT_done (by kernel_rfl) ?_
      go_wp2_with fail
      refine (HHo.out x _).mono ?_
      rintro e wh ⟨rfl, hwh⟩
      rw [hwh]
      rw [← hbv]
      clear hbv
      have HJ2 : Hid (MatO (wr.setCell ⟨ρ k, k + 1, none⟩ (.bool bv)).drew w.heap.size g cp (s.size + 1) (s.size + 1) ρ γ (upd2 f k (k + 1) bv) ∧ (∀ i j, i ≤ j → j < s.size + 1 → upd2 f k (k + 1) bv i j = (decide (j = i + 1) && (((sb s)[i]?).map (fun x => fc x)).getD false && decide (i < k + 1))) ∧ Below w.heap.size w (wr.setCell ⟨ρ k, k + 1, none⟩ (.bool bv)).drew) := by
        refine ⟨(HJ.out.1.set hkk (by omega) bv).below ((Below.refl _ _).drew), fun i j hij hj => ?_, (below_set HJ.out.2.2 (HJ.out.1.row k hkk).lt.1 _ _).drew⟩
        unfold upd2
        by_cases e : i = k ∧ j = k + 1
        · rw [if_pos e, e.1, e.2, HX.out, HV.out]; simp
        · rw [if_neg e, HJ.out.2.1 i j hij hj]
          by_cases e2 : j = i + 1
          · have h1 : i ≠ k := fun q => e ⟨q, by omega⟩
            have h2 : decide (i < k) = decide (i < k + 1) := by rw [decide_eq_decide]; omega
            rw [h2]
          · simp [e2]
      go_wp2_with fail
      refine ⟨⟨k + 1, upd2 f k (k + 1) bv, by omega, by go_num, HJ2⟩, ?_⟩
      go_light
      simp [intOf]; omega
    · obtain rfl : k = s.size := by omega
      have zk : ¬ (s.size : Int) < (s.size : Int) := by omega
      go_wp2_with fail
      go_ret
      refine ⟨g, cp, ρ, γ, f, rfl, hcp.1, ⟨HJ.out.1.read, (relW_one (τ := fun x => fc x) (fun i j hij hj => ?_)).iff (fun _ _ _ _ => rfl) (fun y => by simp [Lg])⟩, HJ.out.2.2⟩
      rw [sb_len] at hj
      rw [HJ.out.2.1 i j hij hj]
      by_cases e : j = i + 1
      · have h1 : i < s.size := by omega
        simp [h1]
      · simp [e]
end Go.Proofs.YtkidabedcgngcaaGreatDoor

/-
  spec's l4Atom at a group.
-/
namespace Go.Proofs.YtkidabedcgngcaaGreatDoor
open Go.ChangeShapes Go.WideShapes Go.ChangeAt Go.RowKit Go.Deep
set_option linter.unusedVariables false
set_option linter.unusedSimpArgs false
set_option maxRecDepth 100000

set_option maxHeartbeats 4000000 in
theorem atm_group {s : ByteArray} {m : Nat} (H : AltW s m) (q : ByteArray) (ys : List UInt8) (n : Nat) (os : List (List Pat)) (hq : sb q = 40 :: ys ++ [41]) (hqm : q.size ≤ m + 1) (hqs : q.size ≤ 200) (hG : AltG (AtomG n) os ys) (w : World) : Calls Tryz.prog 178 #[.string q, .string s] w (MxG s (LgA os) w) := by
  have hql : q.size = ys.length + 2 := by rw [← sb_len, hq]; simp
  obtain ⟨d, hd⟩ : ∃ d : UInt8, d = 40 := ⟨_, rfl⟩
  obtain ⟨_, gq⟩ := sb_get (s := q) (i := 0) (x := d) (by rw [hq, hd]; rfl)
  have z40 : ((d.toNat : Int) == 40) = true := by rw [hd]; rfl
  have zq : (0 : Int) < (q.size : Int) := by omega
  have hx : sb (q.extract 1 (q.size - 1)) = ys := by
    rw [sb_extract q (by omega), hq, hql]
    simp [cut]
  have HC : Hid (Calls Tryz.prog 163 #[.string (q.extract 1 (q.size - 1)), .string s] w (MxG s (LgA os) w)) := H n os _ w (by rw [← sb_len, hx]; omega) (by rw [← sb_len, hx]; omega) (by rw [hx]; exact hG)
  obtain ⟨M, hM⟩ : ∃ M, M = q.size - 1 := ⟨_, rfl⟩
  have z1 : (1 : Int) ≤ (M : Int) := by omega
  have z2 : (M : Int) ≤ (q.size : Int) := by omega
  have z3 : ((q.size : Int) - 1) = (M : Int) := by omega
  have z4 : q.size ≤ 200 := hqs
  rw [← hM] at HC
  clear hq hqm hqs hG hx hd hql hM
  go_enter Tryz.func178, Tryz.ntmps178
  go_wp2_with fail
  refine HC.out.mono ?_
  rintro r w1 ⟨g, cp, ρ, γ, f, rfl, hcp, HM, hb⟩
  go_wp2_with fail
  go_ret
  exact ⟨g, cp, ρ, γ, f, rfl, hcp, HM, hb⟩
end Go.Proofs.YtkidabedcgngcaaGreatDoor

/-
  spec's l4Alt, l4Seq and l4Atom tied, and spec.MatchRegex.
-/
namespace Go.Proofs.YtkidabedcgngcaaGreatDoor
open Go.ChangeShapes Go.WideShapes Go.ChangeAt Go.RowKit Go.Deep
set_option linter.unusedVariables false
set_option linter.unusedSimpArgs false
set_option maxRecDepth 100000

theorem reg_fieldM (c k : Int) (w : World) : (Instr.field 129 (.agg #[.int .i64 c, .int .i64 k]) 0).run Tryz.prog w = .ok (.int .i64 c) w := by kernel_rfl
theorem atm_says {s : ByteArray} (hs : s.size ≤ 200) {m : Nat} (H : AltW s m) : AtmW s (m + 1) := by
  intro n t q w hqm hq hG
  cases n with
  | zero => exact hG.elim
  | succ n =>
    rcases hG with ⟨c, h1, h2, rfl⟩ | ⟨h1, rfl⟩ | ⟨c, h1, rfl⟩ | ⟨ys, os, h1, h2, rfl⟩ | ⟨p, i, k, f, h1, h2, h3, rfl⟩
    · unfold special at h2
      exact atm_byte hs q c h1 (fun e => h2 (.inr (.inl e))) (fun e => h2 (.inr (.inr (.inr (.inl e))))) (fun e => h2 (.inr (.inr (.inr (.inr e))))) (fun e => h2 (.inr (.inr (.inl e)))) w
    · exact atm_dot hs q 46 h1 rfl w
    · exact atm_esc hs q 92 c h1 rfl w
    · exact atm_group H q ys n os h1 hqm hq h2 w
    · have hg := classM_gt h2
      have hle := hg.2
      have hl : (sb q).length = k - i := by rw [h3, cut_len hle]
      have hat : ∀ t, i + t < k → (sb q)[t]? = p[i + t]? := fun t ht => by
        rw [h3]; unfold cut
        rw [List.getElem?_take, if_pos (by omega), List.getElem?_drop]
      have e := classM_agree (q := sb q) (j := 1) h2 (fun t ht => by
        rw [hat (1 + t) (by omega)]; congr 1; omega)
      refine atm_cls hs q f (by have := hat 0 (by omega); rw [this]; exact h1) hq ?_ w
      rw [e]
      have : 1 + (k - (i + 1)) = q.size := by rw [← sb_len, hl]; omega
      rw [this]
set_option maxHeartbeats 4000000 in
theorem seq_zero {s : ByteArray} (hs : s.size ≤ 200) : SeqW s 0 := by
  intro n ts p w hpm hp hG
  have h0 : sb p = [] := List.length_eq_zero_iff.1 (by rw [sb_len]; omega)
  cases ts with
  | nil =>
    have hz : p.toList = [] := by rw [ByteArray.toList_eq]; exact h0
    have q1 : (p.toList == []) = true := by rw [hz]; rfl
    have HE : Hid (Calls Tryz.prog 177 #[.int .i64 (s.size : Int)] w (MxG s (fun x => x = []) w)) := empty_says hs w
    clear hz h0 hG
    go_enter Tryz.func171, Tryz.ntmps171
    go_wp2_with fail
    refine HE.out.mono ?_
    rintro e w1 ⟨g1, p1, ρ1, γ1, f1, rfl, hp1, HM1, hb1⟩
    have HR : Hid (MxG s (LgS []) w (.returned (slV g1 (s.size + 1) p1)) w1) := ⟨g1, p1, ρ1, γ1, f1, rfl, hp1, ⟨HM1.out.1, HM1.out.2.iff (fun _ _ _ _ => rfl) (fun x => by simp [LgS])⟩, hb1⟩
    go_wp2_with fail
    go_ret
    exact HR.out
  | cons t ts =>
    obtain ⟨a, as_, ops, hX, _⟩ := seqX_of hG
    have h1 := hX.len
    have h2 := hX.le
    omega
theorem seq_every {s : ByteArray} (hs : s.size ≤ 200) : ∀ m, SeqW s m
  | 0 => seq_zero hs
  | m + 1 => seq_says hs (atm_says hs (alt_says hs (seq_every hs m))) (seq_every hs m)
theorem alt_every {s : ByteArray} (hs : s.size ≤ 200) (m : Nat) : AltW s m := alt_says hs (seq_every hs m)
set_option maxHeartbeats 4000000 in
/-- spec.MatchRegex where the pattern has a fault. -/
theorem specMatch_bad (p s : ByteArray) (hpm : p.size ≤ maxLen) (hc0 : ¬ (checkM (sb p)).1 = 0) (w : World) : Calls Tryz.prog 148 #[.string p, .string s] w fun e w' => e = .returned (.bool false) ∧ Below w.heap.size w w' := by
  obtain ⟨c, hc⟩ : ∃ c, c = (checkM (sb p)).1 := ⟨_, rfl⟩
  obtain ⟨k, hk⟩ : ∃ k : Int, k = ((checkM (sb p)).2 : Int) := ⟨_, rfl⟩
  have HS : Hid (∀ w, Calls Tryz.prog 88 #[.string p] w fun e w' => e = .returned (.agg #[.int .i64 c, .int .i64 k]) ∧ Below w.heap.size w w') := fun w => by
    rw [hc, hk]; exact specCheck_core p w hpm
  have hfd := reg_fieldM c k
  rw [← hc] at hc0
  clear hc hk
  go_enter Tryz.func148, Tryz.ntmps148
  go_wp2_with fail
  refine (HS.out _).mono ?_
  rintro e w1 ⟨rfl, hb1⟩
  go_wp2_with fail
  go_ret
  exact ⟨rfl, hb1⟩
set_option maxHeartbeats 4000000 in
/-- spec.MatchRegex where the string is too long. -/
theorem specMatch_long (p s : ByteArray) (hpm : p.size ≤ maxLen) (hs : 200 < s.size) (w : World) : Calls Tryz.prog 148 #[.string p, .string s] w fun e w' => e = .returned (.bool false) ∧ Below w.heap.size w w' := by
  by_cases hc0 : (checkM (sb p)).1 = 0
  · obtain ⟨k, hk⟩ : ∃ k : Int, k = ((checkM (sb p)).2 : Int) := ⟨_, rfl⟩
    have HS : Hid (∀ w, Calls Tryz.prog 88 #[.string p] w fun e w' => e = .returned (.agg #[.int .i64 0, .int .i64 k]) ∧ Below w.heap.size w w') := fun w => by
      rw [← hc0, hk]; exact specCheck_core p w hpm
    have hfd := reg_fieldM 0 k
    have zs : ¬ (s.size : Int) ≤ 200 := by omega
    clear hk hc0
    go_enter Tryz.func148, Tryz.ntmps148
    go_wp2_with fail
    refine (HS.out _).mono ?_
    rintro e w1 ⟨rfl, hb1⟩
    go_wp2_with fail
    go_ret
    exact ⟨rfl, hb1⟩
  · exact specMatch_bad p s hpm hc0 w
set_option maxHeartbeats 4000000 in
/-- spec.MatchRegex of a pattern without a fault. -/
theorem specMatch_ok (p s : ByteArray) (hpm : p.size ≤ maxLen) (hc0 : (checkM (sb p)).1 = 0) (hs : s.size ≤ 200) (n : Nat) (os : List (List Pat)) (hG : AltG (AtomG n) os (sb p)) (w : World) : Calls Tryz.prog 148 #[.string p, .string s] w fun e w' => ∃ b : Bool, e = .returned (.bool b) ∧ Hid (b = true ↔ LgA os (sb s)) ∧ Below w.heap.size w w' := by
  have hp : p.size ≤ 200 := by
    apply Classical.byContradiction
    intro h6
    unfold checkM at hc0
    rw [if_pos (by rw [sb_len]; omega)] at hc0
    exact absurd hc0 (by decide)
  obtain ⟨k, hk⟩ : ∃ k : Int, k = ((checkM (sb p)).2 : Int) := ⟨_, rfl⟩
  have HS : Hid (∀ w, Calls Tryz.prog 88 #[.string p] w fun e w' => e = .returned (.agg #[.int .i64 0, .int .i64 k]) ∧ Below w.heap.size w w') := fun w => by
    rw [← hc0, hk]; exact specCheck_core p w hpm
  have HA : Hid (∀ w, Calls Tryz.prog 163 #[.string p, .string s] w (MxG s (LgA os) w)) := fun w => alt_every hs 200 n os p w hp hp hG
  have hfd := reg_fieldM 0 k
  have zs : (s.size : Int) ≤ 200 := by omega
  clear hk hc0 hG
  go_enter Tryz.func148, Tryz.ntmps148
  go_wp2_with fail
  refine (HS.out _).mono ?_
  rintro e w1 ⟨rfl, hb1⟩
  go_wp2_with fail
  refine (HA.out _).mono ?_
  rintro e w2 ⟨g, cp, ρ, γ, f, rfl, hcp, HM, hb2⟩
  have c0 : w2.cell? ⟨g, 0, none⟩ = some (slV (ρ 0) (s.size + 1) (γ 0)) := HM.out.1.out 0 (by omega)
  have c1 : w2.cell? ⟨ρ 0, s.size, none⟩ = some (.bool (f 0 s.size)) := HM.out.1.row 0 s.size (by omega) (by omega)
  have hcap := HM.out.1.cap 0 (by omega)
  have z9 : (s.size : Int) < ((s.size + 1 : Nat) : Int) := by omega
  have z8 : (s.size : Int) < (s.size : Int) + 1 := by omega
  have z7 : (0 : Int) < (s.size : Int) + 1 := by omega
  have HB : Hid (f 0 s.size = true ↔ LgA os (sb s)) := by
    have h := HM.out.2 0 s.size (by omega) (by rw [sb_len]; omega)
    have e : cut (sb s) 0 s.size = sb s := by unfold cut; rw [List.drop_zero, Nat.sub_zero, ← sb_len, List.take_length]
    rw [e] at h
    exact h
  go_wp2_with fail
  go_ret
  exact ⟨_, rfl, HB, hb1.trans (hb2.mono hb1.size)⟩
end Go.Proofs.YtkidabedcgngcaaGreatDoor

/-
  A pattern's text is read in one way.
-/
namespace Go.Proofs.YtkidabedcgngcaaGreatDoor
set_option linter.unusedVariables false
set_option linter.unusedSimpArgs false

/-- Nothing, or a byte that the test holds of. -/
def Hd (Q : UInt8 → Prop) (r : List UInt8) : Prop := r = [] ∨ ∃ c zs, r = c :: zs ∧ Q c
theorem Hd.mono {Q R : UInt8 → Prop} (h : ∀ c, Q c → R c) {r : List UInt8} : Hd Q r → Hd R r
  | .inl q => .inl q
  | .inr ⟨c, zs, h1, h2⟩ => .inr ⟨c, zs, h1, h c h2⟩
theorem ops_uni : ∀ (a b : List UInt8) {r r' : List UInt8}, (∀ c ∈ a, isOp c) → (∀ c ∈ b, isOp c) → Hd (fun c => ¬ isOp c) r → Hd (fun c => ¬ isOp c) r' → a ++ r = b ++ r' → a = b ∧ r = r'
  | [], [], r, r', _, _, _, _, h => ⟨rfl, by simpa using h⟩
  | x :: a, [], r, r', ha, _, _, hr', h => by
    rcases hr' with rfl | ⟨c, zs, rfl, hc⟩
    · cases h
    · simp only [List.cons_append, List.nil_append, List.cons.injEq] at h
      exact absurd (h.1 ▸ ha x (by simp)) hc
  | [], y :: b, r, r', _, hb, hr, _, h => by
    rcases hr with rfl | ⟨c, zs, rfl, hc⟩
    · cases h
    · simp only [List.cons_append, List.nil_append, List.cons.injEq] at h
      exact absurd (h.1 ▸ hb y (by simp)) hc
  | x :: a, y :: b, r, r', ha, hb, hr, hr', h => by
    simp only [List.cons_append, List.cons.injEq] at h
    obtain ⟨h1, h2⟩ := ops_uni a b (fun c hc => ha c (by simp [hc])) (fun c hc => hb c (by simp [hc])) hr hr' h.2
    exact ⟨by rw [h.1, h1], h2⟩
theorem hd_bar (zs : List UInt8) : Hd (fun c => c = 41 ∨ c = 124) (124 :: zs) := .inr ⟨124, zs, rfl, .inr rfl⟩
section
variable {n m : Nat} (hU : ∀ xs t t', AtomG n xs t → AtomG m xs t' → t = t')
include hU
theorem rep_uni {xs ys r r' : List UInt8} {t t' : Pat} (h : RepG (AtomG n) xs t) (k : RepG (AtomG m) ys t') (hr : Hd (fun c => ¬ isOp c) r) (hr' : Hd (fun c => ¬ isOp c) r') (e : xs ++ r = ys ++ r') : xs = ys ∧ t = t' ∧ r = r' := by
  obtain ⟨a, o, u, rfl, h2, h3, rfl⟩ := h
  obtain ⟨a', o', u', rfl, k2, k3, rfl⟩ := k
  rw [List.append_assoc, List.append_assoc] at e
  have ea := atom_one h2 k2 e
  subst ea
  obtain rfl := hU _ _ _ h2 k2
  obtain ⟨rfl, rfl⟩ := ops_uni o o' h3 k3 hr hr' (List.append_cancel_left e)
  exact ⟨rfl, rfl, rfl⟩
theorem seq_uni : ∀ {ts us : List Pat} {xs ys r r' : List UInt8}, SeqG (AtomG n) ts xs → SeqG (AtomG m) us ys → Hd (fun c => c = 41 ∨ c = 124) r → Hd (fun c => c = 41 ∨ c = 124) r' → xs ++ r = ys ++ r' → ts = us ∧ xs = ys ∧ r = r'
  | [], [], xs, ys, r, r', h, k, hr, hr', e => by
    have h : xs = [] := h
    have k : ys = [] := k
    subst h k
    exact ⟨rfl, rfl, by simpa using e⟩
  | t :: ts, [], xs, ys, r, r', h, k, hr, hr', e => by
    have k : ys = [] := k
    subst k
    obtain ⟨as_, zs, rfl, ⟨a, o, u, rfl, h2, h3, _⟩, h4⟩ := h
    obtain ⟨c, yt, rfl, n1, n2, n3⟩ := h2.first
    rcases hr' with rfl | ⟨c', zs', rfl, hc⟩
    · simp at e
    · simp only [List.cons_append, List.nil_append, List.cons.injEq] at e
      rcases hc with q | q
      · exact absurd (e.1.trans q) n1
      · exact absurd (e.1.trans q) n2
  | [], u :: us, xs, ys, r, r', h, k, hr, hr', e => by
    have h : xs = [] := h
    subst h
    obtain ⟨as_, zs, rfl, ⟨a, o, u', rfl, h2, h3, _⟩, h4⟩ := k
    obtain ⟨c, yt, rfl, n1, n2, n3⟩ := h2.first
    rcases hr with rfl | ⟨c', zs', rfl, hc⟩
    · simp at e
    · simp only [List.cons_append, List.nil_append, List.cons.injEq] at e
      rcases hc with q | q
      · exact absurd (e.1.symm.trans q) n1
      · exact absurd (e.1.symm.trans q) n2
  | t :: ts, u :: us, xs, ys, r, r', h, k, hr, hr', e => by
    obtain ⟨as_, zs, rfl, h2, h3⟩ := h
    obtain ⟨bs, ws, rfl, k2, k3⟩ := k
    have hd : ∀ {j : Nat} {vs : List Pat} {qs rr : List UInt8}, SeqG (AtomG j) vs qs → Hd (fun c => c = 41 ∨ c = 124) rr → Hd (fun c => ¬ isOp c) (qs ++ rr) := fun {j vs qs rr} hq hrr => by
      cases vs with
      | nil =>
        have hq : qs = [] := hq
        subst hq
        refine hrr.mono (fun c hc => ?_)
        rcases hc with rfl | rfl
        · unfold isOp; decide
        · unfold isOp; decide
      | cons v vs =>
        obtain ⟨a1, z1, rfl, ⟨a, o, u', rfl, g2, g3, _⟩, g4⟩ := hq
        obtain ⟨c, yt, rfl, n1, n2, n3⟩ := g2.first
        exact .inr ⟨c, _, by simp only [List.cons_append]; rfl, n3⟩
    rw [List.append_assoc, List.append_assoc] at e
    obtain ⟨rfl, rfl, e2⟩ := rep_uni hU h2 k2 (hd h3 hr) (hd k3 hr') e
    obtain ⟨rfl, rfl, e3⟩ := seq_uni h3 k3 hr hr' e2
    exact ⟨rfl, rfl, e3⟩
theorem alt_uni : ∀ {os us : List (List Pat)} {xs ys r r' : List UInt8}, AltG (AtomG n) os xs → AltG (AtomG m) us ys → Hd (fun c => c = 41) r → Hd (fun c => c = 41) r' → xs ++ r = ys ++ r' → os = us ∧ xs = ys
  | [], _, _, _, _, _, h, _, _, _, _ => h.elim
  | _ :: _, [], _, _, _, _, _, k, _, _, _ => k.elim
  | [ts], [us], xs, ys, r, r', h, k, hr, hr', e => by
    obtain ⟨rfl, rfl, _⟩ := seq_uni hU (ts := ts) (us := us) h k (hr.mono (fun c q => .inl q)) (hr'.mono (fun c q => .inl q)) e
    exact ⟨rfl, rfl⟩
  | [ts], u1 :: u2 :: us, xs, ys, r, r', h, ⟨a, z, k1, k2, k3⟩, hr, hr', e => by
    subst k1
    rw [List.append_assoc, List.cons_append] at e
    obtain ⟨_, _, e3⟩ := seq_uni hU (ts := ts) (us := u1) h k2 (hr.mono (fun c q => .inl q)) (hd_bar _) e
    rcases hr with rfl | ⟨c, zs, rfl, hc⟩
    · cases e3
    · simp only [List.cons.injEq] at e3
      rw [hc] at e3
      exact absurd e3.1 (by decide)
  | t1 :: t2 :: ts, [us], xs, ys, r, r', ⟨a, z, h1, h2, h3⟩, k, hr, hr', e => by
    subst h1
    rw [List.append_assoc, List.cons_append] at e
    obtain ⟨_, _, e3⟩ := seq_uni hU (ts := t1) (us := us) h2 k (hd_bar _) (hr'.mono (fun c q => .inl q)) e
    rcases hr' with rfl | ⟨c, zs, rfl, hc⟩
    · cases e3
    · simp only [List.cons.injEq] at e3
      rw [hc] at e3
      exact absurd e3.1 (by decide)
  | t1 :: t2 :: ts, u1 :: u2 :: us, xs, ys, r, r', ⟨a, z, h1, h2, h3⟩, ⟨b, y, k1, k2, k3⟩, hr, hr', e => by
    subst h1 k1
    rw [List.append_assoc, List.append_assoc, List.cons_append, List.cons_append] at e
    obtain ⟨rfl, rfl, e3⟩ := seq_uni hU h2 k2 (hd_bar _) (hd_bar _) e
    simp only [List.cons.injEq, true_and] at e3
    obtain ⟨e4, rfl⟩ := alt_uni h3 k3 hr hr' e3
    exact ⟨by rw [e4], rfl⟩
end
theorem atom_uni : ∀ (n : Nat) {m : Nat} (xs : List UInt8) (t t' : Pat), AtomG n xs t → AtomG m xs t' → t = t'
  | 0, _, _, _, _, h, _ => h.elim
  | n + 1, 0, _, _, _, _, k => k.elim
  | n + 1, m + 1, xs, t, t', h, k => by
    have hu : ∀ xs t t', AtomG n xs t → AtomG m xs t' → t = t' := fun xs t t' p q => atom_uni n xs t t' p q
    have hc91 : ∀ {p : List UInt8} {i k : Nat} {f : UInt8 → Bool}, p[i]? = some 91 → classM p (i + 1) = .inl (f, k) → ∃ zs, cut p i k = 91 :: zs := fun {p i k f} h1 h2 => by
      have hg := classM_gt h2
      have := cut_cat (p := p) (i := i) (j := i + 1) (k := k) (by omega) (by omega)
      rw [cut_one h1] at this
      exact ⟨_, this⟩
    rcases h with ⟨c, rfl, hs, rfl⟩ | ⟨rfl, rfl⟩ | ⟨c, rfl, rfl⟩ | ⟨ys, os, rfl, h2, rfl⟩ | ⟨p, i, j, f, h1, h2, h3, rfl⟩ <;>
      rcases k with ⟨c', k1, ks, rfl⟩ | ⟨k1, rfl⟩ | ⟨c', k1, rfl⟩ | ⟨zs, us, k1, k2, rfl⟩ | ⟨p', i', j', f', k1, k2, k3, rfl⟩
    · simp at k1; rw [k1]
    · simp at k1; subst k1; exact absurd (by unfold special; simp) hs
    · simp at k1
    · have := congrArg List.length k1; simp at this
    · obtain ⟨zs, hz⟩ := hc91 k1 k2
      rw [hz] at k3; simp at k3; rw [k3.1] at hs; exact absurd (by unfold special; simp) hs
    · simp at k1; subst k1; exact absurd (by unfold special; simp) ks
    · rfl
    · simp at k1
    · have := congrArg List.length k1; simp at this
    · obtain ⟨zs, hz⟩ := hc91 k1 k2
      rw [hz] at k3; simp at k3
    · simp at k1
    · simp at k1
    · simp at k1; rw [k1]
    · simp at k1
    · obtain ⟨zs, hz⟩ := hc91 k1 k2
      rw [hz] at k3; simp at k3
    · have := congrArg List.length k1; simp at this
    · have := congrArg List.length k1; simp at this
    · simp at k1
    · simp only [List.cons_append, List.cons.injEq, true_and] at k1
      obtain ⟨rfl, _⟩ := alt_uni hu h2 k2 (.inr ⟨41, [], rfl, rfl⟩) (.inr ⟨41, [], rfl, rfl⟩) k1
      rfl
    · obtain ⟨zs, hz⟩ := hc91 k1 k2
      rw [hz] at k3; simp at k3
    · obtain ⟨zs, hz⟩ := hc91 h1 h2
      rw [hz, k1] at h3; simp at h3; rw [h3.1] at ks; exact absurd (by unfold special; simp) ks
    · obtain ⟨zs, hz⟩ := hc91 h1 h2
      rw [hz, k1] at h3; simp at h3
    · obtain ⟨zs, hz⟩ := hc91 h1 h2
      rw [hz, k1] at h3; simp at h3
    · obtain ⟨zs, hz⟩ := hc91 h1 h2
      rw [hz, k1] at h3; simp at h3
    · have hg := classM_gt h2
      have hg' := classM_gt k2
      have hcut : cut p i j = cut p' i' j' := h3.symm.trans k3
      have hl : j - i = j' - i' := by
        have := congrArg List.length hcut
        rwa [cut_len hg.2, cut_len hg'.2] at this
      have hat : ∀ t, i + t < j → p'[i' + t]? = p[i + t]? := fun t ht => by
        have e1 : (cut p i j)[t]? = p[i + t]? := by unfold cut; rw [List.getElem?_take, if_pos (by omega), List.getElem?_drop]
        have e2 : (cut p' i' j')[t]? = p'[i' + t]? := by unfold cut; rw [List.getElem?_take, if_pos (by omega), List.getElem?_drop]
        rw [← e1, ← e2, hcut]
      have e := classM_agree (q := p') (j := i' + 1) h2 (fun t ht => by
        have := hat (1 + t) (by omega)
        rw [show i' + 1 + t = i' + (1 + t) by omega, show i + 1 + t = i + (1 + t) by omega]; exact this)
      rw [e] at k2
      simp only [Sum.inl.injEq, Prod.mk.injEq] at k2
      rw [k2.1]
/-- A text has one pattern. -/
theorem pat_uni {n m : Nat} {os us : List (List Pat)} {xs : List UInt8} (h : AltG (AtomG n) os xs) (k : AltG (AtomG m) us xs) : os = us :=
  (alt_uni (fun xs t t' p q => atom_uni n xs t t' p q) h k (.inl rfl) (.inl rfl) rfl).1
end Go.Proofs.YtkidabedcgngcaaGreatDoor

/-
  The walk of the law FnExactMatchRegex.
-/
namespace Go.Proofs.YtkidabedcgngcaaGreatDoor
open Go.ChangeShapes Go.WideShapes Go.ChangeAt Go.RowKit Go.Deep
set_option linter.unusedVariables false
set_option linter.unusedSimpArgs false
set_option maxRecDepth 100000

/-- What both say. -/
def MatB (p s : ByteArray) (b : Bool) : Prop := (¬ (checkM (sb p)).1 = 0 ∧ b = false) ∨ ((checkM (sb p)).1 = 0 ∧ ∃ n os, AltG (AtomG n) os (sb p) ∧ (b = true ↔ s.size ≤ 200 ∧ LgA os (sb s)))
theorem MatB.one {p s : ByteArray} {b c : Bool} (h : MatB p s b) (k : MatB p s c) : b = c := by
  rcases h with ⟨h1, rfl⟩ | ⟨h1, n, os, h2, h3⟩
  · rcases k with ⟨_, rfl⟩ | ⟨k1, _⟩
    · rfl
    · exact absurd k1 h1
  · rcases k with ⟨k1, _⟩ | ⟨_, m, us, k2, k3⟩
    · exact absurd h1 k1
    · obtain rfl := pat_uni h2 k2
      rw [Bool.eq_iff_iff, h3, k3]
def SpeB (p s : ByteArray) (w : World) (e : Ending) (w' : World) : Prop := ∃ b : Bool, e = .returned (.bool b) ∧ Hid (Below w.heap.size w w' ∧ MatB p s b)
theorem specMatch_core (p s : ByteArray) (w : World) (hpm : p.size ≤ maxLen) : Calls Tryz.prog 148 #[.string p, .string s] w (SpeB p s w) := by
  by_cases hc0 : (checkM (sb p)).1 = 0
  · obtain ⟨os, ho⟩ := pref_is p hpm hc0
    obtain ⟨n, hg⟩ := ho.gr
    have ecut : cut (sb p) 0 p.size = sb p := by unfold cut; rw [List.drop_zero, Nat.sub_zero, ← sb_len, List.take_length]
    rw [ecut] at hg
    by_cases hs : s.size ≤ 200
    · refine (specMatch_ok p s hpm hc0 hs n os hg w).mono ?_
      rintro e w' ⟨b, rfl, H, hb⟩
      exact ⟨b, rfl, hb, .inr ⟨hc0, n, os, hg, H.out.trans ⟨fun q => ⟨hs, q⟩, fun q => q.2⟩⟩⟩
    · refine (specMatch_long p s hpm (by omega) w).mono ?_
      rintro e w' ⟨rfl, hb⟩
      exact ⟨false, rfl, hb, .inr ⟨hc0, n, os, hg, ⟨fun q => (by cases q), fun q => absurd q.1 hs⟩⟩⟩
  · refine (specMatch_bad p s hpm hc0 w).mono ?_
    rintro e w' ⟨rfl, hb⟩
    exact ⟨false, rfl, hb, .inl ⟨hc0, rfl⟩⟩
end Go.Proofs.YtkidabedcgngcaaGreatDoor

/-
  What a filter means over the cells of a row, without memory.
-/
namespace Go.Proofs.YtkidabedcgngcaaGreatDoor
open Go.ChangeShapes Go.WideShapes Go.ChangeAt Go.RowKit Go.Deep
set_option linter.unusedVariables false
set_option linter.unusedSimpArgs false
set_option maxRecDepth 100000

open Classical in
/-- Whether a pattern takes a string. -/
noncomputable def mtB (p s : ByteArray) : Bool := decide (MatB p s true)
theorem mtB_eq {p s : ByteArray} {b : Bool} (h : MatB p s b) : b = mtB p s := by
  unfold mtB
  cases b with
  | true => exact (@decide_eq_true _ (Classical.propDecidable _) h).symm
  | false =>
    refine (@decide_eq_false _ (Classical.propDecidable _) fun q => ?_).symm
    have := MatB.one h q
    cases this
def lsB (a b : ByteArray) : Bool := Op.bytesLess a.toList b.toList
def inS (x : ByteArray) (n : Nd) : Bool := !(lsB x n.s) && (!n.hi || lsB x n.t)
noncomputable def tstB (n : Nd) (c : Ent) : Bool :=
  if n.kind = 1 ∨ n.kind = 3 then true else if n.kind = 4 then mtB n.s c.row else if n.kind = 5 then mtB n.s c.fam else if n.kind = 6 then mtB n.s c.qual else if n.kind = 7 then mtB n.s c.val
  else if n.kind = 8 then inS c.row n else if n.kind = 9 then inS c.qual n else if n.kind = 10 then decide (n.lo ≤ c.ts) && (!n.hi || decide (c.ts < n.up)) else false
def colB (a b : Ent) : Bool := (a.fam.toList == b.fam.toList) && (a.qual.toList == b.qual.toList)
def befN (pre : List Ent) (c : Ent) : Nat := pre.countP fun x => colB x c
noncomputable def keepB (n : Nd) (pre : List Ent) (c : Ent) : Bool :=
  if n.kind = 11 then decide ((befN pre c : Int) < n.n) else if n.kind = 12 then decide ((pre.length : Int) < n.n) else if n.kind = 13 then decide (n.n ≤ (pre.length : Int)) else tstB n c
def stripE (n : Nd) (c : Ent) : Ent := if n.kind = 3 then { c with val := ⟨#[]⟩ } else c
noncomputable def leafG (n : Nd) : List Ent → List Ent → List Ent
  | _, [] => []
  | pre, c :: cs => if keepB n pre c then stripE n c :: leafG n (pre ++ [c]) cs else leafG n (pre ++ [c]) cs
noncomputable def leafM (n : Nd) (row : List Ent) : List Ent := leafG n [] row
def uniM (a b : List Ent) : List Ent := a.foldl into (b.foldl into [])
noncomputable def mean : CT → List Ent → List Ent
  | .leaf n, row => leafM n row
  | .chain _ a b, row => mean b (mean a row)
  | .inter _ a b, row => uniM (mean a row) (mean b row)
  | .cond _ p a b, row => if mean p row = [] then mean b row else mean a row

/-- Keys of l are keys of row. -/
structure Sub (row l : List Ent) : Prop where
  ord : Ord l
  key : ∀ x ∈ l, ∃ y ∈ row, keyCmp x y = 0
  kind : ∀ x ∈ l, x.kind = 0
  ok : ∀ x ∈ l, x.ok
theorem keyCmp_symm {a b : Ent} (h : keyCmp a b = 0) : keyCmp b a = 0 := by rw [keyCmp_neg, h]; rfl
theorem sub_len : ∀ {row l : List Ent}, Ord row → Ord l → (∀ x ∈ l, ∃ y ∈ row, keyCmp x y = 0) → l.length ≤ row.length
  | [], l, _, _, h => by
    match l, h with
    | [], _ => exact Nat.le_refl _
    | x :: l, h => obtain ⟨y, hy, _⟩ := h x (by simp); simp at hy
  | y :: row, [], _, _, _ => Nat.zero_le _
  | y :: row, x :: l, hr, hl, h => by
    have hr' := List.pairwise_cons.1 hr
    have hl' := List.pairwise_cons.1 hl
    by_cases hz : keyCmp x y = 0
    · have : l.length ≤ row.length := sub_len hr'.2 hl'.2 fun z hzl => by
        obtain ⟨u, hu, hk⟩ := h z (List.mem_cons_of_mem _ hzl)
        rcases List.mem_cons.1 hu with rfl | hu
        · have h1 := hl'.1 z hzl
          have h2 : keyCmp x z = 0 := by
            have := keyCmp_congr (c := z) hz
            rw [this]
            exact keyCmp_symm hk
          omega
        · exact ⟨u, hu, hk⟩
      simpa using this
    · have : (x :: l).length ≤ row.length := sub_len hr'.2 hl fun z hzl => by
        obtain ⟨u, hu, hk⟩ := h z hzl
        rcases List.mem_cons.1 hu with rfl | hu
        · exfalso
          rcases List.mem_cons.1 hzl with rfl | hzl
          · exact hz hk
          · -- x < z = y, and x matches something after y
            obtain ⟨v, hv, hkv⟩ := h x (by simp)
            rcases List.mem_cons.1 hv with rfl | hv
            · exact hz hkv
            · have h1 := hl'.1 z hzl
              have h2 := hr'.1 v hv
              have h3 : keyCmp x u = -1 := by
                have a1 := keyCmp_congr (c := x) hk
                have a2 := keyCmp_neg z x
                have a3 := keyCmp_neg u x
                omega
              have h4 : keyCmp u x = -1 := by
                have a1 := keyCmp_congr (c := u) (keyCmp_symm hkv)
                have a2 := keyCmp_neg v u
                have a3 := keyCmp_neg u x
                have a4 := keyCmp_neg u v
                have a5 := keyCmp_neg x u
                omega
              have h5 := keyCmp_neg u x
              omega
        · exact ⟨u, hu, hk⟩
      exact Nat.le_succ_of_le this
theorem Sub.len {row l : List Ent} (h : Sub row l) (hr : Ord row) : l.length ≤ row.length := sub_len hr h.ord h.key
theorem Sub.trans {row l m : List Ent} (h : Sub row l) (k : Sub l m) : Sub row m :=
  ⟨k.ord, fun x hx => by
    obtain ⟨y, hy, h1⟩ := k.key x hx
    obtain ⟨z, hz, h2⟩ := h.key y hy
    exact ⟨z, hz, by rw [keyCmp_congr h1]; exact h2⟩, k.kind, k.ok⟩
theorem keyCmp_strip (n : Nd) (c d : Ent) : keyCmp (stripE n c) d = keyCmp c d := by unfold stripE; split <;> rfl
theorem keyCmp_strip' (n : Nd) (c d : Ent) : keyCmp d (stripE n c) = keyCmp d c := by unfold stripE; split <;> rfl
theorem leafG_mem (n : Nd) : ∀ (cs pre : List Ent) (x : Ent), x ∈ leafG n pre cs → ∃ c ∈ cs, x = stripE n c
  | [], _, x, h => by simp [leafG] at h
  | c :: cs, pre, x, h => by
    unfold leafG at h
    split at h
    · rcases List.mem_cons.1 h with rfl | h
      · exact ⟨c, by simp, rfl⟩
      · obtain ⟨d, hd, e⟩ := leafG_mem n cs _ x h; exact ⟨d, List.mem_cons_of_mem _ hd, e⟩
    · obtain ⟨d, hd, e⟩ := leafG_mem n cs _ x h; exact ⟨d, List.mem_cons_of_mem _ hd, e⟩
theorem leafG_ord (n : Nd) : ∀ (cs pre : List Ent), Ord cs → Ord (leafG n pre cs)
  | [], _, _ => List.Pairwise.nil
  | c :: cs, pre, h => by
    have h' := List.pairwise_cons.1 h
    unfold leafG
    split
    · refine List.pairwise_cons.2 ⟨fun x hx => ?_, leafG_ord n cs _ h'.2⟩
      obtain ⟨d, hd, rfl⟩ := leafG_mem n cs _ x hx
      rw [keyCmp_strip, keyCmp_strip']
      exact h'.1 d hd
    · exact leafG_ord n cs _ h'.2
theorem strip_ok {n : Nd} {c : Ent} (h : c.ok) : (stripE n c).ok := by
  unfold stripE
  split
  · exact ⟨h.row, h.fam, h.qual, Nat.zero_le _, h.ts, h.kind⟩
  · exact h
theorem leafM_sub (n : Nd) {row : List Ent} (h : Sub row row) : Sub row (leafM n row) := by
  refine ⟨leafG_ord n row [] h.ord, fun x hx => ?_, fun x hx => ?_, fun x hx => ?_⟩
  · obtain ⟨c, hc, rfl⟩ := leafG_mem n row [] x hx
    exact ⟨c, hc, by rw [keyCmp_strip]; exact keyCmp_self c⟩
  · obtain ⟨c, hc, rfl⟩ := leafG_mem n row [] x hx
    have := h.kind c hc
    unfold stripE; split <;> exact this
  · obtain ⟨c, hc, rfl⟩ := leafG_mem n row [] x hx
    exact strip_ok (h.ok c hc)
theorem fold_into : ∀ (a L : List Ent), Ord L → Ord a → Ord (a.foldl into L) ∧ ∀ x, x ∈ a.foldl into L ↔ x ∈ a ∨ (x ∈ L ∧ ∀ y ∈ a, keyCmp x y ≠ 0)
  | [], L, h, _ => ⟨h, fun x => by simp⟩
  | e :: a, L, h, ha => by
    have ha' := List.pairwise_cons.1 ha
    obtain ⟨h1, h2⟩ := into_spec e L h
    obtain ⟨h3, h4⟩ := fold_into a (into L e) h1 ha'.2
    refine ⟨h3, fun x => ?_⟩
    show x ∈ a.foldl into (into L e) ↔ _
    have h5 : x ∈ into L e ↔ x = e ∨ (x ∈ L ∧ keyCmp x e ≠ 0) := h2 x
    rw [h4, h5]
    constructor
    · rintro (h6 | ⟨rfl | ⟨h6, h7⟩, h8⟩)
      · exact .inl (List.mem_cons_of_mem _ h6)
      · exact .inl (by simp)
      · refine .inr ⟨h6, fun y hy => ?_⟩
        rcases List.mem_cons.1 hy with rfl | hy
        · exact h7
        · exact h8 y hy
    · rintro (h6 | ⟨h6, h7⟩)
      · rcases List.mem_cons.1 h6 with rfl | h6
        · exact .inr ⟨.inl rfl, fun y hy q => by have := ha'.1 y hy; omega⟩
        · exact .inl h6
      · exact .inr ⟨.inr ⟨h6, h7 e (by simp)⟩, fun y hy => h7 y (List.mem_cons_of_mem _ hy)⟩
theorem uniM_spec {a b : List Ent} (ha : Ord a) (hb : Ord b) : Ord (uniM a b) ∧ ∀ x, x ∈ uniM a b ↔ x ∈ a ∨ (x ∈ b ∧ ∀ y ∈ a, keyCmp x y ≠ 0) := by
  obtain ⟨h1, h2⟩ := fold_into b [] List.Pairwise.nil hb
  obtain ⟨h3, h4⟩ := fold_into a _ h1 ha
  refine ⟨h3, fun x => ?_⟩
  show x ∈ a.foldl into (b.foldl into []) ↔ _
  rw [h4, h2]
  simp
theorem uniM_sub {row a b : List Ent} (ha : Sub row a) (hb : Sub row b) : Sub row (uniM a b) := by
  obtain ⟨h1, h2⟩ := uniM_spec ha.ord hb.ord
  refine ⟨h1, fun x hx => ?_, fun x hx => ?_, fun x hx => ?_⟩
  · rcases (h2 x).1 hx with h | h
    · exact ha.key x h
    · exact hb.key x h.1
  · rcases (h2 x).1 hx with h | h
    · exact ha.kind x h
    · exact hb.kind x h.1
  · rcases (h2 x).1 hx with h | h
    · exact ha.ok x h
    · exact hb.ok x h.1
theorem Sub.self {row l : List Ent} (h : Sub row l) : Sub l l := ⟨h.ord, fun x hx => ⟨x, hx, keyCmp_self x⟩, h.kind, h.ok⟩
theorem mean_sub : ∀ (t : CT) {row : List Ent}, Sub row row → Sub row (mean t row)
  | .leaf n, row, h => leafM_sub n h
  | .chain _ a b, row, h => (mean_sub a h).trans (mean_sub b (mean_sub a h).self)
  | .inter _ a b, row, h => uniM_sub (mean_sub a h) (mean_sub b h)
  | .cond _ p a b, row, h => by
    unfold mean
    split
    · exact mean_sub b h
    · exact mean_sub a h
/-- Merging, the left one first. -/
def mrgU : Nat → List Ent → List Ent → List Ent
  | 0, a, b => a ++ b
  | _ + 1, [], b => b
  | _ + 1, a, [] => a
  | f + 1, x :: a, y :: b => if keyCmp x y = 1 then y :: mrgU f (x :: a) b else if keyCmp x y = 0 then x :: mrgU f a b else x :: mrgU f a (y :: b)
theorem mrgU_nil (f : Nat) (b : List Ent) : mrgU f [] b = b := by cases f <;> simp [mrgU]
theorem mrgU_nilr (f : Nat) (a : List Ent) : mrgU f a [] = a := by cases f <;> cases a <;> simp [mrgU]
theorem mrgU_spec : ∀ (f : Nat) (a b : List Ent), a.length + b.length ≤ f → Ord a → Ord b → Ord (mrgU f a b) ∧ ∀ x, x ∈ mrgU f a b ↔ x ∈ a ∨ (x ∈ b ∧ ∀ y ∈ a, keyCmp x y ≠ 0)
  | f, [], b, _, _, hb => by rw [mrgU_nil]; exact ⟨hb, fun x => by simp⟩
  | f, a, [], _, ha, _ => by rw [mrgU_nilr]; exact ⟨ha, fun x => by simp⟩
  | 0, x :: a, y :: b, h, _, _ => by simp at h
  | f + 1, x :: a, y :: b, h, ha, hb => by
    have ha' := List.pairwise_cons.1 ha
    have hb' := List.pairwise_cons.1 hb
    simp only [List.length_cons] at h
    rcases keyCmp_vals x y with hc | hc | hc
    · have e : mrgU (f + 1) (x :: a) (y :: b) = x :: mrgU f a (y :: b) := by simp [mrgU, hc]
      obtain ⟨i1, i2⟩ := mrgU_spec f a (y :: b) (by simp; omega) ha'.2 hb
      rw [e]
      have hlt : ∀ z ∈ y :: b, keyCmp x z = -1 := fun z hz => by
        rcases List.mem_cons.1 hz with rfl | hz
        · exact hc
        · exact keyCmp_trans hc (hb'.1 z hz)
      refine ⟨List.pairwise_cons.2 ⟨fun z hz => ?_, i1⟩, fun z => ?_⟩
      · rcases (i2 z).1 hz with q | q
        · exact ha'.1 z q
        · exact hlt z q.1
      · rw [List.mem_cons, i2]
        constructor
        · rintro (rfl | q | ⟨q, r⟩)
          · exact .inl (by simp)
          · exact .inl (List.mem_cons_of_mem _ q)
          · refine .inr ⟨q, fun u hu => ?_⟩
            rcases List.mem_cons.1 hu with rfl | hu
            · have h1 := hlt z q; have h2 := keyCmp_neg u z; omega
            · exact r u hu
        · rintro (q | ⟨q, r⟩)
          · rcases List.mem_cons.1 q with rfl | q
            · exact .inl rfl
            · exact .inr (.inl q)
          · exact .inr (.inr ⟨q, fun u hu => r u (List.mem_cons_of_mem _ hu)⟩)
    · have e : mrgU (f + 1) (x :: a) (y :: b) = x :: mrgU f a b := by simp [mrgU, hc]
      obtain ⟨i1, i2⟩ := mrgU_spec f a b (by omega) ha'.2 hb'.2
      rw [e]
      have hlt : ∀ z ∈ b, keyCmp x z = -1 := fun z hz => by rw [keyCmp_congr hc]; exact hb'.1 z hz
      refine ⟨List.pairwise_cons.2 ⟨fun z hz => ?_, i1⟩, fun z => ?_⟩
      · rcases (i2 z).1 hz with q | q
        · exact ha'.1 z q
        · exact hlt z q.1
      · rw [List.mem_cons, i2]
        constructor
        · rintro (rfl | q | ⟨q, r⟩)
          · exact .inl (by simp)
          · exact .inl (List.mem_cons_of_mem _ q)
          · refine .inr ⟨List.mem_cons_of_mem _ q, fun u hu => ?_⟩
            rcases List.mem_cons.1 hu with rfl | hu
            · have h1 := hlt z q; have h2 := keyCmp_neg u z; omega
            · exact r u hu
        · rintro (q | ⟨q, r⟩)
          · rcases List.mem_cons.1 q with rfl | q
            · exact .inl rfl
            · exact .inr (.inl q)
          · rcases List.mem_cons.1 q with rfl | q
            · exact absurd (keyCmp_symm hc) (r x (by simp))
            · exact .inr (.inr ⟨q, fun u hu => r u (List.mem_cons_of_mem _ hu)⟩)
    · have e : mrgU (f + 1) (x :: a) (y :: b) = y :: mrgU f (x :: a) b := by simp [mrgU, hc]
      obtain ⟨i1, i2⟩ := mrgU_spec f (x :: a) b (by simp; omega) ha hb'.2
      have hyx : keyCmp y x = -1 := by have := keyCmp_neg x y; omega
      rw [e]
      have hlt : ∀ z ∈ x :: a, keyCmp y z = -1 := fun z hz => by
        rcases List.mem_cons.1 hz with rfl | hz
        · exact hyx
        · exact keyCmp_trans hyx (ha'.1 z hz)
      refine ⟨List.pairwise_cons.2 ⟨fun z hz => ?_, i1⟩, fun z => ?_⟩
      · rcases (i2 z).1 hz with q | q
        · exact hlt z q
        · exact hb'.1 z q.1
      · rw [List.mem_cons, i2]
        constructor
        · rintro (rfl | q | ⟨q, r⟩)
          · exact .inr ⟨by simp, fun u hu => by have := hlt u hu; omega⟩
          · exact .inl q
          · exact .inr ⟨List.mem_cons_of_mem _ q, r⟩
        · rintro (q | ⟨q, r⟩)
          · exact .inr (.inl q)
          · rcases List.mem_cons.1 q with rfl | q
            · exact .inl rfl
            · exact .inr (.inr ⟨q, r⟩)
theorem mrgU_uni {f : Nat} {a b : List Ent} (hf : a.length + b.length ≤ f) (ha : Ord a) (hb : Ord b) : mrgU f a b = uniM a b := by
  obtain ⟨h1, h2⟩ := mrgU_spec f a b hf ha hb
  obtain ⟨h3, h4⟩ := uniM_spec ha hb
  exact ord_ext h1 h3 fun x => by rw [h2, h4]
end Go.Proofs.YtkidabedcgngcaaGreatDoor

/-
  spec.l5InStr, spec.l5Test.
-/
namespace Go.Proofs.YtkidabedcgngcaaGreatDoor
open Go.ChangeShapes Go.WideShapes Go.ChangeAt Go.RowKit Go.Deep
set_option linter.unusedVariables false
set_option linter.unusedSimpArgs false
set_option maxRecDepth 100000

set_option maxHeartbeats 1000000 in
theorem inStr_core (x : ByteArray) (n : Nd) (w : World) : Calls Tryz.prog 149 #[.string x, n.v] w fun e w' => e = .returned (.bool (inS x n)) ∧ Below w.heap.size w w' := by
  obtain ⟨k, s, hi, t, lo, up, nn⟩ := n
  unfold inS lsB
  cases h1 : Op.bytesLess x.toList s.toList <;> cases hi <;> cases h3 : Op.bytesLess x.toList t.toList
  all_goals go_enter Tryz.func149, Tryz.ntmps149
  all_goals go_wp2_with fail
  all_goals go_ret
  all_goals exact ⟨rfl, (Below.refl _ _).alloc (Nat.le_refl _) _⟩
theorem specMt_core (p s : ByteArray) (w : World) (hp : p.size ≤ maxLen) : Calls Tryz.prog 148 #[.string p, .string s] w fun e w' => e = .returned (.bool (mtB p s)) ∧ Below w.heap.size w w' := by
  refine (specMatch_core p s w hp).mono ?_
  rintro e w' ⟨b, rfl, H⟩
  rw [mtB_eq H.out.2]
  exact ⟨rfl, H.out.1⟩
set_option maxHeartbeats 4000000 in
theorem l5Test_core (n : Nd) (c : Ent) (w : World) (hs : n.s.size ≤ maxLen) : Calls Tryz.prog 124 #[n.v, c.c] w fun e w' => e = .returned (.bool (tstB n c)) ∧ Below w.heap.size w w' := by
  obtain ⟨k, s, hi, t, lo, up, nn⟩ := n
  have HM : Hid (∀ (x : ByteArray) (w : World), Calls Tryz.prog 148 #[.string s, .string x] w fun e w' => e = .returned (.bool (mtB s x)) ∧ Below w.heap.size w w') := fun x w => specMt_core s x w hs
  have HS : Hid (∀ (x : ByteArray) (w : World), Calls Tryz.prog 149 #[.string x, .agg #[.int .i64 k, .string s, .bool hi, .string t, .int .u64 lo, .int .u64 up, .int .i64 nn]] w fun e w' => e = .returned (.bool (inS x ⟨k, s, hi, t, lo, up, nn⟩)) ∧ Below w.heap.size w w') := fun x w => inStr_core x _ w
  have HB : Hid (∀ wx : World, Below w.heap.size w wx → Below w.heap.size w wx) := fun _ h => h
  obtain ⟨res, hres⟩ : ∃ res, res = tstB ⟨k, s, hi, t, lo, up, nn⟩ c := ⟨_, rfl⟩
  have HR : Hid (res = tstB ⟨k, s, hi, t, lo, up, nn⟩ c) := hres
  rw [← hres]
  obtain ⟨W2, hW2⟩ : ∃ W2 : World, W2 = (w.alloc (.cells #[.int .i64 k, .string s, .bool hi, .string t, .int .u64 lo, .int .u64 up, .int .i64 nn] 75)).alloc (.cells #[.string c.row, .string c.fam, .string c.qual, .int .u64 c.ts, .string c.val] 55) := ⟨_, rfl⟩
  have HW2 : Hid (Below w.heap.size w W2) := by rw [hW2]; exact ((Below.refl _ _).alloc (Nat.le_refl _) _).alloc (by simp) _
  clear hres hs
  by_cases h1 : k = 1
  · subst h1
    have hv : res = true := HR.out.trans (by simp [tstB])
    subst hv
    go_enter Tryz.func124, Tryz.ntmps124
    go_wp2_with fail
    go_ret
    exact ⟨rfl, ((Below.refl _ _).alloc (Nat.le_refl _) _).alloc (by simp) _⟩
  have b1 : (k == 1) = false := by rw [beq_eq_false_iff_ne]; exact h1
  by_cases h3 : k = 3
  · subst h3
    have hv : res = true := HR.out.trans (by simp [tstB])
    subst hv
    go_enter Tryz.func124, Tryz.ntmps124
    go_wp2_with fail
    go_ret
    exact ⟨rfl, ((Below.refl _ _).alloc (Nat.le_refl _) _).alloc (by simp) _⟩
  have b3 : (k == 3) = false := by rw [beq_eq_false_iff_ne]; exact h3
  by_cases h4 : k = 4
  · subst h4
    have hv : res = mtB s c.row := HR.out.trans (by simp [tstB])
    go_enter Tryz.func124, Tryz.ntmps124
    go_wp2_with fail
    rw [← hW2]
    clear hW2
    refine (HM.out c.row W2).mono ?_
    rintro e w1 ⟨rfl, hb1⟩
    have HE : Hid (Below w.heap.size w w1) := HW2.out.trans (hb1.mono HW2.out.size)
    clear hb1
    go_wp2_with fail
    go_ret
    exact ⟨by rw [hv]; rfl, HE.out⟩
  have b4 : (k == 4) = false := by rw [beq_eq_false_iff_ne]; exact h4
  by_cases h5 : k = 5
  · subst h5
    have hv : res = mtB s c.fam := HR.out.trans (by simp [tstB])
    go_enter Tryz.func124, Tryz.ntmps124
    go_wp2_with fail
    rw [← hW2]
    clear hW2
    refine (HM.out c.fam W2).mono ?_
    rintro e w1 ⟨rfl, hb1⟩
    have HE : Hid (Below w.heap.size w w1) := HW2.out.trans (hb1.mono HW2.out.size)
    clear hb1
    go_wp2_with fail
    go_ret
    exact ⟨by rw [hv]; rfl, HE.out⟩
  have b5 : (k == 5) = false := by rw [beq_eq_false_iff_ne]; exact h5
  by_cases h6 : k = 6
  · subst h6
    have hv : res = mtB s c.qual := HR.out.trans (by simp [tstB])
    go_enter Tryz.func124, Tryz.ntmps124
    go_wp2_with fail
    rw [← hW2]
    clear hW2
    refine (HM.out c.qual W2).mono ?_
    rintro e w1 ⟨rfl, hb1⟩
    have HE : Hid (Below w.heap.size w w1) := HW2.out.trans (hb1.mono HW2.out.size)
    clear hb1
    go_wp2_with fail
    go_ret
    exact ⟨by rw [hv]; rfl, HE.out⟩
  have b6 : (k == 6) = false := by rw [beq_eq_false_iff_ne]; exact h6
  by_cases h7 : k = 7
  · subst h7
    have hv : res = mtB s c.val := HR.out.trans (by simp [tstB])
    go_enter Tryz.func124, Tryz.ntmps124
    go_wp2_with fail
    rw [← hW2]
    clear hW2
    refine (HM.out c.val W2).mono ?_
    rintro e w1 ⟨rfl, hb1⟩
    have HE : Hid (Below w.heap.size w w1) := HW2.out.trans (hb1.mono HW2.out.size)
    clear hb1
    go_wp2_with fail
    go_ret
    exact ⟨by rw [hv]; rfl, HE.out⟩
  have b7 : (k == 7) = false := by rw [beq_eq_false_iff_ne]; exact h7
  by_cases h8 : k = 8
  · subst h8
    have hv : res = inS c.row ⟨8, s, hi, t, lo, up, nn⟩ := HR.out.trans (by simp [tstB])
    go_enter Tryz.func124, Tryz.ntmps124
    go_wp2_with fail
    rw [← hW2]
    clear hW2
    refine (HS.out c.row W2).mono ?_
    rintro e w1 ⟨rfl, hb1⟩
    have HE : Hid (Below w.heap.size w w1) := HW2.out.trans (hb1.mono HW2.out.size)
    clear hb1
    go_wp2_with fail
    go_ret
    exact ⟨by rw [hv]; rfl, HE.out⟩
  have b8 : (k == 8) = false := by rw [beq_eq_false_iff_ne]; exact h8
  by_cases h9 : k = 9
  · subst h9
    have hv : res = inS c.qual ⟨9, s, hi, t, lo, up, nn⟩ := HR.out.trans (by simp [tstB])
    go_enter Tryz.func124, Tryz.ntmps124
    go_wp2_with fail
    rw [← hW2]
    clear hW2
    refine (HS.out c.qual W2).mono ?_
    rintro e w1 ⟨rfl, hb1⟩
    have HE : Hid (Below w.heap.size w w1) := HW2.out.trans (hb1.mono HW2.out.size)
    clear hb1
    go_wp2_with fail
    go_ret
    exact ⟨by rw [hv]; rfl, HE.out⟩
  have b9 : (k == 9) = false := by rw [beq_eq_false_iff_ne]; exact h9
  by_cases h10 : k = 10
  · subst h10
    have hv : res = (decide (lo ≤ c.ts) && (!hi || decide (c.ts < up))) := HR.out.trans (by simp [tstB])
    subst hv
    by_cases g1 : lo ≤ c.ts <;> cases hi <;> by_cases g2 : c.ts < up
    all_goals simp only [g1, g2, decide_true, decide_false, Bool.not_true, Bool.not_false, Bool.true_and, Bool.false_and, Bool.true_or, Bool.false_or]
    all_goals go_enter Tryz.func124, Tryz.ntmps124
    all_goals go_wp2_with fail
    all_goals go_ret
    all_goals exact ⟨rfl, ((Below.refl _ _).alloc (Nat.le_refl _) _).alloc (by simp) _⟩
  have b10 : (k == 10) = false := by rw [beq_eq_false_iff_ne]; exact h10
  have hv : res = false := HR.out.trans (by simp [tstB, h1, h3, h4, h5, h6, h7, h8, h9, h10])
  subst hv
  go_enter Tryz.func124, Tryz.ntmps124
  go_wp2_with fail
  go_ret
  exact ⟨rfl, ((Below.refl _ _).alloc (Nat.le_refl _) _).alloc (by simp) _⟩
end Go.Proofs.YtkidabedcgngcaaGreatDoor

