import Derived.Deep.QuietTactic
import Derived.BigQuiet
import Derived.Deep.AppendLies
import Derived.Test.YtgiigiegjaagbaaDoorPkAL
import Derived.Test.YtgiigiegjaagbaaDoorPkAK
import Derived.Test.YtgiigiegjaagbaaDoorPkAJ
import Derived.Test.YtgiigiegjaagbaaDoorPkAA
import Derived.Test.YtgiigiegjaagbaaDoorPkAD
import Derived.Test.YtgiigiegjaagbaaDoorPkAE
/-
  spec's l4Atom at a class.
-/
namespace Go.Proofs.YtgiigiegjaagbaaDoor
open Go.ChangeShapes Go.WideShapes Go.ChangeAt Go.RowKit Go.Deep
set_option linter.unusedVariables false
set_option linter.unusedSimpArgs false
set_option maxRecDepth 100000

set_option maxHeartbeats 8000000 in
theorem atm_cls {s : ByteArray} (hs : s.size ≤ 200) (q : ByteArray) (fc : UInt8 → Bool) (hq91 : (sb q)[0]? = some 91) (hqs : q.size ≤ 200) (hcl : classM (sb q) 1 = .inl (fc, q.size)) (w : World) : Calls Tryd.prog 46 #[.string q, .string s] w (MxG s (Lg (.cls fc)) w) := by
  obtain ⟨d, hd⟩ : ∃ d : UInt8, d = 91 := ⟨_, rfl⟩
  rw [← hd] at hq91
  have hql : 0 < q.size := by have := lt_of_at hq91; rw [sb_len] at this; exact this
  obtain ⟨_, gq⟩ := sb_get (s := q) (i := 0) (x := d) hq91
  have z40 : ((d.toNat : Int) == 40) = false := by rw [hd]; rfl
  have z46 : ((d.toNat : Int) == 46) = false := by rw [hd]; rfl
  have z92 : ((d.toNat : Int) == 92) = false := by rw [hd]; rfl
  have z91 : ((d.toNat : Int) == 91) = true := by rw [hd]; rfl
  have HHo : Hid (∀ (b : UInt8) (wx : World), Calls Tryd.prog 59 #[.string q, .int .u8 (b.toNat : Int)] wx fun e w' => e = .returned (.bool (fc b)) ∧ w' = wx) := fun b wx => l4Holds_core q hqs b fc hcl wx
  have zq : (0 : Int) < (q.size : Int) := by omega
  have HNo : Hid (Calls Tryd.prog 31 #[.int .i64 (s.size : Int)] w (MaP (s.size + 1) (fun _ _ => false) w)) := l4None_core s.size (by omega) w
  clear hq91 hd hqs hcl
  go_enter Tryd.func46, Tryd.ntmps46
  go_wp2_with fail
  refine HNo.out.mono ?_
  rintro r w1 ⟨g, cp, ρ, γ, rfl, HM, hb1⟩
  have hcp := HM.out.out.caps
  go_wp2_with fail
  go_loopw [6] (fun iv wr => ∃ (k : Nat) (f : Nat → Nat → Bool), k ≤ s.size ∧ iv = .int .i64 k ∧ Hid (MatO wr w.heap.size g cp (s.size + 1) (s.size + 1) ρ γ f ∧ (∀ i j, i ≤ j → j < s.size + 1 → f i j = (decide (j = i + 1) && (((sb s)[i]?).map (fun x => fc x)).getD false && decide (i < k))) ∧ Below w.heap.size w wr)) (fun iv _ => s.size - (intOf iv).toNat)
  case atStart => exact ⟨0, _, Nat.zero_le _, rfl, HM.out, fun i j _ _ => by simp, hb1⟩
  case round =>
    obtain ⟨k, f, hk, rfl, HJ⟩ := hrel
    by_cases hlt : k < s.size
    · have zk : (k : Int) < (s.size : Int) := by omega
      obtain ⟨x, hx⟩ : ∃ x, (sb s)[k]? = some x := ⟨_, List.getElem?_eq_getElem (by rw [sb_len]; exact hlt)⟩
      obtain ⟨_, gx⟩ := sb_get hx
      have c0 : wr.cell? ⟨g, k, none⟩ = some (slV (ρ k) (s.size + 1) (γ k)) := HJ.out.1.cell (by omega)
      have hkk : k < s.size + 1 := by omega
      have c1 : wr.cell? ⟨ρ k, k + 1, none⟩ = some (.bool (f k (k + 1))) := (HJ.out.1.row k hkk).cell (by omega)
      have y1 : wr.frozen? ⟨ρ k, k + 1, none⟩ = false := World.ownsRow.frozenAt (HJ.out.1.row k hkk) _
      have hrc := (HJ.out.1.row k hkk).caps
      obtain ⟨bv, hbv⟩ : ∃ bv, bv = (fc x) := ⟨_, rfl⟩
      have HV : Hid (bv = (fun x => fc x) x) := by exact hbv
      have HX : Hid ((sb s)[k]? = some x) := hx
      clear hx
      go_upto_region 7 with fail
      refine wp_region_T 99 (fun _ => True) (by kernel_rfl) ?_
      refine anyT_takeN (i := 0) (v := ?vb0) rfl (by kernel_rfl) (by kernel_rfl) (by kernel_rfl) (by rfl) (fun _ _ _ h => h) (Or.inl ⟨by rfl, ?yb0⟩) True.intro ?_
      case yb0 => (intro wz hSw; go_simp; (try with_reducible rfl))
      try simp only [Act.put, List.getElem_toArray, List.getElem_cons_zero, List.getElem_cons_succ, List.setIfInBounds_toArray, List.set_cons_zero, List.set_cons_succ]
      refine anyT_takeN (i := 1) (v := ?vb1) rfl (by kernel_rfl) (by kernel_rfl) (by kernel_rfl) (by rfl) (fun _ _ _ h => h) (Or.inl ⟨by rfl, ?yb1⟩) True.intro ?_
      case yb1 => (intro wz hSw; go_simp; (try with_reducible rfl))
      try simp only [Act.put, List.getElem_toArray, List.getElem_cons_zero, List.getElem_cons_succ, List.setIfInBounds_toArray, List.set_cons_zero, List.set_cons_succ]
      refine anyT_takeN (i := 2) (v := .bool false) rfl (by kernel_rfl) (by kernel_rfl) (by kernel_rfl) (by rfl) (fun _ _ _ h => h) (Or.inl ⟨by rfl, ?yb2⟩) True.intro ?_
      case yb2 => (intro wz hSw; go_simp; (try simp only [z46]); (try with_reducible rfl))
      try simp only [Act.put, List.getElem_toArray, List.getElem_cons_zero, List.getElem_cons_succ, List.setIfInBounds_toArray, List.set_cons_zero, List.set_cons_succ]
      refine anyT_takeN (i := 3) (v := ?vb3) rfl (by kernel_rfl) (by kernel_rfl) (by kernel_rfl) (by rfl) (fun _ _ _ h => h) (Or.inl ⟨by rfl, ?yb3⟩) True.intro ?_
      case yb3 => (intro wz hSw; go_simp; (try with_reducible rfl))
      try simp only [Act.put, List.getElem_toArray, List.getElem_cons_zero, List.getElem_cons_succ, List.setIfInBounds_toArray, List.set_cons_zero, List.set_cons_succ]
      refine anyT_takeN (i := 4) (v := ?vb4) rfl (by kernel_rfl) (by kernel_rfl) (by kernel_rfl) (by rfl) (fun _ _ _ h => h) (Or.inl ⟨by rfl, ?yb4⟩) True.intro ?_
      case yb4 => (intro wz hSw; go_simp; (try with_reducible rfl))
      try simp only [Act.put, List.getElem_toArray, List.getElem_cons_zero, List.getElem_cons_succ, List.setIfInBounds_toArray, List.set_cons_zero, List.set_cons_succ]
      refine anyT_takeN (i := 5) (v := ?vb5) rfl (by kernel_rfl) (by kernel_rfl) (by kernel_rfl) (by rfl) (fun _ _ _ h => h) (Or.inl ⟨by rfl, ?yb5⟩) True.intro ?_
      case yb5 => (intro wz hSw; go_simp; (try with_reducible rfl))
      try simp only [Act.put, List.getElem_toArray, List.getElem_cons_zero, List.getElem_cons_succ, List.setIfInBounds_toArray, List.set_cons_zero, List.set_cons_succ]
      refine anyT_takeN (i := 6) (v := ?vb6) rfl (by kernel_rfl) (by kernel_rfl) (by kernel_rfl) (by rfl) (fun _ _ _ h => h) (Or.inl ⟨by rfl, ?yb6⟩) True.intro ?_
      case yb6 => (intro wz hSw; go_simp; (try with_reducible rfl))
      try simp only [Act.put, List.getElem_toArray, List.getElem_cons_zero, List.getElem_cons_succ, List.setIfInBounds_toArray, List.set_cons_zero, List.set_cons_succ]
      refine anyT_takeN (i := 7) (v := ?vb7) rfl (by kernel_rfl) (by kernel_rfl) (by kernel_rfl) (by rfl) (fun _ _ _ h => h) (Or.inl ⟨by rfl, ?yb7⟩) True.intro ?_
      case yb7 => (intro wz hSw; go_simp; (try with_reducible rfl))
      try simp only [Act.put, List.getElem_toArray, List.getElem_cons_zero, List.getElem_cons_succ, List.setIfInBounds_toArray, List.set_cons_zero, List.set_cons_succ]
      refine anyT_takeN (i := 8) (v := ?vb8) rfl (by kernel_rfl) (by kernel_rfl) (by kernel_rfl) (by rfl) (fun _ _ _ h => h) (Or.inl ⟨by rfl, ?yb8⟩) True.intro ?_
      case yb8 => (intro wz hSw; go_simp; (try with_reducible rfl))
      try simp only [Act.put, List.getElem_toArray, List.getElem_cons_zero, List.getElem_cons_succ, List.setIfInBounds_toArray, List.set_cons_zero, List.set_cons_succ]
      refine anyT_takeN (i := 9) (v := ?vb9) rfl (by kernel_rfl) (by kernel_rfl) (by kernel_rfl) (by rfl) (fun _ _ _ h => h) (Or.inl ⟨by rfl, ?yb9⟩) True.intro ?_
      case yb9 => (intro wz hSw; go_simp; (try with_reducible rfl))
      try simp only [Act.put, List.getElem_toArray, List.getElem_cons_zero, List.getElem_cons_succ, List.setIfInBounds_toArray, List.set_cons_zero, List.set_cons_succ]
      refine anyT_takeN (i := 10) (v := ?vb10) rfl (by kernel_rfl) (by kernel_rfl) (by kernel_rfl) (by rfl) (fun _ _ _ h => h) (Or.inl ⟨by rfl, ?yb10⟩) True.intro ?_
      case yb10 => (intro wz hSw; go_simp; (try with_reducible rfl))
      try simp only [Act.put, List.getElem_toArray, List.getElem_cons_zero, List.getElem_cons_succ, List.setIfInBounds_toArray, List.set_cons_zero, List.set_cons_succ]
      refine anyT_one (i := 11) (by kernel_rfl) rfl (fun K hK => ?_)
      go_simp
      refine hK.out _ _ (.inr True.intro) ?_
      clear hK
      try simp only [Act.put, List.getElem_toArray, List.getElem_cons_zero, List.getElem_cons_succ, List.setIfInBounds_toArray, List.set_cons_zero, List.set_cons_succ]
      refine anyT_done (by kernel_rfl) ?_
      go_wp2_with fail
      refine (HHo.out x _).mono ?_
      rintro e wh ⟨rfl, hwh⟩
      rw [hwh]
      rw [← hbv]
      clear hbv
      have HJ2 : Hid (MatO (wr.setCell ⟨ρ k, k + 1, none⟩ (.bool bv)).drew w.heap.size g cp (s.size + 1) (s.size + 1) ρ γ (upd2 f k (k + 1) bv) ∧ (∀ i j, i ≤ j → j < s.size + 1 → upd2 f k (k + 1) bv i j = (decide (j = i + 1) && (((sb s)[i]?).map (fun x => fc x)).getD false && decide (i < k + 1))) ∧ Below w.heap.size w (wr.setCell ⟨ρ k, k + 1, none⟩ (.bool bv)).drew) := by
        refine ⟨(HJ.out.1.set hkk (by omega) bv).below ((Below.refl _ _).drew), fun i j hij hj => ?_, (below_set HJ.out.2.2 (HJ.out.1.row k hkk).lt.1 _ _).drew⟩
        unfold upd2
        by_cases e : i = k ∧ j = k + 1
        · rw [if_pos e, e.1, e.2, HX.out, HV.out]; simp
        · rw [if_neg e, HJ.out.2.1 i j hij hj]
          by_cases e2 : j = i + 1
          · have h1 : i ≠ k := fun q => e ⟨q, by omega⟩
            have h2 : decide (i < k) = decide (i < k + 1) := by rw [decide_eq_decide]; omega
            rw [h2]
          · simp [e2]
      go_wp2_with fail
      refine ⟨⟨k + 1, upd2 f k (k + 1) bv, by omega, by go_num, HJ2⟩, ?_⟩
      go_light
      simp [intOf]; omega
    · obtain rfl : k = s.size := by omega
      have zk : ¬ (s.size : Int) < (s.size : Int) := by omega
      go_wp2_with fail
      go_ret
      refine ⟨g, cp, ρ, γ, f, rfl, hcp.1, ⟨HJ.out.1.read, (relW_one (τ := fun x => fc x) (fun i j hij hj => ?_)).iff (fun _ _ _ _ => rfl) (fun y => by simp [Lg])⟩, HJ.out.2.2⟩
      rw [sb_len] at hj
      rw [HJ.out.2.1 i j hij hj]
      by_cases e : j = i + 1
      · have h1 : i < s.size := by omega
        simp [h1]
      · simp [e]
end Go.Proofs.YtgiigiegjaagbaaDoor

/-
  spec's l4Atom at a group.
-/
namespace Go.Proofs.YtgiigiegjaagbaaDoor
open Go.ChangeShapes Go.WideShapes Go.ChangeAt Go.RowKit Go.Deep
set_option linter.unusedVariables false
set_option linter.unusedSimpArgs false
set_option maxRecDepth 100000

set_option maxHeartbeats 4000000 in
theorem atm_group {s : ByteArray} {m : Nat} (H : AltW s m) (q : ByteArray) (ys : List UInt8) (n : Nat) (os : List (List Pat)) (hq : sb q = 40 :: ys ++ [41]) (hqm : q.size ≤ m + 1) (hqs : q.size ≤ 200) (hG : AltG (AtomG n) os ys) (w : World) : Calls Tryd.prog 46 #[.string q, .string s] w (MxG s (LgA os) w) := by
  have hql : q.size = ys.length + 2 := by rw [← sb_len, hq]; simp
  obtain ⟨d, hd⟩ : ∃ d : UInt8, d = 40 := ⟨_, rfl⟩
  obtain ⟨_, gq⟩ := sb_get (s := q) (i := 0) (x := d) (by rw [hq, hd]; rfl)
  have z40 : ((d.toNat : Int) == 40) = true := by rw [hd]; rfl
  have zq : (0 : Int) < (q.size : Int) := by omega
  have hx : sb (q.extract 1 (q.size - 1)) = ys := by
    rw [sb_extract q (by omega), hq, hql]
    simp [cut]
  have HC : Hid (Calls Tryd.prog 19 #[.string (q.extract 1 (q.size - 1)), .string s] w (MxG s (LgA os) w)) := H n os _ w (by rw [← sb_len, hx]; omega) (by rw [← sb_len, hx]; omega) (by rw [hx]; exact hG)
  obtain ⟨M, hM⟩ : ∃ M, M = q.size - 1 := ⟨_, rfl⟩
  have z1 : (1 : Int) ≤ (M : Int) := by omega
  have z2 : (M : Int) ≤ (q.size : Int) := by omega
  have z3 : ((q.size : Int) - 1) = (M : Int) := by omega
  have z4 : q.size ≤ 200 := hqs
  rw [← hM] at HC
  clear hq hqm hqs hG hx hd hql hM
  go_enter Tryd.func46, Tryd.ntmps46
  go_wp2_with fail
  refine HC.out.mono ?_
  rintro r w1 ⟨g, cp, ρ, γ, f, rfl, hcp, HM, hb⟩
  go_wp2_with fail
  go_ret
  exact ⟨g, cp, ρ, γ, f, rfl, hcp, HM, hb⟩
end Go.Proofs.YtgiigiegjaagbaaDoor

/-
  spec's l4Alt, l4Seq and l4Atom tied, and spec.MatchRegex.
-/
namespace Go.Proofs.YtgiigiegjaagbaaDoor
open Go.ChangeShapes Go.WideShapes Go.ChangeAt Go.RowKit Go.Deep
set_option linter.unusedVariables false
set_option linter.unusedSimpArgs false
set_option maxRecDepth 100000

theorem reg_fieldM (c k : Int) (w : World) : (Instr.field 30 (.agg #[.int .i64 c, .int .i64 k]) 0).run Tryd.prog w = .ok (.int .i64 c) w := by kernel_rfl
theorem atm_says {s : ByteArray} (hs : s.size ≤ 200) {m : Nat} (H : AltW s m) : AtmW s (m + 1) := by
  intro n t q w hqm hq hG
  cases n with
  | zero => exact hG.elim
  | succ n =>
    rcases hG with ⟨c, h1, h2, rfl⟩ | ⟨h1, rfl⟩ | ⟨c, h1, rfl⟩ | ⟨ys, os, h1, h2, rfl⟩ | ⟨p, i, k, f, h1, h2, h3, rfl⟩
    · unfold special at h2
      exact atm_byte hs q c h1 (fun e => h2 (.inr (.inl e))) (fun e => h2 (.inr (.inr (.inr (.inl e))))) (fun e => h2 (.inr (.inr (.inr (.inr e))))) (fun e => h2 (.inr (.inr (.inl e)))) w
    · exact atm_dot hs q 46 h1 rfl w
    · exact atm_esc hs q 92 c h1 rfl w
    · exact atm_group H q ys n os h1 hqm hq h2 w
    · have hg := classM_gt h2
      have hle := hg.2
      have hl : (sb q).length = k - i := by rw [h3, cut_len hle]
      have hat : ∀ t, i + t < k → (sb q)[t]? = p[i + t]? := fun t ht => by
        rw [h3]; unfold cut
        rw [List.getElem?_take, if_pos (by omega), List.getElem?_drop]
      have e := classM_agree (q := sb q) (j := 1) h2 (fun t ht => by
        rw [hat (1 + t) (by omega)]; congr 1; omega)
      refine atm_cls hs q f (by have := hat 0 (by omega); rw [this]; exact h1) hq ?_ w
      rw [e]
      have : 1 + (k - (i + 1)) = q.size := by rw [← sb_len, hl]; omega
      rw [this]
set_option maxHeartbeats 4000000 in
theorem seq_zero {s : ByteArray} (hs : s.size ≤ 200) : SeqW s 0 := by
  intro n ts p w hpm hp hG
  have h0 : sb p = [] := List.length_eq_zero_iff.1 (by rw [sb_len]; omega)
  cases ts with
  | nil =>
    have hz : p.toList = [] := by rw [ByteArray.toList_eq]; exact h0
    have q1 : (p.toList == []) = true := by rw [hz]; rfl
    have HE : Hid (Calls Tryd.prog 45 #[.int .i64 (s.size : Int)] w (MxG s (fun x => x = []) w)) := empty_says hs w
    clear hz h0 hG
    go_enter Tryd.func33, Tryd.ntmps33
    go_wp2_with fail
    refine HE.out.mono ?_
    rintro e w1 ⟨g1, p1, ρ1, γ1, f1, rfl, hp1, HM1, hb1⟩
    have HR : Hid (MxG s (LgS []) w (.returned (slV g1 (s.size + 1) p1)) w1) := ⟨g1, p1, ρ1, γ1, f1, rfl, hp1, ⟨HM1.out.1, HM1.out.2.iff (fun _ _ _ _ => rfl) (fun x => by simp [LgS])⟩, hb1⟩
    go_wp2_with fail
    go_ret
    exact HR.out
  | cons t ts =>
    obtain ⟨a, as_, ops, hX, _⟩ := seqX_of hG
    have h1 := hX.len
    have h2 := hX.le
    omega
theorem seq_every {s : ByteArray} (hs : s.size ≤ 200) : ∀ m, SeqW s m
  | 0 => seq_zero hs
  | m + 1 => seq_says hs (atm_says hs (alt_says hs (seq_every hs m))) (seq_every hs m)
theorem alt_every {s : ByteArray} (hs : s.size ≤ 200) (m : Nat) : AltW s m := alt_says hs (seq_every hs m)
set_option maxHeartbeats 4000000 in
/-- spec.MatchRegex where the pattern has a fault. -/
theorem specMatch_bad (p s : ByteArray) (hpm : p.size ≤ maxLen) (hc0 : ¬ (checkM (sb p)).1 = 0) (w : World) : Calls Tryd.prog 5 #[.string p, .string s] w fun e w' => e = .returned (.bool false) ∧ Below w.heap.size w w' := by
  obtain ⟨c, hc⟩ : ∃ c, c = (checkM (sb p)).1 := ⟨_, rfl⟩
  obtain ⟨k, hk⟩ : ∃ k : Int, k = ((checkM (sb p)).2 : Int) := ⟨_, rfl⟩
  have HS : Hid (∀ w, Calls Tryd.prog 10 #[.string p] w fun e w' => e = .returned (.agg #[.int .i64 c, .int .i64 k]) ∧ Below w.heap.size w w') := fun w => by
    rw [hc, hk]; exact specCheck_core p w hpm
  have hfd := reg_fieldM c k
  rw [← hc] at hc0
  clear hc hk
  go_enter Tryd.func5, Tryd.ntmps5
  go_wp2_with fail
  refine (HS.out _).mono ?_
  rintro e w1 ⟨rfl, hb1⟩
  go_wp2_with fail
  go_ret
  exact ⟨rfl, hb1⟩
set_option maxHeartbeats 4000000 in
/-- spec.MatchRegex where the string is too long. -/
theorem specMatch_long (p s : ByteArray) (hpm : p.size ≤ maxLen) (hs : 200 < s.size) (w : World) : Calls Tryd.prog 5 #[.string p, .string s] w fun e w' => e = .returned (.bool false) ∧ Below w.heap.size w w' := by
  by_cases hc0 : (checkM (sb p)).1 = 0
  · obtain ⟨k, hk⟩ : ∃ k : Int, k = ((checkM (sb p)).2 : Int) := ⟨_, rfl⟩
    have HS : Hid (∀ w, Calls Tryd.prog 10 #[.string p] w fun e w' => e = .returned (.agg #[.int .i64 0, .int .i64 k]) ∧ Below w.heap.size w w') := fun w => by
      rw [← hc0, hk]; exact specCheck_core p w hpm
    have hfd := reg_fieldM 0 k
    have zs : ¬ (s.size : Int) ≤ 200 := by omega
    clear hk hc0
    go_enter Tryd.func5, Tryd.ntmps5
    go_wp2_with fail
    refine (HS.out _).mono ?_
    rintro e w1 ⟨rfl, hb1⟩
    go_wp2_with fail
    go_ret
    exact ⟨rfl, hb1⟩
  · exact specMatch_bad p s hpm hc0 w
set_option maxHeartbeats 4000000 in
/-- spec.MatchRegex of a pattern without a fault. -/
theorem specMatch_ok (p s : ByteArray) (hpm : p.size ≤ maxLen) (hc0 : (checkM (sb p)).1 = 0) (hs : s.size ≤ 200) (n : Nat) (os : List (List Pat)) (hG : AltG (AtomG n) os (sb p)) (w : World) : Calls Tryd.prog 5 #[.string p, .string s] w fun e w' => ∃ b : Bool, e = .returned (.bool b) ∧ Hid (b = true ↔ LgA os (sb s)) ∧ Below w.heap.size w w' := by
  have hp : p.size ≤ 200 := by
    apply Classical.byContradiction
    intro h6
    unfold checkM at hc0
    rw [if_pos (by rw [sb_len]; omega)] at hc0
    exact absurd hc0 (by decide)
  obtain ⟨k, hk⟩ : ∃ k : Int, k = ((checkM (sb p)).2 : Int) := ⟨_, rfl⟩
  have HS : Hid (∀ w, Calls Tryd.prog 10 #[.string p] w fun e w' => e = .returned (.agg #[.int .i64 0, .int .i64 k]) ∧ Below w.heap.size w w') := fun w => by
    rw [← hc0, hk]; exact specCheck_core p w hpm
  have HA : Hid (∀ w, Calls Tryd.prog 19 #[.string p, .string s] w (MxG s (LgA os) w)) := fun w => alt_every hs 200 n os p w hp hp hG
  have hfd := reg_fieldM 0 k
  have zs : (s.size : Int) ≤ 200 := by omega
  clear hk hc0 hG
  go_enter Tryd.func5, Tryd.ntmps5
  go_wp2_with fail
  refine (HS.out _).mono ?_
  rintro e w1 ⟨rfl, hb1⟩
  go_wp2_with fail
  refine (HA.out _).mono ?_
  rintro e w2 ⟨g, cp, ρ, γ, f, rfl, hcp, HM, hb2⟩
  have c0 : w2.cell? ⟨g, 0, none⟩ = some (slV (ρ 0) (s.size + 1) (γ 0)) := HM.out.1.out 0 (by omega)
  have c1 : w2.cell? ⟨ρ 0, s.size, none⟩ = some (.bool (f 0 s.size)) := HM.out.1.row 0 s.size (by omega) (by omega)
  have hcap := HM.out.1.cap 0 (by omega)
  have z9 : (s.size : Int) < ((s.size + 1 : Nat) : Int) := by omega
  have z8 : (s.size : Int) < (s.size : Int) + 1 := by omega
  have z7 : (0 : Int) < (s.size : Int) + 1 := by omega
  have HB : Hid (f 0 s.size = true ↔ LgA os (sb s)) := by
    have h := HM.out.2 0 s.size (by omega) (by rw [sb_len]; omega)
    have e : cut (sb s) 0 s.size = sb s := by unfold cut; rw [List.drop_zero, Nat.sub_zero, ← sb_len, List.take_length]
    rw [e] at h
    exact h
  go_wp2_with fail
  go_ret
  exact ⟨_, rfl, HB, hb1.trans (hb2.mono hb1.size)⟩
end Go.Proofs.YtgiigiegjaagbaaDoor

/-
  The walk of the law FnExactMatchRegex.
-/
namespace Go.Proofs.YtgiigiegjaagbaaDoor
open Go.ChangeShapes Go.WideShapes Go.ChangeAt Go.RowKit Go.Deep
set_option linter.unusedVariables false
set_option linter.unusedSimpArgs false
set_option maxRecDepth 100000

/-- What both say. -/
def MatB (p s : ByteArray) (b : Bool) : Prop := (¬ (checkM (sb p)).1 = 0 ∧ b = false) ∨ ((checkM (sb p)).1 = 0 ∧ ∃ n os, AltG (AtomG n) os (sb p) ∧ (b = true ↔ s.size ≤ 200 ∧ LgA os (sb s)))
theorem MatB.one {p s : ByteArray} {b c : Bool} (h : MatB p s b) (k : MatB p s c) : b = c := by
  rcases h with ⟨h1, rfl⟩ | ⟨h1, n, os, h2, h3⟩
  · rcases k with ⟨_, rfl⟩ | ⟨k1, _⟩
    · rfl
    · exact absurd k1 h1
  · rcases k with ⟨k1, _⟩ | ⟨_, m, us, k2, k3⟩
    · exact absurd h1 k1
    · obtain rfl := pat_uni h2 k2
      rw [Bool.eq_iff_iff, h3, k3]
def SpeB (p s : ByteArray) (w : World) (e : Ending) (w' : World) : Prop := ∃ b : Bool, e = .returned (.bool b) ∧ Hid (Below w.heap.size w w' ∧ MatB p s b)
theorem specMatch_core (p s : ByteArray) (w : World) (hpm : p.size ≤ maxLen) : Calls Tryd.prog 5 #[.string p, .string s] w (SpeB p s w) := by
  by_cases hc0 : (checkM (sb p)).1 = 0
  · obtain ⟨os, ho⟩ := pref_is p hpm hc0
    obtain ⟨n, hg⟩ := ho.gr
    have ecut : cut (sb p) 0 p.size = sb p := by unfold cut; rw [List.drop_zero, Nat.sub_zero, ← sb_len, List.take_length]
    rw [ecut] at hg
    by_cases hs : s.size ≤ 200
    · refine (specMatch_ok p s hpm hc0 hs n os hg w).mono ?_
      rintro e w' ⟨b, rfl, H, hb⟩
      exact ⟨b, rfl, hb, .inr ⟨hc0, n, os, hg, H.out.trans ⟨fun q => ⟨hs, q⟩, fun q => q.2⟩⟩⟩
    · refine (specMatch_long p s hpm (by omega) w).mono ?_
      rintro e w' ⟨rfl, hb⟩
      exact ⟨false, rfl, hb, .inr ⟨hc0, n, os, hg, ⟨fun q => (by cases q), fun q => absurd q.1 hs⟩⟩⟩
  · refine (specMatch_bad p s hpm hc0 w).mono ?_
    rintro e w' ⟨rfl, hb⟩
    exact ⟨false, rfl, hb, .inl ⟨hc0, rfl⟩⟩
end Go.Proofs.YtgiigiegjaagbaaDoor

/-
  What a pattern begins with, and its words.
-/
namespace Go.Proofs.YtgiigiegjaagbaaDoor
open Go.ChangeShapes Go.WideShapes Go.ChangeAt Go.RowKit Go.Deep
set_option linter.unusedVariables false
set_option linter.unusedSimpArgs false

/-- A word of a seq begins with the seq's prefix. -/
theorem prefM_word : ∀ (ts : List Pat) (x : List UInt8), LgS ts x → (prefM ts).1 <+: x
  | [], x, _ => List.nil_prefix
  | .byte c :: ts, x, h => by
    obtain ⟨y, z, rfl, h1, h2⟩ := h
    have h1' : y = [c] := h1
    subst h1'
    exact (List.cons_prefix_cons).2 ⟨rfl, prefM_word ts z h2⟩
  | .cls _ :: _, x, _ => List.nil_prefix
  | .rep _ _ _ :: _, x, _ => List.nil_prefix
  | .alt _ :: _, x, _ => List.nil_prefix
theorem prefOf_word : ∀ (os : List (List Pat)) (x : List UInt8), LgA os x → (prefOf os).1 <+: x
  | [], x, _ => List.nil_prefix
  | [ts], x, h => prefM_word ts x (by rcases h with h | h; exact h; exact h.elim)
  | _ :: _ :: _, x, _ => List.nil_prefix
/-- An exact prefix is the one word. -/
theorem prefM_exact : ∀ (ts : List Pat) (x : List UInt8), (prefM ts).2 = true → (LgS ts x ↔ x = (prefM ts).1)
  | [], x, _ => Iff.rfl
  | .byte c :: ts, x, h => by
    have ih := prefM_exact ts
    constructor
    · rintro ⟨y, z, rfl, h1, h2⟩
      have h1' : y = [c] := h1
      subst h1'
      rw [(ih z h).1 h2]
      rfl
    · intro e
      exact ⟨[c], (prefM ts).1, e, rfl, (ih _ h).2 rfl⟩
  | .cls _ :: _, x, h => by simp [prefM] at h
  | .rep _ _ _ :: _, x, h => by simp [prefM] at h
  | .alt _ :: _, x, h => by simp [prefM] at h
theorem prefOf_exact : ∀ (os : List (List Pat)) (x : List UInt8), (prefOf os).2 = true → (LgA os x ↔ x = (prefOf os).1)
  | [], x, h => by simp [prefOf] at h
  | [ts], x, h => by
    have e : LgA [ts] x ↔ LgS ts x := ⟨fun q => by rcases q with q | q; exact q; exact q.elim, .inl⟩
    rw [e]
    exact prefM_exact ts x h
  | _ :: _ :: _, x, h => by simp [prefOf] at h

theorem sb_mk (r : List UInt8) : sb (⟨r.toArray⟩ : ByteArray) = r := by simp [sb]
theorem sbA_inj {a b : ByteArray} (h : sb a = sb b) : a = b := by
  cases a with | mk x => cases b with | mk y => exact congrArg ByteArray.mk (Array.toList_inj.1 (by simpa [sb] using h))
theorem matB_some (p s : ByteArray) (hp : p.size ≤ maxLen) : ∃ b, MatB p s b := by
  by_cases hc0 : (checkM (sb p)).1 = 0
  · obtain ⟨os, ho⟩ := pref_is p hp hc0
    obtain ⟨n, hg⟩ := ho.gr
    have ecut : cut (sb p) 0 p.size = sb p := by unfold cut; rw [List.drop_zero, Nat.sub_zero, ← sb_len, List.take_length]
    rw [ecut] at hg
    by_cases h : s.size ≤ 200 ∧ LgA os (sb s)
    · exact ⟨true, .inr ⟨hc0, n, os, hg, ⟨fun _ => h, fun _ => rfl⟩⟩⟩
    · exact ⟨false, .inr ⟨hc0, n, os, hg, ⟨fun q => (by cases q), fun q => absurd q h⟩⟩⟩
  · exact ⟨false, .inl ⟨hc0, rfl⟩⟩
theorem specMatch_at {p s : ByteArray} {b : Bool} (hb : MatB p s b) (hpm : p.size ≤ maxLen) (w : World) : Calls Tryd.prog 5 #[.string p, .string s] w fun e w' => e = .returned (.bool b) ∧ Below w.heap.size w w' := by
  refine (specMatch_core p s w hpm).mono ?_
  rintro e w' ⟨c, rfl, H⟩
  rw [MatB.one hb H.out.2]
  exact ⟨rfl, H.out.1⟩
theorem implMatch_at {p s : ByteArray} {b : Bool} (hb : MatB p s b) (hpm : p.size ≤ maxLen) (w : World) (hT : TabD w) : Calls Tryd.prog 7 #[.string p, .string s] w fun e w' => e = .returned (.bool b) ∧ Below w.heap.size w w' := by
  refine (implMatch_core p s w hpm hT).mono ?_
  rintro e w' ⟨c, rfl, H⟩
  rw [MatB.one hb H.out.2]
  exact ⟨rfl, H.out.1⟩
/-- A pattern with a fault. -/
theorem mat_bad {p s : ByteArray} {b : Bool} {r : List UInt8 × Bool} (hb : MatB p s b) (hr : PrefIs p r) (hc : ¬ (checkM (sb p)).1 = 0) : b = false ∧ r = ([], false) := by
  refine ⟨?_, hr.1 hc⟩
  rcases hb with ⟨_, h⟩ | ⟨h, _⟩
  · exact h
  · exact absurd h hc
theorem pref_good {p : ByteArray} {r : List UInt8 × Bool} (hp : p.size ≤ maxLen) (hr : PrefIs p r) (hc : (checkM (sb p)).1 = 0) : ∃ n os, AltG (AtomG n) os (sb p) ∧ r = prefOf os := by
  obtain ⟨os, ho⟩ := pref_is p hp hc
  obtain ⟨n, hg⟩ := ho.gr
  have ecut : cut (sb p) 0 p.size = sb p := by unfold cut; rw [List.drop_zero, Nat.sub_zero, ← sb_len, List.take_length]
  rw [ecut] at hg
  exact ⟨n, os, hg, hr.2 hc os ho⟩
theorem atomG_pos : ∀ (n : Nat) (xs : List UInt8) (t : Pat), AtomG n xs t → 0 < xs.length := by
  intro n xs t h
  obtain ⟨c, ys, rfl, _⟩ := AtomG.byte h
  simp
theorem pref_len {p : ByteArray} {r : List UInt8 × Bool} (hp : p.size ≤ maxLen) (hr : PrefIs p r) : r.1.length ≤ 200 := by
  by_cases hc : (checkM (sb p)).1 = 0
  · obtain ⟨n, os, hg, rfl⟩ := pref_good hp hr hc
    have hl : (sb p).length ≤ 200 := by
      by_cases q : 200 < (sb p).length
      · unfold checkM at hc; rw [if_pos q] at hc; exact absurd hc (by decide)
      · omega
    match os, hg with
    | [], _ => exact Nat.zero_le _
    | [ts], hg =>
      have h1 := prefM_len ts
      have h2 := seqG_len (atomG_pos n) (show SeqG (AtomG n) ts (sb p) from hg)
      show (prefM ts).1.length ≤ 200
      omega
    | _ :: _ :: _, _ => exact Nat.zero_le _
  · rw [hr.1 hc]; exact Nat.zero_le _
/-- A matched string begins with the prefix. -/
theorem mat_word {p s : ByteArray} {b : Bool} {r : List UInt8 × Bool} (hp : p.size ≤ maxLen) (hb : MatB p s b) (hr : PrefIs p r) (h : b = true) : r.1.length ≤ s.size ∧ s.extract 0 r.1.length = ⟨r.1.toArray⟩ := by
  rcases hb with ⟨_, q⟩ | ⟨hc, n, os, hg, hi⟩
  · rw [h] at q; cases q
  · obtain ⟨m, us, hu, rfl⟩ := pref_good hp hr hc
    obtain rfl := pat_uni hg hu
    obtain ⟨z, hz⟩ := prefOf_word os (sb s) (hi.1 h).2
    have hl : (prefOf os).1.length ≤ s.size := by rw [← sb_len, ← hz]; simp
    refine ⟨hl, sbA_inj ?_⟩
    have e1 : sb (s.extract 0 (prefOf os).1.length) = cut (sb s) 0 (prefOf os).1.length := sb_extract s hl
    rw [e1, ← hz, sb_mk (prefOf os).1]
    unfold cut
    simp
/-- An exact prefix is the one match. -/
theorem mat_exact {p s : ByteArray} {b : Bool} {r : List UInt8 × Bool} (hp : p.size ≤ maxLen) (hb : MatB p s b) (hr : PrefIs p r) (hc : (checkM (sb p)).1 = 0) (h : r.2 = true) : b = true ↔ s = ⟨r.1.toArray⟩ := by
  have hlen := pref_len hp hr
  rcases hb with ⟨q, _⟩ | ⟨_, n, os, hg, hi⟩
  · exact absurd hc q
  · obtain ⟨m, us, hu, rfl⟩ := pref_good hp hr hc
    obtain rfl := pat_uni hg hu
    rw [hi, prefOf_exact os (sb s) h]
    constructor
    · rintro ⟨_, e⟩
      exact sbA_inj (by rw [sb_mk]; exact e)
    · rintro rfl
      exact ⟨by simpa [ByteArray.size] using hlen, by rw [sb_mk]⟩
end Go.Proofs.YtgiigiegjaagbaaDoor

/-
  Ranges by value: the contracts of szRange, toRange, spec.InRange, impl.InRange.
-/
namespace Go.Proofs.YtgiigiegjaagbaaDoor
open Go.ChangeShapes Go.WideShapes Go.ChangeAt Go.RowKit Go.Deep

/-- Whether a row is in a range. -/
def inR (lo : ByteArray) (hh : Bool) (hi row : ByteArray) : Bool := !Op.bytesLess row.toList lo.toList && (!hh || Op.bytesLess row.toList hi.toList)

end Go.Proofs.YtgiigiegjaagbaaDoor

/-
  The draws: what they may hand back.
-/
namespace Go.Proofs.YtgiigiegjaagbaaDoor
open Go.ChangeShapes Go.WideShapes Go.ChangeAt Go.RowKit Go.Deep
set_option linter.unusedVariables false
set_option linter.unusedSimpArgs false
set_option maxRecDepth 100000

/-- The letters that are drawn from. -/
def CodeAt (w : World) (base : Nat) (bv : Value) (n : Nat) : Prop :=
  n ≤ 1048576 ∧ ((∃ a cap, bv = .slice a 0 cap ∧ n = 0) ∨ ∃ b off cap, bv = .slice (some ⟨b, off, none⟩) n cap ∧ b < base ∧ ∀ k, k < n → ∃ x : Int, w.cell? ⟨b, off + k, none⟩ = some (.int .u8 x) ∧ 0 ≤ x ∧ x < 256)
/-- The drawing's own variable. -/
def OwnL (w : World) (base cb : Nat) (vs : List Value) : Prop := w.ownsRow base 63 3 (.slice (some ⟨cb, 0, none⟩) 1 1) 1 vs
structure DrawAt (base cb : Nat) (bv : Value) (n : Nat) (w : World) : Prop where
  own : ∃ (i : Nat) (h : Int), i ≤ n ∧ OwnL w base cb [bv, .int .i64 i, .int .i64 h]
  code : CodeAt w base bv n
  base : base ≤ w.heap.size

theorem and255 (x : Int) : 0 ≤ bits .and .i64 x 255 ∧ bits .and .i64 x 255 < 256 := by
  have h : (BitVec.ofInt 64 x &&& BitVec.ofInt 64 255).toNat ≤ 255 := by
    rw [BitVec.toNat_and]
    exact Nat.le_trans Nat.and_le_right (by decide)
  have e : bits .and .i64 x 255 = IntKind.i64.wrap ((BitVec.ofInt 64 x &&& BitVec.ofInt 64 255).toNat : Int) := rfl
  rw [e, IntKind.wrap_i64]
  omega
theorem CodeAt.chg {T : Nat → Prop} {w w' : World} {base : Nat} {bv : Value} {n : Nat} (h : CodeAt w base bv n) (hc : Chg T w w') (hb : base ≤ w.heap.size) (hT : ∀ k, T k → base ≤ k) : CodeAt w' base bv n := by
  refine ⟨h.1, ?_⟩
  rcases h.2 with h | ⟨b, off, cap, hv, hlt, hx⟩
  · exact .inl h
  · refine .inr ⟨b, off, cap, hv, hlt, fun k hk => ?_⟩
    obtain ⟨x, h1, h2⟩ := hx k hk
    exact ⟨x, by rw [hc.cell (p := ⟨b, off + k, none⟩) (by show b < w.heap.size; omega) (fun q => by have q1 : base ≤ b := hT _ q; omega)]; exact h1, h2⟩
theorem DrawAt.chg {T : Nat → Prop} {base cb : Nat} {bv : Value} {n : Nat} {w w' : World} (h : DrawAt base cb bv n w) (hc : Chg T w w') (hn : ¬ T cb) (hT : ∀ k, T k → base ≤ k) : DrawAt base cb bv n w' := by
  obtain ⟨i, hh, h1, h2⟩ := h.own
  exact ⟨⟨i, hh, h1, own_chg h2 hc (fun k q => by simp [Value.ownBlock] at q; subst q; exact hn)⟩, h.code.chg hc h.base hT, by have := hc.size; have := h.base; omega⟩
theorem DrawAt.below {base cb : Nat} {bv : Value} {n : Nat} {w w' : World} (h : DrawAt base cb bv n w) (hb : Below w.heap.size w w') : DrawAt base cb bv n w' :=
  h.chg (T := fun _ => False) (Chg.of_below hb) (fun q => q) (fun k q => q.elim)
theorem DrawAt.lt {base cb : Nat} {bv : Value} {n : Nat} {w : World} (h : DrawAt base cb bv n w) : base ≤ cb ∧ cb < w.heap.size := by
  obtain ⟨i, hh, h1, h2⟩ := h.own
  exact World.ownsRow.lt h2 cb rfl
theorem DrawAt.setH {base cb : Nat} {bv : Value} {n i : Nat} {hh : Int} {w : World} (hi : i ≤ n) (h : OwnL w base cb [bv, .int .i64 i, .int .i64 hh]) (hc : CodeAt w base bv n) (hb : base ≤ w.heap.size) (h' : Int) : DrawAt base cb bv n (w.setCell ⟨cb, 2, none⟩ (.int .i64 h')) := by
  have hl := World.ownsRow.lt h cb rfl
  refine ⟨⟨i, h', hi, (World.ownsRow.stored h 2 _).1⟩, hc.chg (Chg.of_set (S := fun k => k = cb) w cb 2 _ rfl) hb (fun k q => by omega), ?_⟩
  have := (Chg.of_set (S := fun k => k = cb) w cb 2 (.int .i64 h') rfl).size
  omega
theorem DrawAt.setI {base cb : Nat} {bv : Value} {n i : Nat} {hh : Int} {w : World} (hi : i + 1 ≤ n) (h : OwnL w base cb [bv, .int .i64 i, .int .i64 hh]) (hc : CodeAt w base bv n) (hb : base ≤ w.heap.size) : DrawAt base cb bv n (w.setCell ⟨cb, 1, none⟩ (.int .i64 (i + 1 : Nat))) := by
  have hl := World.ownsRow.lt h cb rfl
  refine ⟨⟨i + 1, hh, hi, (World.ownsRow.stored h 1 _).1⟩, hc.chg (Chg.of_set (S := fun k => k = cb) w cb 1 _ rfl) hb (fun k q => by omega), ?_⟩
  have := (Chg.of_set (S := fun k => k = cb) w cb 1 (.int .i64 (i + 1 : Nat)) rfl).size
  omega

set_option maxHeartbeats 1000000 in
theorem byte_core (base cb : Nat) (bv : Value) (n : Nat) (w : World) (h : DrawAt base cb bv n w) :
    Calls Tryd.prog 30 #[.pointer (some ⟨cb, 0, none⟩)] w fun e w' => ∃ x : Int, e = .returned (.int .i64 x) ∧ 0 ≤ x ∧ x < 256 ∧ DrawAt base cb bv n w' ∧ Chg (fun k => k = cb) w w' := by
  obtain ⟨i, hh, hin, hO⟩ := h.own
  have c0 : w.cell? ⟨cb, 0, none⟩ = some bv := World.ownsRow.cellAt hO 0 (by decide)
  have c1 : w.cell? ⟨cb, 1, none⟩ = some (.int .i64 i) := World.ownsRow.cellAt hO 1 (by decide)
  have c2 : w.cell? ⟨cb, 2, none⟩ = some (.int .i64 hh) := World.ownsRow.cellAt hO 2 (by decide)
  have f1 := World.ownsRow.frozenAt hO 1
  have f2 := World.ownsRow.frozenAt hO 2
  obtain ⟨h1, hh1⟩ : ∃ h1, h1 = wrap64 (wrap64 (hh * 6364136223846793005) + 1442695040888963407) := ⟨_, rfl⟩
  obtain ⟨W1, hW1⟩ : ∃ W1 : World, W1 = w.setCell ⟨cb, 2, none⟩ (.int .i64 h1) := ⟨_, rfl⟩
  have hC1 : Chg (fun k => k = cb) w W1 := by rw [hW1]; exact Chg.of_set _ _ _ _ rfl
  have HO1 : Hid (OwnL W1 base cb [bv, .int .i64 i, .int .i64 h1]) := by show OwnL W1 _ _ _; rw [hW1]; exact (World.ownsRow.stored hO 2 _).1
  have hD1 : DrawAt base cb bv n W1 := by rw [hW1]; exact DrawAt.setH hin hO h.code h.base h1
  have HD : Hid (DrawAt base cb bv n W1 ∧ Chg (fun k => k = cb) w W1) := ⟨hD1, hC1⟩
  clear hD1 hC1
  have hcode := h.code
  have hn := hcode.1
  clear h hO
  go_enter Tryd.func30, Tryd.ntmps30
  go_upto_region 2 with fail
  rw [← hh1, ← hW1]
  have d0 : W1.cell? ⟨cb, 0, none⟩ = some bv := World.ownsRow.cellAt HO1.out 0 (by decide)
  have d1 : W1.cell? ⟨cb, 1, none⟩ = some (.int .i64 i) := World.ownsRow.cellAt HO1.out 1 (by decide)
  have d2 : W1.cell? ⟨cb, 2, none⟩ = some (.int .i64 h1) := World.ownsRow.cellAt HO1.out 2 (by decide)
  have e1 := World.ownsRow.frozenAt HO1.out 1
  clear hh1 hW1 c0 c1 c2 f1 f2
  go_quiet (fail)
  obtain ⟨x0, hx0⟩ : ∃ x0, x0 = bits BinOp.and IntKind.i64 (bits BinOp.xor IntKind.i64 (h1 / 8589934592) (h1 / 35184372088832)) 255 := ⟨_, rfl⟩
  have hx1 : 0 ≤ x0 ∧ x0 < 256 := by rw [hx0]; exact and255 _
  rw [← hx0]
  clear hx0
  rcases HD.out.1.code.2 with ⟨a, cap, rfl, rfl⟩ | ⟨b, off, cap, rfl, hlt, hx⟩
  · have z : ¬ (i : Int) < 0 := by omega
    go_upto_region 3 with fail
    go_quiet (fail)
    go_wp2_with fail
    go_ret
    exact ⟨x0, rfl, hx1.1, hx1.2, HD.out.1.below (below_drewN (Below.refl _ _) _), HD.out.2.trans (Chg.of_below (below_drewN (Below.refl _ _) _))⟩
  · by_cases hi : i < n
    · obtain ⟨x, hc, hxa, hxb⟩ := hx i hi
      have z : (i : Int) < (n : Int) := by omega
      go_upto_region 3 with fail
      go_quiet (fail)
      go_upto_region 4 with fail
      go_quiet (fail)
      obtain ⟨x2, hx2⟩ : ∃ x2, x2 = bits BinOp.and IntKind.i64 (x0 + x) 255 := ⟨_, rfl⟩
      have hx3 : 0 ≤ x2 ∧ x2 < 256 := by rw [hx2]; exact and255 _
      rw [← hx2]
      clear hx2
      go_wp2_with fail
      go_ret
      refine ⟨x2, rfl, hx3.1, hx3.2, ?_, ?_⟩
      · have hb := fun q => below_drewN (Below.refl W1.heap.size W1) q
        exact DrawAt.setI (by omega) (own_chg (S := fun _ => False) HO1.out (Chg.of_below (hb _)) (fun k _ q => q)) (HD.out.1.below (hb _)).code (HD.out.1.below (hb _)).base
      · exact (HD.out.2.trans (Chg.of_below (below_drewN (Below.refl _ _) _))).trans (Chg.of_set (S := fun k => k = cb) _ _ _ _ rfl)
    · have z : ¬ (i : Int) < (n : Int) := by omega
      go_upto_region 3 with fail
      go_quiet (fail)
      go_wp2_with fail
      go_ret
      exact ⟨x0, rfl, hx1.1, hx1.2, HD.out.1.below (below_drewN (Below.refl _ _) _), HD.out.2.trans (Chg.of_below (below_drewN (Below.refl _ _) _))⟩

/-- What a draw leaves. -/
abbrev Drew (base cb : Nat) (bv : Value) (n : Nat) (w w' : World) : Prop := DrawAt base cb bv n w' ∧ Chg (fun k => k = cb) w w'

set_option maxHeartbeats 1000000 in
theorem below_core (base cb : Nat) (bv : Value) (n : Nat) (m : Int) (w : World) (h : DrawAt base cb bv n w) (hm : 1 ≤ m) (hm2 : m ≤ 1048576) :
    Calls Tryd.prog 16 #[.pointer (some ⟨cb, 0, none⟩), .int .i64 m] w fun e w' => ∃ x : Int, e = .returned (.int .i64 x) ∧ 0 ≤ x ∧ x < m ∧ Drew base cb bv n w w' := by
  have HD : Hid (DrawAt base cb bv n w) := h
  clear h
  by_cases hs : m ≤ 256
  · go_enter Tryd.func16, Tryd.ntmps16
    go_wp2_with fail
    refine (byte_core base cb bv n _ HD.out).mono ?_
    rintro e w1 ⟨x, rfl, hx0, hx1, hD1, hC1⟩
    have H1 : Hid (DrawAt base cb bv n w1 ∧ Chg (fun k => k = cb) w w1) := ⟨hD1, hC1⟩
    clear hD1 hC1
    go_wp2
    go_ret
    exact ⟨x % m, rfl, Int.emod_nonneg _ (by omega), Int.emod_lt_of_pos _ (by omega), H1.out.1, H1.out.2⟩
  · go_enter Tryd.func16, Tryd.ntmps16
    go_wp2_with fail
    refine (byte_core base cb bv n _ HD.out).mono ?_
    rintro e w1 ⟨x, rfl, hx0, hx1, hD1, hC1⟩
    have H1 : Hid (DrawAt base cb bv n w1 ∧ Chg (fun k => k = cb) w w1) := ⟨hD1, hC1⟩
    clear hD1 hC1
    go_wp2_with fail
    refine (byte_core base cb bv n _ H1.out.1).mono ?_
    rintro e w2 ⟨y, rfl, hy0, hy1, hD2, hC2⟩
    have H2 : Hid (DrawAt base cb bv n w2 ∧ Chg (fun k => k = cb) w w2) := ⟨hD2, H1.out.2.trans hC2⟩
    clear hD2 hC2
    go_wp2_with fail
    refine (byte_core base cb bv n _ H2.out.1).mono ?_
    rintro e w3 ⟨z, rfl, hz0, hz1, hD3, hC3⟩
    have H3 : Hid (DrawAt base cb bv n w3 ∧ Chg (fun k => k = cb) w w3) := ⟨hD3, H2.out.2.trans hC3⟩
    clear hD3 hC3
    go_wp2
    go_ret
    exact ⟨(x * 65536 + y * 256 + z) % m, rfl, Int.emod_nonneg _ (by omega), Int.emod_lt_of_pos _ (by omega), H3.out.1, H3.out.2⟩

set_option maxHeartbeats 400000 in
theorem once_core (base cb : Nat) (bv : Value) (n : Nat) (m : Int) (w : World) (h : DrawAt base cb bv n w) (hm : 1 ≤ m) (hm2 : m ≤ 1048576) :
    Calls Tryd.prog 13 #[.pointer (some ⟨cb, 0, none⟩), .int .i64 m] w fun e w' => ∃ v : Value, e = .returned v ∧ (v = .bool true ∨ v = .bool false) ∧ Drew base cb bv n w w' := by
  have HD : Hid (DrawAt base cb bv n w) := h
  clear h
  go_enter Tryd.func13, Tryd.ntmps13
  go_wp2_with fail
  refine (below_core base cb bv n m _ HD.out hm hm2).mono ?_
  rintro e w1 ⟨x, rfl, hx0, hx1, hD1, hC1⟩
  have H1 : Hid (DrawAt base cb bv n w1 ∧ Chg (fun k => k = cb) w w1) := ⟨hD1, hC1⟩
  clear hD1 hC1
  cases hx : (x == 0)
  · go_wp2_with fail
    go_ret
    exact ⟨_, rfl, .inr rfl, H1.out.1, H1.out.2⟩
  · go_wp2_with fail
    go_ret
    exact ⟨_, rfl, .inl rfl, H1.out.1, H1.out.2⟩

theorem Chg.grown_new {T : Nat → Prop} {w wr w' : World} {row : Option Nat} (h : Chg T w wr) (hg : wr.grownBy w' row) (hr : ∀ k, row = some k → w.heap.size ≤ k) : Chg T w w' :=
  ⟨hg.os.trans h.os, hg.tape.trans h.tape, hg.output.trans h.output, Nat.le_trans h.size hg.size, fun k hk hn => (hg.block k (Nat.lt_of_lt_of_le hk h.size) (fun q => by have := hr k q.symm; omega)).trans (h.block k hk hn)⟩
theorem Chg.alloc_new {T : Nat → Prop} {w wr : World} (h : Chg T w wr) (o : Obj) : Chg T w (wr.alloc o) := h.trans (Chg.of_below ((Below.refl _ _).alloc (Nat.le_refl _) _))

/-- A row of bytes of the call's own. -/
abbrev u8v (z : UInt8) : Value := .int .u8 (z.toNat : Int)
def OwnB (w : World) (base g cap : Nat) (zs : List UInt8) : Prop := w.ownsRow base 5 1 (.slice (some ⟨g, 0, none⟩) zs.length cap) zs.length (zs.map u8v)
theorem Tryd.infoU8 : (Tryd.prog.info? 5).map (fun i => (i.zero, i.size, i.bytes)) = some (some (.int .u8 0), 1, 1) := by kernel_rfl
theorem wpList_append_byte {ops : Array Oper} {rest : List Oper} {o : Oper} {a : Act} {Q : Exit → Act → World → Prop} (w : World) (hgd : o.guard = none) (s x : Operand)
    (ho : o.op = .call { callee := .builtin .append, args := #[s, x], argTypes := #[22, 22] })
    (base g cp n blk : Nat) (zs : List UInt8) (z : UInt8) (hs : a.eval s = .slice (some ⟨g, 0, none⟩) n cp) (cx : Nat) (hx : a.eval x = .slice (some ⟨blk, 0, none⟩) 1 cx) (hn : n = zs.length) (hO : OwnB w base g cp zs)
    (hc : w.cell? ⟨blk, 0, none⟩ = some (.int .u8 (z.toNat : Int))) (hlen : zs.length ≤ 2 ^ 30) (hbase : base ≤ w.heap.size)
    (h : ∀ g' cp' w', OwnB w' base g' cp' (zs ++ [z]) → w.grownBy w' (some g) → wpList Tryd.prog ops Q rest (a.put o.dst (.slice (some ⟨g', 0, none⟩) (n + 1) cp')) w') : wpList Tryd.prog ops Q (o :: rest) a w := by
  obtain ⟨i, hi, hz0, hz1, hz2⟩ := info_parts Tryd.infoU8
  subst hn
  refine wpList_append_lies w hgd s x 22 ho base 5 i _ 1 1 Tryd.underlying22 hi hz0 hz1 hz2 rfl (by decide) (.slice (some ⟨g, 0, none⟩) zs.length cp) zs.length (zs.map u8v) hs hO ⟨blk, 0, none⟩ 1 cx [u8v z] hx rfl ?_ ?_ (by decide) ?_ ?_ hbase w.heap.size rfl ?_
  · intro j u hu
    have hj : j < 1 := by simpa using (List.getElem?_eq_some_iff.1 hu).1
    obtain rfl : j = 0 := by omega
    simp at hu
    rw [← hu]
    simpa [Addr.add] using hc
  · intro u hu
    simp at hu
    subst hu
    rfl
  · unfold maxLen; omega
  · omega
  · intro g' cp' w' hO' hgr hat hlt
    refine h g' cp' w' ?_ hgr
    unfold OwnB
    rw [List.length_append, List.map_append]
    exact hO'
theorem ownB_new (w : World) (base : Nat) (hb : base ≤ w.heap.size) : OwnB (w.alloc (Obj.cells #[] 5)) base w.heap.size 0 [] := World.ownsRow_made w #[] 0 hb (Nat.zero_le _) (by simp)
theorem conv_own {w : World} {base g cap : Nat} {zs : List UInt8} (h : OwnB w base g cap zs) : (convert 22 9 (.slice (some ⟨g, 0, none⟩) zs.length cap)).run Tryd.prog w = .ok (.string ⟨zs.toArray⟩) w := by
  refine run_convert_bytes_back (P := Tryd.prog) w 22 9 5 ⟨g, 0, none⟩ cap zs Tryd.underlying22 Tryd.underlying5 Tryd.underlying9 ?_
  intro i hi
  have := World.ownsRow.cellAt h i (by omega)
  rw [Addr.add_mid, Nat.zero_add, this, List.getElem?_map, List.getElem?_eq_getElem hi]
  rfl

set_option maxHeartbeats 2000000 in
theorem letters_core (base cb : Nat) (bv : Value) (n : Nat) (a b : Int) (w : World) (h : DrawAt base cb bv n w) (ha : 0 ≤ a) (hab : a ≤ b) (hb : b ≤ 100) :
    Calls Tryd.prog 15 #[.pointer (some ⟨cb, 0, none⟩), .int .i64 a, .int .i64 b] w fun e w' => ∃ s : ByteArray, e = .returned (.string s) ∧ s.size ≤ 100 ∧ Drew base cb bv n w w' := by
  have HD : Hid (DrawAt base cb bv n w) := h
  have hbase := h.base
  have hcb := h.lt
  clear h
  go_enter Tryd.func15, Tryd.ntmps15
  go_wp2_with fail
  refine (below_core base cb bv n (b - a + 1) _ HD.out (by omega) (by omega)).mono ?_
  rintro e w1 ⟨x, rfl, hx0, hx1, hD1, hC1⟩
  have s1 := hC1.size
  have H1 : Hid (DrawAt base cb bv n w1 ∧ Chg (fun k => k = cb) w w1) := ⟨hD1, hC1⟩
  clear hD1 hC1
  obtain ⟨W2, hW2⟩ : ∃ W2 : World, W2 = w1.alloc (Obj.cells #[] 5) := ⟨_, rfl⟩
  have hb2 : Below w1.heap.size w1 W2 := by rw [hW2]; exact (Below.refl _ _).alloc (Nat.le_refl _) _
  have HB2 : Hid (OwnB W2 w.heap.size w1.heap.size 0 [] ∧ DrawAt base cb bv n W2 ∧ Chg (fun k => k = cb) w W2) := by
    refine ⟨?_, H1.out.1.below hb2, H1.out.2.trans (Chg.of_below hb2)⟩
    rw [hW2]; exact ownB_new w1 w.heap.size s1
  obtain ⟨m, hm⟩ : ∃ m : Nat, a + x = (m : Int) := ⟨(a + x).toNat, by omega⟩
  have hm2 : m ≤ 100 := by omega
  go_wp2_with fail
  rw [← hW2]
  clear hW2 hm hb2
  go_loopw [8, 9] (fun o i wr => ∃ (k g cp : Nat) (zs : List UInt8), k ≤ m ∧ i = .int .i64 k ∧ o = .slice (some ⟨g, 0, none⟩) k cp ∧ zs.length = k ∧ OwnB wr w.heap.size g cp zs ∧ DrawAt base cb bv n wr ∧ Chg (fun k => k = cb) w wr) (fun _ i _ => m - (intOf i).toNat)
  case atStart => exact ⟨0, _, 0, [], Nat.zero_le _, rfl, rfl, rfl, HB2.out.1, HB2.out.2.1, HB2.out.2.2⟩
  case round =>
    obtain ⟨k, g, cp, zs, hk, rfl, rfl, hzl, hO, hD, hC⟩ := hrel
    have HI : Hid (zs.length = k ∧ OwnB wr w.heap.size g cp zs ∧ DrawAt base cb bv n wr ∧ Chg (fun k => k = cb) w wr) := ⟨hzl, hO, hD, hC⟩
    have hgl := World.ownsRow.lt hO g rfl
    clear hzl hO hD hC
    by_cases hlt : k < m
    · have zk : (k : Int) < (m : Int) := by omega
      go_wp2_with fail
      refine (below_core base cb bv n 3 _ HI.out.2.2.1 (by omega) (by omega)).mono ?_
      rintro e w3 ⟨y, rfl, hy0, hy1, hD3, hC3⟩
      have s3 := hC3.size
      have HO3 : Hid (OwnB w3 w.heap.size g cp zs ∧ DrawAt base cb bv n w3 ∧ Chg (fun k => k = cb) w w3) := ⟨own_chg HI.out.2.1 hC3 (fun k q => by simp [Value.ownBlock] at q; subst q; omega), hD3, HI.out.2.2.2.trans hC3⟩
      clear hD3 hC3
      obtain ⟨z, hz⟩ : ∃ z : UInt8, (97 : Int) + y = (z.toNat : Int) := ⟨UInt8.ofNat (97 + y.toNat), by rw [UInt8.toNat_ofNat']; omega⟩
      have HZ : Hid ((97 : Int) + y = (z.toNat : Int)) := hz
      have HKl : Hid (k = zs.length) := HI.out.1.symm
      have s4 := HO3.out.2.2.size
      clear hz
      go_wp2_with (at_builtin; refine wpList_append_byte _ rfl _ _ rfl w.heap.size g cp _ _ zs z rfl _ rfl HKl.out ?hO ?hc ?hl ?hb ?_)
      case hO => exact own_chg (S := fun _ => False) HO3.out.1 (Chg.of_below ((Below.refl _ _).alloc (Nat.le_refl _) _)) (fun k _ q => q)
      case hc => rw [← HZ.out]; simp
      case hl => rw [← HKl.out]; omega
      case hb => simp; omega
      intro g' cp' w' hO' hgr
      have HN : Hid ((zs ++ [z]).length = k + 1 ∧ OwnB w' w.heap.size g' cp' (zs ++ [z]) ∧ DrawAt base cb bv n w' ∧ Chg (fun k => k = cb) w w') := by
        refine ⟨by simp [HI.out.1], hO', ?_, ?_⟩
        · have hd := HO3.out.2.1.below ((Below.refl w3.heap.size w3).alloc (Nat.le_refl _) (Obj.cells #[.int .u8 (97 + y)] 5))
          exact hd.chg (Chg.of_grown (S := fun k => k = g) hgr (fun k hk => by cases hk; rfl)) (by omega) (fun k q => by omega)
        · exact Chg.grown_new (HO3.out.2.2.alloc_new _) hgr (fun k hk => by cases hk; omega)
      clear hO' hgr
      go_wp2_with fail
      go_roundw
      case rel => exact ⟨k + 1, g', cp', zs ++ [z], by omega, by go_num, rfl, HN.out.1, HN.out.2.1, HN.out.2.2.1, HN.out.2.2.2⟩
      case measure => go_light; simp [intOf]; omega
    · have zk : ¬ (k : Int) < (m : Int) := by omega
      have hcv := conv_own HI.out.2.1
      rw [HI.out.1] at hcv
      have HS : Hid ((⟨zs.toArray⟩ : ByteArray).size ≤ 100) := by
        show (⟨zs.toArray⟩ : ByteArray).size ≤ 100
        have := HI.out.1
        simp [ByteArray.size]; omega
      go_wp2_with fail
      go_ret
      exact ⟨_, rfl, HS.out, HI.out.2.2.1, HI.out.2.2.2⟩
end Go.Proofs.YtgiigiegjaagbaaDoor

/-
  The draws: rows, families, qualifiers, timestamps.
-/
namespace Go.Proofs.YtgiigiegjaagbaaDoor
open Go.ChangeShapes Go.WideShapes Go.ChangeAt Go.RowKit Go.Deep
set_option linter.unusedVariables false
set_option linter.unusedSimpArgs false
set_option maxRecDepth 100000

theorem conv_str (c : UInt8) (w : World) : ∃ cx w', (convert 9 22 (.string ⟨#[c]⟩)).run Tryd.prog w = .ok (.slice (some ⟨w.heap.size, 0, none⟩) 1 cx) w' ∧ Below w.heap.size w w' ∧ w'.cell? ⟨w.heap.size, 0, none⟩ = some (.int .u8 (c.toNat : Int)) := by
  refine ⟨_, _, run_bytes_of_string (P := Tryd.prog) w 9 22 5 ⟨#[c]⟩ Tryd.underlying9 Tryd.underlying22 Tryd.underlying5, ((Below.refl _ _).drew).alloc (Nat.le_refl _) _, ?_⟩
  have hb : ∀ O : Obj, (w.drew.alloc O).heap[w.heap.size]? = some O := fun O => by
    show (w.heap.push O)[w.heap.size]? = _
    simp
  unfold World.cell?
  rw [hb]
  simp [bytesRow]
  rw [Array.getElem?_append_left (by simp)]
  rfl

set_option maxHeartbeats 2000000 in
theorem many_core (c : UInt8) (m : Nat) (w : World) (hm : m ≤ 1000) :
    Calls Tryd.prog 17 #[.string ⟨#[c]⟩, .int .i64 m] w fun e w' => ∃ s : ByteArray, e = .returned (.string s) ∧ s.size ≤ 1000 ∧ Below w.heap.size w w' := by
  obtain ⟨W2, hW2⟩ : ∃ W2 : World, W2 = w.alloc (Obj.cells #[] 5) := ⟨_, rfl⟩
  have hb2 : Below w.heap.size w W2 := by rw [hW2]; exact (Below.refl _ _).alloc (Nat.le_refl _) _
  have HB2 : Hid (OwnB W2 w.heap.size w.heap.size 0 []) := by show OwnB W2 _ _ _ _; rw [hW2]; exact ownB_new w w.heap.size (Nat.le_refl _)
  go_enter Tryd.func17, Tryd.ntmps17
  go_wp2_with fail
  rw [← hW2]
  clear hW2
  go_loopw [5, 6] (fun o i wr => ∃ (k g cp : Nat) (zs : List UInt8), k ≤ m ∧ i = .int .i64 k ∧ o = .slice (some ⟨g, 0, none⟩) k cp ∧ zs.length = k ∧ OwnB wr w.heap.size g cp zs ∧ Below w.heap.size w wr) (fun _ i _ => m - (intOf i).toNat)
  case atStart => exact ⟨0, _, 0, [], Nat.zero_le _, rfl, rfl, rfl, HB2.out, hb2⟩
  case round =>
    obtain ⟨k, g, cp, zs, hk, rfl, rfl, hzl, hO, hb⟩ := hrel
    have HI : Hid (zs.length = k ∧ OwnB wr w.heap.size g cp zs) := ⟨hzl, hO⟩
    have hgl := World.ownsRow.lt hO g rfl
    have hs := hb.size
    clear hzl hO
    by_cases hlt : k < m
    · have zk : (k : Int) < (m : Int) := by omega
      have HKl : Hid (k = zs.length) := HI.out.1.symm
      obtain ⟨cx, W3, hrun, hb3, hc3⟩ := conv_str c wr
      have hs3 := hb3.size
      go_wp2_with (at_builtin; refine wpList_append_byte _ rfl _ _ rfl w.heap.size g cp _ wr.heap.size zs c rfl cx rfl HKl.out ?hO ?hc ?hl ?hb ?_)
      case hO => exact own_chg (S := fun _ => False) HI.out.2 (Chg.of_below hb3) (fun k _ q => q)
      case hc => exact hc3
      case hl => rw [← HKl.out]; omega
      case hb => omega
      intro g' cp' w' hO' hgr
      have HN : Hid ((zs ++ [c]).length = k + 1 ∧ OwnB w' w.heap.size g' cp' (zs ++ [c])) := ⟨by simp [HI.out.1], hO'⟩
      have hb' : Below w.heap.size w w' := (hb.trans (hb3.mono hs)).grown hgr (by omega) (fun j hj => by cases hj; omega)
      clear hO' hgr hrun
      go_wp2_with fail
      go_roundw
      case rel => exact ⟨k + 1, g', cp', zs ++ [c], by omega, by go_num, rfl, HN.out.1, HN.out.2, hb'⟩
      case measure => go_light; simp [intOf]; omega
    · have zk : ¬ (k : Int) < (m : Int) := by omega
      have hcv := conv_own HI.out.2
      rw [HI.out.1] at hcv
      have HS : Hid ((⟨zs.toArray⟩ : ByteArray).size ≤ 1000) := by
        show (⟨zs.toArray⟩ : ByteArray).size ≤ 1000
        have := HI.out.1
        simp [ByteArray.size]; omega
      go_wp2_with fail
      go_ret
      exact ⟨_, rfl, HS.out, hb⟩

set_option maxHeartbeats 1000000 in
theorem pick_core (base cb : Nat) (bv : Value) (n blk nw : Nat) (w : World) (h : DrawAt base cb bv n w) (h1 : 1 ≤ nw) (h2 : nw ≤ 100) (hne : ¬ blk = cb) (hlt : blk < w.heap.size) (hw : ∀ k, k < nw → ∃ s : ByteArray, w.cell? ⟨blk, k, none⟩ = some (.string s) ∧ s.size ≤ 1000) :
    Calls Tryd.prog 18 #[.pointer (some ⟨cb, 0, none⟩), .slice (some ⟨blk, 0, none⟩) nw nw] w fun e w' => ∃ s : ByteArray, e = .returned (.string s) ∧ s.size ≤ 1000 ∧ Drew base cb bv n w w' := by
  have HD : Hid (DrawAt base cb bv n w ∧ ∀ k, k < nw → ∃ s : ByteArray, w.cell? ⟨blk, k, none⟩ = some (.string s) ∧ s.size ≤ 1000) := ⟨h, hw⟩
  clear h hw
  go_enter Tryd.func18, Tryd.ntmps18
  go_wp2_with fail
  refine (below_core base cb bv n (nw : Int) _ HD.out.1 (by omega) (by omega)).mono ?_
  rintro e w1 ⟨x, rfl, hx0, hx1, hD1, hC1⟩
  obtain ⟨k, rfl⟩ := Int.eq_ofNat_of_zero_le hx0
  obtain ⟨s, hs, hsz⟩ := HD.out.2 k (by omega)
  have c1 : w1.cell? ⟨blk, k, none⟩ = some (.string s) := by rw [hC1.cell (p := ⟨blk, k, none⟩) hlt hne]; exact hs
  have H1 : Hid (DrawAt base cb bv n w1 ∧ Chg (fun k => k = cb) w w1) := ⟨hD1, hC1⟩
  clear hD1 hC1 hs
  go_wp2_with fail
  go_ret
  exact ⟨s, rfl, hsz, H1.out.1, H1.out.2⟩

end Go.Proofs.YtgiigiegjaagbaaDoor

/-
  The draws: their beginning.
-/
namespace Go.Proofs.YtgiigiegjaagbaaDoor
open Go.ChangeShapes Go.WideShapes Go.ChangeAt Go.RowKit Go.Deep
set_option linter.unusedVariables false
set_option linter.unusedSimpArgs false
set_option maxRecDepth 100000

set_option maxHeartbeats 1000000 in
theorem new_core (bv : Value) (n : Nat) (w : World) (h : CodeAt w w.heap.size bv n) :
    Calls Tryd.prog 11 #[bv] w fun e w' => e = .returned (.pointer (some ⟨w.heap.size, 0, none⟩)) ∧ DrawAt w.heap.size w.heap.size bv n w' ∧ Below w.heap.size w w' := by
  have HC : Hid (CodeAt w w.heap.size bv n) := h
  have hn := h.1
  have fin : ∀ x : Int, DrawAt w.heap.size w.heap.size bv n (w.alloc (Obj.cells #[bv, .int .i64 0, .int .i64 x] 63)) ∧ Below w.heap.size w (w.alloc (Obj.cells #[bv, .int .i64 0, .int .i64 x] 63)) := fun x => by
    have hb : Below w.heap.size w (w.alloc (Obj.cells #[bv, .int .i64 0, .int .i64 x] 63)) := (Below.refl _ _).alloc (Nat.le_refl _) _
    refine ⟨⟨⟨0, x, Nat.zero_le _, ?_⟩, HC.out.chg (T := fun _ => False) (Chg.of_below hb) (Nat.le_refl _) (fun k q => q.elim), hb.size⟩, hb⟩
    exact World.ownsRow_lit (base := w.heap.size) (e := 63) (size := 3) w #[bv, .int .i64 0, .int .i64 x] 1 (Nat.le_refl _) (by decide) rfl
  have HF : Hid (∀ x : Int, DrawAt w.heap.size w.heap.size bv n (w.alloc (Obj.cells #[bv, .int .i64 0, .int .i64 x] 63)) ∧ Below w.heap.size w (w.alloc (Obj.cells #[bv, .int .i64 0, .int .i64 x] 63))) := fin
  clear fin
  rcases h.2 with ⟨a, cap, rfl, rfl⟩ | ⟨b, off, cap, rfl, hlt, hx⟩
  · go_enter Tryd.func11, Tryd.ntmps11
    go_wp2_with fail
    go_loopw [3, 4] (fun h i wr => (∃ x : Int, h = .int .i64 x) ∧ i = .int .i64 0 ∧ wr = w) (fun _ _ _ => 0)
    case atStart => exact ⟨⟨_, rfl⟩, rfl, rfl⟩
    case round =>
      obtain ⟨⟨x, rfl⟩, rfl, rfl⟩ := hrel
      go_wp2_with fail
      go_ret
      exact ⟨rfl, (HF.out x).1, (HF.out x).2⟩
  · have HX : Hid (∀ k, k < n → ∃ x : Int, w.cell? ⟨b, off + k, none⟩ = some (.int .u8 x) ∧ 0 ≤ x ∧ x < 256) := hx
    clear hx h
    go_enter Tryd.func11, Tryd.ntmps11
    go_wp2_with fail
    go_loopw [3, 4] (fun h i wr => ∃ (k : Nat) (x : Int), k ≤ n ∧ h = .int .i64 x ∧ i = .int .i64 k ∧ wr = w) (fun _ i _ => n - (intOf i).toNat)
    case atStart => exact ⟨0, _, Nat.zero_le _, rfl, rfl, rfl⟩
    case round =>
      obtain ⟨k, x, hk, rfl, rfl, rfl⟩ := hrel
      by_cases hkn : k < n
      · obtain ⟨y, hc, hy0, hy1⟩ := HX.out k hkn
        have zk : (k : Int) < (n : Int) := by omega
        go_wp2_with fail
        go_roundw
        case rel => exact ⟨k + 1, _, by omega, rfl, by go_num, trivial⟩
        case measure => go_light; simp [intOf]; omega
      · have zk : ¬ (k : Int) < (n : Int) := by omega
        go_wp2_with fail
        go_ret
        exact ⟨rfl, (HF.out x).1, (HF.out x).2⟩
end Go.Proofs.YtgiigiegjaagbaaDoor

/-
  The draws: pieces of patterns and texts of patterns.
-/
namespace Go.Proofs.YtgiigiegjaagbaaDoor
open Go.ChangeShapes Go.WideShapes Go.ChangeAt Go.RowKit Go.Deep
set_option linter.unusedVariables false
set_option linter.unusedSimpArgs false
set_option maxRecDepth 100000

/-- What a drawing of a text hands back. -/
def TxtP (base cb : Nat) (bv : Value) (n m : Nat) (w : World) (e : Ending) (w' : World) : Prop := ∃ s : ByteArray, e = .returned (.string s) ∧ s.size ≤ m ∧ Drew base cb bv n w w'
def TextC (base cb : Nat) (bv : Value) (n d m : Nat) : Prop := ∀ w, DrawAt base cb bv n w → Calls Tryd.prog 29 #[.pointer (some ⟨cb, 0, none⟩), .int .i64 d] w (TxtP base cb bv n m w)
def PieceC (base cb : Nat) (bv : Value) (n d m : Nat) : Prop := ∀ w, DrawAt base cb bv n w → Calls Tryd.prog 44 #[.pointer (some ⟨cb, 0, none⟩), .int .i64 d] w (TxtP base cb bv n m w)
theorem size_app (a b : ByteArray) : (a ++ b).size = a.size + b.size := ByteArray.size_append

set_option maxHeartbeats 2000000 in
theorem piece_of (base cb : Nat) (bv : Value) (n d m : Nat) (hm : m ≤ 100000) (hd : d ≤ 5) (HT0 : 0 < d → TextC base cb bv n (d - 1) m) : PieceC base cb bv n d (m + 1002) := by
  intro w h
  have HT : Hid (0 < d → TextC base cb bv n (d - 1) m) := HT0
  have HD : Hid (DrawAt base cb bv n w) := h
  have hcl0 := h.lt.2
  clear h HT0
  go_enter Tryd.func44, Tryd.ntmps44
  go_wp2_with fail
  refine (below_core base cb bv n 14 _ HD.out (by omega) (by omega)).mono ?_
  rintro e w1 ⟨x, rfl, hx0, hx1, hD1, hC1⟩
  have H1 : Hid (DrawAt base cb bv n w1 ∧ Chg (fun k => k = cb) w w1) := ⟨hD1, hC1⟩
  have hcl := hD1.lt.2
  clear hD1 hC1
  by_cases hk : x < 6 ∨ d = 0
  · have hq : Hid (x < 6 ∨ d = 0) := hk
    by_cases h6 : x < 6
    · go_wp2_with fail
      refine (letters_core base cb bv n 1 1 _ H1.out.1 (by omega) (by omega) (by omega)).mono ?_
      rintro e w3 ⟨s, rfl, hs, hD3, hC3⟩
      have H3 : Hid (DrawAt base cb bv n w3 ∧ Chg (fun k => k = cb) w w3) := ⟨hD3, H1.out.2.trans hC3⟩
      clear hD3 hC3
      go_wp2_with fail
      go_ret
      exact ⟨s, rfl, by omega, H3.out.1, H3.out.2⟩
    · obtain rfl : d = 0 := by omega
      go_wp2_with fail
      refine (letters_core base cb bv n 1 1 _ H1.out.1 (by omega) (by omega) (by omega)).mono ?_
      rintro e w3 ⟨s, rfl, hs, hD3, hC3⟩
      have H3 : Hid (DrawAt base cb bv n w3 ∧ Chg (fun k => k = cb) w w3) := ⟨hD3, H1.out.2.trans hC3⟩
      clear hD3 hC3
      go_wp2_with fail
      go_ret
      exact ⟨s, rfl, by omega, H3.out.1, H3.out.2⟩
  have h6 : ¬ x < 6 := fun q => hk (.inl q)
  have hd0 : 0 < d := Nat.pos_of_ne_zero fun q => hk (.inr q)
  have hdz : ((d : Int) == 0) = false := by rw [beq_eq_false_iff_ne]; omega
  clear hk
  by_cases h7 : x = 6
  · subst h7
    go_wp2_with fail
    go_ret
    exact ⟨_, rfl, by show 1 ≤ _; omega, H1.out.1, H1.out.2⟩
  have b6 : (x == 6) = false := by rw [beq_eq_false_iff_ne]; exact h7
  by_cases h8 : x = 7
  · subst h8
    go_wp2_with fail
    refine (pick_core base cb bv n _ 6 _ ((H1.out.1).below ((Below.refl _ _).alloc (Nat.le_refl _) _)) (by omega) (by omega) (by omega) (by simp) ?_).mono ?_
    · intro k hk
      match k, hk with
      | 0, _ => exact ⟨_, by simp; rfl, by decide⟩
      | 1, _ => exact ⟨_, by simp; rfl, by decide⟩
      | 2, _ => exact ⟨_, by simp; rfl, by decide⟩
      | 3, _ => exact ⟨_, by simp; rfl, by decide⟩
      | 4, _ => exact ⟨_, by simp; rfl, by decide⟩
      | 5, _ => exact ⟨_, by simp; rfl, by decide⟩
    · rintro e w3 ⟨s, rfl, hs, hD3, hC3⟩
      have H3 : Hid (DrawAt base cb bv n w3 ∧ Chg (fun k => k = cb) w w3) := ⟨hD3, (H1.out.2.alloc_new _).trans hC3⟩
      clear hD3 hC3
      go_wp2_with fail
      go_ret
      exact ⟨s, rfl, by omega, H3.out.1, H3.out.2⟩
  have b7 : (x == 7) = false := by rw [beq_eq_false_iff_ne]; exact h8
  by_cases h9 : x = 8
  · subst h9
    go_wp2_with fail
    refine (pick_core base cb bv n _ 4 _ ((H1.out.1).below ((Below.refl _ _).alloc (Nat.le_refl _) _)) (by omega) (by omega) (by omega) (by simp) ?_).mono ?_
    · intro k hk
      match k, hk with
      | 0, _ => exact ⟨_, by simp; rfl, by decide⟩
      | 1, _ => exact ⟨_, by simp; rfl, by decide⟩
      | 2, _ => exact ⟨_, by simp; rfl, by decide⟩
      | 3, _ => exact ⟨_, by simp; rfl, by decide⟩
    · rintro e w3 ⟨s, rfl, hs, hD3, hC3⟩
      have H3 : Hid (DrawAt base cb bv n w3 ∧ Chg (fun k => k = cb) w w3) := ⟨hD3, (H1.out.2.alloc_new _).trans hC3⟩
      clear hD3 hC3
      go_wp2_with fail
      go_ret
      exact ⟨s, rfl, by omega, H3.out.1, H3.out.2⟩
  have b8 : (x == 8) = false := by rw [beq_eq_false_iff_ne]; exact h9
  have ed : Hid (((d : Int) - 1) = ((d - 1 : Nat) : Int)) := by show (d : Int) - 1 = _; omega
  go_wp2_with fail
  rw [ed.out]
  refine (HT.out hd0 w1 H1.out.1).mono ?_
  rintro e w3 ⟨s, rfl, hs, hD3, hC3⟩
  have H3 : Hid (DrawAt base cb bv n w3 ∧ Chg (fun k => k = cb) w w3) := ⟨hD3, H1.out.2.trans hC3⟩
  clear hD3 hC3
  go_wp2_with fail
  go_ret
  exact ⟨_, rfl, by simp only [size_app]; show 1 + s.size + 1 ≤ _; omega, H3.out.1, H3.out.2⟩
end Go.Proofs.YtgiigiegjaagbaaDoor

/-
  The draws: a text of a pattern.
-/
namespace Go.Proofs.YtgiigiegjaagbaaDoor
open Go.ChangeShapes Go.WideShapes Go.ChangeAt Go.RowKit Go.Deep
set_option linter.unusedVariables false
set_option linter.unusedSimpArgs false
set_option maxRecDepth 100000

set_option maxHeartbeats 4000000 in
theorem ptext_of (base cb : Nat) (bv : Value) (n d m : Nat) (hm : m ≤ 100000) (hd : d ≤ 5) (HP0 : PieceC base cb bv n d m) : TextC base cb bv n d (3 * m + 10) := by
  intro w h
  have HP : Hid (PieceC base cb bv n d m) := HP0
  have HD : Hid (DrawAt base cb bv n w) := h
  clear h HP0
  go_enter Tryd.func29, Tryd.ntmps29
  go_wp2_with fail
  refine (below_core base cb bv n 4 _ HD.out (by omega) (by omega)).mono ?_
  rintro e w1 ⟨y, rfl, hy0, hy1, hD1, hC1⟩
  have H1 : Hid (DrawAt base cb bv n w1 ∧ Chg (fun k => k = cb) w w1) := ⟨hD1, hC1⟩
  clear hD1 hC1
  obtain ⟨q, rfl⟩ := Int.eq_ofNat_of_zero_le hy0
  go_wp2_with fail
  go_loopw [5, 7] (fun o i wr => ∃ (k : Nat) (s : ByteArray), k ≤ q ∧ i = .int .i64 k ∧ o = .string s ∧ Hid (s.size ≤ k * (m + 2)) ∧ Hid (DrawAt base cb bv n wr ∧ Chg (fun k => k = cb) w wr)) (fun _ i _ => q - (intOf i).toNat)
  case atStart => exact ⟨0, _, Nat.zero_le _, rfl, rfl, Nat.le_of_eq (by simp [ByteArray.size]), H1.out⟩
  case round =>
    obtain ⟨k, s, hk, rfl, rfl, HS, HI⟩ := hrel
    have hsz : s.size ≤ 400000 := by
      have a1 := HS.out
      have a2 : k * (m + 2) ≤ 3 * (m + 2) := Nat.mul_le_mul_right _ (by omega)
      omega
    by_cases hlt : k < q
    · have zk : (k : Int) < (q : Int) := by omega
      go_wp2_with fail
      refine (HP.out _ HI.out.1).mono ?_
      rintro e w2 ⟨t, rfl, ht, hD2, hC2⟩
      have H2 : Hid (DrawAt base cb bv n w2 ∧ Chg (fun k => k = cb) w w2) := ⟨hD2, HI.out.2.trans hC2⟩
      have HTZ : Hid (t.size ≤ m) := ht
      have htz : t.size ≤ 100000 := by omega
      have hst : (s ++ t).size ≤ 500000 := by rw [size_app]; omega
      clear hD2 hC2 ht
      go_wp2_with fail
      refine (below_core base cb bv n 9 _ H2.out.1 (by omega) (by omega)).mono ?_
      rintro e w3 ⟨x, rfl, hx0, hx1, hD3, hC3⟩
      have H3 : Hid (DrawAt base cb bv n w3 ∧ Chg (fun k => k = cb) w w3) := ⟨hD3, H2.out.2.trans hC3⟩
      clear hD3 hC3
      have e1 : Hid ((s ++ t).size ≤ (k + 1) * (m + 2)) := by
        show _ ≤ _
        have a1 := HS.out
        have a2 := HTZ.out
        rw [size_app, Nat.add_mul]; omega
      have e2 : Hid (∀ c : UInt8, (s ++ t ++ (⟨#[c]⟩ : ByteArray)).size ≤ (k + 1) * (m + 2)) := by
        intro c
        have a1 := HS.out
        have a2 := HTZ.out
        rw [size_app, size_app, Nat.add_mul]
        show s.size + t.size + 1 ≤ _
        omega
      by_cases h0 : x = 0
      · subst h0
        go_wp2_with fail
        go_roundw
        case rel => exact ⟨k + 1, _, by omega, by go_num, rfl, e2.out 42, H3.out⟩
        case measure => go_light; simp [intOf]; omega
      have b0 : (x == 0) = false := by rw [beq_eq_false_iff_ne]; exact h0
      by_cases h1 : x = 1
      · subst h1
        go_wp2_with fail
        go_roundw
        case rel => exact ⟨k + 1, _, by omega, by go_num, rfl, e2.out 43, H3.out⟩
        case measure => go_light; simp [intOf]; omega
      have b1 : (x == 1) = false := by rw [beq_eq_false_iff_ne]; exact h1
      by_cases h2 : x = 2
      · subst h2
        go_wp2_with fail
        go_roundw
        case rel => exact ⟨k + 1, _, by omega, by go_num, rfl, e2.out 63, H3.out⟩
        case measure => go_light; simp [intOf]; omega
      have b2 : (x == 2) = false := by rw [beq_eq_false_iff_ne]; exact h2
      by_cases h3 : x = 3
      · subst h3
        by_cases hn : k + 1 < q
        · have hn2 : ((k : Int) + 1 < (q : Int)) := by omega
          go_wp2_with fail
          go_roundw
          case rel => exact ⟨k + 1, _, by omega, by go_num, rfl, e2.out 124, H3.out⟩
          case measure => go_light; simp [intOf]; omega
        · have hn2 : ¬ ((k : Int) + 1 < (q : Int)) := by omega
          go_wp2_with fail
          go_roundw
          case rel => exact ⟨k + 1, _, by omega, by go_num, rfl, e1.out, H3.out⟩
          case measure => go_light; simp [intOf]; omega
      have b3 : (x == 3) = false := by rw [beq_eq_false_iff_ne]; exact h3
      go_wp2_with fail
      go_roundw
      case rel => exact ⟨k + 1, _, by omega, by go_num, rfl, e1.out, H3.out⟩
      case measure => go_light; simp [intOf]; omega
    · have zk : ¬ (k : Int) < (q : Int) := by omega
      have HS2 : Hid (s.size ≤ 3 * m + 6) := by
        show _ ≤ _
        have a1 := HS.out
        have a2 : k * (m + 2) ≤ 3 * (m + 2) := Nat.mul_le_mul_right _ (by omega)
        omega
      go_wp2_with fail
      refine (once_core base cb bv n 14 _ HI.out.1 (by omega) (by omega)).mono ?_
      rintro e w2 ⟨v, rfl, hv, hD2, hC2⟩
      have H2 : Hid (DrawAt base cb bv n w2 ∧ Chg (fun k => k = cb) w w2) := ⟨hD2, HI.out.2.trans hC2⟩
      clear hD2 hC2
      rcases hv with rfl | rfl
      · go_wp2_with fail
        go_ret
        exact ⟨_, rfl, by rw [size_app]; have := HS2.out; show s.size + 1 ≤ _; omega, H2.out⟩
      · go_wp2_with fail
        go_ret
        exact ⟨_, rfl, by have := HS2.out; omega, H2.out⟩
theorem ptext_zero (base cb : Nat) (bv : Value) (n : Nat) : TextC base cb bv n 0 3016 := ptext_of base cb bv n 0 1002 (by omega) (by omega) (piece_of base cb bv n 0 0 (by omega) (by omega) (fun q => absurd q (by omega)))
theorem ptext_one (base cb : Nat) (bv : Value) (n : Nat) : TextC base cb bv n 1 12064 := ptext_of base cb bv n 1 4018 (by omega) (by omega) (piece_of base cb bv n 1 3016 (by omega) (by omega) (fun _ => ptext_zero base cb bv n))
theorem ptext_two (base cb : Nat) (bv : Value) (n : Nat) : TextC base cb bv n 2 39208 := ptext_of base cb bv n 2 13066 (by omega) (by omega) (piece_of base cb bv n 2 12064 (by omega) (by omega) (fun _ => ptext_one base cb bv n))
end Go.Proofs.YtgiigiegjaagbaaDoor

/-
  The draws: patterns, good and faulty; a pattern and a string.
-/
namespace Go.Proofs.YtgiigiegjaagbaaDoor
open Go.ChangeShapes Go.WideShapes Go.ChangeAt Go.RowKit Go.Deep
set_option linter.unusedVariables false
set_option linter.unusedSimpArgs false
set_option maxRecDepth 100000
theorem reg_fieldR (c k : Int) (w : World) : (Instr.field 30 (.agg #[.int .i64 c, .int .i64 k]) 0).run Tryd.prog w = .ok (.int .i64 c) w := by kernel_rfl
set_option maxHeartbeats 4000000 in
theorem pattern_core (base cb : Nat) (bv : Value) (n : Nat) (w : World) (h : DrawAt base cb bv n w) : Calls Tryd.prog 12 #[.pointer (some ⟨cb, 0, none⟩)] w (TxtP base cb bv n 100000 w) := by
  have HD : Hid (DrawAt base cb bv n w) := h
  clear h
  go_enter Tryd.func12, Tryd.ntmps12
  go_wp2_with fail
  refine (below_core base cb bv n 12 _ HD.out (by omega) (by omega)).mono ?_
  rintro e w1 ⟨x, rfl, hx0, hx1, hD1, hC1⟩
  have H1 : Hid (DrawAt base cb bv n w1 ∧ Chg (fun k => k = cb) w w1) := ⟨hD1, hC1⟩
  clear hD1 hC1
  by_cases h0 : x = 0
  · subst h0
    go_wp2_with fail
    go_ret
    exact ⟨_, rfl, by decide, H1.out⟩
  have b0 : (x == 0) = false := by rw [beq_eq_false_iff_ne]; exact h0
  by_cases h4 : x < 4
  · go_wp2_with fail
    refine (letters_core base cb bv n 0 2 _ H1.out.1 (by omega) (by omega) (by omega)).mono ?_
    rintro e w2 ⟨s, rfl, hs, hD2, hC2⟩
    have H2 : Hid (DrawAt base cb bv n w2 ∧ Chg (fun k => k = cb) w w2) := ⟨hD2, H1.out.2.trans hC2⟩
    have hcl := hD2.lt.2
    clear hD2 hC2
    go_wp2_with fail
    refine (pick_core base cb bv n _ 7 _ ((H2.out.1).below ((Below.refl _ _).alloc (Nat.le_refl _) _)) (by omega) (by omega) (by omega) (by simp) ?_).mono ?_
    · intro k hk
      match k, hk with
      | 0, _ => exact ⟨_, by simp; rfl, by decide⟩
      | 1, _ => exact ⟨_, by simp; rfl, by decide⟩
      | 2, _ => exact ⟨_, by simp; rfl, by decide⟩
      | 3, _ => exact ⟨_, by simp; rfl, by decide⟩
      | 4, _ => exact ⟨_, by simp; rfl, by decide⟩
      | 5, _ => exact ⟨_, by simp; rfl, by decide⟩
      | 6, _ => exact ⟨_, by simp; rfl, by decide⟩
    · rintro e w3 ⟨t, rfl, ht, hD3, hC3⟩
      have H3 : Hid (DrawAt base cb bv n w3 ∧ Chg (fun k => k = cb) w w3) := ⟨hD3, (H2.out.2.alloc_new _).trans hC3⟩
      clear hD3 hC3
      go_wp2_with fail
      go_ret
      exact ⟨_, rfl, by rw [size_app]; omega, H3.out⟩
  · go_wp2_with fail
    refine (ptext_two base cb bv n _ H1.out.1).mono ?_
    rintro e w2 ⟨s, rfl, hs, hD2, hC2⟩
    have H2 : Hid (DrawAt base cb bv n w2 ∧ Chg (fun k => k = cb) w w2) := ⟨hD2, H1.out.2.trans hC2⟩
    clear hD2 hC2
    have hsm : s.size ≤ maxLen := by unfold maxLen; omega
    have HC : Hid (Calls Tryd.prog 10 #[.string s] w2 (ChkP s w2)) := specCheck_core s w2 hsm
    clear hsm
    go_wp2_with fail
    refine HC.out.mono ?_
    rintro e w3 ⟨rfl, hb3⟩
    have H3 : Hid (DrawAt base cb bv n w3 ∧ Chg (fun k => k = cb) w w3) := ⟨H2.out.1.below hb3, H2.out.2.trans (Chg.of_below hb3)⟩
    obtain ⟨c, hc⟩ : ∃ c : Int, c = (specM (sb s)).1 := ⟨_, rfl⟩
    obtain ⟨k, hk⟩ : ∃ k : Int, k = ((specM (sb s)).2 : Int) := ⟨_, rfl⟩
    rw [← hc, ← hk]
    clear hc hk hb3
    have hf := reg_fieldR c k w3
    by_cases hc0 : c = 0
    · subst hc0
      go_wp2_with fail
      go_ret
      exact ⟨s, rfl, by omega, H3.out⟩
    · have bc : (c == 0) = false := by rw [beq_eq_false_iff_ne]; exact hc0
      go_wp2_with fail
      refine (letters_core base cb bv n 0 2 _ H3.out.1 (by omega) (by omega) (by omega)).mono ?_
      rintro e w4 ⟨t, rfl, ht, hD4, hC4⟩
      have H4 : Hid (DrawAt base cb bv n w4 ∧ Chg (fun k => k = cb) w w4) := ⟨hD4, H3.out.2.trans hC4⟩
      clear hD4 hC4
      go_wp2_with fail
      go_ret
      exact ⟨t, rfl, by omega, H4.out⟩
end Go.Proofs.YtgiigiegjaagbaaDoor

/-
  The draws: faulty patterns.
-/
namespace Go.Proofs.YtgiigiegjaagbaaDoor
open Go.ChangeShapes Go.WideShapes Go.ChangeAt Go.RowKit Go.Deep
set_option linter.unusedVariables false
set_option linter.unusedSimpArgs false
set_option maxRecDepth 100000

set_option maxHeartbeats 4000000 in
theorem faulty_core (base cb : Nat) (bv : Value) (n : Nat) (w : World) (h : DrawAt base cb bv n w) : Calls Tryd.prog 14 #[.pointer (some ⟨cb, 0, none⟩)] w (TxtP base cb bv n 100000 w) := by
  have HD : Hid (DrawAt base cb bv n w) := h
  clear h
  go_enter Tryd.func14, Tryd.ntmps14
  go_wp2_with fail
  refine (once_core base cb bv n 12 _ HD.out (by omega) (by omega)).mono ?_
  rintro e w1 ⟨v, rfl, hv, hD1, hC1⟩
  have H1 : Hid (DrawAt base cb bv n w1 ∧ Chg (fun k => k = cb) w w1) := ⟨hD1, hC1⟩
  clear hD1 hC1
  rcases hv with rfl | rfl
  · go_wp2_with fail
    refine (below_core base cb bv n 2 _ H1.out.1 (by omega) (by omega)).mono ?_
    rintro e w2 ⟨x, rfl, hx0, hx1, hD2, hC2⟩
    have H2 : Hid (DrawAt base cb bv n w2 ∧ Chg (fun k => k = cb) w w2) := ⟨hD2, H1.out.2.trans hC2⟩
    clear hD2 hC2
    obtain ⟨q, rfl⟩ := Int.eq_ofNat_of_zero_le hx0
    have HQ : Hid ((20 : Int) + (q : Int) = ((20 + q : Nat) : Int)) := by show (20 : Int) + (q : Int) = _; omega
    go_wp2_with fail
    rw [HQ.out]
    refine (many_core 40 (20 + q) _ (by omega)).mono ?_
    rintro e w3 ⟨s, rfl, hs, hb3⟩
    have H3 : Hid (DrawAt base cb bv n w3 ∧ Chg (fun k => k = cb) w w3) := ⟨H2.out.1.below hb3, H2.out.2.trans (Chg.of_below hb3)⟩
    clear hb3
    have h97 : (s ++ (⟨#[97]⟩ : ByteArray)).size ≤ 1001 := by rw [size_app]; show s.size + 1 ≤ _; omega
    go_wp2_with fail
    try rw [HQ.out]
    refine (many_core 41 (20 + q) _ (by omega)).mono ?_
    rintro e w4 ⟨t, rfl, ht, hb4⟩
    have H4 : Hid (DrawAt base cb bv n w4 ∧ Chg (fun k => k = cb) w w4) := ⟨H3.out.1.below hb4, H3.out.2.trans (Chg.of_below hb4)⟩
    clear hb4
    go_wp2_with fail
    go_ret
    exact ⟨_, rfl, by rw [size_app]; omega, H4.out⟩
  go_wp2_with fail
  refine (once_core base cb bv n 20 _ H1.out.1 (by omega) (by omega)).mono ?_
  rintro e w2 ⟨v, rfl, hv, hD2, hC2⟩
  have H2 : Hid (DrawAt base cb bv n w2 ∧ Chg (fun k => k = cb) w w2) := ⟨hD2, H1.out.2.trans hC2⟩
  clear hD2 hC2
  rcases hv with rfl | rfl
  · go_wp2_with fail
    refine (below_core base cb bv n 2 _ H2.out.1 (by omega) (by omega)).mono ?_
    rintro e w3 ⟨x, rfl, hx0, hx1, hD3, hC3⟩
    have H3 : Hid (DrawAt base cb bv n w3 ∧ Chg (fun k => k = cb) w w3) := ⟨hD3, H2.out.2.trans hC3⟩
    clear hD3 hC3
    obtain ⟨q, rfl⟩ := Int.eq_ofNat_of_zero_le hx0
    have HQ : Hid ((200 : Int) + (q : Int) = ((200 + q : Nat) : Int)) := by show (200 : Int) + (q : Int) = _; omega
    go_wp2_with fail
    rw [HQ.out]
    refine (many_core 97 (200 + q) _ (by omega)).mono ?_
    rintro e w4 ⟨t, rfl, ht, hb4⟩
    have H4 : Hid (DrawAt base cb bv n w4 ∧ Chg (fun k => k = cb) w w4) := ⟨H3.out.1.below hb4, H3.out.2.trans (Chg.of_below hb4)⟩
    clear hb4
    go_wp2_with fail
    go_ret
    exact ⟨t, rfl, by omega, H4.out⟩
  go_wp2_with fail
  refine (ptext_two base cb bv n _ H2.out.1).mono ?_
  rintro e w3 ⟨s, rfl, hs, hD3, hC3⟩
  have H3 : Hid (DrawAt base cb bv n w3 ∧ Chg (fun k => k = cb) w w3) := ⟨hD3, H2.out.2.trans hC3⟩
  clear hD3 hC3
  go_wp2_with fail
  refine (once_core base cb bv n 3 _ H3.out.1 (by omega) (by omega)).mono ?_
  rintro e w4 ⟨v, rfl, hv, hD4, hC4⟩
  have H4 : Hid (DrawAt base cb bv n w4 ∧ Chg (fun k => k = cb) w w4) := ⟨hD4, H3.out.2.trans hC4⟩
  have hcl := hD4.lt.2
  clear hD4 hC4
  rcases hv with rfl | rfl
  · go_wp2_with fail
    go_ret
    exact ⟨s, rfl, by omega, H4.out⟩
  go_wp2_with fail
  refine (pick_core base cb bv n _ 18 _ ((H4.out.1).below ((Below.refl _ _).alloc (Nat.le_refl _) _)) (by omega) (by omega) (by omega) (by simp) ?_).mono ?_
  · intro k hk
    match k, hk with
    | 0, _ => exact ⟨_, by simp; rfl, by decide⟩
    | 1, _ => exact ⟨_, by simp; rfl, by decide⟩
    | 2, _ => exact ⟨_, by simp; rfl, by decide⟩
    | 3, _ => exact ⟨_, by simp; rfl, by decide⟩
    | 4, _ => exact ⟨_, by simp; rfl, by decide⟩
    | 5, _ => exact ⟨_, by simp; rfl, by decide⟩
    | 6, _ => exact ⟨_, by simp; rfl, by decide⟩
    | 7, _ => exact ⟨_, by simp; rfl, by decide⟩
    | 8, _ => exact ⟨_, by simp; rfl, by decide⟩
    | 9, _ => exact ⟨_, by simp; rfl, by decide⟩
    | 10, _ => exact ⟨_, by simp; rfl, by decide⟩
    | 11, _ => exact ⟨_, by simp; rfl, by decide⟩
    | 12, _ => exact ⟨_, by simp; rfl, by decide⟩
    | 13, _ => exact ⟨_, by simp; rfl, by decide⟩
    | 14, _ => exact ⟨_, by simp; rfl, by decide⟩
    | 15, _ => exact ⟨_, by simp; rfl, by decide⟩
    | 16, _ => exact ⟨_, by simp; rfl, by decide⟩
    | 17, _ => exact ⟨_, by simp; rfl, by decide⟩
    | k + 18, q => exact absurd q (by omega)
  · rintro e w5 ⟨t, rfl, ht, hD5, hC5⟩
    have H5 : Hid (DrawAt base cb bv n w5 ∧ Chg (fun k => k = cb) w w5) := ⟨hD5, (H4.out.2.alloc_new _).trans hC5⟩
    clear hD5 hC5
    go_wp2_with fail
    refine (below_core base cb bv n ((s.size : Int) + 1) _ H5.out.1 (by omega) (by omega)).mono ?_
    rintro e w6 ⟨x, rfl, hx0, hx1, hD6, hC6⟩
    have H6 : Hid (DrawAt base cb bv n w6 ∧ Chg (fun k => k = cb) w w6) := ⟨hD6, H5.out.2.trans hC6⟩
    clear hD6 hC6
    obtain ⟨q, rfl⟩ := Int.eq_ofNat_of_zero_le hx0
    have hqs : q ≤ s.size := by omega
    have hx1 : (s.extract 0 q).size ≤ 39208 := by rw [ByteArray.size_extract]; omega
    have hx2 : (s.extract q s.size).size ≤ 39208 := by rw [ByteArray.size_extract]; omega
    have hx3 : (s.extract 0 q ++ t).size ≤ 40208 := by rw [size_app]; omega
    go_wp2_with fail
    have hSd : (fun _ : World => True) w6.drew := trivial
    refine wp_region_T 99 (fun _ : World => True) (by kernel_rfl) ?_
    refine anyT_takeN (i := 0) (v := ?vrf0) rfl (by kernel_rfl) (by kernel_rfl) (by kernel_rfl) (by rfl) (fun _ _ _ h => h) (Or.inl ⟨by rfl, ?yrf0⟩) hSd ?_
    case yrf0 => (intro wz hSw; obtain _hz := hSw; go_simp; (try with_reducible rfl))
    try simp only [Act.put, List.getElem_toArray, List.getElem_cons_zero, List.getElem_cons_succ, List.setIfInBounds_toArray, List.set_cons_zero, List.set_cons_succ]
    refine anyT_takeN (i := 1) (v := ?vrf1) rfl (by kernel_rfl) (by kernel_rfl) (by kernel_rfl) (by rfl) (fun _ _ _ h => h) (Or.inl ⟨by rfl, ?yrf1⟩) hSd ?_
    case yrf1 => (intro wz hSw; obtain _hz := hSw; go_simp; (try with_reducible rfl))
    try simp only [Act.put, List.getElem_toArray, List.getElem_cons_zero, List.getElem_cons_succ, List.setIfInBounds_toArray, List.set_cons_zero, List.set_cons_succ]
    refine anyT_takeN (i := 2) (v := ?vrf2) rfl (by kernel_rfl) (by kernel_rfl) (by kernel_rfl) (by rfl) (fun _ _ _ h => h) (Or.inl ⟨by rfl, ?yrf2⟩) hSd ?_
    case yrf2 => (intro wz hSw; obtain _hz := hSw; go_simp; (try with_reducible rfl))
    try simp only [Act.put, List.getElem_toArray, List.getElem_cons_zero, List.getElem_cons_succ, List.setIfInBounds_toArray, List.set_cons_zero, List.set_cons_succ]
    refine anyT_takeN (i := 3) (v := ?vrf3) rfl (by kernel_rfl) (by kernel_rfl) (by kernel_rfl) (by rfl) (fun _ _ _ h => h) (Or.inl ⟨by rfl, ?yrf3⟩) hSd ?_
    case yrf3 => (intro wz hSw; obtain _hz := hSw; go_simp; (try with_reducible rfl))
    try simp only [Act.put, List.getElem_toArray, List.getElem_cons_zero, List.getElem_cons_succ, List.setIfInBounds_toArray, List.set_cons_zero, List.set_cons_succ]
    refine anyT_takeN (i := 4) (v := ?vrf4) rfl (by kernel_rfl) (by kernel_rfl) (by kernel_rfl) (by rfl) (fun _ _ _ h => h) (Or.inl ⟨by rfl, ?yrf4⟩) hSd ?_
    case yrf4 => (intro wz hSw; obtain _hz := hSw; go_simp; rw [if_neg (by omega)]; (try with_reducible rfl))
    try simp only [Act.put, List.getElem_toArray, List.getElem_cons_zero, List.getElem_cons_succ, List.setIfInBounds_toArray, List.set_cons_zero, List.set_cons_succ]
    refine anyT_takeN (i := 5) (v := ?vrf5) rfl (by kernel_rfl) (by kernel_rfl) (by kernel_rfl) (by rfl) (fun _ _ _ h => h) (Or.inl ⟨by rfl, ?yrf5⟩) hSd ?_
    case yrf5 => (intro wz hSw; obtain _hz := hSw; go_simp; (try with_reducible rfl))
    try simp only [Act.put, List.getElem_toArray, List.getElem_cons_zero, List.getElem_cons_succ, List.setIfInBounds_toArray, List.set_cons_zero, List.set_cons_succ]
    refine anyT_takeN (i := 6) (v := ?vrf6) rfl (by kernel_rfl) (by kernel_rfl) (by kernel_rfl) (by rfl) (fun _ _ _ h => h) (Or.inl ⟨by rfl, ?yrf6⟩) hSd ?_
    case yrf6 => (intro wz hSw; obtain _hz := hSw; go_simp; (try with_reducible rfl))
    try simp only [Act.put, List.getElem_toArray, List.getElem_cons_zero, List.getElem_cons_succ, List.setIfInBounds_toArray, List.set_cons_zero, List.set_cons_succ]
    refine anyT_takeN (i := 7) (v := ?vrf7) rfl (by kernel_rfl) (by kernel_rfl) (by kernel_rfl) (by rfl) (fun _ _ _ h => h) (Or.inl ⟨by rfl, ?yrf7⟩) hSd ?_
    case yrf7 => (intro wz hSw; obtain _hz := hSw; go_simp; (try with_reducible rfl))
    try simp only [Act.put, List.getElem_toArray, List.getElem_cons_zero, List.getElem_cons_succ, List.setIfInBounds_toArray, List.set_cons_zero, List.set_cons_succ]
    refine anyT_takeN (i := 8) (v := ?vrf8) rfl (by kernel_rfl) (by kernel_rfl) (by kernel_rfl) (by rfl) (fun _ _ _ h => h) (Or.inl ⟨by rfl, ?yrf8⟩) hSd ?_
    case yrf8 => (intro wz hSw; obtain _hz := hSw; go_simp; rw [if_neg (by omega)]; (try with_reducible rfl))
    try simp only [Act.put, List.getElem_toArray, List.getElem_cons_zero, List.getElem_cons_succ, List.setIfInBounds_toArray, List.set_cons_zero, List.set_cons_succ]
    refine anyT_takeN (i := 9) (v := ?vrf9) rfl (by kernel_rfl) (by kernel_rfl) (by kernel_rfl) (by rfl) (fun _ _ _ h => h) (Or.inl ⟨by rfl, ?yrf9⟩) hSd ?_
    case yrf9 => (intro wz hSw; obtain _hz := hSw; go_simp; (try with_reducible rfl))
    try simp only [Act.put, List.getElem_toArray, List.getElem_cons_zero, List.getElem_cons_succ, List.setIfInBounds_toArray, List.set_cons_zero, List.set_cons_succ]
    refine anyT_done (by kernel_rfl) ?_
    go_wp2_with fail
    go_ret
    refine ⟨_, rfl, ?_, ?_⟩
    · rw [size_app]; omega
    · exact ⟨H6.out.1.below ((Below.refl _ _).drew), H6.out.2.trans (Chg.of_below ((Below.refl _ _).drew))⟩
end Go.Proofs.YtgiigiegjaagbaaDoor

/-
  The drawing's bytes, as they came in.
-/
namespace Go.Proofs.YtgiigiegjaagbaaDoor
open Go.ChangeShapes Go.WideShapes Go.ChangeAt Go.RowKit Go.Deep
set_option linter.unusedVariables false
set_option linter.unusedSimpArgs false
set_option maxRecDepth 100000

theorem CodeAt.slice {w : World} {base : Nat} {bv : Value} {n : Nat} (h : CodeAt w base bv n) : ∃ a cap, bv = .slice a n cap := by
  rcases h.2 with ⟨a, cap, rfl, rfl⟩ | ⟨b, off, cap, rfl, _⟩
  · exact ⟨_, _, rfl⟩
  · exact ⟨_, _, rfl⟩
theorem CodeAt.up {w w' : World} {bv : Value} {n : Nat} (h : CodeAt w w.heap.size bv n) (hb : Below w.heap.size w w') : CodeAt w' w'.heap.size bv n := by
  refine ⟨h.1, ?_⟩
  rcases h.2 with h | ⟨b, off, cap, rfl, hlt, hc⟩
  · exact .inl h
  · refine .inr ⟨b, off, cap, rfl, by have := hb.size; omega, fun k hk => ?_⟩
    obtain ⟨x, h1, h2⟩ := hc k hk
    exact ⟨x, by rw [hb.cell (p := ⟨b, off + k, none⟩) hlt]; exact h1, h2⟩
def BytesIn (w : World) (v : Value) (n : Nat) : Prop :=
  n ≤ maxLen ∧ ((∃ a cap, v = .slice a 0 cap ∧ n = 0) ∨ ∃ b off cap, v = .slice (some ⟨b, off, none⟩) n cap ∧ b < w.heap.size ∧ ∀ k, k < n → ∃ x : Int, w.cell? ⟨b, off + k, none⟩ = some (.int .u8 x) ∧ 0 ≤ x ∧ x < 256)
theorem BytesIn.slice {w : World} {v : Value} {n : Nat} (h : BytesIn w v n) : ∃ a cap, v = .slice a n cap := by
  rcases h.2 with ⟨a, cap, rfl, rfl⟩ | ⟨b, off, cap, rfl, _⟩
  · exact ⟨_, _, rfl⟩
  · exact ⟨_, _, rfl⟩
theorem BytesIn.code {w : World} {v : Value} {n : Nat} (h : BytesIn w v n) (hn : n ≤ 1048576) : CodeAt w w.heap.size v n := ⟨hn, h.2⟩
theorem bytes_of_trod {H : Type} {enc : TypeId × Value → H} {w : World} {fuel : Nat} {v : Value} {x : DataW H × List MemPlace}
    (h : DataW.trod enc Tryd.prog w 0 (fun _ => true) true fuel 22 [v] = some x) (hlt : ∀ p ∈ x.2, p.block < w.heap.size) : ∃ n, BytesIn w v n := by
  have hc : Tryd.prog.cellsOf 5 = 1 := by kernel_rfl
  rcases open_ints Tryd.underlying22 Tryd.underlying5 hc h with ⟨hcs, hx⟩ | ⟨a, len, cap, zs, hcs, _, hl, hm, hz, hx, hcell, hwz⟩
  · simp only [List.cons.injEq, and_true] at hcs
    exact ⟨0, Nat.zero_le _, .inl ⟨none, 0, hcs, rfl⟩⟩
  · simp only [List.cons.injEq, and_true] at hcs
    simp only [if_true] at hz
    refine ⟨len, Nat.le_trans hl hm, ?_⟩
    by_cases h0 : len = 0
    · subst h0; exact .inl ⟨some a, cap, hcs, rfl⟩
    · obtain ⟨ab, ao, spot⟩ := a
      have hspot : spot = none := by simpa [Addr.add] using World.cell?_spot (hcell 0 (by omega))
      subst hspot
      refine .inr ⟨ab, ao, cap, hcs, ?_, fun k hk => ?_⟩
      · rw [hx] at hlt
        exact hlt (.cell ab (ao + 0)) (by simp only [MemPlace.row, List.mem_map, List.mem_range]; exact ⟨0, by omega, rfl⟩)
      · have h1 := hcell k (by omega)
        rw [Addr.add_lit] at h1
        have hb := range_u8 hwz k
        rw [List.getD_eq_getElem?_getD] at h1
        exact ⟨_, h1, hb.1, by omega⟩
end Go.Proofs.YtgiigiegjaagbaaDoor

