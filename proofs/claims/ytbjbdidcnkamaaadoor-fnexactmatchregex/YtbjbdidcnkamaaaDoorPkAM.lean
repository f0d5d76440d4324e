import Derived.Test.YtbjbdidcnkamaaaDoorTie
import Derived.Test.YtbjbdidcnkamaaaDoorCards
import Derived.ProofKit
import Derived.LaidMore
import Derived.OpenShut
import Derived.Lib.LaidTab
import Derived.Stop.Joined
import Derived.Test.YtbjbdidcnkamaaaDoorPkAL
import Derived.Test.YtbjbdidcnkamaaaDoorPkAJ
import Derived.Test.YtbjbdidcnkamaaaDoorPkAI
/-
  spec's l4Atom at a class.
-/
namespace Go.Proofs.YtbjbdidcnkamaaaDoor
open Go.ChangeShapes Go.WideShapes Go.ChangeAt Go.RowKit Go.Deep
set_option linter.unusedVariables false
set_option linter.unusedSimpArgs false
set_option maxRecDepth 100000

set_option maxHeartbeats 8000000 in
theorem atm_cls {s : ByteArray} (hs : s.size ≤ 200) (q : ByteArray) (fc : UInt8 → Bool) (hq91 : (sb q)[0]? = some 91) (hqs : q.size ≤ 200) (hcl : classM (sb q) 1 = .inl (fc, q.size)) (w : World) : Calls Tryd.prog 29 #[.string q, .string s] w (MxG s (Lg (.cls fc)) w) := by
  obtain ⟨d, hd⟩ : ∃ d : UInt8, d = 91 := ⟨_, rfl⟩
  rw [← hd] at hq91
  have hql : 0 < q.size := by have := lt_of_at hq91; rw [sb_len] at this; exact this
  obtain ⟨_, gq⟩ := sb_get (s := q) (i := 0) (x := d) hq91
  have z40 : ((d.toNat : Int) == 40) = false := by rw [hd]; rfl
  have z46 : ((d.toNat : Int) == 46) = false := by rw [hd]; rfl
  have z92 : ((d.toNat : Int) == 92) = false := by rw [hd]; rfl
  have z91 : ((d.toNat : Int) == 91) = true := by rw [hd]; rfl
  have HHo : Hid (∀ (b : UInt8) (wx : World), Calls Tryd.prog 42 #[.string q, .int .u8 (b.toNat : Int)] wx fun e w' => e = .returned (.bool (fc b)) ∧ w' = wx) := fun b wx => l4Holds_core q hqs b fc hcl wx
  have zq : (0 : Int) < (q.size : Int) := by omega
  have HNo : Hid (Calls Tryd.prog 13 #[.int .i64 (s.size : Int)] w (MaP (s.size + 1) (fun _ _ => false) w)) := l4None_core s.size (by omega) w
  clear hq91 hd hqs hcl
  go_enter Tryd.func29, Tryd.ntmps29
  go_wp2_with fail
  refine HNo.out.mono ?_
  rintro r w1 ⟨g, cp, ρ, γ, rfl, HM, hb1⟩
  have hcp := HM.out.out.caps
  go_wp2_with fail
  go_loopw [6] (fun iv wr => ∃ (k : Nat) (f : Nat → Nat → Bool), k ≤ s.size ∧ iv = .int .i64 k ∧ Hid (MatO wr w.heap.size g cp (s.size + 1) (s.size + 1) ρ γ f ∧ (∀ i j, i ≤ j → j < s.size + 1 → f i j = (decide (j = i + 1) && (((sb s)[i]?).map (fun x => fc x)).getD false && decide (i < k))) ∧ Below w.heap.size w wr)) (fun iv _ => s.size - (intOf iv).toNat)
  case atStart => exact ⟨0, _, Nat.zero_le _, rfl, HM.out, fun i j _ _ => by simp, hb1⟩
  case round =>
    obtain ⟨k, f, hk, rfl, HJ⟩ := hrel
    by_cases hlt : k < s.size
    · have zk : (k : Int) < (s.size : Int) := by omega
      obtain ⟨x, hx⟩ : ∃ x, (sb s)[k]? = some x := ⟨_, List.getElem?_eq_getElem (by rw [sb_len]; exact hlt)⟩
      obtain ⟨_, gx⟩ := sb_get hx
      have c0 : wr.cell? ⟨g, k, none⟩ = some (slV (ρ k) (s.size + 1) (γ k)) := HJ.out.1.cell (by omega)
      have hkk : k < s.size + 1 := by omega
      have c1 : wr.cell? ⟨ρ k, k + 1, none⟩ = some (.bool (f k (k + 1))) := (HJ.out.1.row k hkk).cell (by omega)
      have y1 : wr.frozen? ⟨ρ k, k + 1, none⟩ = false := World.ownsRow.frozenAt (HJ.out.1.row k hkk) _
      have hrc := (HJ.out.1.row k hkk).caps
      obtain ⟨bv, hbv⟩ : ∃ bv, bv = (fc x) := ⟨_, rfl⟩
      have HV : Hid (bv = (fun x => fc x) x) := by exact hbv
      have HX : Hid ((sb s)[k]? = some x) := hx
      clear hx
      go_upto_region 7 with fail
      refine wp_region_T 99 (fun _ => True) (by kernel_rfl) ?_
      refine anyT_takeN (i := 0) (v := ?vb0) rfl (by kernel_rfl) (by kernel_rfl) (by kernel_rfl) (by rfl) (fun _ _ _ h => h) (Or.inl ⟨by rfl, ?yb0⟩) True.intro ?_
      case yb0 => (intro wz hSw; go_simp; (try with_reducible rfl))
      try simp only [Act.put, List.getElem_toArray, List.getElem_cons_zero, List.getElem_cons_succ, List.setIfInBounds_toArray, List.set_cons_zero, List.set_cons_succ]
      refine anyT_takeN (i := 1) (v := ?vb1) rfl (by kernel_rfl) (by kernel_rfl) (by kernel_rfl) (by rfl) (fun _ _ _ h => h) (Or.inl ⟨by rfl, ?yb1⟩) True.intro ?_
      case yb1 => (intro wz hSw; go_simp; (try with_reducible rfl))
      try simp only [Act.put, List.getElem_toArray, List.getElem_cons_zero, List.getElem_cons_succ, List.setIfInBounds_toArray, List.set_cons_zero, List.set_cons_succ]
      refine anyT_takeN (i := 2) (v := .bool false) rfl (by kernel_rfl) (by kernel_rfl) (by kernel_rfl) (by rfl) (fun _ _ _ h => h) (Or.inl ⟨by rfl, ?yb2⟩) True.intro ?_
      case yb2 => (intro wz hSw; go_simp; (try simp only [z46]); (try with_reducible rfl))
      try simp only [Act.put, List.getElem_toArray, List.getElem_cons_zero, List.getElem_cons_succ, List.setIfInBounds_toArray, List.set_cons_zero, List.set_cons_succ]
      refine anyT_takeN (i := 3) (v := ?vb3) rfl (by kernel_rfl) (by kernel_rfl) (by kernel_rfl) (by rfl) (fun _ _ _ h => h) (Or.inl ⟨by rfl, ?yb3⟩) True.intro ?_
      case yb3 => (intro wz hSw; go_simp; (try with_reducible rfl))
      try simp only [Act.put, List.getElem_toArray, List.getElem_cons_zero, List.getElem_cons_succ, List.setIfInBounds_toArray, List.set_cons_zero, List.set_cons_succ]
      refine anyT_takeN (i := 4) (v := ?vb4) rfl (by kernel_rfl) (by kernel_rfl) (by kernel_rfl) (by rfl) (fun _ _ _ h => h) (Or.inl ⟨by rfl, ?yb4⟩) True.intro ?_
      case yb4 => (intro wz hSw; go_simp; (try with_reducible rfl))
      try simp only [Act.put, List.getElem_toArray, List.getElem_cons_zero, List.getElem_cons_succ, List.setIfInBounds_toArray, List.set_cons_zero, List.set_cons_succ]
      refine anyT_takeN (i := 5) (v := ?vb5) rfl (by kernel_rfl) (by kernel_rfl) (by kernel_rfl) (by rfl) (fun _ _ _ h => h) (Or.inl ⟨by rfl, ?yb5⟩) True.intro ?_
      case yb5 => (intro wz hSw; go_simp; (try with_reducible rfl))
      try simp only [Act.put, List.getElem_toArray, List.getElem_cons_zero, List.getElem_cons_succ, List.setIfInBounds_toArray, List.set_cons_zero, List.set_cons_succ]
      refine anyT_takeN (i := 6) (v := ?vb6) rfl (by kernel_rfl) (by kernel_rfl) (by kernel_rfl) (by rfl) (fun _ _ _ h => h) (Or.inl ⟨by rfl, ?yb6⟩) True.intro ?_
      case yb6 => (intro wz hSw; go_simp; (try with_reducible rfl))
      try simp only [Act.put, List.getElem_toArray, List.getElem_cons_zero, List.getElem_cons_succ, List.setIfInBounds_toArray, List.set_cons_zero, List.set_cons_succ]
      refine anyT_takeN (i := 7) (v := ?vb7) rfl (by kernel_rfl) (by kernel_rfl) (by kernel_rfl) (by rfl) (fun _ _ _ h => h) (Or.inl ⟨by rfl, ?yb7⟩) True.intro ?_
      case yb7 => (intro wz hSw; go_simp; (try with_reducible rfl))
      try simp only [Act.put, List.getElem_toArray, List.getElem_cons_zero, List.getElem_cons_succ, List.setIfInBounds_toArray, List.set_cons_zero, List.set_cons_succ]
      refine anyT_takeN (i := 8) (v := ?vb8) rfl (by kernel_rfl) (by kernel_rfl) (by kernel_rfl) (by rfl) (fun _ _ _ h => h) (Or.inl ⟨by rfl, ?yb8⟩) True.intro ?_
      case yb8 => (intro wz hSw; go_simp; (try with_reducible rfl))
      try simp only [Act.put, List.getElem_toArray, List.getElem_cons_zero, List.getElem_cons_succ, List.setIfInBounds_toArray, List.set_cons_zero, List.set_cons_succ]
      refine anyT_takeN (i := 9) (v := ?vb9) rfl (by kernel_rfl) (by kernel_rfl) (by kernel_rfl) (by rfl) (fun _ _ _ h => h) (Or.inl ⟨by rfl, ?yb9⟩) True.intro ?_
      case yb9 => (intro wz hSw; go_simp; (try with_reducible rfl))
      try simp only [Act.put, List.getElem_toArray, List.getElem_cons_zero, List.getElem_cons_succ, List.setIfInBounds_toArray, List.set_cons_zero, List.set_cons_succ]
      refine anyT_takeN (i := 10) (v := ?vb10) rfl (by kernel_rfl) (by kernel_rfl) (by kernel_rfl) (by rfl) (fun _ _ _ h => h) (Or.inl ⟨by rfl, ?yb10⟩) True.intro ?_
      case yb10 => (intro wz hSw; go_simp; (try with_reducible rfl))
      try simp only [Act.put, List.getElem_toArray, List.getElem_cons_zero, List.getElem_cons_succ, List.setIfInBounds_toArray, List.set_cons_zero, List.set_cons_succ]
      refine anyT_one (i := 11) (by kernel_rfl) rfl (fun K hK => ?_)
      go_simp
      refine hK.out _ _ (.inr True.intro) ?_
      clear hK
      try simp only [Act.put, List.getElem_toArray, List.getElem_cons_zero, List.getElem_cons_succ, List.setIfInBounds_toArray, List.set_cons_zero, List.set_cons_succ]
      refine anyT_done (by kernel_rfl) ?_
      go_wp2_with fail
      refine (HHo.out x _).mono ?_
      rintro e wh ⟨rfl, hwh⟩
      rw [hwh]
      rw [← hbv]
      clear hbv
      have HJ2 : Hid (MatO (wr.setCell ⟨ρ k, k + 1, none⟩ (.bool bv)).drew w.heap.size g cp (s.size + 1) (s.size + 1) ρ γ (upd2 f k (k + 1) bv) ∧ (∀ i j, i ≤ j → j < s.size + 1 → upd2 f k (k + 1) bv i j = (decide (j = i + 1) && (((sb s)[i]?).map (fun x => fc x)).getD false && decide (i < k + 1))) ∧ Below w.heap.size w (wr.setCell ⟨ρ k, k + 1, none⟩ (.bool bv)).drew) := by
        refine ⟨(HJ.out.1.set hkk (by omega) bv).below ((Below.refl _ _).drew), fun i j hij hj => ?_, (below_set HJ.out.2.2 (HJ.out.1.row k hkk).lt.1 _ _).drew⟩
        unfold upd2
        by_cases e : i = k ∧ j = k + 1
        · rw [if_pos e, e.1, e.2, HX.out, HV.out]; simp
        · rw [if_neg e, HJ.out.2.1 i j hij hj]
          by_cases e2 : j = i + 1
          · have h1 : i ≠ k := fun q => e ⟨q, by omega⟩
            have h2 : decide (i < k) = decide (i < k + 1) := by rw [decide_eq_decide]; omega
            rw [h2]
          · simp [e2]
      go_wp2_with fail
      refine ⟨⟨k + 1, upd2 f k (k + 1) bv, by omega, by go_num, HJ2⟩, ?_⟩
      go_light
      simp [intOf]; omega
    · obtain rfl : k = s.size := by omega
      have zk : ¬ (s.size : Int) < (s.size : Int) := by omega
      go_wp2_with fail
      go_ret
      refine ⟨g, cp, ρ, γ, f, rfl, hcp.1, ⟨HJ.out.1.read, (relW_one (τ := fun x => fc x) (fun i j hij hj => ?_)).iff (fun _ _ _ _ => rfl) (fun y => by simp [Lg])⟩, HJ.out.2.2⟩
      rw [sb_len] at hj
      rw [HJ.out.2.1 i j hij hj]
      by_cases e : j = i + 1
      · have h1 : i < s.size := by omega
        simp [h1]
      · simp [e]
end Go.Proofs.YtbjbdidcnkamaaaDoor

/-
  spec's l4Atom at a group.
-/
namespace Go.Proofs.YtbjbdidcnkamaaaDoor
open Go.ChangeShapes Go.WideShapes Go.ChangeAt Go.RowKit Go.Deep
set_option linter.unusedVariables false
set_option linter.unusedSimpArgs false
set_option maxRecDepth 100000

set_option maxHeartbeats 4000000 in
theorem atm_group {s : ByteArray} {m : Nat} (H : AltW s m) (q : ByteArray) (ys : List UInt8) (n : Nat) (os : List (List Pat)) (hq : sb q = 40 :: ys ++ [41]) (hqm : q.size ≤ m + 1) (hqs : q.size ≤ 200) (hG : AltG (AtomG n) os ys) (w : World) : Calls Tryd.prog 29 #[.string q, .string s] w (MxG s (LgA os) w) := by
  have hql : q.size = ys.length + 2 := by rw [← sb_len, hq]; simp
  obtain ⟨d, hd⟩ : ∃ d : UInt8, d = 40 := ⟨_, rfl⟩
  obtain ⟨_, gq⟩ := sb_get (s := q) (i := 0) (x := d) (by rw [hq, hd]; rfl)
  have z40 : ((d.toNat : Int) == 40) = true := by rw [hd]; rfl
  have zq : (0 : Int) < (q.size : Int) := by omega
  have hx : sb (q.extract 1 (q.size - 1)) = ys := by
    rw [sb_extract q (by omega), hq, hql]
    simp [cut]
  have HC : Hid (Calls Tryd.prog 7 #[.string (q.extract 1 (q.size - 1)), .string s] w (MxG s (LgA os) w)) := H n os _ w (by rw [← sb_len, hx]; omega) (by rw [← sb_len, hx]; omega) (by rw [hx]; exact hG)
  obtain ⟨M, hM⟩ : ∃ M, M = q.size - 1 := ⟨_, rfl⟩
  have z1 : (1 : Int) ≤ (M : Int) := by omega
  have z2 : (M : Int) ≤ (q.size : Int) := by omega
  have z3 : ((q.size : Int) - 1) = (M : Int) := by omega
  have z4 : q.size ≤ 200 := hqs
  rw [← hM] at HC
  clear hq hqm hqs hG hx hd hql hM
  go_enter Tryd.func29, Tryd.ntmps29
  go_wp2_with fail
  refine HC.out.mono ?_
  rintro r w1 ⟨g, cp, ρ, γ, f, rfl, hcp, HM, hb⟩
  go_wp2_with fail
  go_ret
  exact ⟨g, cp, ρ, γ, f, rfl, hcp, HM, hb⟩
end Go.Proofs.YtbjbdidcnkamaaaDoor

/-
  spec's l4Alt, l4Seq and l4Atom tied, and spec.MatchRegex.
-/
namespace Go.Proofs.YtbjbdidcnkamaaaDoor
open Go.ChangeShapes Go.WideShapes Go.ChangeAt Go.RowKit Go.Deep
set_option linter.unusedVariables false
set_option linter.unusedSimpArgs false
set_option maxRecDepth 100000

theorem reg_fieldM (c k : Int) (w : World) : (Instr.field 24 (.agg #[.int .i64 c, .int .i64 k]) 0).run Tryd.prog w = .ok (.int .i64 c) w := by kernel_rfl
theorem atm_says {s : ByteArray} (hs : s.size ≤ 200) {m : Nat} (H : AltW s m) : AtmW s (m + 1) := by
  intro n t q w hqm hq hG
  cases n with
  | zero => exact hG.elim
  | succ n =>
    rcases hG with ⟨c, h1, h2, rfl⟩ | ⟨h1, rfl⟩ | ⟨c, h1, rfl⟩ | ⟨ys, os, h1, h2, rfl⟩ | ⟨p, i, k, f, h1, h2, h3, rfl⟩
    · unfold special at h2
      exact atm_byte hs q c h1 (fun e => h2 (.inr (.inl e))) (fun e => h2 (.inr (.inr (.inr (.inl e))))) (fun e => h2 (.inr (.inr (.inr (.inr e))))) (fun e => h2 (.inr (.inr (.inl e)))) w
    · exact atm_dot hs q 46 h1 rfl w
    · exact atm_esc hs q 92 c h1 rfl w
    · exact atm_group H q ys n os h1 hqm hq h2 w
    · have hg := classM_gt h2
      have hle := hg.2
      have hl : (sb q).length = k - i := by rw [h3, cut_len hle]
      have hat : ∀ t, i + t < k → (sb q)[t]? = p[i + t]? := fun t ht => by
        rw [h3]; unfold cut
        rw [List.getElem?_take, if_pos (by omega), List.getElem?_drop]
      have e := classM_agree (q := sb q) (j := 1) h2 (fun t ht => by
        rw [hat (1 + t) (by omega)]; congr 1; omega)
      refine atm_cls hs q f (by have := hat 0 (by omega); rw [this]; exact h1) hq ?_ w
      rw [e]
      have : 1 + (k - (i + 1)) = q.size := by rw [← sb_len, hl]; omega
      rw [this]
set_option maxHeartbeats 4000000 in
theorem seq_zero {s : ByteArray} (hs : s.size ≤ 200) : SeqW s 0 := by
  intro n ts p w hpm hp hG
  have h0 : sb p = [] := List.length_eq_zero_iff.1 (by rw [sb_len]; omega)
  cases ts with
  | nil =>
    have hz : p.toList = [] := by rw [ByteArray.toList_eq]; exact h0
    have q1 : (p.toList == []) = true := by rw [hz]; rfl
    have HE : Hid (Calls Tryd.prog 28 #[.int .i64 (s.size : Int)] w (MxG s (fun x => x = []) w)) := empty_says hs w
    clear hz h0 hG
    go_enter Tryd.func16, Tryd.ntmps16
    go_wp2_with fail
    refine HE.out.mono ?_
    rintro e w1 ⟨g1, p1, ρ1, γ1, f1, rfl, hp1, HM1, hb1⟩
    have HR : Hid (MxG s (LgS []) w (.returned (slV g1 (s.size + 1) p1)) w1) := ⟨g1, p1, ρ1, γ1, f1, rfl, hp1, ⟨HM1.out.1, HM1.out.2.iff (fun _ _ _ _ => rfl) (fun x => by simp [LgS])⟩, hb1⟩
    go_wp2_with fail
    go_ret
    exact HR.out
  | cons t ts =>
    obtain ⟨a, as_, ops, hX, _⟩ := seqX_of hG
    have h1 := hX.len
    have h2 := hX.le
    omega
theorem seq_every {s : ByteArray} (hs : s.size ≤ 200) : ∀ m, SeqW s m
  | 0 => seq_zero hs
  | m + 1 => seq_says hs (atm_says hs (alt_says hs (seq_every hs m))) (seq_every hs m)
theorem alt_every {s : ByteArray} (hs : s.size ≤ 200) (m : Nat) : AltW s m := alt_says hs (seq_every hs m)
set_option maxHeartbeats 4000000 in
/-- spec.MatchRegex where the pattern has a fault. -/
theorem specMatch_bad (p s : ByteArray) (hpm : p.size ≤ maxLen) (hc0 : ¬ (checkM (sb p)).1 = 0) (w : World) : Calls Tryd.prog 4 #[.string p, .string s] w fun e w' => e = .returned (.bool false) ∧ Below w.heap.size w w' := by
  obtain ⟨c, hc⟩ : ∃ c, c = (checkM (sb p)).1 := ⟨_, rfl⟩
  obtain ⟨k, hk⟩ : ∃ k : Int, k = ((checkM (sb p)).2 : Int) := ⟨_, rfl⟩
  have HS : Hid (∀ w, Calls Tryd.prog 6 #[.string p] w fun e w' => e = .returned (.agg #[.int .i64 c, .int .i64 k]) ∧ Below w.heap.size w w') := fun w => by
    rw [hc, hk]; exact specCheck_core p w hpm
  have hfd := reg_fieldM c k
  rw [← hc] at hc0
  clear hc hk
  go_enter Tryd.func4, Tryd.ntmps4
  go_wp2_with fail
  refine (HS.out _).mono ?_
  rintro e w1 ⟨rfl, hb1⟩
  go_wp2_with fail
  go_ret
  exact ⟨rfl, hb1⟩
set_option maxHeartbeats 4000000 in
/-- spec.MatchRegex where the string is too long. -/
theorem specMatch_long (p s : ByteArray) (hpm : p.size ≤ maxLen) (hs : 200 < s.size) (w : World) : Calls Tryd.prog 4 #[.string p, .string s] w fun e w' => e = .returned (.bool false) ∧ Below w.heap.size w w' := by
  by_cases hc0 : (checkM (sb p)).1 = 0
  · obtain ⟨k, hk⟩ : ∃ k : Int, k = ((checkM (sb p)).2 : Int) := ⟨_, rfl⟩
    have HS : Hid (∀ w, Calls Tryd.prog 6 #[.string p] w fun e w' => e = .returned (.agg #[.int .i64 0, .int .i64 k]) ∧ Below w.heap.size w w') := fun w => by
      rw [← hc0, hk]; exact specCheck_core p w hpm
    have hfd := reg_fieldM 0 k
    have zs : ¬ (s.size : Int) ≤ 200 := by omega
    clear hk hc0
    go_enter Tryd.func4, Tryd.ntmps4
    go_wp2_with fail
    refine (HS.out _).mono ?_
    rintro e w1 ⟨rfl, hb1⟩
    go_wp2_with fail
    go_ret
    exact ⟨rfl, hb1⟩
  · exact specMatch_bad p s hpm hc0 w
set_option maxHeartbeats 4000000 in
/-- spec.MatchRegex of a pattern without a fault. -/
theorem specMatch_ok (p s : ByteArray) (hpm : p.size ≤ maxLen) (hc0 : (checkM (sb p)).1 = 0) (hs : s.size ≤ 200) (n : Nat) (os : List (List Pat)) (hG : AltG (AtomG n) os (sb p)) (w : World) : Calls Tryd.prog 4 #[.string p, .string s] w fun e w' => ∃ b : Bool, e = .returned (.bool b) ∧ Hid (b = true ↔ LgA os (sb s)) ∧ Below w.heap.size w w' := by
  have hp : p.size ≤ 200 := by
    apply Classical.byContradiction
    intro h6
    unfold checkM at hc0
    rw [if_pos (by rw [sb_len]; omega)] at hc0
    exact absurd hc0 (by decide)
  obtain ⟨k, hk⟩ : ∃ k : Int, k = ((checkM (sb p)).2 : Int) := ⟨_, rfl⟩
  have HS : Hid (∀ w, Calls Tryd.prog 6 #[.string p] w fun e w' => e = .returned (.agg #[.int .i64 0, .int .i64 k]) ∧ Below w.heap.size w w') := fun w => by
    rw [← hc0, hk]; exact specCheck_core p w hpm
  have HA : Hid (∀ w, Calls Tryd.prog 7 #[.string p, .string s] w (MxG s (LgA os) w)) := fun w => alt_every hs 200 n os p w hp hp hG
  have hfd := reg_fieldM 0 k
  have zs : (s.size : Int) ≤ 200 := by omega
  clear hk hc0 hG
  go_enter Tryd.func4, Tryd.ntmps4
  go_wp2_with fail
  refine (HS.out _).mono ?_
  rintro e w1 ⟨rfl, hb1⟩
  go_wp2_with fail
  refine (HA.out _).mono ?_
  rintro e w2 ⟨g, cp, ρ, γ, f, rfl, hcp, HM, hb2⟩
  have c0 : w2.cell? ⟨g, 0, none⟩ = some (slV (ρ 0) (s.size + 1) (γ 0)) := HM.out.1.out 0 (by omega)
  have c1 : w2.cell? ⟨ρ 0, s.size, none⟩ = some (.bool (f 0 s.size)) := HM.out.1.row 0 s.size (by omega) (by omega)
  have hcap := HM.out.1.cap 0 (by omega)
  have z9 : (s.size : Int) < ((s.size + 1 : Nat) : Int) := by omega
  have z8 : (s.size : Int) < (s.size : Int) + 1 := by omega
  have z7 : (0 : Int) < (s.size : Int) + 1 := by omega
  have HB : Hid (f 0 s.size = true ↔ LgA os (sb s)) := by
    have h := HM.out.2 0 s.size (by omega) (by rw [sb_len]; omega)
    have e : cut (sb s) 0 s.size = sb s := by unfold cut; rw [List.drop_zero, Nat.sub_zero, ← sb_len, List.take_length]
    rw [e] at h
    exact h
  go_wp2_with fail
  go_ret
  exact ⟨_, rfl, HB, hb1.trans (hb2.mono hb1.size)⟩
end Go.Proofs.YtbjbdidcnkamaaaDoor

/-
  A pattern's text is read in one way.
-/
namespace Go.Proofs.YtbjbdidcnkamaaaDoor
set_option linter.unusedVariables false
set_option linter.unusedSimpArgs false

/-- Nothing, or a byte that the test holds of. -/
def Hd (Q : UInt8 → Prop) (r : List UInt8) : Prop := r = [] ∨ ∃ c zs, r = c :: zs ∧ Q c
theorem Hd.mono {Q R : UInt8 → Prop} (h : ∀ c, Q c → R c) {r : List UInt8} : Hd Q r → Hd R r
  | .inl q => .inl q
  | .inr ⟨c, zs, h1, h2⟩ => .inr ⟨c, zs, h1, h c h2⟩
theorem ops_uni : ∀ (a b : List UInt8) {r r' : List UInt8}, (∀ c ∈ a, isOp c) → (∀ c ∈ b, isOp c) → Hd (fun c => ¬ isOp c) r → Hd (fun c => ¬ isOp c) r' → a ++ r = b ++ r' → a = b ∧ r = r'
  | [], [], r, r', _, _, _, _, h => ⟨rfl, by simpa using h⟩
  | x :: a, [], r, r', ha, _, _, hr', h => by
    rcases hr' with rfl | ⟨c, zs, rfl, hc⟩
    · cases h
    · simp only [List.cons_append, List.nil_append, List.cons.injEq] at h
      exact absurd (h.1 ▸ ha x (by simp)) hc
  | [], y :: b, r, r', _, hb, hr, _, h => by
    rcases hr with rfl | ⟨c, zs, rfl, hc⟩
    · cases h
    · simp only [List.cons_append, List.nil_append, List.cons.injEq] at h
      exact absurd (h.1 ▸ hb y (by simp)) hc
  | x :: a, y :: b, r, r', ha, hb, hr, hr', h => by
    simp only [List.cons_append, List.cons.injEq] at h
    obtain ⟨h1, h2⟩ := ops_uni a b (fun c hc => ha c (by simp [hc])) (fun c hc => hb c (by simp [hc])) hr hr' h.2
    exact ⟨by rw [h.1, h1], h2⟩
theorem hd_bar (zs : List UInt8) : Hd (fun c => c = 41 ∨ c = 124) (124 :: zs) := .inr ⟨124, zs, rfl, .inr rfl⟩
section
variable {n m : Nat} (hU : ∀ xs t t', AtomG n xs t → AtomG m xs t' → t = t')
include hU
theorem rep_uni {xs ys r r' : List UInt8} {t t' : Pat} (h : RepG (AtomG n) xs t) (k : RepG (AtomG m) ys t') (hr : Hd (fun c => ¬ isOp c) r) (hr' : Hd (fun c => ¬ isOp c) r') (e : xs ++ r = ys ++ r') : xs = ys ∧ t = t' ∧ r = r' := by
  obtain ⟨a, o, u, rfl, h2, h3, rfl⟩ := h
  obtain ⟨a', o', u', rfl, k2, k3, rfl⟩ := k
  rw [List.append_assoc, List.append_assoc] at e
  have ea := atom_one h2 k2 e
  subst ea
  obtain rfl := hU _ _ _ h2 k2
  obtain ⟨rfl, rfl⟩ := ops_uni o o' h3 k3 hr hr' (List.append_cancel_left e)
  exact ⟨rfl, rfl, rfl⟩
theorem seq_uni : ∀ {ts us : List Pat} {xs ys r r' : List UInt8}, SeqG (AtomG n) ts xs → SeqG (AtomG m) us ys → Hd (fun c => c = 41 ∨ c = 124) r → Hd (fun c => c = 41 ∨ c = 124) r' → xs ++ r = ys ++ r' → ts = us ∧ xs = ys ∧ r = r'
  | [], [], xs, ys, r, r', h, k, hr, hr', e => by
    have h : xs = [] := h
    have k : ys = [] := k
    subst h k
    exact ⟨rfl, rfl, by simpa using e⟩
  | t :: ts, [], xs, ys, r, r', h, k, hr, hr', e => by
    have k : ys = [] := k
    subst k
    obtain ⟨as_, zs, rfl, ⟨a, o, u, rfl, h2, h3, _⟩, h4⟩ := h
    obtain ⟨c, yt, rfl, n1, n2, n3⟩ := h2.first
    rcases hr' with rfl | ⟨c', zs', rfl, hc⟩
    · simp at e
    · simp only [List.cons_append, List.nil_append, List.cons.injEq] at e
      rcases hc with q | q
      · exact absurd (e.1.trans q) n1
      · exact absurd (e.1.trans q) n2
  | [], u :: us, xs, ys, r, r', h, k, hr, hr', e => by
    have h : xs = [] := h
    subst h
    obtain ⟨as_, zs, rfl, ⟨a, o, u', rfl, h2, h3, _⟩, h4⟩ := k
    obtain ⟨c, yt, rfl, n1, n2, n3⟩ := h2.first
    rcases hr with rfl | ⟨c', zs', rfl, hc⟩
    · simp at e
    · simp only [List.cons_append, List.nil_append, List.cons.injEq] at e
      rcases hc with q | q
      · exact absurd (e.1.symm.trans q) n1
      · exact absurd (e.1.symm.trans q) n2
  | t :: ts, u :: us, xs, ys, r, r', h, k, hr, hr', e => by
    obtain ⟨as_, zs, rfl, h2, h3⟩ := h
    obtain ⟨bs, ws, rfl, k2, k3⟩ := k
    have hd : ∀ {j : Nat} {vs : List Pat} {qs rr : List UInt8}, SeqG (AtomG j) vs qs → Hd (fun c => c = 41 ∨ c = 124) rr → Hd (fun c => ¬ isOp c) (qs ++ rr) := fun {j vs qs rr} hq hrr => by
      cases vs with
      | nil =>
        have hq : qs = [] := hq
        subst hq
        refine hrr.mono (fun c hc => ?_)
        rcases hc with rfl | rfl
        · unfold isOp; decide
        · unfold isOp; decide
      | cons v vs =>
        obtain ⟨a1, z1, rfl, ⟨a, o, u', rfl, g2, g3, _⟩, g4⟩ := hq
        obtain ⟨c, yt, rfl, n1, n2, n3⟩ := g2.first
        exact .inr ⟨c, _, by simp only [List.cons_append]; rfl, n3⟩
    rw [List.append_assoc, List.append_assoc] at e
    obtain ⟨rfl, rfl, e2⟩ := rep_uni hU h2 k2 (hd h3 hr) (hd k3 hr') e
    obtain ⟨rfl, rfl, e3⟩ := seq_uni h3 k3 hr hr' e2
    exact ⟨rfl, rfl, e3⟩
theorem alt_uni : ∀ {os us : List (List Pat)} {xs ys r r' : List UInt8}, AltG (AtomG n) os xs → AltG (AtomG m) us ys → Hd (fun c => c = 41) r → Hd (fun c => c = 41) r' → xs ++ r = ys ++ r' → os = us ∧ xs = ys
  | [], _, _, _, _, _, h, _, _, _, _ => h.elim
  | _ :: _, [], _, _, _, _, _, k, _, _, _ => k.elim
  | [ts], [us], xs, ys, r, r', h, k, hr, hr', e => by
    obtain ⟨rfl, rfl, _⟩ := seq_uni hU (ts := ts) (us := us) h k (hr.mono (fun c q => .inl q)) (hr'.mono (fun c q => .inl q)) e
    exact ⟨rfl, rfl⟩
  | [ts], u1 :: u2 :: us, xs, ys, r, r', h, ⟨a, z, k1, k2, k3⟩, hr, hr', e => by
    subst k1
    rw [List.append_assoc, List.cons_append] at e
    obtain ⟨_, _, e3⟩ := seq_uni hU (ts := ts) (us := u1) h k2 (hr.mono (fun c q => .inl q)) (hd_bar _) e
    rcases hr with rfl | ⟨c, zs, rfl, hc⟩
    · cases e3
    · simp only [List.cons.injEq] at e3
      rw [hc] at e3
      exact absurd e3.1 (by decide)
  | t1 :: t2 :: ts, [us], xs, ys, r, r', ⟨a, z, h1, h2, h3⟩, k, hr, hr', e => by
    subst h1
    rw [List.append_assoc, List.cons_append] at e
    obtain ⟨_, _, e3⟩ := seq_uni hU (ts := t1) (us := us) h2 k (hd_bar _) (hr'.mono (fun c q => .inl q)) e
    rcases hr' with rfl | ⟨c, zs, rfl, hc⟩
    · cases e3
    · simp only [List.cons.injEq] at e3
      rw [hc] at e3
      exact absurd e3.1 (by decide)
  | t1 :: t2 :: ts, u1 :: u2 :: us, xs, ys, r, r', ⟨a, z, h1, h2, h3⟩, ⟨b, y, k1, k2, k3⟩, hr, hr', e => by
    subst h1 k1
    rw [List.append_assoc, List.append_assoc, List.cons_append, List.cons_append] at e
    obtain ⟨rfl, rfl, e3⟩ := seq_uni hU h2 k2 (hd_bar _) (hd_bar _) e
    simp only [List.cons.injEq, true_and] at e3
    obtain ⟨e4, rfl⟩ := alt_uni h3 k3 hr hr' e3
    exact ⟨by rw [e4], rfl⟩
end
theorem atom_uni : ∀ (n : Nat) {m : Nat} (xs : List UInt8) (t t' : Pat), AtomG n xs t → AtomG m xs t' → t = t'
  | 0, _, _, _, _, h, _ => h.elim
  | n + 1, 0, _, _, _, _, k => k.elim
  | n + 1, m + 1, xs, t, t', h, k => by
    have hu : ∀ xs t t', AtomG n xs t → AtomG m xs t' → t = t' := fun xs t t' p q => atom_uni n xs t t' p q
    have hc91 : ∀ {p : List UInt8} {i k : Nat} {f : UInt8 → Bool}, p[i]? = some 91 → classM p (i + 1) = .inl (f, k) → ∃ zs, cut p i k = 91 :: zs := fun {p i k f} h1 h2 => by
      have hg := classM_gt h2
      have := cut_cat (p := p) (i := i) (j := i + 1) (k := k) (by omega) (by omega)
      rw [cut_one h1] at this
      exact ⟨_, this⟩
    rcases h with ⟨c, rfl, hs, rfl⟩ | ⟨rfl, rfl⟩ | ⟨c, rfl, rfl⟩ | ⟨ys, os, rfl, h2, rfl⟩ | ⟨p, i, j, f, h1, h2, h3, rfl⟩ <;>
      rcases k with ⟨c', k1, ks, rfl⟩ | ⟨k1, rfl⟩ | ⟨c', k1, rfl⟩ | ⟨zs, us, k1, k2, rfl⟩ | ⟨p', i', j', f', k1, k2, k3, rfl⟩
    · simp at k1; rw [k1]
    · simp at k1; subst k1; exact absurd (by unfold special; simp) hs
    · simp at k1
    · have := congrArg List.length k1; simp at this
    · obtain ⟨zs, hz⟩ := hc91 k1 k2
      rw [hz] at k3; simp at k3; rw [k3.1] at hs; exact absurd (by unfold special; simp) hs
    · simp at k1; subst k1; exact absurd (by unfold special; simp) ks
    · rfl
    · simp at k1
    · have := congrArg List.length k1; simp at this
    · obtain ⟨zs, hz⟩ := hc91 k1 k2
      rw [hz] at k3; simp at k3
    · simp at k1
    · simp at k1
    · simp at k1; rw [k1]
    · simp at k1
    · obtain ⟨zs, hz⟩ := hc91 k1 k2
      rw [hz] at k3; simp at k3
    · have := congrArg List.length k1; simp at this
    · have := congrArg List.length k1; simp at this
    · simp at k1
    · simp only [List.cons_append, List.cons.injEq, true_and] at k1
      obtain ⟨rfl, _⟩ := alt_uni hu h2 k2 (.inr ⟨41, [], rfl, rfl⟩) (.inr ⟨41, [], rfl, rfl⟩) k1
      rfl
    · obtain ⟨zs, hz⟩ := hc91 k1 k2
      rw [hz] at k3; simp at k3
    · obtain ⟨zs, hz⟩ := hc91 h1 h2
      rw [hz, k1] at h3; simp at h3; rw [h3.1] at ks; exact absurd (by unfold special; simp) ks
    · obtain ⟨zs, hz⟩ := hc91 h1 h2
      rw [hz, k1] at h3; simp at h3
    · obtain ⟨zs, hz⟩ := hc91 h1 h2
      rw [hz, k1] at h3; simp at h3
    · obtain ⟨zs, hz⟩ := hc91 h1 h2
      rw [hz, k1] at h3; simp at h3
    · have hg := classM_gt h2
      have hg' := classM_gt k2
      have hcut : cut p i j = cut p' i' j' := h3.symm.trans k3
      have hl : j - i = j' - i' := by
        have := congrArg List.length hcut
        rwa [cut_len hg.2, cut_len hg'.2] at this
      have hat : ∀ t, i + t < j → p'[i' + t]? = p[i + t]? := fun t ht => by
        have e1 : (cut p i j)[t]? = p[i + t]? := by unfold cut; rw [List.getElem?_take, if_pos (by omega), List.getElem?_drop]
        have e2 : (cut p' i' j')[t]? = p'[i' + t]? := by unfold cut; rw [List.getElem?_take, if_pos (by omega), List.getElem?_drop]
        rw [← e1, ← e2, hcut]
      have e := classM_agree (q := p') (j := i' + 1) h2 (fun t ht => by
        have := hat (1 + t) (by omega)
        rw [show i' + 1 + t = i' + (1 + t) by omega, show i + 1 + t = i + (1 + t) by omega]; exact this)
      rw [e] at k2
      simp only [Sum.inl.injEq, Prod.mk.injEq] at k2
      rw [k2.1]
/-- A text has one pattern. -/
theorem pat_uni {n m : Nat} {os us : List (List Pat)} {xs : List UInt8} (h : AltG (AtomG n) os xs) (k : AltG (AtomG m) us xs) : os = us :=
  (alt_uni (fun xs t t' p q => atom_uni n xs t t' p q) h k (.inl rfl) (.inl rfl) rfl).1
end Go.Proofs.YtbjbdidcnkamaaaDoor

/-
  The walk of the law FnExactMatchRegex.
-/
namespace Go.Proofs.YtbjbdidcnkamaaaDoor
open Go.ChangeShapes Go.WideShapes Go.ChangeAt Go.RowKit Go.Deep
set_option linter.unusedVariables false
set_option linter.unusedSimpArgs false
set_option maxRecDepth 100000

/-- What both say. -/
def MatB (p s : ByteArray) (b : Bool) : Prop := (¬ (checkM (sb p)).1 = 0 ∧ b = false) ∨ ((checkM (sb p)).1 = 0 ∧ ∃ n os, AltG (AtomG n) os (sb p) ∧ (b = true ↔ s.size ≤ 200 ∧ LgA os (sb s)))
theorem MatB.one {p s : ByteArray} {b c : Bool} (h : MatB p s b) (k : MatB p s c) : b = c := by
  rcases h with ⟨h1, rfl⟩ | ⟨h1, n, os, h2, h3⟩
  · rcases k with ⟨_, rfl⟩ | ⟨k1, _⟩
    · rfl
    · exact absurd k1 h1
  · rcases k with ⟨k1, _⟩ | ⟨_, m, us, k2, k3⟩
    · exact absurd h1 k1
    · obtain rfl := pat_uni h2 k2
      rw [Bool.eq_iff_iff, h3, k3]
def SpeB (p s : ByteArray) (w : World) (e : Ending) (w' : World) : Prop := ∃ b : Bool, e = .returned (.bool b) ∧ Hid (Below w.heap.size w w' ∧ MatB p s b)
theorem specMatch_core (p s : ByteArray) (w : World) (hpm : p.size ≤ maxLen) : Calls Tryd.prog 4 #[.string p, .string s] w (SpeB p s w) := by
  by_cases hc0 : (checkM (sb p)).1 = 0
  · obtain ⟨os, ho⟩ := pref_is p hpm hc0
    obtain ⟨n, hg⟩ := ho.gr
    have ecut : cut (sb p) 0 p.size = sb p := by unfold cut; rw [List.drop_zero, Nat.sub_zero, ← sb_len, List.take_length]
    rw [ecut] at hg
    by_cases hs : s.size ≤ 200
    · refine (specMatch_ok p s hpm hc0 hs n os hg w).mono ?_
      rintro e w' ⟨b, rfl, H, hb⟩
      exact ⟨b, rfl, hb, .inr ⟨hc0, n, os, hg, H.out.trans ⟨fun q => ⟨hs, q⟩, fun q => q.2⟩⟩⟩
    · refine (specMatch_long p s hpm (by omega) w).mono ?_
      rintro e w' ⟨rfl, hb⟩
      exact ⟨false, rfl, hb, .inr ⟨hc0, n, os, hg, ⟨fun q => (by cases q), fun q => absurd q.1 hs⟩⟩⟩
  · refine (specMatch_bad p s hpm hc0 w).mono ?_
    rintro e w' ⟨rfl, hb⟩
    exact ⟨false, rfl, hb, .inl ⟨hc0, rfl⟩⟩
set_option maxHeartbeats 2000000 in
theorem exMatch_walk (p s : ByteArray) (w : World) (hT : TabD w) : Calls Tryd.prog 3 #[.string p, .string s] w fun e w' => e = .returned (.bool true) ∧ Below w.heap.size w w' := by
  have HT : Hid (TabD w) := hT
  clear hT
  by_cases h1 : (1048576 : Int) < (p.size : Int)
  · go_enter Tryd.func3, Tryd.ntmps3
    go_wp2_with fail
    go_ret
    exact ⟨rfl, Below.refl _ _⟩
  · by_cases h2 : (1048576 : Int) < (s.size : Int)
    · go_enter Tryd.func3, Tryd.ntmps3
      go_wp2_with fail
      go_ret
      exact ⟨rfl, Below.refl _ _⟩
    · have hpm : p.size ≤ maxLen := by unfold maxLen; omega
      have HS : Hid (Calls Tryd.prog 4 #[.string p, .string s] w (SpeB p s w)) := specMatch_core p s w hpm
      have HI : Hid (∀ wx, TabD wx → Calls Tryd.prog 5 #[.string p, .string s] wx (MatR2 p s wx)) := fun wx ht => implMatch_core p s wx hpm ht
      clear hpm
      go_enter Tryd.func3, Tryd.ntmps3
      go_wp2_with fail
      refine HS.out.mono ?_
      rintro e w1 ⟨b, rfl, H1⟩
      have ht1 : TabD w1 := HT.out.chg (S := fun _ => False) (Chg.of_below H1.out.1) (fun q => q)
      have HI1 := HI.out w1 ht1
      clear ht1
      have HI2 : Hid (Calls Tryd.prog 5 #[.string p, .string s] w1 (MatR2 p s w1)) := HI1
      clear HI1
      go_wp2_with fail
      refine HI2.out.mono ?_
      rintro e w2 ⟨c, rfl, H2⟩
      have hbc : c = b := MatB.one (p := p) (s := s) H2.out.2 H1.out.2
      subst hbc
      have HB : Hid (Below w.heap.size w w2) := H1.out.1.trans (H2.out.1.mono H1.out.1.size)
      clear H1 H2
      cases c <;> (go_wp2_with fail; go_ret; exact ⟨rfl, HB.out⟩)
end Go.Proofs.YtbjbdidcnkamaaaDoor

/-
  The law FnExactMatchRegex.
-/
namespace Go.Proofs.YtbjbdidcnkamaaaDoor.exMatch
open Go.ChangeMaps (open_string shut_string)
open Go.ChangeShapes Go.WideShapes Go.ChangeAt Go.WideMaps Go.WideElems Go.RowKit Go.Deep
set_option linter.unusedVariables false
set_option linter.unusedSimpArgs false
set_option maxRecDepth 100000

theorem own : ownKnob Tryd.prog.godebug = none := by kernel_rfl
theorem laidOut : laidOutB Tryd.prog = true := by kernel_rfl
theorem gD64 : Tryd.prog.globalNamed "math/bits.deBruijn64tab" = some 0 := by kernel_rfl
theorem tD64 : (Tryd.prog.globals[0]?).map (·.type) = some 100 := by kernel_rfl
theorem cU8 : Tryd.prog.cellsOf 5 = 1 := by kernel_rfl
theorem cD64 : Tryd.prog.cellsOf 100 = 64 := by kernel_rfl
theorem var_lt {P : Program} {W : World} {n : String} {g : Nat} {cs : Array Value} (hg : P.globalNamed n = some g) (h : W.var? P n = some cs) : g < W.heap.size := by
  unfold World.var? at h
  rw [hg] at h
  simp only [Option.bind_some] at h
  by_cases hlt : g < W.heap.size
  · exact hlt
  · rw [Array.getElem?_eq_none (by omega)] at h
    simp at h
theorem of_laid {W : World} (h : laidMetH Tryd.prog Rows.fnExactMatchRegexRow.laid W) : TabD W := by
  have h' : laidMetH Tryd.prog [("math/bits.deBruijn64tab", Rows.laid_math_bits_deBruijn64tab)] W := h
  clear h
  rw [MakeChecks.laidMetH_plain _ _ _ (by kernel_rfl)] at h'
  obtain ⟨ps, ⟨g0, t0, cs0, f0, p0, q0, hg0, ht0, hv0, hd0, _, _⟩, _⟩ := h'
  obtain rfl := Option.some.inj (gD64.symm.trans hg0)
  obtain rfl := Option.some.inj (tD64.symm.trans ht0)
  have hc := Lib.cells_of_tab (zs := Lib.deBruijn64tab.map Int.ofNat) Tryd.underlying100 Tryd.underlying5 cU8 cD64 hd0
  intro j hj
  rw [World.var?_cell hg0 hv0 j]
  have hl : (cs0.toList)[j]? = some (.int .u8 (Lib.deBruijn64tab.getD j 0)) := by
    rw [hc, List.getElem?_map, List.getElem?_map]
    have : j < Lib.deBruijn64tab.length := hj
    rw [List.getElem?_eq_getElem this]
    simp [List.getD, List.getElem?_eq_getElem this]
  simpa using hl
/-- The door's own heap meets the condition. -/
theorem door_met (os : Os) (args : Array Value) : laidMetH Tryd.prog Rows.fnExactMatchRegexRow.laid ((World.doorLaid Tryd.prog 400 os).forCall (fun _ _ => 0) ⟨#[], args, []⟩).memory :=
  laidMetH_of_parts3 (fuel := 8) (laidMet_of_run' 8 (by kernel_rfl) (by kernel_rfl)) (by kernel_rfl) (by kernel_rfl)
theorem var?_below {P : Program} {B g : Nat} {W W' : World} {n : String} {cs : Array Value} (h : Below B W W') (hg : P.globalNamed n = some g) (hgB : g < B) (hv : W.var? P n = some cs) : W'.var? P n = some cs := by
  unfold World.var? at hv ⊢
  simp only [hg, Option.bind_some] at hv ⊢
  rw [h.block g hgB]
  exact hv

set_option maxRecDepth 100000 in
theorem lifted (os : Os) (started : os.Started) (H : Type) (enc : TypeId × Value → H) :
    ReturnsInHanded {} Tryd.checked os 3 .any (fun w args => (Rows.fnExactMatchRegexSpec.pre enc Tryd.prog Tryd.f3 [] false w args ∧ laidMetH Tryd.prog Rows.fnExactMatchRegexRow.laid w) ∧ sizedMet enc Tryd.prog Tryd.f3 (OpenSpec.ofChange Rows.fnExactMatchRegexSpec) false w args)
      (Rows.fnExactMatchRegexSpec.post enc Tryd.prog Tryd.f3 false true false false) := by
  refine returnsInHanded_of_change_and (C := Tryd.checked) (X := fun w _ => laidMetH Tryd.prog Rows.fnExactMatchRegexRow.laid w) (fun _ _ _ hh h => h.of_heap hh) own started (by kernel_rfl) Tryd.func3
    (ChangeSpec.witness_shaped (enc := enc) (C := Tryd.checked) (os := os) (X := fun w _ => laidMetH Tryd.prog Rows.fnExactMatchRegexRow.laid w) false (World.doorLaid Tryd.prog 400 os) #[.string ⟨#[]⟩, .string ⟨#[]⟩] 8 rfl (World.shaped_of_RefB (by kernel_rfl) (by kernel_rfl)) (by kernel_rfl) (by kernel_rfl) (by kernel_rfl) (door_met os _)) ?_
  intro W base args ds gs before hval0 hW _ _ hL _
  have hval : ∀ (j : Nat) t v, Tryd.f3.params[j]? = some t → args[j]? = some v → Value.okWide Tryd.prog W .any base t v := hval0
  have hW' := hW
  obtain ⟨p, q, hA0, hV, rfl, hfz, hnd⟩ := hW
  have hA : DataW.TrodAll enc Tryd.prog W 0 (fun _ => true) true Tryd.f3.params.toList args.toList ds p := hA0
  rw [Tryd.params3] at hA hval
  obtain ⟨v0, vs0, d0, ds0, p0, q0, hargs, rfl, rfl, h0, r0⟩ := trodAll_cons hA
  obtain ⟨v1, vs1, d1, ds1, p1, q1, rfl, rfl, rfl, h1, r1⟩ := trodAll_cons r0
  obtain ⟨rfl, rfl, rfl⟩ := trodAll_nil r1
  obtain rfl : args = #[v0, v1] := by cases args; simp_all
  obtain ⟨rfl, rfl⟩ := trodVars_none hV
  have k0 := h0
  have kk1 := h1
  have lt0 : ∀ x ∈ p0, x.block < W.heap.size := by obtain ⟨m, hm⟩ := k0; exact DataW.trod_lt m _ _ _ hm
  have lt1 : ∀ x ∈ p1, x.block < W.heap.size := by obtain ⟨m, hm⟩ := kk1; exact DataW.trod_lt m _ _ _ hm
  obtain ⟨sp, rfl, _, _, hsp⟩ := open_string Tryd.underlying9 (hval 0 9 v0 rfl rfl) h0
  obtain ⟨ss, rfl, _, _, hss⟩ := open_string Tryd.underlying9 (hval 1 9 v1 rfl rfl) h1
  clear hA0 hval0
  have hG := of_laid hL
  refine (exMatch_walk sp ss W hG).mono fun e W' ⟨he, bel⟩ => ?_
  subst he
  exact ⟨_, rfl, _, _, _, [], _, [], hW', trodAll_mk1 (shut_bool Tryd.underlying4 _), (trodAll_cons_mk (Below.trod laidOut (by kernel_rfl) (of_decide_eq_true (by kernel_rfl)) k0 bel lt0) (trodAll_cons_mk (Below.trod laidOut (by kernel_rfl) (of_decide_eq_true (by kernel_rfl)) kk1 bel lt1) trodAll_mk0)), rfl, bel.frame _, fun h => by cases h⟩

theorem over : Rows.FnExactMatchRegexSaid :=
  OpenClaim.holds_of_wide 3 Tryd.f3 rfl rfl rfl rfl rfl rfl rfl ⟨rfl, rfl, rfl, rfl, rfl⟩ rfl rfl rfl rfl rfl (by kernel_rfl) Tryd.func3 (by kernel_rfl)
    (of_decide_eq_true (by kernel_rfl)) (by unfold Func.isWrapper; first | (rw [if_pos (by decide +kernel)]; kernel_rfl) | (rw [if_neg (by decide +kernel)]; exact ⟨rfl, rfl⟩))
    (fun os started H enc _ => lifted os started H enc)

theorem card : Rows.FnExactMatchRegexCardSaid :=
  Claim7.holds_tied_plain_at .later [] [.data] true Rows.fnExactMatchRegexCard.stood.harness true
    over (fun _ h => by cases h) (by kernel_rfl) (fun _ h => by cases h) fnExactMatchRegex_row_tie rfl ⟨rfl, rfl⟩ (by kernel_rfl) rfl
    (fun f fn hf hfn => by
      obtain rfl : f = 3 := Option.some.inj ((show Tryd.prog.funcNamed "loop.example/s01854/laws.FnExactMatchRegex" = some 3 by kernel_rfl).symm.trans hf) |>.symm
      obtain rfl : fn = Tryd.f3 := (Option.some.inj (Tryd.func3.symm.trans hfn)).symm
      exact ⟨by kernel_rfl, fun j t ht => by
        rw [Tryd.params3] at ht
        have h3 : t = 9 := by
          rcases j with _ | _ | j
          · simpa using ht.symm
          · simpa using ht.symm
          · simp at ht
        subst h3
        exact (show Tryd.prog.wantsStandIn 9 = false by kernel_rfl)⟩)
    (by kernel_rfl)
end Go.Proofs.YtbjbdidcnkamaaaDoor.exMatch
namespace Go.Proofs.YtbjbdidcnkamaaaDoor
theorem exactMatchRegex_holds : Rows.FnExactMatchRegexCardSaid := exMatch.card
#print axioms exactMatchRegex_holds
end Go.Proofs.YtbjbdidcnkamaaaDoor

