import Derived.Test.YtkidabedcgngcaaGreatDoorPkAK
import Derived.Test.YtkidabedcgngcaaGreatDoorPkAQ
import Derived.Test.YtkidabedcgngcaaGreatDoorQMtE
import Derived.Test.YtkidabedcgngcaaGreatDoorPkAB
import Derived.Test.YtkidabedcgngcaaGreatDoorPkAR
import Derived.Test.YtkidabedcgngcaaGreatDoorPkAC
/-
  Relations between the places of a string, and the words between them.
-/
namespace Go.Proofs.YtkidabedcgngcaaGreatDoor
set_option linter.unusedVariables false
set_option linter.unusedSimpArgs false

/-- Step by step from i to j, the places between below K. -/
inductive Ch (fa : Nat → Nat → Bool) (K : Nat) : Nat → Nat → Prop
  | one {i j : Nat} (h : fa i j = true) (hij : i ≤ j) : Ch fa K i j
  | more {i m j : Nat} (h : fa i m = true) (him : i ≤ m) (hm : m < K) (k : Ch fa K m j) : Ch fa K i j
theorem Ch.le {fa : Nat → Nat → Bool} {K i j : Nat} (h : Ch fa K i j) : i ≤ j := by
  induction h with
  | one _ h => exact h
  | more _ h _ _ ih => omega
theorem Ch.mono {fa : Nat → Nat → Bool} {K K' i j : Nat} (h : Ch fa K i j) (hK : K ≤ K') : Ch fa K' i j := by
  induction h with
  | one h h' => exact .one h h'
  | more h h1 h2 _ ih => exact .more h h1 (by omega) ih
theorem Ch.cat {fa : Nat → Nat → Bool} {K i m j : Nat} (h : Ch fa K i m) (hm : m < K) (k : Ch fa K m j) : Ch fa K i j := by
  induction h with
  | one h h' => exact .more h h' hm k
  | more h h1 h2 _ ih => exact .more h h1 h2 (ih hm k)
theorem Ch.split {fa : Nat → Nat → Bool} {K i j : Nat} (h : Ch fa (K + 1) i j) : Ch fa K i j ∨ (Ch fa K i K ∧ Ch fa K K j) := by
  induction h with
  | one h h' => exact .inl (.one h h')
  | @more i m j h h1 h2 _ ih =>
    by_cases e : m = K
    · subst e
      rcases ih with k | ⟨_, k⟩
      · exact .inr ⟨.one h h1, k⟩
      · exact .inr ⟨.one h h1, k⟩
    · rcases ih with k | ⟨k1, k2⟩
      · exact .inl (.more h h1 (by omega) k)
      · exact .inr ⟨.more h h1 (by omega) k1, k2⟩
theorem plK_iff (fa : Nat → Nat → Bool) : ∀ (K i j : Nat), i ≤ j → (plK fa K i j = true ↔ Ch fa K i j)
  | 0, i, j, hij => by
    constructor
    · exact fun h => .one h hij
    · intro h
      cases h with
      | one h _ => exact h
      | more _ _ h _ => omega
  | K + 1, i, j, hij => by
    simp only [plK, Bool.or_eq_true, Bool.and_eq_true, decide_eq_true_eq]
    constructor
    · rintro (h | ⟨⟨⟨h1, h2⟩, h3⟩, h4⟩)
      · exact ((plK_iff fa K i j hij).1 h).mono (by omega)
      · exact (((plK_iff fa K i K h1).1 h3).mono (by omega)).cat (by omega) (((plK_iff fa K K j h2).1 h4).mono (by omega))
    · intro h
      rcases h.split with k | ⟨k1, k2⟩
      · exact .inl ((plK_iff fa K i j hij).2 k)
      · exact .inr ⟨⟨⟨k1.le, k2.le⟩, (plK_iff fa K i K k1.le).2 k1⟩, (plK_iff fa K K j k2.le).2 k2⟩
/-- The relation 'f' says which pieces of 's' are words of 'P'. -/
def RelW (s : List UInt8) (f : Nat → Nat → Bool) (P : List UInt8 → Prop) : Prop := ∀ i j, i ≤ j → j ≤ s.length → (f i j = true ↔ P (cut s i j))
theorem cut_split {s : List UInt8} {i j : Nat} {x y : List UInt8} (hij : i ≤ j) (hj : j ≤ s.length) (h : cut s i j = x ++ y) : ∃ m, i ≤ m ∧ m ≤ j ∧ x = cut s i m ∧ y = cut s m j := by
  obtain ⟨h1, h2, h3⟩ := cutTwo h hj hij
  exact ⟨i + x.length, by omega, h3, h1.symm, h2.symm⟩
theorem RelW.plus {s : List UInt8} {fa : Nat → Nat → Bool} {P : List UInt8 → Prop} (h : RelW s fa P) : RelW s (plK fa (s.length + 1)) (Pls P) := by
  intro i j hij hj
  rw [plK_iff fa _ i j hij]
  constructor
  · intro k
    induction k with
    | one h' h1 => exact .one ((h _ _ h1 hj).1 h')
    | @more i m j h' h1 h2 k ih =>
      have hmj := k.le
      rw [cut_cat h1 hmj]
      exact .more ((h i m h1 (by omega)).1 h') (ih hmj hj)
  · intro k
    generalize hx : cut s i j = x at k
    induction k generalizing i j with
    | one h' => subst hx; exact .one ((h i j hij hj).2 h') hij
    | more h' k ih =>
      obtain ⟨m, h1, h2, h3, h4⟩ := cut_split hij hj hx
      exact .more ((h i m h1 (by omega)).2 (by rw [← h3]; exact h')) h1 (by omega) (ih m j h2 hj h4.symm)
theorem RelW.or {s : List UInt8} {fa fb : Nat → Nat → Bool} {P Q : List UInt8 → Prop} (h : RelW s fa P) (k : RelW s fb Q) : RelW s (fun i j => fa i j || fb i j) (fun x => P x ∨ Q x) := by
  intro i j hij hj
  rw [Bool.or_eq_true, h i j hij hj, k i j hij hj]
theorem relW_empty (s : List UInt8) : RelW s (fun i j => i == j) (fun x => x = []) := by
  intro i j hij hj
  rw [beq_iff_eq]
  constructor
  · intro e; rw [e]; exact cut_nil s j
  · intro e
    have := cut_len (p := s) (i := i) hj
    rw [e] at this
    simp at this
    omega
theorem RelW.then {s : List UInt8} {fa fb : Nat → Nat → Bool} {P Q : List UInt8 → Prop} (h : RelW s fa P) (k : RelW s fb Q) : RelW s (fun i j => thF fa fb i j (s.length + 1)) (fun x => ∃ y z, x = y ++ z ∧ P y ∧ Q z) := by
  intro i j hij hj
  rw [thF_iff]
  constructor
  · rintro ⟨m, h0, h1, h2, h3, h4⟩
    exact ⟨cut s i m, cut s m j, cut_cat h1 h2, (h i m h1 (by omega)).1 h3, (k m j h2 hj).1 h4⟩
  · rintro ⟨y, z, hx, hy, hz⟩
    obtain ⟨m, h1, h2, h3, h4⟩ := cut_split hij hj hx
    exact ⟨m, by omega, h1, h2, (h i m h1 (by omega)).2 (by rw [← h3]; exact hy), (k m j h2 hj).2 (by rw [← h4]; exact hz)⟩
theorem RelW.iff {s : List UInt8} {f g : Nat → Nat → Bool} {P Q : List UInt8 → Prop} (h : RelW s f P) (hf : ∀ i j, i ≤ j → j < s.length + 1 → g i j = f i j) (hp : ∀ x, Q x ↔ P x) : RelW s g Q := by
  intro i j hij hj
  rw [hf i j hij (by omega), h i j hij hj, hp]
theorem Pls.mono {P Q : List UInt8 → Prop} (h : ∀ x, P x → Q x) {x : List UInt8} (k : Pls P x) : Pls Q x := by
  induction k with
  | one k => exact .one (h _ k)
  | more k _ ih => exact .more (h _ k) ih
theorem Pls.cat {P : List UInt8 → Prop} {x y : List UInt8} (h : Pls P x) (k : Pls P y) : Pls P (x ++ y) := by
  induction h with
  | one h => exact .more h k
  | more h _ ih => rw [List.append_assoc]; exact .more h ih
/-- A sign behind signs. -/
theorem sign_plus (P : List UInt8 → Prop) (o r : Bool) (x : List UInt8) : Pls (RepL P o r) x ↔ RepL P o true x := by
  have hsub : ∀ y, RepL P o r y → RepL P o true y := by
    intro y h
    rcases h with h | h
    · exact .inl h
    · refine .inr ?_
      rw [if_pos rfl]
      cases r with
      | true => rw [if_pos rfl] at h; exact h
      | false => rw [if_neg (by decide)] at h; exact .one h
  constructor
  · intro k
    induction k with
    | one h => exact hsub _ h
    | @more y z h k ih =>
      rcases hsub y h with ⟨ho, hy⟩ | hy
      · rw [hy]; exact ih
      · rcases ih with ⟨ho, hz⟩ | hz
        · rw [hz, List.append_nil]; exact .inr hy
        · rw [if_pos rfl] at hy hz
          exact .inr (by rw [if_pos rfl]; exact hy.cat hz)
  · rintro (h | h)
    · exact .one (.inl h)
    · rw [if_pos rfl] at h
      exact h.mono (fun y hy => .inr (by
        cases r with
        | true => rw [if_pos rfl]; exact .one hy
        | false => rw [if_neg (by decide)]; exact hy))
theorem sign_opt (P : List UInt8 → Prop) (o r : Bool) (x : List UInt8) : (RepL P o r x ∨ x = []) ↔ RepL P true r x := by
  constructor
  · rintro ((⟨_, h⟩ | h) | h)
    · exact .inl ⟨rfl, h⟩
    · exact .inr h
    · exact .inl ⟨rfl, h⟩
  · rintro (⟨_, h⟩ | h)
    · exact .inr h
    · exact .inl (.inr h)
end Go.Proofs.YtkidabedcgngcaaGreatDoor

/-
  spec's l4Holds.
-/
namespace Go.Proofs.YtkidabedcgngcaaGreatDoor
open Go.ChangeShapes Go.WideShapes Go.ChangeAt Go.RowKit Go.Deep
set_option linter.unusedVariables false
set_option linter.unusedSimpArgs false
set_option maxRecDepth 100000

theorem clsM_lt {p : List UInt8} {j : Nat} {b : Bool} {f g : UInt8 → Bool} {k : Nat} (h : clsM p j b f = .inl (g, k)) : j < p.length := by
  unfold clsM at h
  split at h
  · assumption
  · cases h
/-- One round over a class without a fault. -/
theorem hold_step {p : List UInt8} {j : Nat} {it : Bool} {g f : UInt8 → Bool} {n : Nat} (h : clsM p j it g = .inl (f, n)) :
    (p[j]? = some 93 ∧ it = true ∧ g = f ∧ j + 1 = n) ∨
    ∃ x lo k1, p[j]? = some x ∧ ¬ x = 93 ∧ chM p j = (lo, k1, true) ∧ k1 < p.length ∧ ∃ y, p[k1]? = some y ∧
      ((y = 45 ∧ ∃ hi m, chM p (k1 + 1) = (hi, m, true) ∧ clsM p m true (fun c => g c || (decide (lo ≤ c) && decide (c ≤ hi))) = .inl (f, n)) ∨
       (¬ y = 45 ∧ clsM p k1 true (fun c => g c || (decide (lo ≤ c) && decide (c ≤ lo))) = .inl (f, n))) := by
  have hj := clsM_lt h
  unfold clsM at h
  rw [dif_pos hj] at h
  split at h
  · next hc =>
    simp only [Sum.inl.injEq, Prod.mk.injEq] at h
    exact .inl ⟨hc.1, hc.2, h.1, h.2⟩
  · split at h
    · cases h
    · next a b k hk =>
      refine .inr ?_
      obtain ⟨x, hx⟩ : ∃ x, p[j]? = some x := ⟨_, List.getElem?_eq_getElem hj⟩
      unfold itemM at hk
      split at hk
      · cases hk
      · next lo k1 hch =>
        have hx93 : ¬ x = 93 := fun q => by
          unfold chM at hch
          rw [hx] at hch
          simp [q] at hch
        split at hk
        · next h45 =>
          split at hk
          · cases hk
          · next hi m hch2 =>
            split at hk
            · cases hk
            · simp only [Sum.inl.injEq, Prod.mk.injEq] at hk
              obtain ⟨rfl, rfl, rfl⟩ := hk
              exact ⟨x, lo, k1, hx, hx93, hch, lt_of_at h45, 45, h45, .inl ⟨rfl, hi, m, hch2, h⟩⟩
        · next h45 =>
          simp only [Sum.inl.injEq, Prod.mk.injEq] at hk
          obtain ⟨rfl, rfl, rfl⟩ := hk
          have hk1 := clsM_lt h
          obtain ⟨y, hy⟩ : ∃ y, p[k1]? = some y := ⟨_, List.getElem?_eq_getElem hk1⟩
          exact ⟨x, lo, k1, hx, hx93, hch, hk1, y, hy, .inr ⟨fun q => h45 (by rw [hy, q]), h⟩⟩
set_option maxHeartbeats 16000000 in
theorem l4Holds_core (q : ByteArray) (hq : q.size ≤ 200) (b : UInt8) (f : UInt8 → Bool) (h : classM (sb q) 1 = .inl (f, q.size)) (w : World) : Calls Tryz.prog 185 #[.string q, .int .u8 (b.toNat : Int)] w fun e w' => e = .returned (.bool (f b)) ∧ w' = w := by
  obtain ⟨ng, f0, j0, hj0, hc0, hf, hng⟩ : ∃ (ng : Bool) (f0 : UInt8 → Bool) (j0 : Nat), j0 = (if ng = true then 2 else 1) ∧ clsM (sb q) j0 false (fun _ => false) = .inl (f0, q.size) ∧ (∀ c, f c = (f0 c != ng)) ∧ (ng = true ↔ (sb q)[1]? = some 94) := by
    unfold classM at h
    split at h
    · next h94 =>
      split at h
      · next g k hk =>
        simp only [Sum.inl.injEq, Prod.mk.injEq] at h
        obtain ⟨rfl, rfl⟩ := h
        exact ⟨true, g, 2, rfl, hk, fun c => by show (!g c) = (g c != true); cases g c <;> rfl, ⟨fun _ => h94, fun _ => rfl⟩⟩
      · cases h
    · next h94 => exact ⟨false, f, 1, rfl, h, fun c => by cases f c <;> rfl, ⟨fun q => (by cases q), fun q => absurd q h94⟩⟩
  have hjl := clsM_lt hc0
  rw [sb_len] at hjl
  have h1l : 1 < q.size := by
    cases ng
    · simp at hj0; omega
    · have := lt_of_at (hng.1 rfl); rw [sb_len] at this; exact this
  obtain ⟨x1, hx1⟩ : ∃ x, (sb q)[1]? = some x := ⟨_, List.getElem?_eq_getElem (by rw [sb_len]; exact h1l)⟩
  obtain ⟨_, gx1⟩ := sb_get hx1
  have HC0 : Hid (clsM (sb q) j0 false (fun _ => false) = .inl (f0, q.size)) := hc0
  have HFn : Hid (∀ c, f c = (f0 c != ng)) := hf
  have z1 : (1 : Int) < (q.size : Int) := by omega
  clear h hc0 hf
  cases ng
  case false =>
    have z94 : ((x1.toNat : Int) == 94) = false := beq_eq_false_iff_ne.2 (ne_u8 (c := 94) (fun q => by have h1 := hng.2 (by rw [hx1, q]); cases h1))
    obtain rfl : j0 = 1 := by simpa using hj0
    clear hx1 hng hj0
    go_enter Tryz.func185, Tryz.ntmps185
    go_wp2_with fail
    go_loopw [5, 7] (fun jv inv wr => ∃ (j : Nat) (it gb : Bool), j ≤ q.size ∧ jv = .int .i64 (j : Int) ∧ inv = .bool gb ∧ Hid (∃ g : UInt8 → Bool, g b = gb ∧ clsM (sb q) j it g = .inl (f0, q.size)) ∧ wr = w) (fun jv _ _ => q.size - (intOf jv).toNat)
    case atStart => exact ⟨_, false, false, by omega, by first | rfl | go_num, rfl, ⟨fun _ => false, rfl, HC0.out⟩, rfl⟩
    case round =>
      obtain ⟨j, it, gb, hj, rfl, rfl, HC, hwr⟩ := hrel
      rw [hwr]
      clear hwr
      obtain ⟨g, hg, hC⟩ := HC.out
      have HG : Hid (g b = gb) := hg
      rcases hold_step hC with ⟨h93, _, hf, hn⟩ | ⟨x, lo, k1, hx, hx93, hch, hk1, y, hy, hrest⟩
      · obtain ⟨_, gx⟩ := sb_get h93
        have zj : (j : Int) < (q.size : Int) := by have := lt_of_at h93; rw [sb_len] at this; omega
        have HF : Hid (gb = f0 b) := by show gb = _; rw [← HG.out, hf]
        clear hC hg hf hn h93 HC0 HC
        go_wp2_with fail
        go_ret
        exact ⟨by rw [HF.out, HFn.out b]; cases f0 b <;> rfl, rfl⟩
      · obtain ⟨_, gx⟩ := sb_get hx
        obtain ⟨_, gy⟩ := sb_get hy
        have hjl := lt_of_at hx
        rw [sb_len] at hjl hk1
        have zj : (j : Int) < (q.size : Int) := by omega
        have zk : (k1 : Int) < (q.size : Int) := by omega
        have hkj := (chM_gt hch).1
        have z93 : ((x.toNat : Int) == 93) = false := beq_eq_false_iff_ne.2 (ne_u8 (c := 93) hx93)
        have HCh : Hid (chM (sb q) j = (lo, k1, true)) := hch
        clear hC hg hx hx93 hch hy HC0 HC
        go_wp2_with fail
        refine (l4Ch_core q j w hq (by omega) lo k1 true HCh.out).mono ?_
        rintro e' w' ⟨rfl, hw'⟩
        rw [hw']
        clear hw'
        rcases hrest with ⟨h45, hi, m, hch2, hcl⟩ | ⟨h45, hcl⟩
        · have z45 : ((y.toNat : Int) == 45) = true := by rw [h45]; rfl
          have HCh2 : Hid (chM (sb q) (k1 + 1) = (hi, m, true)) := hch2
          have hm := (chM_gt hch2)
          rw [sb_len] at hm
          have HCl : Hid (clsM (sb q) m true (fun c => g c || (decide (lo ≤ c) && decide (c ≤ hi))) = .inl (f0, q.size)) := hcl
          have HZ : Hid (((k1 : Int) + 1) = ((k1 + 1 : Nat) : Int)) := by show _ = _; omega
          clear hch2 hcl h45
          go_wp2_with fail
          rw [HZ.out]
          refine (l4Ch_core q (k1 + 1) w hq (by omega) hi m true HCh2.out).mono ?_
          rintro e' w' ⟨rfl, hw'⟩
          rw [hw']
          clear hw'
          cases gb
          case true =>
            have HV : Hid ((g b || (decide (lo ≤ b) && decide (b ≤ hi))) = true) := by show _ = _; rw [HG.out]; rfl
            go_wp2_with fail
            go_roundw
            case rel => exact ⟨m, true, true, by omega, by first | rfl | go_num, by first | rfl | (simp; omega), ⟨_, HV.out, HCl.out⟩, trivial⟩
            case measure => simp [intOf]; omega
          case false =>
            by_cases hlo : lo ≤ b
            · have hd1 : ((lo.toNat : Int) ≤ (b.toNat : Int)) := by have := UInt8.le_iff_toNat_le.1 hlo; omega
              by_cases hhi : b ≤ hi
              · have hd2 : ((b.toNat : Int) ≤ (hi.toNat : Int)) := by have := UInt8.le_iff_toNat_le.1 hhi; omega
                have HV : Hid ((g b || (decide (lo ≤ b) && decide (b ≤ hi))) = true) := by show _ = _; rw [HG.out]; simp [hlo, hhi]
                go_wp2_with fail
                go_roundw
                case rel => exact ⟨m, true, true, by omega, by first | rfl | go_num, by first | rfl | (simp; omega), ⟨_, HV.out, HCl.out⟩, trivial⟩
                case measure => simp [intOf]; omega
              · have hd2 : ¬ ((b.toNat : Int) ≤ (hi.toNat : Int)) := fun q => hhi (UInt8.le_iff_toNat_le.2 (by omega))
                have HV : Hid ((g b || (decide (lo ≤ b) && decide (b ≤ hi))) = false) := by show _ = _; rw [HG.out]; simp [hhi]
                go_wp2_with fail
                go_roundw
                case rel => exact ⟨m, true, false, by omega, by first | rfl | go_num, by first | rfl | (simp; omega), ⟨_, HV.out, HCl.out⟩, trivial⟩
                case measure => simp [intOf]; omega
            · have hd1 : ¬ ((lo.toNat : Int) ≤ (b.toNat : Int)) := fun q => hlo (UInt8.le_iff_toNat_le.2 (by omega))
              have HV : Hid ((g b || (decide (lo ≤ b) && decide (b ≤ hi))) = false) := by show _ = _; rw [HG.out]; simp [hlo]
              go_wp2_with fail
              go_roundw
              case rel => exact ⟨m, true, false, by omega, by first | rfl | go_num, by first | rfl | (simp; omega), ⟨_, HV.out, HCl.out⟩, trivial⟩
              case measure => simp [intOf]; omega
        · have z45 : ((y.toNat : Int) == 45) = false := beq_eq_false_iff_ne.2 (ne_u8 (c := 45) h45)
          have HCl : Hid (clsM (sb q) k1 true (fun c => g c || (decide (lo ≤ c) && decide (c ≤ lo))) = .inl (f0, q.size)) := hcl
          clear hcl h45
          cases gb
          case true =>
            have HV : Hid ((g b || (decide (lo ≤ b) && decide (b ≤ lo))) = true) := by show _ = _; rw [HG.out]; rfl
            go_wp2_with fail
            go_roundw
            case rel => exact ⟨k1, true, true, by omega, by first | rfl | go_num, by first | rfl | (simp; omega), ⟨_, HV.out, HCl.out⟩, trivial⟩
            case measure => simp [intOf]; omega
          case false =>
            by_cases hlo : lo ≤ b
            · have hd1 : ((lo.toNat : Int) ≤ (b.toNat : Int)) := by have := UInt8.le_iff_toNat_le.1 hlo; omega
              by_cases hhi : b ≤ lo
              · have hd2 : ((b.toNat : Int) ≤ (lo.toNat : Int)) := by have := UInt8.le_iff_toNat_le.1 hhi; omega
                have HV : Hid ((g b || (decide (lo ≤ b) && decide (b ≤ lo))) = true) := by show _ = _; rw [HG.out]; simp [hlo, hhi]
                go_wp2_with fail
                go_roundw
                case rel => exact ⟨k1, true, true, by omega, by first | rfl | go_num, by first | rfl | (simp; omega), ⟨_, HV.out, HCl.out⟩, trivial⟩
                case measure => simp [intOf]; omega
              · have hd2 : ¬ ((b.toNat : Int) ≤ (lo.toNat : Int)) := fun q => hhi (UInt8.le_iff_toNat_le.2 (by omega))
                have HV : Hid ((g b || (decide (lo ≤ b) && decide (b ≤ lo))) = false) := by show _ = _; rw [HG.out]; simp [hhi]
                go_wp2_with fail
                go_roundw
                case rel => exact ⟨k1, true, false, by omega, by first | rfl | go_num, by first | rfl | (simp; omega), ⟨_, HV.out, HCl.out⟩, trivial⟩
                case measure => simp [intOf]; omega
            · have hd1 : ¬ ((lo.toNat : Int) ≤ (b.toNat : Int)) := fun q => hlo (UInt8.le_iff_toNat_le.2 (by omega))
              have HV : Hid ((g b || (decide (lo ≤ b) && decide (b ≤ lo))) = false) := by show _ = _; rw [HG.out]; simp [hlo]
              go_wp2_with fail
              go_roundw
              case rel => exact ⟨k1, true, false, by omega, by first | rfl | go_num, by first | rfl | (simp; omega), ⟨_, HV.out, HCl.out⟩, trivial⟩
              case measure => simp [intOf]; omega

  case true =>
    have z94 : ((x1.toNat : Int) == 94) = true := by
      have h1 := hng.1 rfl
      rw [hx1] at h1
      cases h1
      rfl
    obtain rfl : j0 = 2 := by simpa using hj0
    clear hx1 hng hj0
    go_enter Tryz.func185, Tryz.ntmps185
    go_wp2_with fail
    go_loopw [5, 7] (fun jv inv wr => ∃ (j : Nat) (it gb : Bool), j ≤ q.size ∧ jv = .int .i64 (j : Int) ∧ inv = .bool gb ∧ Hid (∃ g : UInt8 → Bool, g b = gb ∧ clsM (sb q) j it g = .inl (f0, q.size)) ∧ wr = w) (fun jv _ _ => q.size - (intOf jv).toNat)
    case atStart => exact ⟨_, false, false, by omega, by first | rfl | go_num, rfl, ⟨fun _ => false, rfl, HC0.out⟩, rfl⟩
    case round =>
      obtain ⟨j, it, gb, hj, rfl, rfl, HC, hwr⟩ := hrel
      rw [hwr]
      clear hwr
      obtain ⟨g, hg, hC⟩ := HC.out
      have HG : Hid (g b = gb) := hg
      rcases hold_step hC with ⟨h93, _, hf, hn⟩ | ⟨x, lo, k1, hx, hx93, hch, hk1, y, hy, hrest⟩
      · obtain ⟨_, gx⟩ := sb_get h93
        have zj : (j : Int) < (q.size : Int) := by have := lt_of_at h93; rw [sb_len] at this; omega
        have HF : Hid (gb = f0 b) := by show gb = _; rw [← HG.out, hf]
        clear hC hg hf hn h93 HC0 HC
        go_wp2_with fail
        go_ret
        exact ⟨by rw [HF.out, HFn.out b]; cases f0 b <;> rfl, rfl⟩
      · obtain ⟨_, gx⟩ := sb_get hx
        obtain ⟨_, gy⟩ := sb_get hy
        have hjl := lt_of_at hx
        rw [sb_len] at hjl hk1
        have zj : (j : Int) < (q.size : Int) := by omega
        have zk : (k1 : Int) < (q.size : Int) := by omega
        have hkj := (chM_gt hch).1
        have z93 : ((x.toNat : Int) == 93) = false := beq_eq_false_iff_ne.2 (ne_u8 (c := 93) hx93)
        have HCh : Hid (chM (sb q) j = (lo, k1, true)) := hch
        clear hC hg hx hx93 hch hy HC0 HC
        go_wp2_with fail
        refine (l4Ch_core q j w hq (by omega) lo k1 true HCh.out).mono ?_
        rintro e' w' ⟨rfl, hw'⟩
        rw [hw']
        clear hw'
        rcases hrest with ⟨h45, hi, m, hch2, hcl⟩ | ⟨h45, hcl⟩
        · have z45 : ((y.toNat : Int) == 45) = true := by rw [h45]; rfl
          have HCh2 : Hid (chM (sb q) (k1 + 1) = (hi, m, true)) := hch2
          have hm := (chM_gt hch2)
          rw [sb_len] at hm
          have HCl : Hid (clsM (sb q) m true (fun c => g c || (decide (lo ≤ c) && decide (c ≤ hi))) = .inl (f0, q.size)) := hcl
          have HZ : Hid (((k1 : Int) + 1) = ((k1 + 1 : Nat) : Int)) := by show _ = _; omega
          clear hch2 hcl h45
          go_wp2_with fail
          rw [HZ.out]
          refine (l4Ch_core q (k1 + 1) w hq (by omega) hi m true HCh2.out).mono ?_
          rintro e' w' ⟨rfl, hw'⟩
          rw [hw']
          clear hw'
          cases gb
          case true =>
            have HV : Hid ((g b || (decide (lo ≤ b) && decide (b ≤ hi))) = true) := by show _ = _; rw [HG.out]; rfl
            go_wp2_with fail
            go_roundw
            case rel => exact ⟨m, true, true, by omega, by first | rfl | go_num, by first | rfl | (simp; omega), ⟨_, HV.out, HCl.out⟩, trivial⟩
            case measure => simp [intOf]; omega
          case false =>
            by_cases hlo : lo ≤ b
            · have hd1 : ((lo.toNat : Int) ≤ (b.toNat : Int)) := by have := UInt8.le_iff_toNat_le.1 hlo; omega
              by_cases hhi : b ≤ hi
              · have hd2 : ((b.toNat : Int) ≤ (hi.toNat : Int)) := by have := UInt8.le_iff_toNat_le.1 hhi; omega
                have HV : Hid ((g b || (decide (lo ≤ b) && decide (b ≤ hi))) = true) := by show _ = _; rw [HG.out]; simp [hlo, hhi]
                go_wp2_with fail
                go_roundw
                case rel => exact ⟨m, true, true, by omega, by first | rfl | go_num, by first | rfl | (simp; omega), ⟨_, HV.out, HCl.out⟩, trivial⟩
                case measure => simp [intOf]; omega
              · have hd2 : ¬ ((b.toNat : Int) ≤ (hi.toNat : Int)) := fun q => hhi (UInt8.le_iff_toNat_le.2 (by omega))
                have HV : Hid ((g b || (decide (lo ≤ b) && decide (b ≤ hi))) = false) := by show _ = _; rw [HG.out]; simp [hhi]
                go_wp2_with fail
                go_roundw
                case rel => exact ⟨m, true, false, by omega, by first | rfl | go_num, by first | rfl | (simp; omega), ⟨_, HV.out, HCl.out⟩, trivial⟩
                case measure => simp [intOf]; omega
            · have hd1 : ¬ ((lo.toNat : Int) ≤ (b.toNat : Int)) := fun q => hlo (UInt8.le_iff_toNat_le.2 (by omega))
              have HV : Hid ((g b || (decide (lo ≤ b) && decide (b ≤ hi))) = false) := by show _ = _; rw [HG.out]; simp [hlo]
              go_wp2_with fail
              go_roundw
              case rel => exact ⟨m, true, false, by omega, by first | rfl | go_num, by first | rfl | (simp; omega), ⟨_, HV.out, HCl.out⟩, trivial⟩
              case measure => simp [intOf]; omega
        · have z45 : ((y.toNat : Int) == 45) = false := beq_eq_false_iff_ne.2 (ne_u8 (c := 45) h45)
          have HCl : Hid (clsM (sb q) k1 true (fun c => g c || (decide (lo ≤ c) && decide (c ≤ lo))) = .inl (f0, q.size)) := hcl
          clear hcl h45
          cases gb
          case true =>
            have HV : Hid ((g b || (decide (lo ≤ b) && decide (b ≤ lo))) = true) := by show _ = _; rw [HG.out]; rfl
            go_wp2_with fail
            go_roundw
            case rel => exact ⟨k1, true, true, by omega, by first | rfl | go_num, by first | rfl | (simp; omega), ⟨_, HV.out, HCl.out⟩, trivial⟩
            case measure => simp [intOf]; omega
          case false =>
            by_cases hlo : lo ≤ b
            · have hd1 : ((lo.toNat : Int) ≤ (b.toNat : Int)) := by have := UInt8.le_iff_toNat_le.1 hlo; omega
              by_cases hhi : b ≤ lo
              · have hd2 : ((b.toNat : Int) ≤ (lo.toNat : Int)) := by have := UInt8.le_iff_toNat_le.1 hhi; omega
                have HV : Hid ((g b || (decide (lo ≤ b) && decide (b ≤ lo))) = true) := by show _ = _; rw [HG.out]; simp [hlo, hhi]
                go_wp2_with fail
                go_roundw
                case rel => exact ⟨k1, true, true, by omega, by first | rfl | go_num, by first | rfl | (simp; omega), ⟨_, HV.out, HCl.out⟩, trivial⟩
                case measure => simp [intOf]; omega
              · have hd2 : ¬ ((b.toNat : Int) ≤ (lo.toNat : Int)) := fun q => hhi (UInt8.le_iff_toNat_le.2 (by omega))
                have HV : Hid ((g b || (decide (lo ≤ b) && decide (b ≤ lo))) = false) := by show _ = _; rw [HG.out]; simp [hhi]
                go_wp2_with fail
                go_roundw
                case rel => exact ⟨k1, true, false, by omega, by first | rfl | go_num, by first | rfl | (simp; omega), ⟨_, HV.out, HCl.out⟩, trivial⟩
                case measure => simp [intOf]; omega
            · have hd1 : ¬ ((lo.toNat : Int) ≤ (b.toNat : Int)) := fun q => hlo (UInt8.le_iff_toNat_le.2 (by omega))
              have HV : Hid ((g b || (decide (lo ≤ b) && decide (b ≤ lo))) = false) := by show _ = _; rw [HG.out]; simp [hlo]
              go_wp2_with fail
              go_roundw
              case rel => exact ⟨k1, true, false, by omega, by first | rfl | go_num, by first | rfl | (simp; omega), ⟨_, HV.out, HCl.out⟩, trivial⟩
              case measure => simp [intOf]; omega
end Go.Proofs.YtkidabedcgngcaaGreatDoor

/-
  spec's l4Alt, given l4Seq.
-/
namespace Go.Proofs.YtkidabedcgngcaaGreatDoor
open Go.ChangeShapes Go.WideShapes Go.ChangeAt Go.RowKit Go.Deep
set_option linter.unusedVariables false
set_option linter.unusedSimpArgs false
set_option maxRecDepth 100000

/-- A relation handed out that says which pieces of s are words of P. -/
def MxG (s : ByteArray) (P : List UInt8 → Prop) (w : World) (r : Ending) (w' : World) : Prop := ∃ g cp ρ γ f, r = .returned (slV g (s.size + 1) cp) ∧ s.size + 1 ≤ cp ∧ Hid (MatR w' g (s.size + 1) ρ γ f ∧ RelW (sb s) f P) ∧ Below w.heap.size w w'
theorem MaG.says {s : ByteArray} {F : Nat → Nat → Bool} {P : List UInt8 → Prop} {w w' : World} {r : Ending} (h : MaG (s.size + 1) F w r w') (hF : RelW (sb s) F P) : MxG s P w r w' := by
  obtain ⟨g, cp, ρ, γ, f, h1, h2, h3, h4⟩ := h
  exact ⟨g, cp, ρ, γ, f, h1, h2, ⟨h3.out.1, hF.iff (fun i j hij hj => h3.out.2 i j hij (by rw [sb_len] at hj; exact hj)) (fun _ => Iff.rfl)⟩, h4⟩
/-- What the three functions say, of texts no longer than m. -/
def AltW (s : ByteArray) (m : Nat) : Prop := ∀ (n : Nat) (os : List (List Pat)) (p : ByteArray) (w : World), p.size ≤ m → p.size ≤ 200 → AltG (AtomG n) os (sb p) → Calls Tryz.prog 163 #[.string p, .string s] w (MxG s (LgA os) w)
def SeqW (s : ByteArray) (m : Nat) : Prop := ∀ (n : Nat) (ts : List Pat) (p : ByteArray) (w : World), p.size ≤ m → p.size ≤ 200 → SeqG (AtomG n) ts (sb p) → Calls Tryz.prog 171 #[.string p, .string s] w (MxG s (LgS ts) w)
def AtmW (s : ByteArray) (m : Nat) : Prop := ∀ (n : Nat) (t : Pat) (p : ByteArray) (w : World), p.size ≤ m → p.size ≤ 200 → AtomG n (sb p) t → Calls Tryz.prog 178 #[.string p, .string s] w (MxG s (Lg t) w)
theorem LgA_snoc (os : List (List Pat)) (ts : List Pat) (x : List UInt8) : LgA (os ++ [ts]) x ↔ LgA os x ∨ LgS ts x := by
  rw [LgA_mem, LgA_mem]
  constructor
  · rintro ⟨t, ht, h⟩
    rcases List.mem_append.1 ht with q | q
    · exact .inl ⟨t, q, h⟩
    · simp at q; subst q; exact .inr h
  · rintro (⟨t, ht, h⟩ | h)
    · exact ⟨t, List.mem_append_left _ ht, h⟩
    · exact ⟨ts, by simp, h⟩
set_option maxHeartbeats 4000000 in
theorem alt_says {s : ByteArray} (hs : s.size ≤ 200) {m : Nat} (H : SeqW s m) : AltW s m := by
  intro n os p w hpm hp hG
  have HH : Hid (SeqW s m ∧ p.size ≤ m ∧ p.size ≤ 200) := ⟨H, hpm, hp⟩
  have HPt : Hid (∀ wx, Calls Tryz.prog 169 #[.string p] wx (PrtP n os p.size wx)) := fun wx => l4Parts_says hp hG wx
  have hol : os.length ≤ 201 := by
    obtain ⟨k, h1, h2⟩ := hG.tokn
    have := tokn_le h2
    rw [sb_len] at this
    omega
  have HNo : Hid (Calls Tryz.prog 168 #[.int .i64 (s.size : Int)] w (MaP (s.size + 1) (fun _ _ => false) w)) := l4None_core s.size (by omega) w
  clear H hpm hp hG
  go_enter Tryz.func163, Tryz.ntmps163
  go_wp2_with fail
  refine HNo.out.mono ?_
  rintro r w1 ⟨g, cp, ρ, γ, rfl, HM, hb1⟩
  have hcp := HM.out.out.caps.1
  go_wp2_with fail
  refine (HPt.out w1).mono ?_
  rintro r w2 ⟨gq, cq, us, rfl, hul, HU, hb2⟩
  have hgq := HU.out.1.lt
  have k2 : Below w.heap.size w w2 := hb1.trans (hb2.mono hb1.size)
  obtain ⟨N, hN⟩ : ∃ N, N = os.length := ⟨_, rfl⟩
  rw [← hN] at hol ⊢
  have HN : Hid (N = os.length ∧ us.length = N) := ⟨hN, by rw [hul, hN]⟩
  have HM2 : Hid (MatR w2 g (s.size + 1) ρ γ (fun _ _ => false)) := HM.out.read.below hb2 (Nat.le_refl _)
  clear hN hul
  go_wp2_with fail
  go_loopw [5, 7] (fun ov kv wr => ∃ (k go co : Nat) (ρo γo : Nat → Nat) (f : Nat → Nat → Bool), k ≤ N ∧ kv = .int .i64 k ∧ ov = slV go (s.size + 1) co ∧ s.size + 1 ≤ co ∧ Hid (MatR wr go (s.size + 1) ρo γo f ∧ RelW (sb s) f (LgA (os.take k)) ∧ Below w2.heap.size w2 wr)) (fun _ kv _ => N - (intOf kv).toNat)
  case atStart => exact ⟨0, g, cp, ρ, γ, _, Nat.zero_le _, rfl, rfl, hcp, HM2.out, fun i j _ _ => by simp [LgA], Below.refl _ _⟩
  case round =>
    obtain ⟨k, go, co, ρo, γo, f, hk, rfl, rfl, hco, HO⟩ := hrel
    by_cases hlt : k < N
    · have zk : (k : Int) < (N : Int) := by omega
      obtain ⟨u, hu⟩ : ∃ u, us[k]? = some u := ⟨_, List.getElem?_eq_getElem (by rw [HN.out.2]; exact hlt)⟩
      obtain ⟨x, ts, rfl, hts, hsq, hxs⟩ := HU.out.2 k u hu
      have c0 : wr.cell? ⟨gq, k, none⟩ = some (.string x) := by
        rw [HO.out.2.2.cell (p := ⟨gq, k, none⟩) hgq.2, World.ownsRow.cellAt HU.out.1 k (by rw [HN.out.2]; omega), hu]
      have HC : Hid (Calls Tryz.prog 171 #[.string x, .string s] wr (MxG s (LgS ts) wr)) := HH.out.1 n ts x wr (by have := HH.out.2.1; omega) (by have := HH.out.2.2; omega) hsq
      have HT : Hid (os[k]? = some ts) := hts
      clear hu hts hsq hxs
      go_wp2_with fail
      refine HC.out.mono ?_
      rintro e w3 ⟨g3, p3, ρ3, γ3, f3, rfl, hp3, HM3, hb3⟩
      have HC2 : Hid (Calls Tryz.prog 170 #[slV go (s.size + 1) co, slV g3 (s.size + 1) p3] w3 (MaF (s.size + 1) (fun i j => f i j || f3 i j) w3)) := l4Or_core s.size go co g3 p3 ρo γo ρ3 γ3 f f3 w3 (by omega) (HO.out.1.below hb3 (Nat.le_refl _)) HM3.out.1 hco hp3
      clear c0
      go_wp2_with fail
      refine HC2.out.mono ?_
      rintro e w4 ⟨g4, p4, ρ4, γ4, f4, rfl, HM4, hb4⟩
      have hp4 := HM4.out.1.out.caps.1
      have HO2 : Hid (MatR w4 g4 (s.size + 1) ρ4 γ4 f4 ∧ RelW (sb s) f4 (LgA (os.take (k + 1))) ∧ Below w2.heap.size w2 w4) := by
        refine ⟨HM4.out.1.read, ?_, (HO.out.2.2.trans (hb3.mono HO.out.2.2.size)).trans (hb4.mono (Nat.le_trans HO.out.2.2.size hb3.size))⟩
        refine (HO.out.2.1.or HM3.out.2).iff (fun i j hij hj => HM4.out.2 i j hij (by rw [sb_len] at hj; exact hj)) (fun y => ?_)
        rw [List.take_add_one, HT.out]
        exact LgA_snoc _ _ _
      clear HM4 HM3 hb3 hb4
      go_wp2_with fail
      go_roundw
      case rel => first | exact ⟨k + 1, g4, p4, ρ4, γ4, f4, by omega, by go_num, rfl, hp4, HO2⟩ | exact ⟨k + 1, g4, p4, by omega, by go_num, rfl, hp4, ρ4, γ4, f4, HO2⟩ | exact ⟨k + 1, by omega, by go_num, g4, p4, rfl, hp4, ρ4, γ4, f4, HO2⟩
      case measure => simp [intOf]; omega
    · obtain rfl : k = N := by omega
      have zk : ¬ (k : Int) < (k : Int) := by omega
      have HO2 : Hid (MatR wr go (s.size + 1) ρo γo f ∧ RelW (sb s) f (LgA os)) := by
        have h9 := HO.out.2.1
        rw [List.take_of_length_le (by rw [HN.out.1]; exact Nat.le_refl _)] at h9
        exact ⟨HO.out.1, h9⟩
      have hb9 : Below w.heap.size w wr := k2.trans (HO.out.2.2.mono k2.size)
      go_wp2_with fail
      go_ret
      exact ⟨go, co, ρo, γo, f, rfl, hco, HO2, hb9⟩
end Go.Proofs.YtkidabedcgngcaaGreatDoor

/-
  spec's l4Seq, given l4Atom.
-/
namespace Go.Proofs.YtkidabedcgngcaaGreatDoor
open Go.ChangeShapes Go.WideShapes Go.ChangeAt Go.RowKit Go.Deep
set_option linter.unusedVariables false
set_option linter.unusedSimpArgs false
set_option maxRecDepth 100000

theorem RelW.plus_sb {s : ByteArray} {fa : Nat → Nat → Bool} {P : List UInt8 → Prop} (h : RelW (sb s) fa P) : RelW (sb s) (plK fa (s.size + 1)) (Pls P) := by
  have := h.plus
  rw [sb_len] at this
  exact this
theorem RelW.then_sb {s : ByteArray} {fa fb : Nat → Nat → Bool} {P Q : List UInt8 → Prop} (h : RelW (sb s) fa P) (k : RelW (sb s) fb Q) : RelW (sb s) (fun i j => thF fa fb i j (s.size + 1)) (fun x => ∃ y z, x = y ++ z ∧ P y ∧ Q z) := by
  have := h.then k
  rw [sb_len] at this
  exact this
theorem MxG.iff {s : ByteArray} {P Q : List UInt8 → Prop} {w w' : World} {r : Ending} (h : MxG s P w r w') (hq : ∀ x, Q x ↔ P x) : MxG s Q w r w' := by
  obtain ⟨g, cp, ρ, γ, f, h1, h2, h3, h4⟩ := h
  exact ⟨g, cp, ρ, γ, f, h1, h2, ⟨h3.out.1, h3.out.2.iff (fun _ _ _ _ => rfl) hq⟩, h4⟩
/-- Once or more, as a step of a walk. -/
theorem plus_says {s : ByteArray} (hs : s.size ≤ 200) {g cp : Nat} {ρ γ : Nat → Nat} {f : Nat → Nat → Bool} {P : List UInt8 → Prop} {w : World} (hM : MatR w g (s.size + 1) ρ γ f) (hR : RelW (sb s) f P) (hc : s.size + 1 ≤ cp) : Calls Tryz.prog 179 #[slV g (s.size + 1) cp] w (MxG s (Pls P) w) :=
  (l4Plus_core s.size g cp ρ γ f w (by omega) hM hc).mono (fun r w' h => MaG.says h hR.plus_sb)
theorem or_says {s : ByteArray} (hs : s.size ≤ 200) {g cp g' cp' : Nat} {ρ γ ρ' γ' : Nat → Nat} {f f' : Nat → Nat → Bool} {P Q : List UInt8 → Prop} {w : World} (hM : MatR w g (s.size + 1) ρ γ f) (hR : RelW (sb s) f P) (hc : s.size + 1 ≤ cp) (hM' : MatR w g' (s.size + 1) ρ' γ' f') (hR' : RelW (sb s) f' Q) (hc' : s.size + 1 ≤ cp') : Calls Tryz.prog 170 #[slV g (s.size + 1) cp, slV g' (s.size + 1) cp'] w (MxG s (fun x => P x ∨ Q x) w) :=
  (l4Or_core s.size g cp g' cp' ρ γ ρ' γ' f f' w (by omega) hM hM' hc hc').mono (fun r w' h => MaG.says h.g (hR.or hR'))
theorem then_says {s : ByteArray} (hs : s.size ≤ 200) {g cp g' cp' : Nat} {ρ γ ρ' γ' : Nat → Nat} {f f' : Nat → Nat → Bool} {P Q : List UInt8 → Prop} {w : World} (hM : MatR w g (s.size + 1) ρ γ f) (hR : RelW (sb s) f P) (hc : s.size + 1 ≤ cp) (hM' : MatR w g' (s.size + 1) ρ' γ' f') (hR' : RelW (sb s) f' Q) (hc' : s.size + 1 ≤ cp') : Calls Tryz.prog 180 #[slV g (s.size + 1) cp, slV g' (s.size + 1) cp'] w (MxG s (fun x => ∃ y z, x = y ++ z ∧ P y ∧ Q z) w) :=
  (l4Then_core s.size g cp g' cp' ρ γ ρ' γ' f f' w (by omega) hM hM' hc hc').mono (fun r w' h => MaG.says h.g (hR.then_sb hR'))
theorem empty_says {s : ByteArray} (hs : s.size ≤ 200) (w : World) : Calls Tryz.prog 177 #[.int .i64 (s.size : Int)] w (MxG s (fun x => x = []) w) :=
  (l4Empty_core s.size (by omega) w).mono (fun r w' h => MaG.says h.g (relW_empty (sb s)))
/-- What the signs up to k make of a language. -/
def opL (P : List UInt8 → Prop) (l : List UInt8) : List UInt8 → Prop := RepL P (l.any (· != 43)) (l.any (· != 63))
theorem opL_nil (P : List UInt8 → Prop) (x : List UInt8) : opL P [] x ↔ P x := by simp [opL, RepL]
theorem opL_snoc (P : List UInt8 → Prop) (l : List UInt8) (c : UInt8) : opL P (l ++ [c]) = RepL P (l.any (· != 43) || c != 43) (l.any (· != 63) || c != 63) := by
  simp [opL, List.any_append]
theorem lg_rep (a : Pat) (ops : List UInt8) (x : List UInt8) : Lg (if ops = [] then a else .rep a (ops.any (· != 43)) (ops.any (· != 63))) x ↔ opL (Lg a) ops x := by
  by_cases h : ops = []
  · rw [if_pos h, h, opL_nil]
  · rw [if_neg h]; rfl
theorem sgn42 (P : List UInt8 → Prop) (l : List UInt8) (x : List UInt8) : opL P (l ++ [42]) x ↔ (Pls (opL P l) x ∨ x = []) := by
  rw [opL_snoc]
  have h1 := sign_plus P (l.any (· != 43)) (l.any (· != 63)) x
  have h2 := sign_opt P (l.any (· != 43)) true x
  rw [show (l.any (· != 43) || (42 : UInt8) != 43) = true by simp, show (l.any (· != 63) || (42 : UInt8) != 63) = true by simp]
  unfold opL
  rw [h1, h2]
theorem sgn43 (P : List UInt8 → Prop) (l : List UInt8) (x : List UInt8) : opL P (l ++ [43]) x ↔ Pls (opL P l) x := by
  rw [opL_snoc]
  have h1 := sign_plus P (l.any (· != 43)) (l.any (· != 63)) x
  rw [show (l.any (· != 43) || (43 : UInt8) != 43) = l.any (· != 43) by simp, show (l.any (· != 63) || (43 : UInt8) != 63) = true by simp]
  unfold opL
  rw [h1]
theorem sgn63 (P : List UInt8 → Prop) (l : List UInt8) (x : List UInt8) : opL P (l ++ [63]) x ↔ (opL P l x ∨ x = []) := by
  rw [opL_snoc]
  have h2 := sign_opt P (l.any (· != 43)) (l.any (· != 63)) x
  rw [show (l.any (· != 43) || (63 : UInt8) != 43) = true by simp, show (l.any (· != 63) || (63 : UInt8) != 63) = l.any (· != 63) by simp]
  unfold opL
  rw [h2]
/-- A text that is not empty, taken apart: an atom, the signs behind it, the rest. -/
structure SeqX (n m : Nat) (p : ByteArray) (a : Pat) (as_ ops : List UInt8) (ts : List Pat) : Prop where
  len : 0 < as_.length
  le : as_.length + ops.length ≤ p.size
  atom : AtomG n (cut (sb p) 0 as_.length) a
  sg : ∀ c ∈ ops, isOp c
  at_ : ∀ k c, ops[k]? = some c → (sb p)[as_.length + k]? = some c
  rest : SeqG (AtomG n) ts (cut (sb p) (as_.length + ops.length) p.size)
  stop : ∀ c, (sb p)[as_.length + ops.length]? = some c → ¬ isOp c
theorem seqX_of {n : Nat} {p : ByteArray} {t : Pat} {ts : List Pat} (h : SeqG (AtomG n) (t :: ts) (sb p)) : ∃ a as_ ops, SeqX n 0 p a as_ ops ts ∧ ∀ x, Lg t x ↔ opL (Lg a) ops x := by
  obtain ⟨ys, zs, hx, ⟨as_, ops, a, hys, hA, hops, ht⟩, hG⟩ := h
  have hx2 : sb p = as_ ++ (ops ++ zs) := by rw [hx, hys, List.append_assoc]
  have hl : p.size = as_.length + (ops.length + zs.length) := by rw [← sb_len, hx2]; simp
  obtain ⟨c, yt, hyc, _, _, nop⟩ := hA.first
  have h1 : cut (sb p) 0 as_.length = as_ := by unfold cut; rw [hx2]; simp
  have h2 : cut (sb p) (as_.length + ops.length) p.size = zs := by
    unfold cut
    have e : as_.length + ops.length = (as_ ++ ops).length := by simp
    rw [hx2, ← List.append_assoc, e, List.drop_left]
    exact List.take_of_length_le (by rw [← e]; omega)
  refine ⟨a, as_, ops, ⟨by rw [hyc]; simp, by omega, by rw [h1]; exact hA, hops, fun k c hk => ?_, by rw [h2]; exact hG, fun c hc => ?_⟩, fun x => by rw [ht]; exact lg_rep a ops x⟩
  · have hkl := (List.getElem?_eq_some_iff.1 hk).1
    rw [hx2, List.getElem?_append_right (by omega), Nat.add_sub_cancel_left, List.getElem?_append_left hkl]; exact hk
  · rw [hx2, List.getElem?_append_right (by omega), show as_.length + ops.length - as_.length = ops.length by omega, List.getElem?_append_right (Nat.le_refl _), Nat.sub_self] at hc
    cases ts with
    | nil => rw [show zs = [] from hG] at hc; simp at hc
    | cons t' ts' =>
      obtain ⟨y2, z2, hz, ⟨a2, o2, b2, hy2, hA2, _, _⟩, _⟩ := hG
      obtain ⟨c2, yt2, hyc2, _, _, nop2⟩ := hA2.first
      rw [hz, hy2, hyc2] at hc
      simp at hc
      rw [← hc]; exact nop2
set_option maxHeartbeats 8000000 in
theorem seq_says {s : ByteArray} (hs : s.size ≤ 200) {m : Nat} (HA : AtmW s (m + 1)) (HS : SeqW s m) : SeqW s (m + 1) := by
  intro n ts p w hpm hp hG
  cases ts with
  | nil =>
    have h0 : sb p = [] := hG
    have hz : p.toList = [] := by rw [ByteArray.toList_eq]; exact h0
    have q1 : (p.toList == []) = true := by rw [hz]; rfl
    have HE : Hid (Calls Tryz.prog 177 #[.int .i64 (s.size : Int)] w (MxG s (fun x => x = []) w)) := empty_says hs w
    clear hz h0 hG
    go_enter Tryz.func171, Tryz.ntmps171
    go_wp2_with fail
    refine HE.out.mono ?_
    rintro e w1 ⟨g1, p1, ρ1, γ1, f1, rfl, hp1, HM1, hb1⟩
    have HR : Hid (MxG s (LgS []) w (.returned (slV g1 (s.size + 1) p1)) w1) := ⟨g1, p1, ρ1, γ1, f1, rfl, hp1, ⟨HM1.out.1, HM1.out.2.iff (fun _ _ _ _ => rfl) (fun x => by simp [LgS])⟩, hb1⟩
    go_wp2_with fail
    go_ret
    exact HR.out
  | cons t ts =>
    obtain ⟨a, as_, ops, hX, hLt⟩ := seqX_of hG
    have HX : Hid (SeqX n 0 p a as_ ops ts ∧ ∀ x, Lg t x ↔ opL (Lg a) ops x) := ⟨hX, hLt⟩
    have q1 : (p.toList == []) = false := by
      have h1 := hX.len
      have h2 := hX.le
      have hz : p.toList ≠ [] := fun q => by rw [ByteArray.toList_eq] at q; have := sb_len p; rw [show sb p = [] from q] at this; simp at this; omega
      cases hq : p.toList with
      | nil => exact absurd hq hz
      | cons _ _ => rfl
    obtain ⟨j1, hj1⟩ : ∃ j1, j1 = as_.length := ⟨_, rfl⟩
    obtain ⟨no, hno⟩ : ∃ no, no = ops.length := ⟨_, rfl⟩
    have hle : j1 + no ≤ p.size := by rw [hj1, hno]; exact hX.le
    have hj0 : 0 < j1 := by rw [hj1]; exact hX.len
    have HEnd : Hid (Calls Tryz.prog 176 #[.string p, .int .i64 0] w fun e w' => e = .returned (.int .i64 (j1 : Int)) ∧ Below w.heap.size w w') := by
      have h9 := end_all hp n 0 j1 a w (by rw [hj1]; exact hX.atom) (by omega)
      exact h9
    have HAt : Hid (∀ wx, Calls Tryz.prog 178 #[.string (p.extract 0 j1), .string s] wx (MxG s (Lg a) wx)) := fun wx => by
      have hsz : (p.extract 0 j1).size = j1 := by rw [← sb_len, sb_extract p (by omega), cut_len (by rw [sb_len]; omega)]; omega
      exact HA n a _ wx (by omega) (by omega) (by rw [sb_extract p (by omega), hj1]; exact hX.atom)
    have HSq : Hid (∀ wx, Calls Tryz.prog 171 #[.string (p.extract (j1 + no) p.size), .string s] wx (MxG s (LgS ts) wx)) := fun wx => by
      have hsz : (p.extract (j1 + no) p.size).size = p.size - (j1 + no) := by rw [← sb_len, sb_extract p (Nat.le_refl _), cut_len (by rw [sb_len]; exact Nat.le_refl _)]
      exact HS n ts _ wx (by omega) (by omega) (by rw [sb_extract p (Nat.le_refl _), hj1, hno]; exact hX.rest)
    have HL : Hid (j1 = as_.length ∧ no = ops.length) := ⟨hj1, hno⟩
    have z1 : (j1 : Int) ≤ (p.size : Int) := by omega
    clear HA HS hG hX hLt hj1 hno
    go_enter Tryz.func171, Tryz.ntmps171
    go_wp2_with fail
    refine HEnd.out.mono ?_
    rintro e w1 ⟨rfl, hb1⟩
    go_wp2_with fail
    refine (HAt.out w1).mono ?_
    rintro e w2 ⟨g2, p2, ρ2, γ2, f2, rfl, hp2, HM2, hb2⟩
    have hb02 : Below w.heap.size w w2 := hb1.trans (hb2.mono hb1.size)
    go_wp2_with fail
    go_loopw [5, 6] (fun jv rv wr => ∃ (J k go co : Nat) (ρo γo : Nat → Nat) (f : Nat → Nat → Bool), J ≤ p.size ∧ k ≤ no ∧ jv = .int .i64 (J : Int) ∧ rv = slV go (s.size + 1) co ∧ s.size + 1 ≤ co ∧ Hid (MatR wr go (s.size + 1) ρo γo f ∧ RelW (sb s) f (opL (Lg a) (ops.take k)) ∧ Below w.heap.size w wr) ∧ Hid (J = j1 + k)) (fun jv _ _ => p.size - (intOf jv).toNat)
    case atStart => exact ⟨j1, 0, g2, p2, ρ2, γ2, f2, by omega, Nat.zero_le _, rfl, rfl, hp2, ⟨HM2.out.1, HM2.out.2.iff (fun _ _ _ _ => rfl) (fun x => by rw [List.take_zero]; exact opL_nil _ _), hb02⟩, rfl⟩
    case round =>
      obtain ⟨J, k, go, co, ρo, γo, f, hJ, hk, rfl, rfl, hco, HO, HJ⟩ := hrel
      by_cases hlt : k < no
      · obtain ⟨c, hc⟩ : ∃ c, ops[k]? = some c := ⟨_, List.getElem?_eq_getElem (by rw [← HL.out.2]; exact hlt)⟩
        have HK : Hid (ops.take (k + 1) = ops.take k ++ [c] ∧ (sb p)[J]? = some c) := ⟨by rw [List.take_add_one, hc]; rfl, by rw [HJ.out, HL.out.1]; exact HX.out.1.at_ k c hc⟩
        have hop := HX.out.1.sg c (List.mem_of_getElem? hc)
        have HJ2 : Hid (J + 1 = j1 + (k + 1)) := by show _ = _; rw [HJ.out]; omega
        clear hc
        rcases hop with rfl | rfl | rfl
        · obtain ⟨_, gj⟩ := sb_get HK.out.2
          have zj : (J : Int) < (p.size : Int) := by have := lt_of_at HK.out.2; rw [sb_len] at this; omega
          have HOp : Hid (Calls Tryz.prog 119 #[.int .u8 ((42 : UInt8).toNat : Int)] wr fun e w' => e = .returned (.bool true) ∧ w' = wr) := by
            have := l4Op_core 42 wr
            rw [decide_eq_true (by decide)] at this
            exact this
          have hJl : J < p.size := by omega
          go_wp2_with fail
          refine HOp.out.mono ?_
          rintro e' w9 ⟨rfl, hw9⟩
          rw [hw9]
          clear hw9
          go_wp2_with fail
          refine (plus_says hs HO.out.1 HO.out.2.1 hco).mono ?_
          rintro e w3 ⟨g3, p3, ρ3, γ3, f3, rfl, hp3, HM3, hb3⟩
          have HB3 : Hid (Below w.heap.size w w3) := HO.out.2.2.trans (hb3.mono HO.out.2.2.size)
          clear hb3
          go_wp2_with fail
          refine (empty_says hs w3).mono ?_
          rintro e w5 ⟨g5, p5, ρ5, γ5, f5, rfl, hp5, HM5, hb5⟩
          have HOr : Hid (Calls Tryz.prog 170 #[slV g3 (s.size + 1) p3, slV g5 (s.size + 1) p5] w5 (MxG s _ w5)) := or_says hs (HM3.out.1.below hb5 (Nat.le_refl _)) HM3.out.2 hp3 HM5.out.1 HM5.out.2 hp5
          have HB5 : Hid (Below w.heap.size w w5) := HB3.out.trans (hb5.mono HB3.out.size)
          clear hb5
          go_wp2_with fail
          refine HOr.out.mono ?_
          rintro e w6 ⟨g6, p6, ρ6, γ6, f6, rfl, hp6, HM6, hb6⟩
          have HB6 : Hid (Below w.heap.size w w6) := HB5.out.trans (hb6.mono HB5.out.size)
          clear hb6
          have HO2 : Hid (MatR w6 g6 (s.size + 1) ρ6 γ6 f6 ∧ RelW (sb s) f6 (opL (Lg a) (ops.take (k + 1))) ∧ Below w.heap.size w w6) := ⟨HM6.out.1, HM6.out.2.iff (fun _ _ _ _ => rfl) (fun x => by rw [HK.out.1]; exact (sgn42 _ _ x)), HB6.out⟩
          go_wp2_with fail
          go_roundw
          case rel => first | exact ⟨J + 1, k + 1, g6, p6, ρ6, γ6, f6, by omega, by omega, by go_num, rfl, hp6, HO2, HJ2⟩ | exact ⟨J + 1, by omega, by go_num, g6, p6, rfl, hp6, k + 1, ρ6, γ6, f6, by omega, HO2, HJ2⟩ | trace_state
          case measure => simp [intOf]; omega
        · obtain ⟨_, gj⟩ := sb_get HK.out.2
          have zj : (J : Int) < (p.size : Int) := by have := lt_of_at HK.out.2; rw [sb_len] at this; omega
          have HOp : Hid (Calls Tryz.prog 119 #[.int .u8 ((43 : UInt8).toNat : Int)] wr fun e w' => e = .returned (.bool true) ∧ w' = wr) := by
            have := l4Op_core 43 wr
            rw [decide_eq_true (by decide)] at this
            exact this
          have hJl : J < p.size := by omega
          go_wp2_with fail
          refine HOp.out.mono ?_
          rintro e' w9 ⟨rfl, hw9⟩
          rw [hw9]
          clear hw9
          go_wp2_with fail
          refine (plus_says hs HO.out.1 HO.out.2.1 hco).mono ?_
          rintro e w3 ⟨g3, p3, ρ3, γ3, f3, rfl, hp3, HM3, hb3⟩
          have HB3 : Hid (Below w.heap.size w w3) := HO.out.2.2.trans (hb3.mono HO.out.2.2.size)
          clear hb3
          have HO2 : Hid (MatR w3 g3 (s.size + 1) ρ3 γ3 f3 ∧ RelW (sb s) f3 (opL (Lg a) (ops.take (k + 1))) ∧ Below w.heap.size w w3) := ⟨HM3.out.1, HM3.out.2.iff (fun _ _ _ _ => rfl) (fun x => by rw [HK.out.1]; exact (sgn43 _ _ x)), HB3.out⟩
          go_wp2_with fail
          go_roundw
          case rel => first | exact ⟨J + 1, k + 1, g3, p3, ρ3, γ3, f3, by omega, by omega, by go_num, rfl, hp3, HO2, HJ2⟩ | exact ⟨J + 1, by omega, by go_num, g3, p3, rfl, hp3, k + 1, ρ3, γ3, f3, by omega, HO2, HJ2⟩ | trace_state
          case measure => simp [intOf]; omega
        · obtain ⟨_, gj⟩ := sb_get HK.out.2
          have zj : (J : Int) < (p.size : Int) := by have := lt_of_at HK.out.2; rw [sb_len] at this; omega
          have HOp : Hid (Calls Tryz.prog 119 #[.int .u8 ((63 : UInt8).toNat : Int)] wr fun e w' => e = .returned (.bool true) ∧ w' = wr) := by
            have := l4Op_core 63 wr
            rw [decide_eq_true (by decide)] at this
            exact this
          have hJl : J < p.size := by omega
          go_wp2_with fail
          refine HOp.out.mono ?_
          rintro e' w9 ⟨rfl, hw9⟩
          rw [hw9]
          clear hw9
          go_wp2_with fail
          refine (empty_says hs wr).mono ?_
          rintro e w5 ⟨g5, p5, ρ5, γ5, f5, rfl, hp5, HM5, hb5⟩
          have HOr : Hid (Calls Tryz.prog 170 #[slV go (s.size + 1) co, slV g5 (s.size + 1) p5] w5 (MxG s _ w5)) := or_says hs (HO.out.1.below hb5 (Nat.le_refl _)) HO.out.2.1 hco HM5.out.1 HM5.out.2 hp5
          have HB5 : Hid (Below w.heap.size w w5) := HO.out.2.2.trans (hb5.mono HO.out.2.2.size)
          clear hb5
          go_wp2_with fail
          refine HOr.out.mono ?_
          rintro e w6 ⟨g6, p6, ρ6, γ6, f6, rfl, hp6, HM6, hb6⟩
          have HB6 : Hid (Below w.heap.size w w6) := HB5.out.trans (hb6.mono HB5.out.size)
          clear hb6
          have HO2 : Hid (MatR w6 g6 (s.size + 1) ρ6 γ6 f6 ∧ RelW (sb s) f6 (opL (Lg a) (ops.take (k + 1))) ∧ Below w.heap.size w w6) := ⟨HM6.out.1, HM6.out.2.iff (fun _ _ _ _ => rfl) (fun x => by rw [HK.out.1]; exact (sgn63 _ _ x)), HB6.out⟩
          go_wp2_with fail
          go_roundw
          case rel => first | exact ⟨J + 1, k + 1, g6, p6, ρ6, γ6, f6, by omega, by omega, by go_num, rfl, hp6, HO2, HJ2⟩ | exact ⟨J + 1, by omega, by go_num, g6, p6, rfl, hp6, k + 1, ρ6, γ6, f6, by omega, HO2, HJ2⟩ | trace_state
          case measure => simp [intOf]; omega
      · obtain rfl : k = no := by omega
        have HO2 : Hid (MatR wr go (s.size + 1) ρo γo f ∧ RelW (sb s) f (Lg t) ∧ Below w.heap.size w wr) := by
          refine ⟨HO.out.1, HO.out.2.1.iff (fun _ _ _ _ => rfl) (fun x => ?_), HO.out.2.2⟩
          rw [List.take_of_length_le (by rw [HL.out.2]; exact Nat.le_refl _)]
          exact HX.out.2 x
        have HFin : Hid (∀ wx, Below wr.heap.size wr wx → Calls Tryz.prog 171 #[.string (p.extract J p.size), .string s] wx (MxG s (LgS ts) wx)) := fun wx _ => by rw [HJ.out]; exact HSq.out wx
        by_cases hJl : J < p.size
        · obtain ⟨c, hc⟩ : ∃ c, (sb p)[J]? = some c := ⟨_, List.getElem?_eq_getElem (by rw [sb_len]; exact hJl)⟩
          obtain ⟨_, gj⟩ := sb_get hc
          have zj : (J : Int) < (p.size : Int) := by omega
          have nop := HX.out.1.stop c (by rw [← HL.out.1, ← HL.out.2, ← HJ.out]; exact hc)
          have HOp : Hid (Calls Tryz.prog 119 #[.int .u8 (c.toNat : Int)] wr fun e w' => e = .returned (.bool false) ∧ w' = wr) := by
            have := l4Op_core c wr
            rw [decide_eq_false nop] at this
            exact this
          clear hc nop
          go_wp2_with fail
          refine HOp.out.mono ?_
          rintro e' w9 ⟨rfl, hw9⟩
          rw [hw9]
          clear hw9
          go_wp2_with fail
          refine (HFin.out wr (Below.refl _ _)).mono ?_
          rintro e w3 ⟨g3, p3, ρ3, γ3, f3, rfl, hp3, HM3, hb3⟩
          have HB3 : Hid (Below w.heap.size w w3) := HO2.out.2.2.trans (hb3.mono HO2.out.2.2.size)
          have HTh : Hid (Calls Tryz.prog 180 #[slV go (s.size + 1) co, slV g3 (s.size + 1) p3] w3 (MxG s (LgS (t :: ts)) w3)) := (then_says hs (HO2.out.1.below hb3 (Nat.le_refl _)) HO2.out.2.1 hco HM3.out.1 HM3.out.2 hp3).mono (fun r w' h => MxG.iff h (fun x => by simp [LgS]))
          clear hb3
          go_wp2_with fail
          refine HTh.out.mono ?_
          rintro e w4 ⟨g4, p4, ρ4, γ4, f4, rfl, hp4, HM4, hb4⟩
          have HR : Hid (MxG s (LgS (t :: ts)) w (.returned (slV g4 (s.size + 1) p4)) w4) := ⟨g4, p4, ρ4, γ4, f4, rfl, hp4, HM4, HB3.out.trans (hb4.mono HB3.out.size)⟩
          clear hb4
          go_wp2_with fail
          go_ret
          exact HR.out
        · have zj : ¬ (J : Int) < (p.size : Int) := by omega
          have zj2 : (J : Int) ≤ (p.size : Int) := by omega
          go_wp2_with fail
          refine (HFin.out wr (Below.refl _ _)).mono ?_
          rintro e w3 ⟨g3, p3, ρ3, γ3, f3, rfl, hp3, HM3, hb3⟩
          have HB3 : Hid (Below w.heap.size w w3) := HO2.out.2.2.trans (hb3.mono HO2.out.2.2.size)
          have HTh : Hid (Calls Tryz.prog 180 #[slV go (s.size + 1) co, slV g3 (s.size + 1) p3] w3 (MxG s (LgS (t :: ts)) w3)) := (then_says hs (HO2.out.1.below hb3 (Nat.le_refl _)) HO2.out.2.1 hco HM3.out.1 HM3.out.2 hp3).mono (fun r w' h => MxG.iff h (fun x => by simp [LgS]))
          clear hb3
          go_wp2_with fail
          refine HTh.out.mono ?_
          rintro e w4 ⟨g4, p4, ρ4, γ4, f4, rfl, hp4, HM4, hb4⟩
          have HR : Hid (MxG s (LgS (t :: ts)) w (.returned (slV g4 (s.size + 1) p4)) w4) := ⟨g4, p4, ρ4, γ4, f4, rfl, hp4, HM4, HB3.out.trans (hb4.mono HB3.out.size)⟩
          clear hb4
          go_wp2_with fail
          go_ret
          exact HR.out
end Go.Proofs.YtkidabedcgngcaaGreatDoor

/-
  spec's l4Atom, given l4Alt.
-/
namespace Go.Proofs.YtkidabedcgngcaaGreatDoor
open Go.ChangeShapes Go.WideShapes Go.ChangeAt Go.RowKit Go.Deep
set_option linter.unusedVariables false
set_option linter.unusedSimpArgs false
set_option maxRecDepth 100000

/-- One byte that passes the test. -/
theorem relW_one {s : List UInt8} {f : Nat → Nat → Bool} {τ : UInt8 → Bool} (h : ∀ i j, i ≤ j → j < s.length + 1 → f i j = (decide (j = i + 1) && ((s[i]?).map τ).getD false)) : RelW s f (fun x => ∃ c, x = [c] ∧ τ c = true) := by
  intro i j hij hj
  rw [h i j hij (by omega), Bool.and_eq_true, decide_eq_true_eq]
  constructor
  · rintro ⟨rfl, h2⟩
    cases hc : s[i]? with
    | none => rw [hc] at h2; cases h2
    | some c => rw [hc] at h2; exact ⟨c, cut_one hc, h2⟩
  · rintro ⟨c, hx, hc⟩
    have hl := cut_len (p := s) (i := i) hj
    rw [hx] at hl
    have e : j = i + 1 := by simp at hl; omega
    subst e
    have hi : i < s.length := by omega
    have h1 := cut_one (p := s) (i := i) (List.getElem?_eq_getElem hi)
    rw [hx] at h1
    have h2 : c = s[i] := by simpa using h1
    exact ⟨rfl, by rw [List.getElem?_eq_getElem hi, ← h2]; exact hc⟩
set_option maxHeartbeats 8000000 in
theorem atm_byte {s : ByteArray} (hs : s.size ≤ 200) (q : ByteArray) (c : UInt8) (hq : sb q = [c]) (h40 : ¬ c = 40) (h46 : ¬ c = 46) (h92 : ¬ c = 92) (h91 : ¬ c = 91) (w : World) : Calls Tryz.prog 178 #[.string q, .string s] w (MxG s (Lg (.byte c)) w) := by
  have hql : q.size = 1 := by rw [← sb_len, hq]; rfl
  obtain ⟨_, gq⟩ := sb_get (s := q) (i := 0) (x := c) (by rw [hq]; rfl)
  have zq : (0 : Int) < (q.size : Int) := by omega
  have z40 : ((c.toNat : Int) == 40) = false := beq_eq_false_iff_ne.2 (ne_u8 (c := 40) h40)
  have z46 : ((c.toNat : Int) == 46) = false := beq_eq_false_iff_ne.2 (ne_u8 (c := 46) h46)
  have z92 : ((c.toNat : Int) == 92) = false := beq_eq_false_iff_ne.2 (ne_u8 (c := 92) h92)
  have z91 : ((c.toNat : Int) == 91) = false := beq_eq_false_iff_ne.2 (ne_u8 (c := 91) h91)
  have HNo : Hid (Calls Tryz.prog 168 #[.int .i64 (s.size : Int)] w (MaP (s.size + 1) (fun _ _ => false) w)) := l4None_core s.size (by omega) w
  clear hq h40 h46 h92 h91 hql
  go_enter Tryz.func178, Tryz.ntmps178
  go_wp2_with fail
  refine HNo.out.mono ?_
  rintro r w1 ⟨g, cp, ρ, γ, rfl, HM, hb1⟩
  have hcp := HM.out.out.caps
  go_wp2_with fail
  go_loopw [6] (fun iv wr => ∃ (k : Nat) (f : Nat → Nat → Bool), k ≤ s.size ∧ iv = .int .i64 k ∧ Hid (MatO wr w.heap.size g cp (s.size + 1) (s.size + 1) ρ γ f ∧ (∀ i j, i ≤ j → j < s.size + 1 → f i j = (decide (j = i + 1) && (((sb s)[i]?).map (fun x => x == c)).getD false && decide (i < k))) ∧ Below w.heap.size w wr)) (fun iv _ => s.size - (intOf iv).toNat)
  case atStart => exact ⟨0, _, Nat.zero_le _, rfl, HM.out, fun i j _ _ => by simp, hb1⟩
  case round =>
    obtain ⟨k, f, hk, rfl, HJ⟩ := hrel
    by_cases hlt : k < s.size
    · have zk : (k : Int) < (s.size : Int) := by omega
      obtain ⟨x, hx⟩ : ∃ x, (sb s)[k]? = some x := ⟨_, List.getElem?_eq_getElem (by rw [sb_len]; exact hlt)⟩
      obtain ⟨_, gx⟩ := sb_get hx
      have c0 : wr.cell? ⟨g, k, none⟩ = some (slV (ρ k) (s.size + 1) (γ k)) := HJ.out.1.cell (by omega)
      have hkk : k < s.size + 1 := by omega
      have c1 : wr.cell? ⟨ρ k, k + 1, none⟩ = some (.bool (f k (k + 1))) := (HJ.out.1.row k hkk).cell (by omega)
      have y1 : wr.frozen? ⟨ρ k, k + 1, none⟩ = false := World.ownsRow.frozenAt (HJ.out.1.row k hkk) _
      have hrc := (HJ.out.1.row k hkk).caps
      obtain ⟨bv, hbv⟩ : ∃ bv, bv = ((c.toNat : Int) == (x.toNat : Int)) := ⟨_, rfl⟩
      have HV : Hid (bv = (x == c)) := by show _ = _; rw [hbv, Bool.eq_iff_iff, beq_iff_eq, beq_iff_eq]; exact ⟨fun q => UInt8.toNat_inj.1 (by omega), fun q => by rw [q]⟩
      have HX : Hid ((sb s)[k]? = some x) := hx
      clear hx
      go_upto_region 7 with fail
      refine wp_region_T 99 (fun _ => True) (by kernel_rfl) ?_
      refine anyT_takeN (i := 0) (v := ?vb0) rfl (by kernel_rfl) (by kernel_rfl) (by kernel_rfl) (by rfl) (fun _ _ _ h => h) (Or.inl ⟨by rfl, ?yb0⟩) True.intro ?_
      case yb0 => (intro wz hSw; go_simp; (try with_reducible rfl))
      try simp only [Act.put, List.getElem_toArray, List.getElem_cons_zero, List.getElem_cons_succ, List.setIfInBounds_toArray, List.set_cons_zero, List.set_cons_succ]
      refine anyT_takeN (i := 1) (v := ?vb1) rfl (by kernel_rfl) (by kernel_rfl) (by kernel_rfl) (by rfl) (fun _ _ _ h => h) (Or.inl ⟨by rfl, ?yb1⟩) True.intro ?_
      case yb1 => (intro wz hSw; go_simp; (try with_reducible rfl))
      try simp only [Act.put, List.getElem_toArray, List.getElem_cons_zero, List.getElem_cons_succ, List.setIfInBounds_toArray, List.set_cons_zero, List.set_cons_succ]
      refine anyT_takeN (i := 2) (v := .bool false) rfl (by kernel_rfl) (by kernel_rfl) (by kernel_rfl) (by rfl) (fun _ _ _ h => h) (Or.inl ⟨by rfl, ?yb2⟩) True.intro ?_
      case yb2 => (intro wz hSw; go_simp; (try simp only [z46]); (try with_reducible rfl))
      try simp only [Act.put, List.getElem_toArray, List.getElem_cons_zero, List.getElem_cons_succ, List.setIfInBounds_toArray, List.set_cons_zero, List.set_cons_succ]
      refine anyT_takeN (i := 3) (v := ?vb3) rfl (by kernel_rfl) (by kernel_rfl) (by kernel_rfl) (by rfl) (fun _ _ _ h => h) (Or.inl ⟨by rfl, ?yb3⟩) True.intro ?_
      case yb3 => (intro wz hSw; go_simp; (try with_reducible rfl))
      try simp only [Act.put, List.getElem_toArray, List.getElem_cons_zero, List.getElem_cons_succ, List.setIfInBounds_toArray, List.set_cons_zero, List.set_cons_succ]
      refine anyT_takeN (i := 4) (v := ?vb4) rfl (by kernel_rfl) (by kernel_rfl) (by kernel_rfl) (by rfl) (fun _ _ _ h => h) (Or.inl ⟨by rfl, ?yb4⟩) True.intro ?_
      case yb4 => (intro wz hSw; go_simp; (try with_reducible rfl))
      try simp only [Act.put, List.getElem_toArray, List.getElem_cons_zero, List.getElem_cons_succ, List.setIfInBounds_toArray, List.set_cons_zero, List.set_cons_succ]
      refine anyT_takeN (i := 5) (v := ?vb5) rfl (by kernel_rfl) (by kernel_rfl) (by kernel_rfl) (by rfl) (fun _ _ _ h => h) (Or.inl ⟨by rfl, ?yb5⟩) True.intro ?_
      case yb5 => (intro wz hSw; go_simp; (try with_reducible rfl))
      try simp only [Act.put, List.getElem_toArray, List.getElem_cons_zero, List.getElem_cons_succ, List.setIfInBounds_toArray, List.set_cons_zero, List.set_cons_succ]
      refine anyT_takeN (i := 6) (v := ?vb6) rfl (by kernel_rfl) (by kernel_rfl) (by kernel_rfl) (by rfl) (fun _ _ _ h => h) (Or.inl ⟨by rfl, ?yb6⟩) True.intro ?_
      case yb6 => (intro wz hSw; go_simp; (try with_reducible rfl))
      try simp only [Act.put, List.getElem_toArray, List.getElem_cons_zero, List.getElem_cons_succ, List.setIfInBounds_toArray, List.set_cons_zero, List.set_cons_succ]
      refine anyT_takeN (i := 7) (v := ?vb7) rfl (by kernel_rfl) (by kernel_rfl) (by kernel_rfl) (by rfl) (fun _ _ _ h => h) (Or.inl ⟨by rfl, ?yb7⟩) True.intro ?_
      case yb7 => (intro wz hSw; go_simp; (try with_reducible rfl))
      try simp only [Act.put, List.getElem_toArray, List.getElem_cons_zero, List.getElem_cons_succ, List.setIfInBounds_toArray, List.set_cons_zero, List.set_cons_succ]
      refine anyT_takeN (i := 8) (v := ?vb8) rfl (by kernel_rfl) (by kernel_rfl) (by kernel_rfl) (by rfl) (fun _ _ _ h => h) (Or.inl ⟨by rfl, ?yb8⟩) True.intro ?_
      case yb8 => (intro wz hSw; go_simp; (try with_reducible rfl))
      try simp only [Act.put, List.getElem_toArray, List.getElem_cons_zero, List.getElem_cons_succ, List.setIfInBounds_toArray, List.set_cons_zero, List.set_cons_succ]
      refine anyT_takeN (i := 9) (v := ?vb9) rfl (by kernel_rfl) (by kernel_rfl) (by kernel_rfl) (by rfl) (fun _ _ _ h => h) (Or.inl ⟨by rfl, ?yb9⟩) True.intro ?_
      case yb9 => (intro wz hSw; go_simp; (try with_reducible rfl))
      try simp only [Act.put, List.getElem_toArray, List.getElem_cons_zero, List.getElem_cons_succ, List.setIfInBounds_toArray, List.set_cons_zero, List.set_cons_succ]
      refine anyT_takeN (i := 10) (v := ?vb10) rfl (by kernel_rfl) (by kernel_rfl) (by kernel_rfl) (by rfl) (fun _ _ _ h => h) (Or.inl ⟨by rfl, ?yb10⟩) True.intro ?_
      case yb10 => (intro wz hSw; go_simp; (try with_reducible rfl))
      try simp only [Act.put, List.getElem_toArray, List.getElem_cons_zero, List.getElem_cons_succ, List.setIfInBounds_toArray, List.set_cons_zero, List.set_cons_succ]
      refine anyT_one (i := 11) (by kernel_rfl) rfl (fun K hK => ?_)
      go_simp
      refine hK.out _ _ (.inr True.intro) ?_
      clear hK
      try simp only [Act.put, List.getElem_toArray, List.getElem_cons_zero, List.getElem_cons_succ, List.setIfInBounds_toArray, List.set_cons_zero, List.set_cons_succ]
      refine anyT_done (by kernel_rfl) ?_
      rw [← hbv]
      clear hbv
      have HJ2 : Hid (MatO (wr.setCell ⟨ρ k, k + 1, none⟩ (.bool bv)).drew w.heap.size g cp (s.size + 1) (s.size + 1) ρ γ (upd2 f k (k + 1) bv) ∧ (∀ i j, i ≤ j → j < s.size + 1 → upd2 f k (k + 1) bv i j = (decide (j = i + 1) && (((sb s)[i]?).map (fun x => x == c)).getD false && decide (i < k + 1))) ∧ Below w.heap.size w (wr.setCell ⟨ρ k, k + 1, none⟩ (.bool bv)).drew) := by
        refine ⟨(HJ.out.1.set hkk (by omega) bv).below ((Below.refl _ _).drew), fun i j hij hj => ?_, (below_set HJ.out.2.2 (HJ.out.1.row k hkk).lt.1 _ _).drew⟩
        unfold upd2
        by_cases e : i = k ∧ j = k + 1
        · rw [if_pos e, e.1, e.2, HX.out, HV.out]; simp
        · rw [if_neg e, HJ.out.2.1 i j hij hj]
          by_cases e2 : j = i + 1
          · have h1 : i ≠ k := fun q => e ⟨q, by omega⟩
            have h2 : decide (i < k) = decide (i < k + 1) := by rw [decide_eq_decide]; omega
            rw [h2]
          · simp [e2]
      go_wp2_with fail
      refine ⟨⟨k + 1, upd2 f k (k + 1) bv, by omega, by go_num, HJ2⟩, ?_⟩
      go_light
      simp [intOf]; omega
    · obtain rfl : k = s.size := by omega
      have zk : ¬ (s.size : Int) < (s.size : Int) := by omega
      go_wp2_with fail
      go_ret
      refine ⟨g, cp, ρ, γ, f, rfl, hcp.1, ⟨HJ.out.1.read, (relW_one (τ := fun x => x == c) (fun i j hij hj => ?_)).iff (fun _ _ _ _ => rfl) (fun y => by simp [Lg])⟩, HJ.out.2.2⟩
      rw [sb_len] at hj
      rw [HJ.out.2.1 i j hij hj]
      by_cases e : j = i + 1
      · have h1 : i < s.size := by omega
        simp [h1]
      · simp [e]
end Go.Proofs.YtkidabedcgngcaaGreatDoor

/-
  spec's l4Atom at a dot.
-/
namespace Go.Proofs.YtkidabedcgngcaaGreatDoor
open Go.ChangeShapes Go.WideShapes Go.ChangeAt Go.RowKit Go.Deep
set_option linter.unusedVariables false
set_option linter.unusedSimpArgs false
set_option maxRecDepth 100000

set_option maxHeartbeats 8000000 in
theorem atm_dot {s : ByteArray} (hs : s.size ≤ 200) (q : ByteArray) (d : UInt8) (hq : sb q = [d]) (hd : d = 46) (w : World) : Calls Tryz.prog 178 #[.string q, .string s] w (MxG s (Lg (.cls (fun _ => true))) w) := by
  have hql : q.size = 1 := by rw [← sb_len, hq]; rfl
  obtain ⟨_, gq⟩ := sb_get (s := q) (i := 0) (x := d) (by rw [hq]; rfl)
  have z40 : ((d.toNat : Int) == 40) = false := by rw [hd]; rfl
  have z46 : ((d.toNat : Int) == 46) = true := by rw [hd]; rfl
  have z92 : ((d.toNat : Int) == 92) = false := by rw [hd]; rfl
  have z91 : ((d.toNat : Int) == 91) = false := by rw [hd]; rfl
  have zq : (0 : Int) < (q.size : Int) := by omega
  have HNo : Hid (Calls Tryz.prog 168 #[.int .i64 (s.size : Int)] w (MaP (s.size + 1) (fun _ _ => false) w)) := l4None_core s.size (by omega) w
  clear hq hd hql
  go_enter Tryz.func178, Tryz.ntmps178
  go_wp2_with fail
  refine HNo.out.mono ?_
  rintro r w1 ⟨g, cp, ρ, γ, rfl, HM, hb1⟩
  have hcp := HM.out.out.caps
  go_wp2_with fail
  go_loopw [6] (fun iv wr => ∃ (k : Nat) (f : Nat → Nat → Bool), k ≤ s.size ∧ iv = .int .i64 k ∧ Hid (MatO wr w.heap.size g cp (s.size + 1) (s.size + 1) ρ γ f ∧ (∀ i j, i ≤ j → j < s.size + 1 → f i j = (decide (j = i + 1) && (((sb s)[i]?).map (fun _ => true)).getD false && decide (i < k))) ∧ Below w.heap.size w wr)) (fun iv _ => s.size - (intOf iv).toNat)
  case atStart => exact ⟨0, _, Nat.zero_le _, rfl, HM.out, fun i j _ _ => by simp, hb1⟩
  case round =>
    obtain ⟨k, f, hk, rfl, HJ⟩ := hrel
    by_cases hlt : k < s.size
    · have zk : (k : Int) < (s.size : Int) := by omega
      obtain ⟨x, hx⟩ : ∃ x, (sb s)[k]? = some x := ⟨_, List.getElem?_eq_getElem (by rw [sb_len]; exact hlt)⟩
      obtain ⟨_, gx⟩ := sb_get hx
      have c0 : wr.cell? ⟨g, k, none⟩ = some (slV (ρ k) (s.size + 1) (γ k)) := HJ.out.1.cell (by omega)
      have hkk : k < s.size + 1 := by omega
      have c1 : wr.cell? ⟨ρ k, k + 1, none⟩ = some (.bool (f k (k + 1))) := (HJ.out.1.row k hkk).cell (by omega)
      have y1 : wr.frozen? ⟨ρ k, k + 1, none⟩ = false := World.ownsRow.frozenAt (HJ.out.1.row k hkk) _
      have hrc := (HJ.out.1.row k hkk).caps
      obtain ⟨bv, hbv⟩ : ∃ bv, bv = (true) := ⟨_, rfl⟩
      have HV : Hid (bv = (fun _ => true) x) := by exact hbv
      have HX : Hid ((sb s)[k]? = some x) := hx
      clear hx
      go_upto_region 7 with fail
      refine wp_region_T 99 (fun _ => True) (by kernel_rfl) ?_
      refine anyT_takeN (i := 0) (v := ?vb0) rfl (by kernel_rfl) (by kernel_rfl) (by kernel_rfl) (by rfl) (fun _ _ _ h => h) (Or.inl ⟨by rfl, ?yb0⟩) True.intro ?_
      case yb0 => (intro wz hSw; go_simp; (try with_reducible rfl))
      try simp only [Act.put, List.getElem_toArray, List.getElem_cons_zero, List.getElem_cons_succ, List.setIfInBounds_toArray, List.set_cons_zero, List.set_cons_succ]
      refine anyT_takeN (i := 1) (v := ?vb1) rfl (by kernel_rfl) (by kernel_rfl) (by kernel_rfl) (by rfl) (fun _ _ _ h => h) (Or.inl ⟨by rfl, ?yb1⟩) True.intro ?_
      case yb1 => (intro wz hSw; go_simp; (try with_reducible rfl))
      try simp only [Act.put, List.getElem_toArray, List.getElem_cons_zero, List.getElem_cons_succ, List.setIfInBounds_toArray, List.set_cons_zero, List.set_cons_succ]
      refine anyT_takeN (i := 2) (v := .bool true) rfl (by kernel_rfl) (by kernel_rfl) (by kernel_rfl) (by rfl) (fun _ _ _ h => h) (Or.inl ⟨by rfl, ?yb2⟩) True.intro ?_
      case yb2 => (intro wz hSw; go_simp; (try simp only [z46]); (try with_reducible rfl))
      try simp only [Act.put, List.getElem_toArray, List.getElem_cons_zero, List.getElem_cons_succ, List.setIfInBounds_toArray, List.set_cons_zero, List.set_cons_succ]
      refine anyT_takeN (i := 3) (v := ?vb3) rfl (by kernel_rfl) (by kernel_rfl) (by kernel_rfl) (by rfl) (fun _ _ _ h => h) (Or.inl ⟨by rfl, ?yb3⟩) True.intro ?_
      case yb3 => (intro wz hSw; go_simp; (try with_reducible rfl))
      try simp only [Act.put, List.getElem_toArray, List.getElem_cons_zero, List.getElem_cons_succ, List.setIfInBounds_toArray, List.set_cons_zero, List.set_cons_succ]
      refine anyT_takeN (i := 4) (v := undef) rfl (by kernel_rfl) (by kernel_rfl) (by kernel_rfl) (by rfl) (fun _ _ _ h => h) (Or.inr ⟨by rfl, rfl⟩) True.intro ?_
      try simp only [Act.put, List.getElem_toArray, List.getElem_cons_zero, List.getElem_cons_succ, List.setIfInBounds_toArray, List.set_cons_zero, List.set_cons_succ]
      refine anyT_takeN (i := 5) (v := undef) rfl (by kernel_rfl) (by kernel_rfl) (by kernel_rfl) (by rfl) (fun _ _ _ h => h) (Or.inr ⟨by rfl, rfl⟩) True.intro ?_
      try simp only [Act.put, List.getElem_toArray, List.getElem_cons_zero, List.getElem_cons_succ, List.setIfInBounds_toArray, List.set_cons_zero, List.set_cons_succ]
      refine anyT_takeN (i := 6) (v := undef) rfl (by kernel_rfl) (by kernel_rfl) (by kernel_rfl) (by rfl) (fun _ _ _ h => h) (Or.inr ⟨by rfl, rfl⟩) True.intro ?_
      try simp only [Act.put, List.getElem_toArray, List.getElem_cons_zero, List.getElem_cons_succ, List.setIfInBounds_toArray, List.set_cons_zero, List.set_cons_succ]
      refine anyT_takeN (i := 7) (v := undef) rfl (by kernel_rfl) (by kernel_rfl) (by kernel_rfl) (by rfl) (fun _ _ _ h => h) (Or.inr ⟨by rfl, rfl⟩) True.intro ?_
      try simp only [Act.put, List.getElem_toArray, List.getElem_cons_zero, List.getElem_cons_succ, List.setIfInBounds_toArray, List.set_cons_zero, List.set_cons_succ]
      refine anyT_takeN (i := 8) (v := undef) rfl (by kernel_rfl) (by kernel_rfl) (by kernel_rfl) (by rfl) (fun _ _ _ h => h) (Or.inr ⟨by rfl, rfl⟩) True.intro ?_
      try simp only [Act.put, List.getElem_toArray, List.getElem_cons_zero, List.getElem_cons_succ, List.setIfInBounds_toArray, List.set_cons_zero, List.set_cons_succ]
      refine anyT_takeN (i := 9) (v := undef) rfl (by kernel_rfl) (by kernel_rfl) (by kernel_rfl) (by rfl) (fun _ _ _ h => h) (Or.inr ⟨by rfl, rfl⟩) True.intro ?_
      try simp only [Act.put, List.getElem_toArray, List.getElem_cons_zero, List.getElem_cons_succ, List.setIfInBounds_toArray, List.set_cons_zero, List.set_cons_succ]
      refine anyT_takeN (i := 10) (v := ?vb10) rfl (by kernel_rfl) (by kernel_rfl) (by kernel_rfl) (by rfl) (fun _ _ _ h => h) (Or.inl ⟨by rfl, ?yb10⟩) True.intro ?_
      case yb10 => (intro wz hSw; go_simp; (try with_reducible rfl))
      try simp only [Act.put, List.getElem_toArray, List.getElem_cons_zero, List.getElem_cons_succ, List.setIfInBounds_toArray, List.set_cons_zero, List.set_cons_succ]
      refine anyT_one (i := 11) (by kernel_rfl) rfl (fun K hK => ?_)
      go_simp
      refine hK.out _ _ (.inr True.intro) ?_
      clear hK
      try simp only [Act.put, List.getElem_toArray, List.getElem_cons_zero, List.getElem_cons_succ, List.setIfInBounds_toArray, List.set_cons_zero, List.set_cons_succ]
      refine anyT_done (by kernel_rfl) ?_
      have hbv2 : (Value.bool true) = Value.bool bv := by rw [hbv]
      rw [hbv2]
      clear hbv hbv2
      have HJ2 : Hid (MatO (wr.setCell ⟨ρ k, k + 1, none⟩ (.bool bv)).drew w.heap.size g cp (s.size + 1) (s.size + 1) ρ γ (upd2 f k (k + 1) bv) ∧ (∀ i j, i ≤ j → j < s.size + 1 → upd2 f k (k + 1) bv i j = (decide (j = i + 1) && (((sb s)[i]?).map (fun _ => true)).getD false && decide (i < k + 1))) ∧ Below w.heap.size w (wr.setCell ⟨ρ k, k + 1, none⟩ (.bool bv)).drew) := by
        refine ⟨(HJ.out.1.set hkk (by omega) bv).below ((Below.refl _ _).drew), fun i j hij hj => ?_, (below_set HJ.out.2.2 (HJ.out.1.row k hkk).lt.1 _ _).drew⟩
        unfold upd2
        by_cases e : i = k ∧ j = k + 1
        · rw [if_pos e, e.1, e.2, HX.out, HV.out]; simp
        · rw [if_neg e, HJ.out.2.1 i j hij hj]
          by_cases e2 : j = i + 1
          · have h1 : i ≠ k := fun q => e ⟨q, by omega⟩
            have h2 : decide (i < k) = decide (i < k + 1) := by rw [decide_eq_decide]; omega
            rw [h2]
          · simp [e2]
      go_wp2_with fail
      refine ⟨⟨k + 1, upd2 f k (k + 1) bv, by omega, by go_num, HJ2⟩, ?_⟩
      go_light
      simp [intOf]; omega
    · obtain rfl : k = s.size := by omega
      have zk : ¬ (s.size : Int) < (s.size : Int) := by omega
      go_wp2_with fail
      go_ret
      refine ⟨g, cp, ρ, γ, f, rfl, hcp.1, ⟨HJ.out.1.read, (relW_one (τ := fun _ => true) (fun i j hij hj => ?_)).iff (fun _ _ _ _ => rfl) (fun y => by simp [Lg])⟩, HJ.out.2.2⟩
      rw [sb_len] at hj
      rw [HJ.out.2.1 i j hij hj]
      by_cases e : j = i + 1
      · have h1 : i < s.size := by omega
        simp [h1]
      · simp [e]
end Go.Proofs.YtkidabedcgngcaaGreatDoor

/-
  spec's l4Atom at an escaped byte.
-/
namespace Go.Proofs.YtkidabedcgngcaaGreatDoor
open Go.ChangeShapes Go.WideShapes Go.ChangeAt Go.RowKit Go.Deep
set_option linter.unusedVariables false
set_option linter.unusedSimpArgs false
set_option maxRecDepth 100000

set_option maxHeartbeats 8000000 in
theorem atm_esc {s : ByteArray} (hs : s.size ≤ 200) (q : ByteArray) (d c : UInt8) (hq : sb q = [d, c]) (hd : d = 92) (w : World) : Calls Tryz.prog 178 #[.string q, .string s] w (MxG s (Lg (.byte c)) w) := by
  have hql : q.size = 2 := by rw [← sb_len, hq]; rfl
  obtain ⟨_, gq⟩ := sb_get (s := q) (i := 0) (x := d) (by rw [hq]; rfl)
  obtain ⟨_, gq1⟩ := sb_get (s := q) (i := 1) (x := c) (by rw [hq]; rfl)
  have zq1 : (1 : Int) < (q.size : Int) := by omega
  have z40 : ((d.toNat : Int) == 40) = false := by rw [hd]; rfl
  have z46 : ((d.toNat : Int) == 46) = false := by rw [hd]; rfl
  have z92 : ((d.toNat : Int) == 92) = true := by rw [hd]; rfl
  have z91 : ((d.toNat : Int) == 91) = false := by rw [hd]; rfl
  have zq : (0 : Int) < (q.size : Int) := by omega
  have HNo : Hid (Calls Tryz.prog 168 #[.int .i64 (s.size : Int)] w (MaP (s.size + 1) (fun _ _ => false) w)) := l4None_core s.size (by omega) w
  clear hq hd hql
  go_enter Tryz.func178, Tryz.ntmps178
  go_wp2_with fail
  refine HNo.out.mono ?_
  rintro r w1 ⟨g, cp, ρ, γ, rfl, HM, hb1⟩
  have hcp := HM.out.out.caps
  go_wp2_with fail
  go_loopw [6] (fun iv wr => ∃ (k : Nat) (f : Nat → Nat → Bool), k ≤ s.size ∧ iv = .int .i64 k ∧ Hid (MatO wr w.heap.size g cp (s.size + 1) (s.size + 1) ρ γ f ∧ (∀ i j, i ≤ j → j < s.size + 1 → f i j = (decide (j = i + 1) && (((sb s)[i]?).map (fun x => x == c)).getD false && decide (i < k))) ∧ Below w.heap.size w wr)) (fun iv _ => s.size - (intOf iv).toNat)
  case atStart => exact ⟨0, _, Nat.zero_le _, rfl, HM.out, fun i j _ _ => by simp, hb1⟩
  case round =>
    obtain ⟨k, f, hk, rfl, HJ⟩ := hrel
    by_cases hlt : k < s.size
    · have zk : (k : Int) < (s.size : Int) := by omega
      obtain ⟨x, hx⟩ : ∃ x, (sb s)[k]? = some x := ⟨_, List.getElem?_eq_getElem (by rw [sb_len]; exact hlt)⟩
      obtain ⟨_, gx⟩ := sb_get hx
      have c0 : wr.cell? ⟨g, k, none⟩ = some (slV (ρ k) (s.size + 1) (γ k)) := HJ.out.1.cell (by omega)
      have hkk : k < s.size + 1 := by omega
      have c1 : wr.cell? ⟨ρ k, k + 1, none⟩ = some (.bool (f k (k + 1))) := (HJ.out.1.row k hkk).cell (by omega)
      have y1 : wr.frozen? ⟨ρ k, k + 1, none⟩ = false := World.ownsRow.frozenAt (HJ.out.1.row k hkk) _
      have hrc := (HJ.out.1.row k hkk).caps
      obtain ⟨bv, hbv⟩ : ∃ bv, bv = ((c.toNat : Int) == (x.toNat : Int)) := ⟨_, rfl⟩
      have HV : Hid (bv = (fun x => x == c) x) := by show _ = _; rw [hbv, Bool.eq_iff_iff, beq_iff_eq, beq_iff_eq]; exact ⟨fun q => UInt8.toNat_inj.1 (by omega), fun q => by rw [q]⟩
      have HX : Hid ((sb s)[k]? = some x) := hx
      clear hx
      go_upto_region 7 with fail
      refine wp_region_T 99 (fun _ => True) (by kernel_rfl) ?_
      refine anyT_takeN (i := 0) (v := ?vb0) rfl (by kernel_rfl) (by kernel_rfl) (by kernel_rfl) (by rfl) (fun _ _ _ h => h) (Or.inl ⟨by rfl, ?yb0⟩) True.intro ?_
      case yb0 => (intro wz hSw; go_simp; (try with_reducible rfl))
      try simp only [Act.put, List.getElem_toArray, List.getElem_cons_zero, List.getElem_cons_succ, List.setIfInBounds_toArray, List.set_cons_zero, List.set_cons_succ]
      refine anyT_takeN (i := 1) (v := ?vb1) rfl (by kernel_rfl) (by kernel_rfl) (by kernel_rfl) (by rfl) (fun _ _ _ h => h) (Or.inl ⟨by rfl, ?yb1⟩) True.intro ?_
      case yb1 => (intro wz hSw; go_simp; (try with_reducible rfl))
      try simp only [Act.put, List.getElem_toArray, List.getElem_cons_zero, List.getElem_cons_succ, List.setIfInBounds_toArray, List.set_cons_zero, List.set_cons_succ]
      refine anyT_takeN (i := 2) (v := .bool false) rfl (by kernel_rfl) (by kernel_rfl) (by kernel_rfl) (by rfl) (fun _ _ _ h => h) (Or.inl ⟨by rfl, ?yb2⟩) True.intro ?_
      case yb2 => (intro wz hSw; go_simp; (try simp only [z46]); (try with_reducible rfl))
      try simp only [Act.put, List.getElem_toArray, List.getElem_cons_zero, List.getElem_cons_succ, List.setIfInBounds_toArray, List.set_cons_zero, List.set_cons_succ]
      refine anyT_takeN (i := 3) (v := ?vb3) rfl (by kernel_rfl) (by kernel_rfl) (by kernel_rfl) (by rfl) (fun _ _ _ h => h) (Or.inl ⟨by rfl, ?yb3⟩) True.intro ?_
      case yb3 => (intro wz hSw; go_simp; (try with_reducible rfl))
      try simp only [Act.put, List.getElem_toArray, List.getElem_cons_zero, List.getElem_cons_succ, List.setIfInBounds_toArray, List.set_cons_zero, List.set_cons_succ]
      refine anyT_takeN (i := 4) (v := ?vb4) rfl (by kernel_rfl) (by kernel_rfl) (by kernel_rfl) (by rfl) (fun _ _ _ h => h) (Or.inl ⟨by rfl, ?yb4⟩) True.intro ?_
      case yb4 => (intro wz hSw; go_simp; (try with_reducible rfl))
      try simp only [Act.put, List.getElem_toArray, List.getElem_cons_zero, List.getElem_cons_succ, List.setIfInBounds_toArray, List.set_cons_zero, List.set_cons_succ]
      refine anyT_takeN (i := 5) (v := ?vb5) rfl (by kernel_rfl) (by kernel_rfl) (by kernel_rfl) (by rfl) (fun _ _ _ h => h) (Or.inl ⟨by rfl, ?yb5⟩) True.intro ?_
      case yb5 => (intro wz hSw; go_simp; (try with_reducible rfl))
      try simp only [Act.put, List.getElem_toArray, List.getElem_cons_zero, List.getElem_cons_succ, List.setIfInBounds_toArray, List.set_cons_zero, List.set_cons_succ]
      refine anyT_takeN (i := 6) (v := ?vb6) rfl (by kernel_rfl) (by kernel_rfl) (by kernel_rfl) (by rfl) (fun _ _ _ h => h) (Or.inl ⟨by rfl, ?yb6⟩) True.intro ?_
      case yb6 => (intro wz hSw; go_simp; (try with_reducible rfl))
      try simp only [Act.put, List.getElem_toArray, List.getElem_cons_zero, List.getElem_cons_succ, List.setIfInBounds_toArray, List.set_cons_zero, List.set_cons_succ]
      refine anyT_takeN (i := 7) (v := ?vb7) rfl (by kernel_rfl) (by kernel_rfl) (by kernel_rfl) (by rfl) (fun _ _ _ h => h) (Or.inl ⟨by rfl, ?yb7⟩) True.intro ?_
      case yb7 => (intro wz hSw; go_simp; (try with_reducible rfl))
      try simp only [Act.put, List.getElem_toArray, List.getElem_cons_zero, List.getElem_cons_succ, List.setIfInBounds_toArray, List.set_cons_zero, List.set_cons_succ]
      refine anyT_takeN (i := 8) (v := ?vb8) rfl (by kernel_rfl) (by kernel_rfl) (by kernel_rfl) (by rfl) (fun _ _ _ h => h) (Or.inl ⟨by rfl, ?yb8⟩) True.intro ?_
      case yb8 => (intro wz hSw; go_simp; (try with_reducible rfl))
      try simp only [Act.put, List.getElem_toArray, List.getElem_cons_zero, List.getElem_cons_succ, List.setIfInBounds_toArray, List.set_cons_zero, List.set_cons_succ]
      refine anyT_takeN (i := 9) (v := ?vb9) rfl (by kernel_rfl) (by kernel_rfl) (by kernel_rfl) (by rfl) (fun _ _ _ h => h) (Or.inl ⟨by rfl, ?yb9⟩) True.intro ?_
      case yb9 => (intro wz hSw; go_simp; (try with_reducible rfl))
      try simp only [Act.put, List.getElem_toArray, List.getElem_cons_zero, List.getElem_cons_succ, List.setIfInBounds_toArray, List.set_cons_zero, List.set_cons_succ]
      refine anyT_takeN (i := 10) (v := ?vb10) rfl (by kernel_rfl) (by kernel_rfl) (by kernel_rfl) (by rfl) (fun _ _ _ h => h) (Or.inl ⟨by rfl, ?yb10⟩) True.intro ?_
      case yb10 => (intro wz hSw; go_simp; (try with_reducible rfl))
      try simp only [Act.put, List.getElem_toArray, List.getElem_cons_zero, List.getElem_cons_succ, List.setIfInBounds_toArray, List.set_cons_zero, List.set_cons_succ]
      refine anyT_one (i := 11) (by kernel_rfl) rfl (fun K hK => ?_)
      go_simp
      refine hK.out _ _ (.inr True.intro) ?_
      clear hK
      try simp only [Act.put, List.getElem_toArray, List.getElem_cons_zero, List.getElem_cons_succ, List.setIfInBounds_toArray, List.set_cons_zero, List.set_cons_succ]
      refine anyT_done (by kernel_rfl) ?_
      go_upto_region 9 with fail
      refine wp_region_T 99 (fun _ => True) (by kernel_rfl) ?_
      refine anyT_takeN (i := 0) (v := ?ve0) rfl (by kernel_rfl) (by kernel_rfl) (by kernel_rfl) (by rfl) (fun _ _ _ h => h) (Or.inl ⟨by rfl, ?ye0⟩) True.intro ?_
      case ye0 => (intro wz hSw; go_simp; (try with_reducible rfl))
      try simp only [Act.put, List.getElem_toArray, List.getElem_cons_zero, List.getElem_cons_succ, List.setIfInBounds_toArray, List.set_cons_zero, List.set_cons_succ]
      refine anyT_takeN (i := 1) (v := ?ve1) rfl (by kernel_rfl) (by kernel_rfl) (by kernel_rfl) (by rfl) (fun _ _ _ h => h) (Or.inl ⟨by rfl, ?ye1⟩) True.intro ?_
      case ye1 => (intro wz hSw; go_simp; (try with_reducible rfl))
      try simp only [Act.put, List.getElem_toArray, List.getElem_cons_zero, List.getElem_cons_succ, List.setIfInBounds_toArray, List.set_cons_zero, List.set_cons_succ]
      refine anyT_takeN (i := 2) (v := ?ve2) rfl (by kernel_rfl) (by kernel_rfl) (by kernel_rfl) (by rfl) (fun _ _ _ h => h) (Or.inl ⟨by rfl, ?ye2⟩) True.intro ?_
      case ye2 => (intro wz hSw; go_simp; (try with_reducible rfl))
      try simp only [Act.put, List.getElem_toArray, List.getElem_cons_zero, List.getElem_cons_succ, List.setIfInBounds_toArray, List.set_cons_zero, List.set_cons_succ]
      refine anyT_takeN (i := 3) (v := ?ve3) rfl (by kernel_rfl) (by kernel_rfl) (by kernel_rfl) (by rfl) (fun _ _ _ h => h) (Or.inl ⟨by rfl, ?ye3⟩) True.intro ?_
      case ye3 => (intro wz hSw; go_simp; (try with_reducible rfl))
      try simp only [Act.put, List.getElem_toArray, List.getElem_cons_zero, List.getElem_cons_succ, List.setIfInBounds_toArray, List.set_cons_zero, List.set_cons_succ]
      refine anyT_takeN (i := 4) (v := ?ve4) rfl (by kernel_rfl) (by kernel_rfl) (by kernel_rfl) (by rfl) (fun _ _ _ h => h) (Or.inl ⟨by rfl, ?ye4⟩) True.intro ?_
      case ye4 => (intro wz hSw; go_simp; (try with_reducible rfl))
      try simp only [Act.put, List.getElem_toArray, List.getElem_cons_zero, List.getElem_cons_succ, List.setIfInBounds_toArray, List.set_cons_zero, List.set_cons_succ]
      refine anyT_takeN (i := 5) (v := ?ve5) rfl (by kernel_rfl) (by kernel_rfl) (by kernel_rfl) (by rfl) (fun _ _ _ h => h) (Or.inl ⟨by rfl, ?ye5⟩) True.intro ?_
      case ye5 => (intro wz hSw; go_simp; (try with_reducible rfl))
      try simp only [Act.put, List.getElem_toArray, List.getElem_cons_zero, List.getElem_cons_succ, List.setIfInBounds_toArray, List.set_cons_zero, List.set_cons_succ]
      refine anyT_one (i := 6) (by kernel_rfl) rfl (fun K hK => ?_)
      go_simp
      refine hK.out _ _ (.inr True.intro) ?_
      clear hK
      try simp only [Act.put, List.getElem_toArray, List.getElem_cons_zero, List.getElem_cons_succ, List.setIfInBounds_toArray, List.set_cons_zero, List.set_cons_succ]
      refine anyT_done (by kernel_rfl) ?_
      rw [← hbv]
      clear hbv
      have HJ2 : Hid (MatO (wr.setCell ⟨ρ k, k + 1, none⟩ (.bool bv)).drew.drew w.heap.size g cp (s.size + 1) (s.size + 1) ρ γ (upd2 f k (k + 1) bv) ∧ (∀ i j, i ≤ j → j < s.size + 1 → upd2 f k (k + 1) bv i j = (decide (j = i + 1) && (((sb s)[i]?).map (fun x => x == c)).getD false && decide (i < k + 1))) ∧ Below w.heap.size w (wr.setCell ⟨ρ k, k + 1, none⟩ (.bool bv)).drew.drew) := by
        refine ⟨(HJ.out.1.set hkk (by omega) bv).below ((Below.refl _ _).drew.drew), fun i j hij hj => ?_, (below_set HJ.out.2.2 (HJ.out.1.row k hkk).lt.1 _ _).drew.drew⟩
        unfold upd2
        by_cases e : i = k ∧ j = k + 1
        · rw [if_pos e, e.1, e.2, HX.out, HV.out]; simp
        · rw [if_neg e, HJ.out.2.1 i j hij hj]
          by_cases e2 : j = i + 1
          · have h1 : i ≠ k := fun q => e ⟨q, by omega⟩
            have h2 : decide (i < k) = decide (i < k + 1) := by rw [decide_eq_decide]; omega
            rw [h2]
          · simp [e2]
      go_wp2_with fail
      refine ⟨⟨k + 1, upd2 f k (k + 1) bv, by omega, by go_num, HJ2⟩, ?_⟩
      go_light
      simp [intOf]; omega
    · obtain rfl : k = s.size := by omega
      have zk : ¬ (s.size : Int) < (s.size : Int) := by omega
      go_wp2_with fail
      go_ret
      refine ⟨g, cp, ρ, γ, f, rfl, hcp.1, ⟨HJ.out.1.read, (relW_one (τ := fun x => x == c) (fun i j hij hj => ?_)).iff (fun _ _ _ _ => rfl) (fun y => by simp [Lg])⟩, HJ.out.2.2⟩
      rw [sb_len] at hj
      rw [HJ.out.2.1 i j hij hj]
      by_cases e : j = i + 1
      · have h1 : i < s.size := by omega
        simp [h1]
      · simp [e]
end Go.Proofs.YtkidabedcgngcaaGreatDoor

