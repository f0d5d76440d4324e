import Derived.Deep.RegionLaw
import Derived.Deep.AppendLies
import Derived.Maps.AppendAt
import Derived.Recover
import Derived.RecoverIn
import Derived.Stop.Asserts
import Derived.Test.YtnncedndlhfdkaaPkAA
/-
  spec.l4Class.
-/
namespace Go.Proofs.Ytnncedndlhfdkaa
open Go.ChangeShapes Go.WideShapes Go.ChangeAt Go.RowKit Go.Deep
set_option linter.unusedVariables false
set_option linter.unusedSimpArgs false
set_option maxRecDepth 100000

theorem cls_go {p : List UInt8} {j : Nat} {b : Bool} {f : UInt8 → Bool} (hj : j ≤ p.length) (h : ¬ (p[j]? = some 93 ∧ b = true)) : clsM p j b f = match itemM p j with | .inr e => .inr e | .inl (a, b, k) => clsM p k true (wider f a b) := by
  cases b
  · exact cls_first hj
  · exact cls_more hj (fun q => h ⟨q, rfl⟩)
/-- What l4Class hands back. -/
def ClassP (p : ByteArray) (i : Nat) (e : Ending) : Prop :=
  (∃ f k, classM (sb p) i = .inl (f, k) ∧ e = .returned (.tuple #[.int .i64 (k : Int), .agg #[.int .i64 0, .int .i64 0]])) ∨ (∃ c k, classM (sb p) i = .inr (c, k) ∧ e = .returned (.tuple #[.int .i64 0, .agg #[.int .i64 c, .int .i64 (k : Int)]]))
theorem class_ret {base rb : Nat} {w : World} {a : Act} {x y z : Value} (hx : a.tmps.getD 4 undef = x) (ht : a.tmps.getD 5 undef = .pointer (some ⟨rb, 0, none⟩)) (he : BoxAt w base 46 2 rb [y, z]) :
    (results Try.f35 a.tmps).run Try.prog w = .ok (.tuple #[x, .agg #[y, z]]) w := by
  have q0 := he.cell (j := 0) rfl
  have q1 := he.cell (j := 1) rfl
  have h1 : a.tmps[4]?.getD undef = x := by rw [← Array.getD_eq_getD_getElem?]; exact hx
  have h2 : a.tmps[5]?.getD undef = .pointer (some ⟨rb, 0, none⟩) := by rw [← Array.getD_eq_getD_getElem?]; exact ht
  simp [results, Try.results35, go_sem, h1, h2, q0, q1]

set_option maxHeartbeats 8000000 in
theorem l4Class_core (p : ByteArray) (i : Nat) (w : World) (hp : p.size ≤ 200) (hi : i < p.size) :
    Calls Try.prog 35 #[.string p, .int .i64 (i : Int)] w fun e w' => ClassP p (i + 1) e ∧ Below w.heap.size w w' := by
  obtain ⟨W0, hW0⟩ : ∃ W0 : World, W0 = w.alloc (Obj.cells #[.int .i64 0, .int .i64 0] 46) := ⟨_, rfl⟩
  have HW0 : Hid (BoxAt W0 w.heap.size 46 2 w.heap.size [.int .i64 0, .int .i64 0] ∧ Below w.heap.size w W0) := by
    rw [hW0]; exact ⟨boxAt_new w _ (Nat.le_refl _) rfl, (Below.refl _ _).alloc (Nat.le_refl _) _⟩
  have HS : Hid (∀ a b : Value, BoxAt ((W0.setCell ⟨w.heap.size, 0, none⟩ a).setCell ⟨w.heap.size, 1, none⟩ b) w.heap.size 46 2 w.heap.size [a, b] ∧ Below w.heap.size w ((W0.setCell ⟨w.heap.size, 0, none⟩ a).setCell ⟨w.heap.size, 1, none⟩ b)) := fun a b => ⟨(HW0.out.1.set 0 a).set 1 b, below_set (below_set HW0.out.2 (Nat.le_refl _) 0 _) (Nat.le_refl _) 1 _⟩
  have r0 := HW0.out.1.cell (j := 0) rfl
  have r1 := HW0.out.1.cell (j := 1) rfl
  have f0 := HW0.out.1.frozen 0
  have f1 := HW0.out.1.frozen 1
  clear HW0
  obtain ⟨ng, j0, hng, hj0, hM0⟩ : ∃ (ng : Bool) (j0 : Nat), j0 = (if ng = true then i + 2 else i + 1) ∧ j0 ≤ p.size ∧ (ClsEq (sb p) (i + 1) ng j0 false (fun _ => false) ∧ (ng = true ↔ (sb p)[i + 1]? = some 94)) := by
    by_cases hx : (sb p)[i + 1]? = some 94
    · refine ⟨true, i + 2, rfl, by have := lt_of_at hx; rw [sb_len] at this; omega, ?_, ⟨fun _ => hx, fun _ => rfl⟩⟩
      unfold ClsEq classM; rw [if_pos hx]; rfl
    · refine ⟨false, i + 1, rfl, by omega, ?_, ⟨fun q => (by cases q), fun q => absurd q hx⟩⟩
      unfold ClsEq classM; rw [if_neg hx]
      generalize clsM (sb p) (i + 1) false (fun _ => false) = r
      cases r <;> rfl
  have HM0 : Hid (ClsEq (sb p) (i + 1) ng j0 false (fun _ => false)) := hM0.1
  have HNG : Hid (ng = true ↔ (sb p)[i + 1]? = some 94) := hM0.2
  have HJ0 : Hid (j0 = if ng = true then i + 2 else i + 1) := hng
  clear hM0 hng
  go_enter Try.func35, Try.ntmps35
  go_upto_region 1 with fail
  rw [← hW0]
  clear hW0
  -- TAIL
  by_cases hi1 : i + 1 < p.size
  · obtain ⟨x0, hx0⟩ : ∃ x, (sb p)[i + 1]? = some x := ⟨_, List.getElem?_eq_getElem (by rw [sb_len]; exact hi1)⟩
    obtain ⟨_, gx0⟩ := sb_get hx0
    have zi1 : (i : Int) + 1 < (p.size : Int) := by omega
    cases ng
    · have z94 : ((x0.toNat : Int) == 94) = false := beq_eq_false_iff_ne.2 (ne_u8 (c := 94) (fun q => by have h1 := HNG.out.2 (by rw [hx0, q]); cases h1))
      clear hx0
      go_wp2_with fail
      go_loopw [6, 7] (fun jv nv wr => ∃ (j n : Nat) (f : UInt8 → Bool), j ≤ p.size ∧ n ≤ j ∧ jv = .int .i64 (j : Int) ∧ nv = .int .i64 (n : Int) ∧ ClsEq (sb p) (i + 1) false j (decide (0 < n)) f ∧ wr = W0) (fun jv _ _ => p.size - (intOf jv).toNat)
      case atStart => exact ⟨j0, 0, fun _ => false, hj0, Nat.zero_le _, congrArg (Value.int .i64) (by rw [HJ0.out]; simp <;> omega), rfl, HM0.out, rfl⟩
      case round =>
        obtain ⟨j, n, f, hj, hnj, rfl, rfl, hE, hwr⟩ := hrel
        have HE : Hid (ClsEq (sb p) (i + 1) false j (decide (0 < n)) f) := hE
        rw [hwr]
        clear hE hwr HM0 HJ0 HNG
        by_cases hlt : j < p.size
        · obtain ⟨x, hx⟩ : ∃ x, (sb p)[j]? = some x := ⟨_, List.getElem?_eq_getElem (by rw [sb_len]; exact hlt)⟩
          obtain ⟨_, gx⟩ := sb_get hx
          have HX : Hid ((sb p)[j]? = some x) := hx
          have zj : (j : Int) < (p.size : Int) := by omega
          clear hx
          by_cases hend : x = 93 ∧ 0 < n
          · obtain ⟨rfl, hn0⟩ := hend
            have zn : (0 : Int) < (n : Int) := by omega
            have HF : Hid (∃ f', classM (sb p) (i + 1) = .inl (f', j + 1)) := by
              refine ⟨if false = true then fun c => !f c else f, ?_⟩
              rw [HE.out.eq, decide_eq_true hn0, cls_shut HX.out]
            obtain ⟨f', hf'⟩ := HF.out
            have HF' : Hid (classM (sb p) (i + 1) = .inl (f', j + 1)) := hf'
            clear hf' HF
            go_wp2_with fail
            exact bodyPost_ret (v := .tuple #[.int .i64 ((j + 1 : Nat) : Int), .agg #[.int .i64 0, .int .i64 0]]) (class_ret rfl rfl (HS.out (.int .i64 0) (.int .i64 0)).1) rfl ⟨.inl ⟨f', j + 1, HF'.out, rfl⟩, (HS.out (.int .i64 0) (.int .i64 0)).2⟩
          · have HG : Hid (clsM (sb p) j (decide (0 < n)) f = match itemM (sb p) j with | .inr e => .inr e | .inl (a, b, k) => clsM (sb p) k true (wider f a b)) := cls_go (by rw [sb_len]; omega) (fun q => hend ⟨by have h1 := q.1; rw [HX.out] at h1; exact Option.some.inj h1, by simpa using q.2⟩)
            obtain ⟨lo, k, b, hch⟩ : ∃ lo k b, chM (sb p) j = (lo, k, b) := ⟨_, _, _, rfl⟩
            have HCh : Hid (chM (sb p) j = (lo, k, b)) := hch
            have hkl : b = true → k ≤ p.size ∧ j < k := fun q => by
              subst q
              have := chM_gt hch
              rw [sb_len] at this
              omega
            clear hch
            have hpick : ((x.toNat : Int) == 93) = false ∨ (¬ (0 : Int) < (n : Int)) := by
              by_cases h93 : x = 93
              · exact .inr (fun q => hend ⟨h93, by omega⟩)
              · exact .inl (beq_eq_false_iff_ne.2 (ne_u8 (c := 93) h93))
            clear hend
            have hpk : (((x.toNat : Int) == 93) = false) ∨ (((x.toNat : Int) == 93) = true ∧ n = 0) := by
              rcases hpick with q | q
              · exact .inl q
              · cases hq : ((x.toNat : Int) == 93)
                · exact .inl rfl
                · exact .inr ⟨rfl, by omega⟩
            clear hpick
            rcases hpk with h93 | ⟨h93, hn0⟩
            case' inr =>
              have zn : ¬ (0 : Int) < (n : Int) := by omega
              clear hn0
            all_goals
              go_wp2_with fail
              refine (l4Ch_core p j W0 hp (by omega) lo k b HCh.out).mono ?_
              rintro e w1 ⟨rfl, hw1⟩
              rw [hw1]
              clear hw1
              cases b
              case false =>
                have HF : Hid (classM (sb p) (i + 1) = .inr (2, k)) := by
                  show classM (sb p) (i + 1) = _
                  rw [HE.out.eq, HG.out]
                  unfold itemM
                  rw [HCh.out]
                go_wp2_with fail
                exact bodyPost_ret (v := .tuple #[.int .i64 0, .agg #[.int .i64 2, .int .i64 (k : Int)]]) (class_ret rfl rfl (HS.out (.int .i64 2) (.int .i64 (k : Int))).1) rfl ⟨.inr ⟨2, k, HF.out, rfl⟩, (HS.out (.int .i64 2) (.int .i64 (k : Int))).2⟩
              obtain ⟨hks, hjk⟩ := hkl rfl
              clear hkl
              by_cases h45 : (sb p)[k]? = some 45
              · obtain ⟨hk2, gk⟩ := sb_get h45
                have HK : Hid ((sb p)[k]? = some 45) := h45
                have zk : (k : Int) < (p.size : Int) := by omega
                obtain ⟨hh, m, b2, hch2⟩ : ∃ hh m b2, chM (sb p) (k + 1) = (hh, m, b2) := ⟨_, _, _, rfl⟩
                have HCh2 : Hid (chM (sb p) (k + 1) = (hh, m, b2)) := hch2
                have hml : b2 = true → m ≤ p.size ∧ k < m := fun q => by
                  subst q
                  have := chM_gt hch2
                  rw [sb_len] at this
                  omega
                clear hch2 h45
                go_wp2_with fail
                refine (l4Ch_core p (k + 1) W0 hp (by omega) hh m b2 HCh2.out).mono ?_
                rintro e w2 ⟨rfl, hw2⟩
                rw [hw2]
                clear hw2
                cases b2
                · have HF : Hid (classM (sb p) (i + 1) = .inr (2, m)) := by
                    show classM (sb p) (i + 1) = _
                    rw [HE.out.eq, HG.out]
                    unfold itemM
                    rw [HCh.out]
                    simp only []
                    rw [if_pos HK.out, HCh2.out]
                  go_wp2_with fail
                  exact bodyPost_ret (v := .tuple #[.int .i64 0, .agg #[.int .i64 2, .int .i64 (m : Int)]]) (class_ret rfl rfl (HS.out (.int .i64 2) (.int .i64 (m : Int))).1) rfl ⟨.inr ⟨2, m, HF.out, rfl⟩, (HS.out (.int .i64 2) (.int .i64 (m : Int))).2⟩
                · obtain ⟨hms, hkm⟩ := hml rfl
                  clear hml
                  by_cases hlo : hh < lo
                  · have zlo : (hh.toNat : Int) < (lo.toNat : Int) := by have := UInt8.lt_iff_toNat_lt.1 hlo; omega
                    have HF : Hid (classM (sb p) (i + 1) = .inr (4, j)) := by
                      show classM (sb p) (i + 1) = _
                      rw [HE.out.eq, HG.out]
                      unfold itemM
                      rw [HCh.out]
                      simp only []
                      rw [if_pos HK.out, HCh2.out]
                      simp only []
                      rw [if_pos hlo]
                    go_wp2_with fail
                    exact bodyPost_ret (v := .tuple #[.int .i64 0, .agg #[.int .i64 4, .int .i64 (j : Int)]]) (class_ret rfl rfl (HS.out (.int .i64 4) (.int .i64 (j : Int))).1) rfl ⟨.inr ⟨4, j, HF.out, rfl⟩, (HS.out (.int .i64 4) (.int .i64 (j : Int))).2⟩
                  · have zlo : (lo.toNat : Int) ≤ (hh.toNat : Int) := by have := UInt8.le_iff_toNat_le.1 (UInt8.not_lt.1 hlo); omega
                    have HF : Hid (ClsEq (sb p) (i + 1) false m true (wider f lo hh)) := by
                      show ClsEq _ _ _ _ _ _
                      unfold ClsEq
                      rw [HE.out.eq, HG.out]
                      unfold itemM
                      rw [HCh.out]
                      simp only []
                      rw [if_pos HK.out, HCh2.out]
                      simp only []
                      rw [if_neg hlo]
                    clear hlo
                    go_wp2_with fail
                    go_roundw
                    case rel => exact ⟨m, n + 1, wider f lo hh, hms, by omega, rfl, by go_num, by rw [decide_eq_true (Nat.succ_pos n)]; exact HF.out, trivial⟩
                    case measure => simp [intOf]; omega
              · have HK : Hid (¬ (sb p)[k]? = some 45) := h45
                have HF : Hid (ClsEq (sb p) (i + 1) false k true (wider f lo lo)) := by
                  show ClsEq _ _ _ _ _ _
                  unfold ClsEq
                  rw [HE.out.eq, HG.out]
                  unfold itemM
                  rw [HCh.out]
                  simp only []
                  rw [if_neg HK.out]
                clear h45
                by_cases hke : k < p.size
                · obtain ⟨y, hy⟩ : ∃ y, (sb p)[k]? = some y := ⟨_, List.getElem?_eq_getElem (by rw [sb_len]; exact hke)⟩
                  obtain ⟨_, gy⟩ := sb_get hy
                  have zk : (k : Int) < (p.size : Int) := by omega
                  have zy : ((y.toNat : Int) == 45) = false := beq_eq_false_iff_ne.2 (ne_u8 (c := 45) (fun q => HK.out (by rw [hy, q])))
                  clear hy
                  go_wp2_with fail
                  go_roundw
                  case rel => exact ⟨k, n + 1, wider f lo lo, hks, by omega, rfl, by go_num, by rw [decide_eq_true (Nat.succ_pos n)]; exact HF.out, trivial⟩
                  case measure => simp [intOf]; omega
                · have zk : ¬ (k : Int) < (p.size : Int) := by omega
                  go_wp2_with fail
                  go_roundw
                  case rel => exact ⟨k, n + 1, wider f lo lo, hks, by omega, rfl, by go_num, by rw [decide_eq_true (Nat.succ_pos n)]; exact HF.out, trivial⟩
                  case measure => simp [intOf]; omega
        · have HF : Hid (classM (sb p) (i + 1) = .inr (2, p.size)) := by
            show classM (sb p) (i + 1) = _
            rw [HE.out.eq, clsM, dif_neg (by rw [sb_len]; exact hlt), sb_len]
          have zj : ¬ (j : Int) < (p.size : Int) := by omega
          go_wp2_with fail
          exact bodyPost_ret (v := .tuple #[.int .i64 0, .agg #[.int .i64 2, .int .i64 (p.size : Int)]]) (class_ret rfl rfl (HS.out (.int .i64 2) (.int .i64 (p.size : Int))).1) rfl ⟨.inr ⟨2, p.size, HF.out, rfl⟩, (HS.out (.int .i64 2) (.int .i64 (p.size : Int))).2⟩
    · have h94 : x0 = 94 := by have h1 := HNG.out.1 rfl; rw [hx0] at h1; exact Option.some.inj h1
      subst h94
      clear hx0
      go_wp2_with fail
      go_loopw [6, 7] (fun jv nv wr => ∃ (j n : Nat) (f : UInt8 → Bool), j ≤ p.size ∧ n ≤ j ∧ jv = .int .i64 (j : Int) ∧ nv = .int .i64 (n : Int) ∧ ClsEq (sb p) (i + 1) true j (decide (0 < n)) f ∧ wr = W0) (fun jv _ _ => p.size - (intOf jv).toNat)
      case atStart => exact ⟨j0, 0, fun _ => false, hj0, Nat.zero_le _, congrArg (Value.int .i64) (by rw [HJ0.out]; simp <;> omega), rfl, HM0.out, rfl⟩
      case round =>
        obtain ⟨j, n, f, hj, hnj, rfl, rfl, hE, hwr⟩ := hrel
        have HE : Hid (ClsEq (sb p) (i + 1) true j (decide (0 < n)) f) := hE
        rw [hwr]
        clear hE hwr HM0 HJ0 HNG
        by_cases hlt : j < p.size
        · obtain ⟨x, hx⟩ : ∃ x, (sb p)[j]? = some x := ⟨_, List.getElem?_eq_getElem (by rw [sb_len]; exact hlt)⟩
          obtain ⟨_, gx⟩ := sb_get hx
          have HX : Hid ((sb p)[j]? = some x) := hx
          have zj : (j : Int) < (p.size : Int) := by omega
          clear hx
          by_cases hend : x = 93 ∧ 0 < n
          · obtain ⟨rfl, hn0⟩ := hend
            have zn : (0 : Int) < (n : Int) := by omega
            have HF : Hid (∃ f', classM (sb p) (i + 1) = .inl (f', j + 1)) := by
              refine ⟨if true = true then fun c => !f c else f, ?_⟩
              rw [HE.out.eq, decide_eq_true hn0, cls_shut HX.out]
            obtain ⟨f', hf'⟩ := HF.out
            have HF' : Hid (classM (sb p) (i + 1) = .inl (f', j + 1)) := hf'
            clear hf' HF
            go_wp2_with fail
            exact bodyPost_ret (v := .tuple #[.int .i64 ((j + 1 : Nat) : Int), .agg #[.int .i64 0, .int .i64 0]]) (class_ret rfl rfl (HS.out (.int .i64 0) (.int .i64 0)).1) rfl ⟨.inl ⟨f', j + 1, HF'.out, rfl⟩, (HS.out (.int .i64 0) (.int .i64 0)).2⟩
          · have HG : Hid (clsM (sb p) j (decide (0 < n)) f = match itemM (sb p) j with | .inr e => .inr e | .inl (a, b, k) => clsM (sb p) k true (wider f a b)) := cls_go (by rw [sb_len]; omega) (fun q => hend ⟨by have h1 := q.1; rw [HX.out] at h1; exact Option.some.inj h1, by simpa using q.2⟩)
            obtain ⟨lo, k, b, hch⟩ : ∃ lo k b, chM (sb p) j = (lo, k, b) := ⟨_, _, _, rfl⟩
            have HCh : Hid (chM (sb p) j = (lo, k, b)) := hch
            have hkl : b = true → k ≤ p.size ∧ j < k := fun q => by
              subst q
              have := chM_gt hch
              rw [sb_len] at this
              omega
            clear hch
            have hpick : ((x.toNat : Int) == 93) = false ∨ (¬ (0 : Int) < (n : Int)) := by
              by_cases h93 : x = 93
              · exact .inr (fun q => hend ⟨h93, by omega⟩)
              · exact .inl (beq_eq_false_iff_ne.2 (ne_u8 (c := 93) h93))
            clear hend
            have hpk : (((x.toNat : Int) == 93) = false) ∨ (((x.toNat : Int) == 93) = true ∧ n = 0) := by
              rcases hpick with q | q
              · exact .inl q
              · cases hq : ((x.toNat : Int) == 93)
                · exact .inl rfl
                · exact .inr ⟨rfl, by omega⟩
            clear hpick
            rcases hpk with h93 | ⟨h93, hn0⟩
            case' inr =>
              have zn : ¬ (0 : Int) < (n : Int) := by omega
              clear hn0
            all_goals
              go_wp2_with fail
              refine (l4Ch_core p j W0 hp (by omega) lo k b HCh.out).mono ?_
              rintro e w1 ⟨rfl, hw1⟩
              rw [hw1]
              clear hw1
              cases b
              case false =>
                have HF : Hid (classM (sb p) (i + 1) = .inr (2, k)) := by
                  show classM (sb p) (i + 1) = _
                  rw [HE.out.eq, HG.out]
                  unfold itemM
                  rw [HCh.out]
                go_wp2_with fail
                exact bodyPost_ret (v := .tuple #[.int .i64 0, .agg #[.int .i64 2, .int .i64 (k : Int)]]) (class_ret rfl rfl (HS.out (.int .i64 2) (.int .i64 (k : Int))).1) rfl ⟨.inr ⟨2, k, HF.out, rfl⟩, (HS.out (.int .i64 2) (.int .i64 (k : Int))).2⟩
              obtain ⟨hks, hjk⟩ := hkl rfl
              clear hkl
              by_cases h45 : (sb p)[k]? = some 45
              · obtain ⟨hk2, gk⟩ := sb_get h45
                have HK : Hid ((sb p)[k]? = some 45) := h45
                have zk : (k : Int) < (p.size : Int) := by omega
                obtain ⟨hh, m, b2, hch2⟩ : ∃ hh m b2, chM (sb p) (k + 1) = (hh, m, b2) := ⟨_, _, _, rfl⟩
                have HCh2 : Hid (chM (sb p) (k + 1) = (hh, m, b2)) := hch2
                have hml : b2 = true → m ≤ p.size ∧ k < m := fun q => by
                  subst q
                  have := chM_gt hch2
                  rw [sb_len] at this
                  omega
                clear hch2 h45
                go_wp2_with fail
                refine (l4Ch_core p (k + 1) W0 hp (by omega) hh m b2 HCh2.out).mono ?_
                rintro e w2 ⟨rfl, hw2⟩
                rw [hw2]
                clear hw2
                cases b2
                · have HF : Hid (classM (sb p) (i + 1) = .inr (2, m)) := by
                    show classM (sb p) (i + 1) = _
                    rw [HE.out.eq, HG.out]
                    unfold itemM
                    rw [HCh.out]
                    simp only []
                    rw [if_pos HK.out, HCh2.out]
                  go_wp2_with fail
                  exact bodyPost_ret (v := .tuple #[.int .i64 0, .agg #[.int .i64 2, .int .i64 (m : Int)]]) (class_ret rfl rfl (HS.out (.int .i64 2) (.int .i64 (m : Int))).1) rfl ⟨.inr ⟨2, m, HF.out, rfl⟩, (HS.out (.int .i64 2) (.int .i64 (m : Int))).2⟩
                · obtain ⟨hms, hkm⟩ := hml rfl
                  clear hml
                  by_cases hlo : hh < lo
                  · have zlo : (hh.toNat : Int) < (lo.toNat : Int) := by have := UInt8.lt_iff_toNat_lt.1 hlo; omega
                    have HF : Hid (classM (sb p) (i + 1) = .inr (4, j)) := by
                      show classM (sb p) (i + 1) = _
                      rw [HE.out.eq, HG.out]
                      unfold itemM
                      rw [HCh.out]
                      simp only []
                      rw [if_pos HK.out, HCh2.out]
                      simp only []
                      rw [if_pos hlo]
                    go_wp2_with fail
                    exact bodyPost_ret (v := .tuple #[.int .i64 0, .agg #[.int .i64 4, .int .i64 (j : Int)]]) (class_ret rfl rfl (HS.out (.int .i64 4) (.int .i64 (j : Int))).1) rfl ⟨.inr ⟨4, j, HF.out, rfl⟩, (HS.out (.int .i64 4) (.int .i64 (j : Int))).2⟩
                  · have zlo : (lo.toNat : Int) ≤ (hh.toNat : Int) := by have := UInt8.le_iff_toNat_le.1 (UInt8.not_lt.1 hlo); omega
                    have HF : Hid (ClsEq (sb p) (i + 1) true m true (wider f lo hh)) := by
                      show ClsEq _ _ _ _ _ _
                      unfold ClsEq
                      rw [HE.out.eq, HG.out]
                      unfold itemM
                      rw [HCh.out]
                      simp only []
                      rw [if_pos HK.out, HCh2.out]
                      simp only []
                      rw [if_neg hlo]
                    clear hlo
                    go_wp2_with fail
                    go_roundw
                    case rel => exact ⟨m, n + 1, wider f lo hh, hms, by omega, rfl, by go_num, by rw [decide_eq_true (Nat.succ_pos n)]; exact HF.out, trivial⟩
                    case measure => simp [intOf]; omega
              · have HK : Hid (¬ (sb p)[k]? = some 45) := h45
                have HF : Hid (ClsEq (sb p) (i + 1) true k true (wider f lo lo)) := by
                  show ClsEq _ _ _ _ _ _
                  unfold ClsEq
                  rw [HE.out.eq, HG.out]
                  unfold itemM
                  rw [HCh.out]
                  simp only []
                  rw [if_neg HK.out]
                clear h45
                by_cases hke : k < p.size
                · obtain ⟨y, hy⟩ : ∃ y, (sb p)[k]? = some y := ⟨_, List.getElem?_eq_getElem (by rw [sb_len]; exact hke)⟩
                  obtain ⟨_, gy⟩ := sb_get hy
                  have zk : (k : Int) < (p.size : Int) := by omega
                  have zy : ((y.toNat : Int) == 45) = false := beq_eq_false_iff_ne.2 (ne_u8 (c := 45) (fun q => HK.out (by rw [hy, q])))
                  clear hy
                  go_wp2_with fail
                  go_roundw
                  case rel => exact ⟨k, n + 1, wider f lo lo, hks, by omega, rfl, by go_num, by rw [decide_eq_true (Nat.succ_pos n)]; exact HF.out, trivial⟩
                  case measure => simp [intOf]; omega
                · have zk : ¬ (k : Int) < (p.size : Int) := by omega
                  go_wp2_with fail
                  go_roundw
                  case rel => exact ⟨k, n + 1, wider f lo lo, hks, by omega, rfl, by go_num, by rw [decide_eq_true (Nat.succ_pos n)]; exact HF.out, trivial⟩
                  case measure => simp [intOf]; omega
        · have HF : Hid (classM (sb p) (i + 1) = .inr (2, p.size)) := by
            show classM (sb p) (i + 1) = _
            rw [HE.out.eq, clsM, dif_neg (by rw [sb_len]; exact hlt), sb_len]
          have zj : ¬ (j : Int) < (p.size : Int) := by omega
          go_wp2_with fail
          exact bodyPost_ret (v := .tuple #[.int .i64 0, .agg #[.int .i64 2, .int .i64 (p.size : Int)]]) (class_ret rfl rfl (HS.out (.int .i64 2) (.int .i64 (p.size : Int))).1) rfl ⟨.inr ⟨2, p.size, HF.out, rfl⟩, (HS.out (.int .i64 2) (.int .i64 (p.size : Int))).2⟩
  · have zi1 : ¬ (i : Int) + 1 < (p.size : Int) := by omega
    cases ng
    case true => exact absurd (HNG.out.1 rfl) (by rw [List.getElem?_eq_none (by rw [sb_len]; omega)]; exact fun q => by cases q)
    go_wp2_with fail
    go_loopw [6, 7] (fun jv nv wr => ∃ (j n : Nat) (f : UInt8 → Bool), j ≤ p.size ∧ n ≤ j ∧ jv = .int .i64 (j : Int) ∧ nv = .int .i64 (n : Int) ∧ ClsEq (sb p) (i + 1) false j (decide (0 < n)) f ∧ wr = W0) (fun jv _ _ => p.size - (intOf jv).toNat)
    case atStart => exact ⟨j0, 0, fun _ => false, hj0, Nat.zero_le _, congrArg (Value.int .i64) (by rw [HJ0.out]; simp <;> omega), rfl, HM0.out, rfl⟩
    case round =>
      obtain ⟨j, n, f, hj, hnj, rfl, rfl, hE, hwr⟩ := hrel
      have HE : Hid (ClsEq (sb p) (i + 1) false j (decide (0 < n)) f) := hE
      rw [hwr]
      clear hE hwr HM0 HJ0 HNG
      by_cases hlt : j < p.size
      · obtain ⟨x, hx⟩ : ∃ x, (sb p)[j]? = some x := ⟨_, List.getElem?_eq_getElem (by rw [sb_len]; exact hlt)⟩
        obtain ⟨_, gx⟩ := sb_get hx
        have HX : Hid ((sb p)[j]? = some x) := hx
        have zj : (j : Int) < (p.size : Int) := by omega
        clear hx
        by_cases hend : x = 93 ∧ 0 < n
        · obtain ⟨rfl, hn0⟩ := hend
          have zn : (0 : Int) < (n : Int) := by omega
          have HF : Hid (∃ f', classM (sb p) (i + 1) = .inl (f', j + 1)) := by
            refine ⟨if false = true then fun c => !f c else f, ?_⟩
            rw [HE.out.eq, decide_eq_true hn0, cls_shut HX.out]
          obtain ⟨f', hf'⟩ := HF.out
          have HF' : Hid (classM (sb p) (i + 1) = .inl (f', j + 1)) := hf'
          clear hf' HF
          go_wp2_with fail
          exact bodyPost_ret (v := .tuple #[.int .i64 ((j + 1 : Nat) : Int), .agg #[.int .i64 0, .int .i64 0]]) (class_ret rfl rfl (HS.out (.int .i64 0) (.int .i64 0)).1) rfl ⟨.inl ⟨f', j + 1, HF'.out, rfl⟩, (HS.out (.int .i64 0) (.int .i64 0)).2⟩
        · have HG : Hid (clsM (sb p) j (decide (0 < n)) f = match itemM (sb p) j with | .inr e => .inr e | .inl (a, b, k) => clsM (sb p) k true (wider f a b)) := cls_go (by rw [sb_len]; omega) (fun q => hend ⟨by have h1 := q.1; rw [HX.out] at h1; exact Option.some.inj h1, by simpa using q.2⟩)
          obtain ⟨lo, k, b, hch⟩ : ∃ lo k b, chM (sb p) j = (lo, k, b) := ⟨_, _, _, rfl⟩
          have HCh : Hid (chM (sb p) j = (lo, k, b)) := hch
          have hkl : b = true → k ≤ p.size ∧ j < k := fun q => by
            subst q
            have := chM_gt hch
            rw [sb_len] at this
            omega
          clear hch
          have hpick : ((x.toNat : Int) == 93) = false ∨ (¬ (0 : Int) < (n : Int)) := by
            by_cases h93 : x = 93
            · exact .inr (fun q => hend ⟨h93, by omega⟩)
            · exact .inl (beq_eq_false_iff_ne.2 (ne_u8 (c := 93) h93))
          clear hend
          have hpk : (((x.toNat : Int) == 93) = false) ∨ (((x.toNat : Int) == 93) = true ∧ n = 0) := by
            rcases hpick with q | q
            · exact .inl q
            · cases hq : ((x.toNat : Int) == 93)
              · exact .inl rfl
              · exact .inr ⟨rfl, by omega⟩
          clear hpick
          rcases hpk with h93 | ⟨h93, hn0⟩
          case' inr =>
            have zn : ¬ (0 : Int) < (n : Int) := by omega
            clear hn0
          all_goals
            go_wp2_with fail
            refine (l4Ch_core p j W0 hp (by omega) lo k b HCh.out).mono ?_
            rintro e w1 ⟨rfl, hw1⟩
            rw [hw1]
            clear hw1
            cases b
            case false =>
              have HF : Hid (classM (sb p) (i + 1) = .inr (2, k)) := by
                show classM (sb p) (i + 1) = _
                rw [HE.out.eq, HG.out]
                unfold itemM
                rw [HCh.out]
              go_wp2_with fail
              exact bodyPost_ret (v := .tuple #[.int .i64 0, .agg #[.int .i64 2, .int .i64 (k : Int)]]) (class_ret rfl rfl (HS.out (.int .i64 2) (.int .i64 (k : Int))).1) rfl ⟨.inr ⟨2, k, HF.out, rfl⟩, (HS.out (.int .i64 2) (.int .i64 (k : Int))).2⟩
            obtain ⟨hks, hjk⟩ := hkl rfl
            clear hkl
            by_cases h45 : (sb p)[k]? = some 45
            · obtain ⟨hk2, gk⟩ := sb_get h45
              have HK : Hid ((sb p)[k]? = some 45) := h45
              have zk : (k : Int) < (p.size : Int) := by omega
              obtain ⟨hh, m, b2, hch2⟩ : ∃ hh m b2, chM (sb p) (k + 1) = (hh, m, b2) := ⟨_, _, _, rfl⟩
              have HCh2 : Hid (chM (sb p) (k + 1) = (hh, m, b2)) := hch2
              have hml : b2 = true → m ≤ p.size ∧ k < m := fun q => by
                subst q
                have := chM_gt hch2
                rw [sb_len] at this
                omega
              clear hch2 h45
              go_wp2_with fail
              refine (l4Ch_core p (k + 1) W0 hp (by omega) hh m b2 HCh2.out).mono ?_
              rintro e w2 ⟨rfl, hw2⟩
              rw [hw2]
              clear hw2
              cases b2
              · have HF : Hid (classM (sb p) (i + 1) = .inr (2, m)) := by
                  show classM (sb p) (i + 1) = _
                  rw [HE.out.eq, HG.out]
                  unfold itemM
                  rw [HCh.out]
                  simp only []
                  rw [if_pos HK.out, HCh2.out]
                go_wp2_with fail
                exact bodyPost_ret (v := .tuple #[.int .i64 0, .agg #[.int .i64 2, .int .i64 (m : Int)]]) (class_ret rfl rfl (HS.out (.int .i64 2) (.int .i64 (m : Int))).1) rfl ⟨.inr ⟨2, m, HF.out, rfl⟩, (HS.out (.int .i64 2) (.int .i64 (m : Int))).2⟩
              · obtain ⟨hms, hkm⟩ := hml rfl
                clear hml
                by_cases hlo : hh < lo
                · have zlo : (hh.toNat : Int) < (lo.toNat : Int) := by have := UInt8.lt_iff_toNat_lt.1 hlo; omega
                  have HF : Hid (classM (sb p) (i + 1) = .inr (4, j)) := by
                    show classM (sb p) (i + 1) = _
                    rw [HE.out.eq, HG.out]
                    unfold itemM
                    rw [HCh.out]
                    simp only []
                    rw [if_pos HK.out, HCh2.out]
                    simp only []
                    rw [if_pos hlo]
                  go_wp2_with fail
                  exact bodyPost_ret (v := .tuple #[.int .i64 0, .agg #[.int .i64 4, .int .i64 (j : Int)]]) (class_ret rfl rfl (HS.out (.int .i64 4) (.int .i64 (j : Int))).1) rfl ⟨.inr ⟨4, j, HF.out, rfl⟩, (HS.out (.int .i64 4) (.int .i64 (j : Int))).2⟩
                · have zlo : (lo.toNat : Int) ≤ (hh.toNat : Int) := by have := UInt8.le_iff_toNat_le.1 (UInt8.not_lt.1 hlo); omega
                  have HF : Hid (ClsEq (sb p) (i + 1) false m true (wider f lo hh)) := by
                    show ClsEq _ _ _ _ _ _
                    unfold ClsEq
                    rw [HE.out.eq, HG.out]
                    unfold itemM
                    rw [HCh.out]
                    simp only []
                    rw [if_pos HK.out, HCh2.out]
                    simp only []
                    rw [if_neg hlo]
                  clear hlo
                  go_wp2_with fail
                  go_roundw
                  case rel => exact ⟨m, n + 1, wider f lo hh, hms, by omega, rfl, by go_num, by rw [decide_eq_true (Nat.succ_pos n)]; exact HF.out, trivial⟩
                  case measure => simp [intOf]; omega
            · have HK : Hid (¬ (sb p)[k]? = some 45) := h45
              have HF : Hid (ClsEq (sb p) (i + 1) false k true (wider f lo lo)) := by
                show ClsEq _ _ _ _ _ _
                unfold ClsEq
                rw [HE.out.eq, HG.out]
                unfold itemM
                rw [HCh.out]
                simp only []
                rw [if_neg HK.out]
              clear h45
              by_cases hke : k < p.size
              · obtain ⟨y, hy⟩ : ∃ y, (sb p)[k]? = some y := ⟨_, List.getElem?_eq_getElem (by rw [sb_len]; exact hke)⟩
                obtain ⟨_, gy⟩ := sb_get hy
                have zk : (k : Int) < (p.size : Int) := by omega
                have zy : ((y.toNat : Int) == 45) = false := beq_eq_false_iff_ne.2 (ne_u8 (c := 45) (fun q => HK.out (by rw [hy, q])))
                clear hy
                go_wp2_with fail
                go_roundw
                case rel => exact ⟨k, n + 1, wider f lo lo, hks, by omega, rfl, by go_num, by rw [decide_eq_true (Nat.succ_pos n)]; exact HF.out, trivial⟩
                case measure => simp [intOf]; omega
              · have zk : ¬ (k : Int) < (p.size : Int) := by omega
                go_wp2_with fail
                go_roundw
                case rel => exact ⟨k, n + 1, wider f lo lo, hks, by omega, rfl, by go_num, by rw [decide_eq_true (Nat.succ_pos n)]; exact HF.out, trivial⟩
                case measure => simp [intOf]; omega
      · have HF : Hid (classM (sb p) (i + 1) = .inr (2, p.size)) := by
          show classM (sb p) (i + 1) = _
          rw [HE.out.eq, clsM, dif_neg (by rw [sb_len]; exact hlt), sb_len]
        have zj : ¬ (j : Int) < (p.size : Int) := by omega
        go_wp2_with fail
        exact bodyPost_ret (v := .tuple #[.int .i64 0, .agg #[.int .i64 2, .int .i64 (p.size : Int)]]) (class_ret rfl rfl (HS.out (.int .i64 2) (.int .i64 (p.size : Int))).1) rfl ⟨.inr ⟨2, p.size, HF.out, rfl⟩, (HS.out (.int .i64 2) (.int .i64 (p.size : Int))).2⟩
end Go.Proofs.Ytnncedndlhfdkaa

/-
  spec.CheckRegex.
-/
namespace Go.Proofs.Ytnncedndlhfdkaa
open Go.ChangeShapes Go.WideShapes Go.ChangeAt Go.RowKit Go.Deep
set_option linter.unusedVariables false
set_option linter.unusedSimpArgs false
set_option maxRecDepth 100000

/-- What the check of a pattern comes to. -/
def specM (p : List UInt8) : Int × Nat := if 200 < p.length then (1, 0) else chkM p 0 0 false
theorem chk_ret {base rb : Nat} {w : World} {a : Act} {y z : Value} (ht : a.tmps.getD 2 undef = .pointer (some ⟨rb, 0, none⟩)) (he : BoxAt w base 46 2 rb [y, z]) :
    (results Try.f23 a.tmps).run Try.prog w = .ok (.agg #[y, z]) w := by
  have q0 := he.cell (j := 0) rfl
  have q1 := he.cell (j := 1) rfl
  have h2 : a.tmps[2]?.getD undef = .pointer (some ⟨rb, 0, none⟩) := by rw [← Array.getD_eq_getD_getElem?]; exact ht
  simp [results, Try.results23, go_sem, h2, q0, q1]
/-- How the answer is told. -/
def ChkP (p : ByteArray) (w : World) (e : Ending) (w' : World) : Prop := e = .returned (.agg #[.int .i64 (specM (sb p)).1, .int .i64 ((specM (sb p)).2 : Int)]) ∧ Below w.heap.size w w'
theorem chk_fin {p : ByteArray} {w wr : World} {a : Act} {c : Int} {k : Nat} (hM : specM (sb p) = (c, k)) (hd : a.defers = []) (ht : a.tmps.getD 2 undef = .pointer (some ⟨w.heap.size, 0, none⟩)) (hx : BoxAt wr w.heap.size 46 2 w.heap.size [.int .i64 0, .int .i64 0]) (hb : Below w.heap.size w wr) :
    bodyPost Try.prog Try.f23 (ChkP p w) .ret a ((wr.setCell ⟨w.heap.size, 0, none⟩ (.int .i64 c)).setCell ⟨w.heap.size, 1, none⟩ (.int .i64 (k : Int))) :=
  bodyPost_ret (v := .agg #[.int .i64 c, .int .i64 (k : Int)]) (chk_ret ht ((hx.set 0 _).set 1 _)) hd ⟨by rw [hM], below_set (below_set hb (Nat.le_refl _) 0 _) (Nat.le_refl _) 1 _⟩

set_option maxHeartbeats 8000000 in
theorem specCheck_core (p : ByteArray) (w : World) (hpm : p.size ≤ maxLen) : Calls Try.prog 23 #[.string p] w (ChkP p w) := by
  obtain ⟨W0, hW0⟩ : ∃ W0 : World, W0 = w.alloc (Obj.cells #[.int .i64 0, .int .i64 0] 46) := ⟨_, rfl⟩
  have HW0 : Hid (BoxAt W0 w.heap.size 46 2 w.heap.size [.int .i64 0, .int .i64 0] ∧ Below w.heap.size w W0) := by
    rw [hW0]; exact ⟨boxAt_new w _ (Nat.le_refl _) rfl, (Below.refl _ _).alloc (Nat.le_refl _) _⟩
  unfold maxLen at hpm
  by_cases hp : 200 < p.size
  · have HM : Hid (specM (sb p) = (1, 0)) := by
      show specM (sb p) = _
      unfold specM; rw [if_pos (by rw [sb_len]; exact hp)]
    have z2 : (200 : Int) < (p.size : Int) := by omega
    have r0 := HW0.out.1.cell (j := 0) rfl
    have r1 := HW0.out.1.cell (j := 1) rfl
    have f0 := HW0.out.1.frozen 0
    have f1 := HW0.out.1.frozen 1
    go_enter Try.func23, Try.ntmps23
    go_upto_region 1 with fail
    rw [← hW0]
    clear hW0
    go_wp2_with fail
    exact chk_fin HM.out rfl rfl HW0.out.1 HW0.out.2
  have hp2 : p.size ≤ 200 := by omega
  have HM : Hid (specM (sb p) = chkM (sb p) 0 0 false) := by
    show specM (sb p) = _
    unfold specM; rw [if_neg (by rw [sb_len]; exact hp)]
  have z2 : ¬ (200 : Int) < (p.size : Int) := by omega
  go_enter Try.func23, Try.ntmps23
  go_upto_region 1 with fail
  rw [← hW0]
  clear hW0 hp
  go_wp2_with fail
  go_loopw [3, 4, 5] (fun ov av iv wr => ∃ (i o : Nat) (a : Bool), i ≤ p.size ∧ o ≤ i ∧ ov = .int .i64 (o : Int) ∧ av = .bool a ∧ iv = .int .i64 (i : Int) ∧ specM (sb p) = chkM (sb p) i o a ∧ Below W0.heap.size W0 wr) (fun _ _ iv _ => p.size - (intOf iv).toNat)
  case atStart => exact ⟨0, 0, false, Nat.zero_le _, Nat.zero_le _, rfl, rfl, rfl, HM.out, Below.refl _ _⟩
  case round =>
    obtain ⟨i, o, a, hi, hoi, rfl, rfl, rfl, hE, hb⟩ := hrel
    have HE : Hid (specM (sb p) = chkM (sb p) i o a) := hE
    have HX : Hid (BoxAt wr w.heap.size 46 2 w.heap.size [.int .i64 0, .int .i64 0] ∧ Below w.heap.size w wr) := ⟨HW0.out.1.below hb, HW0.out.2.trans (hb.mono HW0.out.2.size)⟩
    have HB : Hid (Below W0.heap.size W0 wr) := hb
    have r0 := HX.out.1.cell (j := 0) rfl
    have r1 := HX.out.1.cell (j := 1) rfl
    have f0 := HX.out.1.frozen 0
    have f1 := HX.out.1.frozen 1
    clear hE hb HM
    by_cases hlt : i < p.size
    · obtain ⟨c, hc⟩ : ∃ x, (sb p)[i]? = some x := ⟨_, List.getElem?_eq_getElem (by rw [sb_len]; exact hlt)⟩
      obtain ⟨_, gc⟩ := sb_get hc
      have HC : Hid ((sb p)[i]? = some c) := hc
      have zi : (i : Int) < (p.size : Int) := by omega
      clear hc
      by_cases h40 : c = 40
      · subst h40
        by_cases ho : o = 20
        · subst ho
          have HF : Hid (specM (sb p) = (3, i)) := by
            show specM (sb p) = _
            rw [HE.out, chk_open HC.out, if_pos rfl]
          go_wp2_with fail
          exact chk_fin HF.out rfl rfl HX.out.1 HX.out.2
        · have zo : ¬ (o : Int) = 20 := by omega
          have HF : Hid (specM (sb p) = chkM (sb p) (i + 1) (o + 1) false) := by
            show specM (sb p) = _
            rw [HE.out, chk_open HC.out, if_neg ho]
          go_wp2_with fail
          go_roundw
          case rel => exact ⟨i + 1, o + 1, false, by omega, by omega, by go_num, rfl, by go_num, HF.out, HB.out⟩
          case measure => simp [intOf]; omega
      have z40 : ((c.toNat : Int) == 40) = false := beq_eq_false_iff_ne.2 (ne_u8 (c := 40) h40)
      by_cases h41 : c = 41
      · subst h41
        by_cases ho : o = 0
        · subst ho
          have HF : Hid (specM (sb p) = (2, i)) := by
            show specM (sb p) = _
            rw [HE.out, chk_close HC.out, if_pos rfl]
          go_wp2_with fail
          exact chk_fin HF.out rfl rfl HX.out.1 HX.out.2
        · have zo : ¬ (o : Int) = 0 := by omega
          have HF : Hid (specM (sb p) = chkM (sb p) (i + 1) (o - 1) true) := by
            show specM (sb p) = _
            rw [HE.out, chk_close HC.out, if_neg ho]
          go_wp2_with fail
          go_roundw
          case rel => exact ⟨i + 1, o - 1, true, by omega, by omega, congrArg (Value.int .i64) (by omega), rfl, by go_num, HF.out, HB.out⟩
          case measure => simp [intOf]; omega
      have z41 : ((c.toNat : Int) == 41) = false := beq_eq_false_iff_ne.2 (ne_u8 (c := 41) h41)
      by_cases h124 : c = 124
      · subst h124
        have HF : Hid (specM (sb p) = chkM (sb p) (i + 1) o false) := by
          show specM (sb p) = _
          rw [HE.out, chk_bar HC.out]
        go_wp2_with fail
        go_roundw
        case rel => exact ⟨i + 1, o, false, by omega, by omega, rfl, rfl, by go_num, HF.out, HB.out⟩
        case measure => simp [intOf]; omega
      have z124 : ((c.toNat : Int) == 124) = false := beq_eq_false_iff_ne.2 (ne_u8 (c := 124) h124)
      have HL : Hid (∀ q : Bool, decide (isOp c) = q → Calls Try.prog 34 #[.int .u8 (c.toNat : Int)] wr fun e w' => e = .returned (.bool q) ∧ w' = wr) := fun q hq => by rw [← hq]; exact l4Op_core c wr
      by_cases hop : isOp c
      · go_wp2_with fail
        refine (HL.out true (decide_eq_true hop)).mono ?_
        rintro e w3 ⟨rfl, hw3⟩
        rw [hw3]
        clear hw3 HL
        cases a
        · have HF : Hid (specM (sb p) = (2, i)) := by
            show specM (sb p) = _
            rw [HE.out, chk_op HC.out hop]; rfl
          clear hop
          go_wp2_with fail
          exact chk_fin HF.out rfl rfl HX.out.1 HX.out.2
        · have HF : Hid (specM (sb p) = chkM (sb p) (i + 1) o true) := by
            show specM (sb p) = _
            rw [HE.out, chk_op HC.out hop, if_pos rfl]
          clear hop
          go_wp2_with fail
          go_roundw
          case rel => exact ⟨i + 1, o, true, by omega, by omega, rfl, rfl, by go_num, HF.out, HB.out⟩
          case measure => simp [intOf]; omega
      go_wp2_with fail
      refine (HL.out false (decide_eq_false hop)).mono ?_
      rintro e w3 ⟨rfl, hw3⟩
      rw [hw3]
      have HOp : Hid (¬ isOp c) := hop
      clear hw3 HL hop
      by_cases h91 : c = 91
      · subst h91
        go_wp2_with fail
        refine (l4Class_core p i wr hp2 hlt).mono ?_
        rintro e w4 ⟨hP, hb4⟩
        have hB4 : Below W0.heap.size W0 w4 := HB.out.trans (hb4.mono HB.out.size)
        have hs4 := hb4.size
        have hsw := HX.out.2.size
        rcases hP with ⟨f, k, hk, rfl⟩ | ⟨c4, k, hk, rfl⟩
        · have hkp := classM_gt hk
          rw [sb_len] at hkp
          obtain ⟨W5, hW5⟩ : ∃ W5 : World, W5 = w4.alloc (Obj.cells #[.int .i64 0, .int .i64 0] 46) := ⟨_, rfl⟩
          have HF : Hid (specM (sb p) = chkM (sb p) k o true ∧ Below W0.heap.size W0 W5) := by
            refine ⟨by rw [HE.out, chk_class HC.out, hk], ?_⟩
            rw [hW5]; exact hB4.trans ((Below.refl _ _).alloc (by have := HB.out.size; omega) _)
          clear hk hb4 hB4 r0 r1 f0 f1
          go_wp2_with fail
          rw [← hW5]
          go_roundw
          case rel => exact ⟨k, o, true, hkp.2, by omega, rfl, rfl, rfl, HF.out.1, HF.out.2⟩
          case measure => simp [intOf]; omega
        · have hc4 := classM_err hk
          obtain ⟨W5, hW5⟩ : ∃ W5 : World, W5 = w4.alloc (Obj.cells #[.int .i64 c4, .int .i64 (k : Int)] 46) := ⟨_, rfl⟩
          have HF : Hid (specM (sb p) = (c4, k) ∧ BoxAt W5 w.heap.size 46 2 w.heap.size [.int .i64 0, .int .i64 0] ∧ Below w.heap.size w W5 ∧ BoxAt W5 w.heap.size 46 2 w4.heap.size [.int .i64 c4, .int .i64 (k : Int)]) := by
            have hb5 : Below w4.heap.size w4 W5 := by rw [hW5]; exact (Below.refl _ _).alloc (Nat.le_refl _) _
            refine ⟨by rw [HE.out, chk_class HC.out, hk], (HX.out.1.below hb4).below hb5, (HX.out.2.trans (hb4.mono hsw)).trans (hb5.mono (by omega)), ?_⟩
            rw [hW5]; exact boxAt_new w4 _ (by omega) rfl
          have hc4' : (c4 != 0) = true := by simpa using hc4
          clear hk hb4 hB4 r0 r1 f0 f1
          go_upto_region 29 with fail
          rw [← hW5]
          clear hW5
          have b0 := HF.out.2.2.2.cell (j := 0) rfl
          have b1 := HF.out.2.2.2.cell (j := 1) rfl
          have r0 := HF.out.2.1.cell (j := 0) rfl
          have r1 := HF.out.2.1.cell (j := 1) rfl
          have f0 := HF.out.2.1.frozen 0
          have f1 := HF.out.2.1.frozen 1
          go_wp2_with fail
          exact chk_fin HF.out.1 rfl rfl HF.out.2.1 HF.out.2.2.1
      have z91 : ((c.toNat : Int) == 91) = false := beq_eq_false_iff_ne.2 (ne_u8 (c := 91) h91)
      by_cases h93 : c = 93
      · subst h93
        have HF : Hid (specM (sb p) = (2, i)) := by
          show specM (sb p) = _
          rw [HE.out, chk_rb HC.out]
        go_wp2_with fail
        exact chk_fin HF.out rfl rfl HX.out.1 HX.out.2
      have z93 : ((c.toNat : Int) == 93) = false := beq_eq_false_iff_ne.2 (ne_u8 (c := 93) h93)
      by_cases h92 : c = 92
      · subst h92
        by_cases hl1 : i + 1 = p.size
        · have HF : Hid (specM (sb p) = (2, p.size)) := by
            show specM (sb p) = _
            rw [HE.out, chk_esc HC.out, if_pos (by rw [sb_len]; exact hl1), sb_len]
          have zl : (i : Int) + 1 = (p.size : Int) := by omega
          go_wp2_with fail
          exact chk_fin HF.out rfl rfl HX.out.1 HX.out.2
        · have HF : Hid (specM (sb p) = chkM (sb p) (i + 2) o true) := by
            show specM (sb p) = _
            rw [HE.out, chk_esc HC.out, if_neg (by rw [sb_len]; exact hl1)]
          have zl : ¬ (i : Int) + 1 = (p.size : Int) := by omega
          go_wp2_with fail
          go_roundw
          case rel => exact ⟨i + 2, o, true, by omega, by omega, rfl, rfl, by go_num, HF.out, HB.out⟩
          case measure => simp [intOf]; omega
      have z92 : ((c.toNat : Int) == 92) = false := beq_eq_false_iff_ne.2 (ne_u8 (c := 92) h92)
      have HF : Hid (specM (sb p) = chkM (sb p) (i + 1) o true) := by
        show specM (sb p) = _
        rw [HE.out, chk_plain HC.out (fun q => q.elim HOp.out (fun q => q.elim h124 (fun q => q.elim h41 h93))) h40 h91 h92]
      go_wp2_with fail
      go_roundw
      case rel => exact ⟨i + 1, o, true, by omega, by omega, rfl, rfl, by go_num, HF.out, HB.out⟩
      case measure => simp [intOf]; omega
    · have zi : ¬ (i : Int) < (p.size : Int) := by omega
      by_cases ho : 0 < o
      · have HF : Hid (specM (sb p) = (2, p.size)) := by
          show specM (sb p) = _
          rw [HE.out, chk_end (by rw [sb_len]; exact hlt), if_pos ho, sb_len]
        have zo : (0 : Int) < (o : Int) := by omega
        go_wp2_with fail
        exact chk_fin HF.out rfl rfl HX.out.1 HX.out.2
      · have HF : Hid (specM (sb p) = (0, 0)) := by
          show specM (sb p) = _
          rw [HE.out, chk_end (by rw [sb_len]; exact hlt), if_neg ho]
        have zo : ¬ (0 : Int) < (o : Int) := by omega
        go_wp2_with fail
        exact chk_fin HF.out rfl rfl HX.out.1 HX.out.2
end Go.Proofs.Ytnncedndlhfdkaa

/-
  The grammar of patterns over lists of bytes, and what the check says behind a piece.
-/
namespace Go.Proofs.Ytnncedndlhfdkaa
set_option linter.unusedVariables false
set_option linter.unusedSimpArgs false

/-- The bytes from i up to k. -/
def cut (p : List UInt8) (i k : Nat) : List UInt8 := (p.drop i).take (k - i)
theorem cut_nil (p : List UInt8) (i : Nat) : cut p i i = [] := by simp [cut]
theorem cut_len {p : List UInt8} {i k : Nat} (h : k ≤ p.length) : (cut p i k).length = k - i := by
  simp [cut]; omega
theorem cut_cat {p : List UInt8} {i j k : Nat} (h1 : i ≤ j) (h2 : j ≤ k) : cut p i k = cut p i j ++ cut p j k := by
  unfold cut
  have : k - i = (j - i) + (k - j) := by omega
  rw [this, List.take_add, List.drop_drop]
  congr 3
  omega
theorem cut_one {p : List UInt8} {i : Nat} {c : UInt8} (h : p[i]? = some c) : cut p i (i + 1) = [c] := by
  have hi := lt_of_at h
  unfold cut
  rw [List.drop_eq_getElem_cons hi, Nat.add_sub_cancel_left, get_of_at h]
  simp

abbrev special (c : UInt8) : Prop := isEnd c ∨ c = 40 ∨ c = 91 ∨ c = 46 ∨ c = 92
def RepG (A : List UInt8 → Pat → Prop) (xs : List UInt8) (t : Pat) : Prop :=
  ∃ (ys ops : List UInt8) (a : Pat), xs = ys ++ ops ∧ A ys a ∧ (∀ c ∈ ops, isOp c) ∧ t = (if ops = [] then a else .rep a (ops.any (· != 43)) (ops.any (· != 63)))
def SeqG (A : List UInt8 → Pat → Prop) : List Pat → List UInt8 → Prop
  | [], xs => xs = []
  | t :: ts, xs => ∃ ys zs, xs = ys ++ zs ∧ RepG A ys t ∧ SeqG A ts zs
def AltG (A : List UInt8 → Pat → Prop) : List (List Pat) → List UInt8 → Prop
  | [], xs => False
  | [ts], xs => SeqG A ts xs
  | ts :: os, xs => ∃ ys zs, xs = ys ++ 124 :: zs ∧ SeqG A ts ys ∧ AltG A os zs
def AtomG : Nat → List UInt8 → Pat → Prop
  | 0, _, _ => False
  | n + 1, xs, t => (∃ c, xs = [c] ∧ ¬ special c ∧ t = .byte c) ∨ (xs = [46] ∧ t = .cls (fun _ => true)) ∨ (∃ c, xs = [92, c] ∧ t = .byte c) ∨
      (∃ ys os, xs = 40 :: ys ++ [41] ∧ AltG (AtomG n) os ys ∧ t = .alt os) ∨ (∃ p i k f, p[i]? = some 91 ∧ classM p (i + 1) = .inl (f, k) ∧ xs = cut p i k ∧ t = .cls f)
theorem RepG.mono {A B : List UInt8 → Pat → Prop} (h : ∀ xs t, A xs t → B xs t) {xs : List UInt8} {t : Pat} : RepG A xs t → RepG B xs t := fun ⟨ys, ops, a, h1, h2, h3, h4⟩ => ⟨ys, ops, a, h1, h _ _ h2, h3, h4⟩
theorem SeqG.mono {A B : List UInt8 → Pat → Prop} (h : ∀ xs t, A xs t → B xs t) : ∀ {ts : List Pat} {xs : List UInt8}, SeqG A ts xs → SeqG B ts xs
  | [], _, q => q
  | _ :: _, _, ⟨ys, zs, h1, h2, h3⟩ => ⟨ys, zs, h1, h2.mono h, SeqG.mono h h3⟩
theorem AltG.mono {A B : List UInt8 → Pat → Prop} (h : ∀ xs t, A xs t → B xs t) : ∀ {os : List (List Pat)} {xs : List UInt8}, AltG A os xs → AltG B os xs
  | [], _, q => q
  | [_], _, q => SeqG.mono h q
  | _ :: _ :: _, _, ⟨ys, zs, h1, h2, h3⟩ => ⟨ys, zs, h1, h2.mono h, AltG.mono h h3⟩
theorem AtomG.mono : ∀ {n m : Nat} {xs : List UInt8} {t : Pat}, n ≤ m → AtomG n xs t → AtomG m xs t
  | 0, _, _, _, _, h => h.elim
  | n + 1, 0, _, _, hm, _ => by omega
  | n + 1, m + 1, xs, t, hm, h => by
    rcases h with h | h | h | ⟨ys, os, h1, h2, h3⟩ | h
    · exact .inl h
    · exact .inr (.inl h)
    · exact .inr (.inr (.inl h))
    · exact .inr (.inr (.inr (.inl ⟨ys, os, h1, h2.mono (fun _ _ q => AtomG.mono (by omega) q), h3⟩)))
    · exact .inr (.inr (.inr (.inr h)))
theorem SeqG.snoc {A : List UInt8 → Pat → Prop} : ∀ {ts : List Pat} {xs ys : List UInt8} {t : Pat}, SeqG A ts xs → RepG A ys t → SeqG A (ts ++ [t]) (xs ++ ys)
  | [], xs, ys, t, h, k => by subst h; exact ⟨ys, [], by simp, k, rfl⟩
  | s :: ts, xs, ys, t, ⟨us, vs, h1, h2, h3⟩, k => ⟨us, vs ++ ys, by rw [h1]; simp, h2, SeqG.snoc h3 k⟩
theorem AltG.snoc {A : List UInt8 → Pat → Prop} : ∀ {os : List (List Pat)} {xs ys : List UInt8} {ts : List Pat}, AltG A os xs → SeqG A ts ys → AltG A (os ++ [ts]) (xs ++ 124 :: ys)
  | [], _, _, _, h, _ => h.elim
  | [s], xs, ys, ts, h, k => ⟨xs, ys, rfl, h, k⟩
  | s :: o :: os, xs, ys, ts, ⟨us, vs, h1, h2, h3⟩, k => ⟨us, vs ++ 124 :: ys, by rw [h1]; simp, h2, AltG.snoc h3 k⟩

/-- What a piece that has been read says: the check goes on behind it. -/
structure AtomOk (p : List UInt8) (o i k : Nat) (t : Pat) : Prop where
  lt : i < k
  le : k ≤ p.length
  chk : ∀ a, chkM p i o a = chkM p k o true
  gr : ∃ n, AtomG n (cut p i k) t
structure RepOk (p : List UInt8) (o i k : Nat) (t : Pat) : Prop where
  lt : i < k
  le : k ≤ p.length
  chk : ∀ a, chkM p i o a = chkM p k o true
  next : ∀ c, p[k]? = some c → ¬ isOp c
  gr : ∃ n, RepG (AtomG n) (cut p i k) t
structure SeqOk (p : List UInt8) (o i k : Nat) (ts : List Pat) : Prop where
  lei : i ≤ k
  le : k ≤ p.length
  chk : chkM p i o false = chkM p k o false
  gr : ∃ n, SeqG (AtomG n) ts (cut p i k)
structure AltOk (p : List UInt8) (o i k : Nat) (os : List (List Pat)) : Prop where
  lei : i ≤ k
  le : k ≤ p.length
  chk : chkM p i o false = chkM p k o false
  gr : ∃ n, AltG (AtomG n) os (cut p i k)
theorem SeqOk.nil {p : List UInt8} {o i : Nat} (h : i ≤ p.length) : SeqOk p o i i [] := ⟨Nat.le_refl _, h, rfl, 0, cut_nil p i⟩
theorem SeqOk.more {p : List UInt8} {o i j k : Nat} {ts : List Pat} {t : Pat} (h : SeqOk p o i j ts) (r : RepOk p o j k t) : SeqOk p o i k (ts ++ [t]) := by
  obtain ⟨n, hn⟩ := h.gr
  obtain ⟨m, hm⟩ := r.gr
  refine ⟨Nat.le_trans h.lei (Nat.le_of_lt r.lt), r.le, ?_, max n m, ?_⟩
  · rw [h.chk, r.chk, chk_flag r.next]
  · rw [cut_cat h.lei (Nat.le_of_lt r.lt)]
    exact (hn.mono (fun _ _ q => AtomG.mono (Nat.le_max_left _ _) q)).snoc (hm.mono (fun _ _ q => AtomG.mono (Nat.le_max_right _ _) q))
theorem AltOk.one {p : List UInt8} {o i k : Nat} {ts : List Pat} (h : SeqOk p o i k ts) : AltOk p o i k [ts] := ⟨h.lei, h.le, h.chk, h.gr⟩
theorem AltOk.more {p : List UInt8} {o i j k : Nat} {os : List (List Pat)} {ts : List Pat} (h : AltOk p o i j os) (hb : p[j]? = some 124) (s : SeqOk p o (j + 1) k ts) : AltOk p o i k (os ++ [ts]) := by
  obtain ⟨n, hn⟩ := h.gr
  obtain ⟨m, hm⟩ := s.gr
  have hl := s.lei
  refine ⟨Nat.le_trans h.lei (by omega), s.le, ?_, max n m, ?_⟩
  · rw [h.chk, chk_bar hb, s.chk]
  · rw [cut_cat h.lei (show j ≤ k by omega), cut_cat (show j ≤ j + 1 by omega) hl, cut_one hb]
    exact (hn.mono (fun _ _ q => AtomG.mono (Nat.le_max_left _ _) q)).snoc (hm.mono (fun _ _ q => AtomG.mono (Nat.le_max_right _ _) q))
theorem AtomOk.group {p : List UInt8} {o i j : Nat} {os : List (List Pat)} (h : p[i]? = some 40) (ho : ¬ o = 20) (a : AltOk p (o + 1) (i + 1) j os) (hj : p[j]? = some 41) : AtomOk p o i (j + 1) (.alt os) := by
  obtain ⟨n, hn⟩ := a.gr
  have hl := a.lei
  refine ⟨by omega, lt_of_at hj, fun b => ?_, n + 1, .inr (.inr (.inr (.inl ⟨_, os, ?_, hn, rfl⟩)))⟩
  · rw [chk_open h, if_neg ho, a.chk, chk_close hj, if_neg (by omega), Nat.add_sub_cancel]
  · rw [cut_cat (show i ≤ i + 1 by omega) (show i + 1 ≤ j + 1 by omega), cut_one h, cut_cat hl (show j ≤ j + 1 by omega), cut_one hj]
    simp
theorem AtomOk.plain {p : List UInt8} {o i : Nat} {c : UInt8} (h : p[i]? = some c) (hc : ¬ special c) : AtomOk p o i (i + 1) (.byte c) := by
  refine ⟨by omega, lt_of_at h, fun a => chk_plain h (fun q => hc (.inl q)) (fun q => hc (.inr (.inl q))) (fun q => hc (.inr (.inr (.inl q)))) (fun q => hc (.inr (.inr (.inr (.inr q))))), 1, .inl ⟨c, cut_one h, hc, rfl⟩⟩
theorem AtomOk.dot {p : List UInt8} {o i : Nat} (h : p[i]? = some 46) : AtomOk p o i (i + 1) (.cls (fun _ => true)) := by
  refine ⟨by omega, lt_of_at h, fun a => chk_plain h (by decide) (by decide) (by decide) (by decide), 1, .inr (.inl ⟨cut_one h, rfl⟩)⟩
theorem AtomOk.esc {p : List UInt8} {o i : Nat} {c : UInt8} (h : p[i]? = some 92) (hc : p[i + 1]? = some c) : AtomOk p o i (i + 1 + 1) (.byte c) := by
  have hl := lt_of_at hc
  refine ⟨by omega, hl, fun a => by rw [chk_esc h, if_neg (by omega)], 1, .inr (.inr (.inl ⟨c, ?_, rfl⟩))⟩
  rw [cut_cat (show i ≤ i + 1 by omega) (show i + 1 ≤ i + 1 + 1 by omega), cut_one h, cut_one hc]
  rfl
theorem AtomOk.class {p : List UInt8} {o i k : Nat} {f : UInt8 → Bool} (h : p[i]? = some 91) (hc : classM p (i + 1) = .inl (f, k)) : AtomOk p o i k (.cls f) := by
  have hl := classM_gt hc
  exact ⟨by omega, hl.2, fun a => by rw [chk_class h, hc], 1, .inr (.inr (.inr (.inr ⟨p, i, k, f, h, hc, rfl, rfl⟩)))⟩
/-- An atom with the signs behind it. -/
structure OpsOk (p : List UInt8) (o i j k : Nat) (a : Pat) (op rp : Bool) : Prop where
  atom : AtomOk p o i j a
  lt : j ≤ k
  le : k ≤ p.length
  chk : chkM p j o true = chkM p k o true
  ops : ∀ c ∈ cut p j k, isOp c
  opt : op = (cut p j k).any (· != 43)
  rpt : rp = (cut p j k).any (· != 63)
theorem OpsOk.zero {p : List UInt8} {o i j : Nat} {a : Pat} (h : AtomOk p o i j a) : OpsOk p o i j j a false false :=
  ⟨h, Nat.le_refl _, h.le, rfl, by rw [cut_nil]; simp, by rw [cut_nil]; rfl, by rw [cut_nil]; rfl⟩
theorem OpsOk.more {p : List UInt8} {o i j k : Nat} {a : Pat} {op rp : Bool} {c : UInt8} (h : OpsOk p o i j k a op rp) (hc : p[k]? = some c) (hop : isOp c) : OpsOk p o i j (k + 1) a (op || c != 43) (rp || c != 63) := by
  have hcut : cut p j (k + 1) = cut p j k ++ [c] := by rw [cut_cat h.lt (show k ≤ k + 1 by omega), cut_one hc]
  refine ⟨h.atom, by have := h.lt; omega, lt_of_at hc, ?_, ?_, ?_, ?_⟩
  · rw [h.chk, chk_op hc hop, if_pos rfl]
  · rw [hcut]
    intro d hd
    rcases List.mem_append.1 hd with hd | hd
    · exact h.ops d hd
    · simp at hd; subst hd; exact hop
  · rw [hcut, List.any_append, ← h.opt]; simp
  · rw [hcut, List.any_append, ← h.rpt]; simp
theorem OpsOk.rep {p : List UInt8} {o i j k : Nat} {a : Pat} {op rp : Bool} (h : OpsOk p o i j k a op rp) (hn : ∀ c, p[k]? = some c → ¬ isOp c) : RepOk p o i k (if j = k then a else .rep a op rp) := by
  obtain ⟨n, hg⟩ := h.atom.gr
  have h1 := h.atom.lt
  have h2 := h.lt
  refine ⟨by omega, h.le, fun b => by rw [h.atom.chk, h.chk], hn, n, cut p i j, cut p j k, a, cut_cat (by omega) h2, hg, h.ops, ?_⟩
  by_cases hjk : j = k
  · subst hjk; rw [if_pos rfl, if_pos (cut_nil p j)]
  · have : ¬ cut p j k = [] := fun q => by have := cut_len (p := p) (i := j) h.le; rw [q] at this; simp at this; omega
    rw [if_neg hjk, if_neg this, ← h.opt, ← h.rpt]
end Go.Proofs.Ytnncedndlhfdkaa

/-
  Patterns in memory.
-/
namespace Go.Proofs.Ytnncedndlhfdkaa
open Go.ChangeShapes Go.WideShapes Go.ChangeAt Go.RowKit Go.Deep
set_option linter.unusedVariables false
set_option linter.unusedSimpArgs false
set_option maxRecDepth 100000

abbrev byteV (b : UInt8) : Value := .iface 90 (.agg #[.int .u8 (b.toNat : Int)])
/-- The blocks from a up to b. -/
def Bet (a b : Nat) : Nat → Prop := fun k => a ≤ k ∧ k < b
/-- Values one behind another, in a block out of 'R'. -/
structure ValsAt (w : World) (R : Nat → Prop) (g : Nat) (vs : List Value) : Prop where
  blk : R g
  lt : g < w.heap.size
  val : ∀ (i : Nat) v, vs[i]? = some v → w.cell? ⟨g, i, none⟩ = some v
theorem ValsAt.chg {S : Nat → Prop} {w w' : World} {R : Nat → Prop} {g : Nat} {vs : List Value} (h : ValsAt w R g vs) (hc : Chg S w w') (hS : ∀ k, S k → ¬ R k) : ValsAt w' R g vs :=
  ⟨h.blk, Nat.lt_of_lt_of_le h.lt hc.size, fun i v hv => by rw [hc.cell (p := ⟨g, i, none⟩) h.lt (fun q => hS g q h.blk)]; exact h.val i v hv⟩
/-- A seq in memory, its nodes being such as 'N' says. -/
def SeqIs (N : Pat → Value → Prop) (w : World) (lo : Nat → Prop) (ts : List Pat) (u : Value) : Prop :=
  (ts = [] ∧ u = .slice none 0 0) ∨ ∃ (g cp : Nat) (us : List Value), u = .slice (some ⟨g, 0, none⟩) ts.length cp ∧ us.length = ts.length ∧ ValsAt w lo g us ∧ ∀ (i : Nat) x t, us[i]? = some x → ts[i]? = some t → N t x
def AltIs (N : Pat → Value → Prop) (w : World) (lo : Nat → Prop) (os : List (List Pat)) (u : Value) : Prop :=
  ∃ (g cp : Nat) (us : List Value), u = .slice (some ⟨g, 0, none⟩) os.length cp ∧ us.length = os.length ∧ ValsAt w lo g us ∧ ∀ (i : Nat) x ts, us[i]? = some x → os[i]? = some ts → SeqIs N w lo ts x
/-- A node in memory. -/
def NodeIs : Nat → World → (Nat → Prop) → Pat → Value → Prop
  | 0, _, _, _, _ => False
  | n + 1, w, lo, .byte b, v => v = byteV b
  | n + 1, w, lo, .cls f, v => v = clsV f
  | n + 1, w, lo, .rep t o r, v => ∃ u, v = .iface 99 (.agg #[u, .bool o, .bool r]) ∧ NodeIs n w lo t u
  | n + 1, w, lo, .alt os, v => ∃ u, v = .iface 65 (.agg #[u]) ∧ AltIs (NodeIs n w lo) w lo os u
theorem SeqIs.mono {N M : Pat → Value → Prop} {w w' : World} {lo lo' : Nat → Prop} (hN : ∀ t v, N t v → M t v) (hV : ∀ g vs, ValsAt w lo g vs → ValsAt w' lo' g vs) {ts : List Pat} {u : Value} : SeqIs N w lo ts u → SeqIs M w' lo' ts u
  | .inl h => .inl h
  | .inr ⟨g, cp, us, h1, h2, h3, h4⟩ => .inr ⟨g, cp, us, h1, h2, hV _ _ h3, fun i x t hx ht => hN _ _ (h4 i x t hx ht)⟩
theorem AltIs.mono {N M : Pat → Value → Prop} {w w' : World} {lo lo' : Nat → Prop} (hN : ∀ t v, N t v → M t v) (hV : ∀ g vs, ValsAt w lo g vs → ValsAt w' lo' g vs) {os : List (List Pat)} {u : Value} : AltIs N w lo os u → AltIs M w' lo' os u
  | ⟨g, cp, us, h1, h2, h3, h4⟩ => ⟨g, cp, us, h1, h2, hV _ _ h3, fun i x t hx ht => (h4 i x t hx ht).mono hN hV⟩
theorem NodeIs.mono : ∀ {n m : Nat} {w w' : World} {lo lo' : Nat → Prop} (hV : ∀ g vs, ValsAt w lo g vs → ValsAt w' lo' g vs) {t : Pat} {v : Value}, n ≤ m → NodeIs n w lo t v → NodeIs m w' lo' t v
  | 0, _, _, _, _, _, _, _, _, _, h => h.elim
  | n + 1, 0, _, _, _, _, _, _, _, hm, _ => by omega
  | n + 1, m + 1, w, w', lo, lo', hV, .byte b, v, _, h => h
  | n + 1, m + 1, w, w', lo, lo', hV, .cls f, v, _, h => h
  | n + 1, m + 1, w, w', lo, lo', hV, .rep t o r, v, hm, ⟨u, h1, h2⟩ => ⟨u, h1, NodeIs.mono hV (by omega) h2⟩
  | n + 1, m + 1, w, w', lo, lo', hV, .alt os, v, hm, ⟨u, h1, h2⟩ => ⟨u, h1, h2.mono (fun t v q => NodeIs.mono hV (by omega) q) hV⟩
/-- A node, whatever its depth. -/
def NodeOk (w : World) (lo : Nat → Prop) (t : Pat) (v : Value) : Prop := ∃ n, NodeIs n w lo t v
def SeqAt (w : World) (lo : Nat → Prop) (ts : List Pat) (u : Value) : Prop := ∃ n, SeqIs (NodeIs n w lo) w lo ts u
def AltAt (w : World) (lo : Nat → Prop) (os : List (List Pat)) (u : Value) : Prop := ∃ n, AltIs (NodeIs n w lo) w lo os u
theorem vals_move {S : Nat → Prop} {w w' : World} {lo lo' : Nat → Prop} (hc : Chg S w w') (hS : ∀ k, S k → ¬ lo k) (hl : ∀ k, k < w.heap.size → lo k → lo' k) : ∀ g vs, ValsAt w lo g vs → ValsAt w' lo' g vs := fun g vs h => by
  have h1 := h.chg hc hS
  exact ⟨hl g h.lt h1.blk, h1.lt, h1.val⟩
theorem NodeOk.move {S : Nat → Prop} {w w' : World} {lo lo' : Nat → Prop} {t : Pat} {v : Value} (h : NodeOk w lo t v) (hc : Chg S w w') (hS : ∀ k, S k → ¬ lo k) (hl : ∀ k, k < w.heap.size → lo k → lo' k) : NodeOk w' lo' t v := by
  obtain ⟨n, hn⟩ := h
  exact ⟨n, hn.mono (vals_move hc hS hl) (Nat.le_refl _)⟩
theorem SeqAt.move {S : Nat → Prop} {w w' : World} {lo lo' : Nat → Prop} {ts : List Pat} {u : Value} (h : SeqAt w lo ts u) (hc : Chg S w w') (hS : ∀ k, S k → ¬ lo k) (hl : ∀ k, k < w.heap.size → lo k → lo' k) : SeqAt w' lo' ts u := by
  obtain ⟨n, hn⟩ := h
  exact ⟨n, hn.mono (fun t v q => q.mono (vals_move hc hS hl) (Nat.le_refl _)) (vals_move hc hS hl)⟩
theorem AltAt.move {S : Nat → Prop} {w w' : World} {lo lo' : Nat → Prop} {os : List (List Pat)} {u : Value} (h : AltAt w lo os u) (hc : Chg S w w') (hS : ∀ k, S k → ¬ lo k) (hl : ∀ k, k < w.heap.size → lo k → lo' k) : AltAt w' lo' os u := by
  obtain ⟨n, hn⟩ := h
  exact ⟨n, hn.mono (fun t v q => q.mono (vals_move hc hS hl) (Nat.le_refl _)) (vals_move hc hS hl)⟩
theorem nodeOk_byte (w : World) (lo : Nat → Prop) (b : UInt8) : NodeOk w lo (.byte b) (byteV b) := ⟨1, rfl⟩
theorem nodeOk_cls (w : World) (lo : Nat → Prop) (f : UInt8 → Bool) : NodeOk w lo (.cls f) (clsV f) := ⟨1, rfl⟩
theorem nodeOk_rep {w : World} {lo : Nat → Prop} {t : Pat} {v : Value} (h : NodeOk w lo t v) (o r : Bool) : NodeOk w lo (.rep t o r) (.iface 99 (.agg #[v, .bool o, .bool r])) := by
  obtain ⟨n, hn⟩ := h
  exact ⟨n + 1, v, rfl, hn⟩
theorem nodeOk_alt {w : World} {lo : Nat → Prop} {os : List (List Pat)} {u : Value} (h : AltAt w lo os u) : NodeOk w lo (.alt os) (.iface 65 (.agg #[u])) := by
  obtain ⟨n, hn⟩ := h
  exact ⟨n + 1, u, rfl, hn⟩
/-- Nodes of one list, each of its own depth: one depth for all. -/
theorem nodes_one {w : World} {lo : Nat → Prop} : ∀ {ts : List Pat} {us : List Value}, us.length = ts.length → (∀ (i : Nat) x t, us[i]? = some x → ts[i]? = some t → NodeOk w lo t x) → ∃ n, ∀ (i : Nat) x t, us[i]? = some x → ts[i]? = some t → NodeIs n w lo t x
  | [], [], _, _ => ⟨0, fun i x t hx => by simp at hx⟩
  | t :: ts, u :: us, hl, h => by
    obtain ⟨n, hn⟩ := nodes_one (ts := ts) (us := us) (by simpa using hl) (fun i x t hx ht => h (i + 1) x t (by simpa using hx) (by simpa using ht))
    obtain ⟨m, hm⟩ := h 0 u t rfl rfl
    refine ⟨max n m, fun i x t' hx ht => ?_⟩
    cases i with
    | zero => simp at hx ht; subst hx ht; exact hm.mono (fun _ _ q => q) (Nat.le_max_right _ _)
    | succ i => exact (hn i x t' (by simpa using hx) (by simpa using ht)).mono (fun _ _ q => q) (Nat.le_max_left _ _)
theorem seqs_one {w : World} {lo : Nat → Prop} : ∀ {os : List (List Pat)} {us : List Value}, us.length = os.length → (∀ (i : Nat) x ts, us[i]? = some x → os[i]? = some ts → SeqAt w lo ts x) → ∃ n, ∀ (i : Nat) x ts, us[i]? = some x → os[i]? = some ts → SeqIs (NodeIs n w lo) w lo ts x
  | [], [], _, _ => ⟨0, fun i x t hx => by simp at hx⟩
  | t :: ts, u :: us, hl, h => by
    obtain ⟨n, hn⟩ := seqs_one (os := ts) (us := us) (by simpa using hl) (fun i x t hx ht => h (i + 1) x t (by simpa using hx) (by simpa using ht))
    obtain ⟨m, hm⟩ := h 0 u t rfl rfl
    refine ⟨max n m, fun i x t' hx ht => ?_⟩
    cases i with
    | zero => simp at hx ht; subst hx ht; exact hm.mono (fun _ _ q => q.mono (fun _ _ q => q) (Nat.le_max_right _ _)) (fun _ _ q => q)
    | succ i => exact (hn i x t' (by simpa using hx) (by simpa using ht)).mono (fun _ _ q => q.mono (fun _ _ q => q) (Nat.le_max_left _ _)) (fun _ _ q => q)
/-- What a node is as a value. -/
theorem NodeOk.iface {w : World} {lo : Nat → Prop} {t : Pat} {v : Value} (h : NodeOk w lo t v) : ∃ T c, v = .iface T (.agg c) := by
  obtain ⟨n, hn⟩ := h
  cases n with
  | zero => exact hn.elim
  | succ n =>
    cases t with
    | byte b => exact ⟨_, _, hn⟩
    | cls f => exact ⟨_, _, hn⟩
    | rep t o r => obtain ⟨u, h1, _⟩ := hn; exact ⟨_, _, h1⟩
    | alt os => obtain ⟨u, h1, _⟩ := hn; exact ⟨_, _, h1⟩
/-- A list of nodes being made: a row of the call's own. -/
def OwnN (w : World) (base : Nat) (v : Value) (us : List Value) : Prop := w.ownsRow base 88 1 v us.length us
def OwnQ (w : World) (base g cp : Nat) (us : List Value) : Prop := w.ownsRow base 73 1 (.slice (some ⟨g, 0, none⟩) us.length cp) us.length us
theorem OwnQ.lt {w : World} {base g cp : Nat} {us : List Value} (h : OwnQ w base g cp us) : base ≤ g ∧ g < w.heap.size := World.ownsRow.lt h g rfl
theorem OwnQ.vals {w : World} {base g cp : Nat} {us : List Value} {R : Nat → Prop} (h : OwnQ w base g cp us) (hR : R g) : ValsAt w R g us := by
  refine ⟨hR, h.lt.2, fun i v hv => ?_⟩
  have hi := (List.getElem?_eq_some_iff.1 hv).1
  rw [World.ownsRow.cellAt h i (by omega), hv]
theorem OwnN.seq {w : World} {base : Nat} {R : Nat → Prop} {v : Value} {us : List Value} {ts : List Pat} (h : OwnN w base v us) (hl : us.length = ts.length) (hN : ∀ (i : Nat) x t, us[i]? = some x → ts[i]? = some t → NodeOk w R t x) (hb : ∀ k, v.ownBlock = some k → R k) : SeqAt w R ts v := by
  obtain ⟨n, hn⟩ := nodes_one hl hN
  refine ⟨n, ?_⟩
  have h' := h
  rcases h.2 with ⟨rfl, h0⟩ | ⟨g, cap, cur, rfl, h1, h2, h3⟩
  · left
    refine ⟨List.length_eq_zero_iff.1 (by omega), rfl⟩
  · right
    have hlt := World.ownsRow.lt h' g rfl
    refine ⟨g, cap, us, by rw [hl], hl, ⟨hb g rfl, hlt.2, fun i v hv => ?_⟩, hn⟩
    have hi := (List.getElem?_eq_some_iff.1 hv).1
    rw [World.ownsRow.cellAt h' i (by omega), hv]
theorem Try.infoNode : (Try.prog.info? 88).map (fun i => (i.zero, i.size, i.bytes)) = some (some .nilIface, 1, 16) := by kernel_rfl
theorem Try.infoSeq : (Try.prog.info? 73).map (fun i => (i.zero, i.size, i.bytes)) = some (some (.agg #[.slice none 0 0]), 1, 24) := by kernel_rfl
end Go.Proofs.Ytnncedndlhfdkaa

/-
  (*impl.patternReader): group, atom, over a contract of alt.
-/
namespace Go.Proofs.Ytnncedndlhfdkaa
open Go.ChangeShapes Go.WideShapes Go.ChangeAt Go.RowKit Go.Deep
set_option linter.unusedVariables false
set_option linter.unusedSimpArgs false
set_option maxRecDepth 100000

/-- What a node's reader hands back, 'i' being where the piece begins. -/
def NodePost (p : ByteArray) (base g i o : Nat) (w : World) (R : Nat → Pat → Prop) (e : Ending) (w' : World) : Prop :=
  Chg (fun k => k = g) w w' ∧ ((∃ (k : Nat) (t : Pat) (v : Value), R k t ∧ e = .returned v ∧ NodeOk w' (Bet w.heap.size w'.heap.size) t v ∧ PrAt w' base g p k o) ∨ (∃ (c : Int) (k : Nat), ¬ c = 0 ∧ (∀ a, chkM (sb p) i o a = (c, k)) ∧ e = Pf c k))
def AltPost (p : ByteArray) (base g i o : Nat) (w : World) (e : Ending) (w' : World) : Prop :=
  Chg (fun k => k = g) w w' ∧ ((∃ (k : Nat) (os : List (List Pat)) (u : Value), AltOk (sb p) o i k os ∧ (∀ c, (sb p)[k]? = some c → isEnd c ∧ ¬ c = 124) ∧ e = .returned (.agg #[u]) ∧ AltAt w' (Bet w.heap.size w'.heap.size) os u ∧ PrAt w' base g p k o) ∨ (∃ (c : Int) (k : Nat), ¬ c = 0 ∧ chkM (sb p) i o false = (c, k) ∧ e = Pf c k))
/-- The contract of alt, for patterns of which at most m bytes are to come. -/
def AltC (p : ByteArray) (m : Nat) : Prop := ∀ (base g i o : Nat) (w : World), p.size - i ≤ m → i ≤ p.size → o ≤ 20 → PrAt w base g p i o → Calls Try.prog 46 #[.pointer (some ⟨g, 0, none⟩)] w (AltPost p base g i o w)
def AtomC (p : ByteArray) (m : Nat) : Prop := ∀ (base g i o : Nat) (w : World), p.size - i ≤ m → i < p.size → o ≤ 20 → (∀ c, (sb p)[i]? = some c → ¬ isEnd c) → PrAt w base g p i o → Calls Try.prog 57 #[.pointer (some ⟨g, 0, none⟩)] w (NodePost p base g i o w (AtomOk (sb p) o i))

theorem PrAt.open {w : World} {base g i o : Nat} {p : ByteArray} (h : PrAt w base g p i o) (o' : Nat) : PrAt (w.setCell ⟨g, 2, none⟩ (.int .i64 (o' : Int))) base g p i o' := BoxAt.set h 2 (.int .i64 (o' : Int))
theorem AltAt.slice {w : World} {lo : Nat → Prop} {os : List (List Pat)} {u : Value} (h : AltAt w lo os u) : ∃ g n cp, u = .slice (some ⟨g, 0, none⟩) n cp := by
  obtain ⟨n, g, cp, us, h1, _⟩ := h
  exact ⟨g, _, cp, h1⟩

set_option maxHeartbeats 4000000 in
theorem group_of {p : ByteArray} {m : Nat} (H : AltC p m) (hp : p.size ≤ 200) (base g q o : Nat) (w : World) (hm : p.size - (q + 1) ≤ m) (hq : (sb p)[q]? = some 40) (ho : o ≤ 20) (h : PrAt w base g p (q + 1) o) :
    Calls Try.prog 61 #[.pointer (some ⟨g, 0, none⟩)] w (NodePost p base g q o w (AtomOk (sb p) o q)) := by
  have HP : Hid (PrAt w base g p (q + 1) o ∧ (sb p)[q]? = some 40) := ⟨h, hq⟩
  have hgl := h.lt.2
  have hqp : q + 1 ≤ p.size := by have := lt_of_at hq; rw [sb_len] at this; omega
  have c1 := h.cell (j := 1) rfl
  have c2 := h.cell (j := 2) rfl
  have f2 := h.frozen 2
  clear h hq
  by_cases ho20 : o = 20
  · subst ho20
    go_enter Try.func61, Try.ntmps61
    go_wp2_with fail
    exact ⟨rfl, Chg.refl _ _, .inr ⟨3, q, by decide, fun a => by rw [chk_open HP.out.2, if_pos rfl], by first | rfl | simp⟩⟩
  have z20 : ¬ (o : Int) = 20 := by omega
  have HW : Hid (PrAt (w.setCell ⟨g, 2, none⟩ (.int .i64 ((o + 1 : Nat) : Int))) base g p (q + 1) (o + 1) ∧ Chg (fun k => k = g) w (w.setCell ⟨g, 2, none⟩ (.int .i64 ((o + 1 : Nat) : Int)))) := ⟨PrAt.open HP.out.1 (o + 1), Chg.of_set w g 2 _ rfl⟩
  obtain ⟨W, hW⟩ : ∃ W : World, W = w.setCell ⟨g, 2, none⟩ (.int .i64 ((o + 1 : Nat) : Int)) := ⟨_, rfl⟩
  have hzW : W.heap.size = w.heap.size := by rw [hW]; simp [World.setCell]
  rw [← hW] at HW
  have hW2 : W = w.setCell ⟨g, 2, none⟩ (.int .i64 ((o : Int) + 1)) := hW
  have HZ : Hid (W.heap.size = w.heap.size) := hzW
  clear hW hzW
  go_enter Try.func61, Try.ntmps61
  go_upto_region 4 with fail
  rw [← hW2]
  clear hW2 c1 c2 f2
  go_wp2_with fail
  refine (H base g (q + 1) (o + 1) W hm hqp (by omega) HW.out.1).mono ?_
  rintro e w2 ⟨hC2, (⟨k, os, u, hA, hN, rfl, hU, hP2⟩ | ⟨c, k, hc0, hk, rfl⟩)⟩
  case inr =>
    refine ⟨rfl, HW.out.2.trans hC2, .inr ⟨c, k, hc0, fun a => ?_, rfl⟩⟩
    rw [chk_open HP.out.2, if_neg ho20, hk]
  obtain ⟨gu, nu, cu, rfl⟩ := hU.slice
  have hkp : k ≤ p.size := by have := hA.le; rw [sb_len] at this; exact this
  have HA : Hid (AltOk (sb p) (o + 1) (q + 1) k os ∧ (∀ c, (sb p)[k]? = some c → isEnd c ∧ ¬ c = 124)) := ⟨hA, hN⟩
  have HW2 : Hid (AltAt w2 (Bet w.heap.size w2.heap.size) os (.slice (some ⟨gu, 0, none⟩) nu cu) ∧ PrAt w2 base g p k (o + 1) ∧ Chg (fun k => k = g) w w2) := ⟨by rw [← HZ.out]; exact hU, hP2, HW.out.2.trans hC2⟩
  clear hC2 hA hN hU hP2 HW
  obtain ⟨W3, hW3⟩ : ∃ W3 : World, W3 = w2.alloc (Obj.cells #[.slice (some ⟨gu, 0, none⟩) nu cu] 65) := ⟨_, rfl⟩
  have hs2 := HW2.out.2.2.size
  have HW3 : Hid (AltAt W3 (Bet w.heap.size w2.heap.size) os (.slice (some ⟨gu, 0, none⟩) nu cu) ∧ PrAt W3 base g p k (o + 1) ∧ Chg (fun k => k = g) w W3 ∧ BoxAt W3 w.heap.size 65 1 w2.heap.size [.slice (some ⟨gu, 0, none⟩) nu cu]) := by
    have hb : Below w2.heap.size w2 W3 := by rw [hW3]; exact (Below.refl _ _).alloc (Nat.le_refl _) _
    refine ⟨HW2.out.1.move (S := fun _ => False) (Chg.of_below hb) (fun k q => q.elim) (fun k _ q => q), BoxAt.below HW2.out.2.1 hb, HW2.out.2.2.trans (Chg.of_below hb), ?_⟩
    rw [hW3]; exact boxAt_new w2 _ hs2 rfl
  clear HW2
  go_upto_region 5 with fail
  rw [← hW3]
  obtain ⟨IB, hIB⟩ : ∃ IB, IB = w2.heap.size := ⟨_, rfl⟩
  rw [← hIB] at HW3
  rw [← hIB]
  have hib : w.heap.size ≤ IB := by omega
  clear hW3 hIB hs2
  go_wp2_with fail
  refine (pskip_core 41 HW3.out.2.1 hp).mono ?_
  rintro e w4 ⟨hC4, (⟨hx, rfl, hP4⟩ | ⟨hx, rfl, hP4⟩)⟩
  case inr =>
    have HF : Hid (PrAt w4 base g p k (o + 1) ∧ Chg (fun k => k = g) w w4 ∧ ¬ (sb p)[k]? = some 41) := ⟨hP4, HW3.out.2.2.1.trans hC4, hx⟩
    clear hC4 hx hP4
    go_wp2_with fail
    refine (pdem_no HF.out.1).mono ?_
    rintro e w5 ⟨rfl, rfl⟩
    refine ⟨rfl, HF.out.2.1, .inr ⟨2, k, by decide, fun a => ?_, rfl⟩⟩
    rw [chk_open HP.out.2, if_neg ho20, HA.out.1.chk]
    by_cases hk : k < (sb p).length
    · obtain ⟨c, hc⟩ : ∃ c, (sb p)[k]? = some c := ⟨_, List.getElem?_eq_getElem hk⟩
      obtain ⟨h1, h2⟩ := HA.out.2 c hc
      rcases h1 with h1 | h1 | h1 | h1
      · rw [chk_op hc h1]; rfl
      · exact absurd h1 h2
      · subst h1; exact absurd hc HF.out.2.2
      · subst h1; rw [chk_rb hc]
    · rw [chk_end hk, if_pos (by omega)]
      have := HA.out.1.le
      rw [show k = (sb p).length by omega]
  have HF : Hid (AltAt w4 (Bet w.heap.size IB) os (.slice (some ⟨gu, 0, none⟩) nu cu) ∧ PrAt w4 base g p (k + 1) (o + 1) ∧ Chg (fun k => k = g) w w4 ∧ BoxAt w4 w.heap.size 65 1 IB [.slice (some ⟨gu, 0, none⟩) nu cu] ∧ (sb p)[k]? = some 41) :=
    ⟨HW3.out.1.move hC4 (fun k q => by subst q; exact fun z => by have := z.1; omega) (fun k _ q => q), hP4, HW3.out.2.2.1.trans hC4, BoxAt.chg HW3.out.2.2.2 hC4 (by omega), hx⟩
  clear hC4 hx hP4 HW3
  go_wp2_with fail
  refine (pdem_yes _ w4).mono ?_
  rintro e w5 ⟨rfl, hw5⟩
  rw [hw5]
  clear hw5
  have d2 := HF.out.2.1.cell (j := 2) rfl
  have g2 := HF.out.2.1.frozen 2
  have HZ4 : Hid (AltAt (w4.setCell ⟨g, 2, none⟩ (.int .i64 (o : Int))) (Bet w.heap.size IB) os (.slice (some ⟨gu, 0, none⟩) nu cu) ∧ PrAt (w4.setCell ⟨g, 2, none⟩ (.int .i64 (o : Int))) base g p (k + 1) o ∧ Chg (fun k => k = g) w (w4.setCell ⟨g, 2, none⟩ (.int .i64 (o : Int))) ∧ BoxAt (w4.setCell ⟨g, 2, none⟩ (.int .i64 (o : Int))) w.heap.size 65 1 IB [.slice (some ⟨gu, 0, none⟩) nu cu]) := by
    have hc := Chg.of_set w4 g 2 (.int .i64 (o : Int)) (S := fun k => k = g) rfl
    exact ⟨HF.out.1.move hc (fun k q => by subst q; exact fun z => by have := z.1; omega) (fun k _ q => q), PrAt.open HF.out.2.1 o, HF.out.2.2.1.trans hc, BoxAt.chg HF.out.2.2.2.1 hc (by omega)⟩
  have HC : Hid (AtomOk (sb p) o q (k + 1) (.alt os)) := AtomOk.group HP.out.2 ho20 HA.out.1 HF.out.2.2.2.2
  obtain ⟨W6, hW6⟩ : ∃ W6 : World, W6 = w4.setCell ⟨g, 2, none⟩ (.int .i64 (o : Int)) := ⟨_, rfl⟩
  rw [← hW6] at HZ4
  clear HF HA
  go_upto_region 7 with fail
  rw [← hW6]
  clear hW6 d2 g2
  have b0 := HZ4.out.2.2.2.cell (j := 0) rfl
  go_wp2_with fail
  go_ret
  exact ⟨HZ4.out.2.2.1, .inl ⟨k + 1, .alt os, _, HC.out, rfl, nodeOk_alt (HZ4.out.1.move (S := fun _ => False) (Chg.refl _ _) (fun k q => q.elim) (fun k hk q => ⟨q.1, hk⟩)), HZ4.out.2.1⟩⟩

theorem not_eq_u8 {x c : UInt8} (h : ¬ x = c) : ¬ (x.toNat : Int) = (c.toNat : Int) := fun q => h (UInt8.toNat_inj.1 (by omega))
set_option maxHeartbeats 4000000 in
theorem atom_of {p : ByteArray} {m : Nat} (H : AltC p m) (hp : p.size ≤ 200) : AtomC p (m + 1) := by
  intro base g i o w hm hi ho he h
  obtain ⟨x, hx⟩ : ∃ x, (sb p)[i]? = some x := ⟨_, List.getElem?_eq_getElem (by rw [sb_len]; exact hi)⟩
  have HX : Hid ((sb p)[i]? = some x ∧ ¬ isEnd x) := ⟨hx, he x hx⟩
  have HP : Hid (PrAt w base g p i o) := h
  have hgl := h.lt.2
  clear h he hx
  go_enter Try.func57, Try.ntmps57
  go_wp2_with fail
  refine (ptake_yes HP.out hp HX.out.1).mono ?_
  rintro e w1 ⟨rfl, hP1, hC1⟩
  have HW1 : Hid (PrAt w1 base g p (i + 1) o ∧ Chg (fun k => k = g) w w1) := ⟨hP1, hC1⟩
  have hs1 := hC1.size
  clear hP1 hC1 HP
  by_cases h46 : x = 46
  · subst h46
    go_upto_region 5 with fail
    apply wp_region_list
    refine wpList_build_cells rfl _ _ rfl (setA (fun _ => false)) (by simp; exact built_set) ?_
    simp only [Act.put, Act.eval, List.setIfInBounds_toArray, List.set_cons_succ, List.set_cons_zero]
    refine wpList_call_of rfl 60 #[.agg (setA (fun _ => false))] (by simp [execOp, go_sem, Act.eval, Try.func60]) ?_
    refine (opposite_core (fun _ => false) w1).mono ?_
    rintro e w2 ⟨rfl, hb2⟩
    simp only [Act.put, Act.eval, List.setIfInBounds_toArray, List.set_cons_succ, List.set_cons_zero]
    refine wpList_build_cells rfl _ _ rfl (setA (fun _ => true)) (by simp [Act.eval]; exact built_cls _ (setA_size _)) ?_
    simp only [Act.put, Act.eval, List.setIfInBounds_toArray, List.set_cons_succ, List.set_cons_zero]
    go_wp2_with fail
    go_ret
    exact ⟨HW1.out.2.trans (Chg.of_below hb2), .inl ⟨i + 1, _, _, AtomOk.dot HX.out.1, rfl, nodeOk_cls _ _ _, BoxAt.below HW1.out.1 hb2⟩⟩
  have z46 : ¬ (x.toNat : Int) = 46 := not_eq_u8 (c := 46) h46
  by_cases h92 : x = 92
  · subst h92
    go_wp2_with fail
    refine (ptake_core HW1.out.1 hp (by omega)).mono ?_
    rintro e w2 ⟨hC2, (⟨y, hy, rfl, hP2⟩ | ⟨hy, rfl⟩)⟩
    case inr =>
      refine ⟨rfl, HW1.out.2.trans hC2, .inr ⟨2, i + 1, by decide, fun a => ?_, rfl⟩⟩
      have h1 := lt_of_at HX.out.1
      have h2 : ¬ i + 1 < (sb p).length := fun q => by rw [List.getElem?_eq_getElem q] at hy; cases hy
      rw [chk_esc HX.out.1, if_pos (by omega)]
      rw [show i + 1 = (sb p).length by omega]
    have HF : Hid (PrAt w2 base g p (i + 1 + 1) o ∧ Chg (fun k => k = g) w w2 ∧ (sb p)[i + 1]? = some y) := ⟨hP2, HW1.out.2.trans hC2, hy⟩
    clear hC2 hy hP2
    go_wp2_with fail
    go_ret
    exact ⟨HF.out.2.1, .inl ⟨i + 1 + 1, _, _, AtomOk.esc HX.out.1 HF.out.2.2, rfl, nodeOk_byte _ _ _, HF.out.1⟩⟩
  have z92 : ¬ (x.toNat : Int) = 92 := not_eq_u8 (c := 92) h92
  by_cases h40 : x = 40
  · subst h40
    go_wp2_with fail
    refine (group_of H hp base g i o w1 (by omega) HX.out.1 ho HW1.out.1).mono ?_
    rintro e w2 ⟨hC2, (⟨k, t, v, hR, rfl, hN, hP2⟩ | ⟨c, k, hc0, hk, rfl⟩)⟩
    case inr => exact ⟨rfl, HW1.out.2.trans hC2, .inr ⟨c, k, hc0, hk, rfl⟩⟩
    have HF : Hid (AtomOk (sb p) o i k t ∧ NodeOk w2 (Bet w.heap.size w2.heap.size) t v ∧ PrAt w2 base g p k o ∧ Chg (fun k => k = g) w w2) := ⟨hR, hN.move (S := fun _ => False) (Chg.refl _ _) (fun k q => q.elim) (fun k hk q => ⟨by have := q.1; omega, hk⟩), hP2, HW1.out.2.trans hC2⟩
    obtain ⟨T, c, rfl⟩ := hN.iface
    clear hC2 hR hN hP2
    go_wp2_with fail
    go_ret
    exact ⟨HF.out.2.2.2, .inl ⟨k, t, _, HF.out.1, rfl, HF.out.2.1, HF.out.2.2.1⟩⟩
  have z40 : ¬ (x.toNat : Int) = 40 := not_eq_u8 (c := 40) h40
  by_cases h91 : x = 91
  · subst h91
    go_wp2_with fail
    refine (class_core HW1.out.1 hp (by omega)).mono ?_
    rintro e w2 ⟨hC2, (⟨f, k, hk, rfl, hP2⟩ | ⟨c, k, hk, rfl⟩)⟩
    case inr => exact ⟨rfl, HW1.out.2.trans hC2, .inr ⟨c, k, classM_err hk, fun a => by rw [chk_class HX.out.1, hk], rfl⟩⟩
    have HF : Hid (PrAt w2 base g p k o ∧ Chg (fun k => k = g) w w2 ∧ classM (sb p) (i + 1) = .inl (f, k)) := ⟨hP2, HW1.out.2.trans hC2, hk⟩
    clear hC2 hk hP2
    go_wp2_with fail
    go_ret
    exact ⟨HF.out.2.1, .inl ⟨k, _, _, AtomOk.class HX.out.1 HF.out.2.2, rfl, nodeOk_cls _ _ _, HF.out.1⟩⟩
  have z91 : ¬ (x.toNat : Int) = 91 := not_eq_u8 (c := 91) h91
  have HS : Hid (¬ special x) := fun q => by
    rcases q with q | q | q | q | q
    · exact HX.out.2 q
    · exact h40 q
    · exact h91 q
    · exact h46 q
    · exact h92 q
  go_wp2_with fail
  go_ret
  exact ⟨HW1.out.2, .inl ⟨i + 1, _, _, AtomOk.plain HX.out.1 HS.out, rfl, nodeOk_byte _ _ _, HW1.out.1⟩⟩
end Go.Proofs.Ytnncedndlhfdkaa

/-
  (*impl.patternReader).rep, over a contract of atom.
-/
namespace Go.Proofs.Ytnncedndlhfdkaa
open Go.ChangeShapes Go.WideShapes Go.ChangeAt Go.RowKit Go.Deep
set_option linter.unusedVariables false
set_option linter.unusedSimpArgs false
set_option maxRecDepth 100000

theorem inB_some {p : List UInt8} {i : Nat} {l : List UInt8} (h : inB p i l = true) : ∃ c, p[i]? = some c ∧ c ∈ l := by
  unfold inB at h
  split at h
  · next c hc => exact ⟨c, hc, by simpa using h⟩
  · cases h
theorem inB_none {p : List UInt8} {i : Nat} {l : List UInt8} (h : inB p i l = false) : ∀ c, p[i]? = some c → ¬ c ∈ l := by
  intro c hc
  unfold inB at h
  rw [hc] at h
  simpa using h
theorem op_mem {c : UInt8} : c ∈ ([42, 43, 63] : List UInt8) ↔ isOp c := by simp [isOp]
/-- The state of rep's node. -/
structure RepJ (p : ByteArray) (base g i o j : Nat) (a : Pat) (v : Value) (RB : Nat) (w : World) (k : Nat) (op rp : Bool) (wr : World) : Prop where
  ops : OpsOk (sb p) o i j k a op rp
  rd : PrAt wr base g p k o
  box : BoxAt wr w.heap.size 99 3 RB [v, .bool op, .bool rp]
  node : NodeOk wr (Bet w.heap.size RB) a v
  chg : Chg (fun k => k = g) w wr
theorem RepJ.move {p : ByteArray} {base g i o j : Nat} {a : Pat} {v : Value} {RB : Nat} {w : World} {k : Nat} {op rp : Bool} {wr w' : World} (h : RepJ p base g i o j a v RB w k op rp wr) (hb : Below wr.heap.size wr w') : RepJ p base g i o j a v RB w k op rp w' :=
  ⟨h.ops, BoxAt.below h.rd hb, h.box.below hb, h.node.move (S := fun _ => False) (Chg.of_below hb) (fun k q => q.elim) (fun k _ q => q), h.chg.trans (Chg.of_below hb)⟩
theorem RepJ.step {p : ByteArray} {base g i o j : Nat} {a : Pat} {v : Value} {RB : Nat} {w : World} {k : Nat} {op rp : Bool} {wr w' : World} {c : UInt8} (h : RepJ p base g i o j a v RB w k op rp wr) (hg : g < w.heap.size) (hc : (sb p)[k]? = some c) (ho : isOp c) (hP : PrAt w' base g p (k + 1) o) (hC : Chg (fun k => k = g) wr w') :
    RepJ p base g i o j a v RB w (k + 1) (op || c != 43) (rp || c != 63) ((w'.setCell ⟨RB, 1, none⟩ (.bool (op || c != 43))).setCell ⟨RB, 2, none⟩ (.bool (rp || c != 63))) := by
  have hr := h.box.lt.1
  have c1 := Chg.of_set w' RB 1 (.bool (op || c != 43)) (S := fun k => k = RB) rfl
  have c2 := Chg.of_set (w'.setCell ⟨RB, 1, none⟩ (.bool (op || c != 43))) RB 2 (.bool (rp || c != 63)) (S := fun k => k = RB) rfl
  have c3 := c1.trans c2
  refine ⟨h.ops.more hc ho, BoxAt.chg hP c3 (by omega), ((h.box.chg hC (by omega)).set 1 _).set 2 _, ?_, ((h.chg.trans hC).absorb c3 (fun j q => .inr (by omega)))⟩
  exact (h.node.move hC (fun k q => by subst q; exact fun z => by have := z.1; omega) (fun k _ q => q)).move c3 (fun k q => by subst q; exact fun z => by have := z.2; omega) (fun k _ q => q)

def RepC (p : ByteArray) (m : Nat) : Prop := ∀ (base g i o : Nat) (w : World), p.size - i ≤ m → i < p.size → o ≤ 20 → (∀ c, (sb p)[i]? = some c → ¬ isEnd c) → PrAt w base g p i o → Calls Try.prog 54 #[.pointer (some ⟨g, 0, none⟩)] w (NodePost p base g i o w (RepOk (sb p) o i))
set_option maxHeartbeats 8000000 in
theorem rep_of {p : ByteArray} {m : Nat} (H : AtomC p m) (hp : p.size ≤ 200) : RepC p m := by
  intro base g i o w hm hi ho he h
  have HP : Hid (PrAt w base g p i o) := h
  have hgl := h.lt.2
  clear h
  go_enter Try.func54, Try.ntmps54
  go_wp2_with fail
  refine (H base g i o w hm hi ho he HP.out).mono ?_
  rintro e w1 ⟨hC1, (⟨j, a, v, hA, rfl, hN, hP1⟩ | ⟨c, k, hc0, hk, rfl⟩)⟩
  case inr => exact ⟨rfl, hC1, .inr ⟨c, k, hc0, hk, rfl⟩⟩
  obtain ⟨T, cs, rfl⟩ := hN.iface
  have HW1 : Hid (AtomOk (sb p) o i j a ∧ NodeOk w1 (Bet w.heap.size w1.heap.size) a (.iface T (.agg cs)) ∧ PrAt w1 base g p j o ∧ Chg (fun k => k = g) w w1) := ⟨hA, hN, hP1, hC1⟩
  clear hC1 hA hN hP1 HP
  go_wp2_with fail
  refine (pnextIn_core ⟨#[42, 43, 63]⟩ HW1.out.2.2.1 hp).mono ?_
  rintro e w2 ⟨rfl, hb2⟩
  have HW2 : Hid (NodeOk w2 (Bet w.heap.size w2.heap.size) a (.iface T (.agg cs)) ∧ PrAt w2 base g p j o ∧ Chg (fun k => k = g) w w2) :=
    ⟨HW1.out.2.1.move (S := fun _ => False) (Chg.of_below hb2) (fun k q => q.elim) (fun k hk q => ⟨q.1, by have := hb2.size; omega⟩), BoxAt.below HW1.out.2.2.1 hb2, HW1.out.2.2.2.trans (Chg.of_below hb2)⟩
  have HA : Hid (AtomOk (sb p) o i j a) := HW1.out.1
  obtain ⟨q, hq⟩ : ∃ q, q = inB (sb p) j (sb ⟨#[42, 43, 63]⟩) := ⟨_, rfl⟩
  have HQ : Hid (inB (sb p) j [42, 43, 63] = q) := hq.symm
  rw [← hq]
  clear hb2 hq HW1
  cases q
  · have HR : Hid (RepOk (sb p) o i j a) := by
      have := (OpsOk.zero HA.out).rep (fun c hc hop => inB_none HQ.out c hc (op_mem.2 hop))
      rw [if_pos rfl] at this
      exact this
    go_wp2_with fail
    go_ret
    exact ⟨HW2.out.2.2, .inl ⟨j, a, _, HR.out, rfl, HW2.out.1, HW2.out.2.1⟩⟩
  have hjp : j ≤ p.size := by have := HA.out.le; rw [sb_len] at this; exact this
  obtain ⟨W3, hW3⟩ : ∃ W3 : World, W3 = w2.alloc (Obj.cells #[.iface T (.agg cs), .bool false, .bool false] 99) := ⟨_, rfl⟩
  have hs2 := HW2.out.2.2.size
  have HW3 : Hid (RepJ p base g i o j a (.iface T (.agg cs)) w2.heap.size w j false false W3) := by
    have hb : Below w2.heap.size w2 W3 := by rw [hW3]; exact (Below.refl _ _).alloc (Nat.le_refl _) _
    refine ⟨OpsOk.zero HA.out, BoxAt.below HW2.out.2.1 hb, ?_, HW2.out.1.move (S := fun _ => False) (Chg.of_below hb) (fun k q => q.elim) (fun k _ q => q), HW2.out.2.2.trans (Chg.of_below hb)⟩
    rw [hW3]; exact boxAt_new w2 _ hs2 rfl
  have HF0 : Hid (∃ c, (sb p)[j]? = some c ∧ isOp c) := by
    obtain ⟨c, h1, h2⟩ := inB_some HQ.out
    exact ⟨c, h1, op_mem.1 h2⟩
  clear HW2
  go_wp2_with fail
  rw [← hW3]
  obtain ⟨RB, hRB⟩ : ∃ RB, RB = w2.heap.size := ⟨_, rfl⟩
  rw [← hRB] at HW3
  rw [← hRB]
  have hrb : w.heap.size ≤ RB := by omega
  clear hW3 hRB hs2
  go_loopw [5] (fun sg wr => ∃ (k : Nat) (op rp : Bool), j ≤ k ∧ k ≤ p.size ∧ (k = j → ∃ c, (sb p)[j]? = some c ∧ isOp c) ∧ RepJ p base g i o j a (.iface T (.agg cs)) RB w k op rp wr) (fun _ wr => p.size - atOf wr g)
  case atStart => exact ⟨j, false, false, Nat.le_refl _, hjp, fun _ => HF0.out, HW3.out⟩
  case round =>
    obtain ⟨k, op, rp, hjk, hkp, hne, hJ⟩ := hrel
    have HJ : Hid (RepJ p base g i o j a (.iface T (.agg cs)) RB w k op rp wr ∧ (k = j → ∃ c, (sb p)[j]? = some c ∧ isOp c) ∧ atOf wr g = k) := ⟨hJ, hne, atOf_pr hJ.rd⟩
    clear hJ hne HW3
    go_wp2_with fail
    refine (pnextIn_core ⟨#[42, 43, 63]⟩ HJ.out.1.rd hp).mono ?_
    rintro e w5 ⟨rfl, hb5⟩
    have HJ5 : Hid (RepJ p base g i o j a (.iface T (.agg cs)) RB w k op rp w5) := HJ.out.1.move hb5
    obtain ⟨q, hq⟩ : ∃ q, q = inB (sb p) k (sb ⟨#[42, 43, 63]⟩) := ⟨_, rfl⟩
    have HQ5 : Hid (inB (sb p) k [42, 43, 63] = q) := hq.symm
    rw [← hq]
    clear hb5 hq
    cases q
    · have HR : Hid (RepOk (sb p) o i k (.rep a op rp)) := by
        have h1 := HJ5.out.ops.rep (fun c hc hop => inB_none HQ5.out c hc (op_mem.2 hop))
        rw [if_neg (fun q => by
          obtain ⟨c, hc, hop⟩ := HJ.out.2.1 q.symm
          rw [q] at hc
          exact inB_none HQ5.out c hc (op_mem.2 hop))] at h1
        exact h1
      have b0 := HJ5.out.box.cell (j := 0) rfl
      have b1 := HJ5.out.box.cell (j := 1) rfl
      have b2 := HJ5.out.box.cell (j := 2) rfl
      go_wp2_with fail
      go_ret
      exact ⟨HJ5.out.chg, .inl ⟨k, _, _, HR.out, rfl, nodeOk_rep (HJ5.out.node.move (S := fun _ => False) (Chg.refl _ _) (fun k q => q.elim) (fun k hk q => ⟨q.1, hk⟩)) op rp, HJ5.out.rd⟩⟩
    · obtain ⟨c, hc, hcm⟩ := inB_some HQ5.out
      have HC : Hid ((sb p)[k]? = some c ∧ isOp c) := ⟨hc, op_mem.1 hcm⟩
      have hk1 : k + 1 ≤ p.size := by have := lt_of_at hc; rw [sb_len] at this; omega
      clear hc hcm
      go_wp2_with fail
      refine (ptake_yes HJ5.out.rd hp HC.out.1).mono ?_
      rintro e w6 ⟨rfl, hP6, hC6⟩
      have HJ6 := HJ5.out.step hgl HC.out.1 HC.out.2 hP6 hC6
      have hbx := HJ5.out.box.chg hC6 (show ¬ RB = g by omega)
      have b1 := hbx.cell (j := 1) rfl
      have b2 := hbx.cell (j := 2) rfl
      have g1 := hbx.frozen 1
      have g2 := hbx.frozen 2
      have HJN : Hid (RepJ p base g i o j a (.iface T (.agg cs)) RB w (k + 1) (op || c != 43) (rp || c != 63) ((w6.setCell ⟨RB, 1, none⟩ (.bool (op || c != 43))).setCell ⟨RB, 2, none⟩ (.bool (rp || c != 63)))) := HJ6
      have HAt : Hid (atOf wr g = k) := HJ.out.2.2
      clear HJ6 hbx hP6 hC6 HJ5 HJ
      rcases HC.out.2 with rfl | rfl | rfl <;> cases op <;> cases rp
      all_goals go_wp2_with fail
      all_goals go_roundw
      all_goals first
        | exact ⟨k + 1, _, _, by omega, hk1, fun q => by omega, HJN.out⟩
        | exact Nat.lt_of_le_of_lt (Nat.le_of_eq (congrArg (p.size - ·) (atOf_pr HJN.out.rd))) (by rw [HAt.out]; omega)
end Go.Proofs.Ytnncedndlhfdkaa

/-
  (*impl.patternReader).seq, over a contract of rep.
-/
namespace Go.Proofs.Ytnncedndlhfdkaa
open Go.ChangeShapes Go.WideShapes Go.ChangeAt Go.RowKit Go.Deep
set_option linter.unusedVariables false
set_option linter.unusedSimpArgs false
set_option maxRecDepth 100000

/-- What seq hands back. -/
def SeqPost (p : ByteArray) (base g i o : Nat) (w : World) (e : Ending) (w' : World) : Prop :=
  Chg (fun k => k = g) w w' ∧ ((∃ (k : Nat) (ts : List Pat) (u : Value), SeqOk (sb p) o i k ts ∧ (∀ c, (sb p)[k]? = some c → isEnd c) ∧ e = .returned (.agg #[u]) ∧ SeqAt w' (Bet w.heap.size w'.heap.size) ts u ∧ PrAt w' base g p k o) ∨ (∃ (c : Int) (k : Nat), ¬ c = 0 ∧ chkM (sb p) i o false = (c, k) ∧ e = Pf c k))
def SeqC (p : ByteArray) (m : Nat) : Prop := ∀ (base g i o : Nat) (w : World), p.size - i ≤ m → i ≤ p.size → o ≤ 20 → PrAt w base g p i o → Calls Try.prog 50 #[.pointer (some ⟨g, 0, none⟩)] w (SeqPost p base g i o w)
/-- Blocks of nodes. -/
def NR (lo : Nat) (v : Value) : Nat → Prop := fun k => lo ≤ k ∧ ¬ v.ownBlock = some k
structure SeqJ (p : ByteArray) (base g i o : Nat) (w : World) (k : Nat) (ts : List Pat) (us : List Value) (v : Value) (wr : World) : Prop where
  ok : SeqOk (sb p) o i k ts
  rd : PrAt wr base g p k o
  res : BoxAt wr w.heap.size 73 1 w.heap.size [.slice none 0 0]
  box : BoxAt wr w.heap.size 73 1 (w.heap.size + 1) [v]
  row : OwnN wr (w.heap.size + 2) v us
  len : us.length = ts.length
  nodes : ∀ (i : Nat) x t, us[i]? = some x → ts[i]? = some t → NodeOk wr (NR (w.heap.size + 2) v) t x
  chg : Chg (fun k => k = g) w wr
  glt : g < w.heap.size
theorem OwnN.chg {S : Nat → Prop} {w w' : World} {base : Nat} {v : Value} {us : List Value} (h : OwnN w base v us) (hc : Chg S w w') (hn : ∀ k, v.ownBlock = some k → ¬ S k) : OwnN w' base v us := own_chg h hc hn
theorem OwnN.slice {w : World} {base : Nat} {v : Value} {us : List Value} (h : OwnN w base v us) : ∃ a cp, v = .slice a us.length cp := by
  rcases h.2 with ⟨rfl, h0⟩ | ⟨g, cap, cur, rfl, _⟩
  · exact ⟨none, 0, by rw [h0]⟩
  · exact ⟨_, _, rfl⟩
variable {p : ByteArray} {base g i o : Nat} {w : World} {k : Nat} {ts : List Pat} {us : List Value} {v : Value} {wr : World}
theorem SeqJ.move {w' : World} (h : SeqJ p base g i o w k ts us v wr) (hb : Below wr.heap.size wr w') : SeqJ p base g i o w k ts us v w' :=
  ⟨h.ok, BoxAt.below h.rd hb, h.res.below hb, h.box.below hb, h.row.chg (S := fun _ => False) (Chg.of_below hb) (fun _ _ q => q), h.len, fun i x t hx ht => (h.nodes i x t hx ht).move (S := fun _ => False) (Chg.of_below hb) (fun k q => q.elim) (fun k _ q => q), h.chg.trans (Chg.of_below hb), h.glt⟩
/-- Behind rep: one node more, not yet in the list. -/
structure SeqK (p : ByteArray) (base g i o : Nat) (w : World) (k : Nat) (ts : List Pat) (us : List Value) (v : Value) (t : Pat) (x : Value) (wr : World) : Prop where
  ok : SeqOk (sb p) o i k (ts ++ [t])
  rd : PrAt wr base g p k o
  res : BoxAt wr w.heap.size 73 1 w.heap.size [.slice none 0 0]
  box : BoxAt wr w.heap.size 73 1 (w.heap.size + 1) [v]
  row : OwnN wr (w.heap.size + 2) v us
  len : us.length = ts.length
  nodes : ∀ (i : Nat) y s, (us ++ [x])[i]? = some y → (ts ++ [t])[i]? = some s → NodeOk wr (NR (w.heap.size + 2) v) s y
  chg : Chg (fun k => k = g) w wr
  glt : g < w.heap.size
theorem SeqK.move {w' : World} {t : Pat} {x : Value} (h : SeqK p base g i o w k ts us v t x wr) (hb : Below wr.heap.size wr w') : SeqK p base g i o w k ts us v t x w' :=
  ⟨h.ok, BoxAt.below h.rd hb, h.res.below hb, h.box.below hb, h.row.chg (S := fun _ => False) (Chg.of_below hb) (fun _ _ q => q), h.len, fun i x t hx ht => (h.nodes i x t hx ht).move (S := fun _ => False) (Chg.of_below hb) (fun k q => q.elim) (fun k _ q => q), h.chg.trans (Chg.of_below hb), h.glt⟩
theorem snoc_at {α : Type} {l : List α} {a b : α} {i : Nat} (h : (l ++ [a])[i]? = some b) : l[i]? = some b ∨ (i = l.length ∧ b = a) := by
  by_cases hi : i < l.length
  · rw [List.getElem?_append_left hi] at h; exact .inl h
  · rw [List.getElem?_append_right (by omega)] at h
    have h2 := (List.getElem?_eq_some_iff.1 h).1
    simp at h2
    have : i - l.length = 0 := by omega
    rw [this] at h
    simp at h
    exact .inr ⟨by omega, h.symm⟩
theorem SeqJ.rep {w6 : World} {k6 : Nat} {t : Pat} {x : Value} (h : SeqJ p base g i o w k ts us v wr) (hC : Chg (fun k => k = g) wr w6) (hR : RepOk (sb p) o k k6 t) (hN : NodeOk w6 (Bet wr.heap.size w6.heap.size) t x) (hP : PrAt w6 base g p k6 o) : SeqK p base g i o w k6 ts us v t x w6 := by
  have hg := h.glt
  have hz := h.chg.size
  have hb1 := h.box.lt.2
  have hv : ∀ j, v.ownBlock = some j → w.heap.size + 2 ≤ j ∧ j < wr.heap.size := fun j hj => World.ownsRow.lt h.row j hj
  refine ⟨h.ok.more hR, hP, h.res.chg hC (by omega), h.box.chg hC (by omega), h.row.chg hC (fun j hj q => by have := (hv j hj).1; omega), h.len, ?_, h.chg.trans hC, hg⟩
  intro j y s hy hs
  rcases snoc_at hy with hy | ⟨hj, rfl⟩
  · rcases snoc_at hs with hs | ⟨hj, rfl⟩
    · exact (h.nodes j y s hy hs).move hC (fun q hq => by subst hq; exact fun z => by have := z.1; omega) (fun q _ z => z)
    · have := (List.getElem?_eq_some_iff.1 hy).1
      have := h.len
      omega
  · rcases snoc_at hs with hs | ⟨_, rfl⟩
    · have := (List.getElem?_eq_some_iff.1 hs).1
      have := h.len
      omega
    · refine hN.move (S := fun _ => False) (Chg.refl _ _) (fun q hq => hq.elim) (fun q _ z => ⟨?_, fun e => ?_⟩)
      · have := z.1; omega
      · have := (hv q e).2; have := z.1; omega
/-- The list grown, then its variable set. -/
theorem SeqK.push {t : Pat} {x v' : Value} {w' : World} (h : SeqK p base g i o w k ts us v t x wr) (hO : OwnN w' (w.heap.size + 2) v' (us ++ [x])) (hg : wr.grownBy w' v.ownBlock) (hat : ∀ j, v'.ownBlock = some j → v.ownBlock = some j ∨ j = wr.heap.size) :
    SeqJ p base g i o w k (ts ++ [t]) (us ++ [x]) v' (w'.setCell ⟨w.heap.size + 1, 0, none⟩ v') ∧ w'.cell? ⟨w.heap.size + 1, 0, none⟩ = some v ∧ w'.frozen? ⟨w.heap.size + 1, 0, none⟩ = false := by
  have hgl := h.glt
  have hv : ∀ j, v.ownBlock = some j → w.heap.size + 2 ≤ j ∧ j < wr.heap.size := fun j hj => World.ownsRow.lt h.row j hj
  have hv' : ∀ j, v'.ownBlock = some j → w.heap.size + 2 ≤ j ∧ j < w'.heap.size := fun j hj => World.ownsRow.lt hO j hj
  have hc : Chg (fun j => v.ownBlock = some j) wr w' := Chg.of_grown hg (fun j hj => hj)
  have hs : Chg (fun j => j = w.heap.size + 1) w' (w'.setCell ⟨w.heap.size + 1, 0, none⟩ v') := Chg.of_set w' (w.heap.size + 1) 0 _ rfl
  have hbx := h.box.chg hc (fun q => by have := (hv _ q).1; omega)
  refine ⟨⟨h.ok, ?_, ?_, hbx.set 0 _, hO.chg hs (fun j hj q => by have := (hv' j hj).1; omega), by rw [List.length_append, List.length_append, h.len]; rfl, ?_, ?_, hgl⟩, hbx.cell (j := 0) rfl, hbx.frozen 0⟩
  · exact BoxAt.chg (BoxAt.chg h.rd hc (fun q => by have := (hv _ q).1; omega)) hs (by omega)
  · exact (h.res.chg hc (fun q => by have := (hv _ q).1; omega)).chg hs (by omega)
  · intro j y s hy hs2
    have h1 := (h.nodes j y s hy hs2).move hc (fun q hq z => z.2 hq) (lo' := NR (w.heap.size + 2) v') (fun q hq z => ⟨z.1, fun e => by rcases hat q e with e | e; exact z.2 e; omega⟩)
    exact h1.move hs (fun q hq => by subst hq; exact fun z => by have := z.1; omega) (fun q _ z => z)
  · exact (h.chg.absorb hc (fun j q => .inr (by have := (hv j q).1; omega))).absorb hs (fun j q => .inr (by omega))
theorem Try.infoNodes : True := trivial
/-- One node appended, at a step of a region that draws. -/
theorem step_append_node {ops : Array Oper} {oo : Oper} {a : Act} {K : Act → World → Prop} {Q : Exit → Act → World → Prop} {E : Prop} (w : World) (hgd : oo.guard = none) (s x : Operand)
    (ho : oo.op = .call { callee := .builtin .append, args := #[s, x], argTypes := #[71, 71] })
    (base n blk : Nat) (v y : Value) (us : List Value) (hn : n = us.length) (hs : a.eval s = v) (hx : a.eval x = .slice (some ⟨blk, 0, none⟩) 1 1) (hO : OwnN w base v us)
    (hc : w.cell? ⟨blk, 0, none⟩ = some y) (hy : y.oneCell' = true) (hlen : us.length ≤ 1000) (hbase : base ≤ w.heap.size)
    (h : ∀ g' cp' w', OwnN w' base (.slice (some ⟨g', 0, none⟩) (n + 1) cp') (us ++ [y]) → w.grownBy w' v.ownBlock → (v.ownBlock = some g' ∨ g' = w.heap.size) → K (a.put oo.dst (.slice (some ⟨g', 0, none⟩) (n + 1) cp')) w') : if Region.wanted oo (yielded ops a.tmps) = true then Oper.wp Try.prog oo a w K Q else E := by
  subst hn
  obtain ⟨i, hi, hz0, hz1, hz2⟩ := info_parts Try.infoNode
  refine step_append_lies w hgd s x 71 ho base 88 i _ 1 16 Try.underlying71 hi hz0 hz1 hz2 rfl (by decide) v us.length us hs hO ⟨blk, 0, none⟩ 1 1 [y] hx rfl ?_ ?_ (by decide) ?_ ?_ hbase w.heap.size rfl ?_
  · intro j u hu
    have hj : j = 0 := by have := (List.getElem?_eq_some_iff.1 hu).1; simpa using this
    subst hj
    simp at hu
    rw [Addr.add_mid, ← hu]; exact hc
  · intro u hu
    simp at hu; subst hu; exact hy
  · unfold maxLen; omega
  · omega
  · intro g' cp' w' hO' hgr hat hlt
    refine h g' cp' w' ?_ hgr hat
    unfold OwnN
    rw [List.length_append]
    exact hO'

set_option maxHeartbeats 8000000 in
theorem seq_of {p : ByteArray} {m : Nat} (H : RepC p m) (hp : p.size ≤ 200) : SeqC p m := by
  intro base g i o w hm hi ho h
  have hgl := h.lt.2
  obtain ⟨W0, hW0⟩ : ∃ W0 : World, W0 = (w.alloc (Obj.cells #[.slice none 0 0] 73)).alloc (Obj.cells #[.slice none 0 0] 73) := ⟨_, rfl⟩
  have HJ0 : Hid (SeqJ p base g i o w i [] [] (.slice none 0 0) W0) := by
    have hb : Below w.heap.size w W0 := by rw [hW0]; exact ((Below.refl _ _).alloc (Nat.le_refl _) _).alloc (by simp) _
    have h1 : BoxAt W0 w.heap.size 73 1 w.heap.size [.slice none 0 0] := by rw [hW0]; exact BoxAt.ofHeap (vs := #[.slice none 0 0]) (heap_alloc2_old w _ _) (Nat.le_refl _) rfl
    have h2 : BoxAt W0 w.heap.size 73 1 (w.heap.size + 1) [.slice none 0 0] := by rw [hW0]; exact BoxAt.ofHeap (vs := #[.slice none 0 0]) (heap_alloc2_new w _ _) (by omega) rfl
    exact ⟨SeqOk.nil (by rw [sb_len]; exact hi), BoxAt.below h hb, h1, h2, World.ownsRow_nil .., rfl, fun i x t hx => by simp at hx, Chg.of_below hb, hgl⟩
  clear h
  go_enter Try.func50, Try.ntmps50
  go_wp2_with fail
  rw [← hW0]
  clear hW0
  go_loopw [] (fun wr => ∃ (k : Nat) (ts : List Pat) (us : List Value) (v : Value), i ≤ k ∧ k ≤ p.size ∧ us.length ≤ k ∧ SeqJ p base g i o w k ts us v wr) (fun wr => p.size - atOf wr g)
  case atStart => exact ⟨i, [], [], _, Nat.le_refl _, hi, Nat.zero_le _, HJ0.out⟩
  case round =>
    obtain ⟨k, ts, us, v, hik, hkp, hul, hJ⟩ := hrel
    have HJ : Hid (SeqJ p base g i o w k ts us v wr ∧ atOf wr g = k) := ⟨hJ, atOf_pr hJ.rd⟩
    obtain ⟨va, vc, hva⟩ := hJ.row.slice
    subst hva
    clear hJ HJ0
    have hlt := HJ.out.1.rd.lt.2
    have c0 := HJ.out.1.rd.cell (j := 0) rfl
    have c1 := HJ.out.1.rd.cell (j := 1) rfl
    have e0 : ∀ n : Out wr, n.u.cell? ⟨g, 0, none⟩ = some (.string p) := fun n => (n.out.cell (p := ⟨g, 0, none⟩) hlt).trans c0
    have e1 : ∀ n : Out wr, n.u.cell? ⟨g, 1, none⟩ = some (.int .i64 (k : Int)) := fun n => (n.out.cell (p := ⟨g, 1, none⟩) hlt).trans c1
    obtain ⟨q, hq⟩ : ∃ q, q = inB (sb p) k (sb ⟨#[42, 43, 63, 124, 41, 93]⟩) := ⟨_, rfl⟩
    have HQ : Hid (inB (sb p) k [42, 43, 63, 124, 41, 93] = q) := hq.symm
    have HI : Hid (∀ n : Out wr, Calls Try.prog 53 #[.pointer (some ⟨g, 0, none⟩), .string ⟨#[42, 43, 63, 124, 41, 93]⟩] n.u fun e w' => e = .returned (.bool q) ∧ Below n.u.heap.size n.u w') := fun n => by
      rw [hq]
      exact pnextIn_core _ (BoxAt.below HJ.out.1.rd n.out) hp
    clear c0 c1 hq
    by_cases hgo : k < p.size ∧ q = false
    · obtain ⟨hks, rfl⟩ := hgo
      have z1 : (k : Int) < (p.size : Int) := by omega
      have HNe : Hid (∀ c, (sb p)[k]? = some c → ¬ isEnd c) := fun c hc he => inB_none HQ.out c hc (by
        rcases he with (rfl | rfl | rfl) | rfl | rfl | rfl <;> simp)
      go_upto_region 2 with fail
      refine wp_region_out (by kernel_rfl) (by kernel_rfl) ?_
      repeat (go_big_quiet_step ((first | rfl | (go_at_call 53; exact Calls.out_of (HI.out _)))))
      refine wpQuiet_nil ?_
      rintro w1 ⟨⟨wx, hb1⟩, rfl⟩
      have HJ1 : Hid (SeqJ p base g i o w k ts us (.slice va us.length vc) w1) := HJ.out.1.move hb1
      have HAt : Hid (atOf wr g = k) := HJ.out.2
      have hs1 := hb1.size
      clear e0 e1 HI hb1 HJ
      have b0 := HJ1.out.box.cell (j := 0) rfl
      have hob := HJ1.out.box.lt.2
      have HRep : Hid (∀ w', Below w1.heap.size w1 w' → Calls Try.prog 54 #[.pointer (some ⟨g, 0, none⟩)] w' (NodePost p base g k o w' (RepOk (sb p) o k))) := fun w' hb => H base g k o w' (by omega) hks ho HNe.out (BoxAt.below HJ1.out.rd hb)
      go_upto_region 3 with fail
      go_region_law ((first
                | (go_simp; go_at_call 54; refine (HRep.out _ (Below.refl _ _).drew).mono ?_; rintro e' w6 ⟨hC6, (⟨k6, t, x, hR6, rfl, hN6, hP6⟩ | ⟨c6, k6, hc60, hk6, rfl⟩)⟩; (case inr => exact ⟨rfl, (HJ1.out.move (Below.refl _ _).drew).chg.trans hC6, .inr ⟨c6, k6, hc60, by rw [HJ1.out.ok.chk, hk6], rfl⟩⟩); obtain ⟨T6, cs6, rfl⟩ := hN6.iface; have HK6 : Hid (SeqK p base g i o w k6 ts us (.slice va us.length vc) t (.iface T6 (.agg cs6)) w6 ∧ RepOk (sb p) o k k6 t) := ⟨(HJ1.out.move (Below.refl _ _).drew).rep hC6 hR6 hN6 hP6, hR6⟩; have m6 := HK6.out.1.box.cell (j := 0) rfl; have m6l := HK6.out.1.box.lt.2; have m6a : ∀ o, (w6.alloc o).cell? ⟨w.heap.size + 1, 0, none⟩ = some (.slice va us.length vc) := fun o => by { rw [((Below.refl w6.heap.size w6).alloc (Nat.le_refl _) o).cell (p := ⟨w.heap.size + 1, 0, none⟩) m6l]; exact m6 }; clear hC6 hR6 hN6 hP6)
                | (refine step_append_node _ (by rfl) _ _ (by rfl) (w.heap.size + 2) us.length w6.heap.size (.slice va us.length vc) (.iface T6 (.agg cs6)) us rfl (by rfl) (by rfl) ?hO ?hc rfl ?hl ?hb ?_
                   case hO => exact (HK6.out.1.move ((Below.refl _ _).alloc (Nat.le_refl _) _)).row
                   case hc => simp
                   case hl => omega
                   case hb => have := (HK6.out.1.move ((Below.refl _ _).alloc (Nat.le_refl _) (Obj.cells #[.iface T6 (.agg cs6)] 88))).box.lt.2; omega
                   intro g7 cp7 w7 hO7 hgr7 hgg7
                   have hpp := (HK6.out.1.move ((Below.refl _ _).alloc (Nat.le_refl _) (Obj.cells #[.iface T6 (.agg cs6)] 88))).push hO7 hgr7 (fun j hj => by have hj' : g7 = j := by { simpa [Value.ownBlock] using hj }; rw [← hj']; exact hgg7)
                   have fin7 : Hid (SeqJ p base g i o w k6 (ts ++ [t]) (us ++ [.iface T6 (.agg cs6)]) (.slice (some ⟨g7, 0, none⟩) (us.length + 1) cp7) (w7.setCell ⟨w.heap.size + 1, 0, none⟩ (.slice (some ⟨g7, 0, none⟩) (us.length + 1) cp7))) := hpp.1
                   have m7 := hpp.2.1
                   have f7 := hpp.2.2
                   clear hpp hO7 hgr7 hgg7)))
      all_goals go_wp2_with fail
      all_goals go_roundw
      all_goals first
        | exact ⟨k6, ts ++ [t], us ++ [.iface T6 (.agg cs6)], _, by have := HK6.out.2.lt; omega, by have := HK6.out.2.le; rw [sb_len] at this; exact this, by have := HK6.out.2.lt; rw [List.length_append]; simp; omega, fin7.out⟩
        | (rw [HAt.out, atOf_pr fin7.out.rd]; have := HK6.out.2.lt; omega)
    · have HE : Hid (∀ c, (sb p)[k]? = some c → isEnd c) := by
        intro c hc
        have hk := lt_of_at hc
        rw [sb_len] at hk
        cases q
        · exact absurd ⟨hk, rfl⟩ hgo
        · obtain ⟨d, hd, hm⟩ := inB_some HQ.out
          rw [hc] at hd
          cases hd
          simp at hm
          rcases hm with rfl | rfl | rfl | rfl | rfl | rfl <;> simp [isEnd, isOp]
      have HX : Hid (SeqJ p base g i o w k ts us (.slice va us.length vc) wr) := HJ.out.1
      clear HQ HJ
      have fin : ∀ w1, Below wr.heap.size wr w1 → Hid (SeqJ p base g i o w k ts us (.slice va us.length vc) w1) := fun w1 hb => HX.out.move hb
      by_cases hks : k < p.size
      · have hq1 : q = true := by
          cases q
          · exact absurd ⟨hks, rfl⟩ hgo
          · rfl
        subst hq1
        have z1 : (k : Int) < (p.size : Int) := by omega
        clear hgo
        go_upto_region 2 with fail
        refine wp_region_out (by kernel_rfl) (by kernel_rfl) ?_
        repeat (go_big_quiet_step ((first | rfl | (go_at_call 53; exact Calls.out_of (HI.out _)))))
        refine wpQuiet_nil ?_
        rintro w1 ⟨⟨wx, hb1⟩, rfl⟩
        have HJ1 := fin w1 hb1
        clear e0 e1 HI hb1 fin HX
        have b0 := HJ1.out.box.cell (j := 0) rfl
        have r0 := HJ1.out.res.cell (j := 0) rfl
        have rf := HJ1.out.res.frozen 0
        go_wp2_with fail
        refine bodyPost_ret (v := .agg #[.slice va us.length vc]) (by simp [results, Try.results50, go_sem, World.cell?_setCell_same _ _ _ r0]) rfl ?_
        have hc := Chg.of_set w1 w.heap.size 0 (.slice va us.length vc) (S := fun j => j = w.heap.size) rfl
        refine ⟨HJ1.out.chg.absorb hc (fun j q => .inr (by omega)), .inl ⟨k, ts, _, HJ1.out.ok, HE.out, rfl, ?_, BoxAt.chg HJ1.out.rd hc (by omega)⟩⟩
        refine (HJ1.out.row.seq HJ1.out.len (R := fun j => w.heap.size + 2 ≤ j) (fun i x t hx ht => (HJ1.out.nodes i x t hx ht).move (S := fun _ => False) (Chg.refl _ _) (fun _ q => q.elim) (fun _ _ q => q.1)) (fun j hj => (World.ownsRow.lt HJ1.out.row j hj).1)).move hc (fun j q => by subst q; exact fun z => by omega) (fun j hj z => ⟨by omega, by have := hc.size; omega⟩)
      · have z1 : ¬ (k : Int) < (p.size : Int) := by omega
        clear hgo
        go_upto_region 2 with fail
        refine wp_region_out (by kernel_rfl) (by kernel_rfl) ?_
        repeat (go_big_quiet_step (rfl))
        refine wpQuiet_nil ?_
        rintro w1 ⟨⟨wx, hb1⟩, rfl⟩
        have HJ1 := fin w1 hb1
        clear e0 e1 HI hb1 fin HX
        have b0 := HJ1.out.box.cell (j := 0) rfl
        have r0 := HJ1.out.res.cell (j := 0) rfl
        have rf := HJ1.out.res.frozen 0
        go_wp2_with fail
        refine bodyPost_ret (v := .agg #[.slice va us.length vc]) (by simp [results, Try.results50, go_sem, World.cell?_setCell_same _ _ _ r0]) rfl ?_
        have hc := Chg.of_set w1 w.heap.size 0 (.slice va us.length vc) (S := fun j => j = w.heap.size) rfl
        refine ⟨HJ1.out.chg.absorb hc (fun j q => .inr (by omega)), .inl ⟨k, ts, _, HJ1.out.ok, HE.out, rfl, ?_, BoxAt.chg HJ1.out.rd hc (by omega)⟩⟩
        refine (HJ1.out.row.seq HJ1.out.len (R := fun j => w.heap.size + 2 ≤ j) (fun i x t hx ht => (HJ1.out.nodes i x t hx ht).move (S := fun _ => False) (Chg.refl _ _) (fun _ q => q.elim) (fun _ _ q => q.1)) (fun j hj => (World.ownsRow.lt HJ1.out.row j hj).1)).move hc (fun j q => by subst q; exact fun z => by omega) (fun j hj z => ⟨by omega, by have := hc.size; omega⟩)
end Go.Proofs.Ytnncedndlhfdkaa

/-
  (*impl.patternReader).alt, over a contract of seq; all of the reader by induction.
-/
namespace Go.Proofs.Ytnncedndlhfdkaa
open Go.ChangeShapes Go.WideShapes Go.ChangeAt Go.RowKit Go.Deep
set_option linter.unusedVariables false
set_option linter.unusedSimpArgs false
set_option maxRecDepth 100000

structure AltJ (p : ByteArray) (base g i o : Nat) (w : World) (k : Nat) (os : List (List Pat)) (us : List Value) (gq cp : Nat) (wr : World) : Prop where
  ok : AltOk (sb p) o i k os
  nxt : ∀ c, (sb p)[k]? = some c → isEnd c
  rd : PrAt wr base g p k o
  res : BoxAt wr w.heap.size 65 1 w.heap.size [.slice none 0 0]
  row : OwnQ wr (w.heap.size + 1) gq cp us
  len : us.length = os.length
  seqs : ∀ (i : Nat) x ts, us[i]? = some x → os[i]? = some ts → SeqAt wr (fun j => w.heap.size + 1 ≤ j ∧ ¬ j = gq) ts x
  chg : Chg (fun k => k = g) w wr
  glt : g < w.heap.size
theorem OwnQ.chg {S : Nat → Prop} {w w' : World} {base gq cp : Nat} {us : List Value} (h : OwnQ w base gq cp us) (hc : Chg S w w') (hn : ¬ S gq) : OwnQ w' base gq cp us := own_chg h hc (fun k q => by simp [Value.ownBlock] at q; subst q; exact hn)
variable {p : ByteArray} {base g i o : Nat} {w : World} {k : Nat} {os : List (List Pat)} {us : List Value} {gq cp : Nat} {wr : World}
theorem AltJ.read {w' : World} {k' : Nat} (h : AltJ p base g i o w k os us gq cp wr) (hC : Chg (fun k => k = g) wr w') (hP : PrAt w' base g p k' o) :
    BoxAt w' w.heap.size 65 1 w.heap.size [.slice none 0 0] ∧ OwnQ w' (w.heap.size + 1) gq cp us ∧ (∀ (i : Nat) x ts, us[i]? = some x → os[i]? = some ts → SeqAt w' (fun j => w.heap.size + 1 ≤ j ∧ ¬ j = gq) ts x) ∧ Chg (fun k => k = g) w w' := by
  have hg := h.glt
  have hq := h.row.lt
  exact ⟨h.res.chg hC (by omega), h.row.chg hC (by omega), fun i x ts hx ht => (h.seqs i x ts hx ht).move hC (fun q hq => by subst hq; exact fun z => by have := z.1; omega) (fun q _ z => z), h.chg.trans hC⟩
/-- One option appended to the list of options. -/
theorem wpList_append_seq {ops : Array Oper} {rest : List Oper} {oo : Oper} {a : Act} {Q : Exit → Act → World → Prop} (w : World) (hgd : oo.guard = none) (s x : Operand)
    (ho : oo.op = .call { callee := .builtin .append, args := #[s, x], argTypes := #[63, 63] })
    (base gq cp n b : Nat) (us : List Value) (y : Value) (hs : a.eval s = .slice (some ⟨gq, 0, none⟩) n cp) (hx : a.eval x = .slice (some ⟨b, 0, none⟩) 1 1) (hn : n = us.length) (hO : OwnQ w base gq cp us)
    (hc : w.cell? ⟨b, 0, none⟩ = some y) (hy : y.oneCell' = true) (hlen : us.length ≤ 1000) (hbase : base ≤ w.heap.size)
    (h : ∀ g' cp' w', OwnQ w' base g' cp' (us ++ [y]) → w.grownBy w' (some gq) → (g' = gq ∨ g' = w.heap.size) → wpList Try.prog ops Q rest (a.put oo.dst (.slice (some ⟨g', 0, none⟩) (n + 1) cp')) w') : wpList Try.prog ops Q (oo :: rest) a w := by
  subst hn
  obtain ⟨i, hi, hz0, hz1, hz2⟩ := info_parts Try.infoSeq
  refine wpList_append_own_at w hgd s x 63 ho base 73 i _ 1 24 Try.underlying63 hi hz0 hz1 hz2 rfl (by decide) (.slice (some ⟨gq, 0, none⟩) us.length cp) us.length us hs hO ⟨b, 0, none⟩ 1 1 [y] hx rfl ?_ ?_ ?_ ?_ hbase ?_
  · intro j u hu
    have hj : j = 0 := by have := (List.getElem?_eq_some_iff.1 hu).1; simpa using this
    subst hj
    simp at hu
    rw [Addr.add_mid, ← hu]; exact hc
  · intro u hu
    simp at hu; subst hu; exact hy
  · unfold maxLen; omega
  · omega
  · intro v' w' hO' hgr hnil hat
    rcases hO'.2 with ⟨h0, _⟩ | ⟨g', cap', cur, hv, _, _, hn, hcap, _, _⟩
    · have := (hnil.1 h0).1
      cases this
    · subst hv
      refine h g' cap' w' ?_ hgr ?_
      · unfold OwnQ
        rw [List.length_append]
        exact hO'
      · simp [Value.ownBlock] at hat
        exact hat
theorem SeqAt.slice {w : World} {R : Nat → Prop} {ts : List Pat} {u : Value} (h : SeqAt w R ts u) : ∃ a n cp, u = .slice a n cp := by
  obtain ⟨n, h | ⟨g, cp, us, h1, _⟩⟩ := h
  · exact ⟨_, _, _, h.2⟩
  · exact ⟨_, _, _, h1⟩

set_option maxHeartbeats 8000000 in
theorem alt_of {p : ByteArray} {m : Nat} (H : SeqC p m) (hp : p.size ≤ 200) : AltC p m := by
  intro base g i o w hm hi ho h
  have hgl := h.lt.2
  obtain ⟨W0, hW0⟩ : ∃ W0 : World, W0 = w.alloc (Obj.cells #[.slice none 0 0] 65) := ⟨_, rfl⟩
  have HW0 : Hid (PrAt W0 base g p i o ∧ BoxAt W0 w.heap.size 65 1 w.heap.size [.slice none 0 0] ∧ Chg (fun k => k = g) w W0 ∧ W0.heap.size = w.heap.size + 1) := by
    have hb : Below w.heap.size w W0 := by rw [hW0]; exact (Below.refl _ _).alloc (Nat.le_refl _) _
    refine ⟨BoxAt.below h hb, ?_, Chg.of_below hb, by rw [hW0]; simp⟩
    rw [hW0]; exact boxAt_new w _ (Nat.le_refl _) rfl
  clear h
  go_enter Try.func46, Try.ntmps46
  go_upto_region 1 with fail
  rw [← hW0]
  clear hW0
  go_wp2_with fail
  refine (H base g i o W0 hm hi ho HW0.out.1).mono ?_
  rintro e w1 ⟨hC1, (⟨k, ts, u, hS, hE, rfl, hU, hP1⟩ | ⟨c, k, hc0, hk, rfl⟩)⟩
  case inr => exact ⟨rfl, HW0.out.2.2.1.trans hC1, .inr ⟨c, k, hc0, hk, rfl⟩⟩
  obtain ⟨ua, un, uc, rfl⟩ := hU.slice
  have hkp : i ≤ k ∧ k ≤ p.size := by have h1 := hS.le; have h2 := hS.lei; rw [sb_len] at h1; exact ⟨h2, h1⟩
  obtain ⟨W2, hW2⟩ : ∃ W2 : World, W2 = w1.alloc (Obj.cells #[.slice ua un uc] 73) := ⟨_, rfl⟩
  have HJ0 : Hid (AltJ p base g i o w k [ts] [.slice ua un uc] w1.heap.size 1 W2) := by
    have hb : Below w1.heap.size w1 W2 := by rw [hW2]; exact (Below.refl _ _).alloc (Nat.le_refl _) _
    have hz := HW0.out.2.2.2
    have hs := hC1.size
    refine ⟨AltOk.one hS, hE, BoxAt.below hP1 hb, (HW0.out.2.1.chg hC1 (by omega)).below hb, ?_, rfl, ?_, (HW0.out.2.2.1.trans hC1).trans (Chg.of_below hb), hgl⟩
    · rw [hW2]
      exact World.ownsRow_lit w1 #[.slice ua un uc] 1 (by omega) (by decide) rfl
    · intro j x ss hx hss
      have hj : j = 0 := by have := (List.getElem?_eq_some_iff.1 hx).1; simpa using this
      subst hj
      simp at hx hss
      subst hx hss
      exact hU.move (S := fun _ => False) (Chg.of_below hb) (fun q hq => hq.elim) (fun q hq z => ⟨by have := z.1; omega, by omega⟩)
  clear hC1 hS hE hU hP1 HW0
  go_wp2_with fail
  rw [← hW2]
  obtain ⟨gq0, hgq0⟩ : ∃ gq0, gq0 = w1.heap.size := ⟨_, rfl⟩
  rw [← hgq0] at HJ0
  rw [← hgq0]
  clear hW2 hgq0
  go_loopw [3] (fun sv wr => ∃ (k gq cp : Nat) (os : List (List Pat)) (us : List Value), i ≤ k ∧ k ≤ p.size ∧ us.length ≤ k + 1 ∧ sv = .slice (some ⟨gq, 0, none⟩) us.length cp ∧ AltJ p base g i o w k os us gq cp wr) (fun _ wr => p.size - atOf wr g)
  case atStart => exact ⟨k, gq0, 1, [ts], [.slice ua un uc], hkp.1, hkp.2, by simp, rfl, HJ0.out⟩
  case round =>
    obtain ⟨k, gq, cp, os, us, hik, hkp, hul, rfl, hJ⟩ := hrel
    have HJ : Hid (AltJ p base g i o w k os us gq cp wr ∧ atOf wr g = k) := ⟨hJ, atOf_pr hJ.rd⟩
    clear hJ HJ0
    go_wp2_with fail
    refine (pskip_core 124 HJ.out.1.rd hp).mono ?_
    rintro e w3 ⟨hC3, (⟨hx, rfl, hP3⟩ | ⟨hx, rfl, hP3⟩)⟩
    · have hk1 : k + 1 ≤ p.size := by have := lt_of_at hx; rw [sb_len] at this; omega
      have HX : Hid ((sb p)[k]? = some 124 ∧ PrAt w3 base g p (k + 1) o ∧ BoxAt w3 w.heap.size 65 1 w.heap.size [.slice none 0 0] ∧ OwnQ w3 (w.heap.size + 1) gq cp us ∧ (∀ (i : Nat) x ts, us[i]? = some x → os[i]? = some ts → SeqAt w3 (fun j => w.heap.size + 1 ≤ j ∧ ¬ j = gq) ts x) ∧ Chg (fun k => k = g) w w3) := ⟨hx, hP3, HJ.out.1.read hC3 hP3⟩
      have HOk : Hid (AltOk (sb p) o i k os ∧ us.length = os.length ∧ atOf wr g = k) := ⟨HJ.out.1.ok, HJ.out.1.len, HJ.out.2⟩
      clear hC3 hx hP3 HJ
      go_wp2_with fail
      refine (H base g (k + 1) o w3 (by omega) hk1 ho HX.out.2.1).mono ?_
      rintro e w4 ⟨hC4, (⟨k4, ts4, u4, hS4, hE4, rfl, hU4, hP4⟩ | ⟨c, k4, hc0, hk4, rfl⟩)⟩
      case inr =>
        refine ⟨rfl, HX.out.2.2.2.2.2.trans hC4, .inr ⟨c, k4, hc0, ?_, rfl⟩⟩
        rw [HOk.out.1.chk, chk_bar HX.out.1, hk4]
      obtain ⟨ua4, un4, uc4, rfl⟩ := hU4.slice
      have hk4p : k + 1 ≤ k4 ∧ k4 ≤ p.size := by have h1 := hS4.le; have h2 := hS4.lei; rw [sb_len] at h1; exact ⟨h2, h1⟩
      obtain ⟨W5, hW5⟩ : ∃ W5 : World, W5 = w4.alloc (Obj.cells #[.slice ua4 un4 uc4] 73) := ⟨_, rfl⟩
      have HW5 : Hid (AltOk (sb p) o i k4 (os ++ [ts4]) ∧ (∀ c, (sb p)[k4]? = some c → isEnd c) ∧ PrAt W5 base g p k4 o ∧ BoxAt W5 w.heap.size 65 1 w.heap.size [.slice none 0 0] ∧ OwnQ W5 (w.heap.size + 1) gq cp us ∧ (∀ (i : Nat) x ts, (us ++ [.slice ua4 un4 uc4])[i]? = some x → (os ++ [ts4])[i]? = some ts → SeqAt W5 (fun j => w.heap.size + 1 ≤ j ∧ ¬ j = gq) ts x) ∧ Chg (fun k => k = g) w W5 ∧ W5.cell? ⟨w4.heap.size, 0, none⟩ = some (.slice ua4 un4 uc4) ∧ w.heap.size + 1 ≤ W5.heap.size) := by
        have hb : Below w4.heap.size w4 W5 := by rw [hW5]; exact (Below.refl _ _).alloc (Nat.le_refl _) _
        have hq := HX.out.2.2.2.1.lt
        have hs4 := hC4.size
        have hsb := hb.size
        have hc : Chg (fun k => k = g) w3 W5 := hC4.trans (Chg.of_below hb)
        refine ⟨AltOk.more HOk.out.1 HX.out.1 hS4, hE4, BoxAt.below hP4 hb, HX.out.2.2.1.chg hc (by omega), HX.out.2.2.2.1.chg hc (by omega), ?_, HX.out.2.2.2.2.2.trans hc, by rw [hW5]; simp, by omega⟩
        intro j y s hy hs
        rcases snoc_at hy with hy | ⟨hj, rfl⟩
        · rcases snoc_at hs with hs | ⟨hj, rfl⟩
          · exact (HX.out.2.2.2.2.1 j y s hy hs).move hc (fun q hq => by subst hq; exact fun z => by have := z.1; omega) (fun q _ z => z)
          · have := (List.getElem?_eq_some_iff.1 hy).1
            have := HOk.out.2.1
            omega
        · rcases snoc_at hs with hs | ⟨_, rfl⟩
          · have := (List.getElem?_eq_some_iff.1 hs).1
            have := HOk.out.2.1
            omega
          · exact hU4.move (S := fun _ => False) (Chg.of_below hb) (fun q hq => hq.elim) (fun q _ z => ⟨by have := z.1; omega, fun e => by have := z.1; omega⟩)
      clear hC4 hS4 hE4 hU4 hP4 HX
      go_wp2_with (at_builtin; rw [← hW5]; refine wpList_append_seq _ rfl _ _ rfl (w.heap.size + 1) gq cp us.length w4.heap.size us (.slice ua4 un4 uc4) rfl rfl rfl ?hO ?hc rfl ?hl ?hb ?_)
      case hO => exact HW5.out.2.2.2.2.1
      case hc => exact HW5.out.2.2.2.2.2.2.2.1
      case hl => omega
      case hb => exact HW5.out.2.2.2.2.2.2.2.2
      intro g6 cp6 w6 hO6 hgr6 hat6
      rw [← hW5] at hgr6
      have hz5 : W5.heap.size = w4.heap.size + 1 := by rw [hW5]; simp
      have HJ6 : Hid (AltJ p base g i o w k4 (os ++ [ts4]) (us ++ [.slice ua4 un4 uc4]) g6 cp6 w6) := by
        have hq := HW5.out.2.2.2.2.1.lt
        have hc : Chg (fun j => j = gq) W5 w6 := Chg.of_grown hgr6 (fun j hj => by cases hj; rfl)
        refine ⟨HW5.out.1, HW5.out.2.1, BoxAt.chg HW5.out.2.2.1 hc (by omega), HW5.out.2.2.2.1.chg hc (by omega), hO6, by rw [List.length_append, List.length_append, HOk.out.2.1]; rfl, ?_, HW5.out.2.2.2.2.2.2.1.absorb hc (fun j q => .inr (by omega)), hgl⟩
        intro j y s hy hs
        exact (HW5.out.2.2.2.2.2.1 j y s hy hs).move hc (fun q hq z => z.2 hq) (fun q hq z => ⟨z.1, fun e => by rcases hat6 with r | r; exact z.2 (by omega); omega⟩)
      clear hO6 hgr6 hat6 hW5 HW5
      go_wp2_with fail
      go_roundw
      case rel => exact ⟨k4, g6, cp6, os ++ [ts4], us ++ [.slice ua4 un4 uc4], by omega, hk4p.2, by rw [List.length_append]; simp; omega, by rw [List.length_append]; rfl, HJ6.out⟩
      case measure => rw [HOk.out.2.2, atOf_pr HJ6.out.rd]; omega
    · have HX : Hid (AltOk (sb p) o i k os ∧ (∀ c, (sb p)[k]? = some c → isEnd c ∧ ¬ c = 124) ∧ us.length = os.length) := ⟨HJ.out.1.ok, fun c hc => ⟨HJ.out.1.nxt c hc, fun q => by subst q; exact hx hc⟩, HJ.out.1.len⟩
      have HR := HJ.out.1.read hC3 hP3
      have HF : Hid (PrAt w3 base g p k o ∧ BoxAt w3 w.heap.size 65 1 w.heap.size [.slice none 0 0] ∧ OwnQ w3 (w.heap.size + 1) gq cp us ∧ (∀ (i : Nat) x ts, us[i]? = some x → os[i]? = some ts → SeqAt w3 (fun j => w.heap.size + 1 ≤ j ∧ ¬ j = gq) ts x) ∧ Chg (fun k => k = g) w w3) := ⟨hP3, HR⟩
      clear HR hC3 hx hP3 HJ
      have r0 := HF.out.2.1.cell (j := 0) rfl
      have rf := HF.out.2.1.frozen 0
      go_wp2_with fail
      refine bodyPost_ret (v := .agg #[.slice (some ⟨gq, 0, none⟩) us.length cp]) (by simp [results, Try.results46, go_sem, World.cell?_setCell_same _ _ _ r0]) rfl ?_
      have hc := Chg.of_set w3 w.heap.size 0 (.slice (some ⟨gq, 0, none⟩) us.length cp) (S := fun j => j = w.heap.size) rfl
      have hq := HF.out.2.2.1.lt
      refine ⟨HF.out.2.2.2.2.absorb hc (fun j q => .inr (by omega)), .inl ⟨k, os, _, HX.out.1, HX.out.2.1, rfl, ?_, BoxAt.chg HF.out.1 hc (by omega)⟩⟩
      obtain ⟨n, hn⟩ := seqs_one HX.out.2.2 (fun i x ts hx ht => (HF.out.2.2.2.1 i x ts hx ht).move (S := fun _ => False) (Chg.refl _ _) (fun _ q => q.elim) (lo' := fun j => w.heap.size + 1 ≤ j) (fun _ _ q => q.1))
      have hA : AltAt w3 (fun j => w.heap.size + 1 ≤ j) os (.slice (some ⟨gq, 0, none⟩) us.length cp) := ⟨n, gq, cp, us, by rw [HX.out.2.2], HX.out.2.2, HF.out.2.2.1.vals hq.1, hn⟩
      exact hA.move hc (fun j q => by subst q; exact fun z => by omega) (fun j hj z => ⟨by omega, by have := hc.size; omega⟩)

theorem alt_all {p : ByteArray} (hp : p.size ≤ 200) : ∀ m, AtomC p m ∧ AltC p m
  | 0 => by
    have h0 : AtomC p 0 := fun base g i o w hm hi => by omega
    exact ⟨h0, alt_of (seq_of (rep_of h0 hp) hp) hp⟩
  | m + 1 => by
    have h1 := atom_of (alt_all hp m).2 hp
    exact ⟨h1, alt_of (seq_of (rep_of h1 hp) hp) hp⟩
theorem alt_core {p : ByteArray} (hp : p.size ≤ 200) (base g i o : Nat) (w : World) (hi : i ≤ p.size) (ho : o ≤ 20) (h : PrAt w base g p i o) : Calls Try.prog 46 #[.pointer (some ⟨g, 0, none⟩)] w (AltPost p base g i o w) :=
  (alt_all hp (p.size - i)).2 base g i o w (Nat.le_refl _) hi ho h
end Go.Proofs.Ytnncedndlhfdkaa

/-
  impl.placedFaultOf, impl.readPattern.
-/
namespace Go.Proofs.Ytnncedndlhfdkaa
open Go.ChangeShapes Go.WideShapes Go.ChangeAt Go.RowKit Go.Deep
set_option linter.unusedVariables false
set_option linter.unusedSimpArgs false
set_option maxRecDepth 100000

theorem pf_assert (c a : Int) (w : World) : (Instr.typeAssert (pfV c a) 20 81 true).run Try.prog w = .ok (.tuple #[.agg #[.int .i64 c, .int .i64 a], .bool true]) w := by kernel_rfl
set_option maxHeartbeats 2000000 in
theorem pfOf_nil (w : World) : Calls Try.prog 45 #[.nilIface] w fun e w' => e = .returned (.agg #[.int .i64 0, .int .i64 0]) ∧ Below w.heap.size w w' := by
  go_enter Try.func45, Try.ntmps45
  go_wp2_with fail
  refine bodyPost_ret (v := .agg #[.int .i64 0, .int .i64 0]) (by simp [results, Try.results45, go_sem]) rfl ⟨rfl, ?_⟩
  exact (Below.refl _ _).alloc (Nat.le_refl _) _
set_option maxHeartbeats 2000000 in
theorem pfOf_pf (c a : Int) (w : World) : Calls Try.prog 45 #[pfV c a] w fun e w' => e = .returned (.agg #[.int .i64 c, .int .i64 a]) ∧ Below w.heap.size w w' := by
  have hta := pf_assert
  obtain ⟨W, hW⟩ : ∃ W : World, W = w.alloc (Obj.cells #[.int .i64 0, .int .i64 0] 81) := ⟨_, rfl⟩
  have HW : Hid (BoxAt W w.heap.size 81 2 w.heap.size [.int .i64 0, .int .i64 0] ∧ Below w.heap.size w W) := by
    rw [hW]; exact ⟨boxAt_new w _ (Nat.le_refl _) rfl, (Below.refl _ _).alloc (Nat.le_refl _) _⟩
  obtain ⟨W2, hW2⟩ : ∃ W2 : World, W2 = W.alloc (Obj.cells #[.int .i64 c, .int .i64 a] 81) := ⟨_, rfl⟩
  have HW2 : Hid (BoxAt W2 w.heap.size 81 2 w.heap.size [.int .i64 0, .int .i64 0] ∧ BoxAt W2 w.heap.size 81 2 W.heap.size [.int .i64 c, .int .i64 a] ∧ Below w.heap.size w W2) := by
    have hb : Below W.heap.size W W2 := by rw [hW2]; exact (Below.refl _ _).alloc (Nat.le_refl _) _
    refine ⟨HW.out.1.below hb, ?_, HW.out.2.trans (hb.mono HW.out.2.size)⟩
    rw [hW2]; exact boxAt_new W _ HW.out.2.size rfl
  go_enter Try.func45, Try.ntmps45
  go_upto_region 1 with fail
  rw [← hW]
  clear hW
  go_upto_region 7 with fail
  rw [← hW2]
  clear hW2 hta
  have b0 := HW2.out.2.1.cell (j := 0) rfl
  have b1 := HW2.out.2.1.cell (j := 1) rfl
  have r0 := HW2.out.1.cell (j := 0) rfl
  have r1 := HW2.out.1.cell (j := 1) rfl
  have f0 := HW2.out.1.frozen 0
  have f1 := HW2.out.1.frozen 1
  have hbx := (HW2.out.1.set 0 (.int .i64 c)).set 1 (.int .i64 a)
  have p0 := hbx.cell (j := 0) rfl
  have p1 := hbx.cell (j := 1) rfl
  obtain ⟨W3, hW3⟩ : ∃ W3 : World, W3 = (W2.setCell ⟨w.heap.size, 0, none⟩ (.int .i64 c)).setCell ⟨w.heap.size, 1, none⟩ (.int .i64 a) := ⟨_, rfl⟩
  rw [← hW3] at p0 p1
  have HB3 : Hid (Below w.heap.size w W3) := by
    show Below w.heap.size w W3
    rw [hW3]; exact below_set (below_set HW2.out.2.2 (Nat.le_refl _) 0 _) (Nat.le_refl _) 1 _
  clear hbx
  go_wp2_with fail
  rw [← hW3]
  refine bodyPost_ret (v := .agg #[.int .i64 c, .int .i64 a]) (by simp [results, Try.results45, go_sem, p0, p1]) rfl ⟨rfl, HB3.out⟩

set_option maxHeartbeats 4000000 in
theorem rp_catch (base rb eb : Nat) (c a : Int) (older : List PanicEntry) (w : World) (hc : ¬ c = 0) (x : Value) (hr : BoxAt w base 65 1 rb [x]) (he : BoxAt w base 46 2 eb [.int .i64 0, .int .i64 0]) (hne : ¬ rb = eb) :
    CallsD Try.prog 44 #[.pointer (some ⟨rb, 0, none⟩), .pointer (some ⟨eb, 0, none⟩)] (.panicking ({ v := pfV c a, recovered := false } :: older)) w fun e u' w' =>
      e = .returned (.tuple #[]) ∧ u' = .panicking ({ v := pfV c a, recovered := true } :: older) ∧ BoxAt w' base 65 1 rb [.slice none 0 0] ∧ BoxAt w' base 46 2 eb [.int .i64 c, .int .i64 a] ∧ Chg (fun k => k = rb ∨ k = eb) w w' := by
  refine callsD_of_wpS Try.func44 rfl fun c₀ cs hu => ?_
  apply wpS_seq
  apply wpS_region
  simp [wpOpsS, go_sem, recoverD, hu, Try.ntmps44, Exit.thenS]
  refine (pfOf_pf c a w).mono ?_
  rintro e w1 ⟨rfl, hb1⟩
  simp [wpOpsS, go_sem]
  have ht : #[Value.pointer (some ⟨rb, 0, none⟩), Value.pointer (some ⟨eb, 0, none⟩)] ++ (((Array.replicate 12 undef).setIfInBounds 1 (pfV c a)).setIfInBounds 2 (Value.agg #[Value.int IntKind.i64 c, Value.int IntKind.i64 a])).setIfInBounds 0 (Value.pointer (some ⟨w1.heap.size, 0, none⟩)) = #[.pointer (some ⟨rb, 0, none⟩), .pointer (some ⟨eb, 0, none⟩), .pointer (some ⟨w1.heap.size, 0, none⟩), pfV c a, .agg #[.int .i64 c, .int .i64 a], undef, undef, undef, undef, undef, undef, undef, undef, undef] := by rfl
  rw [ht]
  clear ht
  obtain ⟨W2, hW2⟩ : ∃ W2 : World, W2 = w1.alloc (Obj.cells #[.int .i64 c, .int .i64 a] 81) := ⟨_, rfl⟩
  have hb2 : Below w1.heap.size w1 W2 := by rw [hW2]; exact (Below.refl _ _).alloc (Nat.le_refl _) _
  have HB : Hid (BoxAt W2 base 65 1 rb [x] ∧ BoxAt W2 base 46 2 eb [.int .i64 0, .int .i64 0] ∧ Chg (fun k => k = rb ∨ k = eb) w W2) :=
    ⟨(hr.below hb1).below hb2, (he.below hb1).below hb2, (Chg.of_below hb1).trans (Chg.of_below hb2)⟩
  have d0 : W2.cell? ⟨w1.heap.size, 0, none⟩ = some (.int .i64 c) := by rw [hW2]; simp
  have d1 : W2.cell? ⟨w1.heap.size, 1, none⟩ = some (.int .i64 a) := by rw [hW2]; simp
  have hrl := (hr.below hb1).lt.2
  have hel := (he.below hb1).lt.2
  obtain ⟨FB, hFB⟩ : ∃ FB, FB = w1.heap.size := ⟨_, rfl⟩
  rw [← hW2]
  rw [← hFB] at d0 d1 ⊢
  have n1 : ¬ FB = rb := by omega
  have n2 : ¬ FB = eb := by omega
  clear hW2 hFB hb1 hb2 hr he hrl hel
  have r0 := HB.out.1.cell (j := 0) rfl
  have rf := HB.out.1.frozen 0
  have e0 := HB.out.2.1.cell (j := 0) rfl
  have e1 := HB.out.2.1.cell (j := 1) rfl
  have f0 := HB.out.2.1.frozen 0
  have f1 := HB.out.2.1.frozen 1
  have n3 : ¬ eb = rb := fun q => hne q.symm
  have HF : ∀ w' : World, Below W2.heap.size W2 w' → BoxAt (((w'.setCell ⟨rb, 0, none⟩ (.slice none 0 0)).setCell ⟨eb, 0, none⟩ (.int .i64 c)).setCell ⟨eb, 1, none⟩ (.int .i64 a)) base 65 1 rb [.slice none 0 0] ∧ BoxAt (((w'.setCell ⟨rb, 0, none⟩ (.slice none 0 0)).setCell ⟨eb, 0, none⟩ (.int .i64 c)).setCell ⟨eb, 1, none⟩ (.int .i64 a)) base 46 2 eb [.int .i64 c, .int .i64 a] ∧ Chg (fun k => k = rb ∨ k = eb) w (((w'.setCell ⟨rb, 0, none⟩ (.slice none 0 0)).setCell ⟨eb, 0, none⟩ (.int .i64 c)).setCell ⟨eb, 1, none⟩ (.int .i64 a)) := fun w' hb => by
    refine ⟨((((HB.out.1.below hb).set 0 _).beside hne 0 _).beside hne 1 _), ((((HB.out.2.1.below hb).beside n3 0 _).set 0 _).set 1 _), ((((HB.out.2.2.trans (Chg.of_below hb)).trans (Chg.of_set _ rb 0 _ (.inl rfl))).trans (Chg.of_set _ eb 0 _ (.inr rfl))).trans (Chg.of_set _ eb 1 _ (.inr rfl)))⟩
  have HFF : Hid (∀ w' : World, Below W2.heap.size W2 w' → BoxAt (((w'.setCell ⟨rb, 0, none⟩ (.slice none 0 0)).setCell ⟨eb, 0, none⟩ (.int .i64 c)).setCell ⟨eb, 1, none⟩ (.int .i64 a)) base 65 1 rb [.slice none 0 0] ∧ BoxAt (((w'.setCell ⟨rb, 0, none⟩ (.slice none 0 0)).setCell ⟨eb, 0, none⟩ (.int .i64 c)).setCell ⟨eb, 1, none⟩ (.int .i64 a)) base 46 2 eb [.int .i64 c, .int .i64 a] ∧ Chg (fun k => k = rb ∨ k = eb) w (((w'.setCell ⟨rb, 0, none⟩ (.slice none 0 0)).setCell ⟨eb, 0, none⟩ (.int .i64 c)).setCell ⟨eb, 1, none⟩ (.int .i64 a))) := HF
  clear HF
  refine wpS_of_wp ?_
  go_upto_region 2 with fail
  go_region
  all_goals go_wp2_with fail
  have hfin := HFF.out W2 (Below.refl _ _)
  have hdr : ∀ X : World, Below X.heap.size X X.drew := fun X => (Below.refl _ _).drew
  exact ⟨rfl, _, rfl, _, by simp [results, Try.results44], rfl, rfl, hfin.1.below (hdr _), hfin.2.1.below (hdr _), hfin.2.2.trans (Chg.of_below (hdr _))⟩

set_option maxHeartbeats 4000000 in
theorem rp_idle (rb eb : Nat) (w : World) :
    CallsD Try.prog 44 #[.pointer (some ⟨rb, 0, none⟩), .pointer (some ⟨eb, 0, none⟩)] .returning w fun e u' w' => e = .returned (.tuple #[]) ∧ u' = .returning ∧ Below w.heap.size w w' := by
  refine callsD_of_wpS Try.func44 rfl fun c₀ cs hu => ?_
  apply wpS_seq
  apply wpS_region
  simp [wpOpsS, go_sem, recoverD, hu, Try.ntmps44, Exit.thenS]
  refine (pfOf_nil w).mono ?_
  rintro e w1 ⟨rfl, hb1⟩
  simp [wpOpsS, go_sem]
  have ht : #[Value.pointer (some ⟨rb, 0, none⟩), Value.pointer (some ⟨eb, 0, none⟩)] ++ (((Array.replicate 12 undef).setIfInBounds 1 .nilIface).setIfInBounds 2 (Value.agg #[Value.int IntKind.i64 0, Value.int IntKind.i64 0])).setIfInBounds 0 (Value.pointer (some ⟨w1.heap.size, 0, none⟩)) = #[.pointer (some ⟨rb, 0, none⟩), .pointer (some ⟨eb, 0, none⟩), .pointer (some ⟨w1.heap.size, 0, none⟩), .nilIface, .agg #[.int .i64 0, .int .i64 0], undef, undef, undef, undef, undef, undef, undef, undef, undef] := by rfl
  rw [ht]
  clear ht
  have HB : Hid (Below w.heap.size w (w1.alloc (Obj.cells #[.int .i64 0, .int .i64 0] 81))) := hb1.trans ((Below.refl _ _).alloc hb1.size _)
  clear hb1
  refine wpS_of_wp ?_
  go_wp2_with fail
  refine ⟨rfl, .returning, ?_, _, by simp [results, Try.results44], rfl, rfl, HB.out⟩
  cases c₀
  simp_all

/-- What the check of a pattern comes to. -/
def checkM (p : List UInt8) : Int × Nat := if 200 < p.length then (1, 0) else chkM p 0 0 false
/-- What readPattern hands back. -/
def ReadPost (p : ByteArray) (w : World) (e : Ending) (w' : World) : Prop :=
  ∃ u : Value, e = .returned (.tuple #[.agg #[u], .agg #[.int .i64 (checkM (sb p)).1, .int .i64 ((checkM (sb p)).2 : Int)]]) ∧ Below w.heap.size w w' ∧
    (((checkM (sb p)).1 = 0 ∧ ∃ os, AltOk (sb p) 0 0 p.size os ∧ AltAt w' (Bet w.heap.size w'.heap.size) os u) ∨ (¬ (checkM (sb p)).1 = 0 ∧ u = .slice none 0 0))
theorem rp_res {base rb eb : Nat} {w : World} {a : Act} {u x y : Value} (hu : u.oneCell' = true) (ht : a.tmps.getD 2 undef = .pointer (some ⟨rb, 0, none⟩)) (ht2 : a.tmps.getD 3 undef = .pointer (some ⟨eb, 0, none⟩)) (hr : BoxAt w base 65 1 rb [u]) (he : BoxAt w base 46 2 eb [x, y]) :
    (results Try.f36 a.tmps).run Try.prog w = .ok (.tuple #[.agg #[u], .agg #[x, y]]) w := by
  have p0 := hr.cell (j := 0) rfl
  have q0 := he.cell (j := 0) rfl
  have q1 := he.cell (j := 1) rfl
  have h1 : a.tmps[2]?.getD undef = .pointer (some ⟨rb, 0, none⟩) := by rw [← Array.getD_eq_getD_getElem?]; exact ht
  have h2 : a.tmps[3]?.getD undef = .pointer (some ⟨eb, 0, none⟩) := by rw [← Array.getD_eq_getD_getElem?]; exact ht2
  simp [results, Try.results36, go_sem, h1, h2, p0, q0, q1]
/-- Every panic of readPattern ends in its fault. -/
theorem rp_dies (p : ByteArray) (w wq : World) (a : Act) (c : Int) (k rb eb : Nat) (x : Value) (hrb : w.heap.size ≤ rb) (heb : w.heap.size ≤ eb) (hne : ¬ rb = eb) (hd : a.defers = [{ target := Target.fn (Fn.func 44) #[.pointer (some ⟨rb, 0, none⟩), .pointer (some ⟨eb, 0, none⟩)], args := #[] }])
    (ht : a.tmps.getD 2 undef = .pointer (some ⟨rb, 0, none⟩)) (ht2 : a.tmps.getD 3 undef = .pointer (some ⟨eb, 0, none⟩)) (hM : checkM (sb p) = (c, k)) (hc : ¬ c = 0) (hr : BoxAt wq w.heap.size 65 1 rb [x]) (he : BoxAt wq w.heap.size 46 2 eb [.int .i64 0, .int .i64 0]) (hB : Below w.heap.size w wq) :
    bodyPostD Try.prog Try.f36 (fun e w' => ReadPost p w e w') (.panic [{ v := pfV c k, recovered := false }]) a wq := by
  show Leaves Try.prog Try.f36 a.tmps (fun e w' => ReadPost p w e w') a.defers (.panicking [{ v := pfV c k, recovered := false }]) wq
  rw [hd]
  refine leaves_cons (f := 44) (args := #[.pointer (some ⟨rb, 0, none⟩), .pointer (some ⟨eb, 0, none⟩)]) (by simp) (by simp [go_sem]) ?_
  refine (rp_catch w.heap.size rb eb c k [] wq hc x hr he hne).mono ?_
  rintro e u' w'' ⟨rfl, rfl, hr2, he2, hC⟩
  show Leaves Try.prog Try.f36 a.tmps (fun e w' => ReadPost p w e w') [] (settle (.panicking [{ v := pfV c k, recovered := true }])) _
  refine ⟨_, rp_res rfl ht ht2 hr2 he2, .slice none 0 0, by rw [hM], Chg.below hB hC hB.size (fun j q => by omega), .inr ⟨by rw [hM]; exact hc, rfl⟩⟩
theorem rp_done (p : ByteArray) (w wq : World) (a : Act) (rb eb : Nat) (u : Value) (os : List (List Pat)) (hu : u.oneCell' = true) (hd : a.defers = [{ target := Target.fn (Fn.func 44) #[.pointer (some ⟨rb, 0, none⟩), .pointer (some ⟨eb, 0, none⟩)], args := #[] }])
    (ht : a.tmps.getD 2 undef = .pointer (some ⟨rb, 0, none⟩)) (ht2 : a.tmps.getD 3 undef = .pointer (some ⟨eb, 0, none⟩)) (hM : checkM (sb p) = (0, 0)) (hA : AltOk (sb p) 0 0 p.size os) (hU : AltAt wq (Bet w.heap.size wq.heap.size) os u) (hr : BoxAt wq w.heap.size 65 1 rb [u]) (he : BoxAt wq w.heap.size 46 2 eb [.int .i64 0, .int .i64 0]) (hB : Below w.heap.size w wq) :
    bodyPostD Try.prog Try.f36 (fun e w' => ReadPost p w e w') .ret a wq := by
  show Leaves Try.prog Try.f36 a.tmps (fun e w' => ReadPost p w e w') a.defers .returning wq
  rw [hd]
  refine leaves_cons (f := 44) (args := #[.pointer (some ⟨rb, 0, none⟩), .pointer (some ⟨eb, 0, none⟩)]) (by simp) (by simp [go_sem]) ?_
  refine (rp_idle rb eb wq).mono ?_
  rintro e u' w'' ⟨rfl, rfl, hb⟩
  show Leaves Try.prog Try.f36 a.tmps (fun e w' => ReadPost p w e w') [] (settle .returning) w''
  refine ⟨_, rp_res hu ht ht2 (hr.below hb) (he.below hb), u, by rw [hM]; rfl, hB.trans (hb.mono hB.size), .inl ⟨by rw [hM], os, hA, hU.move (S := fun _ => False) (Chg.of_below hb) (fun q hq => hq.elim) (fun q hq z => ⟨z.1, by have := hb.size; omega⟩)⟩⟩
end Go.Proofs.Ytnncedndlhfdkaa

/-
  impl.readPattern, impl.CheckRegex.
-/
namespace Go.Proofs.Ytnncedndlhfdkaa
open Go.ChangeShapes Go.WideShapes Go.ChangeAt Go.RowKit Go.Deep
set_option linter.unusedVariables false
set_option linter.unusedSimpArgs false
set_option maxRecDepth 100000

set_option maxHeartbeats 4000000 in
theorem readPattern_core (p : ByteArray) (w : World) (hpm : p.size ≤ maxLen) : Calls Try.prog 36 #[.string p] w fun e w' => ReadPost p w e w' := by
  have hmf : ∀ (fn : Fn) (first cap : Array Value) (w : World), (Instr.makeFunc fn first cap).run Try.prog w = .ok (.func fn first cap) w := fun _ _ _ _ => rfl
  obtain ⟨W0, hW0⟩ : ∃ W0 : World, W0 = (w.alloc (Obj.cells #[.slice none 0 0] 65)).alloc (Obj.cells #[.int .i64 0, .int .i64 0] 46) := ⟨_, rfl⟩
  have HW0 : Hid (BoxAt W0 w.heap.size 65 1 w.heap.size [.slice none 0 0] ∧ BoxAt W0 w.heap.size 46 2 (w.heap.size + 1) [.int .i64 0, .int .i64 0] ∧ Below w.heap.size w W0 ∧ W0.heap.size = w.heap.size + 2) := by
    rw [hW0]
    refine ⟨BoxAt.ofHeap (vs := #[.slice none 0 0]) (heap_alloc2_old w _ _) (Nat.le_refl _) rfl, BoxAt.ofHeap (vs := #[.int .i64 0, .int .i64 0]) (heap_alloc2_new w _ _) (by omega) rfl, ((Below.refl _ _).alloc (Nat.le_refl _) _).alloc (by simp) _, by simp⟩
  unfold maxLen at hpm
  by_cases hp : 200 < p.size
  · have HM : Hid (checkM (sb p) = (1, 0)) := by
      show checkM (sb p) = _
      unfold checkM; rw [if_pos (by rw [sb_len]; exact hp)]
    have z : ¬ (p.size : Int) ≤ 200 := by omega
    have z2 : (200 : Int) < (p.size : Int) := by omega
    go_enter_defers Try.func36, Try.ntmps36
    go_upto_region 1 with fail
    rw [← hW0]
    clear hW0
    have r0 := HW0.out.1.cell (j := 0) rfl
    have rf := HW0.out.1.frozen 0
    have e0 := HW0.out.2.1.cell (j := 0) rfl
    have e1 := HW0.out.2.1.cell (j := 1) rfl
    have f0 := HW0.out.2.1.frozen 0
    have f1 := HW0.out.2.1.frozen 1
    obtain ⟨W1, hW1⟩ : ∃ W1 : World, W1 = ((W0.setCell ⟨w.heap.size, 0, none⟩ (.slice none 0 0)).setCell ⟨w.heap.size + 1, 0, none⟩ (.int .i64 1)).setCell ⟨w.heap.size + 1, 1, none⟩ (.int .i64 0) := ⟨_, rfl⟩
    have HW1 : Hid (BoxAt W1 w.heap.size 65 1 w.heap.size [.slice none 0 0] ∧ BoxAt W1 w.heap.size 46 2 (w.heap.size + 1) [.int .i64 1, .int .i64 0] ∧ Below w.heap.size w W1) := by
      rw [hW1]
      exact ⟨(((HW0.out.1.set 0 _).beside (by omega) 0 _).beside (by omega) 1 _), (((HW0.out.2.1.beside (by omega) 0 _).set 0 _).set 1 _), below_set (below_set (below_set HW0.out.2.2.1 (Nat.le_refl _) 0 _) (by omega) 0 _) (by omega) 1 _⟩
    go_wp2_with fail
    rw [← hW1]
    show Leaves Try.prog Try.f36 _ (fun e w' => ReadPost p w e w') [] .returning W1
    refine ⟨_, rp_res (a := { tmps := _, defers := [] }) rfl rfl rfl HW1.out.1 HW1.out.2.1, .slice none 0 0, by rw [HM.out]; rfl, HW1.out.2.2, .inr ⟨by rw [HM.out]; decide, rfl⟩⟩
  have hp2 : p.size ≤ 200 := by omega
  have HM : Hid (checkM (sb p) = chkM (sb p) 0 0 false) := by
    show checkM (sb p) = _
    unfold checkM; rw [if_neg (by rw [sb_len]; exact hp)]
  have z : (p.size : Int) ≤ 200 := by omega
  obtain ⟨W1, hW1⟩ : ∃ W1 : World, W1 = W0.alloc (Obj.cells #[.string p, .int .i64 0, .int .i64 0] 84) := ⟨_, rfl⟩
  have HW1 : Hid (BoxAt W1 w.heap.size 65 1 w.heap.size [.slice none 0 0] ∧ BoxAt W1 w.heap.size 46 2 (w.heap.size + 1) [.int .i64 0, .int .i64 0] ∧ PrAt W1 w.heap.size (w.heap.size + 2) p 0 0 ∧ Below w.heap.size w W1 ∧ W1.heap.size = w.heap.size + 3) := by
    have hb : Below W0.heap.size W0 W1 := by rw [hW1]; exact (Below.refl _ _).alloc (Nat.le_refl _) _
    have hz := HW0.out.2.2.2
    refine ⟨HW0.out.1.below hb, HW0.out.2.1.below hb, ?_, HW0.out.2.2.1.trans (hb.mono (by omega)), by rw [hW1]; simp; omega⟩
    rw [hW1, ← hz]
    exact boxAt_new W0 #[.string p, .int .i64 0, .int .i64 0] (by omega) rfl
  go_enter_defers Try.func36, Try.ntmps36
  go_upto_region 1 with fail
  rw [← hW0]
  have hz0 : W0.heap.size = w.heap.size + 2 := HW0.out.2.2.2
  clear hW0 HW0
  go_upto_region 5 with fail
  rw [← hW1]
  clear hW1 hz0
  go_wp2_with fail
  refine (alt_core hp2 w.heap.size (w.heap.size + 2) 0 0 W1 (Nat.zero_le _) (Nat.zero_le _) HW1.out.2.2.1).mono ?_
  rintro e w2 ⟨hC2, (⟨k, os, u, hA, hN, rfl, hU, hP2⟩ | ⟨c, k, hc, hk, rfl⟩)⟩
  case inr =>
    have hb2 : Below w.heap.size w w2 := Chg.below HW1.out.2.2.2.1 hC2 HW1.out.2.2.2.1.size (fun j q => by omega)
    exact rp_dies p w w2 _ c k w.heap.size (w.heap.size + 1) _ (Nat.le_refl _) (by omega) (by omega) rfl rfl rfl (by rw [HM.out, hk]) hc (HW1.out.1.chg hC2 (by omega)) (HW1.out.2.1.chg hC2 (by omega)) hb2
  obtain ⟨gu, nu, cu, rfl⟩ := hU.slice
  have hkp : k ≤ p.size := by have := hA.le; rw [sb_len] at this; exact this
  have HA : Hid (AltOk (sb p) 0 0 k os ∧ (∀ c, (sb p)[k]? = some c → isEnd c ∧ ¬ c = 124)) := ⟨hA, hN⟩
  have HW2 : Hid (BoxAt w2 w.heap.size 65 1 w.heap.size [.slice none 0 0] ∧ BoxAt w2 w.heap.size 46 2 (w.heap.size + 1) [.int .i64 0, .int .i64 0] ∧ PrAt w2 w.heap.size (w.heap.size + 2) p k 0 ∧ Below w.heap.size w w2 ∧ AltAt w2 (fun j => w.heap.size + 3 ≤ j) os (.slice (some ⟨gu, 0, none⟩) nu cu)) := by
    refine ⟨HW1.out.1.chg hC2 (by omega), HW1.out.2.1.chg hC2 (by omega), hP2, Chg.below HW1.out.2.2.2.1 hC2 HW1.out.2.2.2.1.size (fun j q => by omega), hU.move (S := fun _ => False) (Chg.refl _ _) (fun q hq => hq.elim) (fun q _ z => by have h1 := z.1; rw [HW1.out.2.2.2.2] at h1; exact h1)⟩
  clear hC2 hA hN hU hP2 HW1
  obtain ⟨W3, hW3⟩ : ∃ W3 : World, W3 = w2.setCell ⟨w.heap.size, 0, none⟩ (.slice (some ⟨gu, 0, none⟩) nu cu) := ⟨_, rfl⟩
  have HW3 : Hid (BoxAt W3 w.heap.size 65 1 w.heap.size [.slice (some ⟨gu, 0, none⟩) nu cu] ∧ BoxAt W3 w.heap.size 46 2 (w.heap.size + 1) [.int .i64 0, .int .i64 0] ∧ PrAt W3 w.heap.size (w.heap.size + 2) p k 0 ∧ Below w.heap.size w W3 ∧ AltAt W3 (fun j => w.heap.size + 3 ≤ j) os (.slice (some ⟨gu, 0, none⟩) nu cu)) := by
    have hc := Chg.of_set w2 w.heap.size 0 (.slice (some ⟨gu, 0, none⟩) nu cu) (S := fun j => j = w.heap.size) rfl
    rw [hW3]
    exact ⟨HW2.out.1.set 0 _, HW2.out.2.1.chg hc (by omega), BoxAt.chg HW2.out.2.2.1 hc (by omega), below_set HW2.out.2.2.2.1 (Nat.le_refl _) 0 _, HW2.out.2.2.2.2.move hc (fun q hq => by subst hq; exact fun z => by omega) (fun q _ z => z)⟩
  have r0 := HW2.out.1.cell (j := 0) rfl
  have rf := HW2.out.1.frozen 0
  clear HW2
  go_upto_region 6 with fail
  rw [← hW3]
  clear hW3 r0 rf
  have c1 := HW3.out.2.2.1.cell (j := 1) rfl
  by_cases hke : k = p.size
  · have zk : (k : Int) = (p.size : Int) := by omega
    have HOk : Hid (checkM (sb p) = (0, 0) ∧ AltOk (sb p) 0 0 p.size os) := by
      refine ⟨?_, by rw [← hke]; exact HA.out.1⟩
      rw [HM.out, HA.out.1.chk, chk_end (by rw [sb_len]; omega), if_neg (by omega)]
    clear HA hke
    go_wp2_with fail
    refine (pdem_core _ HW3.out.2.2.1).mono ?_
    rintro e w5 ⟨hw5, (⟨hc, rfl⟩ | ⟨hc, rfl⟩)⟩
    case inr => exfalso; (simp at hc) <;> omega
    rw [hw5]
    clear hw5 hc c1
    have r0 := HW3.out.1.cell (j := 0) rfl
    have rf := HW3.out.1.frozen 0
    have e0 := HW3.out.2.1.cell (j := 0) rfl
    have e1 := HW3.out.2.1.cell (j := 1) rfl
    have f0 := HW3.out.2.1.frozen 0
    have f1 := HW3.out.2.1.frozen 1
    obtain ⟨W6, hW6⟩ : ∃ W6 : World, W6 = ((W3.setCell ⟨w.heap.size, 0, none⟩ (.slice (some ⟨gu, 0, none⟩) nu cu)).setCell ⟨w.heap.size + 1, 0, none⟩ (.int .i64 0)).setCell ⟨w.heap.size + 1, 1, none⟩ (.int .i64 0) := ⟨_, rfl⟩
    have HW6 : Hid (BoxAt W6 w.heap.size 65 1 w.heap.size [.slice (some ⟨gu, 0, none⟩) nu cu] ∧ BoxAt W6 w.heap.size 46 2 (w.heap.size + 1) [.int .i64 0, .int .i64 0] ∧ Below w.heap.size w W6 ∧ AltAt W6 (Bet w.heap.size W6.heap.size) os (.slice (some ⟨gu, 0, none⟩) nu cu)) := by
      have c1 := Chg.of_set W3 w.heap.size 0 (.slice (some ⟨gu, 0, none⟩) nu cu) (S := fun j => j = w.heap.size ∨ j = w.heap.size + 1) (.inl rfl)
      have c2 := c1.trans (Chg.of_set _ (w.heap.size + 1) 0 (.int .i64 0) (S := fun j => j = w.heap.size ∨ j = w.heap.size + 1) (.inr rfl))
      have c3 := c2.trans (Chg.of_set _ (w.heap.size + 1) 1 (.int .i64 0) (S := fun j => j = w.heap.size ∨ j = w.heap.size + 1) (.inr rfl))
      rw [hW6]
      exact ⟨(((HW3.out.1.set 0 _).beside (by omega) 0 _).beside (by omega) 1 _), (((HW3.out.2.1.beside (by omega) 0 _).set 0 _).set 1 _), below_set (below_set (below_set HW3.out.2.2.2.1 (Nat.le_refl _) 0 _) (by omega) 0 _) (by omega) 1 _, HW3.out.2.2.2.2.move c3 (fun q hq => fun z => by omega) (fun q hq z => ⟨by omega, by have := c3.size; omega⟩)⟩
    go_wp2_with fail
    rw [← hW6]
    exact rp_done p w W6 _ w.heap.size (w.heap.size + 1) _ os rfl rfl rfl rfl HOk.out.1 HOk.out.2 HW6.out.2.2.2 HW6.out.1 HW6.out.2.1 HW6.out.2.2.1
  · have zk : ¬ (k : Int) = (p.size : Int) := by omega
    have HOk : Hid (checkM (sb p) = (2, k)) := by
      show checkM (sb p) = _
      obtain ⟨c, hc⟩ : ∃ c, (sb p)[k]? = some c := ⟨_, List.getElem?_eq_getElem (by rw [sb_len]; omega)⟩
      obtain ⟨h1, h2⟩ := HA.out.2 c hc
      rw [HM.out, HA.out.1.chk]
      rcases h1 with h1 | h1 | h1 | h1
      · rw [chk_op hc h1]; rfl
      · exact absurd h1 h2
      · subst h1; rw [chk_close hc, if_pos rfl]
      · subst h1; rw [chk_rb hc]
    clear HA hke
    go_wp2_with fail
    refine (pdem_core _ HW3.out.2.2.1).mono ?_
    rintro e w5 ⟨hw5, (⟨hc, rfl⟩ | ⟨hc, rfl⟩)⟩
    · exfalso; (simp at hc) <;> omega
    rw [hw5]
    exact rp_dies p w W3 _ 2 k w.heap.size (w.heap.size + 1) _ (Nat.le_refl _) (by omega) (by omega) rfl rfl rfl HOk.out (by decide) HW3.out.1 HW3.out.2.1 HW3.out.2.2.2.1

set_option maxHeartbeats 2000000 in
theorem implCheck_core (p : ByteArray) (w : World) (hpm : p.size ≤ maxLen) : Calls Try.prog 24 #[.string p] w fun e w' => e = .returned (.agg #[.int .i64 (checkM (sb p)).1, .int .i64 ((checkM (sb p)).2 : Int)]) ∧ Below w.heap.size w w' := by
  obtain ⟨W0, hW0⟩ : ∃ W0 : World, W0 = w.alloc (Obj.cells #[.int .i64 0, .int .i64 0] 46) := ⟨_, rfl⟩
  have HW0 : Hid (BoxAt W0 w.heap.size 46 2 w.heap.size [.int .i64 0, .int .i64 0] ∧ Below w.heap.size w W0) := by
    rw [hW0]; exact ⟨boxAt_new w _ (Nat.le_refl _) rfl, (Below.refl _ _).alloc (Nat.le_refl _) _⟩
  obtain ⟨c, hc⟩ : ∃ c, c = (checkM (sb p)).1 := ⟨_, rfl⟩
  obtain ⟨k, hk⟩ : ∃ k, k = (checkM (sb p)).2 := ⟨_, rfl⟩
  rw [← hc, ← hk]
  go_enter Try.func24, Try.ntmps24
  go_upto_region 1 with fail
  rw [← hW0]
  clear hW0
  go_wp2_with fail
  refine (readPattern_core p W0 hpm).mono ?_
  rintro e w1 ⟨u, rfl, hb1, hu⟩
  rw [← hc, ← hk]
  obtain ⟨ua, un, uc, rfl⟩ : ∃ a n cp, u = .slice a n cp := by
    rcases hu with ⟨_, os, _, hU⟩ | ⟨_, rfl⟩
    · obtain ⟨g, n, cp, rfl⟩ := hU.slice; exact ⟨_, _, _, rfl⟩
    · exact ⟨_, _, _, rfl⟩
  clear hu hc hk
  obtain ⟨W2, hW2⟩ : ∃ W2 : World, W2 = (w1.alloc (Obj.cells #[.slice ua un uc] 65)).alloc (Obj.cells #[.int .i64 c, .int .i64 (k : Int)] 46) := ⟨_, rfl⟩
  have HW2 : Hid (BoxAt W2 w.heap.size 46 2 w.heap.size [.int .i64 0, .int .i64 0] ∧ BoxAt W2 w.heap.size 46 2 (w1.heap.size + 1) [.int .i64 c, .int .i64 (k : Int)] ∧ Below w.heap.size w W2) := by
    have hb2 : Below w1.heap.size w1 W2 := by rw [hW2]; exact ((Below.refl _ _).alloc (Nat.le_refl _) _).alloc (by simp) _
    have h1 := HW0.out.2.size
    have h2 := hb1.size
    refine ⟨(HW0.out.1.below hb1).below hb2, ?_, (HW0.out.2.trans (hb1.mono h1)).trans (hb2.mono (by omega))⟩
    rw [hW2]
    exact BoxAt.ofHeap (vs := #[.int .i64 c, .int .i64 (k : Int)]) (heap_alloc2_new w1 _ _) (by omega) rfl
  clear hb1 HW0
  go_upto_region 2 with fail
  rw [← hW2]
  clear hW2
  have b0 := HW2.out.2.1.cell (j := 0) rfl
  have b1 := HW2.out.2.1.cell (j := 1) rfl
  have r0 := HW2.out.1.cell (j := 0) rfl
  have r1 := HW2.out.1.cell (j := 1) rfl
  have f0 := HW2.out.1.frozen 0
  have f1 := HW2.out.1.frozen 1
  have hbx := (HW2.out.1.set 0 (.int .i64 c)).set 1 (.int .i64 (k : Int))
  have p0 := hbx.cell (j := 0) rfl
  have p1 := hbx.cell (j := 1) rfl
  have HB3 : Hid (Below w.heap.size w ((W2.setCell ⟨w.heap.size, 0, none⟩ (.int .i64 c)).setCell ⟨w.heap.size, 1, none⟩ (.int .i64 (k : Int)))) := below_set (below_set HW2.out.2.2 (Nat.le_refl _) 0 _) (Nat.le_refl _) 1 _
  obtain ⟨W3, hW3⟩ : ∃ W3 : World, W3 = (W2.setCell ⟨w.heap.size, 0, none⟩ (.int .i64 c)).setCell ⟨w.heap.size, 1, none⟩ (.int .i64 (k : Int)) := ⟨_, rfl⟩
  rw [← hW3] at p0 p1 HB3
  clear hbx
  go_wp2_with fail
  rw [← hW3]
  refine bodyPost_ret (v := .agg #[.int .i64 c, .int .i64 (k : Int)]) (by simp [results, Try.results24, go_sem, p0, p1]) rfl ⟨rfl, HB3.out⟩
end Go.Proofs.Ytnncedndlhfdkaa

