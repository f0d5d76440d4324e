/-
  spec.l4Class.
-/
import Derived.Test.YthkmecppjhcidacSpC
namespace Go.Proofs.Ythkmecppjhcidac
open Go.ChangeShapes Go.WideShapes Go.ChangeAt Go.RowKit Go.Deep
set_option linter.unusedVariables false
set_option linter.unusedSimpArgs false
set_option maxRecDepth 100000

theorem cls_go {p : List UInt8} {j : Nat} {b : Bool} {f : UInt8 → Bool} (hj : j ≤ p.length) (h : ¬ (p[j]? = some 93 ∧ b = true)) : clsM p j b f = match itemM p j with | .inr e => .inr e | .inl (a, b, k) => clsM p k true (wider f a b) := by
  cases b
  · exact cls_first hj
  · exact cls_more hj (fun q => h ⟨q, rfl⟩)
/-- What l4Class hands back. -/
def ClassP (p : ByteArray) (i : Nat) (e : Ending) : Prop :=
  (∃ f k, classM (sb p) i = .inl (f, k) ∧ e = .returned (.tuple #[.int .i64 (k : Int), .agg #[.int .i64 0, .int .i64 0]])) ∨ (∃ c k, classM (sb p) i = .inr (c, k) ∧ e = .returned (.tuple #[.int .i64 0, .agg #[.int .i64 c, .int .i64 (k : Int)]]))
theorem class_ret {base rb : Nat} {w : World} {a : Act} {x y z : Value} (hx : a.tmps.getD 4 undef = x) (ht : a.tmps.getD 5 undef = .pointer (some ⟨rb, 0, none⟩)) (he : BoxAt w base 118 2 rb [y, z]) :
    (results Try.f95 a.tmps).run Try.prog w = .ok (.tuple #[x, .agg #[y, z]]) w := by
  have q0 := he.cell (j := 0) rfl
  have q1 := he.cell (j := 1) rfl
  have h1 : a.tmps[4]?.getD undef = x := by rw [← Array.getD_eq_getD_getElem?]; exact hx
  have h2 : a.tmps[5]?.getD undef = .pointer (some ⟨rb, 0, none⟩) := by rw [← Array.getD_eq_getD_getElem?]; exact ht
  simp [results, Try.results95, go_sem, h1, h2, q0, q1]

set_option maxHeartbeats 8000000 in
theorem l4Class_core (p : ByteArray) (i : Nat) (w : World) (hp : p.size ≤ 200) (hi : i < p.size) :
    Calls Try.prog 95 #[.string p, .int .i64 (i : Int)] w fun e w' => ClassP p (i + 1) e ∧ Below w.heap.size w w' := by
  obtain ⟨W0, hW0⟩ : ∃ W0 : World, W0 = w.alloc (Obj.cells #[.int .i64 0, .int .i64 0] 118) := ⟨_, rfl⟩
  have HW0 : Hid (BoxAt W0 w.heap.size 118 2 w.heap.size [.int .i64 0, .int .i64 0] ∧ Below w.heap.size w W0) := by
    rw [hW0]; exact ⟨boxAt_new w _ (Nat.le_refl _) rfl, (Below.refl _ _).alloc (Nat.le_refl _) _⟩
  have HS : Hid (∀ a b : Value, BoxAt ((W0.setCell ⟨w.heap.size, 0, none⟩ a).setCell ⟨w.heap.size, 1, none⟩ b) w.heap.size 118 2 w.heap.size [a, b] ∧ Below w.heap.size w ((W0.setCell ⟨w.heap.size, 0, none⟩ a).setCell ⟨w.heap.size, 1, none⟩ b)) := fun a b => ⟨(HW0.out.1.set 0 a).set 1 b, below_set (below_set HW0.out.2 (Nat.le_refl _) 0 _) (Nat.le_refl _) 1 _⟩
  have r0 := HW0.out.1.cell (j := 0) rfl
  have r1 := HW0.out.1.cell (j := 1) rfl
  have f0 := HW0.out.1.frozen 0
  have f1 := HW0.out.1.frozen 1
  clear HW0
  obtain ⟨ng, j0, hng, hj0, hM0⟩ : ∃ (ng : Bool) (j0 : Nat), j0 = (if ng = true then i + 2 else i + 1) ∧ j0 ≤ p.size ∧ (ClsEq (sb p) (i + 1) ng j0 false (fun _ => false) ∧ (ng = true ↔ (sb p)[i + 1]? = some 94)) := by
    by_cases hx : (sb p)[i + 1]? = some 94
    · refine ⟨true, i + 2, rfl, by have := lt_of_at hx; rw [sb_len] at this; omega, ?_, ⟨fun _ => hx, fun _ => rfl⟩⟩
      unfold ClsEq classM; rw [if_pos hx]; rfl
    · refine ⟨false, i + 1, rfl, by omega, ?_, ⟨fun q => (by cases q), fun q => absurd q hx⟩⟩
      unfold ClsEq classM; rw [if_neg hx]
      generalize clsM (sb p) (i + 1) false (fun _ => false) = r
      cases r <;> rfl
  have HM0 : Hid (ClsEq (sb p) (i + 1) ng j0 false (fun _ => false)) := hM0.1
  have HNG : Hid (ng = true ↔ (sb p)[i + 1]? = some 94) := hM0.2
  have HJ0 : Hid (j0 = if ng = true then i + 2 else i + 1) := hng
  clear hM0 hng
  go_enter Try.func95, Try.ntmps95
  go_upto_region 1 with fail
  rw [← hW0]
  clear hW0
  -- TAIL
  by_cases hi1 : i + 1 < p.size
  · obtain ⟨x0, hx0⟩ : ∃ x, (sb p)[i + 1]? = some x := ⟨_, List.getElem?_eq_getElem (by rw [sb_len]; exact hi1)⟩
    obtain ⟨_, gx0⟩ := sb_get hx0
    have zi1 : (i : Int) + 1 < (p.size : Int) := by omega
    cases ng
    · have z94 : ((x0.toNat : Int) == 94) = false := beq_eq_false_iff_ne.2 (ne_u8 (c := 94) (fun q => by have h1 := HNG.out.2 (by rw [hx0, q]); cases h1))
      clear hx0
      go_wp2_with fail
      go_loopw [6, 7] (fun jv nv wr => ∃ (j n : Nat) (f : UInt8 → Bool), j ≤ p.size ∧ n ≤ j ∧ jv = .int .i64 (j : Int) ∧ nv = .int .i64 (n : Int) ∧ ClsEq (sb p) (i + 1) false j (decide (0 < n)) f ∧ wr = W0) (fun jv _ _ => p.size - (intOf jv).toNat)
      case atStart => exact ⟨j0, 0, fun _ => false, hj0, Nat.zero_le _, congrArg (Value.int .i64) (by rw [HJ0.out]; simp <;> omega), rfl, HM0.out, rfl⟩
      case round =>
        obtain ⟨j, n, f, hj, hnj, rfl, rfl, hE, hwr⟩ := hrel
        have HE : Hid (ClsEq (sb p) (i + 1) false j (decide (0 < n)) f) := hE
        rw [hwr]
        clear hE hwr HM0 HJ0 HNG
        by_cases hlt : j < p.size
        · obtain ⟨x, hx⟩ : ∃ x, (sb p)[j]? = some x := ⟨_, List.getElem?_eq_getElem (by rw [sb_len]; exact hlt)⟩
          obtain ⟨_, gx⟩ := sb_get hx
          have HX : Hid ((sb p)[j]? = some x) := hx
          have zj : (j : Int) < (p.size : Int) := by omega
          clear hx
          by_cases hend : x = 93 ∧ 0 < n
          · obtain ⟨rfl, hn0⟩ := hend
            have zn : (0 : Int) < (n : Int) := by omega
            have HF : Hid (∃ f', classM (sb p) (i + 1) = .inl (f', j + 1)) := by
              refine ⟨if false = true then fun c => !f c else f, ?_⟩
              rw [HE.out.eq, decide_eq_true hn0, cls_shut HX.out]
            obtain ⟨f', hf'⟩ := HF.out
            have HF' : Hid (classM (sb p) (i + 1) = .inl (f', j + 1)) := hf'
            clear hf' HF
            go_wp2_with fail
            exact bodyPost_ret (v := .tuple #[.int .i64 ((j + 1 : Nat) : Int), .agg #[.int .i64 0, .int .i64 0]]) (class_ret rfl rfl (HS.out (.int .i64 0) (.int .i64 0)).1) rfl ⟨.inl ⟨f', j + 1, HF'.out, rfl⟩, (HS.out (.int .i64 0) (.int .i64 0)).2⟩
          · have HG : Hid (clsM (sb p) j (decide (0 < n)) f = match itemM (sb p) j with | .inr e => .inr e | .inl (a, b, k) => clsM (sb p) k true (wider f a b)) := cls_go (by rw [sb_len]; omega) (fun q => hend ⟨by have h1 := q.1; rw [HX.out] at h1; exact Option.some.inj h1, by simpa using q.2⟩)
            obtain ⟨lo, k, b, hch⟩ : ∃ lo k b, chM (sb p) j = (lo, k, b) := ⟨_, _, _, rfl⟩
            have HCh : Hid (chM (sb p) j = (lo, k, b)) := hch
            have hkl : b = true → k ≤ p.size ∧ j < k := fun q => by
              subst q
              have := chM_gt hch
              rw [sb_len] at this
              omega
            clear hch
            have hpick : ((x.toNat : Int) == 93) = false ∨ (¬ (0 : Int) < (n : Int)) := by
              by_cases h93 : x = 93
              · exact .inr (fun q => hend ⟨h93, by omega⟩)
              · exact .inl (beq_eq_false_iff_ne.2 (ne_u8 (c := 93) h93))
            clear hend
            have hpk : (((x.toNat : Int) == 93) = false) ∨ (((x.toNat : Int) == 93) = true ∧ n = 0) := by
              rcases hpick with q | q
              · exact .inl q
              · cases hq : ((x.toNat : Int) == 93)
                · exact .inl rfl
                · exact .inr ⟨rfl, by omega⟩
            clear hpick
            rcases hpk with h93 | ⟨h93, hn0⟩
            case' inr =>
              have zn : ¬ (0 : Int) < (n : Int) := by omega
              clear hn0
            all_goals
              go_wp2_with fail
              refine (l4Ch_core p j W0 hp (by omega) lo k b HCh.out).mono ?_
              rintro e w1 ⟨rfl, hw1⟩
              rw [hw1]
              clear hw1
              cases b
              case false =>
                have HF : Hid (classM (sb p) (i + 1) = .inr (2, k)) := by
                  show classM (sb p) (i + 1) = _
                  rw [HE.out.eq, HG.out]
                  unfold itemM
                  rw [HCh.out]
                go_wp2_with fail
                exact bodyPost_ret (v := .tuple #[.int .i64 0, .agg #[.int .i64 2, .int .i64 (k : Int)]]) (class_ret rfl rfl (HS.out (.int .i64 2) (.int .i64 (k : Int))).1) rfl ⟨.inr ⟨2, k, HF.out, rfl⟩, (HS.out (.int .i64 2) (.int .i64 (k : Int))).2⟩
              obtain ⟨hks, hjk⟩ := hkl rfl
              clear hkl
              by_cases h45 : (sb p)[k]? = some 45
              · obtain ⟨hk2, gk⟩ := sb_get h45
                have HK : Hid ((sb p)[k]? = some 45) := h45
                have zk : (k : Int) < (p.size : Int) := by omega
                obtain ⟨hh, m, b2, hch2⟩ : ∃ hh m b2, chM (sb p) (k + 1) = (hh, m, b2) := ⟨_, _, _, rfl⟩
                have HCh2 : Hid (chM (sb p) (k + 1) = (hh, m, b2)) := hch2
                have hml : b2 = true → m ≤ p.size ∧ k < m := fun q => by
                  subst q
                  have := chM_gt hch2
                  rw [sb_len] at this
                  omega
                clear hch2 h45
                go_wp2_with fail
                refine (l4Ch_core p (k + 1) W0 hp (by omega) hh m b2 HCh2.out).mono ?_
                rintro e w2 ⟨rfl, hw2⟩
                rw [hw2]
                clear hw2
                cases b2
                · have HF : Hid (classM (sb p) (i + 1) = .inr (2, m)) := by
                    show classM (sb p) (i + 1) = _
                    rw [HE.out.eq, HG.out]
                    unfold itemM
                    rw [HCh.out]
                    simp only []
                    rw [if_pos HK.out, HCh2.out]
                  go_wp2_with fail
                  exact bodyPost_ret (v := .tuple #[.int .i64 0, .agg #[.int .i64 2, .int .i64 (m : Int)]]) (class_ret rfl rfl (HS.out (.int .i64 2) (.int .i64 (m : Int))).1) rfl ⟨.inr ⟨2, m, HF.out, rfl⟩, (HS.out (.int .i64 2) (.int .i64 (m : Int))).2⟩
                · obtain ⟨hms, hkm⟩ := hml rfl
                  clear hml
                  by_cases hlo : hh < lo
                  · have zlo : (hh.toNat : Int) < (lo.toNat : Int) := by have := UInt8.lt_iff_toNat_lt.1 hlo; omega
                    have HF : Hid (classM (sb p) (i + 1) = .inr (4, j)) := by
                      show classM (sb p) (i + 1) = _
                      rw [HE.out.eq, HG.out]
                      unfold itemM
                      rw [HCh.out]
                      simp only []
                      rw [if_pos HK.out, HCh2.out]
                      simp only []
                      rw [if_pos hlo]
                    go_wp2_with fail
                    exact bodyPost_ret (v := .tuple #[.int .i64 0, .agg #[.int .i64 4, .int .i64 (j : Int)]]) (class_ret rfl rfl (HS.out (.int .i64 4) (.int .i64 (j : Int))).1) rfl ⟨.inr ⟨4, j, HF.out, rfl⟩, (HS.out (.int .i64 4) (.int .i64 (j : Int))).2⟩
                  · have zlo : (lo.toNat : Int) ≤ (hh.toNat : Int) := by have := UInt8.le_iff_toNat_le.1 (UInt8.not_lt.1 hlo); omega
                    have HF : Hid (ClsEq (sb p) (i + 1) false m true (wider f lo hh)) := by
                      show ClsEq _ _ _ _ _ _
                      unfold ClsEq
                      rw [HE.out.eq, HG.out]
                      unfold itemM
                      rw [HCh.out]
                      simp only []
                      rw [if_pos HK.out, HCh2.out]
                      simp only []
                      rw [if_neg hlo]
                    clear hlo
                    go_wp2_with fail
                    go_roundw
                    case rel => exact ⟨m, n + 1, wider f lo hh, hms, by omega, rfl, by go_num, by rw [decide_eq_true (Nat.succ_pos n)]; exact HF.out, trivial⟩
                    case measure => simp [intOf]; omega
              · have HK : Hid (¬ (sb p)[k]? = some 45) := h45
                have HF : Hid (ClsEq (sb p) (i + 1) false k true (wider f lo lo)) := by
                  show ClsEq _ _ _ _ _ _
                  unfold ClsEq
                  rw [HE.out.eq, HG.out]
                  unfold itemM
                  rw [HCh.out]
                  simp only []
                  rw [if_neg HK.out]
                clear h45
                by_cases hke : k < p.size
                · obtain ⟨y, hy⟩ : ∃ y, (sb p)[k]? = some y := ⟨_, List.getElem?_eq_getElem (by rw [sb_len]; exact hke)⟩
                  obtain ⟨_, gy⟩ := sb_get hy
                  have zk : (k : Int) < (p.size : Int) := by omega
                  have zy : ((y.toNat : Int) == 45) = false := beq_eq_false_iff_ne.2 (ne_u8 (c := 45) (fun q => HK.out (by rw [hy, q])))
                  clear hy
                  go_wp2_with fail
                  go_roundw
                  case rel => exact ⟨k, n + 1, wider f lo lo, hks, by omega, rfl, by go_num, by rw [decide_eq_true (Nat.succ_pos n)]; exact HF.out, trivial⟩
                  case measure => simp [intOf]; omega
                · have zk : ¬ (k : Int) < (p.size : Int) := by omega
                  go_wp2_with fail
                  go_roundw
                  case rel => exact ⟨k, n + 1, wider f lo lo, hks, by omega, rfl, by go_num, by rw [decide_eq_true (Nat.succ_pos n)]; exact HF.out, trivial⟩
                  case measure => simp [intOf]; omega
        · have HF : Hid (classM (sb p) (i + 1) = .inr (2, p.size)) := by
            show classM (sb p) (i + 1) = _
            rw [HE.out.eq, clsM, dif_neg (by rw [sb_len]; exact hlt), sb_len]
          have zj : ¬ (j : Int) < (p.size : Int) := by omega
          go_wp2_with fail
          exact bodyPost_ret (v := .tuple #[.int .i64 0, .agg #[.int .i64 2, .int .i64 (p.size : Int)]]) (class_ret rfl rfl (HS.out (.int .i64 2) (.int .i64 (p.size : Int))).1) rfl ⟨.inr ⟨2, p.size, HF.out, rfl⟩, (HS.out (.int .i64 2) (.int .i64 (p.size : Int))).2⟩
    · have h94 : x0 = 94 := by have h1 := HNG.out.1 rfl; rw [hx0] at h1; exact Option.some.inj h1
      subst h94
      clear hx0
      go_wp2_with fail
      go_loopw [6, 7] (fun jv nv wr => ∃ (j n : Nat) (f : UInt8 → Bool), j ≤ p.size ∧ n ≤ j ∧ jv = .int .i64 (j : Int) ∧ nv = .int .i64 (n : Int) ∧ ClsEq (sb p) (i + 1) true j (decide (0 < n)) f ∧ wr = W0) (fun jv _ _ => p.size - (intOf jv).toNat)
      case atStart => exact ⟨j0, 0, fun _ => false, hj0, Nat.zero_le _, congrArg (Value.int .i64) (by rw [HJ0.out]; simp <;> omega), rfl, HM0.out, rfl⟩
      case round =>
        obtain ⟨j, n, f, hj, hnj, rfl, rfl, hE, hwr⟩ := hrel
        have HE : Hid (ClsEq (sb p) (i + 1) true j (decide (0 < n)) f) := hE
        rw [hwr]
        clear hE hwr HM0 HJ0 HNG
        by_cases hlt : j < p.size
        · obtain ⟨x, hx⟩ : ∃ x, (sb p)[j]? = some x := ⟨_, List.getElem?_eq_getElem (by rw [sb_len]; exact hlt)⟩
          obtain ⟨_, gx⟩ := sb_get hx
          have HX : Hid ((sb p)[j]? = some x) := hx
          have zj : (j : Int) < (p.size : Int) := by omega
          clear hx
          by_cases hend : x = 93 ∧ 0 < n
          · obtain ⟨rfl, hn0⟩ := hend
            have zn : (0 : Int) < (n : Int) := by omega
            have HF : Hid (∃ f', classM (sb p) (i + 1) = .inl (f', j + 1)) := by
              refine ⟨if true = true then fun c => !f c else f, ?_⟩
              rw [HE.out.eq, decide_eq_true hn0, cls_shut HX.out]
            obtain ⟨f', hf'⟩ := HF.out
            have HF' : Hid (classM (sb p) (i + 1) = .inl (f', j + 1)) := hf'
            clear hf' HF
            go_wp2_with fail
            exact bodyPost_ret (v := .tuple #[.int .i64 ((j + 1 : Nat) : Int), .agg #[.int .i64 0, .int .i64 0]]) (class_ret rfl rfl (HS.out (.int .i64 0) (.int .i64 0)).1) rfl ⟨.inl ⟨f', j + 1, HF'.out, rfl⟩, (HS.out (.int .i64 0) (.int .i64 0)).2⟩
          · have HG : Hid (clsM (sb p) j (decide (0 < n)) f = match itemM (sb p) j with | .inr e => .inr e | .inl (a, b, k) => clsM (sb p) k true (wider f a b)) := cls_go (by rw [sb_len]; omega) (fun q => hend ⟨by have h1 := q.1; rw [HX.out] at h1; exact Option.some.inj h1, by simpa using q.2⟩)
            obtain ⟨lo, k, b, hch⟩ : ∃ lo k b, chM (sb p) j = (lo, k, b) := ⟨_, _, _, rfl⟩
            have HCh : Hid (chM (sb p) j = (lo, k, b)) := hch
            have hkl : b = true → k ≤ p.size ∧ j < k := fun q => by
              subst q
              have := chM_gt hch
              rw [sb_len] at this
              omega
            clear hch
            have hpick : ((x.toNat : Int) == 93) = false ∨ (¬ (0 : Int) < (n : Int)) := by
              by_cases h93 : x = 93
              · exact .inr (fun q => hend ⟨h93, by omega⟩)
              · exact .inl (beq_eq_false_iff_ne.2 (ne_u8 (c := 93) h93))
            clear hend
            have hpk : (((x.toNat : Int) == 93) = false) ∨ (((x.toNat : Int) == 93) = true ∧ n = 0) := by
              rcases hpick with q | q
              · exact .inl q
              · cases hq : ((x.toNat : Int) == 93)
                · exact .inl rfl
                · exact .inr ⟨rfl, by omega⟩
            clear hpick
            rcases hpk with h93 | ⟨h93, hn0⟩
            case' inr =>
              have zn : ¬ (0 : Int) < (n : Int) := by omega
              clear hn0
            all_goals
              go_wp2_with fail
              refine (l4Ch_core p j W0 hp (by omega) lo k b HCh.out).mono ?_
              rintro e w1 ⟨rfl, hw1⟩
              rw [hw1]
              clear hw1
              cases b
              case false =>
                have HF : Hid (classM (sb p) (i + 1) = .inr (2, k)) := by
                  show classM (sb p) (i + 1) = _
                  rw [HE.out.eq, HG.out]
                  unfold itemM
                  rw [HCh.out]
                go_wp2_with fail
                exact bodyPost_ret (v := .tuple #[.int .i64 0, .agg #[.int .i64 2, .int .i64 (k : Int)]]) (class_ret rfl rfl (HS.out (.int .i64 2) (.int .i64 (k : Int))).1) rfl ⟨.inr ⟨2, k, HF.out, rfl⟩, (HS.out (.int .i64 2) (.int .i64 (k : Int))).2⟩
              obtain ⟨hks, hjk⟩ := hkl rfl
              clear hkl
              by_cases h45 : (sb p)[k]? = some 45
              · obtain ⟨hk2, gk⟩ := sb_get h45
                have HK : Hid ((sb p)[k]? = some 45) := h45
                have zk : (k : Int) < (p.size : Int) := by omega
                obtain ⟨hh, m, b2, hch2⟩ : ∃ hh m b2, chM (sb p) (k + 1) = (hh, m, b2) := ⟨_, _, _, rfl⟩
                have HCh2 : Hid (chM (sb p) (k + 1) = (hh, m, b2)) := hch2
                have hml : b2 = true → m ≤ p.size ∧ k < m := fun q => by
                  subst q
                  have := chM_gt hch2
                  rw [sb_len] at this
                  omega
                clear hch2 h45
                go_wp2_with fail
                refine (l4Ch_core p (k + 1) W0 hp (by omega) hh m b2 HCh2.out).mono ?_
                rintro e w2 ⟨rfl, hw2⟩
                rw [hw2]
                clear hw2
                cases b2
                · have HF : Hid (classM (sb p) (i + 1) = .inr (2, m)) := by
                    show classM (sb p) (i + 1) = _
                    rw [HE.out.eq, HG.out]
                    unfold itemM
                    rw [HCh.out]
                    simp only []
                    rw [if_pos HK.out, HCh2.out]
                  go_wp2_with fail
                  exact bodyPost_ret (v := .tuple #[.int .i64 0, .agg #[.int .i64 2, .int .i64 (m : Int)]]) (class_ret rfl rfl (HS.out (.int .i64 2) (.int .i64 (m : Int))).1) rfl ⟨.inr ⟨2, m, HF.out, rfl⟩, (HS.out (.int .i64 2) (.int .i64 (m : Int))).2⟩
                · obtain ⟨hms, hkm⟩ := hml rfl
                  clear hml
                  by_cases hlo : hh < lo
                  · have zlo : (hh.toNat : Int) < (lo.toNat : Int) := by have := UInt8.lt_iff_toNat_lt.1 hlo; omega
                    have HF : Hid (classM (sb p) (i + 1) = .inr (4, j)) := by
                      show classM (sb p) (i + 1) = _
                      rw [HE.out.eq, HG.out]
                      unfold itemM
                      rw [HCh.out]
                      simp only []
                      rw [if_pos HK.out, HCh2.out]
                      simp only []
                      rw [if_pos hlo]
                    go_wp2_with fail
                    exact bodyPost_ret (v := .tuple #[.int .i64 0, .agg #[.int .i64 4, .int .i64 (j : Int)]]) (class_ret rfl rfl (HS.out (.int .i64 4) (.int .i64 (j : Int))).1) rfl ⟨.inr ⟨4, j, HF.out, rfl⟩, (HS.out (.int .i64 4) (.int .i64 (j : Int))).2⟩
                  · have zlo : (lo.toNat : Int) ≤ (hh.toNat : Int) := by have := UInt8.le_iff_toNat_le.1 (UInt8.not_lt.1 hlo); omega
                    have HF : Hid (ClsEq (sb p) (i + 1) true m true (wider f lo hh)) := by
                      show ClsEq _ _ _ _ _ _
                      unfold ClsEq
                      rw [HE.out.eq, HG.out]
                      unfold itemM
                      rw [HCh.out]
                      simp only []
                      rw [if_pos HK.out, HCh2.out]
                      simp only []
                      rw [if_neg hlo]
                    clear hlo
                    go_wp2_with fail
                    go_roundw
                    case rel => exact ⟨m, n + 1, wider f lo hh, hms, by omega, rfl, by go_num, by rw [decide_eq_true (Nat.succ_pos n)]; exact HF.out, trivial⟩
                    case measure => simp [intOf]; omega
              · have HK : Hid (¬ (sb p)[k]? = some 45) := h45
                have HF : Hid (ClsEq (sb p) (i + 1) true k true (wider f lo lo)) := by
                  show ClsEq _ _ _ _ _ _
                  unfold ClsEq
                  rw [HE.out.eq, HG.out]
                  unfold itemM
                  rw [HCh.out]
                  simp only []
                  rw [if_neg HK.out]
                clear h45
                by_cases hke : k < p.size
                · obtain ⟨y, hy⟩ : ∃ y, (sb p)[k]? = some y := ⟨_, List.getElem?_eq_getElem (by rw [sb_len]; exact hke)⟩
                  obtain ⟨_, gy⟩ := sb_get hy
                  have zk : (k : Int) < (p.size : Int) := by omega
                  have zy : ((y.toNat : Int) == 45) = false := beq_eq_false_iff_ne.2 (ne_u8 (c := 45) (fun q => HK.out (by rw [hy, q])))
                  clear hy
                  go_wp2_with fail
                  go_roundw
                  case rel => exact ⟨k, n + 1, wider f lo lo, hks, by omega, rfl, by go_num, by rw [decide_eq_true (Nat.succ_pos n)]; exact HF.out, trivial⟩
                  case measure => simp [intOf]; omega
                · have zk : ¬ (k : Int) < (p.size : Int) := by omega
                  go_wp2_with fail
                  go_roundw
                  case rel => exact ⟨k, n + 1, wider f lo lo, hks, by omega, rfl, by go_num, by rw [decide_eq_true (Nat.succ_pos n)]; exact HF.out, trivial⟩
                  case measure => simp [intOf]; omega
        · have HF : Hid (classM (sb p) (i + 1) = .inr (2, p.size)) := by
            show classM (sb p) (i + 1) = _
            rw [HE.out.eq, clsM, dif_neg (by rw [sb_len]; exact hlt), sb_len]
          have zj : ¬ (j : Int) < (p.size : Int) := by omega
          go_wp2_with fail
          exact bodyPost_ret (v := .tuple #[.int .i64 0, .agg #[.int .i64 2, .int .i64 (p.size : Int)]]) (class_ret rfl rfl (HS.out (.int .i64 2) (.int .i64 (p.size : Int))).1) rfl ⟨.inr ⟨2, p.size, HF.out, rfl⟩, (HS.out (.int .i64 2) (.int .i64 (p.size : Int))).2⟩
  · have zi1 : ¬ (i : Int) + 1 < (p.size : Int) := by omega
    cases ng
    case true => exact absurd (HNG.out.1 rfl) (by rw [List.getElem?_eq_none (by rw [sb_len]; omega)]; exact fun q => by cases q)
    go_wp2_with fail
    go_loopw [6, 7] (fun jv nv wr => ∃ (j n : Nat) (f : UInt8 → Bool), j ≤ p.size ∧ n ≤ j ∧ jv = .int .i64 (j : Int) ∧ nv = .int .i64 (n : Int) ∧ ClsEq (sb p) (i + 1) false j (decide (0 < n)) f ∧ wr = W0) (fun jv _ _ => p.size - (intOf jv).toNat)
    case atStart => exact ⟨j0, 0, fun _ => false, hj0, Nat.zero_le _, congrArg (Value.int .i64) (by rw [HJ0.out]; simp <;> omega), rfl, HM0.out, rfl⟩
    case round =>
      obtain ⟨j, n, f, hj, hnj, rfl, rfl, hE, hwr⟩ := hrel
      have HE : Hid (ClsEq (sb p) (i + 1) false j (decide (0 < n)) f) := hE
      rw [hwr]
      clear hE hwr HM0 HJ0 HNG
      by_cases hlt : j < p.size
      · obtain ⟨x, hx⟩ : ∃ x, (sb p)[j]? = some x := ⟨_, List.getElem?_eq_getElem (by rw [sb_len]; exact hlt)⟩
        obtain ⟨_, gx⟩ := sb_get hx
        have HX : Hid ((sb p)[j]? = some x) := hx
        have zj : (j : Int) < (p.size : Int) := by omega
        clear hx
        by_cases hend : x = 93 ∧ 0 < n
        · obtain ⟨rfl, hn0⟩ := hend
          have zn : (0 : Int) < (n : Int) := by omega
          have HF : Hid (∃ f', classM (sb p) (i + 1) = .inl (f', j + 1)) := by
            refine ⟨if false = true then fun c => !f c else f, ?_⟩
            rw [HE.out.eq, decide_eq_true hn0, cls_shut HX.out]
          obtain ⟨f', hf'⟩ := HF.out
          have HF' : Hid (classM (sb p) (i + 1) = .inl (f', j + 1)) := hf'
          clear hf' HF
          go_wp2_with fail
          exact bodyPost_ret (v := .tuple #[.int .i64 ((j + 1 : Nat) : Int), .agg #[.int .i64 0, .int .i64 0]]) (class_ret rfl rfl (HS.out (.int .i64 0) (.int .i64 0)).1) rfl ⟨.inl ⟨f', j + 1, HF'.out, rfl⟩, (HS.out (.int .i64 0) (.int .i64 0)).2⟩
        · have HG : Hid (clsM (sb p) j (decide (0 < n)) f = match itemM (sb p) j with | .inr e => .inr e | .inl (a, b, k) => clsM (sb p) k true (wider f a b)) := cls_go (by rw [sb_len]; omega) (fun q => hend ⟨by have h1 := q.1; rw [HX.out] at h1; exact Option.some.inj h1, by simpa using q.2⟩)
          obtain ⟨lo, k, b, hch⟩ : ∃ lo k b, chM (sb p) j = (lo, k, b) := ⟨_, _, _, rfl⟩
          have HCh : Hid (chM (sb p) j = (lo, k, b)) := hch
          have hkl : b = true → k ≤ p.size ∧ j < k := fun q => by
            subst q
            have := chM_gt hch
            rw [sb_len] at this
            omega
          clear hch
          have hpick : ((x.toNat : Int) == 93) = false ∨ (¬ (0 : Int) < (n : Int)) := by
            by_cases h93 : x = 93
            · exact .inr (fun q => hend ⟨h93, by omega⟩)
            · exact .inl (beq_eq_false_iff_ne.2 (ne_u8 (c := 93) h93))
          clear hend
          have hpk : (((x.toNat : Int) == 93) = false) ∨ (((x.toNat : Int) == 93) = true ∧ n = 0) := by
            rcases hpick with q | q
            · exact .inl q
            · cases hq : ((x.toNat : Int) == 93)
              · exact .inl rfl
              · exact .inr ⟨rfl, by omega⟩
          clear hpick
          rcases hpk with h93 | ⟨h93, hn0⟩
          case' inr =>
            have zn : ¬ (0 : Int) < (n : Int) := by omega
            clear hn0
          all_goals
            go_wp2_with fail
            refine (l4Ch_core p j W0 hp (by omega) lo k b HCh.out).mono ?_
            rintro e w1 ⟨rfl, hw1⟩
            rw [hw1]
            clear hw1
            cases b
            case false =>
              have HF : Hid (classM (sb p) (i + 1) = .inr (2, k)) := by
                show classM (sb p) (i + 1) = _
                rw [HE.out.eq, HG.out]
                unfold itemM
                rw [HCh.out]
              go_wp2_with fail
              exact bodyPost_ret (v := .tuple #[.int .i64 0, .agg #[.int .i64 2, .int .i64 (k : Int)]]) (class_ret rfl rfl (HS.out (.int .i64 2) (.int .i64 (k : Int))).1) rfl ⟨.inr ⟨2, k, HF.out, rfl⟩, (HS.out (.int .i64 2) (.int .i64 (k : Int))).2⟩
            obtain ⟨hks, hjk⟩ := hkl rfl
            clear hkl
            by_cases h45 : (sb p)[k]? = some 45
            · obtain ⟨hk2, gk⟩ := sb_get h45
              have HK : Hid ((sb p)[k]? = some 45) := h45
              have zk : (k : Int) < (p.size : Int) := by omega
              obtain ⟨hh, m, b2, hch2⟩ : ∃ hh m b2, chM (sb p) (k + 1) = (hh, m, b2) := ⟨_, _, _, rfl⟩
              have HCh2 : Hid (chM (sb p) (k + 1) = (hh, m, b2)) := hch2
              have hml : b2 = true → m ≤ p.size ∧ k < m := fun q => by
                subst q
                have := chM_gt hch2
                rw [sb_len] at this
                omega
              clear hch2 h45
              go_wp2_with fail
              refine (l4Ch_core p (k + 1) W0 hp (by omega) hh m b2 HCh2.out).mono ?_
              rintro e w2 ⟨rfl, hw2⟩
              rw [hw2]
              clear hw2
              cases b2
              · have HF : Hid (classM (sb p) (i + 1) = .inr (2, m)) := by
                  show classM (sb p) (i + 1) = _
                  rw [HE.out.eq, HG.out]
                  unfold itemM
                  rw [HCh.out]
                  simp only []
                  rw [if_pos HK.out, HCh2.out]
                go_wp2_with fail
                exact bodyPost_ret (v := .tuple #[.int .i64 0, .agg #[.int .i64 2, .int .i64 (m : Int)]]) (class_ret rfl rfl (HS.out (.int .i64 2) (.int .i64 (m : Int))).1) rfl ⟨.inr ⟨2, m, HF.out, rfl⟩, (HS.out (.int .i64 2) (.int .i64 (m : Int))).2⟩
              · obtain ⟨hms, hkm⟩ := hml rfl
                clear hml
                by_cases hlo : hh < lo
                · have zlo : (hh.toNat : Int) < (lo.toNat : Int) := by have := UInt8.lt_iff_toNat_lt.1 hlo; omega
                  have HF : Hid (classM (sb p) (i + 1) = .inr (4, j)) := by
                    show classM (sb p) (i + 1) = _
                    rw [HE.out.eq, HG.out]
                    unfold itemM
                    rw [HCh.out]
                    simp only []
                    rw [if_pos HK.out, HCh2.out]
                    simp only []
                    rw [if_pos hlo]
                  go_wp2_with fail
                  exact bodyPost_ret (v := .tuple #[.int .i64 0, .agg #[.int .i64 4, .int .i64 (j : Int)]]) (class_ret rfl rfl (HS.out (.int .i64 4) (.int .i64 (j : Int))).1) rfl ⟨.inr ⟨4, j, HF.out, rfl⟩, (HS.out (.int .i64 4) (.int .i64 (j : Int))).2⟩
                · have zlo : (lo.toNat : Int) ≤ (hh.toNat : Int) := by have := UInt8.le_iff_toNat_le.1 (UInt8.not_lt.1 hlo); omega
                  have HF : Hid (ClsEq (sb p) (i + 1) false m true (wider f lo hh)) := by
                    show ClsEq _ _ _ _ _ _
                    unfold ClsEq
                    rw [HE.out.eq, HG.out]
                    unfold itemM
                    rw [HCh.out]
                    simp only []
                    rw [if_pos HK.out, HCh2.out]
                    simp only []
                    rw [if_neg hlo]
                  clear hlo
                  go_wp2_with fail
                  go_roundw
                  case rel => exact ⟨m, n + 1, wider f lo hh, hms, by omega, rfl, by go_num, by rw [decide_eq_true (Nat.succ_pos n)]; exact HF.out, trivial⟩
                  case measure => simp [intOf]; omega
            · have HK : Hid (¬ (sb p)[k]? = some 45) := h45
              have HF : Hid (ClsEq (sb p) (i + 1) false k true (wider f lo lo)) := by
                show ClsEq _ _ _ _ _ _
                unfold ClsEq
                rw [HE.out.eq, HG.out]
                unfold itemM
                rw [HCh.out]
                simp only []
                rw [if_neg HK.out]
              clear h45
              by_cases hke : k < p.size
              · obtain ⟨y, hy⟩ : ∃ y, (sb p)[k]? = some y := ⟨_, List.getElem?_eq_getElem (by rw [sb_len]; exact hke)⟩
                obtain ⟨_, gy⟩ := sb_get hy
                have zk : (k : Int) < (p.size : Int) := by omega
                have zy : ((y.toNat : Int) == 45) = false := beq_eq_false_iff_ne.2 (ne_u8 (c := 45) (fun q => HK.out (by rw [hy, q])))
                clear hy
                go_wp2_with fail
                go_roundw
                case rel => exact ⟨k, n + 1, wider f lo lo, hks, by omega, rfl, by go_num, by rw [decide_eq_true (Nat.succ_pos n)]; exact HF.out, trivial⟩
                case measure => simp [intOf]; omega
              · have zk : ¬ (k : Int) < (p.size : Int) := by omega
                go_wp2_with fail
                go_roundw
                case rel => exact ⟨k, n + 1, wider f lo lo, hks, by omega, rfl, by go_num, by rw [decide_eq_true (Nat.succ_pos n)]; exact HF.out, trivial⟩
                case measure => simp [intOf]; omega
      · have HF : Hid (classM (sb p) (i + 1) = .inr (2, p.size)) := by
          show classM (sb p) (i + 1) = _
          rw [HE.out.eq, clsM, dif_neg (by rw [sb_len]; exact hlt), sb_len]
        have zj : ¬ (j : Int) < (p.size : Int) := by omega
        go_wp2_with fail
        exact bodyPost_ret (v := .tuple #[.int .i64 0, .agg #[.int .i64 2, .int .i64 (p.size : Int)]]) (class_ret rfl rfl (HS.out (.int .i64 2) (.int .i64 (p.size : Int))).1) rfl ⟨.inr ⟨2, p.size, HF.out, rfl⟩, (HS.out (.int .i64 2) (.int .i64 (p.size : Int))).2⟩
end Go.Proofs.Ythkmecppjhcidac
