import Derived.Test.YtbjbdidcnkamaaaDoorPkAI
/-
  spec.l4Class.
-/
namespace Go.Proofs.YtbjbdidcnkamaaaDoor
open Go.ChangeShapes Go.WideShapes Go.ChangeAt Go.RowKit Go.Deep
set_option linter.unusedVariables false
set_option linter.unusedSimpArgs false
set_option maxRecDepth 100000

theorem cls_go {p : List UInt8} {j : Nat} {b : Bool} {f : UInt8 → Bool} (hj : j ≤ p.length) (h : ¬ (p[j]? = some 93 ∧ b = true)) : clsM p j b f = match itemM p j with | .inr e => .inr e | .inl (a, b, k) => clsM p k true (wider f a b) := by
  cases b
  · exact cls_first hj
  · exact cls_more hj (fun q => h ⟨q, rfl⟩)
/-- What l4Class hands back. -/
def ClassP (p : ByteArray) (i : Nat) (e : Ending) : Prop :=
  (∃ f k, classM (sb p) i = .inl (f, k) ∧ e = .returned (.tuple #[.int .i64 (k : Int), .agg #[.int .i64 0, .int .i64 0]])) ∨ (∃ c k, classM (sb p) i = .inr (c, k) ∧ e = .returned (.tuple #[.int .i64 0, .agg #[.int .i64 c, .int .i64 (k : Int)]]))
theorem class_ret {base rb : Nat} {w : World} {a : Act} {x y z : Value} (hx : a.tmps.getD 4 undef = x) (ht : a.tmps.getD 5 undef = .pointer (some ⟨rb, 0, none⟩)) (he : BoxAt w base 24 2 rb [y, z]) :
    (results Tryd.f12 a.tmps).run Tryd.prog w = .ok (.tuple #[x, .agg #[y, z]]) w := by
  have q0 := he.cell (j := 0) rfl
  have q1 := he.cell (j := 1) rfl
  have h1 : a.tmps[4]?.getD undef = x := by rw [← Array.getD_eq_getD_getElem?]; exact hx
  have h2 : a.tmps[5]?.getD undef = .pointer (some ⟨rb, 0, none⟩) := by rw [← Array.getD_eq_getD_getElem?]; exact ht
  simp [results, Tryd.results12, go_sem, h1, h2, q0, q1]

set_option maxHeartbeats 8000000 in
theorem l4Class_core (p : ByteArray) (i : Nat) (w : World) (hp : p.size ≤ 200) (hi : i < p.size) :
    Calls Tryd.prog 12 #[.string p, .int .i64 (i : Int)] w fun e w' => ClassP p (i + 1) e ∧ Below w.heap.size w w' := by
  obtain ⟨W0, hW0⟩ : ∃ W0 : World, W0 = w.alloc (Obj.cells #[.int .i64 0, .int .i64 0] 24) := ⟨_, rfl⟩
  have HW0 : Hid (BoxAt W0 w.heap.size 24 2 w.heap.size [.int .i64 0, .int .i64 0] ∧ Below w.heap.size w W0) := by
    rw [hW0]; exact ⟨boxAt_new w _ (Nat.le_refl _) rfl, (Below.refl _ _).alloc (Nat.le_refl _) _⟩
  have HS : Hid (∀ a b : Value, BoxAt ((W0.setCell ⟨w.heap.size, 0, none⟩ a).setCell ⟨w.heap.size, 1, none⟩ b) w.heap.size 24 2 w.heap.size [a, b] ∧ Below w.heap.size w ((W0.setCell ⟨w.heap.size, 0, none⟩ a).setCell ⟨w.heap.size, 1, none⟩ b)) := fun a b => ⟨(HW0.out.1.set 0 a).set 1 b, below_set (below_set HW0.out.2 (Nat.le_refl _) 0 _) (Nat.le_refl _) 1 _⟩
  have r0 := HW0.out.1.cell (j := 0) rfl
  have r1 := HW0.out.1.cell (j := 1) rfl
  have f0 := HW0.out.1.frozen 0
  have f1 := HW0.out.1.frozen 1
  clear HW0
  obtain ⟨ng, j0, hng, hj0, hM0⟩ : ∃ (ng : Bool) (j0 : Nat), j0 = (if ng = true then i + 2 else i + 1) ∧ j0 ≤ p.size ∧ (ClsEq (sb p) (i + 1) ng j0 false (fun _ => false) ∧ (ng = true ↔ (sb p)[i + 1]? = some 94)) := by
    by_cases hx : (sb p)[i + 1]? = some 94
    · refine ⟨true, i + 2, rfl, by have := lt_of_at hx; rw [sb_len] at this; omega, ?_, ⟨fun _ => hx, fun _ => rfl⟩⟩
      unfold ClsEq classM; rw [if_pos hx]; rfl
    · refine ⟨false, i + 1, rfl, by omega, ?_, ⟨fun q => (by cases q), fun q => absurd q hx⟩⟩
      unfold ClsEq classM; rw [if_neg hx]
      generalize clsM (sb p) (i + 1) false (fun _ => false) = r
      cases r <;> rfl
  have HM0 : Hid (ClsEq (sb p) (i + 1) ng j0 false (fun _ => false)) := hM0.1
  have HNG : Hid (ng = true ↔ (sb p)[i + 1]? = some 94) := hM0.2
  have HJ0 : Hid (j0 = if ng = true then i + 2 else i + 1) := hng
  clear hM0 hng
  go_enter Tryd.func12, Tryd.ntmps12
  go_upto_region 1 with fail
  rw [← hW0]
  clear hW0
  -- TAIL
  by_cases hi1 : i + 1 < p.size
  · obtain ⟨x0, hx0⟩ : ∃ x, (sb p)[i + 1]? = some x := ⟨_, List.getElem?_eq_getElem (by rw [sb_len]; exact hi1)⟩
    obtain ⟨_, gx0⟩ := sb_get hx0
    have zi1 : (i : Int) + 1 < (p.size : Int) := by omega
    cases ng
    · have z94 : ((x0.toNat : Int) == 94) = false := beq_eq_false_iff_ne.2 (ne_u8 (c := 94) (fun q => by have h1 := HNG.out.2 (by rw [hx0, q]); cases h1))
      clear hx0
      go_wp2_with fail
      go_loopw [6, 7] (fun jv nv wr => ∃ (j n : Nat) (f : UInt8 → Bool), j ≤ p.size ∧ n ≤ j ∧ jv = .int .i64 (j : Int) ∧ nv = .int .i64 (n : Int) ∧ ClsEq (sb p) (i + 1) false j (decide (0 < n)) f ∧ wr = W0) (fun jv _ _ => p.size - (intOf jv).toNat)
      case atStart => exact ⟨j0, 0, fun _ => false, hj0, Nat.zero_le _, congrArg (Value.int .i64) (by rw [HJ0.out]; simp <;> omega), rfl, HM0.out, rfl⟩
      case round =>
        obtain ⟨j, n, f, hj, hnj, rfl, rfl, hE, hwr⟩ := hrel
        have HE : Hid (ClsEq (sb p) (i + 1) false j (decide (0 < n)) f) := hE
        rw [hwr]
        clear hE hwr HM0 HJ0 HNG
        by_cases hlt : j < p.size
        · obtain ⟨x, hx⟩ : ∃ x, (sb p)[j]? = some x := ⟨_, List.getElem?_eq_getElem (by rw [sb_len]; exact hlt)⟩
          obtain ⟨_, gx⟩ := sb_get hx
          have HX : Hid ((sb p)[j]? = some x) := hx
          have zj : (j : Int) < (p.size : Int) := by omega
          clear hx
          by_cases hend : x = 93 ∧ 0 < n
          · obtain ⟨rfl, hn0⟩ := hend
            have zn : (0 : Int) < (n : Int) := by omega
            have HF : Hid (∃ f', classM (sb p) (i + 1) = .inl (f', j + 1)) := by
              refine ⟨if false = true then fun c => !f c else f, ?_⟩
              rw [HE.out.eq, decide_eq_true hn0, cls_shut HX.out]
            obtain ⟨f', hf'⟩ := HF.out
            have HF' : Hid (classM (sb p) (i + 1) = .inl (f', j + 1)) := hf'
            clear hf' HF
            go_wp2_with fail
            exact bodyPost_ret (v := .tuple #[.int .i64 ((j + 1 : Nat) : Int), .agg #[.int .i64 0, .int .i64 0]]) (class_ret rfl rfl (HS.out (.int .i64 0) (.int .i64 0)).1) rfl ⟨.inl ⟨f', j + 1, HF'.out, rfl⟩, (HS.out (.int .i64 0) (.int .i64 0)).2⟩
          · have HG : Hid (clsM (sb p) j (decide (0 < n)) f = match itemM (sb p) j with | .inr e => .inr e | .inl (a, b, k) => clsM (sb p) k true (wider f a b)) := cls_go (by rw [sb_len]; omega) (fun q => hend ⟨by have h1 := q.1; rw [HX.out] at h1; exact Option.some.inj h1, by simpa using q.2⟩)
            obtain ⟨lo, k, b, hch⟩ : ∃ lo k b, chM (sb p) j = (lo, k, b) := ⟨_, _, _, rfl⟩
            have HCh : Hid (chM (sb p) j = (lo, k, b)) := hch
            have hkl : b = true → k ≤ p.size ∧ j < k := fun q => by
              subst q
              have := chM_gt hch
              rw [sb_len] at this
              omega
            clear hch
            have hpick : ((x.toNat : Int) == 93) = false ∨ (¬ (0 : Int) < (n : Int)) := by
              by_cases h93 : x = 93
              · exact .inr (fun q => hend ⟨h93, by omega⟩)
              · exact .inl (beq_eq_false_iff_ne.2 (ne_u8 (c := 93) h93))
            clear hend
            have hpk : (((x.toNat : Int) == 93) = false) ∨ (((x.toNat : Int) == 93) = true ∧ n = 0) := by
              rcases hpick with q | q
              · exact .inl q
              · cases hq : ((x.toNat : Int) == 93)
                · exact .inl rfl
                · exact .inr ⟨rfl, by omega⟩
            clear hpick
            rcases hpk with h93 | ⟨h93, hn0⟩
            case' inr =>
              have zn : ¬ (0 : Int) < (n : Int) := by omega
              clear hn0
            all_goals
              go_wp2_with fail
              refine (l4Ch_core p j W0 hp (by omega) lo k b HCh.out).mono ?_
              rintro e w1 ⟨rfl, hw1⟩
              rw [hw1]
              clear hw1
              cases b
              case false =>
                have HF : Hid (classM (sb p) (i + 1) = .inr (2, k)) := by
                  show classM (sb p) (i + 1) = _
                  rw [HE.out.eq, HG.out]
                  unfold itemM
                  rw [HCh.out]
                go_wp2_with fail
                exact bodyPost_ret (v := .tuple #[.int .i64 0, .agg #[.int .i64 2, .int .i64 (k : Int)]]) (class_ret rfl rfl (HS.out (.int .i64 2) (.int .i64 (k : Int))).1) rfl ⟨.inr ⟨2, k, HF.out, rfl⟩, (HS.out (.int .i64 2) (.int .i64 (k : Int))).2⟩
              obtain ⟨hks, hjk⟩ := hkl rfl
              clear hkl
              by_cases h45 : (sb p)[k]? = some 45
              · obtain ⟨hk2, gk⟩ := sb_get h45
                have HK : Hid ((sb p)[k]? = some 45) := h45
                have zk : (k : Int) < (p.size : Int) := by omega
                obtain ⟨hh, m, b2, hch2⟩ : ∃ hh m b2, chM (sb p) (k + 1) = (hh, m, b2) := ⟨_, _, _, rfl⟩
                have HCh2 : Hid (chM (sb p) (k + 1) = (hh, m, b2)) := hch2
                have hml : b2 = true → m ≤ p.size ∧ k < m := fun q => by
                  subst q
                  have := chM_gt hch2
                  rw [sb_len] at this
                  omega
                clear hch2 h45
                go_wp2_with fail
                refine (l4Ch_core p (k + 1) W0 hp (by omega) hh m b2 HCh2.out).mono ?_
                rintro e w2 ⟨rfl, hw2⟩
                rw [hw2]
                clear hw2
                cases b2
                · have HF : Hid (classM (sb p) (i + 1) = .inr (2, m)) := by
                    show classM (sb p) (i + 1) = _
                    rw [HE.out.eq, HG.out]
                    unfold itemM
                    rw [HCh.out]
                    simp only []
                    rw [if_pos HK.out, HCh2.out]
                  go_wp2_with fail
                  exact bodyPost_ret (v := .tuple #[.int .i64 0, .agg #[.int .i64 2, .int .i64 (m : Int)]]) (class_ret rfl rfl (HS.out (.int .i64 2) (.int .i64 (m : Int))).1) rfl ⟨.inr ⟨2, m, HF.out, rfl⟩, (HS.out (.int .i64 2) (.int .i64 (m : Int))).2⟩
                · obtain ⟨hms, hkm⟩ := hml rfl
                  clear hml
                  by_cases hlo : hh < lo
                  · have zlo : (hh.toNat : Int) < (lo.toNat : Int) := by have := UInt8.lt_iff_toNat_lt.1 hlo; omega
                    have HF : Hid (classM (sb p) (i + 1) = .inr (4, j)) := by
                      show classM (sb p) (i + 1) = _
                      rw [HE.out.eq, HG.out]
                      unfold itemM
                      rw [HCh.out]
                      simp only []
                      rw [if_pos HK.out, HCh2.out]
                      simp only []
                      rw [if_pos hlo]
                    go_wp2_with fail
                    exact bodyPost_ret (v := .tuple #[.int .i64 0, .agg #[.int .i64 4, .int .i64 (j : Int)]]) (class_ret rfl rfl (HS.out (.int .i64 4) (.int .i64 (j : Int))).1) rfl ⟨.inr ⟨4, j, HF.out, rfl⟩, (HS.out (.int .i64 4) (.int .i64 (j : Int))).2⟩
                  · have zlo : (lo.toNat : Int) ≤ (hh.toNat : Int) := by have := UInt8.le_iff_toNat_le.1 (UInt8.not_lt.1 hlo); omega
                    have HF : Hid (ClsEq (sb p) (i + 1) false m true (wider f lo hh)) := by
                      show ClsEq _ _ _ _ _ _
                      unfold ClsEq
                      rw [HE.out.eq, HG.out]
                      unfold itemM
                      rw [HCh.out]
                      simp only []
                      rw [if_pos HK.out, HCh2.out]
                      simp only []
                      rw [if_neg hlo]
                    clear hlo
                    go_wp2_with fail
                    go_roundw
                    case rel => exact ⟨m, n + 1, wider f lo hh, hms, by omega, rfl, by go_num, by rw [decide_eq_true (Nat.succ_pos n)]; exact HF.out, trivial⟩
                    case measure => simp [intOf]; omega
              · have HK : Hid (¬ (sb p)[k]? = some 45) := h45
                have HF : Hid (ClsEq (sb p) (i + 1) false k true (wider f lo lo)) := by
                  show ClsEq _ _ _ _ _ _
                  unfold ClsEq
                  rw [HE.out.eq, HG.out]
                  unfold itemM
                  rw [HCh.out]
                  simp only []
                  rw [if_neg HK.out]
                clear h45
                by_cases hke : k < p.size
                · obtain ⟨y, hy⟩ : ∃ y, (sb p)[k]? = some y := ⟨_, List.getElem?_eq_getElem (by rw [sb_len]; exact hke)⟩
                  obtain ⟨_, gy⟩ := sb_get hy
                  have zk : (k : Int) < (p.size : Int) := by omega
                  have zy : ((y.toNat : Int) == 45) = false := beq_eq_false_iff_ne.2 (ne_u8 (c := 45) (fun q => HK.out (by rw [hy, q])))
                  clear hy
                  go_wp2_with fail
                  go_roundw
                  case rel => exact ⟨k, n + 1, wider f lo lo, hks, by omega, rfl, by go_num, by rw [decide_eq_true (Nat.succ_pos n)]; exact HF.out, trivial⟩
                  case measure => simp [intOf]; omega
                · have zk : ¬ (k : Int) < (p.size : Int) := by omega
                  go_wp2_with fail
                  go_roundw
                  case rel => exact ⟨k, n + 1, wider f lo lo, hks, by omega, rfl, by go_num, by rw [decide_eq_true (Nat.succ_pos n)]; exact HF.out, trivial⟩
                  case measure => simp [intOf]; omega
        · have HF : Hid (classM (sb p) (i + 1) = .inr (2, p.size)) := by
            show classM (sb p) (i + 1) = _
            rw [HE.out.eq, clsM, dif_neg (by rw [sb_len]; exact hlt), sb_len]
          have zj : ¬ (j : Int) < (p.size : Int) := by omega
          go_wp2_with fail
          exact bodyPost_ret (v := .tuple #[.int .i64 0, .agg #[.int .i64 2, .int .i64 (p.size : Int)]]) (class_ret rfl rfl (HS.out (.int .i64 2) (.int .i64 (p.size : Int))).1) rfl ⟨.inr ⟨2, p.size, HF.out, rfl⟩, (HS.out (.int .i64 2) (.int .i64 (p.size : Int))).2⟩
    · have h94 : x0 = 94 := by have h1 := HNG.out.1 rfl; rw [hx0] at h1; exact Option.some.inj h1
      subst h94
      clear hx0
      go_wp2_with fail
      go_loopw [6, 7] (fun jv nv wr => ∃ (j n : Nat) (f : UInt8 → Bool), j ≤ p.size ∧ n ≤ j ∧ jv = .int .i64 (j : Int) ∧ nv = .int .i64 (n : Int) ∧ ClsEq (sb p) (i + 1) true j (decide (0 < n)) f ∧ wr = W0) (fun jv _ _ => p.size - (intOf jv).toNat)
      case atStart => exact ⟨j0, 0, fun _ => false, hj0, Nat.zero_le _, congrArg (Value.int .i64) (by rw [HJ0.out]; simp <;> omega), rfl, HM0.out, rfl⟩
      case round =>
        obtain ⟨j, n, f, hj, hnj, rfl, rfl, hE, hwr⟩ := hrel
        have HE : Hid (ClsEq (sb p) (i + 1) true j (decide (0 < n)) f) := hE
        rw [hwr]
        clear hE hwr HM0 HJ0 HNG
        by_cases hlt : j < p.size
        · obtain ⟨x, hx⟩ : ∃ x, (sb p)[j]? = some x := ⟨_, List.getElem?_eq_getElem (by rw [sb_len]; exact hlt)⟩
          obtain ⟨_, gx⟩ := sb_get hx
          have HX : Hid ((sb p)[j]? = some x) := hx
          have zj : (j : Int) < (p.size : Int) := by omega
          clear hx
          by_cases hend : x = 93 ∧ 0 < n
          · obtain ⟨rfl, hn0⟩ := hend
            have zn : (0 : Int) < (n : Int) := by omega
            have HF : Hid (∃ f', classM (sb p) (i + 1) = .inl (f', j + 1)) := by
              refine ⟨if true = true then fun c => !f c else f, ?_⟩
              rw [HE.out.eq, decide_eq_true hn0, cls_shut HX.out]
            obtain ⟨f', hf'⟩ := HF.out
            have HF' : Hid (classM (sb p) (i + 1) = .inl (f', j + 1)) := hf'
            clear hf' HF
            go_wp2_with fail
            exact bodyPost_ret (v := .tuple #[.int .i64 ((j + 1 : Nat) : Int), .agg #[.int .i64 0, .int .i64 0]]) (class_ret rfl rfl (HS.out (.int .i64 0) (.int .i64 0)).1) rfl ⟨.inl ⟨f', j + 1, HF'.out, rfl⟩, (HS.out (.int .i64 0) (.int .i64 0)).2⟩
          · have HG : Hid (clsM (sb p) j (decide (0 < n)) f = match itemM (sb p) j with | .inr e => .inr e | .inl (a, b, k) => clsM (sb p) k true (wider f a b)) := cls_go (by rw [sb_len]; omega) (fun q => hend ⟨by have h1 := q.1; rw [HX.out] at h1; exact Option.some.inj h1, by simpa using q.2⟩)
            obtain ⟨lo, k, b, hch⟩ : ∃ lo k b, chM (sb p) j = (lo, k, b) := ⟨_, _, _, rfl⟩
            have HCh : Hid (chM (sb p) j = (lo, k, b)) := hch
            have hkl : b = true → k ≤ p.size ∧ j < k := fun q => by
              subst q
              have := chM_gt hch
              rw [sb_len] at this
              omega
            clear hch
            have hpick : ((x.toNat : Int) == 93) = false ∨ (¬ (0 : Int) < (n : Int)) := by
              by_cases h93 : x = 93
              · exact .inr (fun q => hend ⟨h93, by omega⟩)
              · exact .inl (beq_eq_false_iff_ne.2 (ne_u8 (c := 93) h93))
            clear hend
            have hpk : (((x.toNat : Int) == 93) = false) ∨ (((x.toNat : Int) == 93) = true ∧ n = 0) := by
              rcases hpick with q | q
              · exact .inl q
              · cases hq : ((x.toNat : Int) == 93)
                · exact .inl rfl
                · exact .inr ⟨rfl, by omega⟩
            clear hpick
            rcases hpk with h93 | ⟨h93, hn0⟩
            case' inr =>
              have zn : ¬ (0 : Int) < (n : Int) := by omega
              clear hn0
            all_goals
              go_wp2_with fail
              refine (l4Ch_core p j W0 hp (by omega) lo k b HCh.out).mono ?_
              rintro e w1 ⟨rfl, hw1⟩
              rw [hw1]
              clear hw1
              cases b
              case false =>
                have HF : Hid (classM (sb p) (i + 1) = .inr (2, k)) := by
                  show classM (sb p) (i + 1) = _
                  rw [HE.out.eq, HG.out]
                  unfold itemM
                  rw [HCh.out]
                go_wp2_with fail
                exact bodyPost_ret (v := .tuple #[.int .i64 0, .agg #[.int .i64 2, .int .i64 (k : Int)]]) (class_ret rfl rfl (HS.out (.int .i64 2) (.int .i64 (k : Int))).1) rfl ⟨.inr ⟨2, k, HF.out, rfl⟩, (HS.out (.int .i64 2) (.int .i64 (k : Int))).2⟩
              obtain ⟨hks, hjk⟩ := hkl rfl
              clear hkl
              by_cases h45 : (sb p)[k]? = some 45
              · obtain ⟨hk2, gk⟩ := sb_get h45
                have HK : Hid ((sb p)[k]? = some 45) := h45
                have zk : (k : Int) < (p.size : Int) := by omega
                obtain ⟨hh, m, b2, hch2⟩ : ∃ hh m b2, chM (sb p) (k + 1) = (hh, m, b2) := ⟨_, _, _, rfl⟩
                have HCh2 : Hid (chM (sb p) (k + 1) = (hh, m, b2)) := hch2
                have hml : b2 = true → m ≤ p.size ∧ k < m := fun q => by
                  subst q
                  have := chM_gt hch2
                  rw [sb_len] at this
                  omega
                clear hch2 h45
                go_wp2_with fail
                refine (l4Ch_core p (k + 1) W0 hp (by omega) hh m b2 HCh2.out).mono ?_
                rintro e w2 ⟨rfl, hw2⟩
                rw [hw2]
                clear hw2
                cases b2
                · have HF : Hid (classM (sb p) (i + 1) = .inr (2, m)) := by
                    show classM (sb p) (i + 1) = _
                    rw [HE.out.eq, HG.out]
                    unfold itemM
                    rw [HCh.out]
                    simp only []
                    rw [if_pos HK.out, HCh2.out]
                  go_wp2_with fail
                  exact bodyPost_ret (v := .tuple #[.int .i64 0, .agg #[.int .i64 2, .int .i64 (m : Int)]]) (class_ret rfl rfl (HS.out (.int .i64 2) (.int .i64 (m : Int))).1) rfl ⟨.inr ⟨2, m, HF.out, rfl⟩, (HS.out (.int .i64 2) (.int .i64 (m : Int))).2⟩
                · obtain ⟨hms, hkm⟩ := hml rfl
                  clear hml
                  by_cases hlo : hh < lo
                  · have zlo : (hh.toNat : Int) < (lo.toNat : Int) := by have := UInt8.lt_iff_toNat_lt.1 hlo; omega
                    have HF : Hid (classM (sb p) (i + 1) = .inr (4, j)) := by
                      show classM (sb p) (i + 1) = _
                      rw [HE.out.eq, HG.out]
                      unfold itemM
                      rw [HCh.out]
                      simp only []
                      rw [if_pos HK.out, HCh2.out]
                      simp only []
                      rw [if_pos hlo]
                    go_wp2_with fail
                    exact bodyPost_ret (v := .tuple #[.int .i64 0, .agg #[.int .i64 4, .int .i64 (j : Int)]]) (class_ret rfl rfl (HS.out (.int .i64 4) (.int .i64 (j : Int))).1) rfl ⟨.inr ⟨4, j, HF.out, rfl⟩, (HS.out (.int .i64 4) (.int .i64 (j : Int))).2⟩
                  · have zlo : (lo.toNat : Int) ≤ (hh.toNat : Int) := by have := UInt8.le_iff_toNat_le.1 (UInt8.not_lt.1 hlo); omega
                    have HF : Hid (ClsEq (sb p) (i + 1) true m true (wider f lo hh)) := by
                      show ClsEq _ _ _ _ _ _
                      unfold ClsEq
                      rw [HE.out.eq, HG.out]
                      unfold itemM
                      rw [HCh.out]
                      simp only []
                      rw [if_pos HK.out, HCh2.out]
                      simp only []
                      rw [if_neg hlo]
                    clear hlo
                    go_wp2_with fail
                    go_roundw
                    case rel => exact ⟨m, n + 1, wider f lo hh, hms, by omega, rfl, by go_num, by rw [decide_eq_true (Nat.succ_pos n)]; exact HF.out, trivial⟩
                    case measure => simp [intOf]; omega
              · have HK : Hid (¬ (sb p)[k]? = some 45) := h45
                have HF : Hid (ClsEq (sb p) (i + 1) true k true (wider f lo lo)) := by
                  show ClsEq _ _ _ _ _ _
                  unfold ClsEq
                  rw [HE.out.eq, HG.out]
                  unfold itemM
                  rw [HCh.out]
                  simp only []
                  rw [if_neg HK.out]
                clear h45
                by_cases hke : k < p.size
                · obtain ⟨y, hy⟩ : ∃ y, (sb p)[k]? = some y := ⟨_, List.getElem?_eq_getElem (by rw [sb_len]; exact hke)⟩
                  obtain ⟨_, gy⟩ := sb_get hy
                  have zk : (k : Int) < (p.size : Int) := by omega
                  have zy : ((y.toNat : Int) == 45) = false := beq_eq_false_iff_ne.2 (ne_u8 (c := 45) (fun q => HK.out (by rw [hy, q])))
                  clear hy
                  go_wp2_with fail
                  go_roundw
                  case rel => exact ⟨k, n + 1, wider f lo lo, hks, by omega, rfl, by go_num, by rw [decide_eq_true (Nat.succ_pos n)]; exact HF.out, trivial⟩
                  case measure => simp [intOf]; omega
                · have zk : ¬ (k : Int) < (p.size : Int) := by omega
                  go_wp2_with fail
                  go_roundw
                  case rel => exact ⟨k, n + 1, wider f lo lo, hks, by omega, rfl, by go_num, by rw [decide_eq_true (Nat.succ_pos n)]; exact HF.out, trivial⟩
                  case measure => simp [intOf]; omega
        · have HF : Hid (classM (sb p) (i + 1) = .inr (2, p.size)) := by
            show classM (sb p) (i + 1) = _
            rw [HE.out.eq, clsM, dif_neg (by rw [sb_len]; exact hlt), sb_len]
          have zj : ¬ (j : Int) < (p.size : Int) := by omega
          go_wp2_with fail
          exact bodyPost_ret (v := .tuple #[.int .i64 0, .agg #[.int .i64 2, .int .i64 (p.size : Int)]]) (class_ret rfl rfl (HS.out (.int .i64 2) (.int .i64 (p.size : Int))).1) rfl ⟨.inr ⟨2, p.size, HF.out, rfl⟩, (HS.out (.int .i64 2) (.int .i64 (p.size : Int))).2⟩
  · have zi1 : ¬ (i : Int) + 1 < (p.size : Int) := by omega
    cases ng
    case true => exact absurd (HNG.out.1 rfl) (by rw [List.getElem?_eq_none (by rw [sb_len]; omega)]; exact fun q => by cases q)
    go_wp2_with fail
    go_loopw [6, 7] (fun jv nv wr => ∃ (j n : Nat) (f : UInt8 → Bool), j ≤ p.size ∧ n ≤ j ∧ jv = .int .i64 (j : Int) ∧ nv = .int .i64 (n : Int) ∧ ClsEq (sb p) (i + 1) false j (decide (0 < n)) f ∧ wr = W0) (fun jv _ _ => p.size - (intOf jv).toNat)
    case atStart => exact ⟨j0, 0, fun _ => false, hj0, Nat.zero_le _, congrArg (Value.int .i64) (by rw [HJ0.out]; simp <;> omega), rfl, HM0.out, rfl⟩
    case round =>
      obtain ⟨j, n, f, hj, hnj, rfl, rfl, hE, hwr⟩ := hrel
      have HE : Hid (ClsEq (sb p) (i + 1) false j (decide (0 < n)) f) := hE
      rw [hwr]
      clear hE hwr HM0 HJ0 HNG
      by_cases hlt : j < p.size
      · obtain ⟨x, hx⟩ : ∃ x, (sb p)[j]? = some x := ⟨_, List.getElem?_eq_getElem (by rw [sb_len]; exact hlt)⟩
        obtain ⟨_, gx⟩ := sb_get hx
        have HX : Hid ((sb p)[j]? = some x) := hx
        have zj : (j : Int) < (p.size : Int) := by omega
        clear hx
        by_cases hend : x = 93 ∧ 0 < n
        · obtain ⟨rfl, hn0⟩ := hend
          have zn : (0 : Int) < (n : Int) := by omega
          have HF : Hid (∃ f', classM (sb p) (i + 1) = .inl (f', j + 1)) := by
            refine ⟨if false = true then fun c => !f c else f, ?_⟩
            rw [HE.out.eq, decide_eq_true hn0, cls_shut HX.out]
          obtain ⟨f', hf'⟩ := HF.out
          have HF' : Hid (classM (sb p) (i + 1) = .inl (f', j + 1)) := hf'
          clear hf' HF
          go_wp2_with fail
          exact bodyPost_ret (v := .tuple #[.int .i64 ((j + 1 : Nat) : Int), .agg #[.int .i64 0, .int .i64 0]]) (class_ret rfl rfl (HS.out (.int .i64 0) (.int .i64 0)).1) rfl ⟨.inl ⟨f', j + 1, HF'.out, rfl⟩, (HS.out (.int .i64 0) (.int .i64 0)).2⟩
        · have HG : Hid (clsM (sb p) j (decide (0 < n)) f = match itemM (sb p) j with | .inr e => .inr e | .inl (a, b, k) => clsM (sb p) k true (wider f a b)) := cls_go (by rw [sb_len]; omega) (fun q => hend ⟨by have h1 := q.1; rw [HX.out] at h1; exact Option.some.inj h1, by simpa using q.2⟩)
          obtain ⟨lo, k, b, hch⟩ : ∃ lo k b, chM (sb p) j = (lo, k, b) := ⟨_, _, _, rfl⟩
          have HCh : Hid (chM (sb p) j = (lo, k, b)) := hch
          have hkl : b = true → k ≤ p.size ∧ j < k := fun q => by
            subst q
            have := chM_gt hch
            rw [sb_len] at this
            omega
          clear hch
          have hpick : ((x.toNat : Int) == 93) = false ∨ (¬ (0 : Int) < (n : Int)) := by
            by_cases h93 : x = 93
            · exact .inr (fun q => hend ⟨h93, by omega⟩)
            · exact .inl (beq_eq_false_iff_ne.2 (ne_u8 (c := 93) h93))
          clear hend
          have hpk : (((x.toNat : Int) == 93) = false) ∨ (((x.toNat : Int) == 93) = true ∧ n = 0) := by
            rcases hpick with q | q
            · exact .inl q
            · cases hq : ((x.toNat : Int) == 93)
              · exact .inl rfl
              · exact .inr ⟨rfl, by omega⟩
          clear hpick
          rcases hpk with h93 | ⟨h93, hn0⟩
          case' inr =>
            have zn : ¬ (0 : Int) < (n : Int) := by omega
            clear hn0
          all_goals
            go_wp2_with fail
            refine (l4Ch_core p j W0 hp (by omega) lo k b HCh.out).mono ?_
            rintro e w1 ⟨rfl, hw1⟩
            rw [hw1]
            clear hw1
            cases b
            case false =>
              have HF : Hid (classM (sb p) (i + 1) = .inr (2, k)) := by
                show classM (sb p) (i + 1) = _
                rw [HE.out.eq, HG.out]
                unfold itemM
                rw [HCh.out]
              go_wp2_with fail
              exact bodyPost_ret (v := .tuple #[.int .i64 0, .agg #[.int .i64 2, .int .i64 (k : Int)]]) (class_ret rfl rfl (HS.out (.int .i64 2) (.int .i64 (k : Int))).1) rfl ⟨.inr ⟨2, k, HF.out, rfl⟩, (HS.out (.int .i64 2) (.int .i64 (k : Int))).2⟩
            obtain ⟨hks, hjk⟩ := hkl rfl
            clear hkl
            by_cases h45 : (sb p)[k]? = some 45
            · obtain ⟨hk2, gk⟩ := sb_get h45
              have HK : Hid ((sb p)[k]? = some 45) := h45
              have zk : (k : Int) < (p.size : Int) := by omega
              obtain ⟨hh, m, b2, hch2⟩ : ∃ hh m b2, chM (sb p) (k + 1) = (hh, m, b2) := ⟨_, _, _, rfl⟩
              have HCh2 : Hid (chM (sb p) (k + 1) = (hh, m, b2)) := hch2
              have hml : b2 = true → m ≤ p.size ∧ k < m := fun q => by
                subst q
                have := chM_gt hch2
                rw [sb_len] at this
                omega
              clear hch2 h45
              go_wp2_with fail
              refine (l4Ch_core p (k + 1) W0 hp (by omega) hh m b2 HCh2.out).mono ?_
              rintro e w2 ⟨rfl, hw2⟩
              rw [hw2]
              clear hw2
              cases b2
              · have HF : Hid (classM (sb p) (i + 1) = .inr (2, m)) := by
                  show classM (sb p) (i + 1) = _
                  rw [HE.out.eq, HG.out]
                  unfold itemM
                  rw [HCh.out]
                  simp only []
                  rw [if_pos HK.out, HCh2.out]
                go_wp2_with fail
                exact bodyPost_ret (v := .tuple #[.int .i64 0, .agg #[.int .i64 2, .int .i64 (m : Int)]]) (class_ret rfl rfl (HS.out (.int .i64 2) (.int .i64 (m : Int))).1) rfl ⟨.inr ⟨2, m, HF.out, rfl⟩, (HS.out (.int .i64 2) (.int .i64 (m : Int))).2⟩
              · obtain ⟨hms, hkm⟩ := hml rfl
                clear hml
                by_cases hlo : hh < lo
                · have zlo : (hh.toNat : Int) < (lo.toNat : Int) := by have := UInt8.lt_iff_toNat_lt.1 hlo; omega
                  have HF : Hid (classM (sb p) (i + 1) = .inr (4, j)) := by
                    show classM (sb p) (i + 1) = _
                    rw [HE.out.eq, HG.out]
                    unfold itemM
                    rw [HCh.out]
                    simp only []
                    rw [if_pos HK.out, HCh2.out]
                    simp only []
                    rw [if_pos hlo]
                  go_wp2_with fail
                  exact bodyPost_ret (v := .tuple #[.int .i64 0, .agg #[.int .i64 4, .int .i64 (j : Int)]]) (class_ret rfl rfl (HS.out (.int .i64 4) (.int .i64 (j : Int))).1) rfl ⟨.inr ⟨4, j, HF.out, rfl⟩, (HS.out (.int .i64 4) (.int .i64 (j : Int))).2⟩
                · have zlo : (lo.toNat : Int) ≤ (hh.toNat : Int) := by have := UInt8.le_iff_toNat_le.1 (UInt8.not_lt.1 hlo); omega
                  have HF : Hid (ClsEq (sb p) (i + 1) false m true (wider f lo hh)) := by
                    show ClsEq _ _ _ _ _ _
                    unfold ClsEq
                    rw [HE.out.eq, HG.out]
                    unfold itemM
                    rw [HCh.out]
                    simp only []
                    rw [if_pos HK.out, HCh2.out]
                    simp only []
                    rw [if_neg hlo]
                  clear hlo
                  go_wp2_with fail
                  go_roundw
                  case rel => exact ⟨m, n + 1, wider f lo hh, hms, by omega, rfl, by go_num, by rw [decide_eq_true (Nat.succ_pos n)]; exact HF.out, trivial⟩
                  case measure => simp [intOf]; omega
            · have HK : Hid (¬ (sb p)[k]? = some 45) := h45
              have HF : Hid (ClsEq (sb p) (i + 1) false k true (wider f lo lo)) := by
                show ClsEq _ _ _ _ _ _
                unfold ClsEq
                rw [HE.out.eq, HG.out]
                unfold itemM
                rw [HCh.out]
                simp only []
                rw [if_neg HK.out]
              clear h45
              by_cases hke : k < p.size
              · obtain ⟨y, hy⟩ : ∃ y, (sb p)[k]? = some y := ⟨_, List.getElem?_eq_getElem (by rw [sb_len]; exact hke)⟩
                obtain ⟨_, gy⟩ := sb_get hy
                have zk : (k : Int) < (p.size : Int) := by omega
                have zy : ((y.toNat : Int) == 45) = false := beq_eq_false_iff_ne.2 (ne_u8 (c := 45) (fun q => HK.out (by rw [hy, q])))
                clear hy
                go_wp2_with fail
                go_roundw
                case rel => exact ⟨k, n + 1, wider f lo lo, hks, by omega, rfl, by go_num, by rw [decide_eq_true (Nat.succ_pos n)]; exact HF.out, trivial⟩
                case measure => simp [intOf]; omega
              · have zk : ¬ (k : Int) < (p.size : Int) := by omega
                go_wp2_with fail
                go_roundw
                case rel => exact ⟨k, n + 1, wider f lo lo, hks, by omega, rfl, by go_num, by rw [decide_eq_true (Nat.succ_pos n)]; exact HF.out, trivial⟩
                case measure => simp [intOf]; omega
      · have HF : Hid (classM (sb p) (i + 1) = .inr (2, p.size)) := by
          show classM (sb p) (i + 1) = _
          rw [HE.out.eq, clsM, dif_neg (by rw [sb_len]; exact hlt), sb_len]
        have zj : ¬ (j : Int) < (p.size : Int) := by omega
        go_wp2_with fail
        exact bodyPost_ret (v := .tuple #[.int .i64 0, .agg #[.int .i64 2, .int .i64 (p.size : Int)]]) (class_ret rfl rfl (HS.out (.int .i64 2) (.int .i64 (p.size : Int))).1) rfl ⟨.inr ⟨2, p.size, HF.out, rfl⟩, (HS.out (.int .i64 2) (.int .i64 (p.size : Int))).2⟩
end Go.Proofs.YtbjbdidcnkamaaaDoor

/-
  spec.l4AtomEnd.
-/
namespace Go.Proofs.YtbjbdidcnkamaaaDoor
open Go.ChangeShapes Go.WideShapes Go.ChangeAt Go.RowKit Go.Deep
set_option linter.unusedVariables false
set_option linter.unusedSimpArgs false
set_option maxRecDepth 100000

theorem cut_head {p : List UInt8} {j m : Nat} {c : UInt8} {zs : List UInt8} (h : cut p j m = c :: zs) (hm : m ≤ p.length) : p[j]? = some c ∧ cut p (j + 1) m = zs ∧ j < m := by
  have hl := congrArg List.length h
  rw [cut_len hm] at hl
  simp at hl
  have hj : j < m := by omega
  obtain ⟨d, hd⟩ : ∃ d, p[j]? = some d := ⟨_, List.getElem?_eq_getElem (by omega)⟩
  rw [cut_cat (show j ≤ j + 1 by omega) (show j + 1 ≤ m by omega), cut_one hd] at h
  simp at h
  exact ⟨by rw [hd, h.1], h.2, hj⟩
theorem cut_two {p : List UInt8} {j m : Nat} {xs zs : List UInt8} (h : cut p j m = xs ++ zs) (hm : m ≤ p.length) : cut p j (j + xs.length) = xs ∧ cut p (j + xs.length) m = zs ∧ j + xs.length ≤ max j m := by
  have hl := congrArg List.length h
  rw [cut_len hm, List.length_append] at hl
  by_cases hjm : j ≤ m
  · have h1 := cut_cat (p := p) (show j ≤ j + xs.length by omega) (show j + xs.length ≤ m by omega)
    rw [h] at h1
    have h2 := List.append_inj h1 (by rw [cut_len (by omega)]; omega)
    exact ⟨h2.1.symm, h2.2.symm, by omega⟩
  · have hx : xs = [] := List.length_eq_zero_iff.1 (by omega)
    subst hx
    refine ⟨by simp [cut_nil], by simpa using h, by simp; omega⟩
theorem tok_step {A : List UInt8 → Pat → Prop} {xs : List UInt8} (h : TokG A xs) (hA : ∀ ys t, A ys t → ys ≠ []) : xs = [] ∨ (∃ c zs, xs = c :: zs ∧ (c = 124 ∨ isOp c) ∧ TokG A zs) ∨ (∃ ys zs t, xs = ys ++ zs ∧ A ys t ∧ TokG A zs) := by
  cases h with
  | nil => exact .inl rfl
  | sign hc h => exact .inr (.inl ⟨_, _, rfl, hc, h⟩)
  | atom ha h => exact .inr (.inr ⟨_, _, _, rfl, ha, h⟩)

/-- The contract, up to a depth. -/
def EndC (p : ByteArray) (n : Nat) : Prop := ∀ (i k : Nat) (t : Pat) (w : World), AtomG n (cut (sb p) i k) t → k ≤ p.size → Calls Tryd.prog 27 #[.string p, .int .i64 (i : Int)] w fun e w' => e = .returned (.int .i64 (k : Int)) ∧ Below w.heap.size w w'
set_option maxHeartbeats 8000000 in
theorem end_of {p : ByteArray} (hp : p.size ≤ 200) {n : Nat} (H : EndC p n) : EndC p (n + 1) := by
  intro i k t w hA hk
  have hkl : k ≤ (sb p).length := by rw [sb_len]; exact hk
  obtain ⟨c, ys, hc, _⟩ := hA.first
  obtain ⟨hpi, _, hik⟩ := cut_head hc hkl
  obtain ⟨hi, gi⟩ := sb_get hpi
  have zi : (i : Int) < (p.size : Int) := by omega
  have hlen := cut_len (p := sb p) (i := i) hkl
  have HP : Hid ((sb p)[i]? = some c ∧ (cut (sb p) i k).length = k - i) := ⟨hpi, hlen⟩
  clear hc hpi hlen
  have one : ∀ d, ¬ d = 92 → ¬ d = 91 → ¬ d = 40 → c = d → k = i + 1 → Calls Tryd.prog 27 #[.string p, .int .i64 (i : Int)] w fun e w' => e = .returned (.int .i64 (k : Int)) ∧ Below w.heap.size w w' := fun d h92 h91 h40 hcd hk1 => by
    subst hcd hk1
    have z92 : ((c.toNat : Int) == 92) = false := beq_eq_false_iff_ne.2 (ne_u8 (c := 92) h92)
    have z91 : ((c.toNat : Int) == 91) = false := beq_eq_false_iff_ne.2 (ne_u8 (c := 91) h91)
    have z40 : ((c.toNat : Int) != 40) = true := by have := ne_u8 (c := 40) h40; simpa using this
    go_enter Tryd.func27, Tryd.ntmps27
    go_wp2_with fail
    go_ret
    exact ⟨rfl, Below.refl _ _⟩
  have hA' := hA
  rcases hA with ⟨d, h1, hs, _⟩ | ⟨h1, _⟩ | ⟨d, h1, _⟩ | ⟨zs, os, h1, hT, _⟩ | ⟨q, j, m, f, h1, h2, h3, _⟩
  · have hk1 : k = i + 1 := by have := HP.out.2; rw [h1] at this; simp at this; omega
    have hcd : c = d := by have := (cut_head h1 hkl).1; rw [HP.out.1] at this; exact Option.some.inj this
    exact one d (fun q => hs (.inr (.inr (.inr (.inr q))))) (fun q => hs (.inr (.inr (.inl q)))) (fun q => hs (.inr (.inl q))) hcd hk1
  · have hk1 : k = i + 1 := by have := HP.out.2; rw [h1] at this; simp at this; omega
    have hcd : c = 46 := by have := (cut_head h1 hkl).1; rw [HP.out.1] at this; exact Option.some.inj this
    exact one 46 (by decide) (by decide) (by decide) hcd hk1
  · have hk1 : k = i + 2 := by have := HP.out.2; rw [h1] at this; simp at this; omega
    have hcd : c = 92 := by have := (cut_head h1 hkl).1; rw [HP.out.1] at this; exact Option.some.inj this
    subst hcd hk1
    clear one
    go_enter Tryd.func27, Tryd.ntmps27
    go_wp2_with fail
    go_ret
    exact ⟨rfl, Below.refl _ _⟩
  · obtain ⟨hp40, hrest, _⟩ := cut_head (zs := zs ++ [41]) (by simpa using h1) hkl
    have hc40 : c = 40 := by rw [HP.out.1] at hp40; exact Option.some.inj hp40
    subst hc40
    obtain ⟨hz1, hz2, hz3⟩ := cut_two hrest hkl
    obtain ⟨e, he⟩ : ∃ e, e = i + 1 + zs.length := ⟨_, rfl⟩
    rw [← he] at hz1 hz2 hz3
    obtain ⟨h41, hz4, hek⟩ := cut_head hz2 hkl
    have hk1 : k = e + 1 := by
      have h3 := cut_len (p := sb p) (i := e + 1) hkl
      rw [hz4] at h3
      simp at h3
      omega
    obtain ⟨hel, ge⟩ := sb_get h41
    have HT : Hid (TokG (AtomG n) (cut (sb p) (i + 1) e)) := by
      show TokG (AtomG n) (cut (sb p) (i + 1) e)
      rw [hz1]; exact hT.tok
    have hie : i + 1 ≤ e := by omega
    have HK : Hid (k = e + 1) := hk1
    have HH : Hid (EndC p n) := H
    clear one h1 hT hA' hrest hz1 hz2 hz3 hz4 h41 hp40 he hk1 H
    go_enter Tryd.func27, Tryd.ntmps27
    go_wp2_with fail
    go_loopw [7] (fun jv wr => ∃ (j : Nat), jv = .int .i64 (j : Int) ∧ i + 1 ≤ j ∧ j ≤ e ∧ TokG (AtomG n) (cut (sb p) j e) ∧ Below w.heap.size w wr) (fun jv _ => e - (intOf jv).toNat)
    case atStart => exact ⟨i + 1, by go_num, Nat.le_refl _, hie, HT.out, Below.refl _ _⟩
    case round =>
      obtain ⟨j, rfl, hj1, hj2, hTok, hb⟩ := hrel
      have HTk : Hid (TokG (AtomG n) (cut (sb p) j e)) := hTok
      have hs := hb.size
      clear hTok HT
      have hel2 : e ≤ (sb p).length := by rw [sb_len]; omega
      have hjp : j < p.size := by omega
      have zj : (j : Int) < (p.size : Int) := by omega
      by_cases hje : j = e
      · subst hje
        go_wp2_with fail
        go_ret
        exact ⟨by rw [HK.out]; rfl, hb⟩
      · have hst := tok_step HTk.out (fun ys t q => by obtain ⟨c, zs, h, _⟩ := q.first; rw [h]; simp)
        rcases hst with h0 | ⟨c', zs', h0, hsg, hTk'⟩ | ⟨ys', zs', t', h0, hA1, hTk'⟩
        · have h3 := cut_len (p := sb p) (i := j) hel2
          rw [h0] at h3
          simp at h3
          omega
        · obtain ⟨hpj, hcj, hlt⟩ := cut_head h0 hel2
          obtain ⟨_, gj⟩ := sb_get hpj
          have HN : Hid (TokG (AtomG n) (cut (sb p) (j + 1) e)) := by
            show TokG (AtomG n) (cut (sb p) (j + 1) e)
            rw [hcj]; exact hTk'
          have n41 : ((c'.toNat : Int) != 41) = true := by
            have h5 : ¬ c' = 41 := fun q => by subst q; rcases hsg with q | q | q | q <;> exact absurd q (by decide)
            have := ne_u8 (c := 41) h5
            simpa using this
          clear hpj hcj h0 hTk' HTk
          by_cases h124 : c' = 124
          · subst h124
            clear hsg
            go_wp2_with fail
            go_roundw
            case rel => exact ⟨j + 1, by go_num, by omega, by omega, HN.out, hb⟩
            case measure => simp [intOf]; omega
          · have z124 : ((c'.toNat : Int) == 124) = false := beq_eq_false_iff_ne.2 (ne_u8 (c := 124) h124)
            have hop : isOp c' := hsg.elim (fun q => absurd q h124) (fun q => q)
            have HOp : Hid (Calls Tryd.prog 11 #[.int .u8 (c'.toNat : Int)] wr fun e w' => e = .returned (.bool true) ∧ w' = wr) := by
              have := l4Op_core c' wr
              rw [decide_eq_true hop] at this
              exact this
            clear hsg hop
            go_wp2_with fail
            refine HOp.out.mono ?_
            rintro e' w5 ⟨rfl, hw5⟩
            rw [hw5]
            clear hw5
            go_wp2_with fail
            go_roundw
            case rel => exact ⟨j + 1, by go_num, by omega, by omega, HN.out, hb⟩
            case measure => simp [intOf]; omega
        · obtain ⟨hy1, hy2, hy3⟩ := cut_two h0 hel2
          obtain ⟨c', yt, hyc, n41, n124, nop⟩ := hA1.first
          have hylen : 0 < ys'.length := by rw [hyc]; simp
          have hje2 : j + ys'.length ≤ e := by omega
          obtain ⟨hpj, _, _⟩ := cut_head (c := c') (zs := yt) (by rw [hy1]; exact hyc) (by rw [sb_len]; omega)
          obtain ⟨_, gj⟩ := sb_get hpj
          have z41 : ((c'.toNat : Int) != 41) = true := by have := ne_u8 (c := 41) n41; simpa using this
          have z124 : ((c'.toNat : Int) == 124) = false := beq_eq_false_iff_ne.2 (ne_u8 (c := 124) n124)
          have HOp : Hid (Calls Tryd.prog 11 #[.int .u8 (c'.toNat : Int)] wr fun e w' => e = .returned (.bool false) ∧ w' = wr) := by
            have := l4Op_core c' wr
            rw [decide_eq_false nop] at this
            exact this
          have HN : Hid (TokG (AtomG n) (cut (sb p) (j + ys'.length) e)) := by
            show TokG (AtomG n) (cut (sb p) (j + ys'.length) e)
            rw [hy2]; exact hTk'
          obtain ⟨m, hm⟩ : ∃ m, m = j + ys'.length := ⟨_, rfl⟩
          have HCall : Hid (Calls Tryd.prog 27 #[.string p, .int .i64 (j : Int)] wr fun e w' => e = .returned (.int .i64 (m : Int)) ∧ Below wr.heap.size wr w') := by
            rw [hm]
            exact HH.out j (j + ys'.length) t' wr (by rw [hy1]; exact hA1) (by omega)
          rw [← hm] at HN hje2
          have hjm : j < m := by omega
          clear h0 hTk' HTk hA1 hy1 hy2 hy3 hyc hpj n41 n124 nop hm hylen
          go_wp2_with fail
          refine HOp.out.mono ?_
          rintro e' w5 ⟨rfl, hw5⟩
          rw [hw5]
          clear hw5
          go_wp2_with fail
          refine HCall.out.mono ?_
          rintro e' w6 ⟨rfl, hb6⟩
          have hb7 := hb.trans (hb6.mono hs)
          clear hb6
          go_wp2_with fail
          go_roundw
          case rel => exact ⟨m, rfl, by omega, hje2, HN.out, hb7⟩
          case measure => simp [intOf]; omega
  · have hcd := class_here h1 h2 h3 hkl hik
    have hc91 : c = 91 := by have := hcd.1; rw [HP.out.1] at this; exact Option.some.inj this
    subst hc91
    have HCl : Hid (classM (sb p) (i + 1) = .inl (f, k)) := hcd.2
    clear one h1 h2 h3 hcd hA'
    go_enter Tryd.func27, Tryd.ntmps27
    go_wp2_with fail
    refine (l4Class_core p i w hp hi).mono ?_
    rintro e w4 ⟨hP, hb4⟩
    rcases hP with ⟨f', k', hk', rfl⟩ | ⟨c4, k', hk', rfl⟩
    case inr => rw [HCl.out] at hk'; cases hk'
    obtain ⟨rfl, rfl⟩ : f = f' ∧ k = k' := by rw [HCl.out] at hk'; simpa using hk'
    go_wp2_with fail
    go_ret
    exact ⟨rfl, hb4.trans ((Below.refl _ _).alloc hb4.size _)⟩
theorem end_all {p : ByteArray} (hp : p.size ≤ 200) : ∀ n, EndC p n
  | 0 => fun i k t w h => h.elim
  | n + 1 => end_of hp (end_all hp n)
end Go.Proofs.YtbjbdidcnkamaaaDoor

/-
  spec.CheckRegex.
-/
namespace Go.Proofs.YtbjbdidcnkamaaaDoor
open Go.ChangeShapes Go.WideShapes Go.ChangeAt Go.RowKit Go.Deep
set_option linter.unusedVariables false
set_option linter.unusedSimpArgs false
set_option maxRecDepth 100000

/-- What the check of a pattern comes to. -/
def specM (p : List UInt8) : Int × Nat := if 200 < p.length then (1, 0) else chkM p 0 0 false
theorem chk_ret {base rb : Nat} {w : World} {a : Act} {y z : Value} (ht : a.tmps.getD 2 undef = .pointer (some ⟨rb, 0, none⟩)) (he : BoxAt w base 24 2 rb [y, z]) :
    (results Tryd.f6 a.tmps).run Tryd.prog w = .ok (.agg #[y, z]) w := by
  have q0 := he.cell (j := 0) rfl
  have q1 := he.cell (j := 1) rfl
  have h2 : a.tmps[2]?.getD undef = .pointer (some ⟨rb, 0, none⟩) := by rw [← Array.getD_eq_getD_getElem?]; exact ht
  simp [results, Tryd.results6, go_sem, h2, q0, q1]
/-- How the answer is told. -/
def ChkP (p : ByteArray) (w : World) (e : Ending) (w' : World) : Prop := e = .returned (.agg #[.int .i64 (specM (sb p)).1, .int .i64 ((specM (sb p)).2 : Int)]) ∧ Below w.heap.size w w'
theorem chk_fin {p : ByteArray} {w wr : World} {a : Act} {c : Int} {k : Nat} (hM : specM (sb p) = (c, k)) (hd : a.defers = []) (ht : a.tmps.getD 2 undef = .pointer (some ⟨w.heap.size, 0, none⟩)) (hx : BoxAt wr w.heap.size 24 2 w.heap.size [.int .i64 0, .int .i64 0]) (hb : Below w.heap.size w wr) :
    bodyPost Tryd.prog Tryd.f6 (ChkP p w) .ret a ((wr.setCell ⟨w.heap.size, 0, none⟩ (.int .i64 c)).setCell ⟨w.heap.size, 1, none⟩ (.int .i64 (k : Int))) :=
  bodyPost_ret (v := .agg #[.int .i64 c, .int .i64 (k : Int)]) (chk_ret ht ((hx.set 0 _).set 1 _)) hd ⟨by rw [hM], below_set (below_set hb (Nat.le_refl _) 0 _) (Nat.le_refl _) 1 _⟩

set_option maxHeartbeats 8000000 in
theorem specCheck_core (p : ByteArray) (w : World) (hpm : p.size ≤ maxLen) : Calls Tryd.prog 6 #[.string p] w (ChkP p w) := by
  obtain ⟨W0, hW0⟩ : ∃ W0 : World, W0 = w.alloc (Obj.cells #[.int .i64 0, .int .i64 0] 24) := ⟨_, rfl⟩
  have HW0 : Hid (BoxAt W0 w.heap.size 24 2 w.heap.size [.int .i64 0, .int .i64 0] ∧ Below w.heap.size w W0) := by
    rw [hW0]; exact ⟨boxAt_new w _ (Nat.le_refl _) rfl, (Below.refl _ _).alloc (Nat.le_refl _) _⟩
  unfold maxLen at hpm
  by_cases hp : 200 < p.size
  · have HM : Hid (specM (sb p) = (1, 0)) := by
      show specM (sb p) = _
      unfold specM; rw [if_pos (by rw [sb_len]; exact hp)]
    have z2 : (200 : Int) < (p.size : Int) := by omega
    have r0 := HW0.out.1.cell (j := 0) rfl
    have r1 := HW0.out.1.cell (j := 1) rfl
    have f0 := HW0.out.1.frozen 0
    have f1 := HW0.out.1.frozen 1
    go_enter Tryd.func6, Tryd.ntmps6
    go_upto_region 1 with fail
    rw [← hW0]
    clear hW0
    go_wp2_with fail
    exact chk_fin HM.out rfl rfl HW0.out.1 HW0.out.2
  have hp2 : p.size ≤ 200 := by omega
  have HM : Hid (specM (sb p) = chkM (sb p) 0 0 false) := by
    show specM (sb p) = _
    unfold specM; rw [if_neg (by rw [sb_len]; exact hp)]
  have z2 : ¬ (200 : Int) < (p.size : Int) := by omega
  go_enter Tryd.func6, Tryd.ntmps6
  go_upto_region 1 with fail
  rw [← hW0]
  clear hW0 hp
  go_wp2_with fail
  go_loopw [3, 4, 5] (fun ov av iv wr => ∃ (i o : Nat) (a : Bool), i ≤ p.size ∧ o ≤ i ∧ ov = .int .i64 (o : Int) ∧ av = .bool a ∧ iv = .int .i64 (i : Int) ∧ specM (sb p) = chkM (sb p) i o a ∧ Below W0.heap.size W0 wr) (fun _ _ iv _ => p.size - (intOf iv).toNat)
  case atStart => exact ⟨0, 0, false, Nat.zero_le _, Nat.zero_le _, rfl, rfl, rfl, HM.out, Below.refl _ _⟩
  case round =>
    obtain ⟨i, o, a, hi, hoi, rfl, rfl, rfl, hE, hb⟩ := hrel
    have HE : Hid (specM (sb p) = chkM (sb p) i o a) := hE
    have HX : Hid (BoxAt wr w.heap.size 24 2 w.heap.size [.int .i64 0, .int .i64 0] ∧ Below w.heap.size w wr) := ⟨HW0.out.1.below hb, HW0.out.2.trans (hb.mono HW0.out.2.size)⟩
    have HB : Hid (Below W0.heap.size W0 wr) := hb
    have r0 := HX.out.1.cell (j := 0) rfl
    have r1 := HX.out.1.cell (j := 1) rfl
    have f0 := HX.out.1.frozen 0
    have f1 := HX.out.1.frozen 1
    clear hE hb HM
    by_cases hlt : i < p.size
    · obtain ⟨c, hc⟩ : ∃ x, (sb p)[i]? = some x := ⟨_, List.getElem?_eq_getElem (by rw [sb_len]; exact hlt)⟩
      obtain ⟨_, gc⟩ := sb_get hc
      have HC : Hid ((sb p)[i]? = some c) := hc
      have zi : (i : Int) < (p.size : Int) := by omega
      clear hc
      by_cases h40 : c = 40
      · subst h40
        by_cases ho : o = 20
        · subst ho
          have HF : Hid (specM (sb p) = (3, i)) := by
            show specM (sb p) = _
            rw [HE.out, chk_open HC.out, if_pos rfl]
          go_wp2_with fail
          exact chk_fin HF.out rfl rfl HX.out.1 HX.out.2
        · have zo : ¬ (o : Int) = 20 := by omega
          have HF : Hid (specM (sb p) = chkM (sb p) (i + 1) (o + 1) false) := by
            show specM (sb p) = _
            rw [HE.out, chk_open HC.out, if_neg ho]
          go_wp2_with fail
          go_roundw
          case rel => exact ⟨i + 1, o + 1, false, by omega, by omega, by go_num, rfl, by go_num, HF.out, HB.out⟩
          case measure => simp [intOf]; omega
      have z40 : ((c.toNat : Int) == 40) = false := beq_eq_false_iff_ne.2 (ne_u8 (c := 40) h40)
      by_cases h41 : c = 41
      · subst h41
        by_cases ho : o = 0
        · subst ho
          have HF : Hid (specM (sb p) = (2, i)) := by
            show specM (sb p) = _
            rw [HE.out, chk_close HC.out, if_pos rfl]
          go_wp2_with fail
          exact chk_fin HF.out rfl rfl HX.out.1 HX.out.2
        · have zo : ¬ (o : Int) = 0 := by omega
          have HF : Hid (specM (sb p) = chkM (sb p) (i + 1) (o - 1) true) := by
            show specM (sb p) = _
            rw [HE.out, chk_close HC.out, if_neg ho]
          go_wp2_with fail
          go_roundw
          case rel => exact ⟨i + 1, o - 1, true, by omega, by omega, congrArg (Value.int .i64) (by omega), rfl, by go_num, HF.out, HB.out⟩
          case measure => simp [intOf]; omega
      have z41 : ((c.toNat : Int) == 41) = false := beq_eq_false_iff_ne.2 (ne_u8 (c := 41) h41)
      by_cases h124 : c = 124
      · subst h124
        have HF : Hid (specM (sb p) = chkM (sb p) (i + 1) o false) := by
          show specM (sb p) = _
          rw [HE.out, chk_bar HC.out]
        go_wp2_with fail
        go_roundw
        case rel => exact ⟨i + 1, o, false, by omega, by omega, rfl, rfl, by go_num, HF.out, HB.out⟩
        case measure => simp [intOf]; omega
      have z124 : ((c.toNat : Int) == 124) = false := beq_eq_false_iff_ne.2 (ne_u8 (c := 124) h124)
      have HL : Hid (∀ q : Bool, decide (isOp c) = q → Calls Tryd.prog 11 #[.int .u8 (c.toNat : Int)] wr fun e w' => e = .returned (.bool q) ∧ w' = wr) := fun q hq => by rw [← hq]; exact l4Op_core c wr
      by_cases hop : isOp c
      · go_wp2_with fail
        refine (HL.out true (decide_eq_true hop)).mono ?_
        rintro e w3 ⟨rfl, hw3⟩
        rw [hw3]
        clear hw3 HL
        cases a
        · have HF : Hid (specM (sb p) = (2, i)) := by
            show specM (sb p) = _
            rw [HE.out, chk_op HC.out hop]; rfl
          clear hop
          go_wp2_with fail
          exact chk_fin HF.out rfl rfl HX.out.1 HX.out.2
        · have HF : Hid (specM (sb p) = chkM (sb p) (i + 1) o true) := by
            show specM (sb p) = _
            rw [HE.out, chk_op HC.out hop, if_pos rfl]
          clear hop
          go_wp2_with fail
          go_roundw
          case rel => exact ⟨i + 1, o, true, by omega, by omega, rfl, rfl, by go_num, HF.out, HB.out⟩
          case measure => simp [intOf]; omega
      go_wp2_with fail
      refine (HL.out false (decide_eq_false hop)).mono ?_
      rintro e w3 ⟨rfl, hw3⟩
      rw [hw3]
      have HOp : Hid (¬ isOp c) := hop
      clear hw3 HL hop
      by_cases h91 : c = 91
      · subst h91
        go_wp2_with fail
        refine (l4Class_core p i wr hp2 hlt).mono ?_
        rintro e w4 ⟨hP, hb4⟩
        have hB4 : Below W0.heap.size W0 w4 := HB.out.trans (hb4.mono HB.out.size)
        have hs4 := hb4.size
        have hsw := HX.out.2.size
        rcases hP with ⟨f, k, hk, rfl⟩ | ⟨c4, k, hk, rfl⟩
        · have hkp := classM_gt hk
          rw [sb_len] at hkp
          obtain ⟨W5, hW5⟩ : ∃ W5 : World, W5 = w4.alloc (Obj.cells #[.int .i64 0, .int .i64 0] 24) := ⟨_, rfl⟩
          have HF : Hid (specM (sb p) = chkM (sb p) k o true ∧ Below W0.heap.size W0 W5) := by
            refine ⟨by rw [HE.out, chk_class HC.out, hk], ?_⟩
            rw [hW5]; exact hB4.trans ((Below.refl _ _).alloc (by have := HB.out.size; omega) _)
          clear hk hb4 hB4 r0 r1 f0 f1
          go_wp2_with fail
          rw [← hW5]
          go_roundw
          case rel => exact ⟨k, o, true, hkp.2, by omega, rfl, rfl, rfl, HF.out.1, HF.out.2⟩
          case measure => simp [intOf]; omega
        · have hc4 := classM_err hk
          obtain ⟨W5, hW5⟩ : ∃ W5 : World, W5 = w4.alloc (Obj.cells #[.int .i64 c4, .int .i64 (k : Int)] 24) := ⟨_, rfl⟩
          have HF : Hid (specM (sb p) = (c4, k) ∧ BoxAt W5 w.heap.size 24 2 w.heap.size [.int .i64 0, .int .i64 0] ∧ Below w.heap.size w W5 ∧ BoxAt W5 w.heap.size 24 2 w4.heap.size [.int .i64 c4, .int .i64 (k : Int)]) := by
            have hb5 : Below w4.heap.size w4 W5 := by rw [hW5]; exact (Below.refl _ _).alloc (Nat.le_refl _) _
            refine ⟨by rw [HE.out, chk_class HC.out, hk], (HX.out.1.below hb4).below hb5, (HX.out.2.trans (hb4.mono hsw)).trans (hb5.mono (by omega)), ?_⟩
            rw [hW5]; exact boxAt_new w4 _ (by omega) rfl
          have hc4' : (c4 != 0) = true := by simpa using hc4
          clear hk hb4 hB4 r0 r1 f0 f1
          go_upto_region 29 with fail
          rw [← hW5]
          clear hW5
          have b0 := HF.out.2.2.2.cell (j := 0) rfl
          have b1 := HF.out.2.2.2.cell (j := 1) rfl
          have r0 := HF.out.2.1.cell (j := 0) rfl
          have r1 := HF.out.2.1.cell (j := 1) rfl
          have f0 := HF.out.2.1.frozen 0
          have f1 := HF.out.2.1.frozen 1
          go_wp2_with fail
          exact chk_fin HF.out.1 rfl rfl HF.out.2.1 HF.out.2.2.1
      have z91 : ((c.toNat : Int) == 91) = false := beq_eq_false_iff_ne.2 (ne_u8 (c := 91) h91)
      by_cases h93 : c = 93
      · subst h93
        have HF : Hid (specM (sb p) = (2, i)) := by
          show specM (sb p) = _
          rw [HE.out, chk_rb HC.out]
        go_wp2_with fail
        exact chk_fin HF.out rfl rfl HX.out.1 HX.out.2
      have z93 : ((c.toNat : Int) == 93) = false := beq_eq_false_iff_ne.2 (ne_u8 (c := 93) h93)
      by_cases h92 : c = 92
      · subst h92
        by_cases hl1 : i + 1 = p.size
        · have HF : Hid (specM (sb p) = (2, p.size)) := by
            show specM (sb p) = _
            rw [HE.out, chk_esc HC.out, if_pos (by rw [sb_len]; exact hl1), sb_len]
          have zl : (i : Int) + 1 = (p.size : Int) := by omega
          go_wp2_with fail
          exact chk_fin HF.out rfl rfl HX.out.1 HX.out.2
        · have HF : Hid (specM (sb p) = chkM (sb p) (i + 2) o true) := by
            show specM (sb p) = _
            rw [HE.out, chk_esc HC.out, if_neg (by rw [sb_len]; exact hl1)]
          have zl : ¬ (i : Int) + 1 = (p.size : Int) := by omega
          go_wp2_with fail
          go_roundw
          case rel => exact ⟨i + 2, o, true, by omega, by omega, rfl, rfl, by go_num, HF.out, HB.out⟩
          case measure => simp [intOf]; omega
      have z92 : ((c.toNat : Int) == 92) = false := beq_eq_false_iff_ne.2 (ne_u8 (c := 92) h92)
      have HF : Hid (specM (sb p) = chkM (sb p) (i + 1) o true) := by
        show specM (sb p) = _
        rw [HE.out, chk_plain HC.out (fun q => q.elim HOp.out (fun q => q.elim h124 (fun q => q.elim h41 h93))) h40 h91 h92]
      go_wp2_with fail
      go_roundw
      case rel => exact ⟨i + 1, o, true, by omega, by omega, rfl, rfl, by go_num, HF.out, HB.out⟩
      case measure => simp [intOf]; omega
    · have zi : ¬ (i : Int) < (p.size : Int) := by omega
      by_cases ho : 0 < o
      · have HF : Hid (specM (sb p) = (2, p.size)) := by
          show specM (sb p) = _
          rw [HE.out, chk_end (by rw [sb_len]; exact hlt), if_pos ho, sb_len]
        have zo : (0 : Int) < (o : Int) := by omega
        go_wp2_with fail
        exact chk_fin HF.out rfl rfl HX.out.1 HX.out.2
      · have HF : Hid (specM (sb p) = (0, 0)) := by
          show specM (sb p) = _
          rw [HE.out, chk_end (by rw [sb_len]; exact hlt), if_neg ho]
        have zo : ¬ (0 : Int) < (o : Int) := by omega
        go_wp2_with fail
        exact chk_fin HF.out rfl rfl HX.out.1 HX.out.2
end Go.Proofs.YtbjbdidcnkamaaaDoor

/-
  spec.l4Special, l4Parts, PrefixOf.
-/
namespace Go.Proofs.YtbjbdidcnkamaaaDoor
open Go.ChangeShapes Go.WideShapes Go.ChangeAt Go.RowKit Go.Deep
set_option linter.unusedVariables false
set_option linter.unusedSimpArgs false
set_option maxRecDepth 100000

/-- A list of strings of the call's own. -/
def OwnStr (w : World) (base g cp : Nat) (us : List Value) : Prop := w.ownsRow base 9 1 (.slice (some ⟨g, 0, none⟩) us.length cp) us.length us
theorem OwnStr.lt {w : World} {base g cp : Nat} {us : List Value} (h : OwnStr w base g cp us) : base ≤ g ∧ g < w.heap.size := World.ownsRow.lt h g rfl
theorem OwnStr.below {w w' : World} {base g cp : Nat} {us : List Value} (h : OwnStr w base g cp us) (hb : Below w.heap.size w w') : OwnStr w' base g cp us := own_chg h (Chg.of_below hb) (S := fun _ => False) (fun k q z => z)
theorem ownStr_new (w : World) {base : Nat} (hb : base ≤ w.heap.size) : OwnStr (w.alloc (Obj.cells #[] 9)) base w.heap.size 0 [] :=
  World.ownsRow_made w #[] 0 hb (Nat.zero_le _) (by simp)
theorem Tryd.infoStr : (Tryd.prog.info? 9).map (fun i => (i.zero, i.size, i.bytes)) = some (some (.string ⟨#[]⟩), 1, 16) := by kernel_rfl
/-- One string appended to a list of strings. -/
theorem wpList_append_str {ops : Array Oper} {rest : List Oper} {oo : Oper} {a : Act} {Q : Exit → Act → World → Prop} (w : World) (hgd : oo.guard = none) (s x : Operand)
    (ho : oo.op = .call { callee := .builtin .append, args := #[s, x], argTypes := #[41, 41] })
    (base gq cp n b : Nat) (us : List Value) (y : Value) (hs : a.eval s = .slice (some ⟨gq, 0, none⟩) n cp) (hx : a.eval x = .slice (some ⟨b, 0, none⟩) 1 1) (hn : n = us.length) (hO : OwnStr w base gq cp us)
    (hc : w.cell? ⟨b, 0, none⟩ = some y) (hy : y.oneCell' = true) (hlen : us.length ≤ 1000) (hbase : base ≤ w.heap.size)
    (h : ∀ g' cp' w', OwnStr w' base g' cp' (us ++ [y]) → w.grownBy w' (some gq) → (g' = gq ∨ g' = w.heap.size) → wpList Tryd.prog ops Q rest (a.put oo.dst (.slice (some ⟨g', 0, none⟩) (n + 1) cp')) w') : wpList Tryd.prog ops Q (oo :: rest) a w := by
  subst hn
  obtain ⟨i, hi, hz0, hz1, hz2⟩ := info_parts Tryd.infoStr
  refine wpList_append_own_at w hgd s x 41 ho base 9 i _ 1 16 Tryd.underlying41 hi hz0 hz1 hz2 rfl (by decide) (.slice (some ⟨gq, 0, none⟩) us.length cp) us.length us hs hO ⟨b, 0, none⟩ 1 1 [y] hx rfl ?_ ?_ ?_ ?_ hbase ?_
  · intro j u hu
    have hj : j = 0 := by have := (List.getElem?_eq_some_iff.1 hu).1; simpa using this
    subst hj
    simp at hu
    rw [Addr.add_mid, ← hu]; exact hc
  · intro u hu
    simp at hu; subst hu; exact hy
  · unfold maxLen; omega
  · omega
  · intro v' w' hO' hgr hnil hat
    rcases hO'.2 with ⟨h0, _⟩ | ⟨g', cap', cur, hv, _, _, hn, hcap, _, _⟩
    · have := (hnil.1 h0).1
      cases this
    · subst hv
      refine h g' cap' w' ?_ hgr ?_
      · unfold OwnStr
        rw [List.length_append]
        exact hO'
      · simp [Value.ownBlock] at hat
        exact hat
theorem tokn_le {A : List UInt8 → Pat → Prop} {k : Nat} {xs : List UInt8} (h : TokN A k xs) : k ≤ xs.length := by
  induction h with
  | nil => exact Nat.le_refl _
  | bar _ ih => simpa using ih
  | op _ _ ih => simp; omega
  | atom _ _ ih => simp; omega
structure PaJ (p : ByteArray) (n k : Nat) (w : World) (j m g cp : Nat) (us : List Value) (wr : World) : Prop where
  tok : TokN (AtomG n) m (cut (sb p) j p.size)
  cnt : us.length + m = k
  own : OwnStr wr w.heap.size g cp us
  below : Below w.heap.size w wr
theorem PaJ.move {p : ByteArray} {n k : Nat} {w : World} {j m g cp : Nat} {us : List Value} {wr w' : World} (h : PaJ p n k w j m g cp us wr) (hb : Below wr.heap.size wr w') {j' m' : Nat} (ht : TokN (AtomG n) m' (cut (sb p) j' p.size)) (hm : m = m') : PaJ p n k w j' m' g cp us w' :=
  ⟨ht, by rw [← hm]; exact h.cnt, h.own.below hb, h.below.trans (hb.mono h.below.size)⟩
set_option maxHeartbeats 8000000 in
theorem l4Parts_core {p : ByteArray} (hp : p.size ≤ 200) {n k : Nat} (h : TokN (AtomG n) k (cut (sb p) 0 p.size)) (w : World) : Calls Tryd.prog 14 #[.string p] w fun e w' => ∃ g cp, e = .returned (.slice (some ⟨g, 0, none⟩) (k + 1) cp) ∧ Below w.heap.size w w' := by
  have hkl : k ≤ 200 := by
    have h1 := tokn_le h
    rw [cut_len (by rw [sb_len]; exact Nat.le_refl _)] at h1
    omega
  have hsl : p.size ≤ (sb p).length := by rw [sb_len]; exact Nat.le_refl _
  have HSl : Hid (p.size ≤ (sb p).length) := hsl
  obtain ⟨W0, hW0⟩ : ∃ W0 : World, W0 = w.alloc (Obj.cells #[] 9) := ⟨_, rfl⟩
  have HW0 : Hid (PaJ p n k w 0 k w.heap.size 0 [] W0) := by
    rw [hW0]
    exact ⟨h, by simp, ownStr_new w (Nat.le_refl _), (Below.refl _ _).alloc (Nat.le_refl _) _⟩
  clear h hsl
  go_enter Tryd.func14, Tryd.ntmps14
  go_upto_region 2 with fail
  rw [← hW0]
  clear hW0
  go_wp2_with fail
  go_loopw [3, 4, 5] (fun o fv jv wr => ∃ (j f m g cp : Nat) (us : List Value), jv = .int .i64 (j : Int) ∧ fv = .int .i64 (f : Int) ∧ f ≤ j ∧ j ≤ p.size ∧ us.length ≤ k ∧ o = .slice (some ⟨g, 0, none⟩) us.length cp ∧ PaJ p n k w j m g cp us wr) (fun _ _ jv _ => p.size - (intOf jv).toNat)
  case atStart => exact ⟨0, 0, k, _, 0, [], rfl, rfl, Nat.le_refl _, Nat.zero_le _, Nat.zero_le _, rfl, HW0.out⟩
  case round =>
    obtain ⟨j, f, m, g, cp, us, rfl, rfl, hfj, hjp, hul, rfl, hJ⟩ := hrel
    have HJ : Hid (PaJ p n k w j m g cp us wr) := hJ
    have hgl := hJ.own.lt
    have hsz := hJ.below.size
    clear hJ HW0
    have z1 : (f : Int) ≤ (j : Int) := by omega
    have z2 : (j : Int) ≤ (p.size : Int) := by omega
    by_cases hlt : j < p.size
    · have zj : (j : Int) < (p.size : Int) := by omega
      rcases tokn_step HJ.out.tok with ⟨h0, _⟩ | ⟨m', zs, h0, hm, hT⟩ | ⟨c, zs, h0, hop, hT⟩ | ⟨ys, zs, t, h0, hA, hT⟩
      · have h3 := cut_len (p := sb p) (i := j) HSl.out
        rw [h0] at h3
        simp at h3
        omega
      · obtain ⟨hpj, hcj, _⟩ := cut_head h0 HSl.out
        obtain ⟨_, gj⟩ := sb_get hpj
        have HT : Hid (TokN (AtomG n) m' (cut (sb p) (j + 1) p.size) ∧ m = m' + 1) := ⟨by rw [hcj]; exact hT, hm⟩
        clear h0 hT hm hpj hcj
        go_wp2_with (at_builtin; refine wpList_append_str _ rfl _ _ rfl w.heap.size g cp us.length wr.heap.size us (.string (p.extract f j)) rfl rfl rfl ?hO ?hc ?hy ?hl ?hb ?_)
        case hO => exact HJ.out.own.below ((Below.refl _ _).alloc (Nat.le_refl _) _)
        case hc => simp
        case hy => rfl
        case hl => omega
        case hb => simp; omega
        intro g' cp' w' hO' hgr hat
        have HJ2 : Hid (∃ y, PaJ p n k w (j + 1) m' g' cp' (us ++ [y]) w' ∧ us.length + 1 ≤ k) := by
          refine ⟨_, ⟨HT.out.1, by have := HJ.out.cnt; have := HT.out.2; simp; omega, hO', ?_⟩, by have := HJ.out.cnt; have := HT.out.2; omega⟩
          exact (HJ.out.below.trans ((Below.refl _ _).alloc hsz _)).grown hgr (by simp; omega) (fun j hj => by cases hj; omega)
        clear hO' hgr hat
        obtain ⟨y, hJ2, hk2⟩ := HJ2.out
        have HJ3 : Hid (PaJ p n k w (j + 1) m' g' cp' (us ++ [y]) w') := hJ2
        clear hJ2 HJ2
        go_wp2_with fail
        go_roundw
        case rel => exact ⟨j + 1, j + 1, m', g', cp', us ++ [y], by go_num, by go_num, Nat.le_refl _, by omega, by simp; omega, by simp, HJ3.out⟩
        case measure => simp [intOf]; omega
      · obtain ⟨hpj, hcj, _⟩ := cut_head h0 HSl.out
        obtain ⟨_, gj⟩ := sb_get hpj
        have HT : Hid (TokN (AtomG n) m (cut (sb p) (j + 1) p.size)) := by
          show TokN (AtomG n) m (cut (sb p) (j + 1) p.size)
          rw [hcj]; exact hT
        have z124 : ((c.toNat : Int) == 124) = false := beq_eq_false_iff_ne.2 (ne_u8 (c := 124) (fun q => by subst q; exact absurd hop (by decide)))
        have HOp : Hid (Calls Tryd.prog 11 #[.int .u8 (c.toNat : Int)] wr fun e w' => e = .returned (.bool true) ∧ w' = wr) := by
          have := l4Op_core c wr
          rw [decide_eq_true hop] at this
          exact this
        clear h0 hT hpj hcj hop
        go_wp2_with fail
        refine HOp.out.mono ?_
        rintro e' w5 ⟨rfl, hw5⟩
        rw [hw5]
        clear hw5
        go_wp2_with fail
        go_roundw
        case rel => exact ⟨j + 1, f, m, g, cp, us, by go_num, rfl, by omega, by omega, hul, rfl, HJ.out.move (Below.refl _ _) HT.out rfl⟩
        case measure => simp [intOf]; omega
      · obtain ⟨hy1, hy2, hy3⟩ := cut_two h0 HSl.out
        obtain ⟨c, yt, hyc, n41, n124, nop⟩ := hA.first
        have hylen : 0 < ys.length := by rw [hyc]; simp
        have hje2 : j + ys.length ≤ p.size := by omega
        obtain ⟨hpj, _, _⟩ := cut_head (c := c) (zs := yt) (by rw [hy1]; exact hyc) (by rw [sb_len]; omega)
        obtain ⟨_, gj⟩ := sb_get hpj
        have z124 : ((c.toNat : Int) == 124) = false := beq_eq_false_iff_ne.2 (ne_u8 (c := 124) n124)
        have HOp : Hid (Calls Tryd.prog 11 #[.int .u8 (c.toNat : Int)] wr fun e w' => e = .returned (.bool false) ∧ w' = wr) := by
          have := l4Op_core c wr
          rw [decide_eq_false nop] at this
          exact this
        obtain ⟨i2, hi2⟩ : ∃ i2, i2 = j + ys.length := ⟨_, rfl⟩
        have HT : Hid (TokN (AtomG n) m (cut (sb p) i2 p.size)) := by
          show TokN (AtomG n) m (cut (sb p) i2 p.size)
          rw [hi2, hy2]; exact hT
        have HCall : Hid (Calls Tryd.prog 27 #[.string p, .int .i64 (j : Int)] wr fun e w' => e = .returned (.int .i64 (i2 : Int)) ∧ Below wr.heap.size wr w') := by
          rw [hi2]
          exact end_all hp n j (j + ys.length) t wr (by rw [hy1]; exact hA) (by omega)
        have hj2 : j < i2 := by omega
        have hj3 : i2 ≤ p.size := by omega
        clear h0 hT hA hy1 hy2 hy3 hyc hpj n41 n124 nop hi2 hylen hje2
        go_wp2_with fail
        refine HOp.out.mono ?_
        rintro e' w5 ⟨rfl, hw5⟩
        rw [hw5]
        clear hw5
        go_wp2_with fail
        refine HCall.out.mono ?_
        rintro e' w6 ⟨rfl, hb6⟩
        have HJ6 : Hid (PaJ p n k w i2 m g cp us w6) := HJ.out.move hb6 HT.out rfl
        clear hb6
        go_wp2_with fail
        go_roundw
        case rel => exact ⟨i2, f, m, g, cp, us, rfl, rfl, by omega, by omega, hul, rfl, HJ6.out⟩
        case measure => simp [intOf]; omega
    · have zj : ¬ (j : Int) < (p.size : Int) := by omega
      obtain rfl : j = p.size := by omega
      have hm0 : m = 0 := by
        rcases tokn_step HJ.out.tok with ⟨_, h0⟩ | ⟨m', zs, h0, hm, hT⟩ | ⟨c, zs, h0, hop, hT⟩ | ⟨ys, zs, t, h0, hA, hT⟩
        · exact h0
        · rw [cut_nil] at h0; cases h0
        · rw [cut_nil] at h0; cases h0
        · rw [cut_nil] at h0
          obtain ⟨c, yt, hyc, _⟩ := hA.first
          rw [hyc] at h0
          cases h0
      have HM : Hid (us.length = k) := by
        have := HJ.out.cnt
        show us.length = k
        omega
      go_wp2_with (at_builtin; refine wpList_append_str _ rfl _ _ rfl w.heap.size g cp us.length wr.heap.size us (.string (p.extract f p.size)) rfl rfl rfl ?hO ?hc ?hy ?hl ?hb ?_)
      case hO => exact HJ.out.own.below ((Below.refl _ _).alloc (Nat.le_refl _) _)
      case hy => rfl
      case hl => omega
      case hb => first | omega | (simp; omega)
      intro g' cp' w' hO' hgr hat
      have HB : Hid (Below w.heap.size w w') := (HJ.out.below.trans ((Below.refl _ _).alloc hsz _)).grown hgr (by simp; omega) (fun j hj => by cases hj; omega)
      clear hO' hgr hat
      go_wp2_with fail
      go_ret
      refine ⟨g', cp', ?_, HB.out⟩
      rw [← HM.out]
      first | rfl | trace_state
end Go.Proofs.YtbjbdidcnkamaaaDoor

/-
  spec's l4Parts, with what the parts are.
-/
namespace Go.Proofs.YtbjbdidcnkamaaaDoor
open Go.ChangeShapes Go.WideShapes Go.ChangeAt Go.RowKit Go.Deep
set_option linter.unusedVariables false
set_option linter.unusedSimpArgs false
set_option maxRecDepth 100000

theorem sb_extract (p : ByteArray) {f j : Nat} (hj : j ≤ p.size) : sb (p.extract f j) = cut (sb p) f j := by
  unfold sb cut
  simp [ByteArray.data_extract, List.extract_eq_take_drop]
/-- A part is being gone over: i parts are done, the present one began at f, r is what is left of it at j. -/
structure PaS (n : Nat) (p : List UInt8) (os : List (List Pat)) (j f i : Nat) (r : List UInt8) : Prop where
  ri : r = cut p j (j + r.length)
  rl : j + r.length ≤ p.length
  fj : f ≤ j
  tok : TokN (AtomG n) 0 r
  cur : ∃ ts, os[i]? = some ts ∧ SeqG (AtomG n) ts (cut p f (j + r.length))
  rest : (j + r.length = p.length ∧ i + 1 = os.length) ∨ (p[j + r.length]? = some 124 ∧ AltG (AtomG n) (os.drop (i + 1)) (cut p (j + r.length + 1) p.length))
theorem paS_open {n : Nat} {p : List UInt8} {os : List (List Pat)} {j i : Nat} (hj : j ≤ p.length) (h : AltG (AtomG n) (os.drop i) (cut p j p.length)) : ∃ r, PaS n p os j j i r := by
  rcases hd : os.drop i with _ | ⟨ts, _ | ⟨o, os'⟩⟩
  · rw [hd] at h; exact h.elim
  · rw [hd] at h
    have hl := cut_len (p := p) (i := j) (k := p.length) (Nat.le_refl _)
    have hlen : i + 1 = os.length := by have := congrArg List.length hd; simp at this; omega
    have h0 : os[i]? = some ts := by have := congrArg (fun l => l[0]?) hd; simpa using this
    refine ⟨cut p j p.length, ?_, by omega, Nat.le_refl _, SeqG.tokn h, ⟨ts, h0, ?_⟩, .inl ⟨by omega, hlen⟩⟩
    · rw [hl, show j + (p.length - j) = p.length by omega]
    · rw [hl, show j + (p.length - j) = p.length by omega]; exact h
  · rw [hd] at h
    obtain ⟨ys, zs, h1, h2, h3⟩ := h
    obtain ⟨k1, k2, k3⟩ := cutTwo h1 (Nat.le_refl _) hj
    obtain ⟨g1, g2, g3⟩ := cutHead k2 (Nat.le_refl _)
    have h0 : os[i]? = some ts := by have := congrArg (fun l => l[0]?) hd; simpa using this
    have hd2 : os.drop (i + 1) = o :: os' := by have := congrArg List.tail hd; simpa using this
    exact ⟨ys, k1.symm, k3, Nat.le_refl _, SeqG.tokn h2, ⟨ts, h0, by rw [k1]; exact h2⟩, .inr ⟨g1, by rw [hd2, g2]; exact h3⟩⟩
theorem PaS.next {n : Nat} {p : List UInt8} {os : List (List Pat)} {j f i : Nat} {x r : List UInt8} (h : PaS n p os j f i (x ++ r)) (ht : TokN (AtomG n) 0 r) : PaS n p os (j + x.length) f i r := by
  have hl : j + x.length + r.length = j + (x ++ r).length := by simp; omega
  have hri := h.ri
  have hrl := h.rl
  rw [← hl] at hri hrl
  obtain ⟨_, k2, _⟩ := cutTwo hri.symm hrl (by omega)
  refine ⟨?_, hrl, by have := h.fj; omega, ht, ?_, ?_⟩
  · exact k2.symm
  · rw [hl]; exact h.cur
  · rw [hl]; exact h.rest
/-- The parts, as strings. -/
def StrsOf (n : Nat) (os : List (List Pat)) (us : List Value) (m : Nat) : Prop := ∀ (t : Nat) (u : Value), us[t]? = some u → ∃ s ts, u = .string s ∧ os[t]? = some ts ∧ SeqG (AtomG n) ts (sb s) ∧ s.size ≤ m
theorem StrsOf.snoc {n : Nat} {os : List (List Pat)} {us : List Value} {m : Nat} (h : StrsOf n os us m) {s : ByteArray} {ts : List Pat} (ho : os[us.length]? = some ts) (hs : SeqG (AtomG n) ts (sb s)) (hm : s.size ≤ m) : StrsOf n os (us ++ [.string s]) m := by
  intro t u hu
  rcases Nat.lt_or_ge t us.length with q | q
  · rw [List.getElem?_append_left q] at hu; exact h t u hu
  · have ht : t = us.length := by have := (List.getElem?_eq_some_iff.1 hu).1; simp at this; omega
    subst ht
    simp at hu
    subst hu
    exact ⟨s, ts, rfl, ho, hs, hm⟩
structure PaK (p : ByteArray) (n : Nat) (os : List (List Pat)) (w : World) (j f g cp : Nat) (us : List Value) (wr : World) : Prop where
  st : ∃ r, PaS n (sb p) os j f us.length r
  strs : StrsOf n os us p.size
  own : OwnStr wr w.heap.size g cp us
  below : Below w.heap.size w wr
theorem PaK.move {p : ByteArray} {n : Nat} {os : List (List Pat)} {w : World} {j f g cp : Nat} {us : List Value} {wr w' : World} (h : PaK p n os w j f g cp us wr) (hb : Below wr.heap.size wr w') {j' : Nat} (hs : ∃ r, PaS n (sb p) os j' f us.length r) : PaK p n os w j' f g cp us w' :=
  ⟨hs, h.strs, h.own.below hb, h.below.trans (hb.mono h.below.size)⟩
def PrtP (n : Nat) (os : List (List Pat)) (m : Nat) (w : World) (e : Ending) (w' : World) : Prop := ∃ g cp us, e = .returned (.slice (some ⟨g, 0, none⟩) os.length cp) ∧ us.length = os.length ∧ Hid (OwnStr w' w.heap.size g cp us ∧ StrsOf n os us m) ∧ Below w.heap.size w w'
set_option maxHeartbeats 8000000 in
theorem l4Parts_says {p : ByteArray} (hp : p.size ≤ 200) {n : Nat} {os : List (List Pat)} (h : AltG (AtomG n) os (sb p)) (w : World) : Calls Tryd.prog 14 #[.string p] w (PrtP n os p.size w) := by
  have hsl : p.size = (sb p).length := (sb_len p).symm
  have hcut : cut (sb p) 0 p.size = sb p := by
    show (List.drop 0 (sb p)).take (p.size - 0) = sb p
    rw [List.drop_zero, Nat.sub_zero, List.take_of_length_le (Nat.le_of_eq hsl.symm)]
  have hol : os.length ≤ 201 := by
    obtain ⟨k, h1, h2⟩ := h.tokn
    have := tokn_le h2
    rw [← hsl] at this
    omega
  have HSl : Hid (p.size = (sb p).length) := hsl
  obtain ⟨W0, hW0⟩ : ∃ W0 : World, W0 = w.alloc (Obj.cells #[] 9) := ⟨_, rfl⟩
  have HW0 : Hid (PaK p n os w 0 0 w.heap.size 0 [] W0) := by
    rw [hW0]
    refine ⟨paS_open (Nat.zero_le _) ?_, fun t u hu => by simp at hu, ownStr_new w (Nat.le_refl _), (Below.refl _ _).alloc (Nat.le_refl _) _⟩
    rw [← hsl, hcut]; exact h
  clear h hsl hcut
  go_enter Tryd.func14, Tryd.ntmps14
  go_upto_region 2 with fail
  rw [← hW0]
  clear hW0
  go_wp2_with fail
  go_loopw [3, 4, 5] (fun o fv jv wr => ∃ (j f g cp m : Nat) (us : List Value), jv = .int .i64 (j : Int) ∧ fv = .int .i64 (f : Int) ∧ f ≤ j ∧ j ≤ p.size ∧ m ≤ 201 ∧ o = .slice (some ⟨g, 0, none⟩) m cp ∧ Hid (PaK p n os w j f g cp us wr ∧ m = us.length)) (fun _ _ jv _ => p.size - (intOf jv).toNat)
  case atStart => exact ⟨0, 0, _, 0, 0, [], rfl, rfl, Nat.le_refl _, Nat.zero_le _, Nat.zero_le _, rfl, HW0.out, rfl⟩
  case round =>
    obtain ⟨j, f, g, cp, m, us, rfl, rfl, hfj, hjp, hml, rfl, HJ⟩ := hrel
    have hgl := HJ.out.1.own.lt
    have hsz := HJ.out.1.below.size
    clear HW0
    have z1 : (f : Int) ≤ (j : Int) := by omega
    have z2 : (j : Int) ≤ (p.size : Int) := by omega
    obtain ⟨r, hS⟩ := HJ.out.1.st
    have HP : Hid (PaS n (sb p) os j f us.length r) := hS
    clear hS
    by_cases hlt : j < p.size
    · have zj : (j : Int) < (p.size : Int) := by omega
      rcases tokn_step HP.out.tok with ⟨h0, _⟩ | ⟨m', zs, h0, hm, hT⟩ | ⟨c, zs, h0, hop, hT⟩ | ⟨ys, zs, t, h0, hA, hT⟩
      · have hrest : (sb p)[j]? = some 124 ∧ AltG (AtomG n) (os.drop (us.length + 1)) (cut (sb p) (j + 1) (sb p).length) := by
          rcases HP.out.rest with ⟨q, _⟩ | q
          · rw [h0] at q; simp at q; have := HSl.out; omega
          · rw [h0] at q; simpa using q
        obtain ⟨ts, hts, hsq⟩ := HP.out.cur
        rw [h0] at hsq
        simp only [List.length_nil, Nat.add_zero] at hsq
        obtain ⟨_, gj⟩ := sb_get hrest.1
        have HT : Hid (AltG (AtomG n) (os.drop (us.length + 1)) (cut (sb p) (j + 1) (sb p).length) ∧ os[us.length]? = some ts ∧ SeqG (AtomG n) ts (sb (p.extract f j)) ∧ us.length + 1 ≤ os.length) := by
          refine ⟨hrest.2, hts, by rw [sb_extract p hjp]; exact hsq, (List.getElem?_eq_some_iff.1 hts).1⟩
        have HM : Hid (m = us.length) := HJ.out.2
        clear h0 hrest hts hsq
        go_wp2_with (at_builtin; refine wpList_append_str _ rfl _ _ rfl w.heap.size g cp m wr.heap.size us (.string (p.extract f j)) rfl rfl HM.out ?hO ?hc ?hy ?hl ?hb ?_)
        case hO => exact HJ.out.1.own.below ((Below.refl _ _).alloc (Nat.le_refl _) _)
        case hy => rfl
        case hl => rw [← HM.out]; omega
        case hb => first | omega | (simp; omega)
        intro g' cp' w' hO' hgr hat
        have HJ2 : Hid (PaK p n os w (j + 1) (j + 1) g' cp' (us ++ [.string (p.extract f j)]) w' ∧ m + 1 = (us ++ [Value.string (p.extract f j)]).length) := by
          refine ⟨⟨?_, HJ.out.1.strs.snoc HT.out.2.1 HT.out.2.2.1 (by rw [← sb_len, sb_extract p hjp, cut_len (by rw [sb_len]; exact hjp)]; omega), hO', ?_⟩, by rw [HM.out]; simp⟩
          · rw [List.length_append, List.length_singleton]
            exact paS_open (by have := HSl.out; omega) HT.out.1
          · exact (HJ.out.1.below.trans ((Below.refl _ _).alloc hsz _)).grown hgr (by simp; omega) (fun j hj => by cases hj; omega)
        have hm2 : m + 1 ≤ 201 := by have h1 := HT.out.2.2.2; have h2 := HM.out; omega
        clear hO' hgr hat
        go_wp2_with fail
        go_roundw
        case rel => exact ⟨j + 1, j + 1, g', cp', m + 1, us ++ [.string (p.extract f j)], by go_num, by go_num, Nat.le_refl _, by omega, hm2, by first | rfl | go_num, HJ2⟩
        case measure => simp [intOf]; omega
      · omega
      · have hP2 := HP.out
        rw [h0] at hP2
        have hcd : cut (sb p) j (j + (c :: zs).length) = c :: zs := hP2.ri.symm
        obtain ⟨hpj, _, _⟩ := cutHead hcd (by have := hP2.rl; exact this)
        obtain ⟨_, gj⟩ := sb_get hpj
        have HT : Hid (PaS n (sb p) os (j + 1) f us.length zs) := PaS.next (x := [c]) hP2 hT
        have z124 : ((c.toNat : Int) == 124) = false := beq_eq_false_iff_ne.2 (ne_u8 (c := 124) (fun q => by subst q; exact absurd hop (by decide)))
        have HOp : Hid (Calls Tryd.prog 11 #[.int .u8 (c.toNat : Int)] wr fun e w' => e = .returned (.bool true) ∧ w' = wr) := by
          have := l4Op_core c wr
          rw [decide_eq_true hop] at this
          exact this
        clear h0 hT hpj hop hP2 hcd
        go_wp2_with fail
        refine HOp.out.mono ?_
        rintro e' w5 ⟨rfl, hw5⟩
        rw [hw5]
        clear hw5
        go_wp2_with fail
        go_roundw
        case rel => exact ⟨j + 1, f, g, cp, m, us, by go_num, rfl, by omega, by omega, hml, rfl, HJ.out.1.move (Below.refl _ _) ⟨_, HT.out⟩, HJ.out.2⟩
        case measure => simp [intOf]; omega
      · have hP2 := HP.out
        rw [h0] at hP2
        obtain ⟨c, yt, hyc, n41, n124, nop⟩ := hA.first
        have hylen : 0 < ys.length := by rw [hyc]; simp
        have hrl := hP2.rl
        have hje2 : j + ys.length ≤ p.size := by rw [List.length_append] at hrl; have := HSl.out; omega
        obtain ⟨hy1, _, _⟩ := cutTwo hP2.ri.symm hrl (by omega)
        obtain ⟨hpj, _, _⟩ := cutHead (c := c) (zs := yt) (by rw [hy1]; exact hyc) (by rw [← HSl.out]; exact hje2)
        obtain ⟨_, gj⟩ := sb_get hpj
        have z124 : ((c.toNat : Int) == 124) = false := beq_eq_false_iff_ne.2 (ne_u8 (c := 124) n124)
        have HOp : Hid (Calls Tryd.prog 11 #[.int .u8 (c.toNat : Int)] wr fun e w' => e = .returned (.bool false) ∧ w' = wr) := by
          have := l4Op_core c wr
          rw [decide_eq_false nop] at this
          exact this
        obtain ⟨i2, hi2⟩ : ∃ i2, i2 = j + ys.length := ⟨_, rfl⟩
        have HT : Hid (PaS n (sb p) os i2 f us.length zs) := by rw [hi2]; exact PaS.next hP2 hT
        have HCall : Hid (Calls Tryd.prog 27 #[.string p, .int .i64 (j : Int)] wr fun e w' => e = .returned (.int .i64 (i2 : Int)) ∧ Below wr.heap.size wr w') := by
          rw [hi2]
          exact end_all hp n j (j + ys.length) t wr (by rw [hy1]; exact hA) (by omega)
        have hj2 : j < i2 := by omega
        have hj3 : i2 ≤ p.size := by omega
        clear h0 hT hA hy1 hyc hpj n41 n124 nop hi2 hylen hje2 hP2 hrl
        go_wp2_with fail
        refine HOp.out.mono ?_
        rintro e' w5 ⟨rfl, hw5⟩
        rw [hw5]
        clear hw5
        go_wp2_with fail
        refine HCall.out.mono ?_
        rintro e' w6 ⟨rfl, hb6⟩
        have HJ6 : Hid (PaK p n os w i2 f g cp us w6 ∧ m = us.length) := ⟨HJ.out.1.move hb6 ⟨_, HT.out⟩, HJ.out.2⟩
        clear hb6
        go_wp2_with fail
        go_roundw
        case rel => exact ⟨i2, f, g, cp, m, us, rfl, rfl, by omega, by omega, hml, rfl, HJ6.out⟩
        case measure => simp [intOf]; omega
    · have zj : ¬ (j : Int) < (p.size : Int) := by omega
      obtain rfl : j = p.size := by omega
      have hr0 : r = [] := by
        have h1 := HP.out.rl
        have h2 := HSl.out
        exact List.length_eq_zero_iff.1 (by omega)
      have hend : us.length + 1 = os.length := by
        rcases HP.out.rest with ⟨_, q⟩ | ⟨q, _⟩
        · exact q
        · have := lt_of_at q; have := HSl.out; omega
      obtain ⟨ts, hts, hsq⟩ := HP.out.cur
      rw [hr0] at hsq
      simp only [List.length_nil, Nat.add_zero] at hsq
      have HT : Hid (os[us.length]? = some ts ∧ SeqG (AtomG n) ts (sb (p.extract f p.size)) ∧ us.length + 1 = os.length) := ⟨hts, by rw [sb_extract p (Nat.le_refl _)]; exact hsq, hend⟩
      have HM : Hid (m = us.length) := HJ.out.2
      clear hr0 hend hts hsq
      go_wp2_with (at_builtin; refine wpList_append_str _ rfl _ _ rfl w.heap.size g cp m wr.heap.size us (.string (p.extract f p.size)) rfl rfl HM.out ?hO2 ?hc2 ?hy2 ?hl2 ?hb2 ?_)
      case hO2 => exact HJ.out.1.own.below ((Below.refl _ _).alloc (Nat.le_refl _) _)
      case hy2 => rfl
      case hl2 => rw [← HM.out]; omega
      case hb2 => first | omega | (simp; omega)
      intro g' cp' w' hO' hgr hat
      have HR : Hid (PrtP n os p.size w (.returned (.slice (some ⟨g', 0, none⟩) (m + 1) cp')) w') := by
        refine ⟨g', cp', us ++ [.string (p.extract f p.size)], ?_, by rw [List.length_append, List.length_singleton]; exact HT.out.2.2, ⟨hO', HJ.out.1.strs.snoc HT.out.1 HT.out.2.1 (by rw [← sb_len, sb_extract p (Nat.le_refl _), cut_len (by rw [sb_len]; exact Nat.le_refl _)]; omega)⟩, (HJ.out.1.below.trans ((Below.refl _ _).alloc hsz _)).grown hgr (by simp; omega) (fun j hj => by cases hj; omega)⟩
        rw [HM.out, HT.out.2.2]
      clear hO' hgr hat
      go_wp2_with fail
      go_ret
      exact HR.out
end Go.Proofs.YtbjbdidcnkamaaaDoor

