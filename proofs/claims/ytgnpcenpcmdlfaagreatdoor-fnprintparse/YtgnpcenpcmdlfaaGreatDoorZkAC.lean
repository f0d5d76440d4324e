import Derived.Deep.DeepCutAuto
import Derived.Deep.RegionWith
import Derived.Deep.RegionHeld3
import Derived.Test.YtgnpcenpcmdlfaaGreatDoorZkAB
import Derived.Test.YtgnpcenpcmdlfaaGreatDoorZkAA
/-
  spec.l4Class.
-/
namespace Go.Proofs.YtgnpcenpcmdlfaaGreatDoor
open Go.ChangeShapes Go.WideShapes Go.ChangeAt Go.RowKit Go.Deep
set_option linter.unusedVariables false
set_option linter.unusedSimpArgs false
set_option maxRecDepth 100000

theorem cls_go {p : List UInt8} {j : Nat} {b : Bool} {f : UInt8 → Bool} (hj : j ≤ p.length) (h : ¬ (p[j]? = some 93 ∧ b = true)) : clsM p j b f = match itemM p j with | .inr e => .inr e | .inl (a, b, k) => clsM p k true (wider f a b) := by
  cases b
  · exact cls_first hj
  · exact cls_more hj (fun q => h ⟨q, rfl⟩)
/-- What l4Class hands back. -/
def ClassP (p : ByteArray) (i : Nat) (e : Ending) : Prop :=
  (∃ f k, classM (sb p) i = .inl (f, k) ∧ e = .returned (.tuple #[.int .i64 (k : Int), .agg #[.int .i64 0, .int .i64 0]])) ∨ (∃ c k, classM (sb p) i = .inr (c, k) ∧ e = .returned (.tuple #[.int .i64 0, .agg #[.int .i64 c, .int .i64 (k : Int)]]))
theorem class_ret {base rb : Nat} {w : World} {a : Act} {x y z : Value} (hx : a.tmps.getD 4 undef = x) (ht : a.tmps.getD 5 undef = .pointer (some ⟨rb, 0, none⟩)) (he : BoxAt w base 125 2 rb [y, z]) :
    (results Tryz.f107 a.tmps).run Tryz.prog w = .ok (.tuple #[x, .agg #[y, z]]) w := by
  have q0 := he.cell (j := 0) rfl
  have q1 := he.cell (j := 1) rfl
  have h1 : a.tmps[4]?.getD undef = x := by rw [← Array.getD_eq_getD_getElem?]; exact hx
  have h2 : a.tmps[5]?.getD undef = .pointer (some ⟨rb, 0, none⟩) := by rw [← Array.getD_eq_getD_getElem?]; exact ht
  simp [results, Tryz.results107, go_sem, h1, h2, q0, q1]

set_option maxHeartbeats 8000000 in
theorem l4Class_core (p : ByteArray) (i : Nat) (w : World) (hp : p.size ≤ 200) (hi : i < p.size) :
    Calls Tryz.prog 107 #[.string p, .int .i64 (i : Int)] w fun e w' => ClassP p (i + 1) e ∧ Below w.heap.size w w' := by
  obtain ⟨W0, hW0⟩ : ∃ W0 : World, W0 = w.alloc (Obj.cells #[.int .i64 0, .int .i64 0] 125) := ⟨_, rfl⟩
  have HW0 : Hid (BoxAt W0 w.heap.size 125 2 w.heap.size [.int .i64 0, .int .i64 0] ∧ Below w.heap.size w W0) := by
    rw [hW0]; exact ⟨boxAt_new w _ (Nat.le_refl _) rfl, (Below.refl _ _).alloc (Nat.le_refl _) _⟩
  have HS : Hid (∀ a b : Value, BoxAt ((W0.setCell ⟨w.heap.size, 0, none⟩ a).setCell ⟨w.heap.size, 1, none⟩ b) w.heap.size 125 2 w.heap.size [a, b] ∧ Below w.heap.size w ((W0.setCell ⟨w.heap.size, 0, none⟩ a).setCell ⟨w.heap.size, 1, none⟩ b)) := fun a b => ⟨(HW0.out.1.set 0 a).set 1 b, below_set (below_set HW0.out.2 (Nat.le_refl _) 0 _) (Nat.le_refl _) 1 _⟩
  have r0 := HW0.out.1.cell (j := 0) rfl
  have r1 := HW0.out.1.cell (j := 1) rfl
  have f0 := HW0.out.1.frozen 0
  have f1 := HW0.out.1.frozen 1
  clear HW0
  obtain ⟨ng, j0, hng, hj0, hM0⟩ : ∃ (ng : Bool) (j0 : Nat), j0 = (if ng = true then i + 2 else i + 1) ∧ j0 ≤ p.size ∧ (ClsEq (sb p) (i + 1) ng j0 false (fun _ => false) ∧ (ng = true ↔ (sb p)[i + 1]? = some 94)) := by
    by_cases hx : (sb p)[i + 1]? = some 94
    · refine ⟨true, i + 2, rfl, by have := lt_of_at hx; rw [sb_len] at this; omega, ?_, ⟨fun _ => hx, fun _ => rfl⟩⟩
      unfold ClsEq classM; rw [if_pos hx]; rfl
    · refine ⟨false, i + 1, rfl, by omega, ?_, ⟨fun q => (by cases q), fun q => absurd q hx⟩⟩
      unfold ClsEq classM; rw [if_neg hx]
      generalize clsM (sb p) (i + 1) false (fun _ => false) = r
      cases r <;> rfl
  have HM0 : Hid (ClsEq (sb p) (i + 1) ng j0 false (fun _ => false)) := hM0.1
  have HNG : Hid (ng = true ↔ (sb p)[i + 1]? = some 94) := hM0.2
  have HJ0 : Hid (j0 = if ng = true then i + 2 else i + 1) := hng
  clear hM0 hng
  go_enter Tryz.func107, Tryz.ntmps107
  go_upto_region 1 with fail
  rw [← hW0]
  clear hW0
  -- TAIL
  by_cases hi1 : i + 1 < p.size
  · obtain ⟨x0, hx0⟩ : ∃ x, (sb p)[i + 1]? = some x := ⟨_, List.getElem?_eq_getElem (by rw [sb_len]; exact hi1)⟩
    obtain ⟨_, gx0⟩ := sb_get hx0
    have zi1 : (i : Int) + 1 < (p.size : Int) := by omega
    cases ng
    · have z94 : ((x0.toNat : Int) == 94) = false := beq_eq_false_iff_ne.2 (ne_u8 (c := 94) (fun q => by have h1 := HNG.out.2 (by rw [hx0, q]); cases h1))
      clear hx0
      go_wp2_with fail
      go_loopw [6, 7] (fun jv nv wr => ∃ (j n : Nat) (f : UInt8 → Bool), j ≤ p.size ∧ n ≤ j ∧ jv = .int .i64 (j : Int) ∧ nv = .int .i64 (n : Int) ∧ ClsEq (sb p) (i + 1) false j (decide (0 < n)) f ∧ wr = W0) (fun jv _ _ => p.size - (intOf jv).toNat)
      case atStart => exact ⟨j0, 0, fun _ => false, hj0, Nat.zero_le _, congrArg (Value.int .i64) (by rw [HJ0.out]; simp <;> omega), rfl, HM0.out, rfl⟩
      case round =>
        obtain ⟨j, n, f, hj, hnj, rfl, rfl, hE, hwr⟩ := hrel
        have HE : Hid (ClsEq (sb p) (i + 1) false j (decide (0 < n)) f) := hE
        rw [hwr]
        clear hE hwr HM0 HJ0 HNG
        by_cases hlt : j < p.size
        · obtain ⟨x, hx⟩ : ∃ x, (sb p)[j]? = some x := ⟨_, List.getElem?_eq_getElem (by rw [sb_len]; exact hlt)⟩
          obtain ⟨_, gx⟩ := sb_get hx
          have HX : Hid ((sb p)[j]? = some x) := hx
          have zj : (j : Int) < (p.size : Int) := by omega
          clear hx
          by_cases hend : x = 93 ∧ 0 < n
          · obtain ⟨rfl, hn0⟩ := hend
            have zn : (0 : Int) < (n : Int) := by omega
            have HF : Hid (∃ f', classM (sb p) (i + 1) = .inl (f', j + 1)) := by
              refine ⟨if false = true then fun c => !f c else f, ?_⟩
              rw [HE.out.eq, decide_eq_true hn0, cls_shut HX.out]
            obtain ⟨f', hf'⟩ := HF.out
            have HF' : Hid (classM (sb p) (i + 1) = .inl (f', j + 1)) := hf'
            clear hf' HF
            go_wp2_with fail
            exact bodyPost_ret (v := .tuple #[.int .i64 ((j + 1 : Nat) : Int), .agg #[.int .i64 0, .int .i64 0]]) (class_ret rfl rfl (HS.out (.int .i64 0) (.int .i64 0)).1) rfl ⟨.inl ⟨f', j + 1, HF'.out, rfl⟩, (HS.out (.int .i64 0) (.int .i64 0)).2⟩
          · have HG : Hid (clsM (sb p) j (decide (0 < n)) f = match itemM (sb p) j with | .inr e => .inr e | .inl (a, b, k) => clsM (sb p) k true (wider f a b)) := cls_go (by rw [sb_len]; omega) (fun q => hend ⟨by have h1 := q.1; rw [HX.out] at h1; exact Option.some.inj h1, by simpa using q.2⟩)
            obtain ⟨lo, k, b, hch⟩ : ∃ lo k b, chM (sb p) j = (lo, k, b) := ⟨_, _, _, rfl⟩
            have HCh : Hid (chM (sb p) j = (lo, k, b)) := hch
            have hkl : b = true → k ≤ p.size ∧ j < k := fun q => by
              subst q
              have := chM_gt hch
              rw [sb_len] at this
              omega
            clear hch
            have hpick : ((x.toNat : Int) == 93) = false ∨ (¬ (0 : Int) < (n : Int)) := by
              by_cases h93 : x = 93
              · exact .inr (fun q => hend ⟨h93, by omega⟩)
              · exact .inl (beq_eq_false_iff_ne.2 (ne_u8 (c := 93) h93))
            clear hend
            have hpk : (((x.toNat : Int) == 93) = false) ∨ (((x.toNat : Int) == 93) = true ∧ n = 0) := by
              rcases hpick with q | q
              · exact .inl q
              · cases hq : ((x.toNat : Int) == 93)
                · exact .inl rfl
                · exact .inr ⟨rfl, by omega⟩
            clear hpick
            rcases hpk with h93 | ⟨h93, hn0⟩
            case' inr =>
              have zn : ¬ (0 : Int) < (n : Int) := by omega
              clear hn0
            all_goals
              go_wp2_with fail
              refine (l4Ch_core p j W0 hp (by omega) lo k b HCh.out).mono ?_
              rintro e w1 ⟨rfl, hw1⟩
              rw [hw1]
              clear hw1
              cases b
              case false =>
                have HF : Hid (classM (sb p) (i + 1) = .inr (2, k)) := by
                  show classM (sb p) (i + 1) = _
                  rw [HE.out.eq, HG.out]
                  unfold itemM
                  rw [HCh.out]
                go_wp2_with fail
                exact bodyPost_ret (v := .tuple #[.int .i64 0, .agg #[.int .i64 2, .int .i64 (k : Int)]]) (class_ret rfl rfl (HS.out (.int .i64 2) (.int .i64 (k : Int))).1) rfl ⟨.inr ⟨2, k, HF.out, rfl⟩, (HS.out (.int .i64 2) (.int .i64 (k : Int))).2⟩
              obtain ⟨hks, hjk⟩ := hkl rfl
              clear hkl
              by_cases h45 : (sb p)[k]? = some 45
              · obtain ⟨hk2, gk⟩ := sb_get h45
                have HK : Hid ((sb p)[k]? = some 45) := h45
                have zk : (k : Int) < (p.size : Int) := by omega
                obtain ⟨hh, m, b2, hch2⟩ : ∃ hh m b2, chM (sb p) (k + 1) = (hh, m, b2) := ⟨_, _, _, rfl⟩
                have HCh2 : Hid (chM (sb p) (k + 1) = (hh, m, b2)) := hch2
                have hml : b2 = true → m ≤ p.size ∧ k < m := fun q => by
                  subst q
                  have := chM_gt hch2
                  rw [sb_len] at this
                  omega
                clear hch2 h45
                go_wp2_with fail
                refine (l4Ch_core p (k + 1) W0 hp (by omega) hh m b2 HCh2.out).mono ?_
                rintro e w2 ⟨rfl, hw2⟩
                rw [hw2]
                clear hw2
                cases b2
                · have HF : Hid (classM (sb p) (i + 1) = .inr (2, m)) := by
                    show classM (sb p) (i + 1) = _
                    rw [HE.out.eq, HG.out]
                    unfold itemM
                    rw [HCh.out]
                    simp only []
                    rw [if_pos HK.out, HCh2.out]
                  go_wp2_with fail
                  exact bodyPost_ret (v := .tuple #[.int .i64 0, .agg #[.int .i64 2, .int .i64 (m : Int)]]) (class_ret rfl rfl (HS.out (.int .i64 2) (.int .i64 (m : Int))).1) rfl ⟨.inr ⟨2, m, HF.out, rfl⟩, (HS.out (.int .i64 2) (.int .i64 (m : Int))).2⟩
                · obtain ⟨hms, hkm⟩ := hml rfl
                  clear hml
                  by_cases hlo : hh < lo
                  · have zlo : (hh.toNat : Int) < (lo.toNat : Int) := by have := UInt8.lt_iff_toNat_lt.1 hlo; omega
                    have HF : Hid (classM (sb p) (i + 1) = .inr (4, j)) := by
                      show classM (sb p) (i + 1) = _
                      rw [HE.out.eq, HG.out]
                      unfold itemM
                      rw [HCh.out]
                      simp only []
                      rw [if_pos HK.out, HCh2.out]
                      simp only []
                      rw [if_pos hlo]
                    go_wp2_with fail
                    exact bodyPost_ret (v := .tuple #[.int .i64 0, .agg #[.int .i64 4, .int .i64 (j : Int)]]) (class_ret rfl rfl (HS.out (.int .i64 4) (.int .i64 (j : Int))).1) rfl ⟨.inr ⟨4, j, HF.out, rfl⟩, (HS.out (.int .i64 4) (.int .i64 (j : Int))).2⟩
                  · have zlo : (lo.toNat : Int) ≤ (hh.toNat : Int) := by have := UInt8.le_iff_toNat_le.1 (UInt8.not_lt.1 hlo); omega
                    have HF : Hid (ClsEq (sb p) (i + 1) false m true (wider f lo hh)) := by
                      show ClsEq _ _ _ _ _ _
                      unfold ClsEq
                      rw [HE.out.eq, HG.out]
                      unfold itemM
                      rw [HCh.out]
                      simp only []
                      rw [if_pos HK.out, HCh2.out]
                      simp only []
                      rw [if_neg hlo]
                    clear hlo
                    go_wp2_with fail
                    go_roundw
                    case rel => exact ⟨m, n + 1, wider f lo hh, hms, by omega, rfl, by go_num, by rw [decide_eq_true (Nat.succ_pos n)]; exact HF.out, trivial⟩
                    case measure => simp [intOf]; omega
              · have HK : Hid (¬ (sb p)[k]? = some 45) := h45
                have HF : Hid (ClsEq (sb p) (i + 1) false k true (wider f lo lo)) := by
                  show ClsEq _ _ _ _ _ _
                  unfold ClsEq
                  rw [HE.out.eq, HG.out]
                  unfold itemM
                  rw [HCh.out]
                  simp only []
                  rw [if_neg HK.out]
                clear h45
                by_cases hke : k < p.size
                · obtain ⟨y, hy⟩ : ∃ y, (sb p)[k]? = some y := ⟨_, List.getElem?_eq_getElem (by rw [sb_len]; exact hke)⟩
                  obtain ⟨_, gy⟩ := sb_get hy
                  have zk : (k : Int) < (p.size : Int) := by omega
                  have zy : ((y.toNat : Int) == 45) = false := beq_eq_false_iff_ne.2 (ne_u8 (c := 45) (fun q => HK.out (by rw [hy, q])))
                  clear hy
                  go_wp2_with fail
                  go_roundw
                  case rel => exact ⟨k, n + 1, wider f lo lo, hks, by omega, rfl, by go_num, by rw [decide_eq_true (Nat.succ_pos n)]; exact HF.out, trivial⟩
                  case measure => simp [intOf]; omega
                · have zk : ¬ (k : Int) < (p.size : Int) := by omega
                  go_wp2_with fail
                  go_roundw
                  case rel => exact ⟨k, n + 1, wider f lo lo, hks, by omega, rfl, by go_num, by rw [decide_eq_true (Nat.succ_pos n)]; exact HF.out, trivial⟩
                  case measure => simp [intOf]; omega
        · have HF : Hid (classM (sb p) (i + 1) = .inr (2, p.size)) := by
            show classM (sb p) (i + 1) = _
            rw [HE.out.eq, clsM, dif_neg (by rw [sb_len]; exact hlt), sb_len]
          have zj : ¬ (j : Int) < (p.size : Int) := by omega
          go_wp2_with fail
          exact bodyPost_ret (v := .tuple #[.int .i64 0, .agg #[.int .i64 2, .int .i64 (p.size : Int)]]) (class_ret rfl rfl (HS.out (.int .i64 2) (.int .i64 (p.size : Int))).1) rfl ⟨.inr ⟨2, p.size, HF.out, rfl⟩, (HS.out (.int .i64 2) (.int .i64 (p.size : Int))).2⟩
    · have h94 : x0 = 94 := by have h1 := HNG.out.1 rfl; rw [hx0] at h1; exact Option.some.inj h1
      subst h94
      clear hx0
      go_wp2_with fail
      go_loopw [6, 7] (fun jv nv wr => ∃ (j n : Nat) (f : UInt8 → Bool), j ≤ p.size ∧ n ≤ j ∧ jv = .int .i64 (j : Int) ∧ nv = .int .i64 (n : Int) ∧ ClsEq (sb p) (i + 1) true j (decide (0 < n)) f ∧ wr = W0) (fun jv _ _ => p.size - (intOf jv).toNat)
      case atStart => exact ⟨j0, 0, fun _ => false, hj0, Nat.zero_le _, congrArg (Value.int .i64) (by rw [HJ0.out]; simp <;> omega), rfl, HM0.out, rfl⟩
      case round =>
        obtain ⟨j, n, f, hj, hnj, rfl, rfl, hE, hwr⟩ := hrel
        have HE : Hid (ClsEq (sb p) (i + 1) true j (decide (0 < n)) f) := hE
        rw [hwr]
        clear hE hwr HM0 HJ0 HNG
        by_cases hlt : j < p.size
        · obtain ⟨x, hx⟩ : ∃ x, (sb p)[j]? = some x := ⟨_, List.getElem?_eq_getElem (by rw [sb_len]; exact hlt)⟩
          obtain ⟨_, gx⟩ := sb_get hx
          have HX : Hid ((sb p)[j]? = some x) := hx
          have zj : (j : Int) < (p.size : Int) := by omega
          clear hx
          by_cases hend : x = 93 ∧ 0 < n
          · obtain ⟨rfl, hn0⟩ := hend
            have zn : (0 : Int) < (n : Int) := by omega
            have HF : Hid (∃ f', classM (sb p) (i + 1) = .inl (f', j + 1)) := by
              refine ⟨if true = true then fun c => !f c else f, ?_⟩
              rw [HE.out.eq, decide_eq_true hn0, cls_shut HX.out]
            obtain ⟨f', hf'⟩ := HF.out
            have HF' : Hid (classM (sb p) (i + 1) = .inl (f', j + 1)) := hf'
            clear hf' HF
            go_wp2_with fail
            exact bodyPost_ret (v := .tuple #[.int .i64 ((j + 1 : Nat) : Int), .agg #[.int .i64 0, .int .i64 0]]) (class_ret rfl rfl (HS.out (.int .i64 0) (.int .i64 0)).1) rfl ⟨.inl ⟨f', j + 1, HF'.out, rfl⟩, (HS.out (.int .i64 0) (.int .i64 0)).2⟩
          · have HG : Hid (clsM (sb p) j (decide (0 < n)) f = match itemM (sb p) j with | .inr e => .inr e | .inl (a, b, k) => clsM (sb p) k true (wider f a b)) := cls_go (by rw [sb_len]; omega) (fun q => hend ⟨by have h1 := q.1; rw [HX.out] at h1; exact Option.some.inj h1, by simpa using q.2⟩)
            obtain ⟨lo, k, b, hch⟩ : ∃ lo k b, chM (sb p) j = (lo, k, b) := ⟨_, _, _, rfl⟩
            have HCh : Hid (chM (sb p) j = (lo, k, b)) := hch
            have hkl : b = true → k ≤ p.size ∧ j < k := fun q => by
              subst q
              have := chM_gt hch
              rw [sb_len] at this
              omega
            clear hch
            have hpick : ((x.toNat : Int) == 93) = false ∨ (¬ (0 : Int) < (n : Int)) := by
              by_cases h93 : x = 93
              · exact .inr (fun q => hend ⟨h93, by omega⟩)
              · exact .inl (beq_eq_false_iff_ne.2 (ne_u8 (c := 93) h93))
            clear hend
            have hpk : (((x.toNat : Int) == 93) = false) ∨ (((x.toNat : Int) == 93) = true ∧ n = 0) := by
              rcases hpick with q | q
              · exact .inl q
              · cases hq : ((x.toNat : Int) == 93)
                · exact .inl rfl
                · exact .inr ⟨rfl, by omega⟩
            clear hpick
            rcases hpk with h93 | ⟨h93, hn0⟩
            case' inr =>
              have zn : ¬ (0 : Int) < (n : Int) := by omega
              clear hn0
            all_goals
              go_wp2_with fail
              refine (l4Ch_core p j W0 hp (by omega) lo k b HCh.out).mono ?_
              rintro e w1 ⟨rfl, hw1⟩
              rw [hw1]
              clear hw1
              cases b
              case false =>
                have HF : Hid (classM (sb p) (i + 1) = .inr (2, k)) := by
                  show classM (sb p) (i + 1) = _
                  rw [HE.out.eq, HG.out]
                  unfold itemM
                  rw [HCh.out]
                go_wp2_with fail
                exact bodyPost_ret (v := .tuple #[.int .i64 0, .agg #[.int .i64 2, .int .i64 (k : Int)]]) (class_ret rfl rfl (HS.out (.int .i64 2) (.int .i64 (k : Int))).1) rfl ⟨.inr ⟨2, k, HF.out, rfl⟩, (HS.out (.int .i64 2) (.int .i64 (k : Int))).2⟩
              obtain ⟨hks, hjk⟩ := hkl rfl
              clear hkl
              by_cases h45 : (sb p)[k]? = some 45
              · obtain ⟨hk2, gk⟩ := sb_get h45
                have HK : Hid ((sb p)[k]? = some 45) := h45
                have zk : (k : Int) < (p.size : Int) := by omega
                obtain ⟨hh, m, b2, hch2⟩ : ∃ hh m b2, chM (sb p) (k + 1) = (hh, m, b2) := ⟨_, _, _, rfl⟩
                have HCh2 : Hid (chM (sb p) (k + 1) = (hh, m, b2)) := hch2
                have hml : b2 = true → m ≤ p.size ∧ k < m := fun q => by
                  subst q
                  have := chM_gt hch2
                  rw [sb_len] at this
                  omega
                clear hch2 h45
                go_wp2_with fail
                refine (l4Ch_core p (k + 1) W0 hp (by omega) hh m b2 HCh2.out).mono ?_
                rintro e w2 ⟨rfl, hw2⟩
                rw [hw2]
                clear hw2
                cases b2
                · have HF : Hid (classM (sb p) (i + 1) = .inr (2, m)) := by
                    show classM (sb p) (i + 1) = _
                    rw [HE.out.eq, HG.out]
                    unfold itemM
                    rw [HCh.out]
                    simp only []
                    rw [if_pos HK.out, HCh2.out]
                  go_wp2_with fail
                  exact bodyPost_ret (v := .tuple #[.int .i64 0, .agg #[.int .i64 2, .int .i64 (m : Int)]]) (class_ret rfl rfl (HS.out (.int .i64 2) (.int .i64 (m : Int))).1) rfl ⟨.inr ⟨2, m, HF.out, rfl⟩, (HS.out (.int .i64 2) (.int .i64 (m : Int))).2⟩
                · obtain ⟨hms, hkm⟩ := hml rfl
                  clear hml
                  by_cases hlo : hh < lo
                  · have zlo : (hh.toNat : Int) < (lo.toNat : Int) := by have := UInt8.lt_iff_toNat_lt.1 hlo; omega
                    have HF : Hid (classM (sb p) (i + 1) = .inr (4, j)) := by
                      show classM (sb p) (i + 1) = _
                      rw [HE.out.eq, HG.out]
                      unfold itemM
                      rw [HCh.out]
                      simp only []
                      rw [if_pos HK.out, HCh2.out]
                      simp only []
                      rw [if_pos hlo]
                    go_wp2_with fail
                    exact bodyPost_ret (v := .tuple #[.int .i64 0, .agg #[.int .i64 4, .int .i64 (j : Int)]]) (class_ret rfl rfl (HS.out (.int .i64 4) (.int .i64 (j : Int))).1) rfl ⟨.inr ⟨4, j, HF.out, rfl⟩, (HS.out (.int .i64 4) (.int .i64 (j : Int))).2⟩
                  · have zlo : (lo.toNat : Int) ≤ (hh.toNat : Int) := by have := UInt8.le_iff_toNat_le.1 (UInt8.not_lt.1 hlo); omega
                    have HF : Hid (ClsEq (sb p) (i + 1) true m true (wider f lo hh)) := by
                      show ClsEq _ _ _ _ _ _
                      unfold ClsEq
                      rw [HE.out.eq, HG.out]
                      unfold itemM
                      rw [HCh.out]
                      simp only []
                      rw [if_pos HK.out, HCh2.out]
                      simp only []
                      rw [if_neg hlo]
                    clear hlo
                    go_wp2_with fail
                    go_roundw
                    case rel => exact ⟨m, n + 1, wider f lo hh, hms, by omega, rfl, by go_num, by rw [decide_eq_true (Nat.succ_pos n)]; exact HF.out, trivial⟩
                    case measure => simp [intOf]; omega
              · have HK : Hid (¬ (sb p)[k]? = some 45) := h45
                have HF : Hid (ClsEq (sb p) (i + 1) true k true (wider f lo lo)) := by
                  show ClsEq _ _ _ _ _ _
                  unfold ClsEq
                  rw [HE.out.eq, HG.out]
                  unfold itemM
                  rw [HCh.out]
                  simp only []
                  rw [if_neg HK.out]
                clear h45
                by_cases hke : k < p.size
                · obtain ⟨y, hy⟩ : ∃ y, (sb p)[k]? = some y := ⟨_, List.getElem?_eq_getElem (by rw [sb_len]; exact hke)⟩
                  obtain ⟨_, gy⟩ := sb_get hy
                  have zk : (k : Int) < (p.size : Int) := by omega
                  have zy : ((y.toNat : Int) == 45) = false := beq_eq_false_iff_ne.2 (ne_u8 (c := 45) (fun q => HK.out (by rw [hy, q])))
                  clear hy
                  go_wp2_with fail
                  go_roundw
                  case rel => exact ⟨k, n + 1, wider f lo lo, hks, by omega, rfl, by go_num, by rw [decide_eq_true (Nat.succ_pos n)]; exact HF.out, trivial⟩
                  case measure => simp [intOf]; omega
                · have zk : ¬ (k : Int) < (p.size : Int) := by omega
                  go_wp2_with fail
                  go_roundw
                  case rel => exact ⟨k, n + 1, wider f lo lo, hks, by omega, rfl, by go_num, by rw [decide_eq_true (Nat.succ_pos n)]; exact HF.out, trivial⟩
                  case measure => simp [intOf]; omega
        · have HF : Hid (classM (sb p) (i + 1) = .inr (2, p.size)) := by
            show classM (sb p) (i + 1) = _
            rw [HE.out.eq, clsM, dif_neg (by rw [sb_len]; exact hlt), sb_len]
          have zj : ¬ (j : Int) < (p.size : Int) := by omega
          go_wp2_with fail
          exact bodyPost_ret (v := .tuple #[.int .i64 0, .agg #[.int .i64 2, .int .i64 (p.size : Int)]]) (class_ret rfl rfl (HS.out (.int .i64 2) (.int .i64 (p.size : Int))).1) rfl ⟨.inr ⟨2, p.size, HF.out, rfl⟩, (HS.out (.int .i64 2) (.int .i64 (p.size : Int))).2⟩
  · have zi1 : ¬ (i : Int) + 1 < (p.size : Int) := by omega
    cases ng
    case true => exact absurd (HNG.out.1 rfl) (by rw [List.getElem?_eq_none (by rw [sb_len]; omega)]; exact fun q => by cases q)
    go_wp2_with fail
    go_loopw [6, 7] (fun jv nv wr => ∃ (j n : Nat) (f : UInt8 → Bool), j ≤ p.size ∧ n ≤ j ∧ jv = .int .i64 (j : Int) ∧ nv = .int .i64 (n : Int) ∧ ClsEq (sb p) (i + 1) false j (decide (0 < n)) f ∧ wr = W0) (fun jv _ _ => p.size - (intOf jv).toNat)
    case atStart => exact ⟨j0, 0, fun _ => false, hj0, Nat.zero_le _, congrArg (Value.int .i64) (by rw [HJ0.out]; simp <;> omega), rfl, HM0.out, rfl⟩
    case round =>
      obtain ⟨j, n, f, hj, hnj, rfl, rfl, hE, hwr⟩ := hrel
      have HE : Hid (ClsEq (sb p) (i + 1) false j (decide (0 < n)) f) := hE
      rw [hwr]
      clear hE hwr HM0 HJ0 HNG
      by_cases hlt : j < p.size
      · obtain ⟨x, hx⟩ : ∃ x, (sb p)[j]? = some x := ⟨_, List.getElem?_eq_getElem (by rw [sb_len]; exact hlt)⟩
        obtain ⟨_, gx⟩ := sb_get hx
        have HX : Hid ((sb p)[j]? = some x) := hx
        have zj : (j : Int) < (p.size : Int) := by omega
        clear hx
        by_cases hend : x = 93 ∧ 0 < n
        · obtain ⟨rfl, hn0⟩ := hend
          have zn : (0 : Int) < (n : Int) := by omega
          have HF : Hid (∃ f', classM (sb p) (i + 1) = .inl (f', j + 1)) := by
            refine ⟨if false = true then fun c => !f c else f, ?_⟩
            rw [HE.out.eq, decide_eq_true hn0, cls_shut HX.out]
          obtain ⟨f', hf'⟩ := HF.out
          have HF' : Hid (classM (sb p) (i + 1) = .inl (f', j + 1)) := hf'
          clear hf' HF
          go_wp2_with fail
          exact bodyPost_ret (v := .tuple #[.int .i64 ((j + 1 : Nat) : Int), .agg #[.int .i64 0, .int .i64 0]]) (class_ret rfl rfl (HS.out (.int .i64 0) (.int .i64 0)).1) rfl ⟨.inl ⟨f', j + 1, HF'.out, rfl⟩, (HS.out (.int .i64 0) (.int .i64 0)).2⟩
        · have HG : Hid (clsM (sb p) j (decide (0 < n)) f = match itemM (sb p) j with | .inr e => .inr e | .inl (a, b, k) => clsM (sb p) k true (wider f a b)) := cls_go (by rw [sb_len]; omega) (fun q => hend ⟨by have h1 := q.1; rw [HX.out] at h1; exact Option.some.inj h1, by simpa using q.2⟩)
          obtain ⟨lo, k, b, hch⟩ : ∃ lo k b, chM (sb p) j = (lo, k, b) := ⟨_, _, _, rfl⟩
          have HCh : Hid (chM (sb p) j = (lo, k, b)) := hch
          have hkl : b = true → k ≤ p.size ∧ j < k := fun q => by
            subst q
            have := chM_gt hch
            rw [sb_len] at this
            omega
          clear hch
          have hpick : ((x.toNat : Int) == 93) = false ∨ (¬ (0 : Int) < (n : Int)) := by
            by_cases h93 : x = 93
            · exact .inr (fun q => hend ⟨h93, by omega⟩)
            · exact .inl (beq_eq_false_iff_ne.2 (ne_u8 (c := 93) h93))
          clear hend
          have hpk : (((x.toNat : Int) == 93) = false) ∨ (((x.toNat : Int) == 93) = true ∧ n = 0) := by
            rcases hpick with q | q
            · exact .inl q
            · cases hq : ((x.toNat : Int) == 93)
              · exact .inl rfl
              · exact .inr ⟨rfl, by omega⟩
          clear hpick
          rcases hpk with h93 | ⟨h93, hn0⟩
          case' inr =>
            have zn : ¬ (0 : Int) < (n : Int) := by omega
            clear hn0
          all_goals
            go_wp2_with fail
            refine (l4Ch_core p j W0 hp (by omega) lo k b HCh.out).mono ?_
            rintro e w1 ⟨rfl, hw1⟩
            rw [hw1]
            clear hw1
            cases b
            case false =>
              have HF : Hid (classM (sb p) (i + 1) = .inr (2, k)) := by
                show classM (sb p) (i + 1) = _
                rw [HE.out.eq, HG.out]
                unfold itemM
                rw [HCh.out]
              go_wp2_with fail
              exact bodyPost_ret (v := .tuple #[.int .i64 0, .agg #[.int .i64 2, .int .i64 (k : Int)]]) (class_ret rfl rfl (HS.out (.int .i64 2) (.int .i64 (k : Int))).1) rfl ⟨.inr ⟨2, k, HF.out, rfl⟩, (HS.out (.int .i64 2) (.int .i64 (k : Int))).2⟩
            obtain ⟨hks, hjk⟩ := hkl rfl
            clear hkl
            by_cases h45 : (sb p)[k]? = some 45
            · obtain ⟨hk2, gk⟩ := sb_get h45
              have HK : Hid ((sb p)[k]? = some 45) := h45
              have zk : (k : Int) < (p.size : Int) := by omega
              obtain ⟨hh, m, b2, hch2⟩ : ∃ hh m b2, chM (sb p) (k + 1) = (hh, m, b2) := ⟨_, _, _, rfl⟩
              have HCh2 : Hid (chM (sb p) (k + 1) = (hh, m, b2)) := hch2
              have hml : b2 = true → m ≤ p.size ∧ k < m := fun q => by
                subst q
                have := chM_gt hch2
                rw [sb_len] at this
                omega
              clear hch2 h45
              go_wp2_with fail
              refine (l4Ch_core p (k + 1) W0 hp (by omega) hh m b2 HCh2.out).mono ?_
              rintro e w2 ⟨rfl, hw2⟩
              rw [hw2]
              clear hw2
              cases b2
              · have HF : Hid (classM (sb p) (i + 1) = .inr (2, m)) := by
                  show classM (sb p) (i + 1) = _
                  rw [HE.out.eq, HG.out]
                  unfold itemM
                  rw [HCh.out]
                  simp only []
                  rw [if_pos HK.out, HCh2.out]
                go_wp2_with fail
                exact bodyPost_ret (v := .tuple #[.int .i64 0, .agg #[.int .i64 2, .int .i64 (m : Int)]]) (class_ret rfl rfl (HS.out (.int .i64 2) (.int .i64 (m : Int))).1) rfl ⟨.inr ⟨2, m, HF.out, rfl⟩, (HS.out (.int .i64 2) (.int .i64 (m : Int))).2⟩
              · obtain ⟨hms, hkm⟩ := hml rfl
                clear hml
                by_cases hlo : hh < lo
                · have zlo : (hh.toNat : Int) < (lo.toNat : Int) := by have := UInt8.lt_iff_toNat_lt.1 hlo; omega
                  have HF : Hid (classM (sb p) (i + 1) = .inr (4, j)) := by
                    show classM (sb p) (i + 1) = _
                    rw [HE.out.eq, HG.out]
                    unfold itemM
                    rw [HCh.out]
                    simp only []
                    rw [if_pos HK.out, HCh2.out]
                    simp only []
                    rw [if_pos hlo]
                  go_wp2_with fail
                  exact bodyPost_ret (v := .tuple #[.int .i64 0, .agg #[.int .i64 4, .int .i64 (j : Int)]]) (class_ret rfl rfl (HS.out (.int .i64 4) (.int .i64 (j : Int))).1) rfl ⟨.inr ⟨4, j, HF.out, rfl⟩, (HS.out (.int .i64 4) (.int .i64 (j : Int))).2⟩
                · have zlo : (lo.toNat : Int) ≤ (hh.toNat : Int) := by have := UInt8.le_iff_toNat_le.1 (UInt8.not_lt.1 hlo); omega
                  have HF : Hid (ClsEq (sb p) (i + 1) false m true (wider f lo hh)) := by
                    show ClsEq _ _ _ _ _ _
                    unfold ClsEq
                    rw [HE.out.eq, HG.out]
                    unfold itemM
                    rw [HCh.out]
                    simp only []
                    rw [if_pos HK.out, HCh2.out]
                    simp only []
                    rw [if_neg hlo]
                  clear hlo
                  go_wp2_with fail
                  go_roundw
                  case rel => exact ⟨m, n + 1, wider f lo hh, hms, by omega, rfl, by go_num, by rw [decide_eq_true (Nat.succ_pos n)]; exact HF.out, trivial⟩
                  case measure => simp [intOf]; omega
            · have HK : Hid (¬ (sb p)[k]? = some 45) := h45
              have HF : Hid (ClsEq (sb p) (i + 1) false k true (wider f lo lo)) := by
                show ClsEq _ _ _ _ _ _
                unfold ClsEq
                rw [HE.out.eq, HG.out]
                unfold itemM
                rw [HCh.out]
                simp only []
                rw [if_neg HK.out]
              clear h45
              by_cases hke : k < p.size
              · obtain ⟨y, hy⟩ : ∃ y, (sb p)[k]? = some y := ⟨_, List.getElem?_eq_getElem (by rw [sb_len]; exact hke)⟩
                obtain ⟨_, gy⟩ := sb_get hy
                have zk : (k : Int) < (p.size : Int) := by omega
                have zy : ((y.toNat : Int) == 45) = false := beq_eq_false_iff_ne.2 (ne_u8 (c := 45) (fun q => HK.out (by rw [hy, q])))
                clear hy
                go_wp2_with fail
                go_roundw
                case rel => exact ⟨k, n + 1, wider f lo lo, hks, by omega, rfl, by go_num, by rw [decide_eq_true (Nat.succ_pos n)]; exact HF.out, trivial⟩
                case measure => simp [intOf]; omega
              · have zk : ¬ (k : Int) < (p.size : Int) := by omega
                go_wp2_with fail
                go_roundw
                case rel => exact ⟨k, n + 1, wider f lo lo, hks, by omega, rfl, by go_num, by rw [decide_eq_true (Nat.succ_pos n)]; exact HF.out, trivial⟩
                case measure => simp [intOf]; omega
      · have HF : Hid (classM (sb p) (i + 1) = .inr (2, p.size)) := by
          show classM (sb p) (i + 1) = _
          rw [HE.out.eq, clsM, dif_neg (by rw [sb_len]; exact hlt), sb_len]
        have zj : ¬ (j : Int) < (p.size : Int) := by omega
        go_wp2_with fail
        exact bodyPost_ret (v := .tuple #[.int .i64 0, .agg #[.int .i64 2, .int .i64 (p.size : Int)]]) (class_ret rfl rfl (HS.out (.int .i64 2) (.int .i64 (p.size : Int))).1) rfl ⟨.inr ⟨2, p.size, HF.out, rfl⟩, (HS.out (.int .i64 2) (.int .i64 (p.size : Int))).2⟩
end Go.Proofs.YtgnpcenpcmdlfaaGreatDoor

/-
  spec.CheckRegex.
-/
namespace Go.Proofs.YtgnpcenpcmdlfaaGreatDoor
open Go.ChangeShapes Go.WideShapes Go.ChangeAt Go.RowKit Go.Deep
set_option linter.unusedVariables false
set_option linter.unusedSimpArgs false
set_option maxRecDepth 100000

/-- What the check of a pattern comes to. -/
def specM (p : List UInt8) : Int × Nat := if 200 < p.length then (1, 0) else chkM p 0 0 false
theorem chk_ret {base rb : Nat} {w : World} {a : Act} {y z : Value} (ht : a.tmps.getD 2 undef = .pointer (some ⟨rb, 0, none⟩)) (he : BoxAt w base 125 2 rb [y, z]) :
    (results Tryz.f78 a.tmps).run Tryz.prog w = .ok (.agg #[y, z]) w := by
  have q0 := he.cell (j := 0) rfl
  have q1 := he.cell (j := 1) rfl
  have h2 : a.tmps[2]?.getD undef = .pointer (some ⟨rb, 0, none⟩) := by rw [← Array.getD_eq_getD_getElem?]; exact ht
  simp [results, Tryz.results78, go_sem, h2, q0, q1]
/-- How the answer is told. -/
def ChkP (p : ByteArray) (w : World) (e : Ending) (w' : World) : Prop := e = .returned (.agg #[.int .i64 (specM (sb p)).1, .int .i64 ((specM (sb p)).2 : Int)]) ∧ Below w.heap.size w w'
theorem chk_fin {p : ByteArray} {w wr : World} {a : Act} {c : Int} {k : Nat} (hM : specM (sb p) = (c, k)) (hd : a.defers = []) (ht : a.tmps.getD 2 undef = .pointer (some ⟨w.heap.size, 0, none⟩)) (hx : BoxAt wr w.heap.size 125 2 w.heap.size [.int .i64 0, .int .i64 0]) (hb : Below w.heap.size w wr) :
    bodyPost Tryz.prog Tryz.f78 (ChkP p w) .ret a ((wr.setCell ⟨w.heap.size, 0, none⟩ (.int .i64 c)).setCell ⟨w.heap.size, 1, none⟩ (.int .i64 (k : Int))) :=
  bodyPost_ret (v := .agg #[.int .i64 c, .int .i64 (k : Int)]) (chk_ret ht ((hx.set 0 _).set 1 _)) hd ⟨by rw [hM], below_set (below_set hb (Nat.le_refl _) 0 _) (Nat.le_refl _) 1 _⟩

set_option maxHeartbeats 8000000 in
theorem specCheck_core (p : ByteArray) (w : World) (hpm : p.size ≤ maxLen) : Calls Tryz.prog 78 #[.string p] w (ChkP p w) := by
  obtain ⟨W0, hW0⟩ : ∃ W0 : World, W0 = w.alloc (Obj.cells #[.int .i64 0, .int .i64 0] 125) := ⟨_, rfl⟩
  have HW0 : Hid (BoxAt W0 w.heap.size 125 2 w.heap.size [.int .i64 0, .int .i64 0] ∧ Below w.heap.size w W0) := by
    rw [hW0]; exact ⟨boxAt_new w _ (Nat.le_refl _) rfl, (Below.refl _ _).alloc (Nat.le_refl _) _⟩
  unfold maxLen at hpm
  by_cases hp : 200 < p.size
  · have HM : Hid (specM (sb p) = (1, 0)) := by
      show specM (sb p) = _
      unfold specM; rw [if_pos (by rw [sb_len]; exact hp)]
    have z2 : (200 : Int) < (p.size : Int) := by omega
    have r0 := HW0.out.1.cell (j := 0) rfl
    have r1 := HW0.out.1.cell (j := 1) rfl
    have f0 := HW0.out.1.frozen 0
    have f1 := HW0.out.1.frozen 1
    go_enter Tryz.func78, Tryz.ntmps78
    go_upto_region 1 with fail
    rw [← hW0]
    clear hW0
    go_wp2_with fail
    exact chk_fin HM.out rfl rfl HW0.out.1 HW0.out.2
  have hp2 : p.size ≤ 200 := by omega
  have HM : Hid (specM (sb p) = chkM (sb p) 0 0 false) := by
    show specM (sb p) = _
    unfold specM; rw [if_neg (by rw [sb_len]; exact hp)]
  have z2 : ¬ (200 : Int) < (p.size : Int) := by omega
  go_enter Tryz.func78, Tryz.ntmps78
  go_upto_region 1 with fail
  rw [← hW0]
  clear hW0 hp
  go_wp2_with fail
  go_loopw [3, 4, 5] (fun ov av iv wr => ∃ (i o : Nat) (a : Bool), i ≤ p.size ∧ o ≤ i ∧ ov = .int .i64 (o : Int) ∧ av = .bool a ∧ iv = .int .i64 (i : Int) ∧ specM (sb p) = chkM (sb p) i o a ∧ Below W0.heap.size W0 wr) (fun _ _ iv _ => p.size - (intOf iv).toNat)
  case atStart => exact ⟨0, 0, false, Nat.zero_le _, Nat.zero_le _, rfl, rfl, rfl, HM.out, Below.refl _ _⟩
  case round =>
    obtain ⟨i, o, a, hi, hoi, rfl, rfl, rfl, hE, hb⟩ := hrel
    have HE : Hid (specM (sb p) = chkM (sb p) i o a) := hE
    have HX : Hid (BoxAt wr w.heap.size 125 2 w.heap.size [.int .i64 0, .int .i64 0] ∧ Below w.heap.size w wr) := ⟨HW0.out.1.below hb, HW0.out.2.trans (hb.mono HW0.out.2.size)⟩
    have HB : Hid (Below W0.heap.size W0 wr) := hb
    have r0 := HX.out.1.cell (j := 0) rfl
    have r1 := HX.out.1.cell (j := 1) rfl
    have f0 := HX.out.1.frozen 0
    have f1 := HX.out.1.frozen 1
    clear hE hb HM
    by_cases hlt : i < p.size
    · obtain ⟨c, hc⟩ : ∃ x, (sb p)[i]? = some x := ⟨_, List.getElem?_eq_getElem (by rw [sb_len]; exact hlt)⟩
      obtain ⟨_, gc⟩ := sb_get hc
      have HC : Hid ((sb p)[i]? = some c) := hc
      have zi : (i : Int) < (p.size : Int) := by omega
      clear hc
      by_cases h40 : c = 40
      · subst h40
        by_cases ho : o = 20
        · subst ho
          have HF : Hid (specM (sb p) = (3, i)) := by
            show specM (sb p) = _
            rw [HE.out, chk_open HC.out, if_pos rfl]
          go_wp2_with fail
          exact chk_fin HF.out rfl rfl HX.out.1 HX.out.2
        · have zo : ¬ (o : Int) = 20 := by omega
          have HF : Hid (specM (sb p) = chkM (sb p) (i + 1) (o + 1) false) := by
            show specM (sb p) = _
            rw [HE.out, chk_open HC.out, if_neg ho]
          go_wp2_with fail
          go_roundw
          case rel => exact ⟨i + 1, o + 1, false, by omega, by omega, by go_num, rfl, by go_num, HF.out, HB.out⟩
          case measure => simp [intOf]; omega
      have z40 : ((c.toNat : Int) == 40) = false := beq_eq_false_iff_ne.2 (ne_u8 (c := 40) h40)
      by_cases h41 : c = 41
      · subst h41
        by_cases ho : o = 0
        · subst ho
          have HF : Hid (specM (sb p) = (2, i)) := by
            show specM (sb p) = _
            rw [HE.out, chk_close HC.out, if_pos rfl]
          go_wp2_with fail
          exact chk_fin HF.out rfl rfl HX.out.1 HX.out.2
        · have zo : ¬ (o : Int) = 0 := by omega
          have HF : Hid (specM (sb p) = chkM (sb p) (i + 1) (o - 1) true) := by
            show specM (sb p) = _
            rw [HE.out, chk_close HC.out, if_neg ho]
          go_wp2_with fail
          go_roundw
          case rel => exact ⟨i + 1, o - 1, true, by omega, by omega, congrArg (Value.int .i64) (by omega), rfl, by go_num, HF.out, HB.out⟩
          case measure => simp [intOf]; omega
      have z41 : ((c.toNat : Int) == 41) = false := beq_eq_false_iff_ne.2 (ne_u8 (c := 41) h41)
      by_cases h124 : c = 124
      · subst h124
        have HF : Hid (specM (sb p) = chkM (sb p) (i + 1) o false) := by
          show specM (sb p) = _
          rw [HE.out, chk_bar HC.out]
        go_wp2_with fail
        go_roundw
        case rel => exact ⟨i + 1, o, false, by omega, by omega, rfl, rfl, by go_num, HF.out, HB.out⟩
        case measure => simp [intOf]; omega
      have z124 : ((c.toNat : Int) == 124) = false := beq_eq_false_iff_ne.2 (ne_u8 (c := 124) h124)
      have HL : Hid (∀ q : Bool, decide (isOp c) = q → Calls Tryz.prog 106 #[.int .u8 (c.toNat : Int)] wr fun e w' => e = .returned (.bool q) ∧ w' = wr) := fun q hq => by rw [← hq]; exact l4Op_core c wr
      by_cases hop : isOp c
      · go_wp2_with fail
        refine (HL.out true (decide_eq_true hop)).mono ?_
        rintro e w3 ⟨rfl, hw3⟩
        rw [hw3]
        clear hw3 HL
        cases a
        · have HF : Hid (specM (sb p) = (2, i)) := by
            show specM (sb p) = _
            rw [HE.out, chk_op HC.out hop]; rfl
          clear hop
          go_wp2_with fail
          exact chk_fin HF.out rfl rfl HX.out.1 HX.out.2
        · have HF : Hid (specM (sb p) = chkM (sb p) (i + 1) o true) := by
            show specM (sb p) = _
            rw [HE.out, chk_op HC.out hop, if_pos rfl]
          clear hop
          go_wp2_with fail
          go_roundw
          case rel => exact ⟨i + 1, o, true, by omega, by omega, rfl, rfl, by go_num, HF.out, HB.out⟩
          case measure => simp [intOf]; omega
      go_wp2_with fail
      refine (HL.out false (decide_eq_false hop)).mono ?_
      rintro e w3 ⟨rfl, hw3⟩
      rw [hw3]
      have HOp : Hid (¬ isOp c) := hop
      clear hw3 HL hop
      by_cases h91 : c = 91
      · subst h91
        go_wp2_with fail
        refine (l4Class_core p i wr hp2 hlt).mono ?_
        rintro e w4 ⟨hP, hb4⟩
        have hB4 : Below W0.heap.size W0 w4 := HB.out.trans (hb4.mono HB.out.size)
        have hs4 := hb4.size
        have hsw := HX.out.2.size
        rcases hP with ⟨f, k, hk, rfl⟩ | ⟨c4, k, hk, rfl⟩
        · have hkp := classM_gt hk
          rw [sb_len] at hkp
          obtain ⟨W5, hW5⟩ : ∃ W5 : World, W5 = w4.alloc (Obj.cells #[.int .i64 0, .int .i64 0] 125) := ⟨_, rfl⟩
          have HF : Hid (specM (sb p) = chkM (sb p) k o true ∧ Below W0.heap.size W0 W5) := by
            refine ⟨by rw [HE.out, chk_class HC.out, hk], ?_⟩
            rw [hW5]; exact hB4.trans ((Below.refl _ _).alloc (by have := HB.out.size; omega) _)
          clear hk hb4 hB4 r0 r1 f0 f1
          go_wp2_with fail
          rw [← hW5]
          go_roundw
          case rel => exact ⟨k, o, true, hkp.2, by omega, rfl, rfl, rfl, HF.out.1, HF.out.2⟩
          case measure => simp [intOf]; omega
        · have hc4 := classM_err hk
          obtain ⟨W5, hW5⟩ : ∃ W5 : World, W5 = w4.alloc (Obj.cells #[.int .i64 c4, .int .i64 (k : Int)] 125) := ⟨_, rfl⟩
          have HF : Hid (specM (sb p) = (c4, k) ∧ BoxAt W5 w.heap.size 125 2 w.heap.size [.int .i64 0, .int .i64 0] ∧ Below w.heap.size w W5 ∧ BoxAt W5 w.heap.size 125 2 w4.heap.size [.int .i64 c4, .int .i64 (k : Int)]) := by
            have hb5 : Below w4.heap.size w4 W5 := by rw [hW5]; exact (Below.refl _ _).alloc (Nat.le_refl _) _
            refine ⟨by rw [HE.out, chk_class HC.out, hk], (HX.out.1.below hb4).below hb5, (HX.out.2.trans (hb4.mono hsw)).trans (hb5.mono (by omega)), ?_⟩
            rw [hW5]; exact boxAt_new w4 _ (by omega) rfl
          have hc4' : (c4 != 0) = true := by simpa using hc4
          clear hk hb4 hB4 r0 r1 f0 f1
          go_upto_region 29 with fail
          rw [← hW5]
          clear hW5
          have b0 := HF.out.2.2.2.cell (j := 0) rfl
          have b1 := HF.out.2.2.2.cell (j := 1) rfl
          have r0 := HF.out.2.1.cell (j := 0) rfl
          have r1 := HF.out.2.1.cell (j := 1) rfl
          have f0 := HF.out.2.1.frozen 0
          have f1 := HF.out.2.1.frozen 1
          go_wp2_with fail
          exact chk_fin HF.out.1 rfl rfl HF.out.2.1 HF.out.2.2.1
      have z91 : ((c.toNat : Int) == 91) = false := beq_eq_false_iff_ne.2 (ne_u8 (c := 91) h91)
      by_cases h93 : c = 93
      · subst h93
        have HF : Hid (specM (sb p) = (2, i)) := by
          show specM (sb p) = _
          rw [HE.out, chk_rb HC.out]
        go_wp2_with fail
        exact chk_fin HF.out rfl rfl HX.out.1 HX.out.2
      have z93 : ((c.toNat : Int) == 93) = false := beq_eq_false_iff_ne.2 (ne_u8 (c := 93) h93)
      by_cases h92 : c = 92
      · subst h92
        by_cases hl1 : i + 1 = p.size
        · have HF : Hid (specM (sb p) = (2, p.size)) := by
            show specM (sb p) = _
            rw [HE.out, chk_esc HC.out, if_pos (by rw [sb_len]; exact hl1), sb_len]
          have zl : (i : Int) + 1 = (p.size : Int) := by omega
          go_wp2_with fail
          exact chk_fin HF.out rfl rfl HX.out.1 HX.out.2
        · have HF : Hid (specM (sb p) = chkM (sb p) (i + 2) o true) := by
            show specM (sb p) = _
            rw [HE.out, chk_esc HC.out, if_neg (by rw [sb_len]; exact hl1)]
          have zl : ¬ (i : Int) + 1 = (p.size : Int) := by omega
          go_wp2_with fail
          go_roundw
          case rel => exact ⟨i + 2, o, true, by omega, by omega, rfl, rfl, by go_num, HF.out, HB.out⟩
          case measure => simp [intOf]; omega
      have z92 : ((c.toNat : Int) == 92) = false := beq_eq_false_iff_ne.2 (ne_u8 (c := 92) h92)
      have HF : Hid (specM (sb p) = chkM (sb p) (i + 1) o true) := by
        show specM (sb p) = _
        rw [HE.out, chk_plain HC.out (fun q => q.elim HOp.out (fun q => q.elim h124 (fun q => q.elim h41 h93))) h40 h91 h92]
      go_wp2_with fail
      go_roundw
      case rel => exact ⟨i + 1, o, true, by omega, by omega, rfl, rfl, by go_num, HF.out, HB.out⟩
      case measure => simp [intOf]; omega
    · have zi : ¬ (i : Int) < (p.size : Int) := by omega
      by_cases ho : 0 < o
      · have HF : Hid (specM (sb p) = (2, p.size)) := by
          show specM (sb p) = _
          rw [HE.out, chk_end (by rw [sb_len]; exact hlt), if_pos ho, sb_len]
        have zo : (0 : Int) < (o : Int) := by omega
        go_wp2_with fail
        exact chk_fin HF.out rfl rfl HX.out.1 HX.out.2
      · have HF : Hid (specM (sb p) = (0, 0)) := by
          show specM (sb p) = _
          rw [HE.out, chk_end (by rw [sb_len]; exact hlt), if_neg ho]
        have zo : ¬ (0 : Int) < (o : Int) := by omega
        go_wp2_with fail
        exact chk_fin HF.out rfl rfl HX.out.1 HX.out.2
end Go.Proofs.YtgnpcenpcmdlfaaGreatDoor

/-
  The draws: patterns, good and faulty; a pattern and a string.
-/
namespace Go.Proofs.YtgnpcenpcmdlfaaGreatDoor
open Go.ChangeShapes Go.WideShapes Go.ChangeAt Go.RowKit Go.Deep
set_option linter.unusedVariables false
set_option linter.unusedSimpArgs false
set_option maxRecDepth 100000
theorem reg_fieldR (c k : Int) (w : World) : (Instr.field 125 (.agg #[.int .i64 c, .int .i64 k]) 0).run Tryz.prog w = .ok (.int .i64 c) w := by kernel_rfl
set_option maxHeartbeats 4000000 in
theorem pattern_core (base cb : Nat) (bv : Value) (n : Nat) (w : World) (h : DrawAt base cb bv n w) : Calls Tryz.prog 130 #[.pointer (some ⟨cb, 0, none⟩)] w (TxtP base cb bv n 100000 w) := by
  have HD : Hid (DrawAt base cb bv n w) := h
  clear h
  go_enter Tryz.func130, Tryz.ntmps130
  go_wp2_with fail
  refine (below_core base cb bv n 12 _ HD.out (by omega) (by omega)).mono ?_
  rintro e w1 ⟨x, rfl, hx0, hx1, hD1, hC1⟩
  have H1 : Hid (DrawAt base cb bv n w1 ∧ Chg (fun k => k = cb) w w1) := ⟨hD1, hC1⟩
  clear hD1 hC1
  by_cases h0 : x = 0
  · subst h0
    go_wp2_with fail
    go_ret
    exact ⟨_, rfl, by decide, H1.out⟩
  have b0 : (x == 0) = false := by rw [beq_eq_false_iff_ne]; exact h0
  by_cases h4 : x < 4
  · go_wp2_with fail
    refine (letters_core base cb bv n 0 2 _ H1.out.1 (by omega) (by omega) (by omega)).mono ?_
    rintro e w2 ⟨s, rfl, hs, hD2, hC2⟩
    have H2 : Hid (DrawAt base cb bv n w2 ∧ Chg (fun k => k = cb) w w2) := ⟨hD2, H1.out.2.trans hC2⟩
    have hcl := hD2.lt.2
    clear hD2 hC2
    go_wp2_with fail
    refine (pick_core base cb bv n _ 7 _ ((H2.out.1).below ((Below.refl _ _).alloc (Nat.le_refl _) _)) (by omega) (by omega) (by omega) (by simp) ?_).mono ?_
    · intro k hk
      match k, hk with
      | 0, _ => exact ⟨_, by simp; rfl, by decide⟩
      | 1, _ => exact ⟨_, by simp; rfl, by decide⟩
      | 2, _ => exact ⟨_, by simp; rfl, by decide⟩
      | 3, _ => exact ⟨_, by simp; rfl, by decide⟩
      | 4, _ => exact ⟨_, by simp; rfl, by decide⟩
      | 5, _ => exact ⟨_, by simp; rfl, by decide⟩
      | 6, _ => exact ⟨_, by simp; rfl, by decide⟩
    · rintro e w3 ⟨t, rfl, ht, hD3, hC3⟩
      have H3 : Hid (DrawAt base cb bv n w3 ∧ Chg (fun k => k = cb) w w3) := ⟨hD3, (H2.out.2.alloc_new _).trans hC3⟩
      clear hD3 hC3
      go_wp2_with fail
      go_ret
      exact ⟨_, rfl, by rw [size_app]; omega, H3.out⟩
  · go_wp2_with fail
    refine (ptext_two base cb bv n _ H1.out.1).mono ?_
    rintro e w2 ⟨s, rfl, hs, hD2, hC2⟩
    have H2 : Hid (DrawAt base cb bv n w2 ∧ Chg (fun k => k = cb) w w2) := ⟨hD2, H1.out.2.trans hC2⟩
    clear hD2 hC2
    have hsm : s.size ≤ maxLen := by unfold maxLen; omega
    have HC : Hid (Calls Tryz.prog 78 #[.string s] w2 (ChkP s w2)) := specCheck_core s w2 hsm
    clear hsm
    go_wp2_with fail
    refine HC.out.mono ?_
    rintro e w3 ⟨rfl, hb3⟩
    have H3 : Hid (DrawAt base cb bv n w3 ∧ Chg (fun k => k = cb) w w3) := ⟨H2.out.1.below hb3, H2.out.2.trans (Chg.of_below hb3)⟩
    obtain ⟨c, hc⟩ : ∃ c : Int, c = (specM (sb s)).1 := ⟨_, rfl⟩
    obtain ⟨k, hk⟩ : ∃ k : Int, k = ((specM (sb s)).2 : Int) := ⟨_, rfl⟩
    rw [← hc, ← hk]
    clear hc hk hb3
    have hf := reg_fieldR c k w3
    by_cases hc0 : c = 0
    · subst hc0
      go_wp2_with fail
      go_ret
      exact ⟨s, rfl, by omega, H3.out⟩
    · have bc : (c == 0) = false := by rw [beq_eq_false_iff_ne]; exact hc0
      go_wp2_with fail
      refine (letters_core base cb bv n 0 2 _ H3.out.1 (by omega) (by omega) (by omega)).mono ?_
      rintro e w4 ⟨t, rfl, ht, hD4, hC4⟩
      have H4 : Hid (DrawAt base cb bv n w4 ∧ Chg (fun k => k = cb) w w4) := ⟨hD4, H3.out.2.trans hC4⟩
      clear hD4 hC4
      go_wp2_with fail
      go_ret
      exact ⟨t, rfl, by omega, H4.out⟩
end Go.Proofs.YtgnpcenpcmdlfaaGreatDoor

/-
  Filters as lists of nodes: trees in postfix order, their shapes.
-/
namespace Go.Proofs.YtgnpcenpcmdlfaaGreatDoor
set_option linter.unusedVariables false
set_option linter.unusedSimpArgs false

structure Nd where
  kind : Int
  s : ByteArray
  hi : Bool
  t : ByteArray
  lo : Int
  up : Int
  n : Int
def arity (k : Int) : Nat := if k = 14 ∨ k = 15 then 2 else if k = 16 then 3 else 0
theorem arity_le (k : Int) : arity k ≤ 3 := by unfold arity; split <;> (try split) <;> omega

/-- So many trees, one behind another. -/
inductive IsT : Nat → List Nd → Prop
  | nil : IsT 0 []
  | snoc {k : Nat} {xs : List Nd} (n : Nd) (h : IsT (k + arity n.kind) xs) : IsT (k + 1) (xs ++ [n])
theorem IsT.inv_nil {k : Nat} {xs : List Nd} (h : IsT k xs) (e : xs = []) : k = 0 := by
  cases h with
  | nil => rfl
  | snoc n h => simp at e
theorem IsT.inv_snoc {k : Nat} {xs ys : List Nd} {n : Nd} (h : IsT k ys) (e : ys = xs ++ [n]) : ∃ j, k = j + 1 ∧ IsT (j + arity n.kind) xs := by
  cases h with
  | nil => simp at e
  | snoc m h =>
    have := List.append_inj' e rfl
    obtain ⟨rfl, h2⟩ := this
    simp at h2
    subst h2
    exact ⟨_, rfl, h⟩
theorem IsT.zero {xs : List Nd} (h : IsT 0 xs) : xs = [] := by
  cases h with
  | nil => rfl
theorem IsT.len {k : Nat} {xs : List Nd} (h : IsT k xs) : k ≤ xs.length := by
  induction h with
  | nil => exact Nat.le_refl _
  | snoc n h ih => simp; omega
theorem IsT.split : ∀ {m : Nat} {xs : List Nd}, IsT m xs → ∀ {k j : Nat}, m = k + j → ∃ a b, xs = a ++ b ∧ IsT k a ∧ IsT j b := by
  intro m xs h
  induction h with
  | nil => intro k j e; obtain ⟨rfl, rfl⟩ : k = 0 ∧ j = 0 := by omega
           exact ⟨[], [], rfl, .nil, .nil⟩
  | @snoc q ys n h ih =>
    intro k j e
    cases j with
    | zero => exact ⟨ys ++ [n], [], by simp, by rw [show k = q + 1 by omega]; exact .snoc n h, .nil⟩
    | succ j =>
      obtain ⟨a, b, rfl, ha, hb⟩ := ih (k := k) (j := j + arity n.kind) (by omega)
      exact ⟨a, b ++ [n], by simp, ha, .snoc n hb⟩
/-- What has been asked for, from the right. -/
inductive Sc : Nat → List Nd → Prop
  | nil : Sc 1 []
  | cons {m : Nat} {ys : List Nd} (n : Nd) (h : Sc (m + 1) ys) : Sc (m + arity n.kind) (n :: ys)
theorem Sc.inv {m : Nat} {n : Nd} {ys : List Nd} (h : Sc m (n :: ys)) : ∃ q, m = q + arity n.kind ∧ Sc (q + 1) ys := by
  cases h with
  | cons _ h => exact ⟨_, rfl, h⟩
theorem Sc.one : ∀ {ys : List Nd} {m k : Nat}, Sc m ys → Sc k ys → m = k
  | [], _, _, .nil, .nil => rfl
  | n :: ys, m, k, h, g => by
    obtain ⟨a, rfl, ha⟩ := h.inv
    obtain ⟨b, rfl, hb⟩ := g.inv
    have := Sc.one ha hb
    omega
theorem Sc.tree : ∀ {ys : List Nd} {m : Nat}, Sc m ys → ∀ {pre : List Nd}, IsT m pre ↔ IsT 1 (pre ++ ys)
  | [], _, .nil, pre => by simp
  | n :: ys, m, h, pre => by
    obtain ⟨q, rfl, hq⟩ := h.inv
    have ih := Sc.tree hq (pre := pre ++ [n])
    rw [List.append_assoc] at ih
    rw [show pre ++ n :: ys = pre ++ ([n] ++ ys) from rfl, ← ih]
    constructor
    · intro h; exact .snoc n h
    · intro h
      obtain ⟨j, hj, h2⟩ := h.inv_snoc rfl
      rw [show q = j by omega]; exact h2
theorem IsT.sc {j : Nat} {b : List Nd} (h : IsT j b) : ∀ {m : Nat} {ys : List Nd}, Sc (m + j) ys → Sc m (b ++ ys) := by
  induction h with
  | nil => intro m ys h; exact h
  | @snoc k xs n h ih =>
    intro m ys hs
    rw [List.append_assoc]
    apply ih
    show Sc (m + (k + arity n.kind)) (n :: ys)
    rw [← Nat.add_assoc]
    exact .cons n hs
theorem IsT.sc0 {b : List Nd} (h : IsT 1 b) : Sc 0 b := by
  have := h.sc (m := 0) (ys := []) .nil
  simpa using this
/-- A tree at the end: one alone. -/
theorem tree_one {xs : List Nd} {i j : Nat} (hi : IsT 1 (xs.drop i)) (hj : IsT 1 (xs.drop j)) (hij : i ≤ j) (hjl : j ≤ xs.length) : i = j := by
  have h0 := hj.sc0
  have e : xs.drop i = (xs.drop i).take (j - i) ++ xs.drop j := by
    conv => lhs; rw [← List.take_append_drop (j - i) (xs.drop i)]
    rw [List.drop_drop, show i + (j - i) = j by omega]
  rw [e] at hi
  have h1 := (h0.tree.2 hi).zero
  have h2 := congrArg List.length h1
  simp at h2
  omega
/-- Where the asking comes to no end no tree stands. -/
theorem sc_none {xs : List Nd} : ∀ {i m : Nat}, Sc (m + 1) (xs.drop i) → ∀ j, i ≤ j → j ≤ xs.length → ¬ IsT 1 (xs.drop j) := by
  intro i m h j hij hjl ht
  obtain ⟨d, rfl⟩ : ∃ d, j = i + d := ⟨j - i, by omega⟩
  clear hij
  induction d generalizing i m with
  | zero => have := h.one ht.sc0; omega
  | succ d ih =>
    rw [List.drop_eq_getElem_cons (by omega)] at h
    obtain ⟨q, _, hq⟩ := h.inv
    exact ih (i := i + 1) (m := q) hq (by omega) (by rw [show i + 1 + d = i + (d + 1) by omega]; exact ht)

structure Shape where
  valid : Bool
  kind : Int
  nest : Nat
def strong (k : Int) : Nat := if k = 15 then 1 else if k = 14 then 2 else 3
/-- Whether an operand counts as one level. -/
def level (op : Int) (i : Nat) (kid : Int) : Bool := decide (op = 16) || (if i = 0 then decide (strong kid < strong op) else decide (strong kid ≤ strong op))
def nestFrom (op : Int) : Nat → Nat → List Shape → Nat
  | _, a, [] => a
  | i, a, o :: os => nestFrom op (i + 1) (max a (o.nest + if level op i o.kind then 1 else 0)) os
variable (G : Nd → Bool)
def shapeM (n : Nd) (os : List Shape) : Shape := ⟨G n && os.all (·.valid), n.kind, nestFrom n.kind 0 0 os⟩
def stepM (st : List Shape) (n : Nd) : Option (List Shape) :=
  if st.length < arity n.kind then none else some (st.take (st.length - arity n.kind) ++ [shapeM G n (st.drop (st.length - arity n.kind))])
def foldM (st : List Shape) : List Nd → Option (List Shape)
  | [] => some st
  | n :: ns => match stepM G st n with
    | none => none
    | some st' => foldM st' ns
theorem foldM_append (st : List Shape) (xs ys : List Nd) : foldM G st (xs ++ ys) = (foldM G st xs).bind (fun s => foldM G s ys) := by
  induction xs generalizing st with
  | nil => rfl
  | cons x xs ih =>
    simp only [List.cons_append, foldM]
    cases stepM G st x with
    | none => rfl
    | some s => exact ih s
/-- The shapes of trees, one behind another. -/
inductive ShT : List Shape → List Nd → Prop
  | nil : ShT [] []
  | snoc {ss os : List Shape} {xs : List Nd} (n : Nd) (ho : os.length = arity n.kind) (h : ShT (ss ++ os) xs) : ShT (ss ++ [shapeM G n os]) (xs ++ [n])
theorem IsT.shapes {k : Nat} {xs : List Nd} (h : IsT k xs) : ∃ ss, ss.length = k ∧ ShT G ss xs := by
  induction h with
  | nil => exact ⟨[], rfl, .nil⟩
  | @snoc k xs n h ih =>
    obtain ⟨ss, hl, hs⟩ := ih
    refine ⟨ss.take k ++ [shapeM G n (ss.drop k)], by simp; omega, .snoc n (by simp; omega) ?_⟩
    rw [List.take_append_drop]; exact hs
theorem ShT.tree {ss : List Shape} {xs : List Nd} (h : ShT G ss xs) : IsT ss.length xs := by
  induction h with
  | nil => exact .nil
  | @snoc ss os xs n ho h ih =>
    rw [List.length_append]
    refine IsT.snoc n ?_
    rw [← ho, ← List.length_append]; exact ih
theorem ShT.fold {ss : List Shape} {xs : List Nd} (h : ShT G ss xs) : ∀ st, foldM G st xs = some (st ++ ss) := by
  induction h with
  | nil => intro st; simp [foldM]
  | @snoc ss os xs n ho h ih =>
    intro st
    rw [foldM_append, ih]
    simp only [Option.bind_some, foldM, stepM]
    rw [if_neg (by simp; omega)]
    have hl : (st ++ (ss ++ os)).length - arity n.kind = (st ++ ss).length := by simp; omega
    rw [hl, ← List.append_assoc, List.take_left, List.drop_left, List.append_assoc]
theorem fold_from : ∀ {xs pre : List Nd} {st ss : List Shape}, ShT G st pre → foldM G st xs = some ss → ShT G ss (pre ++ xs)
  | [], pre, st, ss, h, e => by
    simp [foldM] at e; subst e; simpa using h
  | n :: xs, pre, st, ss, h, e => by
    simp only [foldM, stepM] at e
    by_cases hl : st.length < arity n.kind
    · rw [if_pos hl] at e; cases e
    · rw [if_neg hl] at e
      have h1 : ShT G (st.take (st.length - arity n.kind) ++ [shapeM G n (st.drop (st.length - arity n.kind))]) (pre ++ [n]) := by
        refine .snoc n (by simp; omega) ?_
        rw [List.take_append_drop]; exact h
      have h2 := fold_from h1 e
      rw [List.append_assoc] at h2
      exact h2
theorem fold_tree {xs : List Nd} {ss : List Shape} (h : foldM G [] xs = some ss) : ShT G ss xs := by
  simpa using fold_from G (pre := []) .nil h
theorem ShT.valid {ss : List Shape} {xs : List Nd} (h : ShT G ss xs) : ss.all (·.valid) = xs.all G := by
  induction h with
  | nil => rfl
  | @snoc ss os xs n ho h ih =>
    rw [List.all_append, List.all_append, ← ih, List.all_append]
    simp [shapeM]
    cases G n <;> cases ss.all (·.valid) <;> cases os.all (·.valid) <;> rfl
theorem ShT.split {ss : List Shape} {xs : List Nd} (h : ShT G ss xs) : ∀ {a b : List Shape}, ss = a ++ b → ∃ ys zs, xs = ys ++ zs ∧ ShT G a ys ∧ ShT G b zs := by
  induction h with
  | nil => intro a b e; obtain ⟨rfl, rfl⟩ : a = [] ∧ b = [] := by simpa using e.symm
           exact ⟨[], [], rfl, .nil, .nil⟩
  | @snoc ss os xs n ho h ih =>
    intro a b e
    rcases List.eq_nil_or_concat b with rfl | ⟨b', z, rfl⟩
    · simp at e; subst e
      exact ⟨xs ++ [n], [], by simp, .snoc n ho h, .nil⟩
    · rw [List.concat_eq_append, ← List.append_assoc] at e
      have e2 := List.append_inj' e rfl
      obtain ⟨e3, e4⟩ := e2
      simp at e4
      subst e3 e4
      obtain ⟨ys, zs, rfl, h1, h2⟩ := ih (a := a) (b := b' ++ os) (by simp)
      refine ⟨ys, zs ++ [n], by simp, h1, ?_⟩
      rw [List.concat_eq_append]
      exact .snoc n ho h2
/-- What ValidFilter comes to. -/
def validF (xs : List Nd) : Bool := decide (xs.length ≤ 200) && (match foldM G [] xs with
  | some [sh] => sh.valid && decide (sh.nest ≤ 20)
  | _ => false)
theorem ShT.inv {s : Shape} {xs : List Nd} (h : ShT G [s] xs) : ∃ ys n os, xs = ys ++ [n] ∧ os.length = arity n.kind ∧ ShT G os ys ∧ s = shapeM G n os := by
  generalize hs : [s] = ss at h
  cases h with
  | nil => cases hs
  | @snoc ss os xs n ho h =>
    have e := List.append_inj' (s₁ := []) (t₁ := [s]) hs rfl
    obtain ⟨e1, e2⟩ := e
    subst e1
    simp at e2
    exact ⟨xs, n, os, rfl, ho, h, e2⟩
/-- The operands of a node, one by one. -/
inductive Kids : List Shape → List (List Nd) → Prop
  | nil : Kids [] []
  | cons {o : Shape} {os : List Shape} {k : List Nd} {ks : List (List Nd)} (h : ShT G [o] k) (t : Kids os ks) : Kids (o :: os) (k :: ks)
theorem ShT.kids : ∀ {os : List Shape} {ys : List Nd}, ShT G os ys → ∃ ks, ys = ks.flatten ∧ Kids G os ks
  | [], ys, h => by
    have := h.tree.zero
    subst this
    exact ⟨[], rfl, .nil⟩
  | o :: os, ys, h => by
    obtain ⟨a, b, rfl, h1, h2⟩ := ShT.split G h (a := [o]) (b := os) rfl
    obtain ⟨ks, rfl, hk⟩ := ShT.kids h2
    exact ⟨a :: ks, rfl, .cons h1 hk⟩
theorem Kids.length {os : List Shape} {ks : List (List Nd)} (h : Kids G os ks) : os.length = ks.length := by
  induction h with
  | nil => rfl
  | cons _ _ ih => simp [ih]
theorem Kids.tree {os : List Shape} {ks : List (List Nd)} (h : Kids G os ks) : ∀ k ∈ ks, IsT 1 k := by
  induction h with
  | nil => intro k hk; cases hk
  | cons h1 _ ih =>
    intro k hk
    rcases List.mem_cons.1 hk with rfl | hk
    · exact h1.tree
    · exact ih k hk
theorem Kids.nth {os : List Shape} {ks : List (List Nd)} (h : Kids G os ks) : ∀ {j : Nat} {k : List Nd}, ks[j]? = some k → ∃ o, os[j]? = some o ∧ ShT G [o] k := by
  induction h with
  | nil => intro j k hk; simp at hk
  | cons h1 _ ih =>
    intro j k hk
    cases j with
    | zero => simp at hk; subst hk; exact ⟨_, rfl, h1⟩
    | succ j => simp at hk; simpa using ih hk
theorem nestFrom_le (op : Int) (B : Nat) : ∀ {os : List Shape} {i a : Nat}, a ≤ B → (∀ o ∈ os, o.nest + 1 ≤ B) → nestFrom op i a os ≤ B
  | [], i, a, h, _ => h
  | o :: os, i, a, h, g => by
    unfold nestFrom
    apply nestFrom_le op B
    · have := g o (by simp)
      split <;> omega
    · exact fun o' ho => g o' (by simp [ho])
theorem kid_len {os : List Shape} {ks : List (List Nd)} (h : Kids G os ks) {o : Shape} (ho : o ∈ os) : ∃ k ∈ ks, ShT G [o] k := by
  induction h with
  | nil => cases ho
  | cons h1 _ ih =>
    rcases List.mem_cons.1 ho with rfl | ho
    · exact ⟨_, by simp, h1⟩
    · obtain ⟨k, hk, h2⟩ := ih ho
      exact ⟨k, by simp [hk], h2⟩
theorem len_flat {ks : List (List Nd)} {k : List Nd} (h : k ∈ ks) : k.length ≤ ks.flatten.length := by
  induction ks with
  | nil => cases h
  | cons a ks ih =>
    simp only [List.flatten_cons, List.length_append]
    rcases List.mem_cons.1 h with rfl | h
    · omega
    · have := ih h; omega
theorem nest_len : ∀ (n : Nat) {s : Shape} {xs : List Nd}, xs.length ≤ n → ShT G [s] xs → s.nest ≤ xs.length
  | 0, s, xs, hn, h => by
    obtain ⟨ys, e, os, rfl, _⟩ := h.inv
    simp at hn
  | n + 1, s, xs, hn, h => by
    obtain ⟨ys, e, os, rfl, _, h2, rfl⟩ := h.inv
    obtain ⟨ks, rfl, hK⟩ := h2.kids
    simp only [List.length_append, List.length_singleton] at hn ⊢
    refine nestFrom_le e.kind _ (Nat.zero_le _) fun o ho => ?_
    obtain ⟨k, hk, h3⟩ := kid_len G hK ho
    have h4 := len_flat hk
    have h5 := nest_len n (by omega) h3
    omega
end Go.Proofs.YtgnpcenpcmdlfaaGreatDoor

/-
  Nodes of filters in memory: szNode, toNode, eqNode and their lists; filters that come in.
-/
namespace Go.Proofs.YtgnpcenpcmdlfaaGreatDoor
open Go.ChangeShapes Go.WideShapes Go.ChangeAt Go.RowKit Go.Deep
set_option linter.unusedVariables false
set_option linter.unusedSimpArgs false
set_option maxRecDepth 100000

structure Nd.ok (e : Nd) : Prop where
  s : e.s.size ≤ maxLen
  t : e.t.size ≤ maxLen
  kind : (Lit.int .i64 e.kind).wf = true
  lo : (Lit.int .u64 e.lo).wf = true
  up : (Lit.int .u64 e.up).wf = true
  n : (Lit.int .i64 e.n).wf = true
abbrev Nd.seven (e : Nd) : List Value := [.int .i64 e.kind, .string e.s, .bool e.hi, .string e.t, .int .u64 e.lo, .int .u64 e.up, .int .i64 e.n]
abbrev Nd.v (e : Nd) : Value := .agg #[.int .i64 e.kind, .string e.s, .bool e.hi, .string e.t, .int .u64 e.lo, .int .u64 e.up, .int .i64 e.n]
def zeroN : Nd := ⟨0, ⟨#[]⟩, false, ⟨#[]⟩, 0, 0, 0⟩
def cellsN (es : List Nd) : List Value := es.flatMap Nd.seven
theorem cellsN_cons (e : Nd) (es : List Nd) : cellsN (e :: es) = e.seven ++ cellsN es := by simp [cellsN]
theorem length_cellsN (es : List Nd) : (cellsN es).length = es.length * 7 := by
  induction es with
  | nil => rfl
  | cons e es ih => rw [cellsN_cons, List.length_append, ih]; simp; omega
theorem cellsN_get (es : List Nd) : ∀ (k : Nat) (e : Nd), es[k]? = some e → ∀ j, j < 7 → (cellsN es)[k * 7 + j]? = e.seven[j]? := by
  induction es with
  | nil => intro k e h; simp at h
  | cons f es ih =>
    intro k e h j hj
    rw [cellsN_cons]
    cases k with
    | zero =>
      simp at h; subst h
      rw [List.getElem?_append_left (by show 0 * 7 + j < 7; omega)]
      simp
    | succ k =>
      simp at h
      rw [List.getElem?_append_right (by show 7 ≤ (k + 1) * 7 + j; omega)]
      have : (k + 1) * 7 + j - f.seven.length = k * 7 + j := by show (k + 1) * 7 + j - 7 = _; omega
      rw [this]; exact ih k e h j hj
theorem cellsN_set (es : List Nd) : ∀ (k : Nat) (e e' : Nd) (u : Value) (j : Nat), es[k]? = some e → j < 7 → e'.seven = e.seven.set j u → (cellsN es).set (k * 7 + j) u = cellsN (es.set k e') := by
  induction es with
  | nil => intro k e e' u j h; simp at h
  | cons f es ih =>
    intro k e e' u j h hj hc
    rw [cellsN_cons]
    cases k with
    | zero =>
      simp at h; subst h
      rw [List.set_append_left _ _ (by show 0 * 7 + j < 7; omega), List.set_cons_zero, cellsN_cons, hc]
      simp
    | succ k =>
      simp at h
      rw [List.set_append_right _ _ (by show 7 ≤ (k + 1) * 7 + j; omega), List.set_cons_succ, cellsN_cons]
      have : (k + 1) * 7 + j - f.seven.length = k * 7 + j := by show (k + 1) * 7 + j - 7 = _; omega
      rw [this, ih k e e' u j h hj hc]

/-- The nodes 'es' lie at ⟨b, off⟩, seven cells each. -/
def NdsAt (w : World) (b off : Nat) (es : List Nd) : Prop :=
  ∀ i e, es[i]? = some e → w.cell? ⟨b, off + i * 7, none⟩ = some (.int .i64 e.kind) ∧ w.cell? ⟨b, off + i * 7 + 1, none⟩ = some (.string e.s) ∧ w.cell? ⟨b, off + i * 7 + 2, none⟩ = some (.bool e.hi) ∧ w.cell? ⟨b, off + i * 7 + 3, none⟩ = some (.string e.t) ∧ w.cell? ⟨b, off + i * 7 + 4, none⟩ = some (.int .u64 e.lo) ∧ w.cell? ⟨b, off + i * 7 + 5, none⟩ = some (.int .u64 e.up) ∧ w.cell? ⟨b, off + i * 7 + 6, none⟩ = some (.int .i64 e.n)
theorem NdsAt.below {B : Nat} {w w' : World} {b off : Nat} {es : List Nd} (h : NdsAt w b off es) (hb : Below B w w') (hlt : b < B) : NdsAt w' b off es := by
  intro i e he
  have := h i e he
  refine ⟨?_, ?_, ?_, ?_, ?_, ?_, ?_⟩
  all_goals rw [hb.cell (by exact hlt)]
  · exact this.1
  · exact this.2.1
  · exact this.2.2.1
  · exact this.2.2.2.1
  · exact this.2.2.2.2.1
  · exact this.2.2.2.2.2.1
  · exact this.2.2.2.2.2.2
/-- A row of the call's own holds the nodes 'es'. -/
def OwnNd (w : World) (base g cap : Nat) (es : List Nd) : Prop := w.ownsRow base 65 7 (.slice (some ⟨g, 0, none⟩) es.length cap) es.length (cellsN es)
theorem OwnNd.at {w : World} {base g cap : Nat} {es : List Nd} (h : OwnNd w base g cap es) : NdsAt w g 0 es := by
  intro i e he
  have hi : i < es.length := (List.getElem?_eq_some_iff.1 he).1
  have c := fun j (hj : j < 7) => (World.ownsRow.cellAt h (i * 7 + j) (by omega)).trans (cellsN_get es i e he j hj)
  refine ⟨?_, ?_, ?_, ?_, ?_, ?_, ?_⟩
  · simpa using c 0 (by omega)
  · simpa using c 1 (by omega)
  · simpa using c 2 (by omega)
  · simpa using c 3 (by omega)
  · simpa using c 4 (by omega)
  · simpa using c 5 (by omega)
  · simpa using c 6 (by omega)
theorem OwnNd.lt {w : World} {base g cap : Nat} {es : List Nd} (h : OwnNd w base g cap es) : base ≤ g ∧ g < w.heap.size := World.ownsRow.lt h g rfl
theorem OwnNd.below {B : Nat} {w w' : World} {base g cap : Nat} {es : List Nd} (h : OwnNd w base g cap es) (hb : Below B w w') (hg : g < B) : OwnNd w' base g cap es := by
  refine ⟨h.1, ?_⟩
  rcases h.2 with hn | ⟨g', cap', cur, hv, h1, h2, rest⟩
  · exact .inl hn
  · simp only [Value.slice.injEq, Option.some.injEq, Addr.mk.injEq, and_true, true_and] at hv
    obtain ⟨rfl, rfl⟩ := hv
    exact .inr ⟨g, cap, cur, rfl, h1, by rw [hb.block g hg]; exact h2, rest⟩
theorem OwnNd.mono {w : World} {base base' g cap : Nat} {es : List Nd} (h : OwnNd w base g cap es) (hb : base' ≤ base) : OwnNd w base' g cap es := by
  refine ⟨h.1, ?_⟩
  rcases h.2 with hn | ⟨g', cap', cur, hv, h1, rest⟩
  · exact .inl hn
  · exact .inr ⟨g', cap', cur, hv, Nat.le_trans hb h1, rest⟩
theorem OwnNd.caps {w : World} {base g cp : Nat} {R : List Nd} (h : OwnNd w base g cp R) : R.length ≤ cp ∧ cp ≤ maxLen := by
  rcases h.2 with ⟨h0, _⟩ | ⟨g', cap', cur, hv, _, _, hn, hcap, _, _⟩
  · cases h0
  · simp only [Value.slice.injEq, Option.some.injEq, Addr.mk.injEq, and_true, true_and] at hv
    obtain ⟨rfl, rfl⟩ := hv
    exact ⟨hn, hcap⟩
theorem OwnNd.set {w : World} {base g cap : Nat} {es : List Nd} (h : OwnNd w base g cap es) (k j : Nat) (e e' : Nd) (u : Value) (hk : es[k]? = some e) (hj : j < 7) (hc : e'.seven = e.seven.set j u) :
    OwnNd (w.setCell ⟨g, k * 7 + j, none⟩ u) base g cap (es.set k e') := by
  have := (World.ownsRow.stored h (k * 7 + j) u).1
  rw [cellsN_set es k e e' u j hk hj hc] at this
  unfold OwnNd
  rw [List.length_set]
  exact this
theorem Tryz.infoNd : (Tryz.prog.info? 65).map (fun i => (i.zero, i.size, i.bytes)) = some (some (.agg #[.int .i64 0, .string ⟨#[]⟩, .bool false, .string ⟨#[]⟩, .int .u64 0, .int .u64 0, .int .i64 0]), 7, 72) := by kernel_rfl
theorem OwnNd.put {w : World} {base g cap : Nat} {es : List Nd} (h : OwnNd w base g cap es) (k : Nat) (f e : Nd) (hk : es[k]? = some f) :
    OwnNd (((((((w.setCell ⟨g, k * 7, none⟩ (.int .i64 e.kind)).setCell ⟨g, k * 7 + 1, none⟩ (.string e.s)).setCell ⟨g, k * 7 + 2, none⟩ (.bool e.hi)).setCell ⟨g, k * 7 + 3, none⟩ (.string e.t)).setCell ⟨g, k * 7 + 4, none⟩ (.int .u64 e.lo)).setCell ⟨g, k * 7 + 5, none⟩ (.int .u64 e.up)).setCell ⟨g, k * 7 + 6, none⟩ (.int .i64 e.n)) base g cap (es.set k e) := by
  have hlt : k < es.length := (List.getElem?_eq_some_iff.1 hk).1
  have g1 := h.set k 0 f ({ f with kind := e.kind }) (.int .i64 e.kind) hk (by omega) rfl
  have g2 := g1.set k 1 ({ f with kind := e.kind }) ({ f with kind := e.kind, s := e.s }) (.string e.s) (by simp [hlt]) (by omega) rfl
  have g3 := g2.set k 2 ({ f with kind := e.kind, s := e.s }) ({ f with kind := e.kind, s := e.s, hi := e.hi }) (.bool e.hi) (by simp [hlt]) (by omega) rfl
  have g4 := g3.set k 3 ({ f with kind := e.kind, s := e.s, hi := e.hi }) ({ f with kind := e.kind, s := e.s, hi := e.hi, t := e.t }) (.string e.t) (by simp [hlt]) (by omega) rfl
  have g5 := g4.set k 4 ({ f with kind := e.kind, s := e.s, hi := e.hi, t := e.t }) ({ f with kind := e.kind, s := e.s, hi := e.hi, t := e.t, lo := e.lo }) (.int .u64 e.lo) (by simp [hlt]) (by omega) rfl
  have g6 := g5.set k 5 ({ f with kind := e.kind, s := e.s, hi := e.hi, t := e.t, lo := e.lo }) ({ f with kind := e.kind, s := e.s, hi := e.hi, t := e.t, lo := e.lo, up := e.up }) (.int .u64 e.up) (by simp [hlt]) (by omega) rfl
  have g7 := g6.set k 6 ({ f with kind := e.kind, s := e.s, hi := e.hi, t := e.t, lo := e.lo, up := e.up }) e (.int .i64 e.n) (by simp [hlt]) (by omega) rfl
  simpa only [List.set_set, Nat.add_zero] using g7
theorem below_put7 {B : Nat} {a w : World} (h : Below B a w) {g : Nat} (hg : B ≤ g) (o0 o1 o2 o3 o4 o5 o6 : Nat) (v0 v1 v2 v3 v4 v5 v6 : Value) :
    Below B a (((((((w.setCell ⟨g, o0, none⟩ v0).setCell ⟨g, o1, none⟩ v1).setCell ⟨g, o2, none⟩ v2).setCell ⟨g, o3, none⟩ v3).setCell ⟨g, o4, none⟩ v4).setCell ⟨g, o5, none⟩ v5).setCell ⟨g, o6, none⟩ v6) :=
  ((((((h.setCell hg _).setCell hg _).setCell hg _).setCell hg _).setCell hg _).setCell hg _).setCell hg _
theorem takeN_succ {es fs : List Nd} {k : Nat} {e : Nd} (h : fs.take k = es.take k) (hl : fs.length = es.length) (he : es[k]? = some e) : (fs.set k e).take (k + 1) = es.take (k + 1) := by
  have hlt : k < es.length := (List.getElem?_eq_some_iff.1 he).1
  rw [List.take_set, List.take_add_one, List.take_add_one (l := es), he, List.getElem?_eq_getElem (by omega), h]
  simp only [Option.toList]
  rw [List.set_append_right _ _ (by simp; omega)]
  simp
  rw [show k - min k es.length = 0 by omega]
  rfl

set_option maxHeartbeats 400000 in
theorem eqNode_same (e : Nd) (w : World) : Calls Tryz.prog 97 #[e.v, e.v] w fun r w' => r = .returned (.bool true) ∧ Below w.heap.size w w' := by
  go_enter Tryz.func97, Tryz.ntmps97
  go_wp2
  go_ret
  exact ⟨rfl, ((Below.refl _ _).alloc (Nat.le_refl _) _).alloc (by simp) _⟩
end Go.Proofs.YtgnpcenpcmdlfaaGreatDoor

/-
  A region that draws its order and whose last operation stores: what is read ahead of it is taken first.
-/
namespace Go.Proofs.YtgnpcenpcmdlfaaGreatDoor
open Go.ChangeShapes Go.WideShapes Go.ChangeAt Go.RowKit Go.Deep
set_option linter.unusedVariables false

section
variable {P : Program} {ops : Array Oper} {Q : Exit → Act → World → Prop} {md : Region.Mode} {S : World → Prop} {L : Nat}

/-- Whatever order is picked: 'S' holds behind every operation but number 'L'. -/
def AnyT (P : Program) (md : Region.Mode) (ops : Array Oper) (Q : Exit → Act → World → Prop) (S : World → Prop) (L : Nat) : Nat → Array Bool → Act → World → Prop
  | 0, listed, a, w => Region.ready md ops listed = [] ∧ Q .normal a w
  | fuel + 1, listed, a, w =>
    (Region.ready md ops listed = [] → Q .normal a w) ∧
    ∀ i ∈ Region.ready md ops listed, wpOp P ops Q i (fun a' w' => (i = L ∨ S w') ∧ AnyT P md ops Q S L fuel (listed.setIfInBounds i true) a' w') a w
theorem any_of_T : ∀ (fuel : Nat) (listed : Array Bool) (a : Act) (w : World), AnyT P md ops Q S L fuel listed a w → wpAny P md ops Q fuel listed a w
  | 0, _, _, _, h => h
  | fuel + 1, _, _, _, h => ⟨h.1, fun i hi => wpOp_mono (fun a' w' h' => any_of_T fuel _ a' w' h'.2) (h.2 i hi)⟩
/-- Operation 'L' waits for number 'i'. -/
def waitsT (md : Region.Mode) (ops : Array Oper) (L i : Nat) : Bool := ((ops[L]?).map (fun o => o.after.any fun e => Region.binds md e && e.on == i)).getD false
theorem anyT_first {i : Nat} {oi : Oper} {v : Value} (hi : ops[i]? = some oi) (hsel : ∀ (j : Nat) (o : Oper) cs b, ops[j]? = some o → o.op ≠ .select cs b)
    (hQ : ∀ c a w, Q (.panic c) (a.put oi.dst v) w → Q (.panic c) a w) (hL : waitsT md ops L i = true) (hne : i ≠ L) :
    ∀ (fuel : Nat) (listed : Array Bool) (a : Act) (w : World),
      (∀ j oj, ops[j]? = some oj → j ≠ i → listed.getD j true = false → (∀ e ∈ oj.after, Region.binds md e = true → e.on ≠ i) → oi.apart ops oj = true) →
      i ∈ Region.ready md ops listed → YieldsIf P ops S oi v a → S w →
      AnyT P md ops Q S L fuel (listed.setIfInBounds i true) (a.put oi.dst v) w → AnyT P md ops Q S L (fuel + 1) listed a w := by
  intro fuel
  induction fuel with
  | zero =>
    intro listed a w _ hr hy hS H
    refine ⟨fun h => (by rw [h] at hr; cases hr), fun j hj => ?_⟩
    by_cases hji : j = i
    · subst hji; exact hy.wpOp hi hS ⟨.inr hS, H⟩
    · have := ready_mono hj hji
      rw [H.1] at this
      cases this
  | succ fuel ih =>
    intro listed a w hfree hr hy hS H
    refine ⟨fun h => (by rw [h] at hr; cases hr), fun j hj => ?_⟩
    by_cases hji : j = i
    · subst hji; exact hy.wpOp hi hS ⟨.inr hS, H⟩
    · have h1 := H.2 j (ready_mono hj hji)
      obtain ⟨hjun, oj, hoj, hall⟩ := mem_ready.1 hj
      have hnot : ∀ e ∈ oj.after, Region.binds md e = true → e.on ≠ i := fun e he hb heq => by
        have h1 := hall e he hb
        have h0 := (mem_ready.1 hr).1
        rw [heq] at h1
        rcases Nat.lt_or_ge i listed.size with h' | h'
        · simp [h'] at h0 h1; rw [h0] at h1; cases h1
        · simp [Array.getElem?_eq_none h'] at h1
      have hjL : j ≠ L := fun q => by
        subst q
        unfold waitsT at hL
        rw [hoj] at hL
        simp only [Option.map_some, Option.getD_some, Array.any_eq_true] at hL
        obtain ⟨k, hk, hb⟩ := hL
        rw [Bool.and_eq_true, beq_iff_eq] at hb
        exact hnot _ (Array.getElem_mem hk) hb.1 hb.2
      have h2 := wpOp_putIf hoj (hfree j oj hoj hji hjun hnot) (fun cs b => hsel i oi cs b hi) (fun cs b => hsel j oj cs b hoj) hQ hy h1
      have hfree' : ∀ k ok, ops[k]? = some ok → k ≠ i → (listed.setIfInBounds j true).getD k true = false →
          (∀ e ∈ ok.after, Region.binds md e = true → e.on ≠ i) → oi.apart ops ok = true := fun k ok hk hki hun hno => by
        refine hfree k ok hk hki ?_ hno
        by_cases hjk : j = k
        · subst hjk; exact hjun
        · rw [getD_set_ne true hjk] at hun; exact hun
      refine wpOp_mono (fun a' w' h3 => ⟨h3.2.1, ih (listed.setIfInBounds j true) a' w' hfree' (ready_mono hr (Ne.symm hji)) h3.1 (h3.2.1.resolve_left hjL) ?_⟩) h2
      rw [Array.setIfInBounds_comm _ _ hji]
      exact h3.2.2
theorem anyT_take {i : Nat} {oi : Oper} {v : Value} {fuel : Nat} {listed : Array Bool} {a : Act} {w : World} (hi : ops[i]? = some oi)
    (hs : Region.noSelect ops = true) (hf : Region.free md ops listed i = true) (hr : (Region.ready md ops listed).contains i = true) (hL : waitsT md ops L i = true) (hne : i ≠ L)
    (hQ : ∀ c a w, Q (.panic c) (a.put oi.dst v) w → Q (.panic c) a w) (hy : YieldsIf P ops S oi v a) (hS : S w)
    (h : AnyT P md ops Q S L fuel (listed.setIfInBounds i true) (a.put oi.dst v) w) : AnyT P md ops Q S L (fuel + 1) listed a w :=
  anyT_first hi (Region.noSelect_spec hs) hQ hL hne fuel listed a w (Region.free_spec hi hf) (by simpa using hr) hy hS h
/-- One operation alone may come up. -/
theorem anyT_one {i : Nat} {o : Oper} {fuel : Nat} {listed : Array Bool} {a : Act} {w : World} (hr : Region.ready md ops listed = [i]) (ho : ops[i]? = some o)
    (h : ∀ K' : Act → World → Prop, Shut (∀ a w, (i = L ∨ S w) → AnyT P md ops Q S L fuel (listed.setIfInBounds i true) a w → K' a w) → if Region.wanted o (yielded ops a.tmps) = true then Oper.wp P o a w K' Q else K' (a.put o.dst undef) w) :
    AnyT P md ops Q S L (fuel + 1) listed a w := by
  refine ⟨fun h0 => (by rw [hr] at h0; cases h0), fun j hj => ?_⟩
  rw [hr] at hj
  simp at hj
  subst hj
  exact wpOp_step ho (fun K' hK => h K' (fun a w hS hW => hK a w ⟨hS, hW⟩))
/-- Either of two may come up. -/
theorem anyT_two {i j : Nat} {o q : Oper} {fuel : Nat} {listed : Array Bool} {a : Act} {w : World} (hr : Region.ready md ops listed = [i, j]) (ho : ops[i]? = some o) (hq : ops[j]? = some q)
    (h : ∀ K' : Act → World → Prop, Shut (∀ a w, (i = L ∨ S w) → AnyT P md ops Q S L fuel (listed.setIfInBounds i true) a w → K' a w) → if Region.wanted o (yielded ops a.tmps) = true then Oper.wp P o a w K' Q else K' (a.put o.dst undef) w)
    (h' : ∀ K' : Act → World → Prop, Shut (∀ a w, (j = L ∨ S w) → AnyT P md ops Q S L fuel (listed.setIfInBounds j true) a w → K' a w) → if Region.wanted q (yielded ops a.tmps) = true then Oper.wp P q a w K' Q else K' (a.put q.dst undef) w) :
    AnyT P md ops Q S L (fuel + 1) listed a w := by
  refine ⟨fun h0 => (by rw [hr] at h0; cases h0), fun k hk => ?_⟩
  rw [hr] at hk
  simp at hk
  rcases hk with rfl | rfl
  · exact wpOp_step ho (fun K' hK => h K' (fun a w hS hW => hK a w ⟨hS, hW⟩))
  · exact wpOp_step hq (fun K' hK => h' K' (fun a w hS hW => hK a w ⟨hS, hW⟩))
theorem anyT_done {fuel : Nat} {listed : Array Bool} {a : Act} {w : World} (hr : Region.ready md ops listed = []) (h : Q .normal a w) : AnyT P md ops Q S L fuel listed a w := by
  cases fuel with
  | zero => exact ⟨hr, h⟩
  | succ n => exact ⟨fun _ => h, by rw [hr]; simp⟩
theorem wp_region_T {id : Nat} {a : Act} {w : World} (L : Nat) (S : World → Prop) (hm : P.follows .mixedOrders = true)
    (h : AnyT P .any ops Q S L ops.size (Array.replicate ops.size false) a w.drew) : (Code.region id ops true).wp P Q a w :=
  wp_region_any hm (any_of_T _ _ _ _ h)
end
end Go.Proofs.YtgnpcenpcmdlfaaGreatDoor

/-
  A region that draws its order and whose calls make memory: what is read is taken first, 'S' holds throughout.
-/
namespace Go.Proofs.YtgnpcenpcmdlfaaGreatDoor
open Go.ChangeShapes Go.WideShapes Go.ChangeAt Go.RowKit Go.Deep
set_option linter.unusedVariables false

section
variable {P : Program} {ops : Array Oper} {Q : Exit → Act → World → Prop} {md : Region.Mode} {S : World → Prop} {L : Nat}
theorem anyT_firstN {i : Nat} {oi : Oper} {v : Value} (hi : ops[i]? = some oi) (hsel : ∀ (j : Nat) (o : Oper) cs b, ops[j]? = some o → o.op ≠ .select cs b)
    (hQ : ∀ c a w, Q (.panic c) (a.put oi.dst v) w → Q (.panic c) a w) (hL : ops[L]? = none) :
    ∀ (fuel : Nat) (listed : Array Bool) (a : Act) (w : World),
      (∀ j oj, ops[j]? = some oj → j ≠ i → listed.getD j true = false → (∀ e ∈ oj.after, Region.binds md e = true → e.on ≠ i) → oi.apart ops oj = true) →
      i ∈ Region.ready md ops listed → YieldsIf P ops S oi v a → S w →
      AnyT P md ops Q S L fuel (listed.setIfInBounds i true) (a.put oi.dst v) w → AnyT P md ops Q S L (fuel + 1) listed a w := by
  intro fuel
  induction fuel with
  | zero =>
    intro listed a w _ hr hy hS H
    refine ⟨fun h => (by rw [h] at hr; cases hr), fun j hj => ?_⟩
    by_cases hji : j = i
    · subst hji; exact hy.wpOp hi hS ⟨.inr hS, H⟩
    · have := ready_mono hj hji
      rw [H.1] at this
      cases this
  | succ fuel ih =>
    intro listed a w hfree hr hy hS H
    refine ⟨fun h => (by rw [h] at hr; cases hr), fun j hj => ?_⟩
    by_cases hji : j = i
    · subst hji; exact hy.wpOp hi hS ⟨.inr hS, H⟩
    · have h1 := H.2 j (ready_mono hj hji)
      obtain ⟨hjun, oj, hoj, hall⟩ := mem_ready.1 hj
      have hnot : ∀ e ∈ oj.after, Region.binds md e = true → e.on ≠ i := fun e he hb heq => by
        have h1 := hall e he hb
        have h0 := (mem_ready.1 hr).1
        rw [heq] at h1
        rcases Nat.lt_or_ge i listed.size with h' | h'
        · simp [h'] at h0 h1; rw [h0] at h1; cases h1
        · simp [Array.getElem?_eq_none h'] at h1
      have hjL : j ≠ L := fun q => by rw [q, hL] at hoj; cases hoj
      have h2 := wpOp_putIf hoj (hfree j oj hoj hji hjun hnot) (fun cs b => hsel i oi cs b hi) (fun cs b => hsel j oj cs b hoj) hQ hy h1
      have hfree' : ∀ k ok, ops[k]? = some ok → k ≠ i → (listed.setIfInBounds j true).getD k true = false →
          (∀ e ∈ ok.after, Region.binds md e = true → e.on ≠ i) → oi.apart ops ok = true := fun k ok hk hki hun hno => by
        refine hfree k ok hk hki ?_ hno
        by_cases hjk : j = k
        · subst hjk; exact hjun
        · rw [getD_set_ne true hjk] at hun; exact hun
      refine wpOp_mono (fun a' w' h3 => ⟨h3.2.1, ih (listed.setIfInBounds j true) a' w' hfree' (ready_mono hr (Ne.symm hji)) h3.1 (h3.2.1.resolve_left hjL) ?_⟩) h2
      rw [Array.setIfInBounds_comm _ _ hji]
      exact h3.2.2
theorem anyT_takeN {i : Nat} {oi : Oper} {v : Value} {fuel : Nat} {listed : Array Bool} {a : Act} {w : World} (hi : ops[i]? = some oi)
    (hs : Region.noSelect ops = true) (hf : Region.free md ops listed i = true) (hr : (Region.ready md ops listed).contains i = true) (hL : ops[L]? = none)
    (hQ : ∀ c a w, Q (.panic c) (a.put oi.dst v) w → Q (.panic c) a w) (hy : YieldsIf P ops S oi v a) (hS : S w)
    (h : AnyT P md ops Q S L fuel (listed.setIfInBounds i true) (a.put oi.dst v) w) : AnyT P md ops Q S L (fuel + 1) listed a w :=
  anyT_firstN hi (Region.noSelect_spec hs) hQ hL fuel listed a w (Region.free_spec hi hf) (by simpa using hr) hy hS h
end
end Go.Proofs.YtgnpcenpcmdlfaaGreatDoor

