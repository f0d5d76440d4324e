import Derived.Test.YtnncedndlhfdkabPkAB
import Derived.Test.YtnncedndlhfdkabPkAA
/-
  spec.l4Ch, l4Op, l4Class, CheckRegex.
-/
namespace Go.Proofs.Ytnncedndlhfdkab
open Go.ChangeShapes Go.WideShapes Go.ChangeAt Go.RowKit Go.Deep
set_option linter.unusedVariables false
set_option linter.unusedSimpArgs false
set_option maxRecDepth 100000

theorem ne_u8 {x c : UInt8} (h : ¬ x = c) : ¬ (x.toNat : Int) = (c.toNat : Int) := fun q => h (UInt8.toNat_inj.1 (by omega))
set_option maxHeartbeats 2000000 in
theorem l4Ch_core (p : ByteArray) (i : Nat) (w : World) (hp : p.size ≤ 200) (hi : i ≤ 300) (c : UInt8) (k : Nat) (b : Bool) (h : chM (sb p) i = (c, k, b)) :
    Calls Try.prog 115 #[.string p, .int .i64 (i : Int)] w fun e w' => e = .returned (.tuple #[.int .u8 (c.toNat : Int), .int .i64 (k : Int), .bool b]) ∧ w' = w := by
  have HM : Hid (chM (sb p) i = (c, k, b)) := h
  clear h
  by_cases hlt : i < p.size
  · obtain ⟨x, hx⟩ : ∃ x, (sb p)[i]? = some x := ⟨_, List.getElem?_eq_getElem (by rw [sb_len]; exact hlt)⟩
    obtain ⟨_, gx⟩ := sb_get hx
    have z1 : (i : Int) < (p.size : Int) := by omega
    have hle : ¬ p.size ≤ i := by omega
    have HX : Hid ((sb p)[i]? = some x) := hx
    clear hx
    by_cases hend : x = 93 ∨ x = 45
    · have HF : c = 0 ∧ k = i ∧ b = false := by
        have h1 : chM (sb p) i = (0, i, false) := by unfold chM; rw [HX.out]; simp only []; rw [if_pos hend]
        rw [HM.out] at h1
        simpa using h1
      obtain ⟨rfl, rfl, rfl⟩ := HF
      rcases hend with rfl | rfl
      all_goals go_enter Try.func115, Try.ntmps115
      all_goals go_wp2_with fail
      all_goals refine bodyPost_ret (v := .tuple #[.int .u8 0, .int .i64 (k : Int), .bool false]) (by simp [results, Try.results115, go_sem]) rfl ⟨rfl, rfl⟩
    have h93 : ((x.toNat : Int) == 93) = false := beq_eq_false_iff_ne.2 (ne_u8 (c := 93) (fun q => hend (.inl q)))
    have h45 : ((x.toNat : Int) == 45) = false := beq_eq_false_iff_ne.2 (ne_u8 (c := 45) (fun q => hend (.inr q)))
    by_cases h92 : x = 92
    · subst h92
      by_cases hl2 : i + 1 < p.size
      · obtain ⟨y, hy⟩ : ∃ y, (sb p)[i + 1]? = some y := ⟨_, List.getElem?_eq_getElem (by rw [sb_len]; exact hl2)⟩
        obtain ⟨_, gy⟩ := sb_get hy
        have HF : c = y ∧ k = i + 2 ∧ b = true := by
          have h1 : chM (sb p) i = (y, i + 2, true) := by rw [chM_esc HX.out, hy]
          rw [HM.out] at h1
          simpa using h1
        obtain ⟨rfl, rfl, rfl⟩ := HF
        have z2 : (i : Int) + 1 < (p.size : Int) := by omega
        clear hy
        go_enter Try.func115, Try.ntmps115
        go_wp2_with fail
        refine bodyPost_ret (v := .tuple #[.int .u8 (c.toNat : Int), .int .i64 ((i + 2 : Nat) : Int), .bool true]) (by simp [results, Try.results115, go_sem]) rfl ⟨rfl, rfl⟩
      · have HF : c = 0 ∧ k = i + 1 ∧ b = false := by
          have h1 : chM (sb p) i = (0, i + 1, false) := by rw [chM_esc HX.out, List.getElem?_eq_none (by rw [sb_len]; omega)]
          rw [HM.out] at h1
          simpa using h1
        obtain ⟨rfl, rfl, rfl⟩ := HF
        have z2 : ¬ (i : Int) + 1 < (p.size : Int) := by omega
        go_enter Try.func115, Try.ntmps115
        go_wp2_with fail
        refine bodyPost_ret (v := .tuple #[.int .u8 0, .int .i64 ((i + 1 : Nat) : Int), .bool false]) (by simp [results, Try.results115, go_sem]) rfl ⟨rfl, rfl⟩
    · have z92 : ((x.toNat : Int) == 92) = false := beq_eq_false_iff_ne.2 (ne_u8 (c := 92) h92)
      have HF : c = x ∧ k = i + 1 ∧ b = true := by
        have h1 : chM (sb p) i = (x, i + 1, true) := by unfold chM; rw [HX.out]; simp only []; rw [if_neg hend, if_neg h92]
        rw [HM.out] at h1
        simpa using h1
      obtain ⟨rfl, rfl, rfl⟩ := HF
      go_enter Try.func115, Try.ntmps115
      go_wp2_with fail
      refine bodyPost_ret (v := .tuple #[.int .u8 (c.toNat : Int), .int .i64 ((i + 1 : Nat) : Int), .bool true]) (by simp [results, Try.results115, go_sem]) rfl ⟨rfl, rfl⟩
  · have HF : c = 0 ∧ k = i ∧ b = false := by
      have h1 : chM (sb p) i = (0, i, false) := chM_end (List.getElem?_eq_none (by rw [sb_len]; omega))
      rw [HM.out] at h1
      simpa using h1
    obtain ⟨rfl, rfl, rfl⟩ := HF
    have z1 : ¬ (k : Int) < (p.size : Int) := by omega
    have z2 : (p.size : Int) ≤ (k : Int) := by omega
    go_enter Try.func115, Try.ntmps115
    go_wp2_with fail
    refine bodyPost_ret (v := .tuple #[.int .u8 0, .int .i64 (k : Int), .bool false]) (by simp [results, Try.results115, go_sem]) rfl ⟨rfl, rfl⟩

set_option maxHeartbeats 1000000 in
theorem l4Op_core (c : UInt8) (w : World) : Calls Try.prog 102 #[.int .u8 (c.toNat : Int)] w fun e w' => e = .returned (.bool (decide (isOp c))) ∧ w' = w := by
  by_cases h42 : c = 42
  · subst h42
    go_enter Try.func102, Try.ntmps102
    go_wp2_with fail
    go_ret
    exact ⟨rfl, rfl⟩
  by_cases h43 : c = 43
  · subst h43
    go_enter Try.func102, Try.ntmps102
    go_wp2_with fail
    go_ret
    exact ⟨rfl, rfl⟩
  by_cases h63 : c = 63
  · subst h63
    go_enter Try.func102, Try.ntmps102
    go_wp2_with fail
    go_ret
    exact ⟨rfl, rfl⟩
  have z1 : ((c.toNat : Int) == 42) = false := beq_eq_false_iff_ne.2 (ne_u8 (c := 42) h42)
  have z2 : ((c.toNat : Int) == 43) = false := beq_eq_false_iff_ne.2 (ne_u8 (c := 43) h43)
  have z3 : ((c.toNat : Int) == 63) = false := beq_eq_false_iff_ne.2 (ne_u8 (c := 63) h63)
  have H : Hid (decide (isOp c) = false) := decide_eq_false (fun q => q.elim h42 (fun q => q.elim h43 h63))
  go_enter Try.func102, Try.ntmps102
  go_wp2_with fail
  go_ret
  exact ⟨by rw [H.out]; (first | rfl | simp [z3]), rfl⟩
end Go.Proofs.Ytnncedndlhfdkab

/-
  spec.l4Class.
-/
namespace Go.Proofs.Ytnncedndlhfdkab
open Go.ChangeShapes Go.WideShapes Go.ChangeAt Go.RowKit Go.Deep
set_option linter.unusedVariables false
set_option linter.unusedSimpArgs false
set_option maxRecDepth 100000

theorem cls_go {p : List UInt8} {j : Nat} {b : Bool} {f : UInt8 → Bool} (hj : j ≤ p.length) (h : ¬ (p[j]? = some 93 ∧ b = true)) : clsM p j b f = match itemM p j with | .inr e => .inr e | .inl (a, b, k) => clsM p k true (wider f a b) := by
  cases b
  · exact cls_first hj
  · exact cls_more hj (fun q => h ⟨q, rfl⟩)
/-- What l4Class hands back. -/
def ClassP (p : ByteArray) (i : Nat) (e : Ending) : Prop :=
  (∃ f k, classM (sb p) i = .inl (f, k) ∧ e = .returned (.tuple #[.int .i64 (k : Int), .agg #[.int .i64 0, .int .i64 0]])) ∨ (∃ c k, classM (sb p) i = .inr (c, k) ∧ e = .returned (.tuple #[.int .i64 0, .agg #[.int .i64 c, .int .i64 (k : Int)]]))
theorem class_ret {base rb : Nat} {w : World} {a : Act} {x y z : Value} (hx : a.tmps.getD 4 undef = x) (ht : a.tmps.getD 5 undef = .pointer (some ⟨rb, 0, none⟩)) (he : BoxAt w base 122 2 rb [y, z]) :
    (results Try.f103 a.tmps).run Try.prog w = .ok (.tuple #[x, .agg #[y, z]]) w := by
  have q0 := he.cell (j := 0) rfl
  have q1 := he.cell (j := 1) rfl
  have h1 : a.tmps[4]?.getD undef = x := by rw [← Array.getD_eq_getD_getElem?]; exact hx
  have h2 : a.tmps[5]?.getD undef = .pointer (some ⟨rb, 0, none⟩) := by rw [← Array.getD_eq_getD_getElem?]; exact ht
  simp [results, Try.results103, go_sem, h1, h2, q0, q1]

set_option maxHeartbeats 8000000 in
theorem l4Class_core (p : ByteArray) (i : Nat) (w : World) (hp : p.size ≤ 200) (hi : i < p.size) :
    Calls Try.prog 103 #[.string p, .int .i64 (i : Int)] w fun e w' => ClassP p (i + 1) e ∧ Below w.heap.size w w' := by
  obtain ⟨W0, hW0⟩ : ∃ W0 : World, W0 = w.alloc (Obj.cells #[.int .i64 0, .int .i64 0] 122) := ⟨_, rfl⟩
  have HW0 : Hid (BoxAt W0 w.heap.size 122 2 w.heap.size [.int .i64 0, .int .i64 0] ∧ Below w.heap.size w W0) := by
    rw [hW0]; exact ⟨boxAt_new w _ (Nat.le_refl _) rfl, (Below.refl _ _).alloc (Nat.le_refl _) _⟩
  have HS : Hid (∀ a b : Value, BoxAt ((W0.setCell ⟨w.heap.size, 0, none⟩ a).setCell ⟨w.heap.size, 1, none⟩ b) w.heap.size 122 2 w.heap.size [a, b] ∧ Below w.heap.size w ((W0.setCell ⟨w.heap.size, 0, none⟩ a).setCell ⟨w.heap.size, 1, none⟩ b)) := fun a b => ⟨(HW0.out.1.set 0 a).set 1 b, below_set (below_set HW0.out.2 (Nat.le_refl _) 0 _) (Nat.le_refl _) 1 _⟩
  have r0 := HW0.out.1.cell (j := 0) rfl
  have r1 := HW0.out.1.cell (j := 1) rfl
  have f0 := HW0.out.1.frozen 0
  have f1 := HW0.out.1.frozen 1
  clear HW0
  obtain ⟨ng, j0, hng, hj0, hM0⟩ : ∃ (ng : Bool) (j0 : Nat), j0 = (if ng = true then i + 2 else i + 1) ∧ j0 ≤ p.size ∧ (ClsEq (sb p) (i + 1) ng j0 false (fun _ => false) ∧ (ng = true ↔ (sb p)[i + 1]? = some 94)) := by
    by_cases hx : (sb p)[i + 1]? = some 94
    · refine ⟨true, i + 2, rfl, by have := lt_of_at hx; rw [sb_len] at this; omega, ?_, ⟨fun _ => hx, fun _ => rfl⟩⟩
      unfold ClsEq classM; rw [if_pos hx]; rfl
    · refine ⟨false, i + 1, rfl, by omega, ?_, ⟨fun q => (by cases q), fun q => absurd q hx⟩⟩
      unfold ClsEq classM; rw [if_neg hx]
      generalize clsM (sb p) (i + 1) false (fun _ => false) = r
      cases r <;> rfl
  have HM0 : Hid (ClsEq (sb p) (i + 1) ng j0 false (fun _ => false)) := hM0.1
  have HNG : Hid (ng = true ↔ (sb p)[i + 1]? = some 94) := hM0.2
  have HJ0 : Hid (j0 = if ng = true then i + 2 else i + 1) := hng
  clear hM0 hng
  go_enter Try.func103, Try.ntmps103
  go_upto_region 1 with fail
  rw [← hW0]
  clear hW0
  -- TAIL
  by_cases hi1 : i + 1 < p.size
  · obtain ⟨x0, hx0⟩ : ∃ x, (sb p)[i + 1]? = some x := ⟨_, List.getElem?_eq_getElem (by rw [sb_len]; exact hi1)⟩
    obtain ⟨_, gx0⟩ := sb_get hx0
    have zi1 : (i : Int) + 1 < (p.size : Int) := by omega
    cases ng
    · have z94 : ((x0.toNat : Int) == 94) = false := beq_eq_false_iff_ne.2 (ne_u8 (c := 94) (fun q => by have h1 := HNG.out.2 (by rw [hx0, q]); cases h1))
      clear hx0
      go_wp2_with fail
      go_loopw [6, 7] (fun jv nv wr => ∃ (j n : Nat) (f : UInt8 → Bool), j ≤ p.size ∧ n ≤ j ∧ jv = .int .i64 (j : Int) ∧ nv = .int .i64 (n : Int) ∧ ClsEq (sb p) (i + 1) false j (decide (0 < n)) f ∧ wr = W0) (fun jv _ _ => p.size - (intOf jv).toNat)
      case atStart => exact ⟨j0, 0, fun _ => false, hj0, Nat.zero_le _, congrArg (Value.int .i64) (by rw [HJ0.out]; simp <;> omega), rfl, HM0.out, rfl⟩
      case round =>
        obtain ⟨j, n, f, hj, hnj, rfl, rfl, hE, hwr⟩ := hrel
        have HE : Hid (ClsEq (sb p) (i + 1) false j (decide (0 < n)) f) := hE
        rw [hwr]
        clear hE hwr HM0 HJ0 HNG
        by_cases hlt : j < p.size
        · obtain ⟨x, hx⟩ : ∃ x, (sb p)[j]? = some x := ⟨_, List.getElem?_eq_getElem (by rw [sb_len]; exact hlt)⟩
          obtain ⟨_, gx⟩ := sb_get hx
          have HX : Hid ((sb p)[j]? = some x) := hx
          have zj : (j : Int) < (p.size : Int) := by omega
          clear hx
          by_cases hend : x = 93 ∧ 0 < n
          · obtain ⟨rfl, hn0⟩ := hend
            have zn : (0 : Int) < (n : Int) := by omega
            have HF : Hid (∃ f', classM (sb p) (i + 1) = .inl (f', j + 1)) := by
              refine ⟨if false = true then fun c => !f c else f, ?_⟩
              rw [HE.out.eq, decide_eq_true hn0, cls_shut HX.out]
            obtain ⟨f', hf'⟩ := HF.out
            have HF' : Hid (classM (sb p) (i + 1) = .inl (f', j + 1)) := hf'
            clear hf' HF
            go_wp2_with fail
            exact bodyPost_ret (v := .tuple #[.int .i64 ((j + 1 : Nat) : Int), .agg #[.int .i64 0, .int .i64 0]]) (class_ret rfl rfl (HS.out (.int .i64 0) (.int .i64 0)).1) rfl ⟨.inl ⟨f', j + 1, HF'.out, rfl⟩, (HS.out (.int .i64 0) (.int .i64 0)).2⟩
          · have HG : Hid (clsM (sb p) j (decide (0 < n)) f = match itemM (sb p) j with | .inr e => .inr e | .inl (a, b, k) => clsM (sb p) k true (wider f a b)) := cls_go (by rw [sb_len]; omega) (fun q => hend ⟨by have h1 := q.1; rw [HX.out] at h1; exact Option.some.inj h1, by simpa using q.2⟩)
            obtain ⟨lo, k, b, hch⟩ : ∃ lo k b, chM (sb p) j = (lo, k, b) := ⟨_, _, _, rfl⟩
            have HCh : Hid (chM (sb p) j = (lo, k, b)) := hch
            have hkl : b = true → k ≤ p.size ∧ j < k := fun q => by
              subst q
              have := chM_gt hch
              rw [sb_len] at this
              omega
            clear hch
            have hpick : ((x.toNat : Int) == 93) = false ∨ (¬ (0 : Int) < (n : Int)) := by
              by_cases h93 : x = 93
              · exact .inr (fun q => hend ⟨h93, by omega⟩)
              · exact .inl (beq_eq_false_iff_ne.2 (ne_u8 (c := 93) h93))
            clear hend
            have hpk : (((x.toNat : Int) == 93) = false) ∨ (((x.toNat : Int) == 93) = true ∧ n = 0) := by
              rcases hpick with q | q
              · exact .inl q
              · cases hq : ((x.toNat : Int) == 93)
                · exact .inl rfl
                · exact .inr ⟨rfl, by omega⟩
            clear hpick
            rcases hpk with h93 | ⟨h93, hn0⟩
            case' inr =>
              have zn : ¬ (0 : Int) < (n : Int) := by omega
              clear hn0
            all_goals
              go_wp2_with fail
              refine (l4Ch_core p j W0 hp (by omega) lo k b HCh.out).mono ?_
              rintro e w1 ⟨rfl, hw1⟩
              rw [hw1]
              clear hw1
              cases b
              case false =>
                have HF : Hid (classM (sb p) (i + 1) = .inr (2, k)) := by
                  show classM (sb p) (i + 1) = _
                  rw [HE.out.eq, HG.out]
                  unfold itemM
                  rw [HCh.out]
                go_wp2_with fail
                exact bodyPost_ret (v := .tuple #[.int .i64 0, .agg #[.int .i64 2, .int .i64 (k : Int)]]) (class_ret rfl rfl (HS.out (.int .i64 2) (.int .i64 (k : Int))).1) rfl ⟨.inr ⟨2, k, HF.out, rfl⟩, (HS.out (.int .i64 2) (.int .i64 (k : Int))).2⟩
              obtain ⟨hks, hjk⟩ := hkl rfl
              clear hkl
              by_cases h45 : (sb p)[k]? = some 45
              · obtain ⟨hk2, gk⟩ := sb_get h45
                have HK : Hid ((sb p)[k]? = some 45) := h45
                have zk : (k : Int) < (p.size : Int) := by omega
                obtain ⟨hh, m, b2, hch2⟩ : ∃ hh m b2, chM (sb p) (k + 1) = (hh, m, b2) := ⟨_, _, _, rfl⟩
                have HCh2 : Hid (chM (sb p) (k + 1) = (hh, m, b2)) := hch2
                have hml : b2 = true → m ≤ p.size ∧ k < m := fun q => by
                  subst q
                  have := chM_gt hch2
                  rw [sb_len] at this
                  omega
                clear hch2 h45
                go_wp2_with fail
                refine (l4Ch_core p (k + 1) W0 hp (by omega) hh m b2 HCh2.out).mono ?_
                rintro e w2 ⟨rfl, hw2⟩
                rw [hw2]
                clear hw2
                cases b2
                · have HF : Hid (classM (sb p) (i + 1) = .inr (2, m)) := by
                    show classM (sb p) (i + 1) = _
                    rw [HE.out.eq, HG.out]
                    unfold itemM
                    rw [HCh.out]
                    simp only []
                    rw [if_pos HK.out, HCh2.out]
                  go_wp2_with fail
                  exact bodyPost_ret (v := .tuple #[.int .i64 0, .agg #[.int .i64 2, .int .i64 (m : Int)]]) (class_ret rfl rfl (HS.out (.int .i64 2) (.int .i64 (m : Int))).1) rfl ⟨.inr ⟨2, m, HF.out, rfl⟩, (HS.out (.int .i64 2) (.int .i64 (m : Int))).2⟩
                · obtain ⟨hms, hkm⟩ := hml rfl
                  clear hml
                  by_cases hlo : hh < lo
                  · have zlo : (hh.toNat : Int) < (lo.toNat : Int) := by have := UInt8.lt_iff_toNat_lt.1 hlo; omega
                    have HF : Hid (classM (sb p) (i + 1) = .inr (4, j)) := by
                      show classM (sb p) (i + 1) = _
                      rw [HE.out.eq, HG.out]
                      unfold itemM
                      rw [HCh.out]
                      simp only []
                      rw [if_pos HK.out, HCh2.out]
                      simp only []
                      rw [if_pos hlo]
                    go_wp2_with fail
                    exact bodyPost_ret (v := .tuple #[.int .i64 0, .agg #[.int .i64 4, .int .i64 (j : Int)]]) (class_ret rfl rfl (HS.out (.int .i64 4) (.int .i64 (j : Int))).1) rfl ⟨.inr ⟨4, j, HF.out, rfl⟩, (HS.out (.int .i64 4) (.int .i64 (j : Int))).2⟩
                  · have zlo : (lo.toNat : Int) ≤ (hh.toNat : Int) := by have := UInt8.le_iff_toNat_le.1 (UInt8.not_lt.1 hlo); omega
                    have HF : Hid (ClsEq (sb p) (i + 1) false m true (wider f lo hh)) := by
                      show ClsEq _ _ _ _ _ _
                      unfold ClsEq
                      rw [HE.out.eq, HG.out]
                      unfold itemM
                      rw [HCh.out]
                      simp only []
                      rw [if_pos HK.out, HCh2.out]
                      simp only []
                      rw [if_neg hlo]
                    clear hlo
                    go_wp2_with fail
                    go_roundw
                    case rel => exact ⟨m, n + 1, wider f lo hh, hms, by omega, rfl, by go_num, by rw [decide_eq_true (Nat.succ_pos n)]; exact HF.out, trivial⟩
                    case measure => simp [intOf]; omega
              · have HK : Hid (¬ (sb p)[k]? = some 45) := h45
                have HF : Hid (ClsEq (sb p) (i + 1) false k true (wider f lo lo)) := by
                  show ClsEq _ _ _ _ _ _
                  unfold ClsEq
                  rw [HE.out.eq, HG.out]
                  unfold itemM
                  rw [HCh.out]
                  simp only []
                  rw [if_neg HK.out]
                clear h45
                by_cases hke : k < p.size
                · obtain ⟨y, hy⟩ : ∃ y, (sb p)[k]? = some y := ⟨_, List.getElem?_eq_getElem (by rw [sb_len]; exact hke)⟩
                  obtain ⟨_, gy⟩ := sb_get hy
                  have zk : (k : Int) < (p.size : Int) := by omega
                  have zy : ((y.toNat : Int) == 45) = false := beq_eq_false_iff_ne.2 (ne_u8 (c := 45) (fun q => HK.out (by rw [hy, q])))
                  clear hy
                  go_wp2_with fail
                  go_roundw
                  case rel => exact ⟨k, n + 1, wider f lo lo, hks, by omega, rfl, by go_num, by rw [decide_eq_true (Nat.succ_pos n)]; exact HF.out, trivial⟩
                  case measure => simp [intOf]; omega
                · have zk : ¬ (k : Int) < (p.size : Int) := by omega
                  go_wp2_with fail
                  go_roundw
                  case rel => exact ⟨k, n + 1, wider f lo lo, hks, by omega, rfl, by go_num, by rw [decide_eq_true (Nat.succ_pos n)]; exact HF.out, trivial⟩
                  case measure => simp [intOf]; omega
        · have HF : Hid (classM (sb p) (i + 1) = .inr (2, p.size)) := by
            show classM (sb p) (i + 1) = _
            rw [HE.out.eq, clsM, dif_neg (by rw [sb_len]; exact hlt), sb_len]
          have zj : ¬ (j : Int) < (p.size : Int) := by omega
          go_wp2_with fail
          exact bodyPost_ret (v := .tuple #[.int .i64 0, .agg #[.int .i64 2, .int .i64 (p.size : Int)]]) (class_ret rfl rfl (HS.out (.int .i64 2) (.int .i64 (p.size : Int))).1) rfl ⟨.inr ⟨2, p.size, HF.out, rfl⟩, (HS.out (.int .i64 2) (.int .i64 (p.size : Int))).2⟩
    · have h94 : x0 = 94 := by have h1 := HNG.out.1 rfl; rw [hx0] at h1; exact Option.some.inj h1
      subst h94
      clear hx0
      go_wp2_with fail
      go_loopw [6, 7] (fun jv nv wr => ∃ (j n : Nat) (f : UInt8 → Bool), j ≤ p.size ∧ n ≤ j ∧ jv = .int .i64 (j : Int) ∧ nv = .int .i64 (n : Int) ∧ ClsEq (sb p) (i + 1) true j (decide (0 < n)) f ∧ wr = W0) (fun jv _ _ => p.size - (intOf jv).toNat)
      case atStart => exact ⟨j0, 0, fun _ => false, hj0, Nat.zero_le _, congrArg (Value.int .i64) (by rw [HJ0.out]; simp <;> omega), rfl, HM0.out, rfl⟩
      case round =>
        obtain ⟨j, n, f, hj, hnj, rfl, rfl, hE, hwr⟩ := hrel
        have HE : Hid (ClsEq (sb p) (i + 1) true j (decide (0 < n)) f) := hE
        rw [hwr]
        clear hE hwr HM0 HJ0 HNG
        by_cases hlt : j < p.size
        · obtain ⟨x, hx⟩ : ∃ x, (sb p)[j]? = some x := ⟨_, List.getElem?_eq_getElem (by rw [sb_len]; exact hlt)⟩
          obtain ⟨_, gx⟩ := sb_get hx
          have HX : Hid ((sb p)[j]? = some x) := hx
          have zj : (j : Int) < (p.size : Int) := by omega
          clear hx
          by_cases hend : x = 93 ∧ 0 < n
          · obtain ⟨rfl, hn0⟩ := hend
            have zn : (0 : Int) < (n : Int) := by omega
            have HF : Hid (∃ f', classM (sb p) (i + 1) = .inl (f', j + 1)) := by
              refine ⟨if true = true then fun c => !f c else f, ?_⟩
              rw [HE.out.eq, decide_eq_true hn0, cls_shut HX.out]
            obtain ⟨f', hf'⟩ := HF.out
            have HF' : Hid (classM (sb p) (i + 1) = .inl (f', j + 1)) := hf'
            clear hf' HF
            go_wp2_with fail
            exact bodyPost_ret (v := .tuple #[.int .i64 ((j + 1 : Nat) : Int), .agg #[.int .i64 0, .int .i64 0]]) (class_ret rfl rfl (HS.out (.int .i64 0) (.int .i64 0)).1) rfl ⟨.inl ⟨f', j + 1, HF'.out, rfl⟩, (HS.out (.int .i64 0) (.int .i64 0)).2⟩
          · have HG : Hid (clsM (sb p) j (decide (0 < n)) f = match itemM (sb p) j with | .inr e => .inr e | .inl (a, b, k) => clsM (sb p) k true (wider f a b)) := cls_go (by rw [sb_len]; omega) (fun q => hend ⟨by have h1 := q.1; rw [HX.out] at h1; exact Option.some.inj h1, by simpa using q.2⟩)
            obtain ⟨lo, k, b, hch⟩ : ∃ lo k b, chM (sb p) j = (lo, k, b) := ⟨_, _, _, rfl⟩
            have HCh : Hid (chM (sb p) j = (lo, k, b)) := hch
            have hkl : b = true → k ≤ p.size ∧ j < k := fun q => by
              subst q
              have := chM_gt hch
              rw [sb_len] at this
              omega
            clear hch
            have hpick : ((x.toNat : Int) == 93) = false ∨ (¬ (0 : Int) < (n : Int)) := by
              by_cases h93 : x = 93
              · exact .inr (fun q => hend ⟨h93, by omega⟩)
              · exact .inl (beq_eq_false_iff_ne.2 (ne_u8 (c := 93) h93))
            clear hend
            have hpk : (((x.toNat : Int) == 93) = false) ∨ (((x.toNat : Int) == 93) = true ∧ n = 0) := by
              rcases hpick with q | q
              · exact .inl q
              · cases hq : ((x.toNat : Int) == 93)
                · exact .inl rfl
                · exact .inr ⟨rfl, by omega⟩
            clear hpick
            rcases hpk with h93 | ⟨h93, hn0⟩
            case' inr =>
              have zn : ¬ (0 : Int) < (n : Int) := by omega
              clear hn0
            all_goals
              go_wp2_with fail
              refine (l4Ch_core p j W0 hp (by omega) lo k b HCh.out).mono ?_
              rintro e w1 ⟨rfl, hw1⟩
              rw [hw1]
              clear hw1
              cases b
              case false =>
                have HF : Hid (classM (sb p) (i + 1) = .inr (2, k)) := by
                  show classM (sb p) (i + 1) = _
                  rw [HE.out.eq, HG.out]
                  unfold itemM
                  rw [HCh.out]
                go_wp2_with fail
                exact bodyPost_ret (v := .tuple #[.int .i64 0, .agg #[.int .i64 2, .int .i64 (k : Int)]]) (class_ret rfl rfl (HS.out (.int .i64 2) (.int .i64 (k : Int))).1) rfl ⟨.inr ⟨2, k, HF.out, rfl⟩, (HS.out (.int .i64 2) (.int .i64 (k : Int))).2⟩
              obtain ⟨hks, hjk⟩ := hkl rfl
              clear hkl
              by_cases h45 : (sb p)[k]? = some 45
              · obtain ⟨hk2, gk⟩ := sb_get h45
                have HK : Hid ((sb p)[k]? = some 45) := h45
                have zk : (k : Int) < (p.size : Int) := by omega
                obtain ⟨hh, m, b2, hch2⟩ : ∃ hh m b2, chM (sb p) (k + 1) = (hh, m, b2) := ⟨_, _, _, rfl⟩
                have HCh2 : Hid (chM (sb p) (k + 1) = (hh, m, b2)) := hch2
                have hml : b2 = true → m ≤ p.size ∧ k < m := fun q => by
                  subst q
                  have := chM_gt hch2
                  rw [sb_len] at this
                  omega
                clear hch2 h45
                go_wp2_with fail
                refine (l4Ch_core p (k + 1) W0 hp (by omega) hh m b2 HCh2.out).mono ?_
                rintro e w2 ⟨rfl, hw2⟩
                rw [hw2]
                clear hw2
                cases b2
                · have HF : Hid (classM (sb p) (i + 1) = .inr (2, m)) := by
                    show classM (sb p) (i + 1) = _
                    rw [HE.out.eq, HG.out]
                    unfold itemM
                    rw [HCh.out]
                    simp only []
                    rw [if_pos HK.out, HCh2.out]
                  go_wp2_with fail
                  exact bodyPost_ret (v := .tuple #[.int .i64 0, .agg #[.int .i64 2, .int .i64 (m : Int)]]) (class_ret rfl rfl (HS.out (.int .i64 2) (.int .i64 (m : Int))).1) rfl ⟨.inr ⟨2, m, HF.out, rfl⟩, (HS.out (.int .i64 2) (.int .i64 (m : Int))).2⟩
                · obtain ⟨hms, hkm⟩ := hml rfl
                  clear hml
                  by_cases hlo : hh < lo
                  · have zlo : (hh.toNat : Int) < (lo.toNat : Int) := by have := UInt8.lt_iff_toNat_lt.1 hlo; omega
                    have HF : Hid (classM (sb p) (i + 1) = .inr (4, j)) := by
                      show classM (sb p) (i + 1) = _
                      rw [HE.out.eq, HG.out]
                      unfold itemM
                      rw [HCh.out]
                      simp only []
                      rw [if_pos HK.out, HCh2.out]
                      simp only []
                      rw [if_pos hlo]
                    go_wp2_with fail
                    exact bodyPost_ret (v := .tuple #[.int .i64 0, .agg #[.int .i64 4, .int .i64 (j : Int)]]) (class_ret rfl rfl (HS.out (.int .i64 4) (.int .i64 (j : Int))).1) rfl ⟨.inr ⟨4, j, HF.out, rfl⟩, (HS.out (.int .i64 4) (.int .i64 (j : Int))).2⟩
                  · have zlo : (lo.toNat : Int) ≤ (hh.toNat : Int) := by have := UInt8.le_iff_toNat_le.1 (UInt8.not_lt.1 hlo); omega
                    have HF : Hid (ClsEq (sb p) (i + 1) true m true (wider f lo hh)) := by
                      show ClsEq _ _ _ _ _ _
                      unfold ClsEq
                      rw [HE.out.eq, HG.out]
                      unfold itemM
                      rw [HCh.out]
                      simp only []
                      rw [if_pos HK.out, HCh2.out]
                      simp only []
                      rw [if_neg hlo]
                    clear hlo
                    go_wp2_with fail
                    go_roundw
                    case rel => exact ⟨m, n + 1, wider f lo hh, hms, by omega, rfl, by go_num, by rw [decide_eq_true (Nat.succ_pos n)]; exact HF.out, trivial⟩
                    case measure => simp [intOf]; omega
              · have HK : Hid (¬ (sb p)[k]? = some 45) := h45
                have HF : Hid (ClsEq (sb p) (i + 1) true k true (wider f lo lo)) := by
                  show ClsEq _ _ _ _ _ _
                  unfold ClsEq
                  rw [HE.out.eq, HG.out]
                  unfold itemM
                  rw [HCh.out]
                  simp only []
                  rw [if_neg HK.out]
                clear h45
                by_cases hke : k < p.size
                · obtain ⟨y, hy⟩ : ∃ y, (sb p)[k]? = some y := ⟨_, List.getElem?_eq_getElem (by rw [sb_len]; exact hke)⟩
                  obtain ⟨_, gy⟩ := sb_get hy
                  have zk : (k : Int) < (p.size : Int) := by omega
                  have zy : ((y.toNat : Int) == 45) = false := beq_eq_false_iff_ne.2 (ne_u8 (c := 45) (fun q => HK.out (by rw [hy, q])))
                  clear hy
                  go_wp2_with fail
                  go_roundw
                  case rel => exact ⟨k, n + 1, wider f lo lo, hks, by omega, rfl, by go_num, by rw [decide_eq_true (Nat.succ_pos n)]; exact HF.out, trivial⟩
                  case measure => simp [intOf]; omega
                · have zk : ¬ (k : Int) < (p.size : Int) := by omega
                  go_wp2_with fail
                  go_roundw
                  case rel => exact ⟨k, n + 1, wider f lo lo, hks, by omega, rfl, by go_num, by rw [decide_eq_true (Nat.succ_pos n)]; exact HF.out, trivial⟩
                  case measure => simp [intOf]; omega
        · have HF : Hid (classM (sb p) (i + 1) = .inr (2, p.size)) := by
            show classM (sb p) (i + 1) = _
            rw [HE.out.eq, clsM, dif_neg (by rw [sb_len]; exact hlt), sb_len]
          have zj : ¬ (j : Int) < (p.size : Int) := by omega
          go_wp2_with fail
          exact bodyPost_ret (v := .tuple #[.int .i64 0, .agg #[.int .i64 2, .int .i64 (p.size : Int)]]) (class_ret rfl rfl (HS.out (.int .i64 2) (.int .i64 (p.size : Int))).1) rfl ⟨.inr ⟨2, p.size, HF.out, rfl⟩, (HS.out (.int .i64 2) (.int .i64 (p.size : Int))).2⟩
  · have zi1 : ¬ (i : Int) + 1 < (p.size : Int) := by omega
    cases ng
    case true => exact absurd (HNG.out.1 rfl) (by rw [List.getElem?_eq_none (by rw [sb_len]; omega)]; exact fun q => by cases q)
    go_wp2_with fail
    go_loopw [6, 7] (fun jv nv wr => ∃ (j n : Nat) (f : UInt8 → Bool), j ≤ p.size ∧ n ≤ j ∧ jv = .int .i64 (j : Int) ∧ nv = .int .i64 (n : Int) ∧ ClsEq (sb p) (i + 1) false j (decide (0 < n)) f ∧ wr = W0) (fun jv _ _ => p.size - (intOf jv).toNat)
    case atStart => exact ⟨j0, 0, fun _ => false, hj0, Nat.zero_le _, congrArg (Value.int .i64) (by rw [HJ0.out]; simp <;> omega), rfl, HM0.out, rfl⟩
    case round =>
      obtain ⟨j, n, f, hj, hnj, rfl, rfl, hE, hwr⟩ := hrel
      have HE : Hid (ClsEq (sb p) (i + 1) false j (decide (0 < n)) f) := hE
      rw [hwr]
      clear hE hwr HM0 HJ0 HNG
      by_cases hlt : j < p.size
      · obtain ⟨x, hx⟩ : ∃ x, (sb p)[j]? = some x := ⟨_, List.getElem?_eq_getElem (by rw [sb_len]; exact hlt)⟩
        obtain ⟨_, gx⟩ := sb_get hx
        have HX : Hid ((sb p)[j]? = some x) := hx
        have zj : (j : Int) < (p.size : Int) := by omega
        clear hx
        by_cases hend : x = 93 ∧ 0 < n
        · obtain ⟨rfl, hn0⟩ := hend
          have zn : (0 : Int) < (n : Int) := by omega
          have HF : Hid (∃ f', classM (sb p) (i + 1) = .inl (f', j + 1)) := by
            refine ⟨if false = true then fun c => !f c else f, ?_⟩
            rw [HE.out.eq, decide_eq_true hn0, cls_shut HX.out]
          obtain ⟨f', hf'⟩ := HF.out
          have HF' : Hid (classM (sb p) (i + 1) = .inl (f', j + 1)) := hf'
          clear hf' HF
          go_wp2_with fail
          exact bodyPost_ret (v := .tuple #[.int .i64 ((j + 1 : Nat) : Int), .agg #[.int .i64 0, .int .i64 0]]) (class_ret rfl rfl (HS.out (.int .i64 0) (.int .i64 0)).1) rfl ⟨.inl ⟨f', j + 1, HF'.out, rfl⟩, (HS.out (.int .i64 0) (.int .i64 0)).2⟩
        · have HG : Hid (clsM (sb p) j (decide (0 < n)) f = match itemM (sb p) j with | .inr e => .inr e | .inl (a, b, k) => clsM (sb p) k true (wider f a b)) := cls_go (by rw [sb_len]; omega) (fun q => hend ⟨by have h1 := q.1; rw [HX.out] at h1; exact Option.some.inj h1, by simpa using q.2⟩)
          obtain ⟨lo, k, b, hch⟩ : ∃ lo k b, chM (sb p) j = (lo, k, b) := ⟨_, _, _, rfl⟩
          have HCh : Hid (chM (sb p) j = (lo, k, b)) := hch
          have hkl : b = true → k ≤ p.size ∧ j < k := fun q => by
            subst q
            have := chM_gt hch
            rw [sb_len] at this
            omega
          clear hch
          have hpick : ((x.toNat : Int) == 93) = false ∨ (¬ (0 : Int) < (n : Int)) := by
            by_cases h93 : x = 93
            · exact .inr (fun q => hend ⟨h93, by omega⟩)
            · exact .inl (beq_eq_false_iff_ne.2 (ne_u8 (c := 93) h93))
          clear hend
          have hpk : (((x.toNat : Int) == 93) = false) ∨ (((x.toNat : Int) == 93) = true ∧ n = 0) := by
            rcases hpick with q | q
            · exact .inl q
            · cases hq : ((x.toNat : Int) == 93)
              · exact .inl rfl
              · exact .inr ⟨rfl, by omega⟩
          clear hpick
          rcases hpk with h93 | ⟨h93, hn0⟩
          case' inr =>
            have zn : ¬ (0 : Int) < (n : Int) := by omega
            clear hn0
          all_goals
            go_wp2_with fail
            refine (l4Ch_core p j W0 hp (by omega) lo k b HCh.out).mono ?_
            rintro e w1 ⟨rfl, hw1⟩
            rw [hw1]
            clear hw1
            cases b
            case false =>
              have HF : Hid (classM (sb p) (i + 1) = .inr (2, k)) := by
                show classM (sb p) (i + 1) = _
                rw [HE.out.eq, HG.out]
                unfold itemM
                rw [HCh.out]
              go_wp2_with fail
              exact bodyPost_ret (v := .tuple #[.int .i64 0, .agg #[.int .i64 2, .int .i64 (k : Int)]]) (class_ret rfl rfl (HS.out (.int .i64 2) (.int .i64 (k : Int))).1) rfl ⟨.inr ⟨2, k, HF.out, rfl⟩, (HS.out (.int .i64 2) (.int .i64 (k : Int))).2⟩
            obtain ⟨hks, hjk⟩ := hkl rfl
            clear hkl
            by_cases h45 : (sb p)[k]? = some 45
            · obtain ⟨hk2, gk⟩ := sb_get h45
              have HK : Hid ((sb p)[k]? = some 45) := h45
              have zk : (k : Int) < (p.size : Int) := by omega
              obtain ⟨hh, m, b2, hch2⟩ : ∃ hh m b2, chM (sb p) (k + 1) = (hh, m, b2) := ⟨_, _, _, rfl⟩
              have HCh2 : Hid (chM (sb p) (k + 1) = (hh, m, b2)) := hch2
              have hml : b2 = true → m ≤ p.size ∧ k < m := fun q => by
                subst q
                have := chM_gt hch2
                rw [sb_len] at this
                omega
              clear hch2 h45
              go_wp2_with fail
              refine (l4Ch_core p (k + 1) W0 hp (by omega) hh m b2 HCh2.out).mono ?_
              rintro e w2 ⟨rfl, hw2⟩
              rw [hw2]
              clear hw2
              cases b2
              · have HF : Hid (classM (sb p) (i + 1) = .inr (2, m)) := by
                  show classM (sb p) (i + 1) = _
                  rw [HE.out.eq, HG.out]
                  unfold itemM
                  rw [HCh.out]
                  simp only []
                  rw [if_pos HK.out, HCh2.out]
                go_wp2_with fail
                exact bodyPost_ret (v := .tuple #[.int .i64 0, .agg #[.int .i64 2, .int .i64 (m : Int)]]) (class_ret rfl rfl (HS.out (.int .i64 2) (.int .i64 (m : Int))).1) rfl ⟨.inr ⟨2, m, HF.out, rfl⟩, (HS.out (.int .i64 2) (.int .i64 (m : Int))).2⟩
              · obtain ⟨hms, hkm⟩ := hml rfl
                clear hml
                by_cases hlo : hh < lo
                · have zlo : (hh.toNat : Int) < (lo.toNat : Int) := by have := UInt8.lt_iff_toNat_lt.1 hlo; omega
                  have HF : Hid (classM (sb p) (i + 1) = .inr (4, j)) := by
                    show classM (sb p) (i + 1) = _
                    rw [HE.out.eq, HG.out]
                    unfold itemM
                    rw [HCh.out]
                    simp only []
                    rw [if_pos HK.out, HCh2.out]
                    simp only []
                    rw [if_pos hlo]
                  go_wp2_with fail
                  exact bodyPost_ret (v := .tuple #[.int .i64 0, .agg #[.int .i64 4, .int .i64 (j : Int)]]) (class_ret rfl rfl (HS.out (.int .i64 4) (.int .i64 (j : Int))).1) rfl ⟨.inr ⟨4, j, HF.out, rfl⟩, (HS.out (.int .i64 4) (.int .i64 (j : Int))).2⟩
                · have zlo : (lo.toNat : Int) ≤ (hh.toNat : Int) := by have := UInt8.le_iff_toNat_le.1 (UInt8.not_lt.1 hlo); omega
                  have HF : Hid (ClsEq (sb p) (i + 1) false m true (wider f lo hh)) := by
                    show ClsEq _ _ _ _ _ _
                    unfold ClsEq
                    rw [HE.out.eq, HG.out]
                    unfold itemM
                    rw [HCh.out]
                    simp only []
                    rw [if_pos HK.out, HCh2.out]
                    simp only []
                    rw [if_neg hlo]
                  clear hlo
                  go_wp2_with fail
                  go_roundw
                  case rel => exact ⟨m, n + 1, wider f lo hh, hms, by omega, rfl, by go_num, by rw [decide_eq_true (Nat.succ_pos n)]; exact HF.out, trivial⟩
                  case measure => simp [intOf]; omega
            · have HK : Hid (¬ (sb p)[k]? = some 45) := h45
              have HF : Hid (ClsEq (sb p) (i + 1) false k true (wider f lo lo)) := by
                show ClsEq _ _ _ _ _ _
                unfold ClsEq
                rw [HE.out.eq, HG.out]
                unfold itemM
                rw [HCh.out]
                simp only []
                rw [if_neg HK.out]
              clear h45
              by_cases hke : k < p.size
              · obtain ⟨y, hy⟩ : ∃ y, (sb p)[k]? = some y := ⟨_, List.getElem?_eq_getElem (by rw [sb_len]; exact hke)⟩
                obtain ⟨_, gy⟩ := sb_get hy
                have zk : (k : Int) < (p.size : Int) := by omega
                have zy : ((y.toNat : Int) == 45) = false := beq_eq_false_iff_ne.2 (ne_u8 (c := 45) (fun q => HK.out (by rw [hy, q])))
                clear hy
                go_wp2_with fail
                go_roundw
                case rel => exact ⟨k, n + 1, wider f lo lo, hks, by omega, rfl, by go_num, by rw [decide_eq_true (Nat.succ_pos n)]; exact HF.out, trivial⟩
                case measure => simp [intOf]; omega
              · have zk : ¬ (k : Int) < (p.size : Int) := by omega
                go_wp2_with fail
                go_roundw
                case rel => exact ⟨k, n + 1, wider f lo lo, hks, by omega, rfl, by go_num, by rw [decide_eq_true (Nat.succ_pos n)]; exact HF.out, trivial⟩
                case measure => simp [intOf]; omega
      · have HF : Hid (classM (sb p) (i + 1) = .inr (2, p.size)) := by
          show classM (sb p) (i + 1) = _
          rw [HE.out.eq, clsM, dif_neg (by rw [sb_len]; exact hlt), sb_len]
        have zj : ¬ (j : Int) < (p.size : Int) := by omega
        go_wp2_with fail
        exact bodyPost_ret (v := .tuple #[.int .i64 0, .agg #[.int .i64 2, .int .i64 (p.size : Int)]]) (class_ret rfl rfl (HS.out (.int .i64 2) (.int .i64 (p.size : Int))).1) rfl ⟨.inr ⟨2, p.size, HF.out, rfl⟩, (HS.out (.int .i64 2) (.int .i64 (p.size : Int))).2⟩
end Go.Proofs.Ytnncedndlhfdkab

/-
  spec.CheckRegex.
-/
namespace Go.Proofs.Ytnncedndlhfdkab
open Go.ChangeShapes Go.WideShapes Go.ChangeAt Go.RowKit Go.Deep
set_option linter.unusedVariables false
set_option linter.unusedSimpArgs false
set_option maxRecDepth 100000

/-- What the check of a pattern comes to. -/
def specM (p : List UInt8) : Int × Nat := if 200 < p.length then (1, 0) else chkM p 0 0 false
theorem chk_ret {base rb : Nat} {w : World} {a : Act} {y z : Value} (ht : a.tmps.getD 2 undef = .pointer (some ⟨rb, 0, none⟩)) (he : BoxAt w base 122 2 rb [y, z]) :
    (results Try.f80 a.tmps).run Try.prog w = .ok (.agg #[y, z]) w := by
  have q0 := he.cell (j := 0) rfl
  have q1 := he.cell (j := 1) rfl
  have h2 : a.tmps[2]?.getD undef = .pointer (some ⟨rb, 0, none⟩) := by rw [← Array.getD_eq_getD_getElem?]; exact ht
  simp [results, Try.results80, go_sem, h2, q0, q1]
/-- How the answer is told. -/
def ChkP (p : ByteArray) (w : World) (e : Ending) (w' : World) : Prop := e = .returned (.agg #[.int .i64 (specM (sb p)).1, .int .i64 ((specM (sb p)).2 : Int)]) ∧ Below w.heap.size w w'
theorem chk_fin {p : ByteArray} {w wr : World} {a : Act} {c : Int} {k : Nat} (hM : specM (sb p) = (c, k)) (hd : a.defers = []) (ht : a.tmps.getD 2 undef = .pointer (some ⟨w.heap.size, 0, none⟩)) (hx : BoxAt wr w.heap.size 122 2 w.heap.size [.int .i64 0, .int .i64 0]) (hb : Below w.heap.size w wr) :
    bodyPost Try.prog Try.f80 (ChkP p w) .ret a ((wr.setCell ⟨w.heap.size, 0, none⟩ (.int .i64 c)).setCell ⟨w.heap.size, 1, none⟩ (.int .i64 (k : Int))) :=
  bodyPost_ret (v := .agg #[.int .i64 c, .int .i64 (k : Int)]) (chk_ret ht ((hx.set 0 _).set 1 _)) hd ⟨by rw [hM], below_set (below_set hb (Nat.le_refl _) 0 _) (Nat.le_refl _) 1 _⟩

set_option maxHeartbeats 8000000 in
theorem specCheck_core (p : ByteArray) (w : World) (hpm : p.size ≤ maxLen) : Calls Try.prog 80 #[.string p] w (ChkP p w) := by
  obtain ⟨W0, hW0⟩ : ∃ W0 : World, W0 = w.alloc (Obj.cells #[.int .i64 0, .int .i64 0] 122) := ⟨_, rfl⟩
  have HW0 : Hid (BoxAt W0 w.heap.size 122 2 w.heap.size [.int .i64 0, .int .i64 0] ∧ Below w.heap.size w W0) := by
    rw [hW0]; exact ⟨boxAt_new w _ (Nat.le_refl _) rfl, (Below.refl _ _).alloc (Nat.le_refl _) _⟩
  unfold maxLen at hpm
  by_cases hp : 200 < p.size
  · have HM : Hid (specM (sb p) = (1, 0)) := by
      show specM (sb p) = _
      unfold specM; rw [if_pos (by rw [sb_len]; exact hp)]
    have z2 : (200 : Int) < (p.size : Int) := by omega
    have r0 := HW0.out.1.cell (j := 0) rfl
    have r1 := HW0.out.1.cell (j := 1) rfl
    have f0 := HW0.out.1.frozen 0
    have f1 := HW0.out.1.frozen 1
    go_enter Try.func80, Try.ntmps80
    go_upto_region 1 with fail
    rw [← hW0]
    clear hW0
    go_wp2_with fail
    exact chk_fin HM.out rfl rfl HW0.out.1 HW0.out.2
  have hp2 : p.size ≤ 200 := by omega
  have HM : Hid (specM (sb p) = chkM (sb p) 0 0 false) := by
    show specM (sb p) = _
    unfold specM; rw [if_neg (by rw [sb_len]; exact hp)]
  have z2 : ¬ (200 : Int) < (p.size : Int) := by omega
  go_enter Try.func80, Try.ntmps80
  go_upto_region 1 with fail
  rw [← hW0]
  clear hW0 hp
  go_wp2_with fail
  go_loopw [3, 4, 5] (fun ov av iv wr => ∃ (i o : Nat) (a : Bool), i ≤ p.size ∧ o ≤ i ∧ ov = .int .i64 (o : Int) ∧ av = .bool a ∧ iv = .int .i64 (i : Int) ∧ specM (sb p) = chkM (sb p) i o a ∧ Below W0.heap.size W0 wr) (fun _ _ iv _ => p.size - (intOf iv).toNat)
  case atStart => exact ⟨0, 0, false, Nat.zero_le _, Nat.zero_le _, rfl, rfl, rfl, HM.out, Below.refl _ _⟩
  case round =>
    obtain ⟨i, o, a, hi, hoi, rfl, rfl, rfl, hE, hb⟩ := hrel
    have HE : Hid (specM (sb p) = chkM (sb p) i o a) := hE
    have HX : Hid (BoxAt wr w.heap.size 122 2 w.heap.size [.int .i64 0, .int .i64 0] ∧ Below w.heap.size w wr) := ⟨HW0.out.1.below hb, HW0.out.2.trans (hb.mono HW0.out.2.size)⟩
    have HB : Hid (Below W0.heap.size W0 wr) := hb
    have r0 := HX.out.1.cell (j := 0) rfl
    have r1 := HX.out.1.cell (j := 1) rfl
    have f0 := HX.out.1.frozen 0
    have f1 := HX.out.1.frozen 1
    clear hE hb HM
    by_cases hlt : i < p.size
    · obtain ⟨c, hc⟩ : ∃ x, (sb p)[i]? = some x := ⟨_, List.getElem?_eq_getElem (by rw [sb_len]; exact hlt)⟩
      obtain ⟨_, gc⟩ := sb_get hc
      have HC : Hid ((sb p)[i]? = some c) := hc
      have zi : (i : Int) < (p.size : Int) := by omega
      clear hc
      by_cases h40 : c = 40
      · subst h40
        by_cases ho : o = 20
        · subst ho
          have HF : Hid (specM (sb p) = (3, i)) := by
            show specM (sb p) = _
            rw [HE.out, chk_open HC.out, if_pos rfl]
          go_wp2_with fail
          exact chk_fin HF.out rfl rfl HX.out.1 HX.out.2
        · have zo : ¬ (o : Int) = 20 := by omega
          have HF : Hid (specM (sb p) = chkM (sb p) (i + 1) (o + 1) false) := by
            show specM (sb p) = _
            rw [HE.out, chk_open HC.out, if_neg ho]
          go_wp2_with fail
          go_roundw
          case rel => exact ⟨i + 1, o + 1, false, by omega, by omega, by go_num, rfl, by go_num, HF.out, HB.out⟩
          case measure => simp [intOf]; omega
      have z40 : ((c.toNat : Int) == 40) = false := beq_eq_false_iff_ne.2 (ne_u8 (c := 40) h40)
      by_cases h41 : c = 41
      · subst h41
        by_cases ho : o = 0
        · subst ho
          have HF : Hid (specM (sb p) = (2, i)) := by
            show specM (sb p) = _
            rw [HE.out, chk_close HC.out, if_pos rfl]
          go_wp2_with fail
          exact chk_fin HF.out rfl rfl HX.out.1 HX.out.2
        · have zo : ¬ (o : Int) = 0 := by omega
          have HF : Hid (specM (sb p) = chkM (sb p) (i + 1) (o - 1) true) := by
            show specM (sb p) = _
            rw [HE.out, chk_close HC.out, if_neg ho]
          go_wp2_with fail
          go_roundw
          case rel => exact ⟨i + 1, o - 1, true, by omega, by omega, congrArg (Value.int .i64) (by omega), rfl, by go_num, HF.out, HB.out⟩
          case measure => simp [intOf]; omega
      have z41 : ((c.toNat : Int) == 41) = false := beq_eq_false_iff_ne.2 (ne_u8 (c := 41) h41)
      by_cases h124 : c = 124
      · subst h124
        have HF : Hid (specM (sb p) = chkM (sb p) (i + 1) o false) := by
          show specM (sb p) = _
          rw [HE.out, chk_bar HC.out]
        go_wp2_with fail
        go_roundw
        case rel => exact ⟨i + 1, o, false, by omega, by omega, rfl, rfl, by go_num, HF.out, HB.out⟩
        case measure => simp [intOf]; omega
      have z124 : ((c.toNat : Int) == 124) = false := beq_eq_false_iff_ne.2 (ne_u8 (c := 124) h124)
      have HL : Hid (∀ q : Bool, decide (isOp c) = q → Calls Try.prog 102 #[.int .u8 (c.toNat : Int)] wr fun e w' => e = .returned (.bool q) ∧ w' = wr) := fun q hq => by rw [← hq]; exact l4Op_core c wr
      by_cases hop : isOp c
      · go_wp2_with fail
        refine (HL.out true (decide_eq_true hop)).mono ?_
        rintro e w3 ⟨rfl, hw3⟩
        rw [hw3]
        clear hw3 HL
        cases a
        · have HF : Hid (specM (sb p) = (2, i)) := by
            show specM (sb p) = _
            rw [HE.out, chk_op HC.out hop]; rfl
          clear hop
          go_wp2_with fail
          exact chk_fin HF.out rfl rfl HX.out.1 HX.out.2
        · have HF : Hid (specM (sb p) = chkM (sb p) (i + 1) o true) := by
            show specM (sb p) = _
            rw [HE.out, chk_op HC.out hop, if_pos rfl]
          clear hop
          go_wp2_with fail
          go_roundw
          case rel => exact ⟨i + 1, o, true, by omega, by omega, rfl, rfl, by go_num, HF.out, HB.out⟩
          case measure => simp [intOf]; omega
      go_wp2_with fail
      refine (HL.out false (decide_eq_false hop)).mono ?_
      rintro e w3 ⟨rfl, hw3⟩
      rw [hw3]
      have HOp : Hid (¬ isOp c) := hop
      clear hw3 HL hop
      by_cases h91 : c = 91
      · subst h91
        go_wp2_with fail
        refine (l4Class_core p i wr hp2 hlt).mono ?_
        rintro e w4 ⟨hP, hb4⟩
        have hB4 : Below W0.heap.size W0 w4 := HB.out.trans (hb4.mono HB.out.size)
        have hs4 := hb4.size
        have hsw := HX.out.2.size
        rcases hP with ⟨f, k, hk, rfl⟩ | ⟨c4, k, hk, rfl⟩
        · have hkp := classM_gt hk
          rw [sb_len] at hkp
          obtain ⟨W5, hW5⟩ : ∃ W5 : World, W5 = w4.alloc (Obj.cells #[.int .i64 0, .int .i64 0] 122) := ⟨_, rfl⟩
          have HF : Hid (specM (sb p) = chkM (sb p) k o true ∧ Below W0.heap.size W0 W5) := by
            refine ⟨by rw [HE.out, chk_class HC.out, hk], ?_⟩
            rw [hW5]; exact hB4.trans ((Below.refl _ _).alloc (by have := HB.out.size; omega) _)
          clear hk hb4 hB4 r0 r1 f0 f1
          go_wp2_with fail
          rw [← hW5]
          go_roundw
          case rel => exact ⟨k, o, true, hkp.2, by omega, rfl, rfl, rfl, HF.out.1, HF.out.2⟩
          case measure => simp [intOf]; omega
        · have hc4 := classM_err hk
          obtain ⟨W5, hW5⟩ : ∃ W5 : World, W5 = w4.alloc (Obj.cells #[.int .i64 c4, .int .i64 (k : Int)] 122) := ⟨_, rfl⟩
          have HF : Hid (specM (sb p) = (c4, k) ∧ BoxAt W5 w.heap.size 122 2 w.heap.size [.int .i64 0, .int .i64 0] ∧ Below w.heap.size w W5 ∧ BoxAt W5 w.heap.size 122 2 w4.heap.size [.int .i64 c4, .int .i64 (k : Int)]) := by
            have hb5 : Below w4.heap.size w4 W5 := by rw [hW5]; exact (Below.refl _ _).alloc (Nat.le_refl _) _
            refine ⟨by rw [HE.out, chk_class HC.out, hk], (HX.out.1.below hb4).below hb5, (HX.out.2.trans (hb4.mono hsw)).trans (hb5.mono (by omega)), ?_⟩
            rw [hW5]; exact boxAt_new w4 _ (by omega) rfl
          have hc4' : (c4 != 0) = true := by simpa using hc4
          clear hk hb4 hB4 r0 r1 f0 f1
          go_upto_region 29 with fail
          rw [← hW5]
          clear hW5
          have b0 := HF.out.2.2.2.cell (j := 0) rfl
          have b1 := HF.out.2.2.2.cell (j := 1) rfl
          have r0 := HF.out.2.1.cell (j := 0) rfl
          have r1 := HF.out.2.1.cell (j := 1) rfl
          have f0 := HF.out.2.1.frozen 0
          have f1 := HF.out.2.1.frozen 1
          go_wp2_with fail
          exact chk_fin HF.out.1 rfl rfl HF.out.2.1 HF.out.2.2.1
      have z91 : ((c.toNat : Int) == 91) = false := beq_eq_false_iff_ne.2 (ne_u8 (c := 91) h91)
      by_cases h93 : c = 93
      · subst h93
        have HF : Hid (specM (sb p) = (2, i)) := by
          show specM (sb p) = _
          rw [HE.out, chk_rb HC.out]
        go_wp2_with fail
        exact chk_fin HF.out rfl rfl HX.out.1 HX.out.2
      have z93 : ((c.toNat : Int) == 93) = false := beq_eq_false_iff_ne.2 (ne_u8 (c := 93) h93)
      by_cases h92 : c = 92
      · subst h92
        by_cases hl1 : i + 1 = p.size
        · have HF : Hid (specM (sb p) = (2, p.size)) := by
            show specM (sb p) = _
            rw [HE.out, chk_esc HC.out, if_pos (by rw [sb_len]; exact hl1), sb_len]
          have zl : (i : Int) + 1 = (p.size : Int) := by omega
          go_wp2_with fail
          exact chk_fin HF.out rfl rfl HX.out.1 HX.out.2
        · have HF : Hid (specM (sb p) = chkM (sb p) (i + 2) o true) := by
            show specM (sb p) = _
            rw [HE.out, chk_esc HC.out, if_neg (by rw [sb_len]; exact hl1)]
          have zl : ¬ (i : Int) + 1 = (p.size : Int) := by omega
          go_wp2_with fail
          go_roundw
          case rel => exact ⟨i + 2, o, true, by omega, by omega, rfl, rfl, by go_num, HF.out, HB.out⟩
          case measure => simp [intOf]; omega
      have z92 : ((c.toNat : Int) == 92) = false := beq_eq_false_iff_ne.2 (ne_u8 (c := 92) h92)
      have HF : Hid (specM (sb p) = chkM (sb p) (i + 1) o true) := by
        show specM (sb p) = _
        rw [HE.out, chk_plain HC.out (fun q => q.elim HOp.out (fun q => q.elim h124 (fun q => q.elim h41 h93))) h40 h91 h92]
      go_wp2_with fail
      go_roundw
      case rel => exact ⟨i + 1, o, true, by omega, by omega, rfl, rfl, by go_num, HF.out, HB.out⟩
      case measure => simp [intOf]; omega
    · have zi : ¬ (i : Int) < (p.size : Int) := by omega
      by_cases ho : 0 < o
      · have HF : Hid (specM (sb p) = (2, p.size)) := by
          show specM (sb p) = _
          rw [HE.out, chk_end (by rw [sb_len]; exact hlt), if_pos ho, sb_len]
        have zo : (0 : Int) < (o : Int) := by omega
        go_wp2_with fail
        exact chk_fin HF.out rfl rfl HX.out.1 HX.out.2
      · have HF : Hid (specM (sb p) = (0, 0)) := by
          show specM (sb p) = _
          rw [HE.out, chk_end (by rw [sb_len]; exact hlt), if_neg ho]
        have zo : ¬ (0 : Int) < (o : Int) := by omega
        go_wp2_with fail
        exact chk_fin HF.out rfl rfl HX.out.1 HX.out.2
end Go.Proofs.Ytnncedndlhfdkab

/-
  The grammar of patterns over lists of bytes, and what the check says behind a piece.
-/
namespace Go.Proofs.Ytnncedndlhfdkab
set_option linter.unusedVariables false
set_option linter.unusedSimpArgs false

/-- The bytes from i up to k. -/
def cut (p : List UInt8) (i k : Nat) : List UInt8 := (p.drop i).take (k - i)
theorem cut_nil (p : List UInt8) (i : Nat) : cut p i i = [] := by simp [cut]
theorem cut_len {p : List UInt8} {i k : Nat} (h : k ≤ p.length) : (cut p i k).length = k - i := by
  simp [cut]; omega
theorem cut_cat {p : List UInt8} {i j k : Nat} (h1 : i ≤ j) (h2 : j ≤ k) : cut p i k = cut p i j ++ cut p j k := by
  unfold cut
  have : k - i = (j - i) + (k - j) := by omega
  rw [this, List.take_add, List.drop_drop]
  congr 3
  omega
theorem cut_one {p : List UInt8} {i : Nat} {c : UInt8} (h : p[i]? = some c) : cut p i (i + 1) = [c] := by
  have hi := lt_of_at h
  unfold cut
  rw [List.drop_eq_getElem_cons hi, Nat.add_sub_cancel_left, get_of_at h]
  simp

abbrev special (c : UInt8) : Prop := isEnd c ∨ c = 40 ∨ c = 91 ∨ c = 46 ∨ c = 92
def RepG (A : List UInt8 → Pat → Prop) (xs : List UInt8) (t : Pat) : Prop :=
  ∃ (ys ops : List UInt8) (a : Pat), xs = ys ++ ops ∧ A ys a ∧ (∀ c ∈ ops, isOp c) ∧ t = (if ops = [] then a else .rep a (ops.any (· != 43)) (ops.any (· != 63)))
def SeqG (A : List UInt8 → Pat → Prop) : List Pat → List UInt8 → Prop
  | [], xs => xs = []
  | t :: ts, xs => ∃ ys zs, xs = ys ++ zs ∧ RepG A ys t ∧ SeqG A ts zs
def AltG (A : List UInt8 → Pat → Prop) : List (List Pat) → List UInt8 → Prop
  | [], xs => False
  | [ts], xs => SeqG A ts xs
  | ts :: os, xs => ∃ ys zs, xs = ys ++ 124 :: zs ∧ SeqG A ts ys ∧ AltG A os zs
def AtomG : Nat → List UInt8 → Pat → Prop
  | 0, _, _ => False
  | n + 1, xs, t => (∃ c, xs = [c] ∧ ¬ special c ∧ t = .byte c) ∨ (xs = [46] ∧ t = .cls (fun _ => true)) ∨ (∃ c, xs = [92, c] ∧ t = .byte c) ∨
      (∃ ys os, xs = 40 :: ys ++ [41] ∧ AltG (AtomG n) os ys ∧ t = .alt os) ∨ (∃ p i k f, p[i]? = some 91 ∧ classM p (i + 1) = .inl (f, k) ∧ xs = cut p i k ∧ t = .cls f)
theorem RepG.mono {A B : List UInt8 → Pat → Prop} (h : ∀ xs t, A xs t → B xs t) {xs : List UInt8} {t : Pat} : RepG A xs t → RepG B xs t := fun ⟨ys, ops, a, h1, h2, h3, h4⟩ => ⟨ys, ops, a, h1, h _ _ h2, h3, h4⟩
theorem SeqG.mono {A B : List UInt8 → Pat → Prop} (h : ∀ xs t, A xs t → B xs t) : ∀ {ts : List Pat} {xs : List UInt8}, SeqG A ts xs → SeqG B ts xs
  | [], _, q => q
  | _ :: _, _, ⟨ys, zs, h1, h2, h3⟩ => ⟨ys, zs, h1, h2.mono h, SeqG.mono h h3⟩
theorem AltG.mono {A B : List UInt8 → Pat → Prop} (h : ∀ xs t, A xs t → B xs t) : ∀ {os : List (List Pat)} {xs : List UInt8}, AltG A os xs → AltG B os xs
  | [], _, q => q
  | [_], _, q => SeqG.mono h q
  | _ :: _ :: _, _, ⟨ys, zs, h1, h2, h3⟩ => ⟨ys, zs, h1, h2.mono h, AltG.mono h h3⟩
theorem AtomG.mono : ∀ {n m : Nat} {xs : List UInt8} {t : Pat}, n ≤ m → AtomG n xs t → AtomG m xs t
  | 0, _, _, _, _, h => h.elim
  | n + 1, 0, _, _, hm, _ => by omega
  | n + 1, m + 1, xs, t, hm, h => by
    rcases h with h | h | h | ⟨ys, os, h1, h2, h3⟩ | h
    · exact .inl h
    · exact .inr (.inl h)
    · exact .inr (.inr (.inl h))
    · exact .inr (.inr (.inr (.inl ⟨ys, os, h1, h2.mono (fun _ _ q => AtomG.mono (by omega) q), h3⟩)))
    · exact .inr (.inr (.inr (.inr h)))
theorem SeqG.snoc {A : List UInt8 → Pat → Prop} : ∀ {ts : List Pat} {xs ys : List UInt8} {t : Pat}, SeqG A ts xs → RepG A ys t → SeqG A (ts ++ [t]) (xs ++ ys)
  | [], xs, ys, t, h, k => by subst h; exact ⟨ys, [], by simp, k, rfl⟩
  | s :: ts, xs, ys, t, ⟨us, vs, h1, h2, h3⟩, k => ⟨us, vs ++ ys, by rw [h1]; simp, h2, SeqG.snoc h3 k⟩
theorem AltG.snoc {A : List UInt8 → Pat → Prop} : ∀ {os : List (List Pat)} {xs ys : List UInt8} {ts : List Pat}, AltG A os xs → SeqG A ts ys → AltG A (os ++ [ts]) (xs ++ 124 :: ys)
  | [], _, _, _, h, _ => h.elim
  | [s], xs, ys, ts, h, k => ⟨xs, ys, rfl, h, k⟩
  | s :: o :: os, xs, ys, ts, ⟨us, vs, h1, h2, h3⟩, k => ⟨us, vs ++ 124 :: ys, by rw [h1]; simp, h2, AltG.snoc h3 k⟩

/-- What a piece that has been read says: the check goes on behind it. -/
structure AtomOk (p : List UInt8) (o i k : Nat) (t : Pat) : Prop where
  lt : i < k
  le : k ≤ p.length
  chk : ∀ a, chkM p i o a = chkM p k o true
  gr : ∃ n, AtomG n (cut p i k) t
structure RepOk (p : List UInt8) (o i k : Nat) (t : Pat) : Prop where
  lt : i < k
  le : k ≤ p.length
  chk : ∀ a, chkM p i o a = chkM p k o true
  next : ∀ c, p[k]? = some c → ¬ isOp c
  gr : ∃ n, RepG (AtomG n) (cut p i k) t
structure SeqOk (p : List UInt8) (o i k : Nat) (ts : List Pat) : Prop where
  lei : i ≤ k
  le : k ≤ p.length
  chk : chkM p i o false = chkM p k o false
  gr : ∃ n, SeqG (AtomG n) ts (cut p i k)
structure AltOk (p : List UInt8) (o i k : Nat) (os : List (List Pat)) : Prop where
  lei : i ≤ k
  le : k ≤ p.length
  chk : chkM p i o false = chkM p k o false
  gr : ∃ n, AltG (AtomG n) os (cut p i k)
theorem SeqOk.nil {p : List UInt8} {o i : Nat} (h : i ≤ p.length) : SeqOk p o i i [] := ⟨Nat.le_refl _, h, rfl, 0, cut_nil p i⟩
theorem SeqOk.more {p : List UInt8} {o i j k : Nat} {ts : List Pat} {t : Pat} (h : SeqOk p o i j ts) (r : RepOk p o j k t) : SeqOk p o i k (ts ++ [t]) := by
  obtain ⟨n, hn⟩ := h.gr
  obtain ⟨m, hm⟩ := r.gr
  refine ⟨Nat.le_trans h.lei (Nat.le_of_lt r.lt), r.le, ?_, max n m, ?_⟩
  · rw [h.chk, r.chk, chk_flag r.next]
  · rw [cut_cat h.lei (Nat.le_of_lt r.lt)]
    exact (hn.mono (fun _ _ q => AtomG.mono (Nat.le_max_left _ _) q)).snoc (hm.mono (fun _ _ q => AtomG.mono (Nat.le_max_right _ _) q))
theorem AltOk.one {p : List UInt8} {o i k : Nat} {ts : List Pat} (h : SeqOk p o i k ts) : AltOk p o i k [ts] := ⟨h.lei, h.le, h.chk, h.gr⟩
theorem AltOk.more {p : List UInt8} {o i j k : Nat} {os : List (List Pat)} {ts : List Pat} (h : AltOk p o i j os) (hb : p[j]? = some 124) (s : SeqOk p o (j + 1) k ts) : AltOk p o i k (os ++ [ts]) := by
  obtain ⟨n, hn⟩ := h.gr
  obtain ⟨m, hm⟩ := s.gr
  have hl := s.lei
  refine ⟨Nat.le_trans h.lei (by omega), s.le, ?_, max n m, ?_⟩
  · rw [h.chk, chk_bar hb, s.chk]
  · rw [cut_cat h.lei (show j ≤ k by omega), cut_cat (show j ≤ j + 1 by omega) hl, cut_one hb]
    exact (hn.mono (fun _ _ q => AtomG.mono (Nat.le_max_left _ _) q)).snoc (hm.mono (fun _ _ q => AtomG.mono (Nat.le_max_right _ _) q))
theorem AtomOk.group {p : List UInt8} {o i j : Nat} {os : List (List Pat)} (h : p[i]? = some 40) (ho : ¬ o = 20) (a : AltOk p (o + 1) (i + 1) j os) (hj : p[j]? = some 41) : AtomOk p o i (j + 1) (.alt os) := by
  obtain ⟨n, hn⟩ := a.gr
  have hl := a.lei
  refine ⟨by omega, lt_of_at hj, fun b => ?_, n + 1, .inr (.inr (.inr (.inl ⟨_, os, ?_, hn, rfl⟩)))⟩
  · rw [chk_open h, if_neg ho, a.chk, chk_close hj, if_neg (by omega), Nat.add_sub_cancel]
  · rw [cut_cat (show i ≤ i + 1 by omega) (show i + 1 ≤ j + 1 by omega), cut_one h, cut_cat hl (show j ≤ j + 1 by omega), cut_one hj]
    simp
theorem AtomOk.plain {p : List UInt8} {o i : Nat} {c : UInt8} (h : p[i]? = some c) (hc : ¬ special c) : AtomOk p o i (i + 1) (.byte c) := by
  refine ⟨by omega, lt_of_at h, fun a => chk_plain h (fun q => hc (.inl q)) (fun q => hc (.inr (.inl q))) (fun q => hc (.inr (.inr (.inl q)))) (fun q => hc (.inr (.inr (.inr (.inr q))))), 1, .inl ⟨c, cut_one h, hc, rfl⟩⟩
theorem AtomOk.dot {p : List UInt8} {o i : Nat} (h : p[i]? = some 46) : AtomOk p o i (i + 1) (.cls (fun _ => true)) := by
  refine ⟨by omega, lt_of_at h, fun a => chk_plain h (by decide) (by decide) (by decide) (by decide), 1, .inr (.inl ⟨cut_one h, rfl⟩)⟩
theorem AtomOk.esc {p : List UInt8} {o i : Nat} {c : UInt8} (h : p[i]? = some 92) (hc : p[i + 1]? = some c) : AtomOk p o i (i + 1 + 1) (.byte c) := by
  have hl := lt_of_at hc
  refine ⟨by omega, hl, fun a => by rw [chk_esc h, if_neg (by omega)], 1, .inr (.inr (.inl ⟨c, ?_, rfl⟩))⟩
  rw [cut_cat (show i ≤ i + 1 by omega) (show i + 1 ≤ i + 1 + 1 by omega), cut_one h, cut_one hc]
  rfl
theorem AtomOk.class {p : List UInt8} {o i k : Nat} {f : UInt8 → Bool} (h : p[i]? = some 91) (hc : classM p (i + 1) = .inl (f, k)) : AtomOk p o i k (.cls f) := by
  have hl := classM_gt hc
  exact ⟨by omega, hl.2, fun a => by rw [chk_class h, hc], 1, .inr (.inr (.inr (.inr ⟨p, i, k, f, h, hc, rfl, rfl⟩)))⟩
/-- An atom with the signs behind it. -/
structure OpsOk (p : List UInt8) (o i j k : Nat) (a : Pat) (op rp : Bool) : Prop where
  atom : AtomOk p o i j a
  lt : j ≤ k
  le : k ≤ p.length
  chk : chkM p j o true = chkM p k o true
  ops : ∀ c ∈ cut p j k, isOp c
  opt : op = (cut p j k).any (· != 43)
  rpt : rp = (cut p j k).any (· != 63)
theorem OpsOk.zero {p : List UInt8} {o i j : Nat} {a : Pat} (h : AtomOk p o i j a) : OpsOk p o i j j a false false :=
  ⟨h, Nat.le_refl _, h.le, rfl, by rw [cut_nil]; simp, by rw [cut_nil]; rfl, by rw [cut_nil]; rfl⟩
theorem OpsOk.more {p : List UInt8} {o i j k : Nat} {a : Pat} {op rp : Bool} {c : UInt8} (h : OpsOk p o i j k a op rp) (hc : p[k]? = some c) (hop : isOp c) : OpsOk p o i j (k + 1) a (op || c != 43) (rp || c != 63) := by
  have hcut : cut p j (k + 1) = cut p j k ++ [c] := by rw [cut_cat h.lt (show k ≤ k + 1 by omega), cut_one hc]
  refine ⟨h.atom, by have := h.lt; omega, lt_of_at hc, ?_, ?_, ?_, ?_⟩
  · rw [h.chk, chk_op hc hop, if_pos rfl]
  · rw [hcut]
    intro d hd
    rcases List.mem_append.1 hd with hd | hd
    · exact h.ops d hd
    · simp at hd; subst hd; exact hop
  · rw [hcut, List.any_append, ← h.opt]; simp
  · rw [hcut, List.any_append, ← h.rpt]; simp
theorem OpsOk.rep {p : List UInt8} {o i j k : Nat} {a : Pat} {op rp : Bool} (h : OpsOk p o i j k a op rp) (hn : ∀ c, p[k]? = some c → ¬ isOp c) : RepOk p o i k (if j = k then a else .rep a op rp) := by
  obtain ⟨n, hg⟩ := h.atom.gr
  have h1 := h.atom.lt
  have h2 := h.lt
  refine ⟨by omega, h.le, fun b => by rw [h.atom.chk, h.chk], hn, n, cut p i j, cut p j k, a, cut_cat (by omega) h2, hg, h.ops, ?_⟩
  by_cases hjk : j = k
  · subst hjk; rw [if_pos rfl, if_pos (cut_nil p j)]
  · have : ¬ cut p j k = [] := fun q => by have := cut_len (p := p) (i := j) h.le; rw [q] at this; simp at this; omega
    rw [if_neg hjk, if_neg this, ← h.opt, ← h.rpt]
end Go.Proofs.Ytnncedndlhfdkab

/-
  Patterns in memory.
-/
namespace Go.Proofs.Ytnncedndlhfdkab
open Go.ChangeShapes Go.WideShapes Go.ChangeAt Go.RowKit Go.Deep
set_option linter.unusedVariables false
set_option linter.unusedSimpArgs false
set_option maxRecDepth 100000

abbrev byteV (b : UInt8) : Value := .iface 192 (.agg #[.int .u8 (b.toNat : Int)])
/-- The blocks from a up to b. -/
def Bet (a b : Nat) : Nat → Prop := fun k => a ≤ k ∧ k < b
/-- Values one behind another, in a block out of 'R'. -/
structure ValsAt (w : World) (R : Nat → Prop) (g : Nat) (vs : List Value) : Prop where
  blk : R g
  lt : g < w.heap.size
  val : ∀ (i : Nat) v, vs[i]? = some v → w.cell? ⟨g, i, none⟩ = some v
theorem ValsAt.chg {S : Nat → Prop} {w w' : World} {R : Nat → Prop} {g : Nat} {vs : List Value} (h : ValsAt w R g vs) (hc : Chg S w w') (hS : ∀ k, S k → ¬ R k) : ValsAt w' R g vs :=
  ⟨h.blk, Nat.lt_of_lt_of_le h.lt hc.size, fun i v hv => by rw [hc.cell (p := ⟨g, i, none⟩) h.lt (fun q => hS g q h.blk)]; exact h.val i v hv⟩
/-- A seq in memory, its nodes being such as 'N' says. -/
def SeqIs (N : Pat → Value → Prop) (w : World) (lo : Nat → Prop) (ts : List Pat) (u : Value) : Prop :=
  (ts = [] ∧ u = .slice none 0 0) ∨ ∃ (g cp : Nat) (us : List Value), u = .slice (some ⟨g, 0, none⟩) ts.length cp ∧ us.length = ts.length ∧ ValsAt w lo g us ∧ ∀ (i : Nat) x t, us[i]? = some x → ts[i]? = some t → N t x
def AltIs (N : Pat → Value → Prop) (w : World) (lo : Nat → Prop) (os : List (List Pat)) (u : Value) : Prop :=
  ∃ (g cp : Nat) (us : List Value), u = .slice (some ⟨g, 0, none⟩) os.length cp ∧ us.length = os.length ∧ ValsAt w lo g us ∧ ∀ (i : Nat) x ts, us[i]? = some x → os[i]? = some ts → SeqIs N w lo ts x
/-- A node in memory. -/
def NodeIs : Nat → World → (Nat → Prop) → Pat → Value → Prop
  | 0, _, _, _, _ => False
  | n + 1, w, lo, .byte b, v => v = byteV b
  | n + 1, w, lo, .cls f, v => v = clsV f
  | n + 1, w, lo, .rep t o r, v => ∃ u, v = .iface 184 (.agg #[u, .bool o, .bool r]) ∧ NodeIs n w lo t u
  | n + 1, w, lo, .alt os, v => ∃ u, v = .iface 160 (.agg #[u]) ∧ AltIs (NodeIs n w lo) w lo os u
theorem SeqIs.mono {N M : Pat → Value → Prop} {w w' : World} {lo lo' : Nat → Prop} (hN : ∀ t v, N t v → M t v) (hV : ∀ g vs, ValsAt w lo g vs → ValsAt w' lo' g vs) {ts : List Pat} {u : Value} : SeqIs N w lo ts u → SeqIs M w' lo' ts u
  | .inl h => .inl h
  | .inr ⟨g, cp, us, h1, h2, h3, h4⟩ => .inr ⟨g, cp, us, h1, h2, hV _ _ h3, fun i x t hx ht => hN _ _ (h4 i x t hx ht)⟩
theorem AltIs.mono {N M : Pat → Value → Prop} {w w' : World} {lo lo' : Nat → Prop} (hN : ∀ t v, N t v → M t v) (hV : ∀ g vs, ValsAt w lo g vs → ValsAt w' lo' g vs) {os : List (List Pat)} {u : Value} : AltIs N w lo os u → AltIs M w' lo' os u
  | ⟨g, cp, us, h1, h2, h3, h4⟩ => ⟨g, cp, us, h1, h2, hV _ _ h3, fun i x t hx ht => (h4 i x t hx ht).mono hN hV⟩
theorem NodeIs.mono : ∀ {n m : Nat} {w w' : World} {lo lo' : Nat → Prop} (hV : ∀ g vs, ValsAt w lo g vs → ValsAt w' lo' g vs) {t : Pat} {v : Value}, n ≤ m → NodeIs n w lo t v → NodeIs m w' lo' t v
  | 0, _, _, _, _, _, _, _, _, _, h => h.elim
  | n + 1, 0, _, _, _, _, _, _, _, hm, _ => by omega
  | n + 1, m + 1, w, w', lo, lo', hV, .byte b, v, _, h => h
  | n + 1, m + 1, w, w', lo, lo', hV, .cls f, v, _, h => h
  | n + 1, m + 1, w, w', lo, lo', hV, .rep t o r, v, hm, ⟨u, h1, h2⟩ => ⟨u, h1, NodeIs.mono hV (by omega) h2⟩
  | n + 1, m + 1, w, w', lo, lo', hV, .alt os, v, hm, ⟨u, h1, h2⟩ => ⟨u, h1, h2.mono (fun t v q => NodeIs.mono hV (by omega) q) hV⟩
/-- A node, whatever its depth. -/
def NodeOk (w : World) (lo : Nat → Prop) (t : Pat) (v : Value) : Prop := ∃ n, NodeIs n w lo t v
def SeqAt (w : World) (lo : Nat → Prop) (ts : List Pat) (u : Value) : Prop := ∃ n, SeqIs (NodeIs n w lo) w lo ts u
def AltAt (w : World) (lo : Nat → Prop) (os : List (List Pat)) (u : Value) : Prop := ∃ n, AltIs (NodeIs n w lo) w lo os u
theorem vals_move {S : Nat → Prop} {w w' : World} {lo lo' : Nat → Prop} (hc : Chg S w w') (hS : ∀ k, S k → ¬ lo k) (hl : ∀ k, k < w.heap.size → lo k → lo' k) : ∀ g vs, ValsAt w lo g vs → ValsAt w' lo' g vs := fun g vs h => by
  have h1 := h.chg hc hS
  exact ⟨hl g h.lt h1.blk, h1.lt, h1.val⟩
theorem NodeOk.move {S : Nat → Prop} {w w' : World} {lo lo' : Nat → Prop} {t : Pat} {v : Value} (h : NodeOk w lo t v) (hc : Chg S w w') (hS : ∀ k, S k → ¬ lo k) (hl : ∀ k, k < w.heap.size → lo k → lo' k) : NodeOk w' lo' t v := by
  obtain ⟨n, hn⟩ := h
  exact ⟨n, hn.mono (vals_move hc hS hl) (Nat.le_refl _)⟩
theorem SeqAt.move {S : Nat → Prop} {w w' : World} {lo lo' : Nat → Prop} {ts : List Pat} {u : Value} (h : SeqAt w lo ts u) (hc : Chg S w w') (hS : ∀ k, S k → ¬ lo k) (hl : ∀ k, k < w.heap.size → lo k → lo' k) : SeqAt w' lo' ts u := by
  obtain ⟨n, hn⟩ := h
  exact ⟨n, hn.mono (fun t v q => q.mono (vals_move hc hS hl) (Nat.le_refl _)) (vals_move hc hS hl)⟩
theorem AltAt.move {S : Nat → Prop} {w w' : World} {lo lo' : Nat → Prop} {os : List (List Pat)} {u : Value} (h : AltAt w lo os u) (hc : Chg S w w') (hS : ∀ k, S k → ¬ lo k) (hl : ∀ k, k < w.heap.size → lo k → lo' k) : AltAt w' lo' os u := by
  obtain ⟨n, hn⟩ := h
  exact ⟨n, hn.mono (fun t v q => q.mono (vals_move hc hS hl) (Nat.le_refl _)) (vals_move hc hS hl)⟩
theorem nodeOk_byte (w : World) (lo : Nat → Prop) (b : UInt8) : NodeOk w lo (.byte b) (byteV b) := ⟨1, rfl⟩
theorem nodeOk_cls (w : World) (lo : Nat → Prop) (f : UInt8 → Bool) : NodeOk w lo (.cls f) (clsV f) := ⟨1, rfl⟩
theorem nodeOk_rep {w : World} {lo : Nat → Prop} {t : Pat} {v : Value} (h : NodeOk w lo t v) (o r : Bool) : NodeOk w lo (.rep t o r) (.iface 184 (.agg #[v, .bool o, .bool r])) := by
  obtain ⟨n, hn⟩ := h
  exact ⟨n + 1, v, rfl, hn⟩
theorem nodeOk_alt {w : World} {lo : Nat → Prop} {os : List (List Pat)} {u : Value} (h : AltAt w lo os u) : NodeOk w lo (.alt os) (.iface 160 (.agg #[u])) := by
  obtain ⟨n, hn⟩ := h
  exact ⟨n + 1, u, rfl, hn⟩
/-- Nodes of one list, each of its own depth: one depth for all. -/
theorem nodes_one {w : World} {lo : Nat → Prop} : ∀ {ts : List Pat} {us : List Value}, us.length = ts.length → (∀ (i : Nat) x t, us[i]? = some x → ts[i]? = some t → NodeOk w lo t x) → ∃ n, ∀ (i : Nat) x t, us[i]? = some x → ts[i]? = some t → NodeIs n w lo t x
  | [], [], _, _ => ⟨0, fun i x t hx => by simp at hx⟩
  | t :: ts, u :: us, hl, h => by
    obtain ⟨n, hn⟩ := nodes_one (ts := ts) (us := us) (by simpa using hl) (fun i x t hx ht => h (i + 1) x t (by simpa using hx) (by simpa using ht))
    obtain ⟨m, hm⟩ := h 0 u t rfl rfl
    refine ⟨max n m, fun i x t' hx ht => ?_⟩
    cases i with
    | zero => simp at hx ht; subst hx ht; exact hm.mono (fun _ _ q => q) (Nat.le_max_right _ _)
    | succ i => exact (hn i x t' (by simpa using hx) (by simpa using ht)).mono (fun _ _ q => q) (Nat.le_max_left _ _)
theorem seqs_one {w : World} {lo : Nat → Prop} : ∀ {os : List (List Pat)} {us : List Value}, us.length = os.length → (∀ (i : Nat) x ts, us[i]? = some x → os[i]? = some ts → SeqAt w lo ts x) → ∃ n, ∀ (i : Nat) x ts, us[i]? = some x → os[i]? = some ts → SeqIs (NodeIs n w lo) w lo ts x
  | [], [], _, _ => ⟨0, fun i x t hx => by simp at hx⟩
  | t :: ts, u :: us, hl, h => by
    obtain ⟨n, hn⟩ := seqs_one (os := ts) (us := us) (by simpa using hl) (fun i x t hx ht => h (i + 1) x t (by simpa using hx) (by simpa using ht))
    obtain ⟨m, hm⟩ := h 0 u t rfl rfl
    refine ⟨max n m, fun i x t' hx ht => ?_⟩
    cases i with
    | zero => simp at hx ht; subst hx ht; exact hm.mono (fun _ _ q => q.mono (fun _ _ q => q) (Nat.le_max_right _ _)) (fun _ _ q => q)
    | succ i => exact (hn i x t' (by simpa using hx) (by simpa using ht)).mono (fun _ _ q => q.mono (fun _ _ q => q) (Nat.le_max_left _ _)) (fun _ _ q => q)
/-- What a node is as a value. -/
theorem NodeOk.iface {w : World} {lo : Nat → Prop} {t : Pat} {v : Value} (h : NodeOk w lo t v) : ∃ T c, v = .iface T (.agg c) := by
  obtain ⟨n, hn⟩ := h
  cases n with
  | zero => exact hn.elim
  | succ n =>
    cases t with
    | byte b => exact ⟨_, _, hn⟩
    | cls f => exact ⟨_, _, hn⟩
    | rep t o r => obtain ⟨u, h1, _⟩ := hn; exact ⟨_, _, h1⟩
    | alt os => obtain ⟨u, h1, _⟩ := hn; exact ⟨_, _, h1⟩
/-- A list of nodes being made: a row of the call's own. -/
def OwnN (w : World) (base : Nat) (v : Value) (us : List Value) : Prop := w.ownsRow base 180 1 v us.length us
def OwnQ (w : World) (base g cp : Nat) (us : List Value) : Prop := w.ownsRow base 176 1 (.slice (some ⟨g, 0, none⟩) us.length cp) us.length us
theorem OwnQ.lt {w : World} {base g cp : Nat} {us : List Value} (h : OwnQ w base g cp us) : base ≤ g ∧ g < w.heap.size := World.ownsRow.lt h g rfl
theorem OwnQ.vals {w : World} {base g cp : Nat} {us : List Value} {R : Nat → Prop} (h : OwnQ w base g cp us) (hR : R g) : ValsAt w R g us := by
  refine ⟨hR, h.lt.2, fun i v hv => ?_⟩
  have hi := (List.getElem?_eq_some_iff.1 hv).1
  rw [World.ownsRow.cellAt h i (by omega), hv]
theorem OwnN.seq {w : World} {base : Nat} {R : Nat → Prop} {v : Value} {us : List Value} {ts : List Pat} (h : OwnN w base v us) (hl : us.length = ts.length) (hN : ∀ (i : Nat) x t, us[i]? = some x → ts[i]? = some t → NodeOk w R t x) (hb : ∀ k, v.ownBlock = some k → R k) : SeqAt w R ts v := by
  obtain ⟨n, hn⟩ := nodes_one hl hN
  refine ⟨n, ?_⟩
  have h' := h
  rcases h.2 with ⟨rfl, h0⟩ | ⟨g, cap, cur, rfl, h1, h2, h3⟩
  · left
    refine ⟨List.length_eq_zero_iff.1 (by omega), rfl⟩
  · right
    have hlt := World.ownsRow.lt h' g rfl
    refine ⟨g, cap, us, by rw [hl], hl, ⟨hb g rfl, hlt.2, fun i v hv => ?_⟩, hn⟩
    have hi := (List.getElem?_eq_some_iff.1 hv).1
    rw [World.ownsRow.cellAt h' i (by omega), hv]
theorem Try.infoNode : (Try.prog.info? 180).map (fun i => (i.zero, i.size, i.bytes)) = some (some .nilIface, 1, 16) := by kernel_rfl
theorem Try.infoSeq : (Try.prog.info? 176).map (fun i => (i.zero, i.size, i.bytes)) = some (some (.agg #[.slice none 0 0]), 1, 24) := by kernel_rfl
end Go.Proofs.Ytnncedndlhfdkab

/-
  (*impl.patternReader): group, atom, over a contract of alt.
-/
namespace Go.Proofs.Ytnncedndlhfdkab
open Go.ChangeShapes Go.WideShapes Go.ChangeAt Go.RowKit Go.Deep
set_option linter.unusedVariables false
set_option linter.unusedSimpArgs false
set_option maxRecDepth 100000

/-- What a node's reader hands back, 'i' being where the piece begins. -/
def NodePost (p : ByteArray) (base g i o : Nat) (w : World) (R : Nat → Pat → Prop) (e : Ending) (w' : World) : Prop :=
  Chg (fun k => k = g) w w' ∧ ((∃ (k : Nat) (t : Pat) (v : Value), R k t ∧ e = .returned v ∧ NodeOk w' (Bet w.heap.size w'.heap.size) t v ∧ PrAt w' base g p k o) ∨ (∃ (c : Int) (k : Nat), ¬ c = 0 ∧ (∀ a, chkM (sb p) i o a = (c, k)) ∧ e = Pf c k))
def AltPost (p : ByteArray) (base g i o : Nat) (w : World) (e : Ending) (w' : World) : Prop :=
  Chg (fun k => k = g) w w' ∧ ((∃ (k : Nat) (os : List (List Pat)) (u : Value), AltOk (sb p) o i k os ∧ (∀ c, (sb p)[k]? = some c → isEnd c ∧ ¬ c = 124) ∧ e = .returned (.agg #[u]) ∧ AltAt w' (Bet w.heap.size w'.heap.size) os u ∧ PrAt w' base g p k o) ∨ (∃ (c : Int) (k : Nat), ¬ c = 0 ∧ chkM (sb p) i o false = (c, k) ∧ e = Pf c k))
/-- The contract of alt, for patterns of which at most m bytes are to come. -/
def AltC (p : ByteArray) (m : Nat) : Prop := ∀ (base g i o : Nat) (w : World), p.size - i ≤ m → i ≤ p.size → o ≤ 20 → PrAt w base g p i o → Calls Try.prog 121 #[.pointer (some ⟨g, 0, none⟩)] w (AltPost p base g i o w)
def AtomC (p : ByteArray) (m : Nat) : Prop := ∀ (base g i o : Nat) (w : World), p.size - i ≤ m → i < p.size → o ≤ 20 → (∀ c, (sb p)[i]? = some c → ¬ isEnd c) → PrAt w base g p i o → Calls Try.prog 128 #[.pointer (some ⟨g, 0, none⟩)] w (NodePost p base g i o w (AtomOk (sb p) o i))

theorem PrAt.open {w : World} {base g i o : Nat} {p : ByteArray} (h : PrAt w base g p i o) (o' : Nat) : PrAt (w.setCell ⟨g, 2, none⟩ (.int .i64 (o' : Int))) base g p i o' := BoxAt.set h 2 (.int .i64 (o' : Int))
theorem AltAt.slice {w : World} {lo : Nat → Prop} {os : List (List Pat)} {u : Value} (h : AltAt w lo os u) : ∃ g n cp, u = .slice (some ⟨g, 0, none⟩) n cp := by
  obtain ⟨n, g, cp, us, h1, _⟩ := h
  exact ⟨g, _, cp, h1⟩

set_option maxHeartbeats 4000000 in
theorem group_of {p : ByteArray} {m : Nat} (H : AltC p m) (hp : p.size ≤ 200) (base g q o : Nat) (w : World) (hm : p.size - (q + 1) ≤ m) (hq : (sb p)[q]? = some 40) (ho : o ≤ 20) (h : PrAt w base g p (q + 1) o) :
    Calls Try.prog 132 #[.pointer (some ⟨g, 0, none⟩)] w (NodePost p base g q o w (AtomOk (sb p) o q)) := by
  have HP : Hid (PrAt w base g p (q + 1) o ∧ (sb p)[q]? = some 40) := ⟨h, hq⟩
  have hgl := h.lt.2
  have hqp : q + 1 ≤ p.size := by have := lt_of_at hq; rw [sb_len] at this; omega
  have c1 := h.cell (j := 1) rfl
  have c2 := h.cell (j := 2) rfl
  have f2 := h.frozen 2
  clear h hq
  by_cases ho20 : o = 20
  · subst ho20
    go_enter Try.func132, Try.ntmps132
    go_wp2_with fail
    exact ⟨rfl, Chg.refl _ _, .inr ⟨3, q, by decide, fun a => by rw [chk_open HP.out.2, if_pos rfl], by first | rfl | simp⟩⟩
  have z20 : ¬ (o : Int) = 20 := by omega
  have HW : Hid (PrAt (w.setCell ⟨g, 2, none⟩ (.int .i64 ((o + 1 : Nat) : Int))) base g p (q + 1) (o + 1) ∧ Chg (fun k => k = g) w (w.setCell ⟨g, 2, none⟩ (.int .i64 ((o + 1 : Nat) : Int)))) := ⟨PrAt.open HP.out.1 (o + 1), Chg.of_set w g 2 _ rfl⟩
  obtain ⟨W, hW⟩ : ∃ W : World, W = w.setCell ⟨g, 2, none⟩ (.int .i64 ((o + 1 : Nat) : Int)) := ⟨_, rfl⟩
  have hzW : W.heap.size = w.heap.size := by rw [hW]; simp [World.setCell]
  rw [← hW] at HW
  have hW2 : W = w.setCell ⟨g, 2, none⟩ (.int .i64 ((o : Int) + 1)) := hW
  have HZ : Hid (W.heap.size = w.heap.size) := hzW
  clear hW hzW
  go_enter Try.func132, Try.ntmps132
  go_upto_region 4 with fail
  rw [← hW2]
  clear hW2 c1 c2 f2
  go_wp2_with fail
  refine (H base g (q + 1) (o + 1) W hm hqp (by omega) HW.out.1).mono ?_
  rintro e w2 ⟨hC2, (⟨k, os, u, hA, hN, rfl, hU, hP2⟩ | ⟨c, k, hc0, hk, rfl⟩)⟩
  case inr =>
    refine ⟨rfl, HW.out.2.trans hC2, .inr ⟨c, k, hc0, fun a => ?_, rfl⟩⟩
    rw [chk_open HP.out.2, if_neg ho20, hk]
  obtain ⟨gu, nu, cu, rfl⟩ := hU.slice
  have hkp : k ≤ p.size := by have := hA.le; rw [sb_len] at this; exact this
  have HA : Hid (AltOk (sb p) (o + 1) (q + 1) k os ∧ (∀ c, (sb p)[k]? = some c → isEnd c ∧ ¬ c = 124)) := ⟨hA, hN⟩
  have HW2 : Hid (AltAt w2 (Bet w.heap.size w2.heap.size) os (.slice (some ⟨gu, 0, none⟩) nu cu) ∧ PrAt w2 base g p k (o + 1) ∧ Chg (fun k => k = g) w w2) := ⟨by rw [← HZ.out]; exact hU, hP2, HW.out.2.trans hC2⟩
  clear hC2 hA hN hU hP2 HW
  obtain ⟨W3, hW3⟩ : ∃ W3 : World, W3 = w2.alloc (Obj.cells #[.slice (some ⟨gu, 0, none⟩) nu cu] 160) := ⟨_, rfl⟩
  have hs2 := HW2.out.2.2.size
  have HW3 : Hid (AltAt W3 (Bet w.heap.size w2.heap.size) os (.slice (some ⟨gu, 0, none⟩) nu cu) ∧ PrAt W3 base g p k (o + 1) ∧ Chg (fun k => k = g) w W3 ∧ BoxAt W3 w.heap.size 160 1 w2.heap.size [.slice (some ⟨gu, 0, none⟩) nu cu]) := by
    have hb : Below w2.heap.size w2 W3 := by rw [hW3]; exact (Below.refl _ _).alloc (Nat.le_refl _) _
    refine ⟨HW2.out.1.move (S := fun _ => False) (Chg.of_below hb) (fun k q => q.elim) (fun k _ q => q), BoxAt.below HW2.out.2.1 hb, HW2.out.2.2.trans (Chg.of_below hb), ?_⟩
    rw [hW3]; exact boxAt_new w2 _ hs2 rfl
  clear HW2
  go_upto_region 5 with fail
  rw [← hW3]
  obtain ⟨IB, hIB⟩ : ∃ IB, IB = w2.heap.size := ⟨_, rfl⟩
  rw [← hIB] at HW3
  rw [← hIB]
  have hib : w.heap.size ≤ IB := by omega
  clear hW3 hIB hs2
  go_wp2_with fail
  refine (pskip_core 41 HW3.out.2.1 hp).mono ?_
  rintro e w4 ⟨hC4, (⟨hx, rfl, hP4⟩ | ⟨hx, rfl, hP4⟩)⟩
  case inr =>
    have HF : Hid (PrAt w4 base g p k (o + 1) ∧ Chg (fun k => k = g) w w4 ∧ ¬ (sb p)[k]? = some 41) := ⟨hP4, HW3.out.2.2.1.trans hC4, hx⟩
    clear hC4 hx hP4
    go_wp2_with fail
    refine (pdem_no HF.out.1).mono ?_
    rintro e w5 ⟨rfl, rfl⟩
    refine ⟨rfl, HF.out.2.1, .inr ⟨2, k, by decide, fun a => ?_, rfl⟩⟩
    rw [chk_open HP.out.2, if_neg ho20, HA.out.1.chk]
    by_cases hk : k < (sb p).length
    · obtain ⟨c, hc⟩ : ∃ c, (sb p)[k]? = some c := ⟨_, List.getElem?_eq_getElem hk⟩
      obtain ⟨h1, h2⟩ := HA.out.2 c hc
      rcases h1 with h1 | h1 | h1 | h1
      · rw [chk_op hc h1]; rfl
      · exact absurd h1 h2
      · subst h1; exact absurd hc HF.out.2.2
      · subst h1; rw [chk_rb hc]
    · rw [chk_end hk, if_pos (by omega)]
      have := HA.out.1.le
      rw [show k = (sb p).length by omega]
  have HF : Hid (AltAt w4 (Bet w.heap.size IB) os (.slice (some ⟨gu, 0, none⟩) nu cu) ∧ PrAt w4 base g p (k + 1) (o + 1) ∧ Chg (fun k => k = g) w w4 ∧ BoxAt w4 w.heap.size 160 1 IB [.slice (some ⟨gu, 0, none⟩) nu cu] ∧ (sb p)[k]? = some 41) :=
    ⟨HW3.out.1.move hC4 (fun k q => by subst q; exact fun z => by have := z.1; omega) (fun k _ q => q), hP4, HW3.out.2.2.1.trans hC4, BoxAt.chg HW3.out.2.2.2 hC4 (by omega), hx⟩
  clear hC4 hx hP4 HW3
  go_wp2_with fail
  refine (pdem_yes _ w4).mono ?_
  rintro e w5 ⟨rfl, hw5⟩
  rw [hw5]
  clear hw5
  have d2 := HF.out.2.1.cell (j := 2) rfl
  have g2 := HF.out.2.1.frozen 2
  have HZ4 : Hid (AltAt (w4.setCell ⟨g, 2, none⟩ (.int .i64 (o : Int))) (Bet w.heap.size IB) os (.slice (some ⟨gu, 0, none⟩) nu cu) ∧ PrAt (w4.setCell ⟨g, 2, none⟩ (.int .i64 (o : Int))) base g p (k + 1) o ∧ Chg (fun k => k = g) w (w4.setCell ⟨g, 2, none⟩ (.int .i64 (o : Int))) ∧ BoxAt (w4.setCell ⟨g, 2, none⟩ (.int .i64 (o : Int))) w.heap.size 160 1 IB [.slice (some ⟨gu, 0, none⟩) nu cu]) := by
    have hc := Chg.of_set w4 g 2 (.int .i64 (o : Int)) (S := fun k => k = g) rfl
    exact ⟨HF.out.1.move hc (fun k q => by subst q; exact fun z => by have := z.1; omega) (fun k _ q => q), PrAt.open HF.out.2.1 o, HF.out.2.2.1.trans hc, BoxAt.chg HF.out.2.2.2.1 hc (by omega)⟩
  have HC : Hid (AtomOk (sb p) o q (k + 1) (.alt os)) := AtomOk.group HP.out.2 ho20 HA.out.1 HF.out.2.2.2.2
  obtain ⟨W6, hW6⟩ : ∃ W6 : World, W6 = w4.setCell ⟨g, 2, none⟩ (.int .i64 (o : Int)) := ⟨_, rfl⟩
  rw [← hW6] at HZ4
  clear HF HA
  go_upto_region 7 with fail
  rw [← hW6]
  clear hW6 d2 g2
  have b0 := HZ4.out.2.2.2.cell (j := 0) rfl
  go_wp2_with fail
  go_ret
  exact ⟨HZ4.out.2.2.1, .inl ⟨k + 1, .alt os, _, HC.out, rfl, nodeOk_alt (HZ4.out.1.move (S := fun _ => False) (Chg.refl _ _) (fun k q => q.elim) (fun k hk q => ⟨q.1, hk⟩)), HZ4.out.2.1⟩⟩

theorem not_eq_u8 {x c : UInt8} (h : ¬ x = c) : ¬ (x.toNat : Int) = (c.toNat : Int) := fun q => h (UInt8.toNat_inj.1 (by omega))
set_option maxHeartbeats 4000000 in
theorem atom_of {p : ByteArray} {m : Nat} (H : AltC p m) (hp : p.size ≤ 200) : AtomC p (m + 1) := by
  intro base g i o w hm hi ho he h
  obtain ⟨x, hx⟩ : ∃ x, (sb p)[i]? = some x := ⟨_, List.getElem?_eq_getElem (by rw [sb_len]; exact hi)⟩
  have HX : Hid ((sb p)[i]? = some x ∧ ¬ isEnd x) := ⟨hx, he x hx⟩
  have HP : Hid (PrAt w base g p i o) := h
  have hgl := h.lt.2
  clear h he hx
  go_enter Try.func128, Try.ntmps128
  go_wp2_with fail
  refine (ptake_yes HP.out hp HX.out.1).mono ?_
  rintro e w1 ⟨rfl, hP1, hC1⟩
  have HW1 : Hid (PrAt w1 base g p (i + 1) o ∧ Chg (fun k => k = g) w w1) := ⟨hP1, hC1⟩
  have hs1 := hC1.size
  clear hP1 hC1 HP
  by_cases h46 : x = 46
  · subst h46
    go_upto_region 5 with fail
    apply wp_region_list
    refine wpList_build_cells rfl _ _ rfl (setA (fun _ => false)) (by simp; exact built_set) ?_
    simp only [Act.put, Act.eval, List.setIfInBounds_toArray, List.set_cons_succ, List.set_cons_zero]
    refine wpList_call_of rfl 131 #[.agg (setA (fun _ => false))] (by simp [execOp, go_sem, Act.eval, Try.func131]) ?_
    refine (opposite_core (fun _ => false) w1).mono ?_
    rintro e w2 ⟨rfl, hb2⟩
    simp only [Act.put, Act.eval, List.setIfInBounds_toArray, List.set_cons_succ, List.set_cons_zero]
    refine wpList_build_cells rfl _ _ rfl (setA (fun _ => true)) (by simp [Act.eval]; exact built_cls _ (setA_size _)) ?_
    simp only [Act.put, Act.eval, List.setIfInBounds_toArray, List.set_cons_succ, List.set_cons_zero]
    go_wp2_with fail
    go_ret
    exact ⟨HW1.out.2.trans (Chg.of_below hb2), .inl ⟨i + 1, _, _, AtomOk.dot HX.out.1, rfl, nodeOk_cls _ _ _, BoxAt.below HW1.out.1 hb2⟩⟩
  have z46 : ¬ (x.toNat : Int) = 46 := not_eq_u8 (c := 46) h46
  by_cases h92 : x = 92
  · subst h92
    go_wp2_with fail
    refine (ptake_core HW1.out.1 hp (by omega)).mono ?_
    rintro e w2 ⟨hC2, (⟨y, hy, rfl, hP2⟩ | ⟨hy, rfl⟩)⟩
    case inr =>
      refine ⟨rfl, HW1.out.2.trans hC2, .inr ⟨2, i + 1, by decide, fun a => ?_, rfl⟩⟩
      have h1 := lt_of_at HX.out.1
      have h2 : ¬ i + 1 < (sb p).length := fun q => by rw [List.getElem?_eq_getElem q] at hy; cases hy
      rw [chk_esc HX.out.1, if_pos (by omega)]
      rw [show i + 1 = (sb p).length by omega]
    have HF : Hid (PrAt w2 base g p (i + 1 + 1) o ∧ Chg (fun k => k = g) w w2 ∧ (sb p)[i + 1]? = some y) := ⟨hP2, HW1.out.2.trans hC2, hy⟩
    clear hC2 hy hP2
    go_wp2_with fail
    go_ret
    exact ⟨HF.out.2.1, .inl ⟨i + 1 + 1, _, _, AtomOk.esc HX.out.1 HF.out.2.2, rfl, nodeOk_byte _ _ _, HF.out.1⟩⟩
  have z92 : ¬ (x.toNat : Int) = 92 := not_eq_u8 (c := 92) h92
  by_cases h40 : x = 40
  · subst h40
    go_wp2_with fail
    refine (group_of H hp base g i o w1 (by omega) HX.out.1 ho HW1.out.1).mono ?_
    rintro e w2 ⟨hC2, (⟨k, t, v, hR, rfl, hN, hP2⟩ | ⟨c, k, hc0, hk, rfl⟩)⟩
    case inr => exact ⟨rfl, HW1.out.2.trans hC2, .inr ⟨c, k, hc0, hk, rfl⟩⟩
    have HF : Hid (AtomOk (sb p) o i k t ∧ NodeOk w2 (Bet w.heap.size w2.heap.size) t v ∧ PrAt w2 base g p k o ∧ Chg (fun k => k = g) w w2) := ⟨hR, hN.move (S := fun _ => False) (Chg.refl _ _) (fun k q => q.elim) (fun k hk q => ⟨by have := q.1; omega, hk⟩), hP2, HW1.out.2.trans hC2⟩
    obtain ⟨T, c, rfl⟩ := hN.iface
    clear hC2 hR hN hP2
    go_wp2_with fail
    go_ret
    exact ⟨HF.out.2.2.2, .inl ⟨k, t, _, HF.out.1, rfl, HF.out.2.1, HF.out.2.2.1⟩⟩
  have z40 : ¬ (x.toNat : Int) = 40 := not_eq_u8 (c := 40) h40
  by_cases h91 : x = 91
  · subst h91
    go_wp2_with fail
    refine (class_core HW1.out.1 hp (by omega)).mono ?_
    rintro e w2 ⟨hC2, (⟨f, k, hk, rfl, hP2⟩ | ⟨c, k, hk, rfl⟩)⟩
    case inr => exact ⟨rfl, HW1.out.2.trans hC2, .inr ⟨c, k, classM_err hk, fun a => by rw [chk_class HX.out.1, hk], rfl⟩⟩
    have HF : Hid (PrAt w2 base g p k o ∧ Chg (fun k => k = g) w w2 ∧ classM (sb p) (i + 1) = .inl (f, k)) := ⟨hP2, HW1.out.2.trans hC2, hk⟩
    clear hC2 hk hP2
    go_wp2_with fail
    go_ret
    exact ⟨HF.out.2.1, .inl ⟨k, _, _, AtomOk.class HX.out.1 HF.out.2.2, rfl, nodeOk_cls _ _ _, HF.out.1⟩⟩
  have z91 : ¬ (x.toNat : Int) = 91 := not_eq_u8 (c := 91) h91
  have HS : Hid (¬ special x) := fun q => by
    rcases q with q | q | q | q | q
    · exact HX.out.2 q
    · exact h40 q
    · exact h91 q
    · exact h46 q
    · exact h92 q
  go_wp2_with fail
  go_ret
  exact ⟨HW1.out.2, .inl ⟨i + 1, _, _, AtomOk.plain HX.out.1 HS.out, rfl, nodeOk_byte _ _ _, HW1.out.1⟩⟩
end Go.Proofs.Ytnncedndlhfdkab

