/-
  spec.l5Ends; spec.l5Args: ranges, and every leaf.
-/
import Derived.Test.YtgnpcenpcmdlfaaGreatDoorRPqH
namespace Go.Proofs.YtgnpcenpcmdlfaaGreatDoor
open Go.ChangeShapes Go.WideShapes Go.ChangeAt Go.RowKit Go.Deep
set_option linter.unusedVariables false
set_option linter.unusedSimpArgs false
set_option maxRecDepth 100000

theorem l5Ends_yes (kd : Int) (a b : ByteArray) (hh : Bool) (x y z : Int) (w : World) (h : kd = 8 ∨ kd = 9) : Calls Tryz.prog 86 #[.agg #[.int .i64 kd, .string a, .bool hh, .string b, .int .u64 x, .int .u64 y, .int .i64 z]] w fun e w' => e = .returned (.bool true) ∧ Below w.heap.size w w' := by
  rcases h with rfl | rfl
  · go_enter Tryz.func86, Tryz.ntmps86
    go_wp2_with fail
    go_ret
    exact ⟨rfl, (Below.refl _ _).alloc (Nat.le_refl _) _⟩
  · go_enter Tryz.func86, Tryz.ntmps86
    go_wp2_with fail
    go_ret
    exact ⟨rfl, (Below.refl _ _).alloc (Nat.le_refl _) _⟩
theorem l5Ends_no (kd : Int) (a b : ByteArray) (hh : Bool) (x y z : Int) (w : World) (h : kd = 10) : Calls Tryz.prog 86 #[.agg #[.int .i64 kd, .string a, .bool hh, .string b, .int .u64 x, .int .u64 y, .int .i64 z]] w fun e w' => e = .returned (.bool false) ∧ Below w.heap.size w w' := by
  subst h
  go_enter Tryz.func86, Tryz.ntmps86
  go_wp2_with fail
  go_ret
  exact ⟨rfl, (Below.refl _ _).alloc (Nat.le_refl _) _⟩
theorem sort_tk (k : TkK) (strs : Bool) : (tkN k == (if strs = true then 3 else 2)) = k.isSort strs := by cases k <;> cases strs <;> rfl
theorem sort_txt {k : TkK} {strs : Bool} (h : k.isSort strs = true) : tkT k = k.txt ∧ ¬ k = .fin ∧ ¬ k = .bad ∧ (strs = true → k.nm = 0) ∧ (strs = false → k.txt = noS) := by
  cases k <;> cases strs <;> first
    | (cases h; done)
    | exact ⟨rfl, (fun q => by cases q), (fun q => by cases q), (fun q => by first | rfl | cases q), (fun q => by first | rfl | cases q)⟩
theorem less_no : ¬ less noS noS := by
  unfold less noS
  rw [ByteArray.toList_eq]
  simp [Op.bytesLess]
set_option maxHeartbeats 16000000 in
theorem args_rs {w : World} {base g cp N nd pa : Nat} {ks : List Tk} {i : Nat} {k : Tk} (h : OwnTk w base g cp ks) (hN : N = ks.length) (hl : N ≤ 1000000) (hk : ks[i]? = some k) (hT : Toks ks) (kd : Int) (hkd : kd = 8 ∨ kd = 9) : Calls Tryz.prog 49 #[parV g N cp i nd 0 pa, .int .i64 kd] w (ArgP base g cp N nd pa ks kd i w) := by
  have HAr : Hid (argsM kd (ks.drop i) = rangeM kd true (ks.drop i)) := by
    show _ = _
    unfold argsM
    rw [if_neg (by omega), if_neg (by omega), if_pos (by omega)]
  have y1 : ¬ kd ≤ 3 := by omega
  have y2 : ¬ kd ≤ 7 := by omega
  have y3 : ¬ 11 ≤ kd := by omega
  have HKd : Hid (kd = 8 ∨ kd = 9) := hkd
  clear hkd
  obtain ⟨W0, hW0⟩ : ∃ W0 : World, W0 = (((w.alloc (Obj.cells #[.slice (some ⟨g, 0, none⟩) N cp, .int .i64 (i : Int), .int .i64 (nd : Int), .int .i64 0, .int .i64 (pa : Int)] 41)).alloc (Obj.cells #[.slice none 0 0, .int .i64 0, .int .i64 0, .int .i64 0, .int .i64 0] 41)).alloc (Obj.cells #[.int .i64 0, .string ⟨#[]⟩, .bool false, .string ⟨#[]⟩, .int .u64 0, .int .u64 0, .int .i64 0] 65)).alloc (Obj.cells #[.int .i64 kd, .string ⟨#[]⟩, .bool false, .string ⟨#[]⟩, .int .u64 0, .int .u64 0, .int .i64 0] 65) := ⟨_, rfl⟩
  have HJ0 : Hid (AgJ w base g cp N nd pa ks i (leafN kd) W0) := ag_start kd h hW0
  have hi : i < N := by rw [hN]; exact (List.getElem?_eq_some_iff.1 hk).1
  have zi : (i : Int) < (N : Int) := by omega
  have H0 : Hid (N = ks.length ∧ ks[i]? = some k ∧ hdK (ks.drop i) = k.k ∧ hdA (ks.drop i) = k.pos ∧ (ks.drop i).tail = ks.drop (i + 1) ∧ Toks ks) := ⟨hN, hk, (drop_hd hk).1, (drop_hd hk).2.1, (drop_hd hk).2.2, hT⟩
  have hgl := h.lt.2
  clear h hN hk hT
  go_enter Tryz.func49, Tryz.ntmps49
  go_upto_region 2 with fail
  rw [← hW0]
  clear hW0
  have b0 := HJ0.out.n.cell (j := 0) rfl
  have b1 := HJ0.out.n.cell (j := 1) rfl
  have b2 := HJ0.out.n.cell (j := 2) rfl
  have b3 := HJ0.out.n.cell (j := 3) rfl
  have b4 := HJ0.out.n.cell (j := 4) rfl
  have b5 := HJ0.out.n.cell (j := 5) rfl
  have b6 := HJ0.out.n.cell (j := 6) rfl
  simp only [leafN, noS] at b0 b1 b2 b3 b4 b5 b6
  go_wp2_with fail
  refine (l5Ends_yes kd ⟨#[]⟩ ⟨#[]⟩ false 0 0 0 W0 HKd.out).mono ?_
  rintro e v0 ⟨rfl, hb0⟩
  have HV0 : Hid (AgJ w base g cp N nd pa ks i (leafN kd) v0) := HJ0.out.up hb0
  clear hb0 b0 b1 b2 b3 b4 b5 b6
  go_upto_region 24 with fail
  clear y1 y2 y3
  obtain ⟨t0, t1, t2, t3⟩ := tk_cells HV0.out.tk H0.out.2.1
  have zs := sort_tk k.k true
  have zs' : (tkN k.k == 3) = k.k.isSort true := zs
  clear zs t3
  have a0 := HV0.out.p.cell (j := 0) rfl
  have a1 := HV0.out.p.cell (j := 1) rfl
  cases hso : k.k.isSort true
  case false =>
    rw [hso] at zs'
    obtain ⟨a, ha⟩ : ∃ a : TkK, a = .fin := ⟨_, rfl⟩
    have HA : Hid (argsM kd (ks.drop i) = dotsM kd true a (ks.drop i)) := by
      show _ = _
      rw [HAr.out]
      unfold rangeM
      rw [H0.out.2.2.1, if_neg (by rw [hso]; simp), ha]
    have HV1 : Hid (AgJ w base g cp N nd pa ks i (⟨kd, a.txt, false, noS, a.nm, 0, 0⟩ : Nd) v0) := by rw [ha]; exact HV0.out
    have Hz : Hid (a.nm = 0) := by rw [ha]; rfl
    have Hk : Hid (ks[i]? = some k) := H0.out.2.1
    clear hso ha t1 t2
    go_upto_region 28 with fail
    clear t0 zs' a0 a1
    have HIs : Hid (Calls Tryz.prog 48 #[parV g N cp i nd 0 pa, .string ⟨#[46, 46]⟩] v0 fun e w' => e = .returned (.bool (k.k.isSign 46)) ∧ Below v0.heap.size v0 w') := l5IsSym_core HV1.out.tk H0.out.1 hl Hk.out (toks_kind H0.out.2.2.2.2.2 Hk.out) nd 0 pa 46 ⟨#[46, 46]⟩ (by rw [ByteArray.toList_eq]; rfl)
    have a0 := HV1.out.p.cell (j := 0) rfl
    have a1 := HV1.out.p.cell (j := 1) rfl
    have a2 := HV1.out.p.cell (j := 2) rfl
    have a3 := HV1.out.p.cell (j := 3) rfl
    have a4 := HV1.out.p.cell (j := 4) rfl
    go_wp2_with fail
    refine HIs.out.mono ?_
    clear HIs
    rintro e v1 ⟨rfl, hb1⟩
    have HV : Hid (AgJ w base g cp N nd pa ks i (⟨kd, a.txt, false, noS, a.nm, 0, 0⟩ : Nd) v1) := HV1.out.up hb1
    clear hb1 a0 a1 a2 a3 a4
    cases hsg : k.k.isSign 46
    case false =>
      have HA2 : Hid (argsM kd (ks.drop i) = failF 3 (ks.drop i)) := by
        show _ = _
        rw [HA.out]
        unfold dotsM
        rw [(drop_hd Hk.out).1, if_neg (by rw [hsg]; simp)]
      clear hsg
      obtain ⟨cc, hcc⟩ : ∃ cc : Int, cc = if k.k.isBad = true then 2 else 3 := ⟨_, rfl⟩
      have HFl : Hid (∀ wx, Below v1.heap.size v1 wx → Calls Tryz.prog 46 #[parV g N cp (i) nd 0 pa, .int .i64 3] wx fun e w' => e = .returned (parV g N cp (i) nd cc k.pos) ∧ Below wx.heap.size wx w') := fun wx hx => by
        rw [hcc]
        exact l5Fail_core (HV.out.tk.below hx) H0.out.1 hl Hk.out nd 0 pa 3
      have HAE : Hid (argsM kd (ks.drop i) = .error (cc, k.pos) ∧ 1 ≤ cc) := ⟨by
        rw [HA2.out, hcc]
        unfold failF
        rw [(drop_hd Hk.out).1, (drop_hd Hk.out).2.1], by rw [hcc]; split <;> decide⟩
      clear hcc
      go_upto_region 29 with fail
      have hS0 : (fun w' : World => w'.cell? ⟨w.heap.size, 0, none⟩ = some (.slice (some ⟨g, 0, none⟩) N cp) ∧ w'.cell? ⟨w.heap.size, 1, none⟩ = some (.int .i64 ((i : Nat) : Int)) ∧ w'.cell? ⟨w.heap.size, 2, none⟩ = some (.int .i64 (nd : Int)) ∧ w'.cell? ⟨w.heap.size, 3, none⟩ = some (.int .i64 0) ∧ w'.cell? ⟨w.heap.size, 4, none⟩ = some (.int .i64 (pa : Int)) ∧ w'.cell? ⟨w.heap.size + 3, 0, none⟩ = some (.int .i64 kd) ∧ w'.cell? ⟨w.heap.size + 3, 1, none⟩ = some (.string a.txt) ∧ w'.cell? ⟨w.heap.size + 3, 2, none⟩ = some (.bool false) ∧ w'.cell? ⟨w.heap.size + 3, 3, none⟩ = some (.string ⟨#[]⟩) ∧ w'.cell? ⟨w.heap.size + 3, 4, none⟩ = some (.int .u64 a.nm) ∧ w'.cell? ⟨w.heap.size + 3, 5, none⟩ = some (.int .u64 0) ∧ w'.cell? ⟨w.heap.size + 3, 6, none⟩ = some (.int .i64 0)) v1.drew := ⟨HV.out.p.cell (j := 0) rfl, HV.out.p.cell (j := 1) rfl, HV.out.p.cell (j := 2) rfl, HV.out.p.cell (j := 3) rfl, HV.out.p.cell (j := 4) rfl, HV.out.n.cell (j := 0) rfl, HV.out.n.cell (j := 1) rfl, HV.out.n.cell (j := 2) rfl, HV.out.n.cell (j := 3) rfl, HV.out.n.cell (j := 4) rfl, HV.out.n.cell (j := 5) rfl, HV.out.n.cell (j := 6) rfl⟩
      refine wp_region_T 99 (fun w' : World => w'.cell? ⟨w.heap.size, 0, none⟩ = some (.slice (some ⟨g, 0, none⟩) N cp) ∧ w'.cell? ⟨w.heap.size, 1, none⟩ = some (.int .i64 ((i : Nat) : Int)) ∧ w'.cell? ⟨w.heap.size, 2, none⟩ = some (.int .i64 (nd : Int)) ∧ w'.cell? ⟨w.heap.size, 3, none⟩ = some (.int .i64 0) ∧ w'.cell? ⟨w.heap.size, 4, none⟩ = some (.int .i64 (pa : Int)) ∧ w'.cell? ⟨w.heap.size + 3, 0, none⟩ = some (.int .i64 kd) ∧ w'.cell? ⟨w.heap.size + 3, 1, none⟩ = some (.string a.txt) ∧ w'.cell? ⟨w.heap.size + 3, 2, none⟩ = some (.bool false) ∧ w'.cell? ⟨w.heap.size + 3, 3, none⟩ = some (.string ⟨#[]⟩) ∧ w'.cell? ⟨w.heap.size + 3, 4, none⟩ = some (.int .u64 a.nm) ∧ w'.cell? ⟨w.heap.size + 3, 5, none⟩ = some (.int .u64 0) ∧ w'.cell? ⟨w.heap.size + 3, 6, none⟩ = some (.int .i64 0)) (by kernel_rfl) ?_
      refine anyT_takeN (i := 0) (v := ?vrsaf0) rfl (by kernel_rfl) (by kernel_rfl) (by kernel_rfl) (by rfl) (fun _ _ _ h => h) (Or.inl ⟨by rfl, ?yrsaf0⟩) hS0 ?_
      case yrsaf0 => (intro wz hSw; obtain ⟨hz0, hz1, hz2, hz3, hz4, hz5, hz6, hz7, hz8, hz9, hz10, hz11⟩ := hSw; go_simp; (try with_reducible rfl))
      try simp only [Act.put, List.getElem_toArray, List.getElem_cons_zero, List.getElem_cons_succ, List.setIfInBounds_toArray, List.set_cons_zero, List.set_cons_succ]
      refine anyT_takeN (i := 2) (v := ?vrsaf2) rfl (by kernel_rfl) (by kernel_rfl) (by kernel_rfl) (by rfl) (fun _ _ _ h => h) (Or.inl ⟨by rfl, ?yrsaf2⟩) hS0 ?_
      case yrsaf2 => (intro wz hSw; obtain ⟨hz0, hz1, hz2, hz3, hz4, hz5, hz6, hz7, hz8, hz9, hz10, hz11⟩ := hSw; go_simp; (try with_reducible rfl))
      try simp only [Act.put, List.getElem_toArray, List.getElem_cons_zero, List.getElem_cons_succ, List.setIfInBounds_toArray, List.set_cons_zero, List.set_cons_succ]
      refine anyT_one (i := 1) (by kernel_rfl) rfl (fun K hK => ?_)
      go_simp
      go_at_call 46
      refine (HFl.out v1.drew (Below.refl _ _).drew).mono ?_
      rintro e w5 ⟨rfl, hb5⟩
      have HJ5 : Hid (AgJ w base g cp N nd pa ks (i) (⟨kd, a.txt, false, noS, a.nm, 0, 0⟩ : Nd) w5) := HV.out.up (((Below.refl _ _).drew).trans (hb5.mono (Nat.le_refl _)))
      have hS5 : (fun w' : World => w'.cell? ⟨w.heap.size, 0, none⟩ = some (.slice (some ⟨g, 0, none⟩) N cp) ∧ w'.cell? ⟨w.heap.size, 1, none⟩ = some (.int .i64 ((i : Nat) : Int)) ∧ w'.cell? ⟨w.heap.size, 2, none⟩ = some (.int .i64 (nd : Int)) ∧ w'.cell? ⟨w.heap.size, 3, none⟩ = some (.int .i64 0) ∧ w'.cell? ⟨w.heap.size, 4, none⟩ = some (.int .i64 (pa : Int)) ∧ w'.cell? ⟨w.heap.size + 3, 0, none⟩ = some (.int .i64 kd) ∧ w'.cell? ⟨w.heap.size + 3, 1, none⟩ = some (.string a.txt) ∧ w'.cell? ⟨w.heap.size + 3, 2, none⟩ = some (.bool false) ∧ w'.cell? ⟨w.heap.size + 3, 3, none⟩ = some (.string ⟨#[]⟩) ∧ w'.cell? ⟨w.heap.size + 3, 4, none⟩ = some (.int .u64 a.nm) ∧ w'.cell? ⟨w.heap.size + 3, 5, none⟩ = some (.int .u64 0) ∧ w'.cell? ⟨w.heap.size + 3, 6, none⟩ = some (.int .i64 0)) w5 := ⟨HJ5.out.p.cell (j := 0) rfl, HJ5.out.p.cell (j := 1) rfl, HJ5.out.p.cell (j := 2) rfl, HJ5.out.p.cell (j := 3) rfl, HJ5.out.p.cell (j := 4) rfl, HJ5.out.n.cell (j := 0) rfl, HJ5.out.n.cell (j := 1) rfl, HJ5.out.n.cell (j := 2) rfl, HJ5.out.n.cell (j := 3) rfl, HJ5.out.n.cell (j := 4) rfl, HJ5.out.n.cell (j := 5) rfl, HJ5.out.n.cell (j := 6) rfl⟩
      refine hK.out _ _ (.inr hS5) ?_
      clear hK hb5 HFl
      try simp only [Act.put, List.getElem_toArray, List.getElem_cons_zero, List.getElem_cons_succ, List.setIfInBounds_toArray, List.set_cons_zero, List.set_cons_succ]
      have c0 := HJ5.out.rp.cell (j := 0) rfl
      have c1 := HJ5.out.rp.cell (j := 1) rfl
      have c2 := HJ5.out.rp.cell (j := 2) rfl
      have c3 := HJ5.out.rp.cell (j := 3) rfl
      have c4 := HJ5.out.rp.cell (j := 4) rfl
      have e0 := HJ5.out.rp.frozen 0
      have e1 := HJ5.out.rp.frozen 1
      have e2 := HJ5.out.rp.frozen 2
      have e3 := HJ5.out.rp.frozen 3
      have e4 := HJ5.out.rp.frozen 4
      obtain ⟨W6, hW6⟩ : ∃ V : World, V = setP w5 (w.heap.size + 1) (.slice (some ⟨g, 0, none⟩) N cp) (.int .i64 ((i : Nat) : Int)) (.int .i64 (nd : Int)) (.int .i64 cc) (.int .i64 (k.pos : Int)) := ⟨_, rfl⟩
      have hc6 : Chg (fun k => k = w.heap.size + 1) w5 W6 := by rw [hW6]; exact chg_setP _ _ _ _ _ _ _
      have hp6 := HJ5.out.p.chg hc6 (by omega)
      have hn6 := HJ5.out.n.chg hc6 (by omega)
      have hr6 := HJ5.out.rn.chg hc6 (by omega)
      have hS6 : (fun w' : World => w'.cell? ⟨w.heap.size, 0, none⟩ = some (.slice (some ⟨g, 0, none⟩) N cp) ∧ w'.cell? ⟨w.heap.size, 1, none⟩ = some (.int .i64 ((i : Nat) : Int)) ∧ w'.cell? ⟨w.heap.size, 2, none⟩ = some (.int .i64 (nd : Int)) ∧ w'.cell? ⟨w.heap.size, 3, none⟩ = some (.int .i64 0) ∧ w'.cell? ⟨w.heap.size, 4, none⟩ = some (.int .i64 (pa : Int)) ∧ w'.cell? ⟨w.heap.size + 3, 0, none⟩ = some (.int .i64 kd) ∧ w'.cell? ⟨w.heap.size + 3, 1, none⟩ = some (.string a.txt) ∧ w'.cell? ⟨w.heap.size + 3, 2, none⟩ = some (.bool false) ∧ w'.cell? ⟨w.heap.size + 3, 3, none⟩ = some (.string ⟨#[]⟩) ∧ w'.cell? ⟨w.heap.size + 3, 4, none⟩ = some (.int .u64 a.nm) ∧ w'.cell? ⟨w.heap.size + 3, 5, none⟩ = some (.int .u64 0) ∧ w'.cell? ⟨w.heap.size + 3, 6, none⟩ = some (.int .i64 0)) W6 := ⟨hp6.cell (j := 0) rfl, hp6.cell (j := 1) rfl, hp6.cell (j := 2) rfl, hp6.cell (j := 3) rfl, hp6.cell (j := 4) rfl, hn6.cell (j := 0) rfl, hn6.cell (j := 1) rfl, hn6.cell (j := 2) rfl, hn6.cell (j := 3) rfl, hn6.cell (j := 4) rfl, hn6.cell (j := 5) rfl, hn6.cell (j := 6) rfl⟩
      have d0 := hr6.cell (j := 0) rfl
      have d1 := hr6.cell (j := 1) rfl
      have d2 := hr6.cell (j := 2) rfl
      have d3 := hr6.cell (j := 3) rfl
      have d4 := hr6.cell (j := 4) rfl
      have d5 := hr6.cell (j := 5) rfl
      have d6 := hr6.cell (j := 6) rfl
      have f0 := hr6.frozen 0
      have f1 := hr6.frozen 1
      have f2 := hr6.frozen 2
      have f3 := hr6.frozen 3
      have f4 := hr6.frozen 4
      have f5 := hr6.frozen 5
      have f6 := hr6.frozen 6
      obtain ⟨W9, hW9⟩ : ∃ V : World, V = setN W6 (w.heap.size + 2) (⟨kd, a.txt, false, noS, a.nm, 0, 0⟩ : Nd) := ⟨_, rfl⟩
      have hc9 : Chg (fun k => k = w.heap.size + 2) W6 W9 := by rw [hW9]; exact chg_setN _ _ _
      have hp9 := hp6.chg hc9 (by omega)
      have hn9 := hn6.chg hc9 (by omega)
      have hS9 : (fun w' : World => w'.cell? ⟨w.heap.size, 0, none⟩ = some (.slice (some ⟨g, 0, none⟩) N cp) ∧ w'.cell? ⟨w.heap.size, 1, none⟩ = some (.int .i64 ((i : Nat) : Int)) ∧ w'.cell? ⟨w.heap.size, 2, none⟩ = some (.int .i64 (nd : Int)) ∧ w'.cell? ⟨w.heap.size, 3, none⟩ = some (.int .i64 0) ∧ w'.cell? ⟨w.heap.size, 4, none⟩ = some (.int .i64 (pa : Int)) ∧ w'.cell? ⟨w.heap.size + 3, 0, none⟩ = some (.int .i64 kd) ∧ w'.cell? ⟨w.heap.size + 3, 1, none⟩ = some (.string a.txt) ∧ w'.cell? ⟨w.heap.size + 3, 2, none⟩ = some (.bool false) ∧ w'.cell? ⟨w.heap.size + 3, 3, none⟩ = some (.string ⟨#[]⟩) ∧ w'.cell? ⟨w.heap.size + 3, 4, none⟩ = some (.int .u64 a.nm) ∧ w'.cell? ⟨w.heap.size + 3, 5, none⟩ = some (.int .u64 0) ∧ w'.cell? ⟨w.heap.size + 3, 6, none⟩ = some (.int .i64 0)) W9 := ⟨hp9.cell (j := 0) rfl, hp9.cell (j := 1) rfl, hp9.cell (j := 2) rfl, hp9.cell (j := 3) rfl, hp9.cell (j := 4) rfl, hn9.cell (j := 0) rfl, hn9.cell (j := 1) rfl, hn9.cell (j := 2) rfl, hn9.cell (j := 3) rfl, hn9.cell (j := 4) rfl, hn9.cell (j := 5) rfl, hn9.cell (j := 6) rfl⟩
      have HF : Hid (BoxAt W9 w.heap.size 41 5 (w.heap.size + 1) [.slice (some ⟨g, 0, none⟩) N cp, .int .i64 ((i : Nat) : Int), .int .i64 (nd : Int), .int .i64 cc, .int .i64 (k.pos : Int)] ∧ BoxAt W9 w.heap.size 65 7 (w.heap.size + 2) (Nd.seven (⟨kd, a.txt, false, noS, a.nm, 0, 0⟩ : Nd)) ∧ Below w.heap.size w W9) := by
        have hf := HJ5.out.fin (.slice (some ⟨g, 0, none⟩) N cp) (.int .i64 ((i : Nat) : Int)) (.int .i64 (nd : Int)) (.int .i64 cc) (.int .i64 (k.pos : Int)) (⟨kd, a.txt, false, noS, a.nm, 0, 0⟩ : Nd)
        rw [hW9, hW6]
        exact hf
      have HR : Hid (ArgP base g cp N nd pa ks kd i w (.returned (.tuple #[parV g N cp (i) nd cc k.pos, Nd.v (⟨kd, a.txt, false, noS, a.nm, 0, 0⟩ : Nd)])) W9) := ⟨HF.out.2.2, .inr ⟨cc, k.pos, i, (⟨kd, a.txt, false, noS, a.nm, 0, 0⟩ : Nd), HAE.out.1, HAE.out.2, rfl⟩⟩
      have p0 := HF.out.1.cell (j := 0) rfl
      have p1 := HF.out.1.cell (j := 1) rfl
      have p2 := HF.out.1.cell (j := 2) rfl
      have p3 := HF.out.1.cell (j := 3) rfl
      have p4 := HF.out.1.cell (j := 4) rfl
      have q0 := HF.out.2.1.cell (j := 0) rfl
      have q1 := HF.out.2.1.cell (j := 1) rfl
      have q2 := HF.out.2.1.cell (j := 2) rfl
      have q3 := HF.out.2.1.cell (j := 3) rfl
      have q4 := HF.out.2.1.cell (j := 4) rfl
      have q5 := HF.out.2.1.cell (j := 5) rfl
      have q6 := HF.out.2.1.cell (j := 6) rfl
      unfold setP at hW6
      unfold setN at hW9
      clear hp6 hn6 hr6 hp9 hn9 hc6 hc9
      simp only [leafN, patN, cntN, noS] at hW9 q0 q1 q2 q3 q4 q5 q6
      refine anyT_one (i := 3) (by kernel_rfl) rfl (fun K hK => ?_)
      go_simp
      rw [← hW6]
      refine hK.out _ _ (.inr hS6) ?_
      clear hK hW6
      try simp only [Act.put, List.getElem_toArray, List.getElem_cons_zero, List.getElem_cons_succ, List.setIfInBounds_toArray, List.set_cons_zero, List.set_cons_succ]
      refine anyT_one (i := 4) (by kernel_rfl) rfl (fun K hK => ?_)
      go_simp
      rw [← hW9]
      refine hK.out _ _ (.inr hS9) ?_
      clear hK hW9
      try simp only [Act.put, List.getElem_toArray, List.getElem_cons_zero, List.getElem_cons_succ, List.setIfInBounds_toArray, List.set_cons_zero, List.set_cons_succ]
      refine anyT_done (by kernel_rfl) ?_
      clear hS0 hS5 hS6 hS9 c0 c1 c2 c3 c4 d0 d1 d2 d3 d4 d5 d6 e0 e1 e2 e3 e4 f0 f1 f2 f3 f4 f5 f6
      go_wp2_with fail
      exact bodyPost_ret (v := .tuple #[parV g N cp (i) nd cc k.pos, Nd.v (⟨kd, a.txt, false, noS, a.nm, 0, 0⟩ : Nd)]) (by simp [results, Tryz.results49, go_sem, p0, p1, p2, p3, p4, q0, q1, q2, q3, q4, q5, q6, leafN, patN, cntN, noS]) rfl HR.out

    have Hk2 : Hid (∃ k2, ks[i + 1]? = some k2) := (toks_next H0.out.2.2.2.2.2 Hk.out (by rw [TkK.isSign_eq hsg]; intro q; cases q) (by rw [TkK.isSign_eq hsg]; intro q; cases q)).2
    have HA2 : Hid (argsM kd (ks.drop i) = upM kd true a (ks.drop (i + 1))) := by
      show _ = _
      rw [HA.out]
      unfold dotsM
      rw [(drop_hd Hk.out).1, if_pos hsg, (drop_hd Hk.out).2.2]
    clear hsg
    obtain ⟨V2, hV2⟩ : ∃ V : World, V = v1.setCell ⟨w.heap.size, 1, none⟩ (.int .i64 ((i : Int) + 1)) := ⟨_, rfl⟩
    obtain ⟨i2, hi2⟩ : ∃ ix, ix = i + 1 := ⟨_, rfl⟩
    have HJ2 : Hid (AgJ w base g cp N nd pa ks i2 (⟨kd, a.txt, false, noS, a.nm, 0, 0⟩ : Nd) V2) := by rw [hV2, hi2]; exact HV.out.stepI _ (by simp)
    have Hi2 : Hid (i2 = i + 1) := hi2
    have hilei2 : i ≤ i2 := by omega
    clear hi2
    have a1 := HV.out.p.cell (j := 1) rfl
    have ia := HV.out.p.frozen 1
    go_upto_region 31 with fail
    rw [← hV2]
    clear hV2 a1 ia
    obtain ⟨k2, hk2⟩ := Hk2.out
    rw [← Hi2.out] at hk2
    have HK2 : Hid (ks[i2]? = some k2) := hk2
    have hi2N : i2 < N := by rw [H0.out.1]; exact (List.getElem?_eq_some_iff.1 hk2).1
    have zi2 : (i2 : Int) < (N : Int) := by omega
    clear hk2 Hk2
    obtain ⟨t0, t1, t2, t3⟩ := tk_cells HJ2.out.tk HK2.out
    have zs := sort_tk k2.k true
    have zs' : (tkN k2.k == 3) = k2.k.isSort true := zs
    clear zs t3
    have a0 := HJ2.out.p.cell (j := 0) rfl
    have a1 := HJ2.out.p.cell (j := 1) rfl
    have HA3 : Hid (argsM kd (ks.drop i) = upM kd true a (ks.drop i2)) := by rw [Hi2.out]; exact HA2.out
    cases hso : k2.k.isSort true
    case false =>
      rw [hso] at zs'
      have HA4 : Hid (argsM kd (ks.drop i) = .ok (ks.drop i2, (⟨kd, a.txt, false, noS, a.nm, 0, 0⟩ : Nd))) := by
        show _ = _
        rw [HA3.out]
        unfold upM
        rw [(drop_hd HK2.out).1, if_neg (by rw [hso]; simp)]
      clear hso t1 t2
      go_upto_region 38 with fail
      clear t0 zs' a0 a1
      have a0 := HJ2.out.p.cell (j := 0) rfl
      have a1 := HJ2.out.p.cell (j := 1) rfl
      have a2 := HJ2.out.p.cell (j := 2) rfl
      have a3 := HJ2.out.p.cell (j := 3) rfl
      have a4 := HJ2.out.p.cell (j := 4) rfl
      have b0 := HJ2.out.n.cell (j := 0) rfl
      have b1 := HJ2.out.n.cell (j := 1) rfl
      have b2 := HJ2.out.n.cell (j := 2) rfl
      have b3 := HJ2.out.n.cell (j := 3) rfl
      have b4 := HJ2.out.n.cell (j := 4) rfl
      have b5 := HJ2.out.n.cell (j := 5) rfl
      have b6 := HJ2.out.n.cell (j := 6) rfl
      have c0 := HJ2.out.rp.cell (j := 0) rfl
      have c1 := HJ2.out.rp.cell (j := 1) rfl
      have c2 := HJ2.out.rp.cell (j := 2) rfl
      have c3 := HJ2.out.rp.cell (j := 3) rfl
      have c4 := HJ2.out.rp.cell (j := 4) rfl
      have d0 := HJ2.out.rn.cell (j := 0) rfl
      have d1 := HJ2.out.rn.cell (j := 1) rfl
      have d2 := HJ2.out.rn.cell (j := 2) rfl
      have d3 := HJ2.out.rn.cell (j := 3) rfl
      have d4 := HJ2.out.rn.cell (j := 4) rfl
      have d5 := HJ2.out.rn.cell (j := 5) rfl
      have d6 := HJ2.out.rn.cell (j := 6) rfl
      have e0 := HJ2.out.rp.frozen 0
      have e1 := HJ2.out.rp.frozen 1
      have e2 := HJ2.out.rp.frozen 2
      have e3 := HJ2.out.rp.frozen 3
      have e4 := HJ2.out.rp.frozen 4
      have f0 := HJ2.out.rn.frozen 0
      have f1 := HJ2.out.rn.frozen 1
      have f2 := HJ2.out.rn.frozen 2
      have f3 := HJ2.out.rn.frozen 3
      have f4 := HJ2.out.rn.frozen 4
      have f5 := HJ2.out.rn.frozen 5
      have f6 := HJ2.out.rn.frozen 6
      obtain ⟨W9, hW9⟩ : ∃ V : World, V = (setN (setP V2 (w.heap.size + 1) (.slice (some ⟨g, 0, none⟩) N cp) (.int .i64 (i2 : Int)) (.int .i64 (nd : Int)) (.int .i64 0) (.int .i64 (pa : Int))) (w.heap.size + 2) (⟨kd, a.txt, false, noS, a.nm, 0, 0⟩ : Nd)).drew := ⟨_, rfl⟩
      have HF : Hid (BoxAt W9 w.heap.size 41 5 (w.heap.size + 1) [.slice (some ⟨g, 0, none⟩) N cp, .int .i64 (i2 : Int), .int .i64 (nd : Int), .int .i64 0, .int .i64 (pa : Int)] ∧ BoxAt W9 w.heap.size 65 7 (w.heap.size + 2) (Nd.seven (⟨kd, a.txt, false, noS, a.nm, 0, 0⟩ : Nd)) ∧ Below w.heap.size w W9) := by
        have hf := HJ2.out.fin (.slice (some ⟨g, 0, none⟩) N cp) (.int .i64 (i2 : Int)) (.int .i64 (nd : Int)) (.int .i64 0) (.int .i64 (pa : Int)) (⟨kd, a.txt, false, noS, a.nm, 0, 0⟩ : Nd)
        have hd : ∀ X : World, Below X.heap.size X X.drew := fun X => (Below.refl _ _).drew
        rw [hW9]
        exact ⟨hf.1.below (hd _), hf.2.1.below (hd _), hf.2.2.trans ((hd _).mono hf.2.2.size)⟩
      have HR : Hid (ArgP base g cp N nd pa ks kd i w (.returned (.tuple #[parV g N cp (i2) nd 0 pa, Nd.v (⟨kd, a.txt, false, noS, a.nm, 0, 0⟩ : Nd)])) W9) := ⟨HF.out.2.2, .inl ⟨i2, (⟨kd, a.txt, false, noS, a.nm, 0, 0⟩ : Nd), HA4.out, by omega, by omega, rfl⟩⟩
      have p0 := HF.out.1.cell (j := 0) rfl
      have p1 := HF.out.1.cell (j := 1) rfl
      have p2 := HF.out.1.cell (j := 2) rfl
      have p3 := HF.out.1.cell (j := 3) rfl
      have p4 := HF.out.1.cell (j := 4) rfl
      have q0 := HF.out.2.1.cell (j := 0) rfl
      have q1 := HF.out.2.1.cell (j := 1) rfl
      have q2 := HF.out.2.1.cell (j := 2) rfl
      have q3 := HF.out.2.1.cell (j := 3) rfl
      have q4 := HF.out.2.1.cell (j := 4) rfl
      have q5 := HF.out.2.1.cell (j := 5) rfl
      have q6 := HF.out.2.1.cell (j := 6) rfl
      unfold setN setP at hW9
      simp only [leafN, patN, cntN, noS] at hW9 b0 b1 b2 b3 b4 b5 b6 q0 q1 q2 q3 q4 q5 q6
      go_region
      rw [← hW9]
      clear hW9 a0 a1 a2 a3 a4 b0 b1 b2 b3 b4 b5 b6 c0 c1 c2 c3 c4 d0 d1 d2 d3 d4 d5 d6 e0 e1 e2 e3 e4 f0 f1 f2 f3 f4 f5 f6
      go_wp2_with fail
      exact bodyPost_ret (v := .tuple #[parV g N cp (i2) nd 0 pa, Nd.v (⟨kd, a.txt, false, noS, a.nm, 0, 0⟩ : Nd)]) (by simp [results, Tryz.results49, go_sem, p0, p1, p2, p3, p4, q0, q1, q2, q3, q4, q5, q6, leafN, patN, cntN, noS]) rfl HR.out

    obtain ⟨htx, hnf, hnb, hz1, hz2⟩ := sort_txt hso
    have Hk3 : Hid (∃ k3, ks[i2 + 1]? = some k3) := (toks_next H0.out.2.2.2.2.2 HK2.out hnf hnb).2
    have HA4 : Hid (argsM kd (ks.drop i) = if less a.txt k2.k.txt ∨ a.nm < k2.k.nm then .ok (ks.drop (i2 + 1), (⟨kd, a.txt, true, k2.k.txt, a.nm, k2.k.nm, 0⟩ : Nd)) else failF 7 (ks.drop i2)) := by
      show _ = _
      rw [HA3.out]
      unfold upM
      rw [(drop_hd HK2.out).1, if_pos hso, (drop_hd HK2.out).2.2]
    have HTx : Hid (tkT k2.k = k2.k.txt) := htx
    have HZ : Hid (a.nm = 0 ∧ k2.k.nm = 0) := ⟨Hz.out, hz1 rfl⟩
    rw [htx] at t2
    rw [hso] at zs'
    clear htx hnf hnb hz1 hz2 hso
    have hi3N : i2 + 1 < N := by
      obtain ⟨k3, hk3⟩ := Hk3.out
      rw [H0.out.1]; exact (List.getElem?_eq_some_iff.1 hk3).1
    obtain ⟨V3, hV3⟩ : ∃ V : World, V = V2.setCell ⟨w.heap.size + 3, 2, none⟩ (.bool true) := ⟨_, rfl⟩
    have HJ3 : Hid (AgJ w base g cp N nd pa ks i2 (⟨kd, a.txt, true, noS, a.nm, 0, 0⟩ : Nd) V3) := by rw [hV3]; exact HJ2.out.stepN 2 _ rfl
    have n2 := HJ2.out.n.cell (j := 2) rfl
    have m2 := HJ2.out.n.frozen 2
    go_upto_region 33 with fail
    rw [← hV3]
    clear hV3 n2 m2 a0 a1 t0 t1 t2 zs'
    obtain ⟨t0, t1, t2, t3⟩ := tk_cells HJ3.out.tk HK2.out
    have zs : tkT k2.k = k2.k.txt := HTx.out
    rw [zs] at t2
    clear zs
    have a0 := HJ3.out.p.cell (j := 0) rfl
    have a1 := HJ3.out.p.cell (j := 1) rfl
    obtain ⟨V4, hV4⟩ : ∃ V : World, V = V3.setCell ⟨w.heap.size + 3, 3, none⟩ (.string k2.k.txt) := ⟨_, rfl⟩
    have HJ4 : Hid (AgJ w base g cp N nd pa ks i2 (⟨kd, a.txt, true, k2.k.txt, a.nm, 0, 0⟩ : Nd) V4) := by rw [hV4]; exact HJ3.out.stepN 3 _ rfl
    have n3 := HJ3.out.n.cell (j := 3) rfl
    have m3 := HJ3.out.n.frozen 3
    go_upto_region 34 with fail
    rw [← hV4]
    clear hV4 n3 m3 a0 a1 t0 t1 t2 t3
    obtain ⟨t0, t1, t2, t3⟩ := tk_cells HJ4.out.tk HK2.out
    have a0 := HJ4.out.p.cell (j := 0) rfl
    have a1 := HJ4.out.p.cell (j := 1) rfl
    obtain ⟨V5, hV5⟩ : ∃ V : World, V = V4.setCell ⟨w.heap.size + 3, 5, none⟩ (.int .u64 k2.k.nm) := ⟨_, rfl⟩
    have HJ5x : Hid (AgJ w base g cp N nd pa ks i2 (⟨kd, a.txt, true, k2.k.txt, a.nm, k2.k.nm, 0⟩ : Nd) V5) := by rw [hV5]; exact HJ4.out.stepN 5 _ rfl
    have n5 := HJ4.out.n.cell (j := 5) rfl
    have m5 := HJ4.out.n.frozen 5
    go_upto_region 35 with fail
    rw [← hV5]
    clear hV5 n5 m5 a0 a1 t0 t1 t2 t3
    have g1 := HJ5x.out.n.cell (j := 1) rfl
    have g3 := HJ5x.out.n.cell (j := 3) rfl
    by_cases hls : less a.txt k2.k.txt
    case neg =>
      have hbl : Op.bytesLess a.txt.toList k2.k.txt.toList = false := by unfold less at hls; simpa using hls
      have HA5 : Hid (argsM kd (ks.drop i) = failF 7 (ks.drop i2)) := by
        show _ = _
        rw [HA4.out, if_neg (by rw [HZ.out.1, HZ.out.2]; intro q; rcases q with q | q
                                · exact hls q
                                · omega)]
      clear hls
      obtain ⟨cc, hcc⟩ : ∃ cc : Int, cc = if k2.k.isBad = true then 2 else 7 := ⟨_, rfl⟩
      have HFl : Hid (∀ wx, Below V5.heap.size V5 wx → Calls Tryz.prog 46 #[parV g N cp (i2) nd 0 pa, .int .i64 7] wx fun e w' => e = .returned (parV g N cp (i2) nd cc k2.pos) ∧ Below wx.heap.size wx w') := fun wx hx => by
        rw [hcc]
        exact l5Fail_core (HJ5x.out.tk.below hx) H0.out.1 hl HK2.out nd 0 pa 7
      have HAE : Hid (argsM kd (ks.drop i) = .error (cc, k2.pos) ∧ 1 ≤ cc) := ⟨by
        rw [HA5.out, hcc]
        unfold failF
        rw [(drop_hd HK2.out).1, (drop_hd HK2.out).2.1], by rw [hcc]; split <;> decide⟩
      clear hcc
      go_upto_region 36 with fail
      have hS0 : (fun w' : World => w'.cell? ⟨w.heap.size, 0, none⟩ = some (.slice (some ⟨g, 0, none⟩) N cp) ∧ w'.cell? ⟨w.heap.size, 1, none⟩ = some (.int .i64 ((i2 : Nat) : Int)) ∧ w'.cell? ⟨w.heap.size, 2, none⟩ = some (.int .i64 (nd : Int)) ∧ w'.cell? ⟨w.heap.size, 3, none⟩ = some (.int .i64 0) ∧ w'.cell? ⟨w.heap.size, 4, none⟩ = some (.int .i64 (pa : Int)) ∧ w'.cell? ⟨w.heap.size + 3, 0, none⟩ = some (.int .i64 kd) ∧ w'.cell? ⟨w.heap.size + 3, 1, none⟩ = some (.string a.txt) ∧ w'.cell? ⟨w.heap.size + 3, 2, none⟩ = some (.bool true) ∧ w'.cell? ⟨w.heap.size + 3, 3, none⟩ = some (.string k2.k.txt) ∧ w'.cell? ⟨w.heap.size + 3, 4, none⟩ = some (.int .u64 a.nm) ∧ w'.cell? ⟨w.heap.size + 3, 5, none⟩ = some (.int .u64 k2.k.nm) ∧ w'.cell? ⟨w.heap.size + 3, 6, none⟩ = some (.int .i64 0)) V5.drew := ⟨HJ5x.out.p.cell (j := 0) rfl, HJ5x.out.p.cell (j := 1) rfl, HJ5x.out.p.cell (j := 2) rfl, HJ5x.out.p.cell (j := 3) rfl, HJ5x.out.p.cell (j := 4) rfl, HJ5x.out.n.cell (j := 0) rfl, HJ5x.out.n.cell (j := 1) rfl, HJ5x.out.n.cell (j := 2) rfl, HJ5x.out.n.cell (j := 3) rfl, HJ5x.out.n.cell (j := 4) rfl, HJ5x.out.n.cell (j := 5) rfl, HJ5x.out.n.cell (j := 6) rfl⟩
      refine wp_region_T 99 (fun w' : World => w'.cell? ⟨w.heap.size, 0, none⟩ = some (.slice (some ⟨g, 0, none⟩) N cp) ∧ w'.cell? ⟨w.heap.size, 1, none⟩ = some (.int .i64 ((i2 : Nat) : Int)) ∧ w'.cell? ⟨w.heap.size, 2, none⟩ = some (.int .i64 (nd : Int)) ∧ w'.cell? ⟨w.heap.size, 3, none⟩ = some (.int .i64 0) ∧ w'.cell? ⟨w.heap.size, 4, none⟩ = some (.int .i64 (pa : Int)) ∧ w'.cell? ⟨w.heap.size + 3, 0, none⟩ = some (.int .i64 kd) ∧ w'.cell? ⟨w.heap.size + 3, 1, none⟩ = some (.string a.txt) ∧ w'.cell? ⟨w.heap.size + 3, 2, none⟩ = some (.bool true) ∧ w'.cell? ⟨w.heap.size + 3, 3, none⟩ = some (.string k2.k.txt) ∧ w'.cell? ⟨w.heap.size + 3, 4, none⟩ = some (.int .u64 a.nm) ∧ w'.cell? ⟨w.heap.size + 3, 5, none⟩ = some (.int .u64 k2.k.nm) ∧ w'.cell? ⟨w.heap.size + 3, 6, none⟩ = some (.int .i64 0)) (by kernel_rfl) ?_
      refine anyT_takeN (i := 0) (v := ?vrsag0) rfl (by kernel_rfl) (by kernel_rfl) (by kernel_rfl) (by rfl) (fun _ _ _ h => h) (Or.inl ⟨by rfl, ?yrsag0⟩) hS0 ?_
      case yrsag0 => (intro wz hSw; obtain ⟨hz0, hz1, hz2, hz3, hz4, hz5, hz6, hz7, hz8, hz9, hz10, hz11⟩ := hSw; go_simp; (try with_reducible rfl))
      try simp only [Act.put, List.getElem_toArray, List.getElem_cons_zero, List.getElem_cons_succ, List.setIfInBounds_toArray, List.set_cons_zero, List.set_cons_succ]
      refine anyT_takeN (i := 2) (v := ?vrsag2) rfl (by kernel_rfl) (by kernel_rfl) (by kernel_rfl) (by rfl) (fun _ _ _ h => h) (Or.inl ⟨by rfl, ?yrsag2⟩) hS0 ?_
      case yrsag2 => (intro wz hSw; obtain ⟨hz0, hz1, hz2, hz3, hz4, hz5, hz6, hz7, hz8, hz9, hz10, hz11⟩ := hSw; go_simp; (try with_reducible rfl))
      try simp only [Act.put, List.getElem_toArray, List.getElem_cons_zero, List.getElem_cons_succ, List.setIfInBounds_toArray, List.set_cons_zero, List.set_cons_succ]
      refine anyT_one (i := 1) (by kernel_rfl) rfl (fun K hK => ?_)
      go_simp
      go_at_call 46
      refine (HFl.out V5.drew (Below.refl _ _).drew).mono ?_
      rintro e w5 ⟨rfl, hb5⟩
      have HJ5 : Hid (AgJ w base g cp N nd pa ks (i2) (⟨kd, a.txt, true, k2.k.txt, a.nm, k2.k.nm, 0⟩ : Nd) w5) := HJ5x.out.up (((Below.refl _ _).drew).trans (hb5.mono (Nat.le_refl _)))
      have hS5 : (fun w' : World => w'.cell? ⟨w.heap.size, 0, none⟩ = some (.slice (some ⟨g, 0, none⟩) N cp) ∧ w'.cell? ⟨w.heap.size, 1, none⟩ = some (.int .i64 ((i2 : Nat) : Int)) ∧ w'.cell? ⟨w.heap.size, 2, none⟩ = some (.int .i64 (nd : Int)) ∧ w'.cell? ⟨w.heap.size, 3, none⟩ = some (.int .i64 0) ∧ w'.cell? ⟨w.heap.size, 4, none⟩ = some (.int .i64 (pa : Int)) ∧ w'.cell? ⟨w.heap.size + 3, 0, none⟩ = some (.int .i64 kd) ∧ w'.cell? ⟨w.heap.size + 3, 1, none⟩ = some (.string a.txt) ∧ w'.cell? ⟨w.heap.size + 3, 2, none⟩ = some (.bool true) ∧ w'.cell? ⟨w.heap.size + 3, 3, none⟩ = some (.string k2.k.txt) ∧ w'.cell? ⟨w.heap.size + 3, 4, none⟩ = some (.int .u64 a.nm) ∧ w'.cell? ⟨w.heap.size + 3, 5, none⟩ = some (.int .u64 k2.k.nm) ∧ w'.cell? ⟨w.heap.size + 3, 6, none⟩ = some (.int .i64 0)) w5 := ⟨HJ5.out.p.cell (j := 0) rfl, HJ5.out.p.cell (j := 1) rfl, HJ5.out.p.cell (j := 2) rfl, HJ5.out.p.cell (j := 3) rfl, HJ5.out.p.cell (j := 4) rfl, HJ5.out.n.cell (j := 0) rfl, HJ5.out.n.cell (j := 1) rfl, HJ5.out.n.cell (j := 2) rfl, HJ5.out.n.cell (j := 3) rfl, HJ5.out.n.cell (j := 4) rfl, HJ5.out.n.cell (j := 5) rfl, HJ5.out.n.cell (j := 6) rfl⟩
      refine hK.out _ _ (.inr hS5) ?_
      clear hK hb5 HFl
      try simp only [Act.put, List.getElem_toArray, List.getElem_cons_zero, List.getElem_cons_succ, List.setIfInBounds_toArray, List.set_cons_zero, List.set_cons_succ]
      have c0 := HJ5.out.rp.cell (j := 0) rfl
      have c1 := HJ5.out.rp.cell (j := 1) rfl
      have c2 := HJ5.out.rp.cell (j := 2) rfl
      have c3 := HJ5.out.rp.cell (j := 3) rfl
      have c4 := HJ5.out.rp.cell (j := 4) rfl
      have e0 := HJ5.out.rp.frozen 0
      have e1 := HJ5.out.rp.frozen 1
      have e2 := HJ5.out.rp.frozen 2
      have e3 := HJ5.out.rp.frozen 3
      have e4 := HJ5.out.rp.frozen 4
      obtain ⟨W6, hW6⟩ : ∃ V : World, V = setP w5 (w.heap.size + 1) (.slice (some ⟨g, 0, none⟩) N cp) (.int .i64 ((i2 : Nat) : Int)) (.int .i64 (nd : Int)) (.int .i64 cc) (.int .i64 (k2.pos : Int)) := ⟨_, rfl⟩
      have hc6 : Chg (fun k => k = w.heap.size + 1) w5 W6 := by rw [hW6]; exact chg_setP _ _ _ _ _ _ _
      have hp6 := HJ5.out.p.chg hc6 (by omega)
      have hn6 := HJ5.out.n.chg hc6 (by omega)
      have hr6 := HJ5.out.rn.chg hc6 (by omega)
      have hS6 : (fun w' : World => w'.cell? ⟨w.heap.size, 0, none⟩ = some (.slice (some ⟨g, 0, none⟩) N cp) ∧ w'.cell? ⟨w.heap.size, 1, none⟩ = some (.int .i64 ((i2 : Nat) : Int)) ∧ w'.cell? ⟨w.heap.size, 2, none⟩ = some (.int .i64 (nd : Int)) ∧ w'.cell? ⟨w.heap.size, 3, none⟩ = some (.int .i64 0) ∧ w'.cell? ⟨w.heap.size, 4, none⟩ = some (.int .i64 (pa : Int)) ∧ w'.cell? ⟨w.heap.size + 3, 0, none⟩ = some (.int .i64 kd) ∧ w'.cell? ⟨w.heap.size + 3, 1, none⟩ = some (.string a.txt) ∧ w'.cell? ⟨w.heap.size + 3, 2, none⟩ = some (.bool true) ∧ w'.cell? ⟨w.heap.size + 3, 3, none⟩ = some (.string k2.k.txt) ∧ w'.cell? ⟨w.heap.size + 3, 4, none⟩ = some (.int .u64 a.nm) ∧ w'.cell? ⟨w.heap.size + 3, 5, none⟩ = some (.int .u64 k2.k.nm) ∧ w'.cell? ⟨w.heap.size + 3, 6, none⟩ = some (.int .i64 0)) W6 := ⟨hp6.cell (j := 0) rfl, hp6.cell (j := 1) rfl, hp6.cell (j := 2) rfl, hp6.cell (j := 3) rfl, hp6.cell (j := 4) rfl, hn6.cell (j := 0) rfl, hn6.cell (j := 1) rfl, hn6.cell (j := 2) rfl, hn6.cell (j := 3) rfl, hn6.cell (j := 4) rfl, hn6.cell (j := 5) rfl, hn6.cell (j := 6) rfl⟩
      have d0 := hr6.cell (j := 0) rfl
      have d1 := hr6.cell (j := 1) rfl
      have d2 := hr6.cell (j := 2) rfl
      have d3 := hr6.cell (j := 3) rfl
      have d4 := hr6.cell (j := 4) rfl
      have d5 := hr6.cell (j := 5) rfl
      have d6 := hr6.cell (j := 6) rfl
      have f0 := hr6.frozen 0
      have f1 := hr6.frozen 1
      have f2 := hr6.frozen 2
      have f3 := hr6.frozen 3
      have f4 := hr6.frozen 4
      have f5 := hr6.frozen 5
      have f6 := hr6.frozen 6
      obtain ⟨W9, hW9⟩ : ∃ V : World, V = setN W6 (w.heap.size + 2) (⟨kd, a.txt, true, k2.k.txt, a.nm, k2.k.nm, 0⟩ : Nd) := ⟨_, rfl⟩
      have hc9 : Chg (fun k => k = w.heap.size + 2) W6 W9 := by rw [hW9]; exact chg_setN _ _ _
      have hp9 := hp6.chg hc9 (by omega)
      have hn9 := hn6.chg hc9 (by omega)
      have hS9 : (fun w' : World => w'.cell? ⟨w.heap.size, 0, none⟩ = some (.slice (some ⟨g, 0, none⟩) N cp) ∧ w'.cell? ⟨w.heap.size, 1, none⟩ = some (.int .i64 ((i2 : Nat) : Int)) ∧ w'.cell? ⟨w.heap.size, 2, none⟩ = some (.int .i64 (nd : Int)) ∧ w'.cell? ⟨w.heap.size, 3, none⟩ = some (.int .i64 0) ∧ w'.cell? ⟨w.heap.size, 4, none⟩ = some (.int .i64 (pa : Int)) ∧ w'.cell? ⟨w.heap.size + 3, 0, none⟩ = some (.int .i64 kd) ∧ w'.cell? ⟨w.heap.size + 3, 1, none⟩ = some (.string a.txt) ∧ w'.cell? ⟨w.heap.size + 3, 2, none⟩ = some (.bool true) ∧ w'.cell? ⟨w.heap.size + 3, 3, none⟩ = some (.string k2.k.txt) ∧ w'.cell? ⟨w.heap.size + 3, 4, none⟩ = some (.int .u64 a.nm) ∧ w'.cell? ⟨w.heap.size + 3, 5, none⟩ = some (.int .u64 k2.k.nm) ∧ w'.cell? ⟨w.heap.size + 3, 6, none⟩ = some (.int .i64 0)) W9 := ⟨hp9.cell (j := 0) rfl, hp9.cell (j := 1) rfl, hp9.cell (j := 2) rfl, hp9.cell (j := 3) rfl, hp9.cell (j := 4) rfl, hn9.cell (j := 0) rfl, hn9.cell (j := 1) rfl, hn9.cell (j := 2) rfl, hn9.cell (j := 3) rfl, hn9.cell (j := 4) rfl, hn9.cell (j := 5) rfl, hn9.cell (j := 6) rfl⟩
      have HF : Hid (BoxAt W9 w.heap.size 41 5 (w.heap.size + 1) [.slice (some ⟨g, 0, none⟩) N cp, .int .i64 ((i2 : Nat) : Int), .int .i64 (nd : Int), .int .i64 cc, .int .i64 (k2.pos : Int)] ∧ BoxAt W9 w.heap.size 65 7 (w.heap.size + 2) (Nd.seven (⟨kd, a.txt, true, k2.k.txt, a.nm, k2.k.nm, 0⟩ : Nd)) ∧ Below w.heap.size w W9) := by
        have hf := HJ5.out.fin (.slice (some ⟨g, 0, none⟩) N cp) (.int .i64 ((i2 : Nat) : Int)) (.int .i64 (nd : Int)) (.int .i64 cc) (.int .i64 (k2.pos : Int)) (⟨kd, a.txt, true, k2.k.txt, a.nm, k2.k.nm, 0⟩ : Nd)
        rw [hW9, hW6]
        exact hf
      have HR : Hid (ArgP base g cp N nd pa ks kd i w (.returned (.tuple #[parV g N cp (i2) nd cc k2.pos, Nd.v (⟨kd, a.txt, true, k2.k.txt, a.nm, k2.k.nm, 0⟩ : Nd)])) W9) := ⟨HF.out.2.2, .inr ⟨cc, k2.pos, i2, (⟨kd, a.txt, true, k2.k.txt, a.nm, k2.k.nm, 0⟩ : Nd), HAE.out.1, HAE.out.2, rfl⟩⟩
      have p0 := HF.out.1.cell (j := 0) rfl
      have p1 := HF.out.1.cell (j := 1) rfl
      have p2 := HF.out.1.cell (j := 2) rfl
      have p3 := HF.out.1.cell (j := 3) rfl
      have p4 := HF.out.1.cell (j := 4) rfl
      have q0 := HF.out.2.1.cell (j := 0) rfl
      have q1 := HF.out.2.1.cell (j := 1) rfl
      have q2 := HF.out.2.1.cell (j := 2) rfl
      have q3 := HF.out.2.1.cell (j := 3) rfl
      have q4 := HF.out.2.1.cell (j := 4) rfl
      have q5 := HF.out.2.1.cell (j := 5) rfl
      have q6 := HF.out.2.1.cell (j := 6) rfl
      unfold setP at hW6
      unfold setN at hW9
      clear hp6 hn6 hr6 hp9 hn9 hc6 hc9
      simp only [leafN, patN, cntN, noS] at hW9 q0 q1 q2 q3 q4 q5 q6
      refine anyT_one (i := 3) (by kernel_rfl) rfl (fun K hK => ?_)
      go_simp
      rw [← hW6]
      refine hK.out _ _ (.inr hS6) ?_
      clear hK hW6
      try simp only [Act.put, List.getElem_toArray, List.getElem_cons_zero, List.getElem_cons_succ, List.setIfInBounds_toArray, List.set_cons_zero, List.set_cons_succ]
      refine anyT_one (i := 4) (by kernel_rfl) rfl (fun K hK => ?_)
      go_simp
      rw [← hW9]
      refine hK.out _ _ (.inr hS9) ?_
      clear hK hW9
      try simp only [Act.put, List.getElem_toArray, List.getElem_cons_zero, List.getElem_cons_succ, List.setIfInBounds_toArray, List.set_cons_zero, List.set_cons_succ]
      refine anyT_done (by kernel_rfl) ?_
      clear hS0 hS5 hS6 hS9 c0 c1 c2 c3 c4 d0 d1 d2 d3 d4 d5 d6 e0 e1 e2 e3 e4 f0 f1 f2 f3 f4 f5 f6
      go_wp2_with fail
      exact bodyPost_ret (v := .tuple #[parV g N cp (i2) nd cc k2.pos, Nd.v (⟨kd, a.txt, true, k2.k.txt, a.nm, k2.k.nm, 0⟩ : Nd)]) (by simp [results, Tryz.results49, go_sem, p0, p1, p2, p3, p4, q0, q1, q2, q3, q4, q5, q6, leafN, patN, cntN, noS]) rfl HR.out

    have hbl : Op.bytesLess a.txt.toList k2.k.txt.toList = true := hls
    have HA5 : Hid (argsM kd (ks.drop i) = .ok (ks.drop (i2 + 1), (⟨kd, a.txt, true, k2.k.txt, a.nm, k2.k.nm, 0⟩ : Nd))) := by
      show _ = _
      rw [HA4.out, if_pos (.inl hls)]
    clear hls
    obtain ⟨V6, hV6⟩ : ∃ V : World, V = V5.setCell ⟨w.heap.size, 1, none⟩ (.int .i64 ((i2 : Int) + 1)) := ⟨_, rfl⟩
    obtain ⟨i3, hi3⟩ : ∃ ix, ix = i2 + 1 := ⟨_, rfl⟩
    have HJ6 : Hid (AgJ w base g cp N nd pa ks i3 (⟨kd, a.txt, true, k2.k.txt, a.nm, k2.k.nm, 0⟩ : Nd) V6) := by rw [hV6, hi3]; exact HJ5x.out.stepI _ (by simp)
    have Hi3 : Hid (i3 = i2 + 1) := hi3
    have hilei3 : i2 ≤ i3 := by omega
    clear hi3
    have a1 := HJ5x.out.p.cell (j := 1) rfl
    have ia := HJ5x.out.p.frozen 1
    go_upto_region 38 with fail
    rw [← hV6]
    have hi3 : i3 < N := by rw [Hi3.out]; exact hi3N
    clear hV6 a1 ia hbl
    have a0 := HJ6.out.p.cell (j := 0) rfl
    have a1 := HJ6.out.p.cell (j := 1) rfl
    have a2 := HJ6.out.p.cell (j := 2) rfl
    have a3 := HJ6.out.p.cell (j := 3) rfl
    have a4 := HJ6.out.p.cell (j := 4) rfl
    have b0 := HJ6.out.n.cell (j := 0) rfl
    have b1 := HJ6.out.n.cell (j := 1) rfl
    have b2 := HJ6.out.n.cell (j := 2) rfl
    have b3 := HJ6.out.n.cell (j := 3) rfl
    have b4 := HJ6.out.n.cell (j := 4) rfl
    have b5 := HJ6.out.n.cell (j := 5) rfl
    have b6 := HJ6.out.n.cell (j := 6) rfl
    have c0 := HJ6.out.rp.cell (j := 0) rfl
    have c1 := HJ6.out.rp.cell (j := 1) rfl
    have c2 := HJ6.out.rp.cell (j := 2) rfl
    have c3 := HJ6.out.rp.cell (j := 3) rfl
    have c4 := HJ6.out.rp.cell (j := 4) rfl
    have d0 := HJ6.out.rn.cell (j := 0) rfl
    have d1 := HJ6.out.rn.cell (j := 1) rfl
    have d2 := HJ6.out.rn.cell (j := 2) rfl
    have d3 := HJ6.out.rn.cell (j := 3) rfl
    have d4 := HJ6.out.rn.cell (j := 4) rfl
    have d5 := HJ6.out.rn.cell (j := 5) rfl
    have d6 := HJ6.out.rn.cell (j := 6) rfl
    have e0 := HJ6.out.rp.frozen 0
    have e1 := HJ6.out.rp.frozen 1
    have e2 := HJ6.out.rp.frozen 2
    have e3 := HJ6.out.rp.frozen 3
    have e4 := HJ6.out.rp.frozen 4
    have f0 := HJ6.out.rn.frozen 0
    have f1 := HJ6.out.rn.frozen 1
    have f2 := HJ6.out.rn.frozen 2
    have f3 := HJ6.out.rn.frozen 3
    have f4 := HJ6.out.rn.frozen 4
    have f5 := HJ6.out.rn.frozen 5
    have f6 := HJ6.out.rn.frozen 6
    obtain ⟨W9, hW9⟩ : ∃ V : World, V = (setN (setP V6 (w.heap.size + 1) (.slice (some ⟨g, 0, none⟩) N cp) (.int .i64 (i3 : Int)) (.int .i64 (nd : Int)) (.int .i64 0) (.int .i64 (pa : Int))) (w.heap.size + 2) (⟨kd, a.txt, true, k2.k.txt, a.nm, k2.k.nm, 0⟩ : Nd)).drew := ⟨_, rfl⟩
    have HF : Hid (BoxAt W9 w.heap.size 41 5 (w.heap.size + 1) [.slice (some ⟨g, 0, none⟩) N cp, .int .i64 (i3 : Int), .int .i64 (nd : Int), .int .i64 0, .int .i64 (pa : Int)] ∧ BoxAt W9 w.heap.size 65 7 (w.heap.size + 2) (Nd.seven (⟨kd, a.txt, true, k2.k.txt, a.nm, k2.k.nm, 0⟩ : Nd)) ∧ Below w.heap.size w W9) := by
      have hf := HJ6.out.fin (.slice (some ⟨g, 0, none⟩) N cp) (.int .i64 (i3 : Int)) (.int .i64 (nd : Int)) (.int .i64 0) (.int .i64 (pa : Int)) (⟨kd, a.txt, true, k2.k.txt, a.nm, k2.k.nm, 0⟩ : Nd)
      have hd : ∀ X : World, Below X.heap.size X X.drew := fun X => (Below.refl _ _).drew
      rw [hW9]
      exact ⟨hf.1.below (hd _), hf.2.1.below (hd _), hf.2.2.trans ((hd _).mono hf.2.2.size)⟩
    have HR : Hid (ArgP base g cp N nd pa ks kd i w (.returned (.tuple #[parV g N cp (i3) nd 0 pa, Nd.v (⟨kd, a.txt, true, k2.k.txt, a.nm, k2.k.nm, 0⟩ : Nd)])) W9) := ⟨HF.out.2.2, .inl ⟨i3, (⟨kd, a.txt, true, k2.k.txt, a.nm, k2.k.nm, 0⟩ : Nd), by rw [Hi3.out]; exact HA5.out, by omega, by omega, rfl⟩⟩
    have p0 := HF.out.1.cell (j := 0) rfl
    have p1 := HF.out.1.cell (j := 1) rfl
    have p2 := HF.out.1.cell (j := 2) rfl
    have p3 := HF.out.1.cell (j := 3) rfl
    have p4 := HF.out.1.cell (j := 4) rfl
    have q0 := HF.out.2.1.cell (j := 0) rfl
    have q1 := HF.out.2.1.cell (j := 1) rfl
    have q2 := HF.out.2.1.cell (j := 2) rfl
    have q3 := HF.out.2.1.cell (j := 3) rfl
    have q4 := HF.out.2.1.cell (j := 4) rfl
    have q5 := HF.out.2.1.cell (j := 5) rfl
    have q6 := HF.out.2.1.cell (j := 6) rfl
    unfold setN setP at hW9
    simp only [leafN, patN, cntN, noS] at hW9 b0 b1 b2 b3 b4 b5 b6 q0 q1 q2 q3 q4 q5 q6
    go_region
    rw [← hW9]
    clear hW9 a0 a1 a2 a3 a4 b0 b1 b2 b3 b4 b5 b6 c0 c1 c2 c3 c4 d0 d1 d2 d3 d4 d5 d6 e0 e1 e2 e3 e4 f0 f1 f2 f3 f4 f5 f6
    go_wp2_with fail
    exact bodyPost_ret (v := .tuple #[parV g N cp (i3) nd 0 pa, Nd.v (⟨kd, a.txt, true, k2.k.txt, a.nm, k2.k.nm, 0⟩ : Nd)]) (by simp [results, Tryz.results49, go_sem, p0, p1, p2, p3, p4, q0, q1, q2, q3, q4, q5, q6, leafN, patN, cntN, noS]) rfl HR.out

  obtain ⟨htx, hnf, hnb, hz1, hz2⟩ := sort_txt hso
  have Hk1 : Hid (∃ k1, ks[i + 1]? = some k1) := (toks_next H0.out.2.2.2.2.2 H0.out.2.1 hnf hnb).2
  obtain ⟨a, ha⟩ : ∃ a : TkK, a = k.k := ⟨_, rfl⟩
  have HA1 : Hid (argsM kd (ks.drop i) = dotsM kd true a (ks.drop (i + 1))) := by
    show _ = _
    rw [HAr.out]
    unfold rangeM
    rw [H0.out.2.2.1, if_pos hso, ha, H0.out.2.2.2.2.1]
  have Hz : Hid (a.nm = 0) := by rw [ha]; exact hz1 rfl
  have HTa : Hid (tkT k.k = a.txt ∧ k.k.nm = a.nm) := by rw [ha]; exact ⟨htx, rfl⟩
  rw [HTa.out.1] at t2
  rw [hso] at zs'
  clear htx hnf hnb hz1 hz2 hso ha
  obtain ⟨V1, hV1⟩ : ∃ V : World, V = v0.setCell ⟨w.heap.size + 3, 1, none⟩ (.string a.txt) := ⟨_, rfl⟩
  have HV1 : Hid (AgJ w base g cp N nd pa ks i (⟨kd, a.txt, false, noS, 0, 0, 0⟩ : Nd) V1) := by rw [hV1]; exact HV0.out.stepN 1 _ rfl
  have n1 := HV0.out.n.cell (j := 1) rfl
  have m1 := HV0.out.n.frozen 1

  go_upto_region 26 with fail
  rw [← hV1]
  clear hV1 n1 m1 a0 a1 t0 t1 t2 zs'
  obtain ⟨t0, t1, t2, t3⟩ := tk_cells HV1.out.tk H0.out.2.1
  rw [HTa.out.2] at t1
  have a0 := HV1.out.p.cell (j := 0) rfl
  have a1 := HV1.out.p.cell (j := 1) rfl
  obtain ⟨Vb, hVb⟩ : ∃ V : World, V = V1.setCell ⟨w.heap.size + 3, 4, none⟩ (.int .u64 a.nm) := ⟨_, rfl⟩
  have HVb : Hid (AgJ w base g cp N nd pa ks i (⟨kd, a.txt, false, noS, a.nm, 0, 0⟩ : Nd) Vb) := by rw [hVb]; exact HV1.out.stepN 4 _ rfl
  have n4 := HV1.out.n.cell (j := 4) rfl
  have m4 := HV1.out.n.frozen 4

  go_upto_region 27 with fail
  rw [← hVb]
  clear hVb n4 m4 a0 a1 t0 t1 t2 t3
  obtain ⟨Vc, hVc⟩ : ∃ V : World, V = Vb.setCell ⟨w.heap.size, 1, none⟩ (.int .i64 ((i : Int) + 1)) := ⟨_, rfl⟩
  obtain ⟨i1, hi1⟩ : ∃ ix, ix = i + 1 := ⟨_, rfl⟩
  have HVc : Hid (AgJ w base g cp N nd pa ks i1 (⟨kd, a.txt, false, noS, a.nm, 0, 0⟩ : Nd) Vc) := by rw [hVc, hi1]; exact HVb.out.stepI _ (by simp)
  have Hi1 : Hid (i1 = i + 1) := hi1
  have hilei1 : i ≤ i1 := by omega
  clear hi1
  have a1 := HVb.out.p.cell (j := 1) rfl
  have ia := HVb.out.p.frozen 1

  go_upto_region 28 with fail
  rw [← hVc]
  clear hVc a1 ia
  obtain ⟨k1, hk1⟩ := Hk1.out
  rw [← Hi1.out] at hk1
  have Hk : Hid (ks[i1]? = some k1) := hk1
  have HA : Hid (argsM kd (ks.drop i) = dotsM kd true a (ks.drop i1)) := by rw [Hi1.out]; exact HA1.out
  have hi1N : i1 < N := by rw [H0.out.1]; exact (List.getElem?_eq_some_iff.1 hk1).1
  clear hk1 Hk1
  have HIs : Hid (Calls Tryz.prog 48 #[parV g N cp i1 nd 0 pa, .string ⟨#[46, 46]⟩] Vc fun e w' => e = .returned (.bool (k1.k.isSign 46)) ∧ Below Vc.heap.size Vc w') := l5IsSym_core HVc.out.tk H0.out.1 hl Hk.out (toks_kind H0.out.2.2.2.2.2 Hk.out) nd 0 pa 46 ⟨#[46, 46]⟩ (by rw [ByteArray.toList_eq]; rfl)
  have a0 := HVc.out.p.cell (j := 0) rfl
  have a1 := HVc.out.p.cell (j := 1) rfl
  have a2 := HVc.out.p.cell (j := 2) rfl
  have a3 := HVc.out.p.cell (j := 3) rfl
  have a4 := HVc.out.p.cell (j := 4) rfl
  go_wp2_with fail
  refine HIs.out.mono ?_
  clear HIs
  rintro e v1 ⟨rfl, hb1⟩
  have HV : Hid (AgJ w base g cp N nd pa ks i1 (⟨kd, a.txt, false, noS, a.nm, 0, 0⟩ : Nd) v1) := HVc.out.up hb1
  clear hb1 a0 a1 a2 a3 a4
  cases hsg : k1.k.isSign 46
  case false =>
    have HA2 : Hid (argsM kd (ks.drop i) = failF 3 (ks.drop i1)) := by
      show _ = _
      rw [HA.out]
      unfold dotsM
      rw [(drop_hd Hk.out).1, if_neg (by rw [hsg]; simp)]
    clear hsg
    obtain ⟨cc, hcc⟩ : ∃ cc : Int, cc = if k1.k.isBad = true then 2 else 3 := ⟨_, rfl⟩
    have HFl : Hid (∀ wx, Below v1.heap.size v1 wx → Calls Tryz.prog 46 #[parV g N cp (i1) nd 0 pa, .int .i64 3] wx fun e w' => e = .returned (parV g N cp (i1) nd cc k1.pos) ∧ Below wx.heap.size wx w') := fun wx hx => by
      rw [hcc]
      exact l5Fail_core (HV.out.tk.below hx) H0.out.1 hl Hk.out nd 0 pa 3
    have HAE : Hid (argsM kd (ks.drop i) = .error (cc, k1.pos) ∧ 1 ≤ cc) := ⟨by
      rw [HA2.out, hcc]
      unfold failF
      rw [(drop_hd Hk.out).1, (drop_hd Hk.out).2.1], by rw [hcc]; split <;> decide⟩
    clear hcc
    go_upto_region 29 with fail
    have hS0 : (fun w' : World => w'.cell? ⟨w.heap.size, 0, none⟩ = some (.slice (some ⟨g, 0, none⟩) N cp) ∧ w'.cell? ⟨w.heap.size, 1, none⟩ = some (.int .i64 ((i1 : Nat) : Int)) ∧ w'.cell? ⟨w.heap.size, 2, none⟩ = some (.int .i64 (nd : Int)) ∧ w'.cell? ⟨w.heap.size, 3, none⟩ = some (.int .i64 0) ∧ w'.cell? ⟨w.heap.size, 4, none⟩ = some (.int .i64 (pa : Int)) ∧ w'.cell? ⟨w.heap.size + 3, 0, none⟩ = some (.int .i64 kd) ∧ w'.cell? ⟨w.heap.size + 3, 1, none⟩ = some (.string a.txt) ∧ w'.cell? ⟨w.heap.size + 3, 2, none⟩ = some (.bool false) ∧ w'.cell? ⟨w.heap.size + 3, 3, none⟩ = some (.string ⟨#[]⟩) ∧ w'.cell? ⟨w.heap.size + 3, 4, none⟩ = some (.int .u64 a.nm) ∧ w'.cell? ⟨w.heap.size + 3, 5, none⟩ = some (.int .u64 0) ∧ w'.cell? ⟨w.heap.size + 3, 6, none⟩ = some (.int .i64 0)) v1.drew := ⟨HV.out.p.cell (j := 0) rfl, HV.out.p.cell (j := 1) rfl, HV.out.p.cell (j := 2) rfl, HV.out.p.cell (j := 3) rfl, HV.out.p.cell (j := 4) rfl, HV.out.n.cell (j := 0) rfl, HV.out.n.cell (j := 1) rfl, HV.out.n.cell (j := 2) rfl, HV.out.n.cell (j := 3) rfl, HV.out.n.cell (j := 4) rfl, HV.out.n.cell (j := 5) rfl, HV.out.n.cell (j := 6) rfl⟩
    refine wp_region_T 99 (fun w' : World => w'.cell? ⟨w.heap.size, 0, none⟩ = some (.slice (some ⟨g, 0, none⟩) N cp) ∧ w'.cell? ⟨w.heap.size, 1, none⟩ = some (.int .i64 ((i1 : Nat) : Int)) ∧ w'.cell? ⟨w.heap.size, 2, none⟩ = some (.int .i64 (nd : Int)) ∧ w'.cell? ⟨w.heap.size, 3, none⟩ = some (.int .i64 0) ∧ w'.cell? ⟨w.heap.size, 4, none⟩ = some (.int .i64 (pa : Int)) ∧ w'.cell? ⟨w.heap.size + 3, 0, none⟩ = some (.int .i64 kd) ∧ w'.cell? ⟨w.heap.size + 3, 1, none⟩ = some (.string a.txt) ∧ w'.cell? ⟨w.heap.size + 3, 2, none⟩ = some (.bool false) ∧ w'.cell? ⟨w.heap.size + 3, 3, none⟩ = some (.string ⟨#[]⟩) ∧ w'.cell? ⟨w.heap.size + 3, 4, none⟩ = some (.int .u64 a.nm) ∧ w'.cell? ⟨w.heap.size + 3, 5, none⟩ = some (.int .u64 0) ∧ w'.cell? ⟨w.heap.size + 3, 6, none⟩ = some (.int .i64 0)) (by kernel_rfl) ?_
    refine anyT_takeN (i := 0) (v := ?vrsbf0) rfl (by kernel_rfl) (by kernel_rfl) (by kernel_rfl) (by rfl) (fun _ _ _ h => h) (Or.inl ⟨by rfl, ?yrsbf0⟩) hS0 ?_
    case yrsbf0 => (intro wz hSw; obtain ⟨hz0, hz1, hz2, hz3, hz4, hz5, hz6, hz7, hz8, hz9, hz10, hz11⟩ := hSw; go_simp; (try with_reducible rfl))
    try simp only [Act.put, List.getElem_toArray, List.getElem_cons_zero, List.getElem_cons_succ, List.setIfInBounds_toArray, List.set_cons_zero, List.set_cons_succ]
    refine anyT_takeN (i := 2) (v := ?vrsbf2) rfl (by kernel_rfl) (by kernel_rfl) (by kernel_rfl) (by rfl) (fun _ _ _ h => h) (Or.inl ⟨by rfl, ?yrsbf2⟩) hS0 ?_
    case yrsbf2 => (intro wz hSw; obtain ⟨hz0, hz1, hz2, hz3, hz4, hz5, hz6, hz7, hz8, hz9, hz10, hz11⟩ := hSw; go_simp; (try with_reducible rfl))
    try simp only [Act.put, List.getElem_toArray, List.getElem_cons_zero, List.getElem_cons_succ, List.setIfInBounds_toArray, List.set_cons_zero, List.set_cons_succ]
    refine anyT_one (i := 1) (by kernel_rfl) rfl (fun K hK => ?_)
    go_simp
    go_at_call 46
    refine (HFl.out v1.drew (Below.refl _ _).drew).mono ?_
    rintro e w5 ⟨rfl, hb5⟩
    have HJ5 : Hid (AgJ w base g cp N nd pa ks (i1) (⟨kd, a.txt, false, noS, a.nm, 0, 0⟩ : Nd) w5) := HV.out.up (((Below.refl _ _).drew).trans (hb5.mono (Nat.le_refl _)))
    have hS5 : (fun w' : World => w'.cell? ⟨w.heap.size, 0, none⟩ = some (.slice (some ⟨g, 0, none⟩) N cp) ∧ w'.cell? ⟨w.heap.size, 1, none⟩ = some (.int .i64 ((i1 : Nat) : Int)) ∧ w'.cell? ⟨w.heap.size, 2, none⟩ = some (.int .i64 (nd : Int)) ∧ w'.cell? ⟨w.heap.size, 3, none⟩ = some (.int .i64 0) ∧ w'.cell? ⟨w.heap.size, 4, none⟩ = some (.int .i64 (pa : Int)) ∧ w'.cell? ⟨w.heap.size + 3, 0, none⟩ = some (.int .i64 kd) ∧ w'.cell? ⟨w.heap.size + 3, 1, none⟩ = some (.string a.txt) ∧ w'.cell? ⟨w.heap.size + 3, 2, none⟩ = some (.bool false) ∧ w'.cell? ⟨w.heap.size + 3, 3, none⟩ = some (.string ⟨#[]⟩) ∧ w'.cell? ⟨w.heap.size + 3, 4, none⟩ = some (.int .u64 a.nm) ∧ w'.cell? ⟨w.heap.size + 3, 5, none⟩ = some (.int .u64 0) ∧ w'.cell? ⟨w.heap.size + 3, 6, none⟩ = some (.int .i64 0)) w5 := ⟨HJ5.out.p.cell (j := 0) rfl, HJ5.out.p.cell (j := 1) rfl, HJ5.out.p.cell (j := 2) rfl, HJ5.out.p.cell (j := 3) rfl, HJ5.out.p.cell (j := 4) rfl, HJ5.out.n.cell (j := 0) rfl, HJ5.out.n.cell (j := 1) rfl, HJ5.out.n.cell (j := 2) rfl, HJ5.out.n.cell (j := 3) rfl, HJ5.out.n.cell (j := 4) rfl, HJ5.out.n.cell (j := 5) rfl, HJ5.out.n.cell (j := 6) rfl⟩
    refine hK.out _ _ (.inr hS5) ?_
    clear hK hb5 HFl
    try simp only [Act.put, List.getElem_toArray, List.getElem_cons_zero, List.getElem_cons_succ, List.setIfInBounds_toArray, List.set_cons_zero, List.set_cons_succ]
    have c0 := HJ5.out.rp.cell (j := 0) rfl
    have c1 := HJ5.out.rp.cell (j := 1) rfl
    have c2 := HJ5.out.rp.cell (j := 2) rfl
    have c3 := HJ5.out.rp.cell (j := 3) rfl
    have c4 := HJ5.out.rp.cell (j := 4) rfl
    have e0 := HJ5.out.rp.frozen 0
    have e1 := HJ5.out.rp.frozen 1
    have e2 := HJ5.out.rp.frozen 2
    have e3 := HJ5.out.rp.frozen 3
    have e4 := HJ5.out.rp.frozen 4
    obtain ⟨W6, hW6⟩ : ∃ V : World, V = setP w5 (w.heap.size + 1) (.slice (some ⟨g, 0, none⟩) N cp) (.int .i64 ((i1 : Nat) : Int)) (.int .i64 (nd : Int)) (.int .i64 cc) (.int .i64 (k1.pos : Int)) := ⟨_, rfl⟩
    have hc6 : Chg (fun k => k = w.heap.size + 1) w5 W6 := by rw [hW6]; exact chg_setP _ _ _ _ _ _ _
    have hp6 := HJ5.out.p.chg hc6 (by omega)
    have hn6 := HJ5.out.n.chg hc6 (by omega)
    have hr6 := HJ5.out.rn.chg hc6 (by omega)
    have hS6 : (fun w' : World => w'.cell? ⟨w.heap.size, 0, none⟩ = some (.slice (some ⟨g, 0, none⟩) N cp) ∧ w'.cell? ⟨w.heap.size, 1, none⟩ = some (.int .i64 ((i1 : Nat) : Int)) ∧ w'.cell? ⟨w.heap.size, 2, none⟩ = some (.int .i64 (nd : Int)) ∧ w'.cell? ⟨w.heap.size, 3, none⟩ = some (.int .i64 0) ∧ w'.cell? ⟨w.heap.size, 4, none⟩ = some (.int .i64 (pa : Int)) ∧ w'.cell? ⟨w.heap.size + 3, 0, none⟩ = some (.int .i64 kd) ∧ w'.cell? ⟨w.heap.size + 3, 1, none⟩ = some (.string a.txt) ∧ w'.cell? ⟨w.heap.size + 3, 2, none⟩ = some (.bool false) ∧ w'.cell? ⟨w.heap.size + 3, 3, none⟩ = some (.string ⟨#[]⟩) ∧ w'.cell? ⟨w.heap.size + 3, 4, none⟩ = some (.int .u64 a.nm) ∧ w'.cell? ⟨w.heap.size + 3, 5, none⟩ = some (.int .u64 0) ∧ w'.cell? ⟨w.heap.size + 3, 6, none⟩ = some (.int .i64 0)) W6 := ⟨hp6.cell (j := 0) rfl, hp6.cell (j := 1) rfl, hp6.cell (j := 2) rfl, hp6.cell (j := 3) rfl, hp6.cell (j := 4) rfl, hn6.cell (j := 0) rfl, hn6.cell (j := 1) rfl, hn6.cell (j := 2) rfl, hn6.cell (j := 3) rfl, hn6.cell (j := 4) rfl, hn6.cell (j := 5) rfl, hn6.cell (j := 6) rfl⟩
    have d0 := hr6.cell (j := 0) rfl
    have d1 := hr6.cell (j := 1) rfl
    have d2 := hr6.cell (j := 2) rfl
    have d3 := hr6.cell (j := 3) rfl
    have d4 := hr6.cell (j := 4) rfl
    have d5 := hr6.cell (j := 5) rfl
    have d6 := hr6.cell (j := 6) rfl
    have f0 := hr6.frozen 0
    have f1 := hr6.frozen 1
    have f2 := hr6.frozen 2
    have f3 := hr6.frozen 3
    have f4 := hr6.frozen 4
    have f5 := hr6.frozen 5
    have f6 := hr6.frozen 6
    obtain ⟨W9, hW9⟩ : ∃ V : World, V = setN W6 (w.heap.size + 2) (⟨kd, a.txt, false, noS, a.nm, 0, 0⟩ : Nd) := ⟨_, rfl⟩
    have hc9 : Chg (fun k => k = w.heap.size + 2) W6 W9 := by rw [hW9]; exact chg_setN _ _ _
    have hp9 := hp6.chg hc9 (by omega)
    have hn9 := hn6.chg hc9 (by omega)
    have hS9 : (fun w' : World => w'.cell? ⟨w.heap.size, 0, none⟩ = some (.slice (some ⟨g, 0, none⟩) N cp) ∧ w'.cell? ⟨w.heap.size, 1, none⟩ = some (.int .i64 ((i1 : Nat) : Int)) ∧ w'.cell? ⟨w.heap.size, 2, none⟩ = some (.int .i64 (nd : Int)) ∧ w'.cell? ⟨w.heap.size, 3, none⟩ = some (.int .i64 0) ∧ w'.cell? ⟨w.heap.size, 4, none⟩ = some (.int .i64 (pa : Int)) ∧ w'.cell? ⟨w.heap.size + 3, 0, none⟩ = some (.int .i64 kd) ∧ w'.cell? ⟨w.heap.size + 3, 1, none⟩ = some (.string a.txt) ∧ w'.cell? ⟨w.heap.size + 3, 2, none⟩ = some (.bool false) ∧ w'.cell? ⟨w.heap.size + 3, 3, none⟩ = some (.string ⟨#[]⟩) ∧ w'.cell? ⟨w.heap.size + 3, 4, none⟩ = some (.int .u64 a.nm) ∧ w'.cell? ⟨w.heap.size + 3, 5, none⟩ = some (.int .u64 0) ∧ w'.cell? ⟨w.heap.size + 3, 6, none⟩ = some (.int .i64 0)) W9 := ⟨hp9.cell (j := 0) rfl, hp9.cell (j := 1) rfl, hp9.cell (j := 2) rfl, hp9.cell (j := 3) rfl, hp9.cell (j := 4) rfl, hn9.cell (j := 0) rfl, hn9.cell (j := 1) rfl, hn9.cell (j := 2) rfl, hn9.cell (j := 3) rfl, hn9.cell (j := 4) rfl, hn9.cell (j := 5) rfl, hn9.cell (j := 6) rfl⟩
    have HF : Hid (BoxAt W9 w.heap.size 41 5 (w.heap.size + 1) [.slice (some ⟨g, 0, none⟩) N cp, .int .i64 ((i1 : Nat) : Int), .int .i64 (nd : Int), .int .i64 cc, .int .i64 (k1.pos : Int)] ∧ BoxAt W9 w.heap.size 65 7 (w.heap.size + 2) (Nd.seven (⟨kd, a.txt, false, noS, a.nm, 0, 0⟩ : Nd)) ∧ Below w.heap.size w W9) := by
      have hf := HJ5.out.fin (.slice (some ⟨g, 0, none⟩) N cp) (.int .i64 ((i1 : Nat) : Int)) (.int .i64 (nd : Int)) (.int .i64 cc) (.int .i64 (k1.pos : Int)) (⟨kd, a.txt, false, noS, a.nm, 0, 0⟩ : Nd)
      rw [hW9, hW6]
      exact hf
    have HR : Hid (ArgP base g cp N nd pa ks kd i w (.returned (.tuple #[parV g N cp (i1) nd cc k1.pos, Nd.v (⟨kd, a.txt, false, noS, a.nm, 0, 0⟩ : Nd)])) W9) := ⟨HF.out.2.2, .inr ⟨cc, k1.pos, i1, (⟨kd, a.txt, false, noS, a.nm, 0, 0⟩ : Nd), HAE.out.1, HAE.out.2, rfl⟩⟩
    have p0 := HF.out.1.cell (j := 0) rfl
    have p1 := HF.out.1.cell (j := 1) rfl
    have p2 := HF.out.1.cell (j := 2) rfl
    have p3 := HF.out.1.cell (j := 3) rfl
    have p4 := HF.out.1.cell (j := 4) rfl
    have q0 := HF.out.2.1.cell (j := 0) rfl
    have q1 := HF.out.2.1.cell (j := 1) rfl
    have q2 := HF.out.2.1.cell (j := 2) rfl
    have q3 := HF.out.2.1.cell (j := 3) rfl
    have q4 := HF.out.2.1.cell (j := 4) rfl
    have q5 := HF.out.2.1.cell (j := 5) rfl
    have q6 := HF.out.2.1.cell (j := 6) rfl
    unfold setP at hW6
    unfold setN at hW9
    clear hp6 hn6 hr6 hp9 hn9 hc6 hc9
    simp only [leafN, patN, cntN, noS] at hW9 q0 q1 q2 q3 q4 q5 q6
    refine anyT_one (i := 3) (by kernel_rfl) rfl (fun K hK => ?_)
    go_simp
    rw [← hW6]
    refine hK.out _ _ (.inr hS6) ?_
    clear hK hW6
    try simp only [Act.put, List.getElem_toArray, List.getElem_cons_zero, List.getElem_cons_succ, List.setIfInBounds_toArray, List.set_cons_zero, List.set_cons_succ]
    refine anyT_one (i := 4) (by kernel_rfl) rfl (fun K hK => ?_)
    go_simp
    rw [← hW9]
    refine hK.out _ _ (.inr hS9) ?_
    clear hK hW9
    try simp only [Act.put, List.getElem_toArray, List.getElem_cons_zero, List.getElem_cons_succ, List.setIfInBounds_toArray, List.set_cons_zero, List.set_cons_succ]
    refine anyT_done (by kernel_rfl) ?_
    clear hS0 hS5 hS6 hS9 c0 c1 c2 c3 c4 d0 d1 d2 d3 d4 d5 d6 e0 e1 e2 e3 e4 f0 f1 f2 f3 f4 f5 f6
    go_wp2_with fail
    exact bodyPost_ret (v := .tuple #[parV g N cp (i1) nd cc k1.pos, Nd.v (⟨kd, a.txt, false, noS, a.nm, 0, 0⟩ : Nd)]) (by simp [results, Tryz.results49, go_sem, p0, p1, p2, p3, p4, q0, q1, q2, q3, q4, q5, q6, leafN, patN, cntN, noS]) rfl HR.out

  have Hk2 : Hid (∃ k2, ks[i1 + 1]? = some k2) := (toks_next H0.out.2.2.2.2.2 Hk.out (by rw [TkK.isSign_eq hsg]; intro q; cases q) (by rw [TkK.isSign_eq hsg]; intro q; cases q)).2
  have HA2 : Hid (argsM kd (ks.drop i) = upM kd true a (ks.drop (i1 + 1))) := by
    show _ = _
    rw [HA.out]
    unfold dotsM
    rw [(drop_hd Hk.out).1, if_pos hsg, (drop_hd Hk.out).2.2]
  clear hsg
  obtain ⟨V2, hV2⟩ : ∃ V : World, V = v1.setCell ⟨w.heap.size, 1, none⟩ (.int .i64 ((i1 : Int) + 1)) := ⟨_, rfl⟩
  obtain ⟨i2, hi2⟩ : ∃ ix, ix = i1 + 1 := ⟨_, rfl⟩
  have HJ2 : Hid (AgJ w base g cp N nd pa ks i2 (⟨kd, a.txt, false, noS, a.nm, 0, 0⟩ : Nd) V2) := by rw [hV2, hi2]; exact HV.out.stepI _ (by simp)
  have Hi2 : Hid (i2 = i1 + 1) := hi2
  have hilei2 : i1 ≤ i2 := by omega
  clear hi2
  have a1 := HV.out.p.cell (j := 1) rfl
  have ia := HV.out.p.frozen 1
  go_upto_region 31 with fail
  rw [← hV2]
  clear hV2 a1 ia
  obtain ⟨k2, hk2⟩ := Hk2.out
  rw [← Hi2.out] at hk2
  have HK2 : Hid (ks[i2]? = some k2) := hk2
  have hi2N : i2 < N := by rw [H0.out.1]; exact (List.getElem?_eq_some_iff.1 hk2).1
  have zi2 : (i2 : Int) < (N : Int) := by omega
  clear hk2 Hk2
  obtain ⟨t0, t1, t2, t3⟩ := tk_cells HJ2.out.tk HK2.out
  have zs := sort_tk k2.k true
  have zs' : (tkN k2.k == 3) = k2.k.isSort true := zs
  clear zs t3
  have a0 := HJ2.out.p.cell (j := 0) rfl
  have a1 := HJ2.out.p.cell (j := 1) rfl
  have HA3 : Hid (argsM kd (ks.drop i) = upM kd true a (ks.drop i2)) := by rw [Hi2.out]; exact HA2.out
  cases hso : k2.k.isSort true
  case false =>
    rw [hso] at zs'
    have HA4 : Hid (argsM kd (ks.drop i) = .ok (ks.drop i2, (⟨kd, a.txt, false, noS, a.nm, 0, 0⟩ : Nd))) := by
      show _ = _
      rw [HA3.out]
      unfold upM
      rw [(drop_hd HK2.out).1, if_neg (by rw [hso]; simp)]
    clear hso t1 t2
    go_upto_region 38 with fail
    clear t0 zs' a0 a1
    have a0 := HJ2.out.p.cell (j := 0) rfl
    have a1 := HJ2.out.p.cell (j := 1) rfl
    have a2 := HJ2.out.p.cell (j := 2) rfl
    have a3 := HJ2.out.p.cell (j := 3) rfl
    have a4 := HJ2.out.p.cell (j := 4) rfl
    have b0 := HJ2.out.n.cell (j := 0) rfl
    have b1 := HJ2.out.n.cell (j := 1) rfl
    have b2 := HJ2.out.n.cell (j := 2) rfl
    have b3 := HJ2.out.n.cell (j := 3) rfl
    have b4 := HJ2.out.n.cell (j := 4) rfl
    have b5 := HJ2.out.n.cell (j := 5) rfl
    have b6 := HJ2.out.n.cell (j := 6) rfl
    have c0 := HJ2.out.rp.cell (j := 0) rfl
    have c1 := HJ2.out.rp.cell (j := 1) rfl
    have c2 := HJ2.out.rp.cell (j := 2) rfl
    have c3 := HJ2.out.rp.cell (j := 3) rfl
    have c4 := HJ2.out.rp.cell (j := 4) rfl
    have d0 := HJ2.out.rn.cell (j := 0) rfl
    have d1 := HJ2.out.rn.cell (j := 1) rfl
    have d2 := HJ2.out.rn.cell (j := 2) rfl
    have d3 := HJ2.out.rn.cell (j := 3) rfl
    have d4 := HJ2.out.rn.cell (j := 4) rfl
    have d5 := HJ2.out.rn.cell (j := 5) rfl
    have d6 := HJ2.out.rn.cell (j := 6) rfl
    have e0 := HJ2.out.rp.frozen 0
    have e1 := HJ2.out.rp.frozen 1
    have e2 := HJ2.out.rp.frozen 2
    have e3 := HJ2.out.rp.frozen 3
    have e4 := HJ2.out.rp.frozen 4
    have f0 := HJ2.out.rn.frozen 0
    have f1 := HJ2.out.rn.frozen 1
    have f2 := HJ2.out.rn.frozen 2
    have f3 := HJ2.out.rn.frozen 3
    have f4 := HJ2.out.rn.frozen 4
    have f5 := HJ2.out.rn.frozen 5
    have f6 := HJ2.out.rn.frozen 6
    obtain ⟨W9, hW9⟩ : ∃ V : World, V = (setN (setP V2 (w.heap.size + 1) (.slice (some ⟨g, 0, none⟩) N cp) (.int .i64 (i2 : Int)) (.int .i64 (nd : Int)) (.int .i64 0) (.int .i64 (pa : Int))) (w.heap.size + 2) (⟨kd, a.txt, false, noS, a.nm, 0, 0⟩ : Nd)).drew := ⟨_, rfl⟩
    have HF : Hid (BoxAt W9 w.heap.size 41 5 (w.heap.size + 1) [.slice (some ⟨g, 0, none⟩) N cp, .int .i64 (i2 : Int), .int .i64 (nd : Int), .int .i64 0, .int .i64 (pa : Int)] ∧ BoxAt W9 w.heap.size 65 7 (w.heap.size + 2) (Nd.seven (⟨kd, a.txt, false, noS, a.nm, 0, 0⟩ : Nd)) ∧ Below w.heap.size w W9) := by
      have hf := HJ2.out.fin (.slice (some ⟨g, 0, none⟩) N cp) (.int .i64 (i2 : Int)) (.int .i64 (nd : Int)) (.int .i64 0) (.int .i64 (pa : Int)) (⟨kd, a.txt, false, noS, a.nm, 0, 0⟩ : Nd)
      have hd : ∀ X : World, Below X.heap.size X X.drew := fun X => (Below.refl _ _).drew
      rw [hW9]
      exact ⟨hf.1.below (hd _), hf.2.1.below (hd _), hf.2.2.trans ((hd _).mono hf.2.2.size)⟩
    have HR : Hid (ArgP base g cp N nd pa ks kd i w (.returned (.tuple #[parV g N cp (i2) nd 0 pa, Nd.v (⟨kd, a.txt, false, noS, a.nm, 0, 0⟩ : Nd)])) W9) := ⟨HF.out.2.2, .inl ⟨i2, (⟨kd, a.txt, false, noS, a.nm, 0, 0⟩ : Nd), HA4.out, by omega, by omega, rfl⟩⟩
    have p0 := HF.out.1.cell (j := 0) rfl
    have p1 := HF.out.1.cell (j := 1) rfl
    have p2 := HF.out.1.cell (j := 2) rfl
    have p3 := HF.out.1.cell (j := 3) rfl
    have p4 := HF.out.1.cell (j := 4) rfl
    have q0 := HF.out.2.1.cell (j := 0) rfl
    have q1 := HF.out.2.1.cell (j := 1) rfl
    have q2 := HF.out.2.1.cell (j := 2) rfl
    have q3 := HF.out.2.1.cell (j := 3) rfl
    have q4 := HF.out.2.1.cell (j := 4) rfl
    have q5 := HF.out.2.1.cell (j := 5) rfl
    have q6 := HF.out.2.1.cell (j := 6) rfl
    unfold setN setP at hW9
    simp only [leafN, patN, cntN, noS] at hW9 b0 b1 b2 b3 b4 b5 b6 q0 q1 q2 q3 q4 q5 q6
    go_region
    rw [← hW9]
    clear hW9 a0 a1 a2 a3 a4 b0 b1 b2 b3 b4 b5 b6 c0 c1 c2 c3 c4 d0 d1 d2 d3 d4 d5 d6 e0 e1 e2 e3 e4 f0 f1 f2 f3 f4 f5 f6
    go_wp2_with fail
    exact bodyPost_ret (v := .tuple #[parV g N cp (i2) nd 0 pa, Nd.v (⟨kd, a.txt, false, noS, a.nm, 0, 0⟩ : Nd)]) (by simp [results, Tryz.results49, go_sem, p0, p1, p2, p3, p4, q0, q1, q2, q3, q4, q5, q6, leafN, patN, cntN, noS]) rfl HR.out

  obtain ⟨htx, hnf, hnb, hz1, hz2⟩ := sort_txt hso
  have Hk3 : Hid (∃ k3, ks[i2 + 1]? = some k3) := (toks_next H0.out.2.2.2.2.2 HK2.out hnf hnb).2
  have HA4 : Hid (argsM kd (ks.drop i) = if less a.txt k2.k.txt ∨ a.nm < k2.k.nm then .ok (ks.drop (i2 + 1), (⟨kd, a.txt, true, k2.k.txt, a.nm, k2.k.nm, 0⟩ : Nd)) else failF 7 (ks.drop i2)) := by
    show _ = _
    rw [HA3.out]
    unfold upM
    rw [(drop_hd HK2.out).1, if_pos hso, (drop_hd HK2.out).2.2]
  have HTx : Hid (tkT k2.k = k2.k.txt) := htx
  have HZ : Hid (a.nm = 0 ∧ k2.k.nm = 0) := ⟨Hz.out, hz1 rfl⟩
  rw [htx] at t2
  rw [hso] at zs'
  clear htx hnf hnb hz1 hz2 hso
  have hi3N : i2 + 1 < N := by
    obtain ⟨k3, hk3⟩ := Hk3.out
    rw [H0.out.1]; exact (List.getElem?_eq_some_iff.1 hk3).1
  obtain ⟨V3, hV3⟩ : ∃ V : World, V = V2.setCell ⟨w.heap.size + 3, 2, none⟩ (.bool true) := ⟨_, rfl⟩
  have HJ3 : Hid (AgJ w base g cp N nd pa ks i2 (⟨kd, a.txt, true, noS, a.nm, 0, 0⟩ : Nd) V3) := by rw [hV3]; exact HJ2.out.stepN 2 _ rfl
  have n2 := HJ2.out.n.cell (j := 2) rfl
  have m2 := HJ2.out.n.frozen 2
  go_upto_region 33 with fail
  rw [← hV3]
  clear hV3 n2 m2 a0 a1 t0 t1 t2 zs'
  obtain ⟨t0, t1, t2, t3⟩ := tk_cells HJ3.out.tk HK2.out
  have zs : tkT k2.k = k2.k.txt := HTx.out
  rw [zs] at t2
  clear zs
  have a0 := HJ3.out.p.cell (j := 0) rfl
  have a1 := HJ3.out.p.cell (j := 1) rfl
  obtain ⟨V4, hV4⟩ : ∃ V : World, V = V3.setCell ⟨w.heap.size + 3, 3, none⟩ (.string k2.k.txt) := ⟨_, rfl⟩
  have HJ4 : Hid (AgJ w base g cp N nd pa ks i2 (⟨kd, a.txt, true, k2.k.txt, a.nm, 0, 0⟩ : Nd) V4) := by rw [hV4]; exact HJ3.out.stepN 3 _ rfl
  have n3 := HJ3.out.n.cell (j := 3) rfl
  have m3 := HJ3.out.n.frozen 3
  go_upto_region 34 with fail
  rw [← hV4]
  clear hV4 n3 m3 a0 a1 t0 t1 t2 t3
  obtain ⟨t0, t1, t2, t3⟩ := tk_cells HJ4.out.tk HK2.out
  have a0 := HJ4.out.p.cell (j := 0) rfl
  have a1 := HJ4.out.p.cell (j := 1) rfl
  obtain ⟨V5, hV5⟩ : ∃ V : World, V = V4.setCell ⟨w.heap.size + 3, 5, none⟩ (.int .u64 k2.k.nm) := ⟨_, rfl⟩
  have HJ5x : Hid (AgJ w base g cp N nd pa ks i2 (⟨kd, a.txt, true, k2.k.txt, a.nm, k2.k.nm, 0⟩ : Nd) V5) := by rw [hV5]; exact HJ4.out.stepN 5 _ rfl
  have n5 := HJ4.out.n.cell (j := 5) rfl
  have m5 := HJ4.out.n.frozen 5
  go_upto_region 35 with fail
  rw [← hV5]
  clear hV5 n5 m5 a0 a1 t0 t1 t2 t3
  have g1 := HJ5x.out.n.cell (j := 1) rfl
  have g3 := HJ5x.out.n.cell (j := 3) rfl
  by_cases hls : less a.txt k2.k.txt
  case neg =>
    have hbl : Op.bytesLess a.txt.toList k2.k.txt.toList = false := by unfold less at hls; simpa using hls
    have HA5 : Hid (argsM kd (ks.drop i) = failF 7 (ks.drop i2)) := by
      show _ = _
      rw [HA4.out, if_neg (by rw [HZ.out.1, HZ.out.2]; intro q; rcases q with q | q
                              · exact hls q
                              · omega)]
    clear hls
    obtain ⟨cc, hcc⟩ : ∃ cc : Int, cc = if k2.k.isBad = true then 2 else 7 := ⟨_, rfl⟩
    have HFl : Hid (∀ wx, Below V5.heap.size V5 wx → Calls Tryz.prog 46 #[parV g N cp (i2) nd 0 pa, .int .i64 7] wx fun e w' => e = .returned (parV g N cp (i2) nd cc k2.pos) ∧ Below wx.heap.size wx w') := fun wx hx => by
      rw [hcc]
      exact l5Fail_core (HJ5x.out.tk.below hx) H0.out.1 hl HK2.out nd 0 pa 7
    have HAE : Hid (argsM kd (ks.drop i) = .error (cc, k2.pos) ∧ 1 ≤ cc) := ⟨by
      rw [HA5.out, hcc]
      unfold failF
      rw [(drop_hd HK2.out).1, (drop_hd HK2.out).2.1], by rw [hcc]; split <;> decide⟩
    clear hcc
    go_upto_region 36 with fail
    have hS0 : (fun w' : World => w'.cell? ⟨w.heap.size, 0, none⟩ = some (.slice (some ⟨g, 0, none⟩) N cp) ∧ w'.cell? ⟨w.heap.size, 1, none⟩ = some (.int .i64 ((i2 : Nat) : Int)) ∧ w'.cell? ⟨w.heap.size, 2, none⟩ = some (.int .i64 (nd : Int)) ∧ w'.cell? ⟨w.heap.size, 3, none⟩ = some (.int .i64 0) ∧ w'.cell? ⟨w.heap.size, 4, none⟩ = some (.int .i64 (pa : Int)) ∧ w'.cell? ⟨w.heap.size + 3, 0, none⟩ = some (.int .i64 kd) ∧ w'.cell? ⟨w.heap.size + 3, 1, none⟩ = some (.string a.txt) ∧ w'.cell? ⟨w.heap.size + 3, 2, none⟩ = some (.bool true) ∧ w'.cell? ⟨w.heap.size + 3, 3, none⟩ = some (.string k2.k.txt) ∧ w'.cell? ⟨w.heap.size + 3, 4, none⟩ = some (.int .u64 a.nm) ∧ w'.cell? ⟨w.heap.size + 3, 5, none⟩ = some (.int .u64 k2.k.nm) ∧ w'.cell? ⟨w.heap.size + 3, 6, none⟩ = some (.int .i64 0)) V5.drew := ⟨HJ5x.out.p.cell (j := 0) rfl, HJ5x.out.p.cell (j := 1) rfl, HJ5x.out.p.cell (j := 2) rfl, HJ5x.out.p.cell (j := 3) rfl, HJ5x.out.p.cell (j := 4) rfl, HJ5x.out.n.cell (j := 0) rfl, HJ5x.out.n.cell (j := 1) rfl, HJ5x.out.n.cell (j := 2) rfl, HJ5x.out.n.cell (j := 3) rfl, HJ5x.out.n.cell (j := 4) rfl, HJ5x.out.n.cell (j := 5) rfl, HJ5x.out.n.cell (j := 6) rfl⟩
    refine wp_region_T 99 (fun w' : World => w'.cell? ⟨w.heap.size, 0, none⟩ = some (.slice (some ⟨g, 0, none⟩) N cp) ∧ w'.cell? ⟨w.heap.size, 1, none⟩ = some (.int .i64 ((i2 : Nat) : Int)) ∧ w'.cell? ⟨w.heap.size, 2, none⟩ = some (.int .i64 (nd : Int)) ∧ w'.cell? ⟨w.heap.size, 3, none⟩ = some (.int .i64 0) ∧ w'.cell? ⟨w.heap.size, 4, none⟩ = some (.int .i64 (pa : Int)) ∧ w'.cell? ⟨w.heap.size + 3, 0, none⟩ = some (.int .i64 kd) ∧ w'.cell? ⟨w.heap.size + 3, 1, none⟩ = some (.string a.txt) ∧ w'.cell? ⟨w.heap.size + 3, 2, none⟩ = some (.bool true) ∧ w'.cell? ⟨w.heap.size + 3, 3, none⟩ = some (.string k2.k.txt) ∧ w'.cell? ⟨w.heap.size + 3, 4, none⟩ = some (.int .u64 a.nm) ∧ w'.cell? ⟨w.heap.size + 3, 5, none⟩ = some (.int .u64 k2.k.nm) ∧ w'.cell? ⟨w.heap.size + 3, 6, none⟩ = some (.int .i64 0)) (by kernel_rfl) ?_
    refine anyT_takeN (i := 0) (v := ?vrsbg0) rfl (by kernel_rfl) (by kernel_rfl) (by kernel_rfl) (by rfl) (fun _ _ _ h => h) (Or.inl ⟨by rfl, ?yrsbg0⟩) hS0 ?_
    case yrsbg0 => (intro wz hSw; obtain ⟨hz0, hz1, hz2, hz3, hz4, hz5, hz6, hz7, hz8, hz9, hz10, hz11⟩ := hSw; go_simp; (try with_reducible rfl))
    try simp only [Act.put, List.getElem_toArray, List.getElem_cons_zero, List.getElem_cons_succ, List.setIfInBounds_toArray, List.set_cons_zero, List.set_cons_succ]
    refine anyT_takeN (i := 2) (v := ?vrsbg2) rfl (by kernel_rfl) (by kernel_rfl) (by kernel_rfl) (by rfl) (fun _ _ _ h => h) (Or.inl ⟨by rfl, ?yrsbg2⟩) hS0 ?_
    case yrsbg2 => (intro wz hSw; obtain ⟨hz0, hz1, hz2, hz3, hz4, hz5, hz6, hz7, hz8, hz9, hz10, hz11⟩ := hSw; go_simp; (try with_reducible rfl))
    try simp only [Act.put, List.getElem_toArray, List.getElem_cons_zero, List.getElem_cons_succ, List.setIfInBounds_toArray, List.set_cons_zero, List.set_cons_succ]
    refine anyT_one (i := 1) (by kernel_rfl) rfl (fun K hK => ?_)
    go_simp
    go_at_call 46
    refine (HFl.out V5.drew (Below.refl _ _).drew).mono ?_
    rintro e w5 ⟨rfl, hb5⟩
    have HJ5 : Hid (AgJ w base g cp N nd pa ks (i2) (⟨kd, a.txt, true, k2.k.txt, a.nm, k2.k.nm, 0⟩ : Nd) w5) := HJ5x.out.up (((Below.refl _ _).drew).trans (hb5.mono (Nat.le_refl _)))
    have hS5 : (fun w' : World => w'.cell? ⟨w.heap.size, 0, none⟩ = some (.slice (some ⟨g, 0, none⟩) N cp) ∧ w'.cell? ⟨w.heap.size, 1, none⟩ = some (.int .i64 ((i2 : Nat) : Int)) ∧ w'.cell? ⟨w.heap.size, 2, none⟩ = some (.int .i64 (nd : Int)) ∧ w'.cell? ⟨w.heap.size, 3, none⟩ = some (.int .i64 0) ∧ w'.cell? ⟨w.heap.size, 4, none⟩ = some (.int .i64 (pa : Int)) ∧ w'.cell? ⟨w.heap.size + 3, 0, none⟩ = some (.int .i64 kd) ∧ w'.cell? ⟨w.heap.size + 3, 1, none⟩ = some (.string a.txt) ∧ w'.cell? ⟨w.heap.size + 3, 2, none⟩ = some (.bool true) ∧ w'.cell? ⟨w.heap.size + 3, 3, none⟩ = some (.string k2.k.txt) ∧ w'.cell? ⟨w.heap.size + 3, 4, none⟩ = some (.int .u64 a.nm) ∧ w'.cell? ⟨w.heap.size + 3, 5, none⟩ = some (.int .u64 k2.k.nm) ∧ w'.cell? ⟨w.heap.size + 3, 6, none⟩ = some (.int .i64 0)) w5 := ⟨HJ5.out.p.cell (j := 0) rfl, HJ5.out.p.cell (j := 1) rfl, HJ5.out.p.cell (j := 2) rfl, HJ5.out.p.cell (j := 3) rfl, HJ5.out.p.cell (j := 4) rfl, HJ5.out.n.cell (j := 0) rfl, HJ5.out.n.cell (j := 1) rfl, HJ5.out.n.cell (j := 2) rfl, HJ5.out.n.cell (j := 3) rfl, HJ5.out.n.cell (j := 4) rfl, HJ5.out.n.cell (j := 5) rfl, HJ5.out.n.cell (j := 6) rfl⟩
    refine hK.out _ _ (.inr hS5) ?_
    clear hK hb5 HFl
    try simp only [Act.put, List.getElem_toArray, List.getElem_cons_zero, List.getElem_cons_succ, List.setIfInBounds_toArray, List.set_cons_zero, List.set_cons_succ]
    have c0 := HJ5.out.rp.cell (j := 0) rfl
    have c1 := HJ5.out.rp.cell (j := 1) rfl
    have c2 := HJ5.out.rp.cell (j := 2) rfl
    have c3 := HJ5.out.rp.cell (j := 3) rfl
    have c4 := HJ5.out.rp.cell (j := 4) rfl
    have e0 := HJ5.out.rp.frozen 0
    have e1 := HJ5.out.rp.frozen 1
    have e2 := HJ5.out.rp.frozen 2
    have e3 := HJ5.out.rp.frozen 3
    have e4 := HJ5.out.rp.frozen 4
    obtain ⟨W6, hW6⟩ : ∃ V : World, V = setP w5 (w.heap.size + 1) (.slice (some ⟨g, 0, none⟩) N cp) (.int .i64 ((i2 : Nat) : Int)) (.int .i64 (nd : Int)) (.int .i64 cc) (.int .i64 (k2.pos : Int)) := ⟨_, rfl⟩
    have hc6 : Chg (fun k => k = w.heap.size + 1) w5 W6 := by rw [hW6]; exact chg_setP _ _ _ _ _ _ _
    have hp6 := HJ5.out.p.chg hc6 (by omega)
    have hn6 := HJ5.out.n.chg hc6 (by omega)
    have hr6 := HJ5.out.rn.chg hc6 (by omega)
    have hS6 : (fun w' : World => w'.cell? ⟨w.heap.size, 0, none⟩ = some (.slice (some ⟨g, 0, none⟩) N cp) ∧ w'.cell? ⟨w.heap.size, 1, none⟩ = some (.int .i64 ((i2 : Nat) : Int)) ∧ w'.cell? ⟨w.heap.size, 2, none⟩ = some (.int .i64 (nd : Int)) ∧ w'.cell? ⟨w.heap.size, 3, none⟩ = some (.int .i64 0) ∧ w'.cell? ⟨w.heap.size, 4, none⟩ = some (.int .i64 (pa : Int)) ∧ w'.cell? ⟨w.heap.size + 3, 0, none⟩ = some (.int .i64 kd) ∧ w'.cell? ⟨w.heap.size + 3, 1, none⟩ = some (.string a.txt) ∧ w'.cell? ⟨w.heap.size + 3, 2, none⟩ = some (.bool true) ∧ w'.cell? ⟨w.heap.size + 3, 3, none⟩ = some (.string k2.k.txt) ∧ w'.cell? ⟨w.heap.size + 3, 4, none⟩ = some (.int .u64 a.nm) ∧ w'.cell? ⟨w.heap.size + 3, 5, none⟩ = some (.int .u64 k2.k.nm) ∧ w'.cell? ⟨w.heap.size + 3, 6, none⟩ = some (.int .i64 0)) W6 := ⟨hp6.cell (j := 0) rfl, hp6.cell (j := 1) rfl, hp6.cell (j := 2) rfl, hp6.cell (j := 3) rfl, hp6.cell (j := 4) rfl, hn6.cell (j := 0) rfl, hn6.cell (j := 1) rfl, hn6.cell (j := 2) rfl, hn6.cell (j := 3) rfl, hn6.cell (j := 4) rfl, hn6.cell (j := 5) rfl, hn6.cell (j := 6) rfl⟩
    have d0 := hr6.cell (j := 0) rfl
    have d1 := hr6.cell (j := 1) rfl
    have d2 := hr6.cell (j := 2) rfl
    have d3 := hr6.cell (j := 3) rfl
    have d4 := hr6.cell (j := 4) rfl
    have d5 := hr6.cell (j := 5) rfl
    have d6 := hr6.cell (j := 6) rfl
    have f0 := hr6.frozen 0
    have f1 := hr6.frozen 1
    have f2 := hr6.frozen 2
    have f3 := hr6.frozen 3
    have f4 := hr6.frozen 4
    have f5 := hr6.frozen 5
    have f6 := hr6.frozen 6
    obtain ⟨W9, hW9⟩ : ∃ V : World, V = setN W6 (w.heap.size + 2) (⟨kd, a.txt, true, k2.k.txt, a.nm, k2.k.nm, 0⟩ : Nd) := ⟨_, rfl⟩
    have hc9 : Chg (fun k => k = w.heap.size + 2) W6 W9 := by rw [hW9]; exact chg_setN _ _ _
    have hp9 := hp6.chg hc9 (by omega)
    have hn9 := hn6.chg hc9 (by omega)
    have hS9 : (fun w' : World => w'.cell? ⟨w.heap.size, 0, none⟩ = some (.slice (some ⟨g, 0, none⟩) N cp) ∧ w'.cell? ⟨w.heap.size, 1, none⟩ = some (.int .i64 ((i2 : Nat) : Int)) ∧ w'.cell? ⟨w.heap.size, 2, none⟩ = some (.int .i64 (nd : Int)) ∧ w'.cell? ⟨w.heap.size, 3, none⟩ = some (.int .i64 0) ∧ w'.cell? ⟨w.heap.size, 4, none⟩ = some (.int .i64 (pa : Int)) ∧ w'.cell? ⟨w.heap.size + 3, 0, none⟩ = some (.int .i64 kd) ∧ w'.cell? ⟨w.heap.size + 3, 1, none⟩ = some (.string a.txt) ∧ w'.cell? ⟨w.heap.size + 3, 2, none⟩ = some (.bool true) ∧ w'.cell? ⟨w.heap.size + 3, 3, none⟩ = some (.string k2.k.txt) ∧ w'.cell? ⟨w.heap.size + 3, 4, none⟩ = some (.int .u64 a.nm) ∧ w'.cell? ⟨w.heap.size + 3, 5, none⟩ = some (.int .u64 k2.k.nm) ∧ w'.cell? ⟨w.heap.size + 3, 6, none⟩ = some (.int .i64 0)) W9 := ⟨hp9.cell (j := 0) rfl, hp9.cell (j := 1) rfl, hp9.cell (j := 2) rfl, hp9.cell (j := 3) rfl, hp9.cell (j := 4) rfl, hn9.cell (j := 0) rfl, hn9.cell (j := 1) rfl, hn9.cell (j := 2) rfl, hn9.cell (j := 3) rfl, hn9.cell (j := 4) rfl, hn9.cell (j := 5) rfl, hn9.cell (j := 6) rfl⟩
    have HF : Hid (BoxAt W9 w.heap.size 41 5 (w.heap.size + 1) [.slice (some ⟨g, 0, none⟩) N cp, .int .i64 ((i2 : Nat) : Int), .int .i64 (nd : Int), .int .i64 cc, .int .i64 (k2.pos : Int)] ∧ BoxAt W9 w.heap.size 65 7 (w.heap.size + 2) (Nd.seven (⟨kd, a.txt, true, k2.k.txt, a.nm, k2.k.nm, 0⟩ : Nd)) ∧ Below w.heap.size w W9) := by
      have hf := HJ5.out.fin (.slice (some ⟨g, 0, none⟩) N cp) (.int .i64 ((i2 : Nat) : Int)) (.int .i64 (nd : Int)) (.int .i64 cc) (.int .i64 (k2.pos : Int)) (⟨kd, a.txt, true, k2.k.txt, a.nm, k2.k.nm, 0⟩ : Nd)
      rw [hW9, hW6]
      exact hf
    have HR : Hid (ArgP base g cp N nd pa ks kd i w (.returned (.tuple #[parV g N cp (i2) nd cc k2.pos, Nd.v (⟨kd, a.txt, true, k2.k.txt, a.nm, k2.k.nm, 0⟩ : Nd)])) W9) := ⟨HF.out.2.2, .inr ⟨cc, k2.pos, i2, (⟨kd, a.txt, true, k2.k.txt, a.nm, k2.k.nm, 0⟩ : Nd), HAE.out.1, HAE.out.2, rfl⟩⟩
    have p0 := HF.out.1.cell (j := 0) rfl
    have p1 := HF.out.1.cell (j := 1) rfl
    have p2 := HF.out.1.cell (j := 2) rfl
    have p3 := HF.out.1.cell (j := 3) rfl
    have p4 := HF.out.1.cell (j := 4) rfl
    have q0 := HF.out.2.1.cell (j := 0) rfl
    have q1 := HF.out.2.1.cell (j := 1) rfl
    have q2 := HF.out.2.1.cell (j := 2) rfl
    have q3 := HF.out.2.1.cell (j := 3) rfl
    have q4 := HF.out.2.1.cell (j := 4) rfl
    have q5 := HF.out.2.1.cell (j := 5) rfl
    have q6 := HF.out.2.1.cell (j := 6) rfl
    unfold setP at hW6
    unfold setN at hW9
    clear hp6 hn6 hr6 hp9 hn9 hc6 hc9
    simp only [leafN, patN, cntN, noS] at hW9 q0 q1 q2 q3 q4 q5 q6
    refine anyT_one (i := 3) (by kernel_rfl) rfl (fun K hK => ?_)
    go_simp
    rw [← hW6]
    refine hK.out _ _ (.inr hS6) ?_
    clear hK hW6
    try simp only [Act.put, List.getElem_toArray, List.getElem_cons_zero, List.getElem_cons_succ, List.setIfInBounds_toArray, List.set_cons_zero, List.set_cons_succ]
    refine anyT_one (i := 4) (by kernel_rfl) rfl (fun K hK => ?_)
    go_simp
    rw [← hW9]
    refine hK.out _ _ (.inr hS9) ?_
    clear hK hW9
    try simp only [Act.put, List.getElem_toArray, List.getElem_cons_zero, List.getElem_cons_succ, List.setIfInBounds_toArray, List.set_cons_zero, List.set_cons_succ]
    refine anyT_done (by kernel_rfl) ?_
    clear hS0 hS5 hS6 hS9 c0 c1 c2 c3 c4 d0 d1 d2 d3 d4 d5 d6 e0 e1 e2 e3 e4 f0 f1 f2 f3 f4 f5 f6
    go_wp2_with fail
    exact bodyPost_ret (v := .tuple #[parV g N cp (i2) nd cc k2.pos, Nd.v (⟨kd, a.txt, true, k2.k.txt, a.nm, k2.k.nm, 0⟩ : Nd)]) (by simp [results, Tryz.results49, go_sem, p0, p1, p2, p3, p4, q0, q1, q2, q3, q4, q5, q6, leafN, patN, cntN, noS]) rfl HR.out

  have hbl : Op.bytesLess a.txt.toList k2.k.txt.toList = true := hls
  have HA5 : Hid (argsM kd (ks.drop i) = .ok (ks.drop (i2 + 1), (⟨kd, a.txt, true, k2.k.txt, a.nm, k2.k.nm, 0⟩ : Nd))) := by
    show _ = _
    rw [HA4.out, if_pos (.inl hls)]
  clear hls
  obtain ⟨V6, hV6⟩ : ∃ V : World, V = V5.setCell ⟨w.heap.size, 1, none⟩ (.int .i64 ((i2 : Int) + 1)) := ⟨_, rfl⟩
  obtain ⟨i3, hi3⟩ : ∃ ix, ix = i2 + 1 := ⟨_, rfl⟩
  have HJ6 : Hid (AgJ w base g cp N nd pa ks i3 (⟨kd, a.txt, true, k2.k.txt, a.nm, k2.k.nm, 0⟩ : Nd) V6) := by rw [hV6, hi3]; exact HJ5x.out.stepI _ (by simp)
  have Hi3 : Hid (i3 = i2 + 1) := hi3
  have hilei3 : i2 ≤ i3 := by omega
  clear hi3
  have a1 := HJ5x.out.p.cell (j := 1) rfl
  have ia := HJ5x.out.p.frozen 1
  go_upto_region 38 with fail
  rw [← hV6]
  have hi3 : i3 < N := by rw [Hi3.out]; exact hi3N
  clear hV6 a1 ia hbl
  have a0 := HJ6.out.p.cell (j := 0) rfl
  have a1 := HJ6.out.p.cell (j := 1) rfl
  have a2 := HJ6.out.p.cell (j := 2) rfl
  have a3 := HJ6.out.p.cell (j := 3) rfl
  have a4 := HJ6.out.p.cell (j := 4) rfl
  have b0 := HJ6.out.n.cell (j := 0) rfl
  have b1 := HJ6.out.n.cell (j := 1) rfl
  have b2 := HJ6.out.n.cell (j := 2) rfl
  have b3 := HJ6.out.n.cell (j := 3) rfl
  have b4 := HJ6.out.n.cell (j := 4) rfl
  have b5 := HJ6.out.n.cell (j := 5) rfl
  have b6 := HJ6.out.n.cell (j := 6) rfl
  have c0 := HJ6.out.rp.cell (j := 0) rfl
  have c1 := HJ6.out.rp.cell (j := 1) rfl
  have c2 := HJ6.out.rp.cell (j := 2) rfl
  have c3 := HJ6.out.rp.cell (j := 3) rfl
  have c4 := HJ6.out.rp.cell (j := 4) rfl
  have d0 := HJ6.out.rn.cell (j := 0) rfl
  have d1 := HJ6.out.rn.cell (j := 1) rfl
  have d2 := HJ6.out.rn.cell (j := 2) rfl
  have d3 := HJ6.out.rn.cell (j := 3) rfl
  have d4 := HJ6.out.rn.cell (j := 4) rfl
  have d5 := HJ6.out.rn.cell (j := 5) rfl
  have d6 := HJ6.out.rn.cell (j := 6) rfl
  have e0 := HJ6.out.rp.frozen 0
  have e1 := HJ6.out.rp.frozen 1
  have e2 := HJ6.out.rp.frozen 2
  have e3 := HJ6.out.rp.frozen 3
  have e4 := HJ6.out.rp.frozen 4
  have f0 := HJ6.out.rn.frozen 0
  have f1 := HJ6.out.rn.frozen 1
  have f2 := HJ6.out.rn.frozen 2
  have f3 := HJ6.out.rn.frozen 3
  have f4 := HJ6.out.rn.frozen 4
  have f5 := HJ6.out.rn.frozen 5
  have f6 := HJ6.out.rn.frozen 6
  obtain ⟨W9, hW9⟩ : ∃ V : World, V = (setN (setP V6 (w.heap.size + 1) (.slice (some ⟨g, 0, none⟩) N cp) (.int .i64 (i3 : Int)) (.int .i64 (nd : Int)) (.int .i64 0) (.int .i64 (pa : Int))) (w.heap.size + 2) (⟨kd, a.txt, true, k2.k.txt, a.nm, k2.k.nm, 0⟩ : Nd)).drew := ⟨_, rfl⟩
  have HF : Hid (BoxAt W9 w.heap.size 41 5 (w.heap.size + 1) [.slice (some ⟨g, 0, none⟩) N cp, .int .i64 (i3 : Int), .int .i64 (nd : Int), .int .i64 0, .int .i64 (pa : Int)] ∧ BoxAt W9 w.heap.size 65 7 (w.heap.size + 2) (Nd.seven (⟨kd, a.txt, true, k2.k.txt, a.nm, k2.k.nm, 0⟩ : Nd)) ∧ Below w.heap.size w W9) := by
    have hf := HJ6.out.fin (.slice (some ⟨g, 0, none⟩) N cp) (.int .i64 (i3 : Int)) (.int .i64 (nd : Int)) (.int .i64 0) (.int .i64 (pa : Int)) (⟨kd, a.txt, true, k2.k.txt, a.nm, k2.k.nm, 0⟩ : Nd)
    have hd : ∀ X : World, Below X.heap.size X X.drew := fun X => (Below.refl _ _).drew
    rw [hW9]
    exact ⟨hf.1.below (hd _), hf.2.1.below (hd _), hf.2.2.trans ((hd _).mono hf.2.2.size)⟩
  have HR : Hid (ArgP base g cp N nd pa ks kd i w (.returned (.tuple #[parV g N cp (i3) nd 0 pa, Nd.v (⟨kd, a.txt, true, k2.k.txt, a.nm, k2.k.nm, 0⟩ : Nd)])) W9) := ⟨HF.out.2.2, .inl ⟨i3, (⟨kd, a.txt, true, k2.k.txt, a.nm, k2.k.nm, 0⟩ : Nd), by rw [Hi3.out]; exact HA5.out, by omega, by omega, rfl⟩⟩
  have p0 := HF.out.1.cell (j := 0) rfl
  have p1 := HF.out.1.cell (j := 1) rfl
  have p2 := HF.out.1.cell (j := 2) rfl
  have p3 := HF.out.1.cell (j := 3) rfl
  have p4 := HF.out.1.cell (j := 4) rfl
  have q0 := HF.out.2.1.cell (j := 0) rfl
  have q1 := HF.out.2.1.cell (j := 1) rfl
  have q2 := HF.out.2.1.cell (j := 2) rfl
  have q3 := HF.out.2.1.cell (j := 3) rfl
  have q4 := HF.out.2.1.cell (j := 4) rfl
  have q5 := HF.out.2.1.cell (j := 5) rfl
  have q6 := HF.out.2.1.cell (j := 6) rfl
  unfold setN setP at hW9
  simp only [leafN, patN, cntN, noS] at hW9 b0 b1 b2 b3 b4 b5 b6 q0 q1 q2 q3 q4 q5 q6
  go_region
  rw [← hW9]
  clear hW9 a0 a1 a2 a3 a4 b0 b1 b2 b3 b4 b5 b6 c0 c1 c2 c3 c4 d0 d1 d2 d3 d4 d5 d6 e0 e1 e2 e3 e4 f0 f1 f2 f3 f4 f5 f6
  go_wp2_with fail
  exact bodyPost_ret (v := .tuple #[parV g N cp (i3) nd 0 pa, Nd.v (⟨kd, a.txt, true, k2.k.txt, a.nm, k2.k.nm, 0⟩ : Nd)]) (by simp [results, Tryz.results49, go_sem, p0, p1, p2, p3, p4, q0, q1, q2, q3, q4, q5, q6, leafN, patN, cntN, noS]) rfl HR.out

set_option maxHeartbeats 16000000 in
theorem args_rn {w : World} {base g cp N nd pa : Nat} {ks : List Tk} {i : Nat} {k : Tk} (h : OwnTk w base g cp ks) (hN : N = ks.length) (hl : N ≤ 1000000) (hk : ks[i]? = some k) (hT : Toks ks) (kd : Int) (hkd : kd = 10) : Calls Tryz.prog 49 #[parV g N cp i nd 0 pa, .int .i64 kd] w (ArgP base g cp N nd pa ks kd i w) := by
  have HAr : Hid (argsM kd (ks.drop i) = rangeM kd false (ks.drop i)) := by
    show _ = _
    unfold argsM
    rw [if_neg (by omega), if_neg (by omega), if_neg (by omega), if_pos (by omega)]
  have y1 : ¬ kd ≤ 3 := by omega
  have y2 : ¬ kd ≤ 7 := by omega
  have y3 : ¬ 11 ≤ kd := by omega
  have HKd : Hid (kd = 10) := hkd
  clear hkd
  obtain ⟨W0, hW0⟩ : ∃ W0 : World, W0 = (((w.alloc (Obj.cells #[.slice (some ⟨g, 0, none⟩) N cp, .int .i64 (i : Int), .int .i64 (nd : Int), .int .i64 0, .int .i64 (pa : Int)] 41)).alloc (Obj.cells #[.slice none 0 0, .int .i64 0, .int .i64 0, .int .i64 0, .int .i64 0] 41)).alloc (Obj.cells #[.int .i64 0, .string ⟨#[]⟩, .bool false, .string ⟨#[]⟩, .int .u64 0, .int .u64 0, .int .i64 0] 65)).alloc (Obj.cells #[.int .i64 kd, .string ⟨#[]⟩, .bool false, .string ⟨#[]⟩, .int .u64 0, .int .u64 0, .int .i64 0] 65) := ⟨_, rfl⟩
  have HJ0 : Hid (AgJ w base g cp N nd pa ks i (leafN kd) W0) := ag_start kd h hW0
  have hi : i < N := by rw [hN]; exact (List.getElem?_eq_some_iff.1 hk).1
  have zi : (i : Int) < (N : Int) := by omega
  have H0 : Hid (N = ks.length ∧ ks[i]? = some k ∧ hdK (ks.drop i) = k.k ∧ hdA (ks.drop i) = k.pos ∧ (ks.drop i).tail = ks.drop (i + 1) ∧ Toks ks) := ⟨hN, hk, (drop_hd hk).1, (drop_hd hk).2.1, (drop_hd hk).2.2, hT⟩
  have hgl := h.lt.2
  clear h hN hk hT
  go_enter Tryz.func49, Tryz.ntmps49
  go_upto_region 2 with fail
  rw [← hW0]
  clear hW0
  have b0 := HJ0.out.n.cell (j := 0) rfl
  have b1 := HJ0.out.n.cell (j := 1) rfl
  have b2 := HJ0.out.n.cell (j := 2) rfl
  have b3 := HJ0.out.n.cell (j := 3) rfl
  have b4 := HJ0.out.n.cell (j := 4) rfl
  have b5 := HJ0.out.n.cell (j := 5) rfl
  have b6 := HJ0.out.n.cell (j := 6) rfl
  simp only [leafN, noS] at b0 b1 b2 b3 b4 b5 b6
  go_wp2_with fail
  refine (l5Ends_no kd ⟨#[]⟩ ⟨#[]⟩ false 0 0 0 W0 HKd.out).mono ?_
  rintro e v0 ⟨rfl, hb0⟩
  have HV0 : Hid (AgJ w base g cp N nd pa ks i (leafN kd) v0) := HJ0.out.up hb0
  clear hb0 b0 b1 b2 b3 b4 b5 b6
  go_upto_region 24 with fail
  clear y1 y2 y3
  obtain ⟨t0, t1, t2, t3⟩ := tk_cells HV0.out.tk H0.out.2.1
  have zs := sort_tk k.k false
  have zs' : (tkN k.k == 2) = k.k.isSort false := zs
  clear zs t3
  have a0 := HV0.out.p.cell (j := 0) rfl
  have a1 := HV0.out.p.cell (j := 1) rfl
  cases hso : k.k.isSort false
  case false =>
    rw [hso] at zs'
    obtain ⟨a, ha⟩ : ∃ a : TkK, a = .fin := ⟨_, rfl⟩
    have HA : Hid (argsM kd (ks.drop i) = dotsM kd false a (ks.drop i)) := by
      show _ = _
      rw [HAr.out]
      unfold rangeM
      rw [H0.out.2.2.1, if_neg (by rw [hso]; simp), ha]
    have HV1 : Hid (AgJ w base g cp N nd pa ks i (⟨kd, a.txt, false, noS, a.nm, 0, 0⟩ : Nd) v0) := by rw [ha]; exact HV0.out
    have Hz : Hid (a.txt = noS) := by rw [ha]; rfl
    have Hk : Hid (ks[i]? = some k) := H0.out.2.1
    clear hso ha t1 t2
    go_upto_region 28 with fail
    clear t0 zs' a0 a1
    have HIs : Hid (Calls Tryz.prog 48 #[parV g N cp i nd 0 pa, .string ⟨#[46, 46]⟩] v0 fun e w' => e = .returned (.bool (k.k.isSign 46)) ∧ Below v0.heap.size v0 w') := l5IsSym_core HV1.out.tk H0.out.1 hl Hk.out (toks_kind H0.out.2.2.2.2.2 Hk.out) nd 0 pa 46 ⟨#[46, 46]⟩ (by rw [ByteArray.toList_eq]; rfl)
    have a0 := HV1.out.p.cell (j := 0) rfl
    have a1 := HV1.out.p.cell (j := 1) rfl
    have a2 := HV1.out.p.cell (j := 2) rfl
    have a3 := HV1.out.p.cell (j := 3) rfl
    have a4 := HV1.out.p.cell (j := 4) rfl
    go_wp2_with fail
    refine HIs.out.mono ?_
    clear HIs
    rintro e v1 ⟨rfl, hb1⟩
    have HV : Hid (AgJ w base g cp N nd pa ks i (⟨kd, a.txt, false, noS, a.nm, 0, 0⟩ : Nd) v1) := HV1.out.up hb1
    clear hb1 a0 a1 a2 a3 a4
    cases hsg : k.k.isSign 46
    case false =>
      have HA2 : Hid (argsM kd (ks.drop i) = failF 3 (ks.drop i)) := by
        show _ = _
        rw [HA.out]
        unfold dotsM
        rw [(drop_hd Hk.out).1, if_neg (by rw [hsg]; simp)]
      clear hsg
      obtain ⟨cc, hcc⟩ : ∃ cc : Int, cc = if k.k.isBad = true then 2 else 3 := ⟨_, rfl⟩
      have HFl : Hid (∀ wx, Below v1.heap.size v1 wx → Calls Tryz.prog 46 #[parV g N cp (i) nd 0 pa, .int .i64 3] wx fun e w' => e = .returned (parV g N cp (i) nd cc k.pos) ∧ Below wx.heap.size wx w') := fun wx hx => by
        rw [hcc]
        exact l5Fail_core (HV.out.tk.below hx) H0.out.1 hl Hk.out nd 0 pa 3
      have HAE : Hid (argsM kd (ks.drop i) = .error (cc, k.pos) ∧ 1 ≤ cc) := ⟨by
        rw [HA2.out, hcc]
        unfold failF
        rw [(drop_hd Hk.out).1, (drop_hd Hk.out).2.1], by rw [hcc]; split <;> decide⟩
      clear hcc
      go_upto_region 29 with fail
      have hS0 : (fun w' : World => w'.cell? ⟨w.heap.size, 0, none⟩ = some (.slice (some ⟨g, 0, none⟩) N cp) ∧ w'.cell? ⟨w.heap.size, 1, none⟩ = some (.int .i64 ((i : Nat) : Int)) ∧ w'.cell? ⟨w.heap.size, 2, none⟩ = some (.int .i64 (nd : Int)) ∧ w'.cell? ⟨w.heap.size, 3, none⟩ = some (.int .i64 0) ∧ w'.cell? ⟨w.heap.size, 4, none⟩ = some (.int .i64 (pa : Int)) ∧ w'.cell? ⟨w.heap.size + 3, 0, none⟩ = some (.int .i64 kd) ∧ w'.cell? ⟨w.heap.size + 3, 1, none⟩ = some (.string a.txt) ∧ w'.cell? ⟨w.heap.size + 3, 2, none⟩ = some (.bool false) ∧ w'.cell? ⟨w.heap.size + 3, 3, none⟩ = some (.string ⟨#[]⟩) ∧ w'.cell? ⟨w.heap.size + 3, 4, none⟩ = some (.int .u64 a.nm) ∧ w'.cell? ⟨w.heap.size + 3, 5, none⟩ = some (.int .u64 0) ∧ w'.cell? ⟨w.heap.size + 3, 6, none⟩ = some (.int .i64 0)) v1.drew := ⟨HV.out.p.cell (j := 0) rfl, HV.out.p.cell (j := 1) rfl, HV.out.p.cell (j := 2) rfl, HV.out.p.cell (j := 3) rfl, HV.out.p.cell (j := 4) rfl, HV.out.n.cell (j := 0) rfl, HV.out.n.cell (j := 1) rfl, HV.out.n.cell (j := 2) rfl, HV.out.n.cell (j := 3) rfl, HV.out.n.cell (j := 4) rfl, HV.out.n.cell (j := 5) rfl, HV.out.n.cell (j := 6) rfl⟩
      refine wp_region_T 99 (fun w' : World => w'.cell? ⟨w.heap.size, 0, none⟩ = some (.slice (some ⟨g, 0, none⟩) N cp) ∧ w'.cell? ⟨w.heap.size, 1, none⟩ = some (.int .i64 ((i : Nat) : Int)) ∧ w'.cell? ⟨w.heap.size, 2, none⟩ = some (.int .i64 (nd : Int)) ∧ w'.cell? ⟨w.heap.size, 3, none⟩ = some (.int .i64 0) ∧ w'.cell? ⟨w.heap.size, 4, none⟩ = some (.int .i64 (pa : Int)) ∧ w'.cell? ⟨w.heap.size + 3, 0, none⟩ = some (.int .i64 kd) ∧ w'.cell? ⟨w.heap.size + 3, 1, none⟩ = some (.string a.txt) ∧ w'.cell? ⟨w.heap.size + 3, 2, none⟩ = some (.bool false) ∧ w'.cell? ⟨w.heap.size + 3, 3, none⟩ = some (.string ⟨#[]⟩) ∧ w'.cell? ⟨w.heap.size + 3, 4, none⟩ = some (.int .u64 a.nm) ∧ w'.cell? ⟨w.heap.size + 3, 5, none⟩ = some (.int .u64 0) ∧ w'.cell? ⟨w.heap.size + 3, 6, none⟩ = some (.int .i64 0)) (by kernel_rfl) ?_
      refine anyT_takeN (i := 0) (v := ?vrnaf0) rfl (by kernel_rfl) (by kernel_rfl) (by kernel_rfl) (by rfl) (fun _ _ _ h => h) (Or.inl ⟨by rfl, ?yrnaf0⟩) hS0 ?_
      case yrnaf0 => (intro wz hSw; obtain ⟨hz0, hz1, hz2, hz3, hz4, hz5, hz6, hz7, hz8, hz9, hz10, hz11⟩ := hSw; go_simp; (try with_reducible rfl))
      try simp only [Act.put, List.getElem_toArray, List.getElem_cons_zero, List.getElem_cons_succ, List.setIfInBounds_toArray, List.set_cons_zero, List.set_cons_succ]
      refine anyT_takeN (i := 2) (v := ?vrnaf2) rfl (by kernel_rfl) (by kernel_rfl) (by kernel_rfl) (by rfl) (fun _ _ _ h => h) (Or.inl ⟨by rfl, ?yrnaf2⟩) hS0 ?_
      case yrnaf2 => (intro wz hSw; obtain ⟨hz0, hz1, hz2, hz3, hz4, hz5, hz6, hz7, hz8, hz9, hz10, hz11⟩ := hSw; go_simp; (try with_reducible rfl))
      try simp only [Act.put, List.getElem_toArray, List.getElem_cons_zero, List.getElem_cons_succ, List.setIfInBounds_toArray, List.set_cons_zero, List.set_cons_succ]
      refine anyT_one (i := 1) (by kernel_rfl) rfl (fun K hK => ?_)
      go_simp
      go_at_call 46
      refine (HFl.out v1.drew (Below.refl _ _).drew).mono ?_
      rintro e w5 ⟨rfl, hb5⟩
      have HJ5 : Hid (AgJ w base g cp N nd pa ks (i) (⟨kd, a.txt, false, noS, a.nm, 0, 0⟩ : Nd) w5) := HV.out.up (((Below.refl _ _).drew).trans (hb5.mono (Nat.le_refl _)))
      have hS5 : (fun w' : World => w'.cell? ⟨w.heap.size, 0, none⟩ = some (.slice (some ⟨g, 0, none⟩) N cp) ∧ w'.cell? ⟨w.heap.size, 1, none⟩ = some (.int .i64 ((i : Nat) : Int)) ∧ w'.cell? ⟨w.heap.size, 2, none⟩ = some (.int .i64 (nd : Int)) ∧ w'.cell? ⟨w.heap.size, 3, none⟩ = some (.int .i64 0) ∧ w'.cell? ⟨w.heap.size, 4, none⟩ = some (.int .i64 (pa : Int)) ∧ w'.cell? ⟨w.heap.size + 3, 0, none⟩ = some (.int .i64 kd) ∧ w'.cell? ⟨w.heap.size + 3, 1, none⟩ = some (.string a.txt) ∧ w'.cell? ⟨w.heap.size + 3, 2, none⟩ = some (.bool false) ∧ w'.cell? ⟨w.heap.size + 3, 3, none⟩ = some (.string ⟨#[]⟩) ∧ w'.cell? ⟨w.heap.size + 3, 4, none⟩ = some (.int .u64 a.nm) ∧ w'.cell? ⟨w.heap.size + 3, 5, none⟩ = some (.int .u64 0) ∧ w'.cell? ⟨w.heap.size + 3, 6, none⟩ = some (.int .i64 0)) w5 := ⟨HJ5.out.p.cell (j := 0) rfl, HJ5.out.p.cell (j := 1) rfl, HJ5.out.p.cell (j := 2) rfl, HJ5.out.p.cell (j := 3) rfl, HJ5.out.p.cell (j := 4) rfl, HJ5.out.n.cell (j := 0) rfl, HJ5.out.n.cell (j := 1) rfl, HJ5.out.n.cell (j := 2) rfl, HJ5.out.n.cell (j := 3) rfl, HJ5.out.n.cell (j := 4) rfl, HJ5.out.n.cell (j := 5) rfl, HJ5.out.n.cell (j := 6) rfl⟩
      refine hK.out _ _ (.inr hS5) ?_
      clear hK hb5 HFl
      try simp only [Act.put, List.getElem_toArray, List.getElem_cons_zero, List.getElem_cons_succ, List.setIfInBounds_toArray, List.set_cons_zero, List.set_cons_succ]
      have c0 := HJ5.out.rp.cell (j := 0) rfl
      have c1 := HJ5.out.rp.cell (j := 1) rfl
      have c2 := HJ5.out.rp.cell (j := 2) rfl
      have c3 := HJ5.out.rp.cell (j := 3) rfl
      have c4 := HJ5.out.rp.cell (j := 4) rfl
      have e0 := HJ5.out.rp.frozen 0
      have e1 := HJ5.out.rp.frozen 1
      have e2 := HJ5.out.rp.frozen 2
      have e3 := HJ5.out.rp.frozen 3
      have e4 := HJ5.out.rp.frozen 4
      obtain ⟨W6, hW6⟩ : ∃ V : World, V = setP w5 (w.heap.size + 1) (.slice (some ⟨g, 0, none⟩) N cp) (.int .i64 ((i : Nat) : Int)) (.int .i64 (nd : Int)) (.int .i64 cc) (.int .i64 (k.pos : Int)) := ⟨_, rfl⟩
      have hc6 : Chg (fun k => k = w.heap.size + 1) w5 W6 := by rw [hW6]; exact chg_setP _ _ _ _ _ _ _
      have hp6 := HJ5.out.p.chg hc6 (by omega)
      have hn6 := HJ5.out.n.chg hc6 (by omega)
      have hr6 := HJ5.out.rn.chg hc6 (by omega)
      have hS6 : (fun w' : World => w'.cell? ⟨w.heap.size, 0, none⟩ = some (.slice (some ⟨g, 0, none⟩) N cp) ∧ w'.cell? ⟨w.heap.size, 1, none⟩ = some (.int .i64 ((i : Nat) : Int)) ∧ w'.cell? ⟨w.heap.size, 2, none⟩ = some (.int .i64 (nd : Int)) ∧ w'.cell? ⟨w.heap.size, 3, none⟩ = some (.int .i64 0) ∧ w'.cell? ⟨w.heap.size, 4, none⟩ = some (.int .i64 (pa : Int)) ∧ w'.cell? ⟨w.heap.size + 3, 0, none⟩ = some (.int .i64 kd) ∧ w'.cell? ⟨w.heap.size + 3, 1, none⟩ = some (.string a.txt) ∧ w'.cell? ⟨w.heap.size + 3, 2, none⟩ = some (.bool false) ∧ w'.cell? ⟨w.heap.size + 3, 3, none⟩ = some (.string ⟨#[]⟩) ∧ w'.cell? ⟨w.heap.size + 3, 4, none⟩ = some (.int .u64 a.nm) ∧ w'.cell? ⟨w.heap.size + 3, 5, none⟩ = some (.int .u64 0) ∧ w'.cell? ⟨w.heap.size + 3, 6, none⟩ = some (.int .i64 0)) W6 := ⟨hp6.cell (j := 0) rfl, hp6.cell (j := 1) rfl, hp6.cell (j := 2) rfl, hp6.cell (j := 3) rfl, hp6.cell (j := 4) rfl, hn6.cell (j := 0) rfl, hn6.cell (j := 1) rfl, hn6.cell (j := 2) rfl, hn6.cell (j := 3) rfl, hn6.cell (j := 4) rfl, hn6.cell (j := 5) rfl, hn6.cell (j := 6) rfl⟩
      have d0 := hr6.cell (j := 0) rfl
      have d1 := hr6.cell (j := 1) rfl
      have d2 := hr6.cell (j := 2) rfl
      have d3 := hr6.cell (j := 3) rfl
      have d4 := hr6.cell (j := 4) rfl
      have d5 := hr6.cell (j := 5) rfl
      have d6 := hr6.cell (j := 6) rfl
      have f0 := hr6.frozen 0
      have f1 := hr6.frozen 1
      have f2 := hr6.frozen 2
      have f3 := hr6.frozen 3
      have f4 := hr6.frozen 4
      have f5 := hr6.frozen 5
      have f6 := hr6.frozen 6
      obtain ⟨W9, hW9⟩ : ∃ V : World, V = setN W6 (w.heap.size + 2) (⟨kd, a.txt, false, noS, a.nm, 0, 0⟩ : Nd) := ⟨_, rfl⟩
      have hc9 : Chg (fun k => k = w.heap.size + 2) W6 W9 := by rw [hW9]; exact chg_setN _ _ _
      have hp9 := hp6.chg hc9 (by omega)
      have hn9 := hn6.chg hc9 (by omega)
      have hS9 : (fun w' : World => w'.cell? ⟨w.heap.size, 0, none⟩ = some (.slice (some ⟨g, 0, none⟩) N cp) ∧ w'.cell? ⟨w.heap.size, 1, none⟩ = some (.int .i64 ((i : Nat) : Int)) ∧ w'.cell? ⟨w.heap.size, 2, none⟩ = some (.int .i64 (nd : Int)) ∧ w'.cell? ⟨w.heap.size, 3, none⟩ = some (.int .i64 0) ∧ w'.cell? ⟨w.heap.size, 4, none⟩ = some (.int .i64 (pa : Int)) ∧ w'.cell? ⟨w.heap.size + 3, 0, none⟩ = some (.int .i64 kd) ∧ w'.cell? ⟨w.heap.size + 3, 1, none⟩ = some (.string a.txt) ∧ w'.cell? ⟨w.heap.size + 3, 2, none⟩ = some (.bool false) ∧ w'.cell? ⟨w.heap.size + 3, 3, none⟩ = some (.string ⟨#[]⟩) ∧ w'.cell? ⟨w.heap.size + 3, 4, none⟩ = some (.int .u64 a.nm) ∧ w'.cell? ⟨w.heap.size + 3, 5, none⟩ = some (.int .u64 0) ∧ w'.cell? ⟨w.heap.size + 3, 6, none⟩ = some (.int .i64 0)) W9 := ⟨hp9.cell (j := 0) rfl, hp9.cell (j := 1) rfl, hp9.cell (j := 2) rfl, hp9.cell (j := 3) rfl, hp9.cell (j := 4) rfl, hn9.cell (j := 0) rfl, hn9.cell (j := 1) rfl, hn9.cell (j := 2) rfl, hn9.cell (j := 3) rfl, hn9.cell (j := 4) rfl, hn9.cell (j := 5) rfl, hn9.cell (j := 6) rfl⟩
      have HF : Hid (BoxAt W9 w.heap.size 41 5 (w.heap.size + 1) [.slice (some ⟨g, 0, none⟩) N cp, .int .i64 ((i : Nat) : Int), .int .i64 (nd : Int), .int .i64 cc, .int .i64 (k.pos : Int)] ∧ BoxAt W9 w.heap.size 65 7 (w.heap.size + 2) (Nd.seven (⟨kd, a.txt, false, noS, a.nm, 0, 0⟩ : Nd)) ∧ Below w.heap.size w W9) := by
        have hf := HJ5.out.fin (.slice (some ⟨g, 0, none⟩) N cp) (.int .i64 ((i : Nat) : Int)) (.int .i64 (nd : Int)) (.int .i64 cc) (.int .i64 (k.pos : Int)) (⟨kd, a.txt, false, noS, a.nm, 0, 0⟩ : Nd)
        rw [hW9, hW6]
        exact hf
      have HR : Hid (ArgP base g cp N nd pa ks kd i w (.returned (.tuple #[parV g N cp (i) nd cc k.pos, Nd.v (⟨kd, a.txt, false, noS, a.nm, 0, 0⟩ : Nd)])) W9) := ⟨HF.out.2.2, .inr ⟨cc, k.pos, i, (⟨kd, a.txt, false, noS, a.nm, 0, 0⟩ : Nd), HAE.out.1, HAE.out.2, rfl⟩⟩
      have p0 := HF.out.1.cell (j := 0) rfl
      have p1 := HF.out.1.cell (j := 1) rfl
      have p2 := HF.out.1.cell (j := 2) rfl
      have p3 := HF.out.1.cell (j := 3) rfl
      have p4 := HF.out.1.cell (j := 4) rfl
      have q0 := HF.out.2.1.cell (j := 0) rfl
      have q1 := HF.out.2.1.cell (j := 1) rfl
      have q2 := HF.out.2.1.cell (j := 2) rfl
      have q3 := HF.out.2.1.cell (j := 3) rfl
      have q4 := HF.out.2.1.cell (j := 4) rfl
      have q5 := HF.out.2.1.cell (j := 5) rfl
      have q6 := HF.out.2.1.cell (j := 6) rfl
      unfold setP at hW6
      unfold setN at hW9
      clear hp6 hn6 hr6 hp9 hn9 hc6 hc9
      simp only [leafN, patN, cntN, noS] at hW9 q0 q1 q2 q3 q4 q5 q6
      refine anyT_one (i := 3) (by kernel_rfl) rfl (fun K hK => ?_)
      go_simp
      rw [← hW6]
      refine hK.out _ _ (.inr hS6) ?_
      clear hK hW6
      try simp only [Act.put, List.getElem_toArray, List.getElem_cons_zero, List.getElem_cons_succ, List.setIfInBounds_toArray, List.set_cons_zero, List.set_cons_succ]
      refine anyT_one (i := 4) (by kernel_rfl) rfl (fun K hK => ?_)
      go_simp
      rw [← hW9]
      refine hK.out _ _ (.inr hS9) ?_
      clear hK hW9
      try simp only [Act.put, List.getElem_toArray, List.getElem_cons_zero, List.getElem_cons_succ, List.setIfInBounds_toArray, List.set_cons_zero, List.set_cons_succ]
      refine anyT_done (by kernel_rfl) ?_
      clear hS0 hS5 hS6 hS9 c0 c1 c2 c3 c4 d0 d1 d2 d3 d4 d5 d6 e0 e1 e2 e3 e4 f0 f1 f2 f3 f4 f5 f6
      go_wp2_with fail
      exact bodyPost_ret (v := .tuple #[parV g N cp (i) nd cc k.pos, Nd.v (⟨kd, a.txt, false, noS, a.nm, 0, 0⟩ : Nd)]) (by simp [results, Tryz.results49, go_sem, p0, p1, p2, p3, p4, q0, q1, q2, q3, q4, q5, q6, leafN, patN, cntN, noS]) rfl HR.out

    have Hk2 : Hid (∃ k2, ks[i + 1]? = some k2) := (toks_next H0.out.2.2.2.2.2 Hk.out (by rw [TkK.isSign_eq hsg]; intro q; cases q) (by rw [TkK.isSign_eq hsg]; intro q; cases q)).2
    have HA2 : Hid (argsM kd (ks.drop i) = upM kd false a (ks.drop (i + 1))) := by
      show _ = _
      rw [HA.out]
      unfold dotsM
      rw [(drop_hd Hk.out).1, if_pos hsg, (drop_hd Hk.out).2.2]
    clear hsg
    obtain ⟨V2, hV2⟩ : ∃ V : World, V = v1.setCell ⟨w.heap.size, 1, none⟩ (.int .i64 ((i : Int) + 1)) := ⟨_, rfl⟩
    obtain ⟨i2, hi2⟩ : ∃ ix, ix = i + 1 := ⟨_, rfl⟩
    have HJ2 : Hid (AgJ w base g cp N nd pa ks i2 (⟨kd, a.txt, false, noS, a.nm, 0, 0⟩ : Nd) V2) := by rw [hV2, hi2]; exact HV.out.stepI _ (by simp)
    have Hi2 : Hid (i2 = i + 1) := hi2
    have hilei2 : i ≤ i2 := by omega
    clear hi2
    have a1 := HV.out.p.cell (j := 1) rfl
    have ia := HV.out.p.frozen 1
    go_upto_region 31 with fail
    rw [← hV2]
    clear hV2 a1 ia
    obtain ⟨k2, hk2⟩ := Hk2.out
    rw [← Hi2.out] at hk2
    have HK2 : Hid (ks[i2]? = some k2) := hk2
    have hi2N : i2 < N := by rw [H0.out.1]; exact (List.getElem?_eq_some_iff.1 hk2).1
    have zi2 : (i2 : Int) < (N : Int) := by omega
    clear hk2 Hk2
    obtain ⟨t0, t1, t2, t3⟩ := tk_cells HJ2.out.tk HK2.out
    have zs := sort_tk k2.k false
    have zs' : (tkN k2.k == 2) = k2.k.isSort false := zs
    clear zs t3
    have a0 := HJ2.out.p.cell (j := 0) rfl
    have a1 := HJ2.out.p.cell (j := 1) rfl
    have HA3 : Hid (argsM kd (ks.drop i) = upM kd false a (ks.drop i2)) := by rw [Hi2.out]; exact HA2.out
    cases hso : k2.k.isSort false
    case false =>
      rw [hso] at zs'
      have HA4 : Hid (argsM kd (ks.drop i) = .ok (ks.drop i2, (⟨kd, a.txt, false, noS, a.nm, 0, 0⟩ : Nd))) := by
        show _ = _
        rw [HA3.out]
        unfold upM
        rw [(drop_hd HK2.out).1, if_neg (by rw [hso]; simp)]
      clear hso t1 t2
      go_upto_region 38 with fail
      clear t0 zs' a0 a1
      have a0 := HJ2.out.p.cell (j := 0) rfl
      have a1 := HJ2.out.p.cell (j := 1) rfl
      have a2 := HJ2.out.p.cell (j := 2) rfl
      have a3 := HJ2.out.p.cell (j := 3) rfl
      have a4 := HJ2.out.p.cell (j := 4) rfl
      have b0 := HJ2.out.n.cell (j := 0) rfl
      have b1 := HJ2.out.n.cell (j := 1) rfl
      have b2 := HJ2.out.n.cell (j := 2) rfl
      have b3 := HJ2.out.n.cell (j := 3) rfl
      have b4 := HJ2.out.n.cell (j := 4) rfl
      have b5 := HJ2.out.n.cell (j := 5) rfl
      have b6 := HJ2.out.n.cell (j := 6) rfl
      have c0 := HJ2.out.rp.cell (j := 0) rfl
      have c1 := HJ2.out.rp.cell (j := 1) rfl
      have c2 := HJ2.out.rp.cell (j := 2) rfl
      have c3 := HJ2.out.rp.cell (j := 3) rfl
      have c4 := HJ2.out.rp.cell (j := 4) rfl
      have d0 := HJ2.out.rn.cell (j := 0) rfl
      have d1 := HJ2.out.rn.cell (j := 1) rfl
      have d2 := HJ2.out.rn.cell (j := 2) rfl
      have d3 := HJ2.out.rn.cell (j := 3) rfl
      have d4 := HJ2.out.rn.cell (j := 4) rfl
      have d5 := HJ2.out.rn.cell (j := 5) rfl
      have d6 := HJ2.out.rn.cell (j := 6) rfl
      have e0 := HJ2.out.rp.frozen 0
      have e1 := HJ2.out.rp.frozen 1
      have e2 := HJ2.out.rp.frozen 2
      have e3 := HJ2.out.rp.frozen 3
      have e4 := HJ2.out.rp.frozen 4
      have f0 := HJ2.out.rn.frozen 0
      have f1 := HJ2.out.rn.frozen 1
      have f2 := HJ2.out.rn.frozen 2
      have f3 := HJ2.out.rn.frozen 3
      have f4 := HJ2.out.rn.frozen 4
      have f5 := HJ2.out.rn.frozen 5
      have f6 := HJ2.out.rn.frozen 6
      obtain ⟨W9, hW9⟩ : ∃ V : World, V = (setN (setP V2 (w.heap.size + 1) (.slice (some ⟨g, 0, none⟩) N cp) (.int .i64 (i2 : Int)) (.int .i64 (nd : Int)) (.int .i64 0) (.int .i64 (pa : Int))) (w.heap.size + 2) (⟨kd, a.txt, false, noS, a.nm, 0, 0⟩ : Nd)).drew := ⟨_, rfl⟩
      have HF : Hid (BoxAt W9 w.heap.size 41 5 (w.heap.size + 1) [.slice (some ⟨g, 0, none⟩) N cp, .int .i64 (i2 : Int), .int .i64 (nd : Int), .int .i64 0, .int .i64 (pa : Int)] ∧ BoxAt W9 w.heap.size 65 7 (w.heap.size + 2) (Nd.seven (⟨kd, a.txt, false, noS, a.nm, 0, 0⟩ : Nd)) ∧ Below w.heap.size w W9) := by
        have hf := HJ2.out.fin (.slice (some ⟨g, 0, none⟩) N cp) (.int .i64 (i2 : Int)) (.int .i64 (nd : Int)) (.int .i64 0) (.int .i64 (pa : Int)) (⟨kd, a.txt, false, noS, a.nm, 0, 0⟩ : Nd)
        have hd : ∀ X : World, Below X.heap.size X X.drew := fun X => (Below.refl _ _).drew
        rw [hW9]
        exact ⟨hf.1.below (hd _), hf.2.1.below (hd _), hf.2.2.trans ((hd _).mono hf.2.2.size)⟩
      have HR : Hid (ArgP base g cp N nd pa ks kd i w (.returned (.tuple #[parV g N cp (i2) nd 0 pa, Nd.v (⟨kd, a.txt, false, noS, a.nm, 0, 0⟩ : Nd)])) W9) := ⟨HF.out.2.2, .inl ⟨i2, (⟨kd, a.txt, false, noS, a.nm, 0, 0⟩ : Nd), HA4.out, by omega, by omega, rfl⟩⟩
      have p0 := HF.out.1.cell (j := 0) rfl
      have p1 := HF.out.1.cell (j := 1) rfl
      have p2 := HF.out.1.cell (j := 2) rfl
      have p3 := HF.out.1.cell (j := 3) rfl
      have p4 := HF.out.1.cell (j := 4) rfl
      have q0 := HF.out.2.1.cell (j := 0) rfl
      have q1 := HF.out.2.1.cell (j := 1) rfl
      have q2 := HF.out.2.1.cell (j := 2) rfl
      have q3 := HF.out.2.1.cell (j := 3) rfl
      have q4 := HF.out.2.1.cell (j := 4) rfl
      have q5 := HF.out.2.1.cell (j := 5) rfl
      have q6 := HF.out.2.1.cell (j := 6) rfl
      unfold setN setP at hW9
      simp only [leafN, patN, cntN, noS] at hW9 b0 b1 b2 b3 b4 b5 b6 q0 q1 q2 q3 q4 q5 q6
      go_region
      rw [← hW9]
      clear hW9 a0 a1 a2 a3 a4 b0 b1 b2 b3 b4 b5 b6 c0 c1 c2 c3 c4 d0 d1 d2 d3 d4 d5 d6 e0 e1 e2 e3 e4 f0 f1 f2 f3 f4 f5 f6
      go_wp2_with fail
      exact bodyPost_ret (v := .tuple #[parV g N cp (i2) nd 0 pa, Nd.v (⟨kd, a.txt, false, noS, a.nm, 0, 0⟩ : Nd)]) (by simp [results, Tryz.results49, go_sem, p0, p1, p2, p3, p4, q0, q1, q2, q3, q4, q5, q6, leafN, patN, cntN, noS]) rfl HR.out

    obtain ⟨htx, hnf, hnb, hz1, hz2⟩ := sort_txt hso
    have Hk3 : Hid (∃ k3, ks[i2 + 1]? = some k3) := (toks_next H0.out.2.2.2.2.2 HK2.out hnf hnb).2
    have HA4 : Hid (argsM kd (ks.drop i) = if less a.txt k2.k.txt ∨ a.nm < k2.k.nm then .ok (ks.drop (i2 + 1), (⟨kd, a.txt, true, k2.k.txt, a.nm, k2.k.nm, 0⟩ : Nd)) else failF 7 (ks.drop i2)) := by
      show _ = _
      rw [HA3.out]
      unfold upM
      rw [(drop_hd HK2.out).1, if_pos hso, (drop_hd HK2.out).2.2]
    have HTx : Hid (tkT k2.k = k2.k.txt) := htx
    have HZ : Hid (a.txt = noS ∧ k2.k.txt = noS) := ⟨Hz.out, hz2 rfl⟩
    rw [htx] at t2
    rw [hso] at zs'
    clear htx hnf hnb hz1 hz2 hso
    have hi3N : i2 + 1 < N := by
      obtain ⟨k3, hk3⟩ := Hk3.out
      rw [H0.out.1]; exact (List.getElem?_eq_some_iff.1 hk3).1
    obtain ⟨V3, hV3⟩ : ∃ V : World, V = V2.setCell ⟨w.heap.size + 3, 2, none⟩ (.bool true) := ⟨_, rfl⟩
    have HJ3 : Hid (AgJ w base g cp N nd pa ks i2 (⟨kd, a.txt, true, noS, a.nm, 0, 0⟩ : Nd) V3) := by rw [hV3]; exact HJ2.out.stepN 2 _ rfl
    have n2 := HJ2.out.n.cell (j := 2) rfl
    have m2 := HJ2.out.n.frozen 2
    go_upto_region 33 with fail
    rw [← hV3]
    clear hV3 n2 m2 a0 a1 t0 t1 t2 zs'
    obtain ⟨t0, t1, t2, t3⟩ := tk_cells HJ3.out.tk HK2.out
    have zs : tkT k2.k = k2.k.txt := HTx.out
    rw [zs] at t2
    clear zs
    have a0 := HJ3.out.p.cell (j := 0) rfl
    have a1 := HJ3.out.p.cell (j := 1) rfl
    obtain ⟨V4, hV4⟩ : ∃ V : World, V = V3.setCell ⟨w.heap.size + 3, 3, none⟩ (.string k2.k.txt) := ⟨_, rfl⟩
    have HJ4 : Hid (AgJ w base g cp N nd pa ks i2 (⟨kd, a.txt, true, k2.k.txt, a.nm, 0, 0⟩ : Nd) V4) := by rw [hV4]; exact HJ3.out.stepN 3 _ rfl
    have n3 := HJ3.out.n.cell (j := 3) rfl
    have m3 := HJ3.out.n.frozen 3
    go_upto_region 34 with fail
    rw [← hV4]
    clear hV4 n3 m3 a0 a1 t0 t1 t2 t3
    obtain ⟨t0, t1, t2, t3⟩ := tk_cells HJ4.out.tk HK2.out
    have a0 := HJ4.out.p.cell (j := 0) rfl
    have a1 := HJ4.out.p.cell (j := 1) rfl
    obtain ⟨V5, hV5⟩ : ∃ V : World, V = V4.setCell ⟨w.heap.size + 3, 5, none⟩ (.int .u64 k2.k.nm) := ⟨_, rfl⟩
    have HJ5x : Hid (AgJ w base g cp N nd pa ks i2 (⟨kd, a.txt, true, k2.k.txt, a.nm, k2.k.nm, 0⟩ : Nd) V5) := by rw [hV5]; exact HJ4.out.stepN 5 _ rfl
    have n5 := HJ4.out.n.cell (j := 5) rfl
    have m5 := HJ4.out.n.frozen 5
    go_upto_region 35 with fail
    rw [← hV5]
    clear hV5 n5 m5 a0 a1 t0 t1 t2 t3
    have g4 := HJ5x.out.n.cell (j := 4) rfl
    have g5 := HJ5x.out.n.cell (j := 5) rfl
    by_cases hls : a.nm < k2.k.nm
    case neg =>
      have hbl : decide (k2.k.nm ≤ a.nm) = true := decide_eq_true (by omega)
      have HA5 : Hid (argsM kd (ks.drop i) = failF 7 (ks.drop i2)) := by
        show _ = _
        rw [HA4.out, if_neg (by rw [HZ.out.1, HZ.out.2]; intro q; rcases q with q | q
                                · exact less_no q
                                · exact hls q)]
      clear hls
      obtain ⟨cc, hcc⟩ : ∃ cc : Int, cc = if k2.k.isBad = true then 2 else 7 := ⟨_, rfl⟩
      have HFl : Hid (∀ wx, Below V5.heap.size V5 wx → Calls Tryz.prog 46 #[parV g N cp (i2) nd 0 pa, .int .i64 7] wx fun e w' => e = .returned (parV g N cp (i2) nd cc k2.pos) ∧ Below wx.heap.size wx w') := fun wx hx => by
        rw [hcc]
        exact l5Fail_core (HJ5x.out.tk.below hx) H0.out.1 hl HK2.out nd 0 pa 7
      have HAE : Hid (argsM kd (ks.drop i) = .error (cc, k2.pos) ∧ 1 ≤ cc) := ⟨by
        rw [HA5.out, hcc]
        unfold failF
        rw [(drop_hd HK2.out).1, (drop_hd HK2.out).2.1], by rw [hcc]; split <;> decide⟩
      clear hcc
      go_upto_region 36 with fail
      have hS0 : (fun w' : World => w'.cell? ⟨w.heap.size, 0, none⟩ = some (.slice (some ⟨g, 0, none⟩) N cp) ∧ w'.cell? ⟨w.heap.size, 1, none⟩ = some (.int .i64 ((i2 : Nat) : Int)) ∧ w'.cell? ⟨w.heap.size, 2, none⟩ = some (.int .i64 (nd : Int)) ∧ w'.cell? ⟨w.heap.size, 3, none⟩ = some (.int .i64 0) ∧ w'.cell? ⟨w.heap.size, 4, none⟩ = some (.int .i64 (pa : Int)) ∧ w'.cell? ⟨w.heap.size + 3, 0, none⟩ = some (.int .i64 kd) ∧ w'.cell? ⟨w.heap.size + 3, 1, none⟩ = some (.string a.txt) ∧ w'.cell? ⟨w.heap.size + 3, 2, none⟩ = some (.bool true) ∧ w'.cell? ⟨w.heap.size + 3, 3, none⟩ = some (.string k2.k.txt) ∧ w'.cell? ⟨w.heap.size + 3, 4, none⟩ = some (.int .u64 a.nm) ∧ w'.cell? ⟨w.heap.size + 3, 5, none⟩ = some (.int .u64 k2.k.nm) ∧ w'.cell? ⟨w.heap.size + 3, 6, none⟩ = some (.int .i64 0)) V5.drew := ⟨HJ5x.out.p.cell (j := 0) rfl, HJ5x.out.p.cell (j := 1) rfl, HJ5x.out.p.cell (j := 2) rfl, HJ5x.out.p.cell (j := 3) rfl, HJ5x.out.p.cell (j := 4) rfl, HJ5x.out.n.cell (j := 0) rfl, HJ5x.out.n.cell (j := 1) rfl, HJ5x.out.n.cell (j := 2) rfl, HJ5x.out.n.cell (j := 3) rfl, HJ5x.out.n.cell (j := 4) rfl, HJ5x.out.n.cell (j := 5) rfl, HJ5x.out.n.cell (j := 6) rfl⟩
      refine wp_region_T 99 (fun w' : World => w'.cell? ⟨w.heap.size, 0, none⟩ = some (.slice (some ⟨g, 0, none⟩) N cp) ∧ w'.cell? ⟨w.heap.size, 1, none⟩ = some (.int .i64 ((i2 : Nat) : Int)) ∧ w'.cell? ⟨w.heap.size, 2, none⟩ = some (.int .i64 (nd : Int)) ∧ w'.cell? ⟨w.heap.size, 3, none⟩ = some (.int .i64 0) ∧ w'.cell? ⟨w.heap.size, 4, none⟩ = some (.int .i64 (pa : Int)) ∧ w'.cell? ⟨w.heap.size + 3, 0, none⟩ = some (.int .i64 kd) ∧ w'.cell? ⟨w.heap.size + 3, 1, none⟩ = some (.string a.txt) ∧ w'.cell? ⟨w.heap.size + 3, 2, none⟩ = some (.bool true) ∧ w'.cell? ⟨w.heap.size + 3, 3, none⟩ = some (.string k2.k.txt) ∧ w'.cell? ⟨w.heap.size + 3, 4, none⟩ = some (.int .u64 a.nm) ∧ w'.cell? ⟨w.heap.size + 3, 5, none⟩ = some (.int .u64 k2.k.nm) ∧ w'.cell? ⟨w.heap.size + 3, 6, none⟩ = some (.int .i64 0)) (by kernel_rfl) ?_
      refine anyT_takeN (i := 0) (v := ?vrnag0) rfl (by kernel_rfl) (by kernel_rfl) (by kernel_rfl) (by rfl) (fun _ _ _ h => h) (Or.inl ⟨by rfl, ?yrnag0⟩) hS0 ?_
      case yrnag0 => (intro wz hSw; obtain ⟨hz0, hz1, hz2, hz3, hz4, hz5, hz6, hz7, hz8, hz9, hz10, hz11⟩ := hSw; go_simp; (try with_reducible rfl))
      try simp only [Act.put, List.getElem_toArray, List.getElem_cons_zero, List.getElem_cons_succ, List.setIfInBounds_toArray, List.set_cons_zero, List.set_cons_succ]
      refine anyT_takeN (i := 2) (v := ?vrnag2) rfl (by kernel_rfl) (by kernel_rfl) (by kernel_rfl) (by rfl) (fun _ _ _ h => h) (Or.inl ⟨by rfl, ?yrnag2⟩) hS0 ?_
      case yrnag2 => (intro wz hSw; obtain ⟨hz0, hz1, hz2, hz3, hz4, hz5, hz6, hz7, hz8, hz9, hz10, hz11⟩ := hSw; go_simp; (try with_reducible rfl))
      try simp only [Act.put, List.getElem_toArray, List.getElem_cons_zero, List.getElem_cons_succ, List.setIfInBounds_toArray, List.set_cons_zero, List.set_cons_succ]
      refine anyT_one (i := 1) (by kernel_rfl) rfl (fun K hK => ?_)
      go_simp
      go_at_call 46
      refine (HFl.out V5.drew (Below.refl _ _).drew).mono ?_
      rintro e w5 ⟨rfl, hb5⟩
      have HJ5 : Hid (AgJ w base g cp N nd pa ks (i2) (⟨kd, a.txt, true, k2.k.txt, a.nm, k2.k.nm, 0⟩ : Nd) w5) := HJ5x.out.up (((Below.refl _ _).drew).trans (hb5.mono (Nat.le_refl _)))
      have hS5 : (fun w' : World => w'.cell? ⟨w.heap.size, 0, none⟩ = some (.slice (some ⟨g, 0, none⟩) N cp) ∧ w'.cell? ⟨w.heap.size, 1, none⟩ = some (.int .i64 ((i2 : Nat) : Int)) ∧ w'.cell? ⟨w.heap.size, 2, none⟩ = some (.int .i64 (nd : Int)) ∧ w'.cell? ⟨w.heap.size, 3, none⟩ = some (.int .i64 0) ∧ w'.cell? ⟨w.heap.size, 4, none⟩ = some (.int .i64 (pa : Int)) ∧ w'.cell? ⟨w.heap.size + 3, 0, none⟩ = some (.int .i64 kd) ∧ w'.cell? ⟨w.heap.size + 3, 1, none⟩ = some (.string a.txt) ∧ w'.cell? ⟨w.heap.size + 3, 2, none⟩ = some (.bool true) ∧ w'.cell? ⟨w.heap.size + 3, 3, none⟩ = some (.string k2.k.txt) ∧ w'.cell? ⟨w.heap.size + 3, 4, none⟩ = some (.int .u64 a.nm) ∧ w'.cell? ⟨w.heap.size + 3, 5, none⟩ = some (.int .u64 k2.k.nm) ∧ w'.cell? ⟨w.heap.size + 3, 6, none⟩ = some (.int .i64 0)) w5 := ⟨HJ5.out.p.cell (j := 0) rfl, HJ5.out.p.cell (j := 1) rfl, HJ5.out.p.cell (j := 2) rfl, HJ5.out.p.cell (j := 3) rfl, HJ5.out.p.cell (j := 4) rfl, HJ5.out.n.cell (j := 0) rfl, HJ5.out.n.cell (j := 1) rfl, HJ5.out.n.cell (j := 2) rfl, HJ5.out.n.cell (j := 3) rfl, HJ5.out.n.cell (j := 4) rfl, HJ5.out.n.cell (j := 5) rfl, HJ5.out.n.cell (j := 6) rfl⟩
      refine hK.out _ _ (.inr hS5) ?_
      clear hK hb5 HFl
      try simp only [Act.put, List.getElem_toArray, List.getElem_cons_zero, List.getElem_cons_succ, List.setIfInBounds_toArray, List.set_cons_zero, List.set_cons_succ]
      have c0 := HJ5.out.rp.cell (j := 0) rfl
      have c1 := HJ5.out.rp.cell (j := 1) rfl
      have c2 := HJ5.out.rp.cell (j := 2) rfl
      have c3 := HJ5.out.rp.cell (j := 3) rfl
      have c4 := HJ5.out.rp.cell (j := 4) rfl
      have e0 := HJ5.out.rp.frozen 0
      have e1 := HJ5.out.rp.frozen 1
      have e2 := HJ5.out.rp.frozen 2
      have e3 := HJ5.out.rp.frozen 3
      have e4 := HJ5.out.rp.frozen 4
      obtain ⟨W6, hW6⟩ : ∃ V : World, V = setP w5 (w.heap.size + 1) (.slice (some ⟨g, 0, none⟩) N cp) (.int .i64 ((i2 : Nat) : Int)) (.int .i64 (nd : Int)) (.int .i64 cc) (.int .i64 (k2.pos : Int)) := ⟨_, rfl⟩
      have hc6 : Chg (fun k => k = w.heap.size + 1) w5 W6 := by rw [hW6]; exact chg_setP _ _ _ _ _ _ _
      have hp6 := HJ5.out.p.chg hc6 (by omega)
      have hn6 := HJ5.out.n.chg hc6 (by omega)
      have hr6 := HJ5.out.rn.chg hc6 (by omega)
      have hS6 : (fun w' : World => w'.cell? ⟨w.heap.size, 0, none⟩ = some (.slice (some ⟨g, 0, none⟩) N cp) ∧ w'.cell? ⟨w.heap.size, 1, none⟩ = some (.int .i64 ((i2 : Nat) : Int)) ∧ w'.cell? ⟨w.heap.size, 2, none⟩ = some (.int .i64 (nd : Int)) ∧ w'.cell? ⟨w.heap.size, 3, none⟩ = some (.int .i64 0) ∧ w'.cell? ⟨w.heap.size, 4, none⟩ = some (.int .i64 (pa : Int)) ∧ w'.cell? ⟨w.heap.size + 3, 0, none⟩ = some (.int .i64 kd) ∧ w'.cell? ⟨w.heap.size + 3, 1, none⟩ = some (.string a.txt) ∧ w'.cell? ⟨w.heap.size + 3, 2, none⟩ = some (.bool true) ∧ w'.cell? ⟨w.heap.size + 3, 3, none⟩ = some (.string k2.k.txt) ∧ w'.cell? ⟨w.heap.size + 3, 4, none⟩ = some (.int .u64 a.nm) ∧ w'.cell? ⟨w.heap.size + 3, 5, none⟩ = some (.int .u64 k2.k.nm) ∧ w'.cell? ⟨w.heap.size + 3, 6, none⟩ = some (.int .i64 0)) W6 := ⟨hp6.cell (j := 0) rfl, hp6.cell (j := 1) rfl, hp6.cell (j := 2) rfl, hp6.cell (j := 3) rfl, hp6.cell (j := 4) rfl, hn6.cell (j := 0) rfl, hn6.cell (j := 1) rfl, hn6.cell (j := 2) rfl, hn6.cell (j := 3) rfl, hn6.cell (j := 4) rfl, hn6.cell (j := 5) rfl, hn6.cell (j := 6) rfl⟩
      have d0 := hr6.cell (j := 0) rfl
      have d1 := hr6.cell (j := 1) rfl
      have d2 := hr6.cell (j := 2) rfl
      have d3 := hr6.cell (j := 3) rfl
      have d4 := hr6.cell (j := 4) rfl
      have d5 := hr6.cell (j := 5) rfl
      have d6 := hr6.cell (j := 6) rfl
      have f0 := hr6.frozen 0
      have f1 := hr6.frozen 1
      have f2 := hr6.frozen 2
      have f3 := hr6.frozen 3
      have f4 := hr6.frozen 4
      have f5 := hr6.frozen 5
      have f6 := hr6.frozen 6
      obtain ⟨W9, hW9⟩ : ∃ V : World, V = setN W6 (w.heap.size + 2) (⟨kd, a.txt, true, k2.k.txt, a.nm, k2.k.nm, 0⟩ : Nd) := ⟨_, rfl⟩
      have hc9 : Chg (fun k => k = w.heap.size + 2) W6 W9 := by rw [hW9]; exact chg_setN _ _ _
      have hp9 := hp6.chg hc9 (by omega)
      have hn9 := hn6.chg hc9 (by omega)
      have hS9 : (fun w' : World => w'.cell? ⟨w.heap.size, 0, none⟩ = some (.slice (some ⟨g, 0, none⟩) N cp) ∧ w'.cell? ⟨w.heap.size, 1, none⟩ = some (.int .i64 ((i2 : Nat) : Int)) ∧ w'.cell? ⟨w.heap.size, 2, none⟩ = some (.int .i64 (nd : Int)) ∧ w'.cell? ⟨w.heap.size, 3, none⟩ = some (.int .i64 0) ∧ w'.cell? ⟨w.heap.size, 4, none⟩ = some (.int .i64 (pa : Int)) ∧ w'.cell? ⟨w.heap.size + 3, 0, none⟩ = some (.int .i64 kd) ∧ w'.cell? ⟨w.heap.size + 3, 1, none⟩ = some (.string a.txt) ∧ w'.cell? ⟨w.heap.size + 3, 2, none⟩ = some (.bool true) ∧ w'.cell? ⟨w.heap.size + 3, 3, none⟩ = some (.string k2.k.txt) ∧ w'.cell? ⟨w.heap.size + 3, 4, none⟩ = some (.int .u64 a.nm) ∧ w'.cell? ⟨w.heap.size + 3, 5, none⟩ = some (.int .u64 k2.k.nm) ∧ w'.cell? ⟨w.heap.size + 3, 6, none⟩ = some (.int .i64 0)) W9 := ⟨hp9.cell (j := 0) rfl, hp9.cell (j := 1) rfl, hp9.cell (j := 2) rfl, hp9.cell (j := 3) rfl, hp9.cell (j := 4) rfl, hn9.cell (j := 0) rfl, hn9.cell (j := 1) rfl, hn9.cell (j := 2) rfl, hn9.cell (j := 3) rfl, hn9.cell (j := 4) rfl, hn9.cell (j := 5) rfl, hn9.cell (j := 6) rfl⟩
      have HF : Hid (BoxAt W9 w.heap.size 41 5 (w.heap.size + 1) [.slice (some ⟨g, 0, none⟩) N cp, .int .i64 ((i2 : Nat) : Int), .int .i64 (nd : Int), .int .i64 cc, .int .i64 (k2.pos : Int)] ∧ BoxAt W9 w.heap.size 65 7 (w.heap.size + 2) (Nd.seven (⟨kd, a.txt, true, k2.k.txt, a.nm, k2.k.nm, 0⟩ : Nd)) ∧ Below w.heap.size w W9) := by
        have hf := HJ5.out.fin (.slice (some ⟨g, 0, none⟩) N cp) (.int .i64 ((i2 : Nat) : Int)) (.int .i64 (nd : Int)) (.int .i64 cc) (.int .i64 (k2.pos : Int)) (⟨kd, a.txt, true, k2.k.txt, a.nm, k2.k.nm, 0⟩ : Nd)
        rw [hW9, hW6]
        exact hf
      have HR : Hid (ArgP base g cp N nd pa ks kd i w (.returned (.tuple #[parV g N cp (i2) nd cc k2.pos, Nd.v (⟨kd, a.txt, true, k2.k.txt, a.nm, k2.k.nm, 0⟩ : Nd)])) W9) := ⟨HF.out.2.2, .inr ⟨cc, k2.pos, i2, (⟨kd, a.txt, true, k2.k.txt, a.nm, k2.k.nm, 0⟩ : Nd), HAE.out.1, HAE.out.2, rfl⟩⟩
      have p0 := HF.out.1.cell (j := 0) rfl
      have p1 := HF.out.1.cell (j := 1) rfl
      have p2 := HF.out.1.cell (j := 2) rfl
      have p3 := HF.out.1.cell (j := 3) rfl
      have p4 := HF.out.1.cell (j := 4) rfl
      have q0 := HF.out.2.1.cell (j := 0) rfl
      have q1 := HF.out.2.1.cell (j := 1) rfl
      have q2 := HF.out.2.1.cell (j := 2) rfl
      have q3 := HF.out.2.1.cell (j := 3) rfl
      have q4 := HF.out.2.1.cell (j := 4) rfl
      have q5 := HF.out.2.1.cell (j := 5) rfl
      have q6 := HF.out.2.1.cell (j := 6) rfl
      unfold setP at hW6
      unfold setN at hW9
      clear hp6 hn6 hr6 hp9 hn9 hc6 hc9
      simp only [leafN, patN, cntN, noS] at hW9 q0 q1 q2 q3 q4 q5 q6
      refine anyT_one (i := 3) (by kernel_rfl) rfl (fun K hK => ?_)
      go_simp
      rw [← hW6]
      refine hK.out _ _ (.inr hS6) ?_
      clear hK hW6
      try simp only [Act.put, List.getElem_toArray, List.getElem_cons_zero, List.getElem_cons_succ, List.setIfInBounds_toArray, List.set_cons_zero, List.set_cons_succ]
      refine anyT_one (i := 4) (by kernel_rfl) rfl (fun K hK => ?_)
      go_simp
      rw [← hW9]
      refine hK.out _ _ (.inr hS9) ?_
      clear hK hW9
      try simp only [Act.put, List.getElem_toArray, List.getElem_cons_zero, List.getElem_cons_succ, List.setIfInBounds_toArray, List.set_cons_zero, List.set_cons_succ]
      refine anyT_done (by kernel_rfl) ?_
      clear hS0 hS5 hS6 hS9 c0 c1 c2 c3 c4 d0 d1 d2 d3 d4 d5 d6 e0 e1 e2 e3 e4 f0 f1 f2 f3 f4 f5 f6
      go_wp2_with fail
      exact bodyPost_ret (v := .tuple #[parV g N cp (i2) nd cc k2.pos, Nd.v (⟨kd, a.txt, true, k2.k.txt, a.nm, k2.k.nm, 0⟩ : Nd)]) (by simp [results, Tryz.results49, go_sem, p0, p1, p2, p3, p4, q0, q1, q2, q3, q4, q5, q6, leafN, patN, cntN, noS]) rfl HR.out

    have hbl : decide (k2.k.nm ≤ a.nm) = false := decide_eq_false (by omega)
    have HA5 : Hid (argsM kd (ks.drop i) = .ok (ks.drop (i2 + 1), (⟨kd, a.txt, true, k2.k.txt, a.nm, k2.k.nm, 0⟩ : Nd))) := by
      show _ = _
      rw [HA4.out, if_pos (.inr hls)]
    clear hls
    obtain ⟨V6, hV6⟩ : ∃ V : World, V = V5.setCell ⟨w.heap.size, 1, none⟩ (.int .i64 ((i2 : Int) + 1)) := ⟨_, rfl⟩
    obtain ⟨i3, hi3⟩ : ∃ ix, ix = i2 + 1 := ⟨_, rfl⟩
    have HJ6 : Hid (AgJ w base g cp N nd pa ks i3 (⟨kd, a.txt, true, k2.k.txt, a.nm, k2.k.nm, 0⟩ : Nd) V6) := by rw [hV6, hi3]; exact HJ5x.out.stepI _ (by simp)
    have Hi3 : Hid (i3 = i2 + 1) := hi3
    have hilei3 : i2 ≤ i3 := by omega
    clear hi3
    have a1 := HJ5x.out.p.cell (j := 1) rfl
    have ia := HJ5x.out.p.frozen 1
    go_upto_region 38 with fail
    rw [← hV6]
    have hi3 : i3 < N := by rw [Hi3.out]; exact hi3N
    clear hV6 a1 ia hbl
    have a0 := HJ6.out.p.cell (j := 0) rfl
    have a1 := HJ6.out.p.cell (j := 1) rfl
    have a2 := HJ6.out.p.cell (j := 2) rfl
    have a3 := HJ6.out.p.cell (j := 3) rfl
    have a4 := HJ6.out.p.cell (j := 4) rfl
    have b0 := HJ6.out.n.cell (j := 0) rfl
    have b1 := HJ6.out.n.cell (j := 1) rfl
    have b2 := HJ6.out.n.cell (j := 2) rfl
    have b3 := HJ6.out.n.cell (j := 3) rfl
    have b4 := HJ6.out.n.cell (j := 4) rfl
    have b5 := HJ6.out.n.cell (j := 5) rfl
    have b6 := HJ6.out.n.cell (j := 6) rfl
    have c0 := HJ6.out.rp.cell (j := 0) rfl
    have c1 := HJ6.out.rp.cell (j := 1) rfl
    have c2 := HJ6.out.rp.cell (j := 2) rfl
    have c3 := HJ6.out.rp.cell (j := 3) rfl
    have c4 := HJ6.out.rp.cell (j := 4) rfl
    have d0 := HJ6.out.rn.cell (j := 0) rfl
    have d1 := HJ6.out.rn.cell (j := 1) rfl
    have d2 := HJ6.out.rn.cell (j := 2) rfl
    have d3 := HJ6.out.rn.cell (j := 3) rfl
    have d4 := HJ6.out.rn.cell (j := 4) rfl
    have d5 := HJ6.out.rn.cell (j := 5) rfl
    have d6 := HJ6.out.rn.cell (j := 6) rfl
    have e0 := HJ6.out.rp.frozen 0
    have e1 := HJ6.out.rp.frozen 1
    have e2 := HJ6.out.rp.frozen 2
    have e3 := HJ6.out.rp.frozen 3
    have e4 := HJ6.out.rp.frozen 4
    have f0 := HJ6.out.rn.frozen 0
    have f1 := HJ6.out.rn.frozen 1
    have f2 := HJ6.out.rn.frozen 2
    have f3 := HJ6.out.rn.frozen 3
    have f4 := HJ6.out.rn.frozen 4
    have f5 := HJ6.out.rn.frozen 5
    have f6 := HJ6.out.rn.frozen 6
    obtain ⟨W9, hW9⟩ : ∃ V : World, V = (setN (setP V6 (w.heap.size + 1) (.slice (some ⟨g, 0, none⟩) N cp) (.int .i64 (i3 : Int)) (.int .i64 (nd : Int)) (.int .i64 0) (.int .i64 (pa : Int))) (w.heap.size + 2) (⟨kd, a.txt, true, k2.k.txt, a.nm, k2.k.nm, 0⟩ : Nd)).drew := ⟨_, rfl⟩
    have HF : Hid (BoxAt W9 w.heap.size 41 5 (w.heap.size + 1) [.slice (some ⟨g, 0, none⟩) N cp, .int .i64 (i3 : Int), .int .i64 (nd : Int), .int .i64 0, .int .i64 (pa : Int)] ∧ BoxAt W9 w.heap.size 65 7 (w.heap.size + 2) (Nd.seven (⟨kd, a.txt, true, k2.k.txt, a.nm, k2.k.nm, 0⟩ : Nd)) ∧ Below w.heap.size w W9) := by
      have hf := HJ6.out.fin (.slice (some ⟨g, 0, none⟩) N cp) (.int .i64 (i3 : Int)) (.int .i64 (nd : Int)) (.int .i64 0) (.int .i64 (pa : Int)) (⟨kd, a.txt, true, k2.k.txt, a.nm, k2.k.nm, 0⟩ : Nd)
      have hd : ∀ X : World, Below X.heap.size X X.drew := fun X => (Below.refl _ _).drew
      rw [hW9]
      exact ⟨hf.1.below (hd _), hf.2.1.below (hd _), hf.2.2.trans ((hd _).mono hf.2.2.size)⟩
    have HR : Hid (ArgP base g cp N nd pa ks kd i w (.returned (.tuple #[parV g N cp (i3) nd 0 pa, Nd.v (⟨kd, a.txt, true, k2.k.txt, a.nm, k2.k.nm, 0⟩ : Nd)])) W9) := ⟨HF.out.2.2, .inl ⟨i3, (⟨kd, a.txt, true, k2.k.txt, a.nm, k2.k.nm, 0⟩ : Nd), by rw [Hi3.out]; exact HA5.out, by omega, by omega, rfl⟩⟩
    have p0 := HF.out.1.cell (j := 0) rfl
    have p1 := HF.out.1.cell (j := 1) rfl
    have p2 := HF.out.1.cell (j := 2) rfl
    have p3 := HF.out.1.cell (j := 3) rfl
    have p4 := HF.out.1.cell (j := 4) rfl
    have q0 := HF.out.2.1.cell (j := 0) rfl
    have q1 := HF.out.2.1.cell (j := 1) rfl
    have q2 := HF.out.2.1.cell (j := 2) rfl
    have q3 := HF.out.2.1.cell (j := 3) rfl
    have q4 := HF.out.2.1.cell (j := 4) rfl
    have q5 := HF.out.2.1.cell (j := 5) rfl
    have q6 := HF.out.2.1.cell (j := 6) rfl
    unfold setN setP at hW9
    simp only [leafN, patN, cntN, noS] at hW9 b0 b1 b2 b3 b4 b5 b6 q0 q1 q2 q3 q4 q5 q6
    go_region
    rw [← hW9]
    clear hW9 a0 a1 a2 a3 a4 b0 b1 b2 b3 b4 b5 b6 c0 c1 c2 c3 c4 d0 d1 d2 d3 d4 d5 d6 e0 e1 e2 e3 e4 f0 f1 f2 f3 f4 f5 f6
    go_wp2_with fail
    exact bodyPost_ret (v := .tuple #[parV g N cp (i3) nd 0 pa, Nd.v (⟨kd, a.txt, true, k2.k.txt, a.nm, k2.k.nm, 0⟩ : Nd)]) (by simp [results, Tryz.results49, go_sem, p0, p1, p2, p3, p4, q0, q1, q2, q3, q4, q5, q6, leafN, patN, cntN, noS]) rfl HR.out

  obtain ⟨htx, hnf, hnb, hz1, hz2⟩ := sort_txt hso
  have Hk1 : Hid (∃ k1, ks[i + 1]? = some k1) := (toks_next H0.out.2.2.2.2.2 H0.out.2.1 hnf hnb).2
  obtain ⟨a, ha⟩ : ∃ a : TkK, a = k.k := ⟨_, rfl⟩
  have HA1 : Hid (argsM kd (ks.drop i) = dotsM kd false a (ks.drop (i + 1))) := by
    show _ = _
    rw [HAr.out]
    unfold rangeM
    rw [H0.out.2.2.1, if_pos hso, ha, H0.out.2.2.2.2.1]
  have Hz : Hid (a.txt = noS) := by rw [ha]; exact hz2 rfl
  have HTa : Hid (tkT k.k = a.txt ∧ k.k.nm = a.nm) := by rw [ha]; exact ⟨htx, rfl⟩
  rw [HTa.out.1] at t2
  rw [hso] at zs'
  clear htx hnf hnb hz1 hz2 hso ha
  obtain ⟨V1, hV1⟩ : ∃ V : World, V = v0.setCell ⟨w.heap.size + 3, 1, none⟩ (.string a.txt) := ⟨_, rfl⟩
  have HV1 : Hid (AgJ w base g cp N nd pa ks i (⟨kd, a.txt, false, noS, 0, 0, 0⟩ : Nd) V1) := by rw [hV1]; exact HV0.out.stepN 1 _ rfl
  have n1 := HV0.out.n.cell (j := 1) rfl
  have m1 := HV0.out.n.frozen 1

  go_upto_region 26 with fail
  rw [← hV1]
  clear hV1 n1 m1 a0 a1 t0 t1 t2 zs'
  obtain ⟨t0, t1, t2, t3⟩ := tk_cells HV1.out.tk H0.out.2.1
  rw [HTa.out.2] at t1
  have a0 := HV1.out.p.cell (j := 0) rfl
  have a1 := HV1.out.p.cell (j := 1) rfl
  obtain ⟨Vb, hVb⟩ : ∃ V : World, V = V1.setCell ⟨w.heap.size + 3, 4, none⟩ (.int .u64 a.nm) := ⟨_, rfl⟩
  have HVb : Hid (AgJ w base g cp N nd pa ks i (⟨kd, a.txt, false, noS, a.nm, 0, 0⟩ : Nd) Vb) := by rw [hVb]; exact HV1.out.stepN 4 _ rfl
  have n4 := HV1.out.n.cell (j := 4) rfl
  have m4 := HV1.out.n.frozen 4

  go_upto_region 27 with fail
  rw [← hVb]
  clear hVb n4 m4 a0 a1 t0 t1 t2 t3
  obtain ⟨Vc, hVc⟩ : ∃ V : World, V = Vb.setCell ⟨w.heap.size, 1, none⟩ (.int .i64 ((i : Int) + 1)) := ⟨_, rfl⟩
  obtain ⟨i1, hi1⟩ : ∃ ix, ix = i + 1 := ⟨_, rfl⟩
  have HVc : Hid (AgJ w base g cp N nd pa ks i1 (⟨kd, a.txt, false, noS, a.nm, 0, 0⟩ : Nd) Vc) := by rw [hVc, hi1]; exact HVb.out.stepI _ (by simp)
  have Hi1 : Hid (i1 = i + 1) := hi1
  have hilei1 : i ≤ i1 := by omega
  clear hi1
  have a1 := HVb.out.p.cell (j := 1) rfl
  have ia := HVb.out.p.frozen 1

  go_upto_region 28 with fail
  rw [← hVc]
  clear hVc a1 ia
  obtain ⟨k1, hk1⟩ := Hk1.out
  rw [← Hi1.out] at hk1
  have Hk : Hid (ks[i1]? = some k1) := hk1
  have HA : Hid (argsM kd (ks.drop i) = dotsM kd false a (ks.drop i1)) := by rw [Hi1.out]; exact HA1.out
  have hi1N : i1 < N := by rw [H0.out.1]; exact (List.getElem?_eq_some_iff.1 hk1).1
  clear hk1 Hk1
  have HIs : Hid (Calls Tryz.prog 48 #[parV g N cp i1 nd 0 pa, .string ⟨#[46, 46]⟩] Vc fun e w' => e = .returned (.bool (k1.k.isSign 46)) ∧ Below Vc.heap.size Vc w') := l5IsSym_core HVc.out.tk H0.out.1 hl Hk.out (toks_kind H0.out.2.2.2.2.2 Hk.out) nd 0 pa 46 ⟨#[46, 46]⟩ (by rw [ByteArray.toList_eq]; rfl)
  have a0 := HVc.out.p.cell (j := 0) rfl
  have a1 := HVc.out.p.cell (j := 1) rfl
  have a2 := HVc.out.p.cell (j := 2) rfl
  have a3 := HVc.out.p.cell (j := 3) rfl
  have a4 := HVc.out.p.cell (j := 4) rfl
  go_wp2_with fail
  refine HIs.out.mono ?_
  clear HIs
  rintro e v1 ⟨rfl, hb1⟩
  have HV : Hid (AgJ w base g cp N nd pa ks i1 (⟨kd, a.txt, false, noS, a.nm, 0, 0⟩ : Nd) v1) := HVc.out.up hb1
  clear hb1 a0 a1 a2 a3 a4
  cases hsg : k1.k.isSign 46
  case false =>
    have HA2 : Hid (argsM kd (ks.drop i) = failF 3 (ks.drop i1)) := by
      show _ = _
      rw [HA.out]
      unfold dotsM
      rw [(drop_hd Hk.out).1, if_neg (by rw [hsg]; simp)]
    clear hsg
    obtain ⟨cc, hcc⟩ : ∃ cc : Int, cc = if k1.k.isBad = true then 2 else 3 := ⟨_, rfl⟩
    have HFl : Hid (∀ wx, Below v1.heap.size v1 wx → Calls Tryz.prog 46 #[parV g N cp (i1) nd 0 pa, .int .i64 3] wx fun e w' => e = .returned (parV g N cp (i1) nd cc k1.pos) ∧ Below wx.heap.size wx w') := fun wx hx => by
      rw [hcc]
      exact l5Fail_core (HV.out.tk.below hx) H0.out.1 hl Hk.out nd 0 pa 3
    have HAE : Hid (argsM kd (ks.drop i) = .error (cc, k1.pos) ∧ 1 ≤ cc) := ⟨by
      rw [HA2.out, hcc]
      unfold failF
      rw [(drop_hd Hk.out).1, (drop_hd Hk.out).2.1], by rw [hcc]; split <;> decide⟩
    clear hcc
    go_upto_region 29 with fail
    have hS0 : (fun w' : World => w'.cell? ⟨w.heap.size, 0, none⟩ = some (.slice (some ⟨g, 0, none⟩) N cp) ∧ w'.cell? ⟨w.heap.size, 1, none⟩ = some (.int .i64 ((i1 : Nat) : Int)) ∧ w'.cell? ⟨w.heap.size, 2, none⟩ = some (.int .i64 (nd : Int)) ∧ w'.cell? ⟨w.heap.size, 3, none⟩ = some (.int .i64 0) ∧ w'.cell? ⟨w.heap.size, 4, none⟩ = some (.int .i64 (pa : Int)) ∧ w'.cell? ⟨w.heap.size + 3, 0, none⟩ = some (.int .i64 kd) ∧ w'.cell? ⟨w.heap.size + 3, 1, none⟩ = some (.string a.txt) ∧ w'.cell? ⟨w.heap.size + 3, 2, none⟩ = some (.bool false) ∧ w'.cell? ⟨w.heap.size + 3, 3, none⟩ = some (.string ⟨#[]⟩) ∧ w'.cell? ⟨w.heap.size + 3, 4, none⟩ = some (.int .u64 a.nm) ∧ w'.cell? ⟨w.heap.size + 3, 5, none⟩ = some (.int .u64 0) ∧ w'.cell? ⟨w.heap.size + 3, 6, none⟩ = some (.int .i64 0)) v1.drew := ⟨HV.out.p.cell (j := 0) rfl, HV.out.p.cell (j := 1) rfl, HV.out.p.cell (j := 2) rfl, HV.out.p.cell (j := 3) rfl, HV.out.p.cell (j := 4) rfl, HV.out.n.cell (j := 0) rfl, HV.out.n.cell (j := 1) rfl, HV.out.n.cell (j := 2) rfl, HV.out.n.cell (j := 3) rfl, HV.out.n.cell (j := 4) rfl, HV.out.n.cell (j := 5) rfl, HV.out.n.cell (j := 6) rfl⟩
    refine wp_region_T 99 (fun w' : World => w'.cell? ⟨w.heap.size, 0, none⟩ = some (.slice (some ⟨g, 0, none⟩) N cp) ∧ w'.cell? ⟨w.heap.size, 1, none⟩ = some (.int .i64 ((i1 : Nat) : Int)) ∧ w'.cell? ⟨w.heap.size, 2, none⟩ = some (.int .i64 (nd : Int)) ∧ w'.cell? ⟨w.heap.size, 3, none⟩ = some (.int .i64 0) ∧ w'.cell? ⟨w.heap.size, 4, none⟩ = some (.int .i64 (pa : Int)) ∧ w'.cell? ⟨w.heap.size + 3, 0, none⟩ = some (.int .i64 kd) ∧ w'.cell? ⟨w.heap.size + 3, 1, none⟩ = some (.string a.txt) ∧ w'.cell? ⟨w.heap.size + 3, 2, none⟩ = some (.bool false) ∧ w'.cell? ⟨w.heap.size + 3, 3, none⟩ = some (.string ⟨#[]⟩) ∧ w'.cell? ⟨w.heap.size + 3, 4, none⟩ = some (.int .u64 a.nm) ∧ w'.cell? ⟨w.heap.size + 3, 5, none⟩ = some (.int .u64 0) ∧ w'.cell? ⟨w.heap.size + 3, 6, none⟩ = some (.int .i64 0)) (by kernel_rfl) ?_
    refine anyT_takeN (i := 0) (v := ?vrnbf0) rfl (by kernel_rfl) (by kernel_rfl) (by kernel_rfl) (by rfl) (fun _ _ _ h => h) (Or.inl ⟨by rfl, ?yrnbf0⟩) hS0 ?_
    case yrnbf0 => (intro wz hSw; obtain ⟨hz0, hz1, hz2, hz3, hz4, hz5, hz6, hz7, hz8, hz9, hz10, hz11⟩ := hSw; go_simp; (try with_reducible rfl))
    try simp only [Act.put, List.getElem_toArray, List.getElem_cons_zero, List.getElem_cons_succ, List.setIfInBounds_toArray, List.set_cons_zero, List.set_cons_succ]
    refine anyT_takeN (i := 2) (v := ?vrnbf2) rfl (by kernel_rfl) (by kernel_rfl) (by kernel_rfl) (by rfl) (fun _ _ _ h => h) (Or.inl ⟨by rfl, ?yrnbf2⟩) hS0 ?_
    case yrnbf2 => (intro wz hSw; obtain ⟨hz0, hz1, hz2, hz3, hz4, hz5, hz6, hz7, hz8, hz9, hz10, hz11⟩ := hSw; go_simp; (try with_reducible rfl))
    try simp only [Act.put, List.getElem_toArray, List.getElem_cons_zero, List.getElem_cons_succ, List.setIfInBounds_toArray, List.set_cons_zero, List.set_cons_succ]
    refine anyT_one (i := 1) (by kernel_rfl) rfl (fun K hK => ?_)
    go_simp
    go_at_call 46
    refine (HFl.out v1.drew (Below.refl _ _).drew).mono ?_
    rintro e w5 ⟨rfl, hb5⟩
    have HJ5 : Hid (AgJ w base g cp N nd pa ks (i1) (⟨kd, a.txt, false, noS, a.nm, 0, 0⟩ : Nd) w5) := HV.out.up (((Below.refl _ _).drew).trans (hb5.mono (Nat.le_refl _)))
    have hS5 : (fun w' : World => w'.cell? ⟨w.heap.size, 0, none⟩ = some (.slice (some ⟨g, 0, none⟩) N cp) ∧ w'.cell? ⟨w.heap.size, 1, none⟩ = some (.int .i64 ((i1 : Nat) : Int)) ∧ w'.cell? ⟨w.heap.size, 2, none⟩ = some (.int .i64 (nd : Int)) ∧ w'.cell? ⟨w.heap.size, 3, none⟩ = some (.int .i64 0) ∧ w'.cell? ⟨w.heap.size, 4, none⟩ = some (.int .i64 (pa : Int)) ∧ w'.cell? ⟨w.heap.size + 3, 0, none⟩ = some (.int .i64 kd) ∧ w'.cell? ⟨w.heap.size + 3, 1, none⟩ = some (.string a.txt) ∧ w'.cell? ⟨w.heap.size + 3, 2, none⟩ = some (.bool false) ∧ w'.cell? ⟨w.heap.size + 3, 3, none⟩ = some (.string ⟨#[]⟩) ∧ w'.cell? ⟨w.heap.size + 3, 4, none⟩ = some (.int .u64 a.nm) ∧ w'.cell? ⟨w.heap.size + 3, 5, none⟩ = some (.int .u64 0) ∧ w'.cell? ⟨w.heap.size + 3, 6, none⟩ = some (.int .i64 0)) w5 := ⟨HJ5.out.p.cell (j := 0) rfl, HJ5.out.p.cell (j := 1) rfl, HJ5.out.p.cell (j := 2) rfl, HJ5.out.p.cell (j := 3) rfl, HJ5.out.p.cell (j := 4) rfl, HJ5.out.n.cell (j := 0) rfl, HJ5.out.n.cell (j := 1) rfl, HJ5.out.n.cell (j := 2) rfl, HJ5.out.n.cell (j := 3) rfl, HJ5.out.n.cell (j := 4) rfl, HJ5.out.n.cell (j := 5) rfl, HJ5.out.n.cell (j := 6) rfl⟩
    refine hK.out _ _ (.inr hS5) ?_
    clear hK hb5 HFl
    try simp only [Act.put, List.getElem_toArray, List.getElem_cons_zero, List.getElem_cons_succ, List.setIfInBounds_toArray, List.set_cons_zero, List.set_cons_succ]
    have c0 := HJ5.out.rp.cell (j := 0) rfl
    have c1 := HJ5.out.rp.cell (j := 1) rfl
    have c2 := HJ5.out.rp.cell (j := 2) rfl
    have c3 := HJ5.out.rp.cell (j := 3) rfl
    have c4 := HJ5.out.rp.cell (j := 4) rfl
    have e0 := HJ5.out.rp.frozen 0
    have e1 := HJ5.out.rp.frozen 1
    have e2 := HJ5.out.rp.frozen 2
    have e3 := HJ5.out.rp.frozen 3
    have e4 := HJ5.out.rp.frozen 4
    obtain ⟨W6, hW6⟩ : ∃ V : World, V = setP w5 (w.heap.size + 1) (.slice (some ⟨g, 0, none⟩) N cp) (.int .i64 ((i1 : Nat) : Int)) (.int .i64 (nd : Int)) (.int .i64 cc) (.int .i64 (k1.pos : Int)) := ⟨_, rfl⟩
    have hc6 : Chg (fun k => k = w.heap.size + 1) w5 W6 := by rw [hW6]; exact chg_setP _ _ _ _ _ _ _
    have hp6 := HJ5.out.p.chg hc6 (by omega)
    have hn6 := HJ5.out.n.chg hc6 (by omega)
    have hr6 := HJ5.out.rn.chg hc6 (by omega)
    have hS6 : (fun w' : World => w'.cell? ⟨w.heap.size, 0, none⟩ = some (.slice (some ⟨g, 0, none⟩) N cp) ∧ w'.cell? ⟨w.heap.size, 1, none⟩ = some (.int .i64 ((i1 : Nat) : Int)) ∧ w'.cell? ⟨w.heap.size, 2, none⟩ = some (.int .i64 (nd : Int)) ∧ w'.cell? ⟨w.heap.size, 3, none⟩ = some (.int .i64 0) ∧ w'.cell? ⟨w.heap.size, 4, none⟩ = some (.int .i64 (pa : Int)) ∧ w'.cell? ⟨w.heap.size + 3, 0, none⟩ = some (.int .i64 kd) ∧ w'.cell? ⟨w.heap.size + 3, 1, none⟩ = some (.string a.txt) ∧ w'.cell? ⟨w.heap.size + 3, 2, none⟩ = some (.bool false) ∧ w'.cell? ⟨w.heap.size + 3, 3, none⟩ = some (.string ⟨#[]⟩) ∧ w'.cell? ⟨w.heap.size + 3, 4, none⟩ = some (.int .u64 a.nm) ∧ w'.cell? ⟨w.heap.size + 3, 5, none⟩ = some (.int .u64 0) ∧ w'.cell? ⟨w.heap.size + 3, 6, none⟩ = some (.int .i64 0)) W6 := ⟨hp6.cell (j := 0) rfl, hp6.cell (j := 1) rfl, hp6.cell (j := 2) rfl, hp6.cell (j := 3) rfl, hp6.cell (j := 4) rfl, hn6.cell (j := 0) rfl, hn6.cell (j := 1) rfl, hn6.cell (j := 2) rfl, hn6.cell (j := 3) rfl, hn6.cell (j := 4) rfl, hn6.cell (j := 5) rfl, hn6.cell (j := 6) rfl⟩
    have d0 := hr6.cell (j := 0) rfl
    have d1 := hr6.cell (j := 1) rfl
    have d2 := hr6.cell (j := 2) rfl
    have d3 := hr6.cell (j := 3) rfl
    have d4 := hr6.cell (j := 4) rfl
    have d5 := hr6.cell (j := 5) rfl
    have d6 := hr6.cell (j := 6) rfl
    have f0 := hr6.frozen 0
    have f1 := hr6.frozen 1
    have f2 := hr6.frozen 2
    have f3 := hr6.frozen 3
    have f4 := hr6.frozen 4
    have f5 := hr6.frozen 5
    have f6 := hr6.frozen 6
    obtain ⟨W9, hW9⟩ : ∃ V : World, V = setN W6 (w.heap.size + 2) (⟨kd, a.txt, false, noS, a.nm, 0, 0⟩ : Nd) := ⟨_, rfl⟩
    have hc9 : Chg (fun k => k = w.heap.size + 2) W6 W9 := by rw [hW9]; exact chg_setN _ _ _
    have hp9 := hp6.chg hc9 (by omega)
    have hn9 := hn6.chg hc9 (by omega)
    have hS9 : (fun w' : World => w'.cell? ⟨w.heap.size, 0, none⟩ = some (.slice (some ⟨g, 0, none⟩) N cp) ∧ w'.cell? ⟨w.heap.size, 1, none⟩ = some (.int .i64 ((i1 : Nat) : Int)) ∧ w'.cell? ⟨w.heap.size, 2, none⟩ = some (.int .i64 (nd : Int)) ∧ w'.cell? ⟨w.heap.size, 3, none⟩ = some (.int .i64 0) ∧ w'.cell? ⟨w.heap.size, 4, none⟩ = some (.int .i64 (pa : Int)) ∧ w'.cell? ⟨w.heap.size + 3, 0, none⟩ = some (.int .i64 kd) ∧ w'.cell? ⟨w.heap.size + 3, 1, none⟩ = some (.string a.txt) ∧ w'.cell? ⟨w.heap.size + 3, 2, none⟩ = some (.bool false) ∧ w'.cell? ⟨w.heap.size + 3, 3, none⟩ = some (.string ⟨#[]⟩) ∧ w'.cell? ⟨w.heap.size + 3, 4, none⟩ = some (.int .u64 a.nm) ∧ w'.cell? ⟨w.heap.size + 3, 5, none⟩ = some (.int .u64 0) ∧ w'.cell? ⟨w.heap.size + 3, 6, none⟩ = some (.int .i64 0)) W9 := ⟨hp9.cell (j := 0) rfl, hp9.cell (j := 1) rfl, hp9.cell (j := 2) rfl, hp9.cell (j := 3) rfl, hp9.cell (j := 4) rfl, hn9.cell (j := 0) rfl, hn9.cell (j := 1) rfl, hn9.cell (j := 2) rfl, hn9.cell (j := 3) rfl, hn9.cell (j := 4) rfl, hn9.cell (j := 5) rfl, hn9.cell (j := 6) rfl⟩
    have HF : Hid (BoxAt W9 w.heap.size 41 5 (w.heap.size + 1) [.slice (some ⟨g, 0, none⟩) N cp, .int .i64 ((i1 : Nat) : Int), .int .i64 (nd : Int), .int .i64 cc, .int .i64 (k1.pos : Int)] ∧ BoxAt W9 w.heap.size 65 7 (w.heap.size + 2) (Nd.seven (⟨kd, a.txt, false, noS, a.nm, 0, 0⟩ : Nd)) ∧ Below w.heap.size w W9) := by
      have hf := HJ5.out.fin (.slice (some ⟨g, 0, none⟩) N cp) (.int .i64 ((i1 : Nat) : Int)) (.int .i64 (nd : Int)) (.int .i64 cc) (.int .i64 (k1.pos : Int)) (⟨kd, a.txt, false, noS, a.nm, 0, 0⟩ : Nd)
      rw [hW9, hW6]
      exact hf
    have HR : Hid (ArgP base g cp N nd pa ks kd i w (.returned (.tuple #[parV g N cp (i1) nd cc k1.pos, Nd.v (⟨kd, a.txt, false, noS, a.nm, 0, 0⟩ : Nd)])) W9) := ⟨HF.out.2.2, .inr ⟨cc, k1.pos, i1, (⟨kd, a.txt, false, noS, a.nm, 0, 0⟩ : Nd), HAE.out.1, HAE.out.2, rfl⟩⟩
    have p0 := HF.out.1.cell (j := 0) rfl
    have p1 := HF.out.1.cell (j := 1) rfl
    have p2 := HF.out.1.cell (j := 2) rfl
    have p3 := HF.out.1.cell (j := 3) rfl
    have p4 := HF.out.1.cell (j := 4) rfl
    have q0 := HF.out.2.1.cell (j := 0) rfl
    have q1 := HF.out.2.1.cell (j := 1) rfl
    have q2 := HF.out.2.1.cell (j := 2) rfl
    have q3 := HF.out.2.1.cell (j := 3) rfl
    have q4 := HF.out.2.1.cell (j := 4) rfl
    have q5 := HF.out.2.1.cell (j := 5) rfl
    have q6 := HF.out.2.1.cell (j := 6) rfl
    unfold setP at hW6
    unfold setN at hW9
    clear hp6 hn6 hr6 hp9 hn9 hc6 hc9
    simp only [leafN, patN, cntN, noS] at hW9 q0 q1 q2 q3 q4 q5 q6
    refine anyT_one (i := 3) (by kernel_rfl) rfl (fun K hK => ?_)
    go_simp
    rw [← hW6]
    refine hK.out _ _ (.inr hS6) ?_
    clear hK hW6
    try simp only [Act.put, List.getElem_toArray, List.getElem_cons_zero, List.getElem_cons_succ, List.setIfInBounds_toArray, List.set_cons_zero, List.set_cons_succ]
    refine anyT_one (i := 4) (by kernel_rfl) rfl (fun K hK => ?_)
    go_simp
    rw [← hW9]
    refine hK.out _ _ (.inr hS9) ?_
    clear hK hW9
    try simp only [Act.put, List.getElem_toArray, List.getElem_cons_zero, List.getElem_cons_succ, List.setIfInBounds_toArray, List.set_cons_zero, List.set_cons_succ]
    refine anyT_done (by kernel_rfl) ?_
    clear hS0 hS5 hS6 hS9 c0 c1 c2 c3 c4 d0 d1 d2 d3 d4 d5 d6 e0 e1 e2 e3 e4 f0 f1 f2 f3 f4 f5 f6
    go_wp2_with fail
    exact bodyPost_ret (v := .tuple #[parV g N cp (i1) nd cc k1.pos, Nd.v (⟨kd, a.txt, false, noS, a.nm, 0, 0⟩ : Nd)]) (by simp [results, Tryz.results49, go_sem, p0, p1, p2, p3, p4, q0, q1, q2, q3, q4, q5, q6, leafN, patN, cntN, noS]) rfl HR.out

  have Hk2 : Hid (∃ k2, ks[i1 + 1]? = some k2) := (toks_next H0.out.2.2.2.2.2 Hk.out (by rw [TkK.isSign_eq hsg]; intro q; cases q) (by rw [TkK.isSign_eq hsg]; intro q; cases q)).2
  have HA2 : Hid (argsM kd (ks.drop i) = upM kd false a (ks.drop (i1 + 1))) := by
    show _ = _
    rw [HA.out]
    unfold dotsM
    rw [(drop_hd Hk.out).1, if_pos hsg, (drop_hd Hk.out).2.2]
  clear hsg
  obtain ⟨V2, hV2⟩ : ∃ V : World, V = v1.setCell ⟨w.heap.size, 1, none⟩ (.int .i64 ((i1 : Int) + 1)) := ⟨_, rfl⟩
  obtain ⟨i2, hi2⟩ : ∃ ix, ix = i1 + 1 := ⟨_, rfl⟩
  have HJ2 : Hid (AgJ w base g cp N nd pa ks i2 (⟨kd, a.txt, false, noS, a.nm, 0, 0⟩ : Nd) V2) := by rw [hV2, hi2]; exact HV.out.stepI _ (by simp)
  have Hi2 : Hid (i2 = i1 + 1) := hi2
  have hilei2 : i1 ≤ i2 := by omega
  clear hi2
  have a1 := HV.out.p.cell (j := 1) rfl
  have ia := HV.out.p.frozen 1
  go_upto_region 31 with fail
  rw [← hV2]
  clear hV2 a1 ia
  obtain ⟨k2, hk2⟩ := Hk2.out
  rw [← Hi2.out] at hk2
  have HK2 : Hid (ks[i2]? = some k2) := hk2
  have hi2N : i2 < N := by rw [H0.out.1]; exact (List.getElem?_eq_some_iff.1 hk2).1
  have zi2 : (i2 : Int) < (N : Int) := by omega
  clear hk2 Hk2
  obtain ⟨t0, t1, t2, t3⟩ := tk_cells HJ2.out.tk HK2.out
  have zs := sort_tk k2.k false
  have zs' : (tkN k2.k == 2) = k2.k.isSort false := zs
  clear zs t3
  have a0 := HJ2.out.p.cell (j := 0) rfl
  have a1 := HJ2.out.p.cell (j := 1) rfl
  have HA3 : Hid (argsM kd (ks.drop i) = upM kd false a (ks.drop i2)) := by rw [Hi2.out]; exact HA2.out
  cases hso : k2.k.isSort false
  case false =>
    rw [hso] at zs'
    have HA4 : Hid (argsM kd (ks.drop i) = .ok (ks.drop i2, (⟨kd, a.txt, false, noS, a.nm, 0, 0⟩ : Nd))) := by
      show _ = _
      rw [HA3.out]
      unfold upM
      rw [(drop_hd HK2.out).1, if_neg (by rw [hso]; simp)]
    clear hso t1 t2
    go_upto_region 38 with fail
    clear t0 zs' a0 a1
    have a0 := HJ2.out.p.cell (j := 0) rfl
    have a1 := HJ2.out.p.cell (j := 1) rfl
    have a2 := HJ2.out.p.cell (j := 2) rfl
    have a3 := HJ2.out.p.cell (j := 3) rfl
    have a4 := HJ2.out.p.cell (j := 4) rfl
    have b0 := HJ2.out.n.cell (j := 0) rfl
    have b1 := HJ2.out.n.cell (j := 1) rfl
    have b2 := HJ2.out.n.cell (j := 2) rfl
    have b3 := HJ2.out.n.cell (j := 3) rfl
    have b4 := HJ2.out.n.cell (j := 4) rfl
    have b5 := HJ2.out.n.cell (j := 5) rfl
    have b6 := HJ2.out.n.cell (j := 6) rfl
    have c0 := HJ2.out.rp.cell (j := 0) rfl
    have c1 := HJ2.out.rp.cell (j := 1) rfl
    have c2 := HJ2.out.rp.cell (j := 2) rfl
    have c3 := HJ2.out.rp.cell (j := 3) rfl
    have c4 := HJ2.out.rp.cell (j := 4) rfl
    have d0 := HJ2.out.rn.cell (j := 0) rfl
    have d1 := HJ2.out.rn.cell (j := 1) rfl
    have d2 := HJ2.out.rn.cell (j := 2) rfl
    have d3 := HJ2.out.rn.cell (j := 3) rfl
    have d4 := HJ2.out.rn.cell (j := 4) rfl
    have d5 := HJ2.out.rn.cell (j := 5) rfl
    have d6 := HJ2.out.rn.cell (j := 6) rfl
    have e0 := HJ2.out.rp.frozen 0
    have e1 := HJ2.out.rp.frozen 1
    have e2 := HJ2.out.rp.frozen 2
    have e3 := HJ2.out.rp.frozen 3
    have e4 := HJ2.out.rp.frozen 4
    have f0 := HJ2.out.rn.frozen 0
    have f1 := HJ2.out.rn.frozen 1
    have f2 := HJ2.out.rn.frozen 2
    have f3 := HJ2.out.rn.frozen 3
    have f4 := HJ2.out.rn.frozen 4
    have f5 := HJ2.out.rn.frozen 5
    have f6 := HJ2.out.rn.frozen 6
    obtain ⟨W9, hW9⟩ : ∃ V : World, V = (setN (setP V2 (w.heap.size + 1) (.slice (some ⟨g, 0, none⟩) N cp) (.int .i64 (i2 : Int)) (.int .i64 (nd : Int)) (.int .i64 0) (.int .i64 (pa : Int))) (w.heap.size + 2) (⟨kd, a.txt, false, noS, a.nm, 0, 0⟩ : Nd)).drew := ⟨_, rfl⟩
    have HF : Hid (BoxAt W9 w.heap.size 41 5 (w.heap.size + 1) [.slice (some ⟨g, 0, none⟩) N cp, .int .i64 (i2 : Int), .int .i64 (nd : Int), .int .i64 0, .int .i64 (pa : Int)] ∧ BoxAt W9 w.heap.size 65 7 (w.heap.size + 2) (Nd.seven (⟨kd, a.txt, false, noS, a.nm, 0, 0⟩ : Nd)) ∧ Below w.heap.size w W9) := by
      have hf := HJ2.out.fin (.slice (some ⟨g, 0, none⟩) N cp) (.int .i64 (i2 : Int)) (.int .i64 (nd : Int)) (.int .i64 0) (.int .i64 (pa : Int)) (⟨kd, a.txt, false, noS, a.nm, 0, 0⟩ : Nd)
      have hd : ∀ X : World, Below X.heap.size X X.drew := fun X => (Below.refl _ _).drew
      rw [hW9]
      exact ⟨hf.1.below (hd _), hf.2.1.below (hd _), hf.2.2.trans ((hd _).mono hf.2.2.size)⟩
    have HR : Hid (ArgP base g cp N nd pa ks kd i w (.returned (.tuple #[parV g N cp (i2) nd 0 pa, Nd.v (⟨kd, a.txt, false, noS, a.nm, 0, 0⟩ : Nd)])) W9) := ⟨HF.out.2.2, .inl ⟨i2, (⟨kd, a.txt, false, noS, a.nm, 0, 0⟩ : Nd), HA4.out, by omega, by omega, rfl⟩⟩
    have p0 := HF.out.1.cell (j := 0) rfl
    have p1 := HF.out.1.cell (j := 1) rfl
    have p2 := HF.out.1.cell (j := 2) rfl
    have p3 := HF.out.1.cell (j := 3) rfl
    have p4 := HF.out.1.cell (j := 4) rfl
    have q0 := HF.out.2.1.cell (j := 0) rfl
    have q1 := HF.out.2.1.cell (j := 1) rfl
    have q2 := HF.out.2.1.cell (j := 2) rfl
    have q3 := HF.out.2.1.cell (j := 3) rfl
    have q4 := HF.out.2.1.cell (j := 4) rfl
    have q5 := HF.out.2.1.cell (j := 5) rfl
    have q6 := HF.out.2.1.cell (j := 6) rfl
    unfold setN setP at hW9
    simp only [leafN, patN, cntN, noS] at hW9 b0 b1 b2 b3 b4 b5 b6 q0 q1 q2 q3 q4 q5 q6
    go_region
    rw [← hW9]
    clear hW9 a0 a1 a2 a3 a4 b0 b1 b2 b3 b4 b5 b6 c0 c1 c2 c3 c4 d0 d1 d2 d3 d4 d5 d6 e0 e1 e2 e3 e4 f0 f1 f2 f3 f4 f5 f6
    go_wp2_with fail
    exact bodyPost_ret (v := .tuple #[parV g N cp (i2) nd 0 pa, Nd.v (⟨kd, a.txt, false, noS, a.nm, 0, 0⟩ : Nd)]) (by simp [results, Tryz.results49, go_sem, p0, p1, p2, p3, p4, q0, q1, q2, q3, q4, q5, q6, leafN, patN, cntN, noS]) rfl HR.out

  obtain ⟨htx, hnf, hnb, hz1, hz2⟩ := sort_txt hso
  have Hk3 : Hid (∃ k3, ks[i2 + 1]? = some k3) := (toks_next H0.out.2.2.2.2.2 HK2.out hnf hnb).2
  have HA4 : Hid (argsM kd (ks.drop i) = if less a.txt k2.k.txt ∨ a.nm < k2.k.nm then .ok (ks.drop (i2 + 1), (⟨kd, a.txt, true, k2.k.txt, a.nm, k2.k.nm, 0⟩ : Nd)) else failF 7 (ks.drop i2)) := by
    show _ = _
    rw [HA3.out]
    unfold upM
    rw [(drop_hd HK2.out).1, if_pos hso, (drop_hd HK2.out).2.2]
  have HTx : Hid (tkT k2.k = k2.k.txt) := htx
  have HZ : Hid (a.txt = noS ∧ k2.k.txt = noS) := ⟨Hz.out, hz2 rfl⟩
  rw [htx] at t2
  rw [hso] at zs'
  clear htx hnf hnb hz1 hz2 hso
  have hi3N : i2 + 1 < N := by
    obtain ⟨k3, hk3⟩ := Hk3.out
    rw [H0.out.1]; exact (List.getElem?_eq_some_iff.1 hk3).1
  obtain ⟨V3, hV3⟩ : ∃ V : World, V = V2.setCell ⟨w.heap.size + 3, 2, none⟩ (.bool true) := ⟨_, rfl⟩
  have HJ3 : Hid (AgJ w base g cp N nd pa ks i2 (⟨kd, a.txt, true, noS, a.nm, 0, 0⟩ : Nd) V3) := by rw [hV3]; exact HJ2.out.stepN 2 _ rfl
  have n2 := HJ2.out.n.cell (j := 2) rfl
  have m2 := HJ2.out.n.frozen 2
  go_upto_region 33 with fail
  rw [← hV3]
  clear hV3 n2 m2 a0 a1 t0 t1 t2 zs'
  obtain ⟨t0, t1, t2, t3⟩ := tk_cells HJ3.out.tk HK2.out
  have zs : tkT k2.k = k2.k.txt := HTx.out
  rw [zs] at t2
  clear zs
  have a0 := HJ3.out.p.cell (j := 0) rfl
  have a1 := HJ3.out.p.cell (j := 1) rfl
  obtain ⟨V4, hV4⟩ : ∃ V : World, V = V3.setCell ⟨w.heap.size + 3, 3, none⟩ (.string k2.k.txt) := ⟨_, rfl⟩
  have HJ4 : Hid (AgJ w base g cp N nd pa ks i2 (⟨kd, a.txt, true, k2.k.txt, a.nm, 0, 0⟩ : Nd) V4) := by rw [hV4]; exact HJ3.out.stepN 3 _ rfl
  have n3 := HJ3.out.n.cell (j := 3) rfl
  have m3 := HJ3.out.n.frozen 3
  go_upto_region 34 with fail
  rw [← hV4]
  clear hV4 n3 m3 a0 a1 t0 t1 t2 t3
  obtain ⟨t0, t1, t2, t3⟩ := tk_cells HJ4.out.tk HK2.out
  have a0 := HJ4.out.p.cell (j := 0) rfl
  have a1 := HJ4.out.p.cell (j := 1) rfl
  obtain ⟨V5, hV5⟩ : ∃ V : World, V = V4.setCell ⟨w.heap.size + 3, 5, none⟩ (.int .u64 k2.k.nm) := ⟨_, rfl⟩
  have HJ5x : Hid (AgJ w base g cp N nd pa ks i2 (⟨kd, a.txt, true, k2.k.txt, a.nm, k2.k.nm, 0⟩ : Nd) V5) := by rw [hV5]; exact HJ4.out.stepN 5 _ rfl
  have n5 := HJ4.out.n.cell (j := 5) rfl
  have m5 := HJ4.out.n.frozen 5
  go_upto_region 35 with fail
  rw [← hV5]
  clear hV5 n5 m5 a0 a1 t0 t1 t2 t3
  have g4 := HJ5x.out.n.cell (j := 4) rfl
  have g5 := HJ5x.out.n.cell (j := 5) rfl
  by_cases hls : a.nm < k2.k.nm
  case neg =>
    have hbl : decide (k2.k.nm ≤ a.nm) = true := decide_eq_true (by omega)
    have HA5 : Hid (argsM kd (ks.drop i) = failF 7 (ks.drop i2)) := by
      show _ = _
      rw [HA4.out, if_neg (by rw [HZ.out.1, HZ.out.2]; intro q; rcases q with q | q
                              · exact less_no q
                              · exact hls q)]
    clear hls
    obtain ⟨cc, hcc⟩ : ∃ cc : Int, cc = if k2.k.isBad = true then 2 else 7 := ⟨_, rfl⟩
    have HFl : Hid (∀ wx, Below V5.heap.size V5 wx → Calls Tryz.prog 46 #[parV g N cp (i2) nd 0 pa, .int .i64 7] wx fun e w' => e = .returned (parV g N cp (i2) nd cc k2.pos) ∧ Below wx.heap.size wx w') := fun wx hx => by
      rw [hcc]
      exact l5Fail_core (HJ5x.out.tk.below hx) H0.out.1 hl HK2.out nd 0 pa 7
    have HAE : Hid (argsM kd (ks.drop i) = .error (cc, k2.pos) ∧ 1 ≤ cc) := ⟨by
      rw [HA5.out, hcc]
      unfold failF
      rw [(drop_hd HK2.out).1, (drop_hd HK2.out).2.1], by rw [hcc]; split <;> decide⟩
    clear hcc
    go_upto_region 36 with fail
    have hS0 : (fun w' : World => w'.cell? ⟨w.heap.size, 0, none⟩ = some (.slice (some ⟨g, 0, none⟩) N cp) ∧ w'.cell? ⟨w.heap.size, 1, none⟩ = some (.int .i64 ((i2 : Nat) : Int)) ∧ w'.cell? ⟨w.heap.size, 2, none⟩ = some (.int .i64 (nd : Int)) ∧ w'.cell? ⟨w.heap.size, 3, none⟩ = some (.int .i64 0) ∧ w'.cell? ⟨w.heap.size, 4, none⟩ = some (.int .i64 (pa : Int)) ∧ w'.cell? ⟨w.heap.size + 3, 0, none⟩ = some (.int .i64 kd) ∧ w'.cell? ⟨w.heap.size + 3, 1, none⟩ = some (.string a.txt) ∧ w'.cell? ⟨w.heap.size + 3, 2, none⟩ = some (.bool true) ∧ w'.cell? ⟨w.heap.size + 3, 3, none⟩ = some (.string k2.k.txt) ∧ w'.cell? ⟨w.heap.size + 3, 4, none⟩ = some (.int .u64 a.nm) ∧ w'.cell? ⟨w.heap.size + 3, 5, none⟩ = some (.int .u64 k2.k.nm) ∧ w'.cell? ⟨w.heap.size + 3, 6, none⟩ = some (.int .i64 0)) V5.drew := ⟨HJ5x.out.p.cell (j := 0) rfl, HJ5x.out.p.cell (j := 1) rfl, HJ5x.out.p.cell (j := 2) rfl, HJ5x.out.p.cell (j := 3) rfl, HJ5x.out.p.cell (j := 4) rfl, HJ5x.out.n.cell (j := 0) rfl, HJ5x.out.n.cell (j := 1) rfl, HJ5x.out.n.cell (j := 2) rfl, HJ5x.out.n.cell (j := 3) rfl, HJ5x.out.n.cell (j := 4) rfl, HJ5x.out.n.cell (j := 5) rfl, HJ5x.out.n.cell (j := 6) rfl⟩
    refine wp_region_T 99 (fun w' : World => w'.cell? ⟨w.heap.size, 0, none⟩ = some (.slice (some ⟨g, 0, none⟩) N cp) ∧ w'.cell? ⟨w.heap.size, 1, none⟩ = some (.int .i64 ((i2 : Nat) : Int)) ∧ w'.cell? ⟨w.heap.size, 2, none⟩ = some (.int .i64 (nd : Int)) ∧ w'.cell? ⟨w.heap.size, 3, none⟩ = some (.int .i64 0) ∧ w'.cell? ⟨w.heap.size, 4, none⟩ = some (.int .i64 (pa : Int)) ∧ w'.cell? ⟨w.heap.size + 3, 0, none⟩ = some (.int .i64 kd) ∧ w'.cell? ⟨w.heap.size + 3, 1, none⟩ = some (.string a.txt) ∧ w'.cell? ⟨w.heap.size + 3, 2, none⟩ = some (.bool true) ∧ w'.cell? ⟨w.heap.size + 3, 3, none⟩ = some (.string k2.k.txt) ∧ w'.cell? ⟨w.heap.size + 3, 4, none⟩ = some (.int .u64 a.nm) ∧ w'.cell? ⟨w.heap.size + 3, 5, none⟩ = some (.int .u64 k2.k.nm) ∧ w'.cell? ⟨w.heap.size + 3, 6, none⟩ = some (.int .i64 0)) (by kernel_rfl) ?_
    refine anyT_takeN (i := 0) (v := ?vrnbg0) rfl (by kernel_rfl) (by kernel_rfl) (by kernel_rfl) (by rfl) (fun _ _ _ h => h) (Or.inl ⟨by rfl, ?yrnbg0⟩) hS0 ?_
    case yrnbg0 => (intro wz hSw; obtain ⟨hz0, hz1, hz2, hz3, hz4, hz5, hz6, hz7, hz8, hz9, hz10, hz11⟩ := hSw; go_simp; (try with_reducible rfl))
    try simp only [Act.put, List.getElem_toArray, List.getElem_cons_zero, List.getElem_cons_succ, List.setIfInBounds_toArray, List.set_cons_zero, List.set_cons_succ]
    refine anyT_takeN (i := 2) (v := ?vrnbg2) rfl (by kernel_rfl) (by kernel_rfl) (by kernel_rfl) (by rfl) (fun _ _ _ h => h) (Or.inl ⟨by rfl, ?yrnbg2⟩) hS0 ?_
    case yrnbg2 => (intro wz hSw; obtain ⟨hz0, hz1, hz2, hz3, hz4, hz5, hz6, hz7, hz8, hz9, hz10, hz11⟩ := hSw; go_simp; (try with_reducible rfl))
    try simp only [Act.put, List.getElem_toArray, List.getElem_cons_zero, List.getElem_cons_succ, List.setIfInBounds_toArray, List.set_cons_zero, List.set_cons_succ]
    refine anyT_one (i := 1) (by kernel_rfl) rfl (fun K hK => ?_)
    go_simp
    go_at_call 46
    refine (HFl.out V5.drew (Below.refl _ _).drew).mono ?_
    rintro e w5 ⟨rfl, hb5⟩
    have HJ5 : Hid (AgJ w base g cp N nd pa ks (i2) (⟨kd, a.txt, true, k2.k.txt, a.nm, k2.k.nm, 0⟩ : Nd) w5) := HJ5x.out.up (((Below.refl _ _).drew).trans (hb5.mono (Nat.le_refl _)))
    have hS5 : (fun w' : World => w'.cell? ⟨w.heap.size, 0, none⟩ = some (.slice (some ⟨g, 0, none⟩) N cp) ∧ w'.cell? ⟨w.heap.size, 1, none⟩ = some (.int .i64 ((i2 : Nat) : Int)) ∧ w'.cell? ⟨w.heap.size, 2, none⟩ = some (.int .i64 (nd : Int)) ∧ w'.cell? ⟨w.heap.size, 3, none⟩ = some (.int .i64 0) ∧ w'.cell? ⟨w.heap.size, 4, none⟩ = some (.int .i64 (pa : Int)) ∧ w'.cell? ⟨w.heap.size + 3, 0, none⟩ = some (.int .i64 kd) ∧ w'.cell? ⟨w.heap.size + 3, 1, none⟩ = some (.string a.txt) ∧ w'.cell? ⟨w.heap.size + 3, 2, none⟩ = some (.bool true) ∧ w'.cell? ⟨w.heap.size + 3, 3, none⟩ = some (.string k2.k.txt) ∧ w'.cell? ⟨w.heap.size + 3, 4, none⟩ = some (.int .u64 a.nm) ∧ w'.cell? ⟨w.heap.size + 3, 5, none⟩ = some (.int .u64 k2.k.nm) ∧ w'.cell? ⟨w.heap.size + 3, 6, none⟩ = some (.int .i64 0)) w5 := ⟨HJ5.out.p.cell (j := 0) rfl, HJ5.out.p.cell (j := 1) rfl, HJ5.out.p.cell (j := 2) rfl, HJ5.out.p.cell (j := 3) rfl, HJ5.out.p.cell (j := 4) rfl, HJ5.out.n.cell (j := 0) rfl, HJ5.out.n.cell (j := 1) rfl, HJ5.out.n.cell (j := 2) rfl, HJ5.out.n.cell (j := 3) rfl, HJ5.out.n.cell (j := 4) rfl, HJ5.out.n.cell (j := 5) rfl, HJ5.out.n.cell (j := 6) rfl⟩
    refine hK.out _ _ (.inr hS5) ?_
    clear hK hb5 HFl
    try simp only [Act.put, List.getElem_toArray, List.getElem_cons_zero, List.getElem_cons_succ, List.setIfInBounds_toArray, List.set_cons_zero, List.set_cons_succ]
    have c0 := HJ5.out.rp.cell (j := 0) rfl
    have c1 := HJ5.out.rp.cell (j := 1) rfl
    have c2 := HJ5.out.rp.cell (j := 2) rfl
    have c3 := HJ5.out.rp.cell (j := 3) rfl
    have c4 := HJ5.out.rp.cell (j := 4) rfl
    have e0 := HJ5.out.rp.frozen 0
    have e1 := HJ5.out.rp.frozen 1
    have e2 := HJ5.out.rp.frozen 2
    have e3 := HJ5.out.rp.frozen 3
    have e4 := HJ5.out.rp.frozen 4
    obtain ⟨W6, hW6⟩ : ∃ V : World, V = setP w5 (w.heap.size + 1) (.slice (some ⟨g, 0, none⟩) N cp) (.int .i64 ((i2 : Nat) : Int)) (.int .i64 (nd : Int)) (.int .i64 cc) (.int .i64 (k2.pos : Int)) := ⟨_, rfl⟩
    have hc6 : Chg (fun k => k = w.heap.size + 1) w5 W6 := by rw [hW6]; exact chg_setP _ _ _ _ _ _ _
    have hp6 := HJ5.out.p.chg hc6 (by omega)
    have hn6 := HJ5.out.n.chg hc6 (by omega)
    have hr6 := HJ5.out.rn.chg hc6 (by omega)
    have hS6 : (fun w' : World => w'.cell? ⟨w.heap.size, 0, none⟩ = some (.slice (some ⟨g, 0, none⟩) N cp) ∧ w'.cell? ⟨w.heap.size, 1, none⟩ = some (.int .i64 ((i2 : Nat) : Int)) ∧ w'.cell? ⟨w.heap.size, 2, none⟩ = some (.int .i64 (nd : Int)) ∧ w'.cell? ⟨w.heap.size, 3, none⟩ = some (.int .i64 0) ∧ w'.cell? ⟨w.heap.size, 4, none⟩ = some (.int .i64 (pa : Int)) ∧ w'.cell? ⟨w.heap.size + 3, 0, none⟩ = some (.int .i64 kd) ∧ w'.cell? ⟨w.heap.size + 3, 1, none⟩ = some (.string a.txt) ∧ w'.cell? ⟨w.heap.size + 3, 2, none⟩ = some (.bool true) ∧ w'.cell? ⟨w.heap.size + 3, 3, none⟩ = some (.string k2.k.txt) ∧ w'.cell? ⟨w.heap.size + 3, 4, none⟩ = some (.int .u64 a.nm) ∧ w'.cell? ⟨w.heap.size + 3, 5, none⟩ = some (.int .u64 k2.k.nm) ∧ w'.cell? ⟨w.heap.size + 3, 6, none⟩ = some (.int .i64 0)) W6 := ⟨hp6.cell (j := 0) rfl, hp6.cell (j := 1) rfl, hp6.cell (j := 2) rfl, hp6.cell (j := 3) rfl, hp6.cell (j := 4) rfl, hn6.cell (j := 0) rfl, hn6.cell (j := 1) rfl, hn6.cell (j := 2) rfl, hn6.cell (j := 3) rfl, hn6.cell (j := 4) rfl, hn6.cell (j := 5) rfl, hn6.cell (j := 6) rfl⟩
    have d0 := hr6.cell (j := 0) rfl
    have d1 := hr6.cell (j := 1) rfl
    have d2 := hr6.cell (j := 2) rfl
    have d3 := hr6.cell (j := 3) rfl
    have d4 := hr6.cell (j := 4) rfl
    have d5 := hr6.cell (j := 5) rfl
    have d6 := hr6.cell (j := 6) rfl
    have f0 := hr6.frozen 0
    have f1 := hr6.frozen 1
    have f2 := hr6.frozen 2
    have f3 := hr6.frozen 3
    have f4 := hr6.frozen 4
    have f5 := hr6.frozen 5
    have f6 := hr6.frozen 6
    obtain ⟨W9, hW9⟩ : ∃ V : World, V = setN W6 (w.heap.size + 2) (⟨kd, a.txt, true, k2.k.txt, a.nm, k2.k.nm, 0⟩ : Nd) := ⟨_, rfl⟩
    have hc9 : Chg (fun k => k = w.heap.size + 2) W6 W9 := by rw [hW9]; exact chg_setN _ _ _
    have hp9 := hp6.chg hc9 (by omega)
    have hn9 := hn6.chg hc9 (by omega)
    have hS9 : (fun w' : World => w'.cell? ⟨w.heap.size, 0, none⟩ = some (.slice (some ⟨g, 0, none⟩) N cp) ∧ w'.cell? ⟨w.heap.size, 1, none⟩ = some (.int .i64 ((i2 : Nat) : Int)) ∧ w'.cell? ⟨w.heap.size, 2, none⟩ = some (.int .i64 (nd : Int)) ∧ w'.cell? ⟨w.heap.size, 3, none⟩ = some (.int .i64 0) ∧ w'.cell? ⟨w.heap.size, 4, none⟩ = some (.int .i64 (pa : Int)) ∧ w'.cell? ⟨w.heap.size + 3, 0, none⟩ = some (.int .i64 kd) ∧ w'.cell? ⟨w.heap.size + 3, 1, none⟩ = some (.string a.txt) ∧ w'.cell? ⟨w.heap.size + 3, 2, none⟩ = some (.bool true) ∧ w'.cell? ⟨w.heap.size + 3, 3, none⟩ = some (.string k2.k.txt) ∧ w'.cell? ⟨w.heap.size + 3, 4, none⟩ = some (.int .u64 a.nm) ∧ w'.cell? ⟨w.heap.size + 3, 5, none⟩ = some (.int .u64 k2.k.nm) ∧ w'.cell? ⟨w.heap.size + 3, 6, none⟩ = some (.int .i64 0)) W9 := ⟨hp9.cell (j := 0) rfl, hp9.cell (j := 1) rfl, hp9.cell (j := 2) rfl, hp9.cell (j := 3) rfl, hp9.cell (j := 4) rfl, hn9.cell (j := 0) rfl, hn9.cell (j := 1) rfl, hn9.cell (j := 2) rfl, hn9.cell (j := 3) rfl, hn9.cell (j := 4) rfl, hn9.cell (j := 5) rfl, hn9.cell (j := 6) rfl⟩
    have HF : Hid (BoxAt W9 w.heap.size 41 5 (w.heap.size + 1) [.slice (some ⟨g, 0, none⟩) N cp, .int .i64 ((i2 : Nat) : Int), .int .i64 (nd : Int), .int .i64 cc, .int .i64 (k2.pos : Int)] ∧ BoxAt W9 w.heap.size 65 7 (w.heap.size + 2) (Nd.seven (⟨kd, a.txt, true, k2.k.txt, a.nm, k2.k.nm, 0⟩ : Nd)) ∧ Below w.heap.size w W9) := by
      have hf := HJ5.out.fin (.slice (some ⟨g, 0, none⟩) N cp) (.int .i64 ((i2 : Nat) : Int)) (.int .i64 (nd : Int)) (.int .i64 cc) (.int .i64 (k2.pos : Int)) (⟨kd, a.txt, true, k2.k.txt, a.nm, k2.k.nm, 0⟩ : Nd)
      rw [hW9, hW6]
      exact hf
    have HR : Hid (ArgP base g cp N nd pa ks kd i w (.returned (.tuple #[parV g N cp (i2) nd cc k2.pos, Nd.v (⟨kd, a.txt, true, k2.k.txt, a.nm, k2.k.nm, 0⟩ : Nd)])) W9) := ⟨HF.out.2.2, .inr ⟨cc, k2.pos, i2, (⟨kd, a.txt, true, k2.k.txt, a.nm, k2.k.nm, 0⟩ : Nd), HAE.out.1, HAE.out.2, rfl⟩⟩
    have p0 := HF.out.1.cell (j := 0) rfl
    have p1 := HF.out.1.cell (j := 1) rfl
    have p2 := HF.out.1.cell (j := 2) rfl
    have p3 := HF.out.1.cell (j := 3) rfl
    have p4 := HF.out.1.cell (j := 4) rfl
    have q0 := HF.out.2.1.cell (j := 0) rfl
    have q1 := HF.out.2.1.cell (j := 1) rfl
    have q2 := HF.out.2.1.cell (j := 2) rfl
    have q3 := HF.out.2.1.cell (j := 3) rfl
    have q4 := HF.out.2.1.cell (j := 4) rfl
    have q5 := HF.out.2.1.cell (j := 5) rfl
    have q6 := HF.out.2.1.cell (j := 6) rfl
    unfold setP at hW6
    unfold setN at hW9
    clear hp6 hn6 hr6 hp9 hn9 hc6 hc9
    simp only [leafN, patN, cntN, noS] at hW9 q0 q1 q2 q3 q4 q5 q6
    refine anyT_one (i := 3) (by kernel_rfl) rfl (fun K hK => ?_)
    go_simp
    rw [← hW6]
    refine hK.out _ _ (.inr hS6) ?_
    clear hK hW6
    try simp only [Act.put, List.getElem_toArray, List.getElem_cons_zero, List.getElem_cons_succ, List.setIfInBounds_toArray, List.set_cons_zero, List.set_cons_succ]
    refine anyT_one (i := 4) (by kernel_rfl) rfl (fun K hK => ?_)
    go_simp
    rw [← hW9]
    refine hK.out _ _ (.inr hS9) ?_
    clear hK hW9
    try simp only [Act.put, List.getElem_toArray, List.getElem_cons_zero, List.getElem_cons_succ, List.setIfInBounds_toArray, List.set_cons_zero, List.set_cons_succ]
    refine anyT_done (by kernel_rfl) ?_
    clear hS0 hS5 hS6 hS9 c0 c1 c2 c3 c4 d0 d1 d2 d3 d4 d5 d6 e0 e1 e2 e3 e4 f0 f1 f2 f3 f4 f5 f6
    go_wp2_with fail
    exact bodyPost_ret (v := .tuple #[parV g N cp (i2) nd cc k2.pos, Nd.v (⟨kd, a.txt, true, k2.k.txt, a.nm, k2.k.nm, 0⟩ : Nd)]) (by simp [results, Tryz.results49, go_sem, p0, p1, p2, p3, p4, q0, q1, q2, q3, q4, q5, q6, leafN, patN, cntN, noS]) rfl HR.out

  have hbl : decide (k2.k.nm ≤ a.nm) = false := decide_eq_false (by omega)
  have HA5 : Hid (argsM kd (ks.drop i) = .ok (ks.drop (i2 + 1), (⟨kd, a.txt, true, k2.k.txt, a.nm, k2.k.nm, 0⟩ : Nd))) := by
    show _ = _
    rw [HA4.out, if_pos (.inr hls)]
  clear hls
  obtain ⟨V6, hV6⟩ : ∃ V : World, V = V5.setCell ⟨w.heap.size, 1, none⟩ (.int .i64 ((i2 : Int) + 1)) := ⟨_, rfl⟩
  obtain ⟨i3, hi3⟩ : ∃ ix, ix = i2 + 1 := ⟨_, rfl⟩
  have HJ6 : Hid (AgJ w base g cp N nd pa ks i3 (⟨kd, a.txt, true, k2.k.txt, a.nm, k2.k.nm, 0⟩ : Nd) V6) := by rw [hV6, hi3]; exact HJ5x.out.stepI _ (by simp)
  have Hi3 : Hid (i3 = i2 + 1) := hi3
  have hilei3 : i2 ≤ i3 := by omega
  clear hi3
  have a1 := HJ5x.out.p.cell (j := 1) rfl
  have ia := HJ5x.out.p.frozen 1
  go_upto_region 38 with fail
  rw [← hV6]
  have hi3 : i3 < N := by rw [Hi3.out]; exact hi3N
  clear hV6 a1 ia hbl
  have a0 := HJ6.out.p.cell (j := 0) rfl
  have a1 := HJ6.out.p.cell (j := 1) rfl
  have a2 := HJ6.out.p.cell (j := 2) rfl
  have a3 := HJ6.out.p.cell (j := 3) rfl
  have a4 := HJ6.out.p.cell (j := 4) rfl
  have b0 := HJ6.out.n.cell (j := 0) rfl
  have b1 := HJ6.out.n.cell (j := 1) rfl
  have b2 := HJ6.out.n.cell (j := 2) rfl
  have b3 := HJ6.out.n.cell (j := 3) rfl
  have b4 := HJ6.out.n.cell (j := 4) rfl
  have b5 := HJ6.out.n.cell (j := 5) rfl
  have b6 := HJ6.out.n.cell (j := 6) rfl
  have c0 := HJ6.out.rp.cell (j := 0) rfl
  have c1 := HJ6.out.rp.cell (j := 1) rfl
  have c2 := HJ6.out.rp.cell (j := 2) rfl
  have c3 := HJ6.out.rp.cell (j := 3) rfl
  have c4 := HJ6.out.rp.cell (j := 4) rfl
  have d0 := HJ6.out.rn.cell (j := 0) rfl
  have d1 := HJ6.out.rn.cell (j := 1) rfl
  have d2 := HJ6.out.rn.cell (j := 2) rfl
  have d3 := HJ6.out.rn.cell (j := 3) rfl
  have d4 := HJ6.out.rn.cell (j := 4) rfl
  have d5 := HJ6.out.rn.cell (j := 5) rfl
  have d6 := HJ6.out.rn.cell (j := 6) rfl
  have e0 := HJ6.out.rp.frozen 0
  have e1 := HJ6.out.rp.frozen 1
  have e2 := HJ6.out.rp.frozen 2
  have e3 := HJ6.out.rp.frozen 3
  have e4 := HJ6.out.rp.frozen 4
  have f0 := HJ6.out.rn.frozen 0
  have f1 := HJ6.out.rn.frozen 1
  have f2 := HJ6.out.rn.frozen 2
  have f3 := HJ6.out.rn.frozen 3
  have f4 := HJ6.out.rn.frozen 4
  have f5 := HJ6.out.rn.frozen 5
  have f6 := HJ6.out.rn.frozen 6
  obtain ⟨W9, hW9⟩ : ∃ V : World, V = (setN (setP V6 (w.heap.size + 1) (.slice (some ⟨g, 0, none⟩) N cp) (.int .i64 (i3 : Int)) (.int .i64 (nd : Int)) (.int .i64 0) (.int .i64 (pa : Int))) (w.heap.size + 2) (⟨kd, a.txt, true, k2.k.txt, a.nm, k2.k.nm, 0⟩ : Nd)).drew := ⟨_, rfl⟩
  have HF : Hid (BoxAt W9 w.heap.size 41 5 (w.heap.size + 1) [.slice (some ⟨g, 0, none⟩) N cp, .int .i64 (i3 : Int), .int .i64 (nd : Int), .int .i64 0, .int .i64 (pa : Int)] ∧ BoxAt W9 w.heap.size 65 7 (w.heap.size + 2) (Nd.seven (⟨kd, a.txt, true, k2.k.txt, a.nm, k2.k.nm, 0⟩ : Nd)) ∧ Below w.heap.size w W9) := by
    have hf := HJ6.out.fin (.slice (some ⟨g, 0, none⟩) N cp) (.int .i64 (i3 : Int)) (.int .i64 (nd : Int)) (.int .i64 0) (.int .i64 (pa : Int)) (⟨kd, a.txt, true, k2.k.txt, a.nm, k2.k.nm, 0⟩ : Nd)
    have hd : ∀ X : World, Below X.heap.size X X.drew := fun X => (Below.refl _ _).drew
    rw [hW9]
    exact ⟨hf.1.below (hd _), hf.2.1.below (hd _), hf.2.2.trans ((hd _).mono hf.2.2.size)⟩
  have HR : Hid (ArgP base g cp N nd pa ks kd i w (.returned (.tuple #[parV g N cp (i3) nd 0 pa, Nd.v (⟨kd, a.txt, true, k2.k.txt, a.nm, k2.k.nm, 0⟩ : Nd)])) W9) := ⟨HF.out.2.2, .inl ⟨i3, (⟨kd, a.txt, true, k2.k.txt, a.nm, k2.k.nm, 0⟩ : Nd), by rw [Hi3.out]; exact HA5.out, by omega, by omega, rfl⟩⟩
  have p0 := HF.out.1.cell (j := 0) rfl
  have p1 := HF.out.1.cell (j := 1) rfl
  have p2 := HF.out.1.cell (j := 2) rfl
  have p3 := HF.out.1.cell (j := 3) rfl
  have p4 := HF.out.1.cell (j := 4) rfl
  have q0 := HF.out.2.1.cell (j := 0) rfl
  have q1 := HF.out.2.1.cell (j := 1) rfl
  have q2 := HF.out.2.1.cell (j := 2) rfl
  have q3 := HF.out.2.1.cell (j := 3) rfl
  have q4 := HF.out.2.1.cell (j := 4) rfl
  have q5 := HF.out.2.1.cell (j := 5) rfl
  have q6 := HF.out.2.1.cell (j := 6) rfl
  unfold setN setP at hW9
  simp only [leafN, patN, cntN, noS] at hW9 b0 b1 b2 b3 b4 b5 b6 q0 q1 q2 q3 q4 q5 q6
  go_region
  rw [← hW9]
  clear hW9 a0 a1 a2 a3 a4 b0 b1 b2 b3 b4 b5 b6 c0 c1 c2 c3 c4 d0 d1 d2 d3 d4 d5 d6 e0 e1 e2 e3 e4 f0 f1 f2 f3 f4 f5 f6
  go_wp2_with fail
  exact bodyPost_ret (v := .tuple #[parV g N cp (i3) nd 0 pa, Nd.v (⟨kd, a.txt, true, k2.k.txt, a.nm, k2.k.nm, 0⟩ : Nd)]) (by simp [results, Tryz.results49, go_sem, p0, p1, p2, p3, p4, q0, q1, q2, q3, q4, q5, q6, leafN, patN, cntN, noS]) rfl HR.out

theorem args_all {w : World} {base g cp N nd pa : Nat} {ks : List Tk} {i : Nat} {k : Tk} (h : OwnTk w base g cp ks) (hN : N = ks.length) (hl : N ≤ 1000000) (hk : ks[i]? = some k) (hT : Toks ks) (kd : Int) (h1 : 1 ≤ kd ∧ kd ≤ 13) : Calls Tryz.prog 49 #[parV g N cp i nd 0 pa, .int .i64 kd] w (ArgP base g cp N nd pa ks kd i w) := by
  by_cases h3 : kd ≤ 3
  · exact args_low h hN hl hk hT kd h3
  by_cases h7 : kd ≤ 7
  · by_cases hs : tkN k.k = 3
    · obtain ⟨sx, hsx⟩ := tkN_str hs
      exact args_str h hN hl hk hT kd h3 h7 hsx
    · exact args_nostr h hN hl hk hT kd h3 h7 hs
  by_cases h9 : kd ≤ 9
  · exact args_rs h hN hl hk hT kd (by omega)
  by_cases h10 : kd = 10
  · exact args_rn h hN hl hk hT kd h10
  by_cases hs : tkN k.k = 2
  · obtain ⟨sx, hsx⟩ := tkN_num hs
    exact args_num h hN hl hk hT kd (by omega) hsx
  · exact args_nonum h hN hl hk hT kd (by omega) hs
end Go.Proofs.YtgnpcenpcmdlfaaGreatDoor
