import Derived.Test.YtkbmdkgfgfbilaaPkAG
import Derived.Test.YtkbmdkgfgfbilaaPkAF
/-
  (*impl.codeTree).emit: an if.
-/
namespace Go.Proofs.Ytkbmdkgfgfbilaa
open Go.ChangeShapes Go.WideShapes Go.ChangeAt Go.RowKit Go.Deep
set_option linter.unusedVariables false
set_option linter.unusedSimpArgs false
set_option maxRecDepth 100000

theorem set_mid (l r : List Ix) (x y : Ix) {k : Nat} (hk : k = l.length) : (l ++ x :: r).set k y = l ++ y :: r := by
  subst hk
  rw [List.set_append_right _ _ (Nat.le_refl _), Nat.sub_self, List.set_cons_zero]
theorem get_mid (l r : List Ix) (x : Ix) {k : Nat} (hk : k = l.length) : (l ++ x :: r)[k]? = some x := by
  subst hk
  simp
theorem cond_list (a b d : CT) (n : Nd) (X : List Ix) (c : Nat) (s : Bool) (f : Nat) {B C : List Ix} {cB k3 k5 : Nat} (hB : B = absG (X.length + 1) c (b.gen s (f + a.ifs + 1))) (hcB : cB = c + cntL (b.gen s (f + a.ifs + 1))) (hC : C = absG (X.length + 1 + B.length + 1) cB (d.gen s (f + a.ifs + 1 + b.ifs))) (h3 : k3 = X.length + 1 + B.length + 1) (h5 : k5 = k3 + C.length) :
    X ++ absG X.length c ((CT.cond n a b d).gen s f) = X ++ ⟨5, ((f + a.ifs : Nat) : Int), (k3 : Int), false, zeroN⟩ :: (B ++ ⟨6, 0, (k5 : Int), false, zeroN⟩ :: C) ∧ c + cntL ((CT.cond n a b d).gen s f) = cB + cntL (d.gen s (f + a.ifs + 1 + b.ifs)) := by
  obtain ⟨gb, hgb⟩ : ∃ gb, gb = b.gen s (f + a.ifs + 1) := ⟨_, rfl⟩
  obtain ⟨gd, hgd⟩ : ∃ gd, gd = d.gen s (f + a.ifs + 1 + b.ifs) := ⟨_, rfl⟩
  have hBl : B.length = gb.length := by rw [hB, absG_length, hgb]
  have hCl : C.length = gd.length := by rw [hC, absG_length, hgd]
  have j5 : ∀ (k c : Nat) (u v : Int), fixI k c ⟨5, u, v, false, zeroN⟩ = ⟨5, u, v + (k : Int), false, zeroN⟩ := fun k c u v => by simp [fixI]
  have j6 : ∀ (k c : Nat) (u v : Int), fixI k c ⟨6, u, v, false, zeroN⟩ = ⟨6, u, v + (k : Int), false, zeroN⟩ := fun k c u v => by simp [fixI]
  have n5 : ∀ (u v : Int), cntI ⟨5, u, v, false, zeroN⟩ = 0 := fun u v => by simp [cntI]
  have n6 : ∀ (u v : Int), cntI ⟨6, u, v, false, zeroN⟩ = 0 := fun u v => by simp [cntI]
  have e3 : (gb.length : Int) + 2 + (X.length : Int) = (k3 : Int) := by omega
  have e5 : (gd.length : Int) + 1 + ((X.length + 1 + gb.length : Nat) : Int) = (k5 : Int) := by omega
  have eg : (CT.cond n a b d).gen s f = ⟨5, ((f + a.ifs : Nat) : Int), (gb.length : Int) + 2, false, zeroN⟩ :: (gb ++ ⟨6, 0, (gd.length : Int) + 1, false, zeroN⟩ :: gd) := by rw [hgb, hgd]; simp [CT.gen]
  refine ⟨?_, ?_⟩
  · rw [eg, absG, absG_append, absG, j5, j6, n5, n6, e3, e5, hC, hB, absG_length, hcB, ← hgb, ← hgd]
    simp only [Nat.add_zero]
  · rw [eg, cntL, cntL_append, cntL, n5, n6, hcB, hgb, hgd]; omega
set_option maxHeartbeats 8000000 in
theorem emit_cond (n : Nd) (a b d : CT) (Hb : EmC b) (Hd : EmC d) : EmC (.cond n a b d) := by
  intro w lo hi p f eb c v X s hT hE hh hl hc hf
  obtain ⟨h0, m, m2, m3, pa, pb, pc, q, cq, k, hA, hB, hD, l1, l2, l3, hb, hr, hp, hq, hk⟩ := hT
  have hcq : 3 ≤ cq := hr.caps.1
  have hcm := hr.caps.2
  have hbl := BoxAt.lt hb
  have hrl := hr.lt
  have hebl := hE.lt
  have hkn := hk f rfl
  subst hkn
  have HCL : Hid (∀ wx, Below eb w wx → wx.cell? ⟨p, 7, none⟩ = some (.slice (some ⟨q, 0, none⟩) 3 cq) ∧ wx.cell? ⟨q, 1, none⟩ = some (ptrV pb) ∧ wx.cell? ⟨q, 2, none⟩ = some (ptrV pc) ∧ TrAt wx b m m2 pb (some (f + a.ifs + 1)) ∧ TrAt wx d m2 m3 pc (some (f + a.ifs + 1 + b.ifs))) := fun wx hx =>
    ⟨by rw [hx.cell (p := ⟨p, 7, none⟩) (by show p < eb; omega)]; exact BoxAt.cell hb (j := 7) rfl, by rw [hx.cell (p := ⟨q, 1, none⟩) (by show q < eb; omega)]; exact hr.cell (j := 1) rfl, by rw [hx.cell (p := ⟨q, 2, none⟩) (by show q < eb; omega)]; exact hr.cell (j := 2) rfl, hB.below hx (by omega) (by omega), hD.below hx (by omega) (by omega)⟩
  have d0 : w.cell? ⟨p, 0, none⟩ = some (.int .i64 n.kind) := BoxAt.cell hb (j := 0) rfl
  have d8 : w.cell? ⟨p, 8, none⟩ = some (.int .i64 ((f + a.ifs : Nat) : Int)) := BoxAt.cell hb (j := 8) rfl
  have HE : Hid (EmAt w eb v X c) := hE
  simp only [CT.size] at hl hc
  simp only [CT.ifs] at hf
  obtain ⟨Kf, hKf⟩ : ∃ Kf, Kf = f + a.ifs := ⟨_, rfl⟩
  rw [← hKf] at d8
  have hgb := gen_len b s (f + a.ifs + 1)
  have hcb := cntL_gen b s (f + a.ifs + 1)
  have hgd := gen_len d s (f + a.ifs + 1 + b.ifs)
  have hm1 : m2 ≤ eb := by omega
  have hm2 : m3 ≤ eb := by omega
  have z14 : (n.kind == 14) = false := by rw [beq_eq_false_iff_ne]; omega
  have z15 : (n.kind == 15) = false := by rw [beq_eq_false_iff_ne]; omega
  have z16 : (n.kind == 16) = true := by rw [beq_iff_eq]; exact h0
  obtain ⟨br, hbr⟩ : ∃ br : Ix, br = ⟨5, (Kf : Int), 0, false, zeroN⟩ := ⟨_, rfl⟩
  obtain ⟨ju, hju⟩ : ∃ ju : Ix, ju = ⟨6, 0, 0, false, zeroN⟩ := ⟨_, rfl⟩
  have HL0 : Hid (X.length ≤ 100000) := by show _ ≤ _; omega
  have HB : Hid (∀ (wx : World) (v1 : Value), Below eb w wx → EmAt wx eb v1 (X ++ [br]) c → Calls Try.prog 24 #[ptrV pb, ptrV eb, .bool s] wx (EmP wx eb c v1 (X ++ [br]) b s (f + a.ifs + 1))) := fun wx v1 hx hEx => Hb wx m m2 pb _ eb c v1 _ s (HCL.out wx hx).2.2.2.1 hEx hm1 (by rw [List.length_append, List.length_singleton]; omega) (by omega) (by omega)
  obtain ⟨B, hBB⟩ : ∃ B, B = absG (X.length + 1) c (b.gen s (f + a.ifs + 1)) := ⟨_, rfl⟩
  have hBl : B.length = (b.gen s (f + a.ifs + 1)).length := by rw [hBB, absG_length]
  obtain ⟨cB, hcB⟩ : ∃ cB, cB = c + cntL (b.gen s (f + a.ifs + 1)) := ⟨_, rfl⟩
  obtain ⟨k3, hk3⟩ : ∃ k3, k3 = X.length + 1 + B.length + 1 := ⟨_, rfl⟩
  obtain ⟨br', hbr'⟩ : ∃ br' : Ix, br' = ⟨5, (Kf : Int), (k3 : Int), false, zeroN⟩ := ⟨_, rfl⟩
  obtain ⟨X4, hX4⟩ : ∃ X4, X4 = X ++ br' :: (B ++ [ju]) := ⟨_, rfl⟩
  have hX4l : X4.length = k3 := by rw [hX4, hk3]; simp; omega
  have HD : Hid (∀ (wx : World) (v1 : Value), Below eb w wx → EmAt wx eb v1 X4 cB → Calls Try.prog 24 #[ptrV pc, ptrV eb, .bool s] wx (EmP wx eb cB v1 X4 d s (f + a.ifs + 1 + b.ifs))) := fun wx v1 hx hEx => Hd wx m2 m3 pc _ eb cB v1 _ s (HCL.out wx hx).2.2.2.2 hEx hm2 (by omega) (by omega) (by omega)
  obtain ⟨C, hCC⟩ : ∃ C, C = absG (X.length + 1 + B.length + 1) cB (d.gen s (f + a.ifs + 1 + b.ifs)) := ⟨_, rfl⟩
  have hCl : C.length = (d.gen s (f + a.ifs + 1 + b.ifs)).length := by rw [hCC, absG_length]
  obtain ⟨k5, hk5⟩ : ∃ k5, k5 = k3 + C.length := ⟨_, rfl⟩
  have HX : Hid (B = absG (X.length + 1) c (b.gen s (f + a.ifs + 1)) ∧ cB = c + cntL (b.gen s (f + a.ifs + 1)) ∧ C = absG (X.length + 1 + B.length + 1) cB (d.gen s (f + a.ifs + 1 + b.ifs)) ∧ k3 = X.length + 1 + B.length + 1 ∧ k5 = k3 + C.length ∧ X4 = X ++ br' :: (B ++ [ju]) ∧ X4.length = k3) := ⟨hBB, hcB, hCC, hk3, hk5, hX4, hX4l⟩
  have HZ : Hid (br = ⟨5, (Kf : Int), 0, false, zeroN⟩ ∧ ju = ⟨6, 0, 0, false, zeroN⟩ ∧ br' = ⟨5, (Kf : Int), (k3 : Int), false, zeroN⟩ ∧ Kf = f + a.ifs) := ⟨hbr, hju, hbr', hKf⟩
  have HLs : Hid (k3 ≤ 100000 ∧ k5 ≤ 100000 ∧ (X ++ br :: B).length ≤ 100000) := ⟨by omega, by omega, by simp; omega⟩
  have HJ0 : Hid (Calls Try.prog 51 #[.pointer (some ⟨eb, 0, none⟩), .agg #[.int .i64 5, .int .i64 (Kf : Int), .int .i64 0, .bool false, .int .i64 0, .string ⟨#[]⟩, .bool false, .string ⟨#[]⟩, .int .u64 0, .int .u64 0, .int .i64 0]] w (JmpP w eb c v X br)) := by rw [hbr]; exact addJump_core HE.out ⟨5, (Kf : Int), 0, false, zeroN⟩ HL0.out
  have HJ1 : Hid (∀ (wx : World) (v1 : Value) (c1 : Nat) (Y : List Ix), Y.length ≤ 100000 → EmAt wx eb v1 Y c1 → Calls Try.prog 51 #[.pointer (some ⟨eb, 0, none⟩), .agg #[.int .i64 6, .int .i64 0, .int .i64 0, .bool false, .int .i64 0, .string ⟨#[]⟩, .bool false, .string ⟨#[]⟩, .int .u64 0, .int .u64 0, .int .i64 0]] wx (JmpP wx eb c1 v1 Y ju)) := fun wx v1 c1 Y hY hEx => by rw [hju]; exact addJump_core hEx ⟨6, 0, 0, false, zeroN⟩ hY
  clear hA hB hD hb hr Hb Hd hE h0 hgb hcb hgd hBB hcB hCC hk3 hk5 hX4 hX4l hbr hju hbr' hKf hBl hCl hk
  go_enter Try.func24, Try.ntmps24
  go_wp2_with fail
  refine HJ0.out.mono ?_
  rintro r w1 ⟨P1, P3, v1, rfl, hLa, hT1⟩
  have HT1 : Hid (EmTo w w1 eb v v1 (X ++ [br]) c) := hT1
  have hx1 : Below eb w w1 := hT1.below HE.out
  obtain ⟨c0, c1, c2, _, _⟩ := HCL.out w1 hx1
  have HLa : Hid (LabAt w1 P1 P3 eb X.length) := hLa
  clear hT1 d0 d8 hLa HJ0
  go_wp2_with fail
  refine (HB.out w1 v1 hx1 HT1.out.at_).mono ?_
  rintro r w2 ⟨v2, rfl, hT2⟩
  have HLa2 : Hid (LabAt w2 P1 P3 eb X.length) := HLa.out.move HT1.out.at_ hT2
  have HT2 : Hid (EmTo w w2 eb v v2 (X ++ br :: B) cB) := by
    have h9 := HT1.out.trans hT2
    rw [List.length_append, List.length_singleton, ← HX.out.1, ← HX.out.2.1, List.append_assoc, List.singleton_append] at h9
    exact h9
  obtain ⟨sa, hsa⟩ : ∃ sa, sa = (s || b.passes) := ⟨_, rfl⟩
  rw [← hsa]
  have HSA : Hid (sa = (s || b.passes)) := hsa
  clear hT2 hsa HT1 hx1 c0 c1 c2 HB HLa
  go_wp2_with fail
  refine (HJ1.out w2 v2 cB _ HLs.out.2.2 HT2.out.at_).mono ?_
  rintro r w3 ⟨P4, P6, v3, rfl, hLb, hT3⟩
  have HT3 : Hid (EmTo w w3 eb v v3 (X ++ br :: B ++ [ju]) cB) := HT2.out.trans hT3
  have HLa3 : Hid (LabAt w3 P1 P3 eb X.length) := HLa2.out.move HT2.out.at_ hT3
  have HLb3 : Hid (LabAt w3 P4 P6 eb (X ++ br :: B).length) := hLb
  have HS1 : Hid (Calls Try.prog 66 #[.pointer (some ⟨P1, 0, none⟩), .pointer (some ⟨P3, 0, none⟩)] w3 fun r w' => r = .returned (.tuple #[]) ∧ EmTo w3 w' eb v3 v3 X4 cB) := by
    have hle : (X ++ br :: B ++ [ju]).length = k3 := by rw [HX.out.2.2.2.1]; simp; omega
    have h9 := label_core HT3.out.at_ HLa3.out (k := X.length) (y := br) (by rw [List.append_assoc, List.cons_append]; exact get_mid _ _ _ rfl) (by rw [hle]; exact HLs.out.1)
    rw [hle, List.append_assoc, List.cons_append, set_mid _ _ _ _ rfl] at h9
    have e9 : X ++ ({ br with b := (k3 : Int) } : Ix) :: (B ++ [ju]) = X4 := by rw [HX.out.2.2.2.2.2.1, HZ.out.2.2.1, HZ.out.1]
    rw [e9] at h9
    exact h9
  clear hT3 hLb HT2 HLa2 HJ1
  go_wp2_with fail
  refine HS1.out.mono ?_
  rintro r w4 ⟨rfl, hT4⟩
  have HT4 : Hid (EmTo w w4 eb v v3 X4 cB) := HT3.out.trans hT4
  have HLb4 : Hid (LabAt w4 P4 P6 eb (X ++ br :: B).length) := HLb3.out.move HT3.out.at_ hT4
  have hx4 : Below eb w w4 := HT4.out.below HE.out
  obtain ⟨c0, c1, c2, _, _⟩ := HCL.out w4 hx4
  clear hT4 HT3 HLa3 HLb3 HS1
  go_wp2_with fail
  refine (HD.out w4 v3 hx4 HT4.out.at_).mono ?_
  rintro r w5 ⟨v5, rfl, hT5⟩
  have HLb5 : Hid (LabAt w5 P4 P6 eb (X ++ br :: B).length) := HLb4.out.move HT4.out.at_ hT5
  have HT5 : Hid (EmTo w w5 eb v v5 (X4 ++ C) (cB + cntL (d.gen s (f + a.ifs + 1 + b.ifs)))) := by
    have h9 := HT4.out.trans hT5
    rw [HX.out.2.2.2.2.2.2, HX.out.2.2.2.1, ← HX.out.2.2.1] at h9
    exact h9
  obtain ⟨sb, hsb⟩ : ∃ sb, sb = (s || d.passes) := ⟨_, rfl⟩
  rw [← hsb]
  have HSB : Hid (sb = (s || d.passes)) := hsb
  obtain ⟨X6, hX6⟩ : ∃ X6, X6 = X ++ br' :: (B ++ ⟨6, 0, (k5 : Int), false, zeroN⟩ :: C) := ⟨_, rfl⟩
  have HS2 : Hid (Calls Try.prog 66 #[.pointer (some ⟨P4, 0, none⟩), .pointer (some ⟨P6, 0, none⟩)] w5 fun r w' => r = .returned (.tuple #[]) ∧ EmTo w5 w' eb v5 v5 X6 (cB + cntL (d.gen s (f + a.ifs + 1 + b.ifs)))) := by
    have hle : (X4 ++ C).length = k5 := by rw [List.length_append, HX.out.2.2.2.2.2.2, HX.out.2.2.2.2.1]
    have e4 : X4 ++ C = (X ++ br' :: B) ++ ju :: C := by rw [HX.out.2.2.2.2.2.1]; simp
    have hkk : (X ++ br :: B).length = (X ++ br' :: B).length := by simp
    have h9 := label_core HT5.out.at_ HLb5.out (y := ju) (by rw [e4]; exact get_mid _ _ _ hkk) (by rw [hle]; exact HLs.out.2.1)
    rw [hle, e4, set_mid _ _ _ _ hkk] at h9
    have e9 : X ++ br' :: B ++ ({ ju with b := (k5 : Int) } : Ix) :: C = X6 := by rw [hX6, HZ.out.2.1]; simp
    rw [e9] at h9
    exact h9
  have HX6 : Hid (X6 = X ++ br' :: (B ++ ⟨6, 0, (k5 : Int), false, zeroN⟩ :: C)) := hX6
  clear hT5 hsb HT4 HLb4 c0 c1 c2 HD hX6
  go_wp2_with fail
  refine HS2.out.mono ?_
  rintro r w6 ⟨rfl, hT6⟩
  have HR : Hid (EmP w eb c v X (.cond n a b d) s f (.returned (.bool (sa || sb))) w6) := by
    refine ⟨v5, ?_, ?_⟩
    · rw [HSA.out, HSB.out]; simp only [CT.passes]; cases s <;> simp
    · have h9 := HT5.out.trans hT6
      obtain ⟨e1, e2⟩ := cond_list a b d n X c s f HX.out.1 HX.out.2.1 HX.out.2.2.1 HX.out.2.2.2.1 HX.out.2.2.2.2.1
      have eK : ((f + a.ifs : Nat) : Int) = (Kf : Int) := by rw [HZ.out.2.2.2]
      rw [e1, e2, eK, ← HZ.out.2.2.1, ← HX6.out]
      exact h9
  clear hT6 HT5 HS2
  cases sa
  case false =>
    have HR2 : Hid (EmP w eb c v X (.cond n a b d) s f (.returned (.bool sb)) w6) := by have := HR.out; rwa [Bool.false_or] at this
    go_wp2_with fail
    go_ret
    exact HR2.out
  case true =>
    have HR2 : Hid (EmP w eb c v X (.cond n a b d) s f (.returned (.bool true)) w6) := by have := HR.out; rwa [Bool.true_or] at this
    go_wp2_with fail
    go_ret
    exact HR2.out
end Go.Proofs.Ytkbmdkgfgfbilaa

/-
  spec.l6Block.
-/
namespace Go.Proofs.Ytkbmdkgfgfbilaa
open Go.ChangeShapes Go.WideShapes Go.ChangeAt Go.RowKit Go.Deep
set_option linter.unusedVariables false
set_option linter.unusedSimpArgs false
set_option maxRecDepth 100000

set_option maxHeartbeats 1000000 in
theorem isJump_any (op : Int) (w : World) : Calls Try.prog 42 #[.int .i64 op] w fun r w' => r = .returned (.bool (op == 5 || op == 6)) ∧ w' = w := by
  go_enter Try.func42, Try.ntmps42
  go_wp2_with fail
  all_goals go_ret
  all_goals simp_all
theorem cntL_take {X : List Ix} {k : Nat} {x : Ix} (h : X[k]? = some x) : cntL (X.take (k + 1)) = cntL (X.take k) + cntI x := by
  rw [List.take_add_one, h, cntL_append]; simp [cntL]
theorem absG_take {X : List Ix} {k : Nat} {x : Ix} (h : X[k]? = some x) : absG 0 0 (X.take (k + 1)) = absG 0 0 (X.take k) ++ [fixI k (cntL (X.take k)) x] := by
  have hk := (List.getElem?_eq_some_iff.1 h).1
  rw [List.take_add_one, h, absG_append, Option.toList_some]
  simp only [absG, Nat.zero_add]
  rw [List.length_take, Nat.min_eq_left (Nat.le_of_lt hk)]
theorem cntL_le (X : List Ix) : cntL X ≤ X.length := by
  induction X with
  | nil => simp [cntL]
  | cons x r ih => simp only [cntL, cntI, List.length_cons]; split <;> omega
structure BlJ (w : World) (X : List Ix) (k : Nat) (v : Value) (c : Nat) (wr : World) : Prop where
  res : BoxAt wr w.heap.size 29 2 w.heap.size [.slice none 0 0, .int .i64 0]
  box : BoxAt wr (w.heap.size + 1) 29 2 (w.heap.size + 1) [v, .int .i64 (c : Int)]
  row : RowX wr (w.heap.size + 2) v (absG 0 0 (X.take k))
  below : Below w.heap.size w wr
theorem BlJ.move {w wr wr' : World} {X : List Ix} {k c : Nat} {v : Value} (h : BlJ w X k v c wr) (hb : Below wr.heap.size wr wr') : BlJ w X k v c wr' :=
  ⟨h.res.below hb, h.box.below hb, h.row.below hb, h.below.trans (hb.mono h.below.size)⟩
/-- The count set. -/
theorem BlJ.count {w wr : World} {X : List Ix} {k c : Nat} {v : Value} (h : BlJ w X k v c wr) (c' : Nat) : BlJ w X k v c' (wr.setCell ⟨w.heap.size + 1, 1, none⟩ (.int .i64 (c' : Int))) := by
  refine ⟨h.res.beside (by omega) _ _, ?_, ?_, below_set h.below (by omega) _ _⟩
  · have := h.box.set 1 (.int .i64 (c' : Int))
    simpa using this
  · exact h.row.chg (Chg.of_set (S := fun b => b = w.heap.size + 1) _ _ _ _ rfl) (fun j hj q => by have := (h.row.blk hj).1; omega)
/-- An instruction appended. -/
theorem BlJ.next {w wr w1 : World} {X : List Ix} {k c c' : Nat} {v v' : Value} {x : Ix} (h : BlJ w X k v c' wr) (hx : X[k]? = some x) (hA : AppX wr w1 (w.heap.size + 2) v v' (absG 0 0 (X.take k)) [fixI k c x]) (hc : c = cntL (X.take k)) :
    BlJ w X (k + 1) v' c' (w1.setCell ⟨w.heap.size + 1, 0, none⟩ v') := by
  have s0 := h.box.lt
  have hch : Chg (fun b => w.heap.size + 2 ≤ b) wr w1 := Chg.of_grown hA.grown (fun j hj => (h.row.blk hj).1)
  have hr1 := h.res.chg hch (by omega)
  have hbx := h.box.chg hch (by omega)
  have ne1 : ¬ w.heap.size = w.heap.size + 1 := by omega
  refine ⟨hr1.beside ne1 _ _, ?_, ?_, ?_⟩
  · have := hbx.set 0 v'
    simpa using this
  · have hset : Chg (fun b => b = w.heap.size + 1) w1 (w1.setCell ⟨w.heap.size + 1, 0, none⟩ v') := Chg.of_set _ _ _ _ rfl
    rw [absG_take hx, ← hc]
    exact hA.own.chg hset (fun j hj q => by have := (hA.own.blk hj).1; omega)
  · have hb1 : Below w.heap.size w w1 := Chg.below h.below hch (h.below.size) (fun j hj => by omega)
    exact below_set hb1 (by omega) _ _
def BlP (X : List Ix) (w : World) (r : Ending) (w' : World) : Prop := ∃ v, r = .returned (.agg #[v, .int .i64 ((cntL X : Nat) : Int)]) ∧ RowX w' (w.heap.size + 2) v (absG 0 0 X) ∧ Below w.heap.size w w'
set_option maxHeartbeats 8000000 in
theorem l6Block_core {w : World} {b cap n : Nat} {X : List Ix} (hX : Lst w b X) (hl : X.length ≤ 10000) (hB : ∀ x ∈ X, 0 ≤ x.b ∧ x.b ≤ 100000) (hn : n = X.length) : Calls Try.prog 16 #[.slice (some ⟨b, 0, none⟩) n cap] w (BlP X w) := by
  have HX : Hid (Lst w b X ∧ X.length = n ∧ ∀ x ∈ X, 0 ≤ x.b ∧ x.b ≤ 100000) := ⟨hX, hn.symm, hB⟩
  have hnl : n ≤ 10000 := by omega
  clear hX hB hn hl
  obtain ⟨W1, hW1⟩ : ∃ W1 : World, W1 = ((w.alloc (Obj.cells #[.slice none 0 0, .int .i64 0] 29)).alloc (Obj.cells #[.slice none 0 0, .int .i64 0] 29)) := ⟨_, rfl⟩
  have HJ1 : Hid (BlJ w X 0 (.slice none 0 0) 0 W1) := by
    have z1 : (w.alloc (Obj.cells #[.slice none 0 0, .int .i64 0] 29)).heap.size = w.heap.size + 1 := by simp
    have hb2 := boxAt_new (w.alloc (Obj.cells #[.slice none 0 0, .int .i64 0] 29)) (base := w.heap.size + 1) (t := 29) (sz := 2) #[.slice none 0 0, .int .i64 0] (by rw [z1]; exact Nat.le_refl _) rfl
    rw [z1] at hb2
    rw [hW1]
    refine ⟨(boxAt_new w #[.slice none 0 0, .int .i64 0] (Nat.le_refl _) rfl).below ((Below.refl _ _).alloc (Nat.le_refl _) _), hb2, rowX_nil _ _, ((Below.refl _ _).alloc (Nat.le_refl _) _).alloc (by simp) _⟩
  go_enter Try.func16, Try.ntmps16
  go_upto_region 2 with fail
  rw [← hW1]
  clear hW1
  go_wp2_with fail
  go_loopw [4] (fun iv wr => ∃ (k c : Nat) (v : Value), k ≤ n ∧ c ≤ 10000 ∧ iv = .int .i64 k ∧ Hid (c = cntL (X.take k)) ∧ Hid (BlJ w X k v c wr)) (fun iv _ => n - (intOf iv).toNat)
  case atStart => exact ⟨0, 0, _, Nat.zero_le _, Nat.zero_le _, rfl, rfl, HJ1.out⟩
  case round =>
    obtain ⟨k, c, v, hk, hc, rfl, HC, HJ⟩ := hrel
    by_cases hlt : k < n
    · have zk : (k : Int) < (n : Int) := by omega
      obtain ⟨x, hx⟩ : ∃ x, X[k]? = some x := ⟨_, List.getElem?_eq_getElem (by have := HX.out.2.1; omega)⟩
      have hbr := HJ.out.below
      obtain ⟨d0, d1, d2, d3, d4, d5, d6, d7, d8, d9, d10⟩ := (HX.out.1.below hbr).at_ k x hx
      simp only [Nat.zero_add] at d0 d1 d2 d3 d4 d5 d6 d7 d8 d9 d10
      have hxb := HX.out.2.2 x (List.mem_of_getElem? hx)
      have Hx : Hid (X[k]? = some x) := hx
      obtain ⟨W2, hW2⟩ : ∃ W2 : World, W2 = wr.alloc (Obj.cells #[.int .i64 x.op, .int .i64 x.a, .int .i64 x.b, .bool x.free, .int .i64 x.leaf.kind, .string x.leaf.s, .bool x.leaf.hi, .string x.leaf.t, .int .u64 x.leaf.lo, .int .u64 x.leaf.up, .int .i64 x.leaf.n] 77) := ⟨_, rfl⟩
      obtain ⟨P, hP⟩ : ∃ P, P = wr.heap.size := ⟨_, rfl⟩
      have HB2 : Hid (BoxAt W2 P 77 11 P x.ten ∧ Below wr.heap.size wr W2 ∧ P = wr.heap.size) := by
        rw [hW2, hP]; exact ⟨boxAt_new wr _ (Nat.le_refl _) rfl, (Below.refl _ _).alloc (Nat.le_refl _) _, rfl⟩
      clear hx hbr
      go_upto_region 6 with fail
      rw [← hW2, ← hP]
      clear hW2 hP d0 d1 d2 d3 d4 d5 d6 d7 d8 d9 d10
      have e0 : W2.cell? ⟨P, 0, none⟩ = some (.int .i64 x.op) := HB2.out.1.cell (j := 0) rfl
      have e2 : W2.cell? ⟨P, 2, none⟩ = some (.int .i64 x.b) := HB2.out.1.cell (j := 2) rfl
      have f2 := HB2.out.1.frozen 2
      have HJ2 : Hid (BlJ w X k v c W2) := HJ.out.move HB2.out.2.1
      have HP : Hid (w.heap.size + 2 ≤ P) := by show _ ≤ _; rw [HB2.out.2.2]; have := HJ.out.box.lt; omega
      have HPr : Hid (∀ j, v.ownBlock = some j → ¬ j = P) := fun j hj q => by have := (HJ.out.row.blk hj).2; rw [q, HB2.out.2.2] at this; omega
      by_cases hj : x.op = 5 ∨ x.op = 6
      · have zj : (x.op == 5 || x.op == 6) = true := by simpa using hj
        have n1 : (x.op == 1) = false := by rw [beq_eq_false_iff_ne]; omega
        have HY : Hid (fixI k c x = ⟨x.op, x.a, x.b + (k : Int), x.free, x.leaf⟩) := by show _ = _; unfold fixI; rw [if_neg (by rintro ⟨q, _⟩; omega), if_pos hj]
        have HCn : Hid (c = cntL (X.take (k + 1))) := by show _ = _; rw [cntL_take Hx.out, ← HC.out, cntI, if_neg (by rintro ⟨q, _⟩; omega)]; rfl
        have HCb : Hid (c ≤ 10000) := hc
        obtain ⟨W3, hW3⟩ : ∃ W3 : World, W3 = W2.setCell ⟨P, 2, none⟩ (.int .i64 (x.b + (k : Int))) := ⟨_, rfl⟩
        have HBn : Hid (BoxAt W3 P 77 11 P (Ix.ten ⟨x.op, x.a, x.b + (k : Int), x.free, x.leaf⟩) ∧ BlJ w X k v c W3) := by
          rw [hW3]
          refine ⟨HB2.out.1.set 2 _, HJ.out.move (below_set HB2.out.2.1 (by rw [HB2.out.2.2]; exact Nat.le_refl _) _ _)⟩
        clear hj
        go_wp2_with fail
        refine (isJump_any x.op W2).mono ?_
        rintro r w2' ⟨rfl, hw2⟩
        rw [hw2]
        clear hw2
        go_upto_region 8 with fail
        rw [← hW3]
        clear hW3 e0 e2 f2
        have e0 : W3.cell? ⟨P, 0, none⟩ = some (.int .i64 x.op) := HBn.out.1.cell (j := 0) rfl
        have d0 : W3.cell? ⟨P, 0, none⟩ = some (.int .i64 x.op) := HBn.out.1.cell (j := 0) rfl
        have d1 : W3.cell? ⟨P, 1, none⟩ = some (.int .i64 x.a) := HBn.out.1.cell (j := 1) rfl
        have d2 : W3.cell? ⟨P, 2, none⟩ = some (.int .i64 (x.b + (k : Int))) := HBn.out.1.cell (j := 2) rfl
        have d3 : W3.cell? ⟨P, 3, none⟩ = some (.bool x.free) := HBn.out.1.cell (j := 3) rfl
        have d4 : W3.cell? ⟨P, 4, none⟩ = some (.int .i64 x.leaf.kind) := HBn.out.1.cell (j := 4) rfl
        have d5 : W3.cell? ⟨P, 5, none⟩ = some (.string x.leaf.s) := HBn.out.1.cell (j := 5) rfl
        have d6 : W3.cell? ⟨P, 6, none⟩ = some (.bool x.leaf.hi) := HBn.out.1.cell (j := 6) rfl
        have d7 : W3.cell? ⟨P, 7, none⟩ = some (.string x.leaf.t) := HBn.out.1.cell (j := 7) rfl
        have d8 : W3.cell? ⟨P, 8, none⟩ = some (.int .u64 x.leaf.lo) := HBn.out.1.cell (j := 8) rfl
        have d9 : W3.cell? ⟨P, 9, none⟩ = some (.int .u64 x.leaf.up) := HBn.out.1.cell (j := 9) rfl
        have d10 : W3.cell? ⟨P, 10, none⟩ = some (.int .i64 x.leaf.n) := HBn.out.1.cell (j := 10) rfl
        have q0 : W3.cell? ⟨w.heap.size + 1, 0, none⟩ = some v := HBn.out.2.box.cell (j := 0) rfl
        have HA : Hid (BlJ w X k v c (W3.alloc (Obj.cells #[.int .i64 x.op, .int .i64 x.a, .int .i64 (x.b + (k : Int)), .bool x.free, .int .i64 x.leaf.kind, .string x.leaf.s, .bool x.leaf.hi, .string x.leaf.t, .int .u64 x.leaf.lo, .int .u64 x.leaf.up, .int .i64 x.leaf.n] 77)) ∧ Lst (W3.alloc (Obj.cells #[.int .i64 x.op, .int .i64 x.a, .int .i64 (x.b + (k : Int)), .bool x.free, .int .i64 x.leaf.kind, .string x.leaf.s, .bool x.leaf.hi, .string x.leaf.t, .int .u64 x.leaf.lo, .int .u64 x.leaf.up, .int .i64 x.leaf.n] 77)) W3.heap.size [⟨x.op, x.a, x.b + (k : Int), x.free, x.leaf⟩]) := ⟨HBn.out.2.move ((Below.refl _ _).alloc (Nat.le_refl _) _), (ownX_one W3 ⟨x.op, x.a, x.b + (k : Int), x.free, x.leaf⟩).lst⟩
        have HL : Hid ((absG 0 0 (X.take k)).length + 1 ≤ 2 ^ 30 ∧ w.heap.size + 2 ≤ W3.heap.size + 1) := ⟨by rw [absG_length, List.length_take]; have := HX.out.2.1; omega, by have := HBn.out.2.box.lt; omega⟩
        go_wp2_with (at_builtin; refine wpList_append_ixV _ rfl _ _ rfl (w.heap.size + 2) v W3.heap.size 0 1 1 (absG 0 0 (X.take k)) [⟨x.op, x.a, x.b + (k : Int), x.free, x.leaf⟩] rfl rfl rfl HA.out.1.row HA.out.2.at_ HL.out.1 (by simp; have := HL.out.2; omega) ?_)
        intro v' w9 hA9
        obtain ⟨a', c9, hv9⟩ := hA9.own.slice
        obtain ⟨n9, hn9⟩ : ∃ n9, n9 = (absG 0 0 (X.take k) ++ [(⟨x.op, x.a, x.b + (k : Int), x.free, x.leaf⟩ : Ix)]).length := ⟨_, rfl⟩
        rw [← hn9] at hv9
        clear hn9
        subst hv9
        have HJ9 : Hid (BlJ w X (k + 1) (.slice a' n9 c9) c (w9.setCell ⟨w.heap.size + 1, 0, none⟩ (.slice a' n9 c9))) := HA.out.1.next Hx.out (by rw [HY.out]; exact hA9) HC.out
        have hch9 : Hid (BoxAt w9 (w.heap.size + 1) 29 2 (w.heap.size + 1) [v, .int .i64 ((c : Nat) : Int)]) := HA.out.1.box.chg (Chg.of_grown (S := fun b => w.heap.size + 2 ≤ b) hA9.grown (fun j hj => (HA.out.1.row.blk hj).1)) (by omega)
        have r0 := hch9.out.cell (j := 0) rfl
        have z0 := hch9.out.frozen 0
        clear hA9 hch9 HA q0 d0 d1 d2 d3 d4 d5 d6 d7 d8 d9 d10
        go_wp2_with fail
        go_roundw
        case rel => exact ⟨k + 1, c, .slice a' n9 c9, by omega, HCb.out, by go_num, HCn.out, HJ9.out⟩
        case measure => simp [intOf]; omega
      · have zj : (x.op == 5 || x.op == 6) = false := by simpa using hj
        go_wp2_with fail
        refine (isJump_any x.op W2).mono ?_
        rintro r w2' ⟨rfl, hw2⟩
        rw [hw2]
        clear hw2 e2 f2
        by_cases h1 : x.op = 1
        · have n1 : (x.op == 1) = true := by rw [beq_iff_eq]; exact h1
          have H1 : Hid (x.op = 1) := h1
          clear h1 hj
          have e4 : W2.cell? ⟨P, 4, none⟩ = some (.int .i64 x.leaf.kind) := HB2.out.1.cell (j := 4) rfl
          have e5 : W2.cell? ⟨P, 5, none⟩ = some (.string x.leaf.s) := HB2.out.1.cell (j := 5) rfl
          have e6 : W2.cell? ⟨P, 6, none⟩ = some (.bool x.leaf.hi) := HB2.out.1.cell (j := 6) rfl
          have e7 : W2.cell? ⟨P, 7, none⟩ = some (.string x.leaf.t) := HB2.out.1.cell (j := 7) rfl
          have e8 : W2.cell? ⟨P, 8, none⟩ = some (.int .u64 x.leaf.lo) := HB2.out.1.cell (j := 8) rfl
          have e9 : W2.cell? ⟨P, 9, none⟩ = some (.int .u64 x.leaf.up) := HB2.out.1.cell (j := 9) rfl
          have e10 : W2.cell? ⟨P, 10, none⟩ = some (.int .i64 x.leaf.n) := HB2.out.1.cell (j := 10) rfl
          go_wp2_with fail
          refine (counts_any x.leaf W2).mono ?_
          rintro r w3 ⟨rfl, hb3⟩
          clear e0 e4 e5 e6 e7 e8 e9 e10
          have HB3 : Hid (BoxAt w3 P 77 11 P x.ten ∧ BlJ w X k v c w3) := ⟨HB2.out.1.below hb3, HJ2.out.move hb3⟩
          obtain ⟨ct, hct⟩ : ∃ ct, ct = isCnt x.leaf.kind := ⟨_, rfl⟩
          rw [← hct]
          have HCt : Hid (ct = isCnt x.leaf.kind) := hct
          clear hct hb3
          cases ct
          case false =>
            have HY : Hid (fixI k c x = x) := by show _ = _; unfold fixI; rw [if_neg (by rintro ⟨_, q⟩; rw [← HCt.out] at q; cases q), if_neg (by have := H1.out; omega)]
            have HCn : Hid (c = cntL (X.take (k + 1))) := by show _ = _; rw [cntL_take Hx.out, ← HC.out, cntI, if_neg (by rintro ⟨_, q⟩; rw [← HCt.out] at q; cases q)]; rfl
            have HCb : Hid (c ≤ 10000) := hc
            have HBn : Hid (BoxAt w3 P 77 11 P x.ten ∧ BlJ w X k v c w3) := HB3.out
            have d0 : w3.cell? ⟨P, 0, none⟩ = some (.int .i64 x.op) := HBn.out.1.cell (j := 0) rfl
            have d1 : w3.cell? ⟨P, 1, none⟩ = some (.int .i64 x.a) := HBn.out.1.cell (j := 1) rfl
            have d2 : w3.cell? ⟨P, 2, none⟩ = some (.int .i64 x.b) := HBn.out.1.cell (j := 2) rfl
            have d3 : w3.cell? ⟨P, 3, none⟩ = some (.bool x.free) := HBn.out.1.cell (j := 3) rfl
            have d4 : w3.cell? ⟨P, 4, none⟩ = some (.int .i64 x.leaf.kind) := HBn.out.1.cell (j := 4) rfl
            have d5 : w3.cell? ⟨P, 5, none⟩ = some (.string x.leaf.s) := HBn.out.1.cell (j := 5) rfl
            have d6 : w3.cell? ⟨P, 6, none⟩ = some (.bool x.leaf.hi) := HBn.out.1.cell (j := 6) rfl
            have d7 : w3.cell? ⟨P, 7, none⟩ = some (.string x.leaf.t) := HBn.out.1.cell (j := 7) rfl
            have d8 : w3.cell? ⟨P, 8, none⟩ = some (.int .u64 x.leaf.lo) := HBn.out.1.cell (j := 8) rfl
            have d9 : w3.cell? ⟨P, 9, none⟩ = some (.int .u64 x.leaf.up) := HBn.out.1.cell (j := 9) rfl
            have d10 : w3.cell? ⟨P, 10, none⟩ = some (.int .i64 x.leaf.n) := HBn.out.1.cell (j := 10) rfl
            have q0 : w3.cell? ⟨w.heap.size + 1, 0, none⟩ = some v := HBn.out.2.box.cell (j := 0) rfl
            have HA : Hid (BlJ w X k v c (w3.alloc (Obj.cells #[.int .i64 x.op, .int .i64 x.a, .int .i64 x.b, .bool x.free, .int .i64 x.leaf.kind, .string x.leaf.s, .bool x.leaf.hi, .string x.leaf.t, .int .u64 x.leaf.lo, .int .u64 x.leaf.up, .int .i64 x.leaf.n] 77)) ∧ Lst (w3.alloc (Obj.cells #[.int .i64 x.op, .int .i64 x.a, .int .i64 x.b, .bool x.free, .int .i64 x.leaf.kind, .string x.leaf.s, .bool x.leaf.hi, .string x.leaf.t, .int .u64 x.leaf.lo, .int .u64 x.leaf.up, .int .i64 x.leaf.n] 77)) w3.heap.size [x]) := ⟨HBn.out.2.move ((Below.refl _ _).alloc (Nat.le_refl _) _), (ownX_one w3 x).lst⟩
            have HL : Hid ((absG 0 0 (X.take k)).length + 1 ≤ 2 ^ 30 ∧ w.heap.size + 2 ≤ w3.heap.size + 1) := ⟨by rw [absG_length, List.length_take]; have := HX.out.2.1; omega, by have := HBn.out.2.box.lt; omega⟩
            go_wp2_with (at_builtin; refine wpList_append_ixV _ rfl _ _ rfl (w.heap.size + 2) v w3.heap.size 0 1 1 (absG 0 0 (X.take k)) [x] rfl rfl rfl HA.out.1.row HA.out.2.at_ HL.out.1 (by simp; have := HL.out.2; omega) ?_)
            intro v' w9 hA9
            obtain ⟨a', c9, hv9⟩ := hA9.own.slice
            obtain ⟨n9, hn9⟩ : ∃ n9, n9 = (absG 0 0 (X.take k) ++ [(x : Ix)]).length := ⟨_, rfl⟩
            rw [← hn9] at hv9
            clear hn9
            subst hv9
            have HJ9 : Hid (BlJ w X (k + 1) (.slice a' n9 c9) c (w9.setCell ⟨w.heap.size + 1, 0, none⟩ (.slice a' n9 c9))) := HA.out.1.next Hx.out (by rw [HY.out]; exact hA9) HC.out
            have hch9 : Hid (BoxAt w9 (w.heap.size + 1) 29 2 (w.heap.size + 1) [v, .int .i64 ((c : Nat) : Int)]) := HA.out.1.box.chg (Chg.of_grown (S := fun b => w.heap.size + 2 ≤ b) hA9.grown (fun j hj => (HA.out.1.row.blk hj).1)) (by omega)
            have r0 := hch9.out.cell (j := 0) rfl
            have z0 := hch9.out.frozen 0
            clear hA9 hch9 HA q0 d0 d1 d2 d3 d4 d5 d6 d7 d8 d9 d10
            go_wp2_with fail
            go_roundw
            case rel => exact ⟨k + 1, c, .slice a' n9 c9, by omega, HCb.out, by go_num, HCn.out, HJ9.out⟩
            case measure => simp [intOf]; omega
          case true =>
            have HY : Hid (fixI k c x = ⟨x.op, (c : Int), x.b, x.free, x.leaf⟩) := by show _ = _; unfold fixI; rw [if_pos ⟨H1.out, HCt.out.symm⟩, if_neg (by have := H1.out; omega)]
            have hcb : c + 1 ≤ 10000 := by
              have h5 := cntL_take Hx.out
              rw [cntI, if_pos ⟨H1.out, HCt.out.symm⟩, ← HC.out] at h5
              have h6 := cntL_le (X.take (k + 1))
              rw [List.length_take] at h6
              omega
            have HCn : Hid (c + 1 = cntL (X.take (k + 1))) := by show _ = _; rw [cntL_take Hx.out, ← HC.out, cntI, if_pos ⟨H1.out, HCt.out.symm⟩]
            have HCb : Hid (c + 1 ≤ 10000) := hcb
            obtain ⟨W4, hW4⟩ : ∃ W4 : World, W4 = w3.setCell ⟨P, 1, none⟩ (.int .i64 (c : Int)) := ⟨_, rfl⟩
            have HB4 : Hid (BoxAt W4 P 77 11 P (Ix.ten ⟨x.op, (c : Int), x.b, x.free, x.leaf⟩) ∧ BlJ w X k v c W4) := by
              rw [hW4]
              refine ⟨HB3.out.1.set 1 _, ?_⟩
              have hch : Chg (fun b => w.heap.size + 2 ≤ b) w3 (w3.setCell ⟨P, 1, none⟩ (.int .i64 (c : Int))) := Chg.of_set _ _ _ _ HP.out
              have hrow : RowX (w3.setCell ⟨P, 1, none⟩ (.int .i64 (c : Int))) (w.heap.size + 2) v (absG 0 0 (X.take k)) := HB3.out.2.row.chg (Chg.of_set (S := fun b => b = P) _ _ _ _ rfl) (fun j hj q => HPr.out j hj q)
              exact ⟨HB3.out.2.res.chg hch (by omega), HB3.out.2.box.chg hch (by omega), hrow, below_set HB3.out.2.below (by have := HP.out; omega) _ _⟩
            obtain ⟨W5, hW5⟩ : ∃ W5 : World, W5 = W4.setCell ⟨w.heap.size + 1, 1, none⟩ (.int .i64 ((c : Int) + 1)) := ⟨_, rfl⟩
            have HBn : Hid (BoxAt W5 P 77 11 P (Ix.ten ⟨x.op, (c : Int), x.b, x.free, x.leaf⟩) ∧ BlJ w X k v (c + 1) W5) := by
              rw [hW5]
              exact ⟨HB4.out.1.beside (by have := HP.out; omega) _ _, by have := HB4.out.2.count (c + 1); rwa [Int.natCast_add] at this⟩
            have g1 : w3.cell? ⟨w.heap.size + 1, 1, none⟩ = some (.int .i64 (c : Int)) := HB3.out.2.box.cell (j := 1) rfl
            have g2 := HB3.out.1.frozen 1
            have g3 : w3.cell? ⟨P, 1, none⟩ = some (.int .i64 x.a) := HB3.out.1.cell (j := 1) rfl
            go_upto_region 10 with fail
            rw [← hW4]
            clear hW4 g1 g2 g3
            have g1 : W4.cell? ⟨w.heap.size + 1, 1, none⟩ = some (.int .i64 (c : Int)) := HB4.out.2.box.cell (j := 1) rfl
            have g2 := HB4.out.2.box.frozen 1
            go_upto_region 11 with fail
            rw [← hW5]
            clear hW5 g1 g2
            have d0 : W5.cell? ⟨P, 0, none⟩ = some (.int .i64 x.op) := HBn.out.1.cell (j := 0) rfl
            have d1 : W5.cell? ⟨P, 1, none⟩ = some (.int .i64 (c : Int)) := HBn.out.1.cell (j := 1) rfl
            have d2 : W5.cell? ⟨P, 2, none⟩ = some (.int .i64 x.b) := HBn.out.1.cell (j := 2) rfl
            have d3 : W5.cell? ⟨P, 3, none⟩ = some (.bool x.free) := HBn.out.1.cell (j := 3) rfl
            have d4 : W5.cell? ⟨P, 4, none⟩ = some (.int .i64 x.leaf.kind) := HBn.out.1.cell (j := 4) rfl
            have d5 : W5.cell? ⟨P, 5, none⟩ = some (.string x.leaf.s) := HBn.out.1.cell (j := 5) rfl
            have d6 : W5.cell? ⟨P, 6, none⟩ = some (.bool x.leaf.hi) := HBn.out.1.cell (j := 6) rfl
            have d7 : W5.cell? ⟨P, 7, none⟩ = some (.string x.leaf.t) := HBn.out.1.cell (j := 7) rfl
            have d8 : W5.cell? ⟨P, 8, none⟩ = some (.int .u64 x.leaf.lo) := HBn.out.1.cell (j := 8) rfl
            have d9 : W5.cell? ⟨P, 9, none⟩ = some (.int .u64 x.leaf.up) := HBn.out.1.cell (j := 9) rfl
            have d10 : W5.cell? ⟨P, 10, none⟩ = some (.int .i64 x.leaf.n) := HBn.out.1.cell (j := 10) rfl
            have q0 : W5.cell? ⟨w.heap.size + 1, 0, none⟩ = some v := HBn.out.2.box.cell (j := 0) rfl
            have HA : Hid (BlJ w X k v (c + 1) (W5.alloc (Obj.cells #[.int .i64 x.op, .int .i64 (c : Int), .int .i64 x.b, .bool x.free, .int .i64 x.leaf.kind, .string x.leaf.s, .bool x.leaf.hi, .string x.leaf.t, .int .u64 x.leaf.lo, .int .u64 x.leaf.up, .int .i64 x.leaf.n] 77)) ∧ Lst (W5.alloc (Obj.cells #[.int .i64 x.op, .int .i64 (c : Int), .int .i64 x.b, .bool x.free, .int .i64 x.leaf.kind, .string x.leaf.s, .bool x.leaf.hi, .string x.leaf.t, .int .u64 x.leaf.lo, .int .u64 x.leaf.up, .int .i64 x.leaf.n] 77)) W5.heap.size [⟨x.op, (c : Int), x.b, x.free, x.leaf⟩]) := ⟨HBn.out.2.move ((Below.refl _ _).alloc (Nat.le_refl _) _), (ownX_one W5 ⟨x.op, (c : Int), x.b, x.free, x.leaf⟩).lst⟩
            have HL : Hid ((absG 0 0 (X.take k)).length + 1 ≤ 2 ^ 30 ∧ w.heap.size + 2 ≤ W5.heap.size + 1) := ⟨by rw [absG_length, List.length_take]; have := HX.out.2.1; omega, by have := HBn.out.2.box.lt; omega⟩
            go_wp2_with (at_builtin; refine wpList_append_ixV _ rfl _ _ rfl (w.heap.size + 2) v W5.heap.size 0 1 1 (absG 0 0 (X.take k)) [⟨x.op, (c : Int), x.b, x.free, x.leaf⟩] rfl rfl rfl HA.out.1.row HA.out.2.at_ HL.out.1 (by simp; have := HL.out.2; omega) ?_)
            intro v' w9 hA9
            obtain ⟨a', c9, hv9⟩ := hA9.own.slice
            obtain ⟨n9, hn9⟩ : ∃ n9, n9 = (absG 0 0 (X.take k) ++ [(⟨x.op, (c : Int), x.b, x.free, x.leaf⟩ : Ix)]).length := ⟨_, rfl⟩
            rw [← hn9] at hv9
            clear hn9
            subst hv9
            have HJ9 : Hid (BlJ w X (k + 1) (.slice a' n9 c9) (c + 1) (w9.setCell ⟨w.heap.size + 1, 0, none⟩ (.slice a' n9 c9))) := HA.out.1.next Hx.out (by rw [HY.out]; exact hA9) HC.out
            have hch9 : Hid (BoxAt w9 (w.heap.size + 1) 29 2 (w.heap.size + 1) [v, .int .i64 (((c + 1) : Nat) : Int)]) := HA.out.1.box.chg (Chg.of_grown (S := fun b => w.heap.size + 2 ≤ b) hA9.grown (fun j hj => (HA.out.1.row.blk hj).1)) (by omega)
            have r0 := hch9.out.cell (j := 0) rfl
            have z0 := hch9.out.frozen 0
            clear hA9 hch9 HA q0 d0 d1 d2 d3 d4 d5 d6 d7 d8 d9 d10
            go_wp2_with fail
            go_roundw
            case rel => exact ⟨k + 1, (c + 1), .slice a' n9 c9, by omega, HCb.out, by go_num, HCn.out, HJ9.out⟩
            case measure => simp [intOf]; omega
        · have n1 : (x.op == 1) = false := by rw [beq_eq_false_iff_ne]; exact h1
          have HY : Hid (fixI k c x = x) := by show _ = _; unfold fixI; rw [if_neg (by rintro ⟨q, _⟩; exact h1 q), if_neg hj]
          have HCn : Hid (c = cntL (X.take (k + 1))) := by show _ = _; rw [cntL_take Hx.out, ← HC.out, cntI, if_neg (by rintro ⟨q, _⟩; exact h1 q)]; rfl
          have HCb : Hid (c ≤ 10000) := hc
          have HBn : Hid (BoxAt W2 P 77 11 P x.ten ∧ BlJ w X k v c W2) := ⟨HB2.out.1, HJ2.out⟩
          clear hj h1
          have d0 : W2.cell? ⟨P, 0, none⟩ = some (.int .i64 x.op) := HBn.out.1.cell (j := 0) rfl
          have d1 : W2.cell? ⟨P, 1, none⟩ = some (.int .i64 x.a) := HBn.out.1.cell (j := 1) rfl
          have d2 : W2.cell? ⟨P, 2, none⟩ = some (.int .i64 x.b) := HBn.out.1.cell (j := 2) rfl
          have d3 : W2.cell? ⟨P, 3, none⟩ = some (.bool x.free) := HBn.out.1.cell (j := 3) rfl
          have d4 : W2.cell? ⟨P, 4, none⟩ = some (.int .i64 x.leaf.kind) := HBn.out.1.cell (j := 4) rfl
          have d5 : W2.cell? ⟨P, 5, none⟩ = some (.string x.leaf.s) := HBn.out.1.cell (j := 5) rfl
          have d6 : W2.cell? ⟨P, 6, none⟩ = some (.bool x.leaf.hi) := HBn.out.1.cell (j := 6) rfl
          have d7 : W2.cell? ⟨P, 7, none⟩ = some (.string x.leaf.t) := HBn.out.1.cell (j := 7) rfl
          have d8 : W2.cell? ⟨P, 8, none⟩ = some (.int .u64 x.leaf.lo) := HBn.out.1.cell (j := 8) rfl
          have d9 : W2.cell? ⟨P, 9, none⟩ = some (.int .u64 x.leaf.up) := HBn.out.1.cell (j := 9) rfl
          have d10 : W2.cell? ⟨P, 10, none⟩ = some (.int .i64 x.leaf.n) := HBn.out.1.cell (j := 10) rfl
          have q0 : W2.cell? ⟨w.heap.size + 1, 0, none⟩ = some v := HBn.out.2.box.cell (j := 0) rfl
          have HA : Hid (BlJ w X k v c (W2.alloc (Obj.cells #[.int .i64 x.op, .int .i64 x.a, .int .i64 x.b, .bool x.free, .int .i64 x.leaf.kind, .string x.leaf.s, .bool x.leaf.hi, .string x.leaf.t, .int .u64 x.leaf.lo, .int .u64 x.leaf.up, .int .i64 x.leaf.n] 77)) ∧ Lst (W2.alloc (Obj.cells #[.int .i64 x.op, .int .i64 x.a, .int .i64 x.b, .bool x.free, .int .i64 x.leaf.kind, .string x.leaf.s, .bool x.leaf.hi, .string x.leaf.t, .int .u64 x.leaf.lo, .int .u64 x.leaf.up, .int .i64 x.leaf.n] 77)) W2.heap.size [x]) := ⟨HBn.out.2.move ((Below.refl _ _).alloc (Nat.le_refl _) _), (ownX_one W2 x).lst⟩
          have HL : Hid ((absG 0 0 (X.take k)).length + 1 ≤ 2 ^ 30 ∧ w.heap.size + 2 ≤ W2.heap.size + 1) := ⟨by rw [absG_length, List.length_take]; have := HX.out.2.1; omega, by have := HBn.out.2.box.lt; omega⟩
          go_wp2_with (at_builtin; refine wpList_append_ixV _ rfl _ _ rfl (w.heap.size + 2) v W2.heap.size 0 1 1 (absG 0 0 (X.take k)) [x] rfl rfl rfl HA.out.1.row HA.out.2.at_ HL.out.1 (by simp; have := HL.out.2; omega) ?_)
          intro v' w9 hA9
          obtain ⟨a', c9, hv9⟩ := hA9.own.slice
          obtain ⟨n9, hn9⟩ : ∃ n9, n9 = (absG 0 0 (X.take k) ++ [(x : Ix)]).length := ⟨_, rfl⟩
          rw [← hn9] at hv9
          clear hn9
          subst hv9
          have HJ9 : Hid (BlJ w X (k + 1) (.slice a' n9 c9) c (w9.setCell ⟨w.heap.size + 1, 0, none⟩ (.slice a' n9 c9))) := HA.out.1.next Hx.out (by rw [HY.out]; exact hA9) HC.out
          have hch9 : Hid (BoxAt w9 (w.heap.size + 1) 29 2 (w.heap.size + 1) [v, .int .i64 ((c : Nat) : Int)]) := HA.out.1.box.chg (Chg.of_grown (S := fun b => w.heap.size + 2 ≤ b) hA9.grown (fun j hj => (HA.out.1.row.blk hj).1)) (by omega)
          have r0 := hch9.out.cell (j := 0) rfl
          have z0 := hch9.out.frozen 0
          clear hA9 hch9 HA q0 d0 d1 d2 d3 d4 d5 d6 d7 d8 d9 d10
          go_wp2_with fail
          go_roundw
          case rel => exact ⟨k + 1, c, .slice a' n9 c9, by omega, HCb.out, by go_num, HCn.out, HJ9.out⟩
          case measure => simp [intOf]; omega
    · have zk : ¬ (k : Int) < (n : Int) := by omega
      obtain rfl : k = n := by omega
      obtain ⟨av, cv, hv⟩ := HJ.out.row.slice
      obtain ⟨nv, hnv⟩ : ∃ nv, nv = (absG 0 0 (X.take k)).length := ⟨_, rfl⟩
      rw [← hnv] at hv
      clear hnv
      subst hv
      have HJ9 : Hid (RowX wr (w.heap.size + 2) (.slice av nv cv) (absG 0 0 X) ∧ c = cntL X) := by
        have h1 := HJ.out.row
        have h2 := HC.out
        rw [List.take_of_length_le (Nat.le_of_eq HX.out.2.1)] at h1 h2
        exact ⟨h1, h2⟩
      have q0 : wr.cell? ⟨w.heap.size + 1, 0, none⟩ = some (.slice av nv cv) := HJ.out.box.cell (j := 0) rfl
      have q1 : wr.cell? ⟨w.heap.size + 1, 1, none⟩ = some (.int .i64 (c : Int)) := HJ.out.box.cell (j := 1) rfl
      have p0 := HJ.out.res.cell (j := 0) rfl
      have p1 := HJ.out.res.cell (j := 1) rfl
      have z0 := HJ.out.res.frozen 0
      have z1 := HJ.out.res.frozen 1
      have HR : Hid (RowX ((wr.setCell ⟨w.heap.size, 0, none⟩ (.slice av nv cv)).setCell ⟨w.heap.size, 1, none⟩ (.int .i64 (c : Int))) (w.heap.size + 2) (.slice av nv cv) (absG 0 0 X) ∧ Below w.heap.size w ((wr.setCell ⟨w.heap.size, 0, none⟩ (.slice av nv cv)).setCell ⟨w.heap.size, 1, none⟩ (.int .i64 (c : Int)))) :=
        ⟨(HJ9.out.1.chg (Chg.of_set (S := fun b => b = w.heap.size) _ _ _ _ rfl) (fun j hj q => by have := (HJ9.out.1.blk hj).1; omega)).chg (Chg.of_set (S := fun b => b = w.heap.size) _ _ _ _ rfl) (fun j hj q => by have := (HJ9.out.1.blk hj).1; omega), below_set (below_set HJ.out.below (Nat.le_refl _) _ _) (Nat.le_refl _) _ _⟩
      have hbx : BoxAt ((wr.setCell ⟨w.heap.size, 0, none⟩ (.slice av nv cv)).setCell ⟨w.heap.size, 1, none⟩ (.int .i64 (c : Int))) w.heap.size 29 2 w.heap.size [.slice av nv cv, .int .i64 (c : Int)] := (HJ.out.res.set 0 _).set 1 _
      have c0 := hbx.cell (j := 0) rfl
      have c1 := hbx.cell (j := 1) rfl
      have HC0 : Hid (((wr.setCell ⟨w.heap.size, 0, none⟩ (.slice av nv cv)).setCell ⟨w.heap.size, 1, none⟩ (.int .i64 (c : Int))).cell? ⟨w.heap.size, 0, none⟩ = some (.slice av nv cv) ∧ ((wr.setCell ⟨w.heap.size, 0, none⟩ (.slice av nv cv)).setCell ⟨w.heap.size, 1, none⟩ (.int .i64 (c : Int))).cell? ⟨w.heap.size, 1, none⟩ = some (.int .i64 (c : Int))) := ⟨c0, c1⟩
      clear c0 c1 hbx
      go_wp2_with fail
      obtain ⟨c0, c1⟩ := HC0.out
      refine bodyPost_ret (v := .agg #[.slice av nv cv, .int .i64 (c : Int)]) (by simp [results, Try.results16, go_sem, c0, c1]) rfl ⟨.slice av nv cv, by rw [← HJ9.out.2], HR.out.1, HR.out.2⟩
end Go.Proofs.Ytkbmdkgfgfbilaa

/-
  spec.l6Gen: its four cases.
-/
namespace Go.Proofs.Ytkbmdkgfgfbilaa
open Go.ChangeShapes Go.WideShapes Go.ChangeAt Go.RowKit Go.Deep
set_option linter.unusedVariables false
set_option linter.unusedSimpArgs false
set_option maxRecDepth 100000

set_option maxHeartbeats 8000000 in
theorem gen_leaf {n : Nat} (H : GeC n) (w : World) (b o cap : Nat) (ks : List (List Nd)) (e : Nd) (t : CT) (s : Bool) (f : Nat) (hn : (ks.flatten ++ [e]).length ≤ n + 1) (hn2 : (ks.flatten ++ [e]).length ≤ 200) (hf : f + (ks.flatten ++ [e]).length ≤ 1000) (hW : Win w b o cap (ks.flatten ++ [e])) (hT : TreeF (ks.flatten ++ [e]) t) (hal : ks.length = arity e.kind) (hIs : ∀ k ∈ ks, IsT 1 k) (hk : arity e.kind = 0) (ht : t = .leaf e) (hks : ks = []) : Calls Try.prog 17 #[.slice (some ⟨b, o, none⟩) (ks.flatten ++ [e]).length cap, .bool s, .int .i64 (f : Int)] w (GeP (t.gen s f) w) := by
  simp only [List.length_append, List.length_singleton] at hn hn2 hf
  obtain ⟨m, hm⟩ : ∃ m, m = ks.flatten.length := ⟨_, rfl⟩
  have HT : Hid (∀ wx, Below w.heap.size w wx → Calls Try.prog 38 #[.slice (some ⟨b, o, none⟩) (m + 1) cap] wx fun r w' => r = .returned (.int .i64 e.kind) ∧ w' = wx) := fun wx hx => by
    rw [hm]; exact l5Top_core (hW.below hx)
  obtain ⟨a3, ha3⟩ : ∃ a3, a3 = ks.length := ⟨_, rfl⟩
  have HKs : Hid (Calls Try.prog 37 #[.slice (some ⟨b, o, none⟩) (m + 1) cap] w fun r w' => ∃ g cp, r = .returned (.slice (some ⟨g, 0, none⟩) a3 cp) ∧ OwnV w' w.heap.size g cp (kidVs b o cap ks) ∧ Below w.heap.size w w') := by
    rw [ha3, hm]; exact l5Kids_core hW hal hIs
  have HN : Hid (∀ {j : Nat} {k : List Nd} {u : CT}, ks[j]? = some k → TreeF k u → ∃ o' cap', (kidVs b o cap ks)[j]? = some (.slice (some ⟨b, o', none⟩) k.length cap') ∧ GkC w b o' k.length cap' u) := by
    intro j k u hk hu
    obtain ⟨o', cap', hv, hWk⟩ := kidVs_nth hW hk
    have hkl := len_flat (List.mem_of_getElem? hk)
    exact ⟨o', cap', hv, gkC_of H (by omega) (by omega) hWk hu⟩
  have HW : Hid (Win w b o cap (ks.flatten ++ [e])) := hW
  rw [List.length_append, List.length_singleton, ← hm]
  rw [← hm] at hf
  have hcap := hW.cap
  have hcl : m + 1 ≤ cap := by have := hW.len; rw [List.length_append, List.length_singleton] at this; omega
  have HM : Hid (a3 = ks.length ∧ m = ks.flatten.length) := ⟨ha3, hm⟩
  have HSz : Hid (t.size ≤ 200) := by show _ ≤ _; rw [hT.size, List.length_append, List.length_singleton]; omega
  have HK0 : Hid (t = .leaf e ∧ ks = [] ∧ arity e.kind = 0) := ⟨ht, hks, hk⟩
  clear hW hT hIs H hal hn hn2 hm ha3 ht hks hk
  go_enter Try.func17, Try.ntmps17
  go_wp2_with fail
  refine HKs.out.mono ?_
  rintro r w1 ⟨kg, kc, rfl, hO, hb1⟩
  have s1 := hb1.size
  have HO : Hid (OwnV w1 w.heap.size kg kc (kidVs b o cap ks)) := hO
  have hkc := hO.caps
  rw [kidVs_len, ← HM.out.1] at hkc
  have hkl := hO.lt
  clear hO HKs
  go_wp2_with fail
  refine (HT.out w1 hb1).mono ?_
  rintro r w1' ⟨rfl, hw1⟩
  rw [hw1]
  clear hw1
  obtain ⟨ht, hks, hk⟩ := HK0.out
  clear HK0
  subst ht hks
  have h14 : ¬ e.kind = 14 := fun q => by rw [q] at hk; simp [arity] at hk
  have h15 : ¬ e.kind = 15 := fun q => by rw [q] at hk; simp [arity] at hk
  have h16 : ¬ e.kind = 16 := fun q => by rw [q] at hk; simp [arity] at hk
  have z14 : (e.kind == 14) = false := by rw [beq_eq_false_iff_ne]; exact h14
  have z15 : (e.kind == 15) = false := by rw [beq_eq_false_iff_ne]; exact h15
  have z16 : (e.kind == 16) = false := by rw [beq_eq_false_iff_ne]; exact h16
  obtain rfl : a3 = 0 := HM.out.1
  obtain rfl : m = 0 := HM.out.2
  obtain ⟨d0, d1, d2, d3, d4, d5, d6⟩ := ((HW.out.below hb1).at_) 0 e rfl
  simp only [Nat.zero_mul, Nat.add_zero] at d0 d1 d2 d3 d4 d5 d6
  have HR : Hid (GeP (CT.gen (.leaf e) s f) w (.returned (.slice (some ⟨w1.heap.size, 0, none⟩) 1 1)) (w1.alloc (Obj.cells #[.int .i64 1, .int .i64 0, .int .i64 0, .bool (!s), .int .i64 e.kind, .string e.s, .bool e.hi, .string e.t, .int .u64 e.lo, .int .u64 e.up, .int .i64 e.n] 77))) :=
    ⟨w1.heap.size, 1, rfl, OwnX.low (ownX_one w1 ⟨1, 0, 0, !s, e⟩) s1, hb1.alloc s1 _⟩
  go_wp2_with fail
  go_ret
  exact HR.out
end Go.Proofs.Ytkbmdkgfgfbilaa

/-
  spec.l6Gen: its four cases.
-/
namespace Go.Proofs.Ytkbmdkgfgfbilaa
open Go.ChangeShapes Go.WideShapes Go.ChangeAt Go.RowKit Go.Deep
set_option linter.unusedVariables false
set_option linter.unusedSimpArgs false
set_option maxRecDepth 100000

set_option maxHeartbeats 8000000 in
theorem gen_chain {n : Nat} (H : GeC n) (w : World) (b o cap : Nat) (ks : List (List Nd)) (e : Nd) (t : CT) (s : Bool) (f : Nat) (hn : (ks.flatten ++ [e]).length ≤ n + 1) (hn2 : (ks.flatten ++ [e]).length ≤ 200) (hf : f + (ks.flatten ++ [e]).length ≤ 1000) (hW : Win w b o cap (ks.flatten ++ [e])) (hT : TreeF (ks.flatten ++ [e]) t) (hal : ks.length = arity e.kind) (hIs : ∀ k ∈ ks, IsT 1 k) {x y : CT} {ka kb : List Nd} (h14 : e.kind = 14) (hx : TreeF ka x) (hy : TreeF kb y) (ht : t = .chain e x y) (hks : ks = [ka, kb]) : Calls Try.prog 17 #[.slice (some ⟨b, o, none⟩) (ks.flatten ++ [e]).length cap, .bool s, .int .i64 (f : Int)] w (GeP (t.gen s f) w) := by
  simp only [List.length_append, List.length_singleton] at hn hn2 hf
  obtain ⟨m, hm⟩ : ∃ m, m = ks.flatten.length := ⟨_, rfl⟩
  have HT : Hid (∀ wx, Below w.heap.size w wx → Calls Try.prog 38 #[.slice (some ⟨b, o, none⟩) (m + 1) cap] wx fun r w' => r = .returned (.int .i64 e.kind) ∧ w' = wx) := fun wx hx => by
    rw [hm]; exact l5Top_core (hW.below hx)
  obtain ⟨a3, ha3⟩ : ∃ a3, a3 = ks.length := ⟨_, rfl⟩
  have HKs : Hid (Calls Try.prog 37 #[.slice (some ⟨b, o, none⟩) (m + 1) cap] w fun r w' => ∃ g cp, r = .returned (.slice (some ⟨g, 0, none⟩) a3 cp) ∧ OwnV w' w.heap.size g cp (kidVs b o cap ks) ∧ Below w.heap.size w w') := by
    rw [ha3, hm]; exact l5Kids_core hW hal hIs
  have HN : Hid (∀ {j : Nat} {k : List Nd} {u : CT}, ks[j]? = some k → TreeF k u → ∃ o' cap', (kidVs b o cap ks)[j]? = some (.slice (some ⟨b, o', none⟩) k.length cap') ∧ GkC w b o' k.length cap' u) := by
    intro j k u hk hu
    obtain ⟨o', cap', hv, hWk⟩ := kidVs_nth hW hk
    have hkl := len_flat (List.mem_of_getElem? hk)
    exact ⟨o', cap', hv, gkC_of H (by omega) (by omega) hWk hu⟩
  have HW : Hid (Win w b o cap (ks.flatten ++ [e])) := hW
  rw [List.length_append, List.length_singleton, ← hm]
  rw [← hm] at hf
  have hcap := hW.cap
  have hcl : m + 1 ≤ cap := by have := hW.len; rw [List.length_append, List.length_singleton] at this; omega
  have HM : Hid (a3 = ks.length ∧ m = ks.flatten.length) := ⟨ha3, hm⟩
  have HSz : Hid (t.size ≤ 200) := by show _ ≤ _; rw [hT.size, List.length_append, List.length_singleton]; omega
  have HK0 : Hid (t = .chain e x y ∧ ks = [ka, kb] ∧ e.kind = 14) := ⟨ht, hks, h14⟩
  clear hW hT hIs H hal hn hn2 hm ha3 ht hks h14
  go_enter Try.func17, Try.ntmps17
  go_wp2_with fail
  refine HKs.out.mono ?_
  rintro r w1 ⟨kg, kc, rfl, hO, hb1⟩
  have s1 := hb1.size
  have HO : Hid (OwnV w1 w.heap.size kg kc (kidVs b o cap ks)) := hO
  have hkc := hO.caps
  rw [kidVs_len, ← HM.out.1] at hkc
  have hkl := hO.lt
  clear hO HKs
  go_wp2_with fail
  refine (HT.out w1 hb1).mono ?_
  rintro r w1' ⟨rfl, hw1⟩
  rw [hw1]
  clear hw1
  obtain ⟨ht, hks, h14⟩ := HK0.out
  clear HK0
  subst ht hks
  have z14 : (e.kind == 14) = true := by rw [beq_iff_eq]; exact h14
  obtain rfl : a3 = 2 := HM.out.1
  obtain ⟨o1, c1, hv1, hc1⟩ := HN.out (j := 0) rfl hx
  obtain ⟨o2, c2, hv2, hc2⟩ := HN.out (j := 1) rfl hy
  have q0 := HO.out.cell hv1
  have q1 := HO.out.cell hv2
  have hm2 : m = ka.length + kb.length := by rw [HM.out.2]; simp
  obtain ⟨l1, hl1⟩ : ∃ l1, l1 = ka.length := ⟨_, rfl⟩
  obtain ⟨l2, hl2⟩ : ∃ l2, l2 = kb.length := ⟨_, rfl⟩
  rw [← hl1] at q0 hc1 hm2
  rw [← hl2] at q1 hc2 hm2
  have HC1 : Hid (GkC w b o1 l1 c1 x) := hc1
  have HC2 : Hid (GkC w b o2 l2 c2 y) := hc2
  have hi1 := hc1.le
  have hf1 : f + l1 ≤ 1000 := by omega
  have hf2 : f + x.ifs + l2 ≤ 1000 := by omega
  clear hc1 hc2 hv1 hv2 hl1 hl2 hm2 hx hy
  go_wp2_with fail
  refine (HC1.out.gen s f hf1 w1 hb1).mono ?_
  rintro r w2 ⟨g2, p2, rfl, hO2, hb2⟩
  have s2 := hb2.size
  have k2 : Below w.heap.size w w2 := hb1.trans (hb2.mono s1)
  have HO2 : Hid (OwnX w2 w1.heap.size g2 p2 (x.gen s f)) := hO2
  have r0 : w2.cell? ⟨kg, 0, none⟩ = some (.slice (some ⟨b, o1, none⟩) l1 c1) := by rw [hb2.cell (p := ⟨kg, 0, none⟩) hkl.2]; exact q0
  have r1 : w2.cell? ⟨kg, 1, none⟩ = some (.slice (some ⟨b, o2, none⟩) l2 c2) := by rw [hb2.cell (p := ⟨kg, 1, none⟩) hkl.2]; exact q1
  have hg2 := hO2.lt
  obtain ⟨n2, hn2⟩ : ∃ n2, n2 = (x.gen s f).length := ⟨_, rfl⟩
  rw [← hn2]
  have HN2 : Hid (n2 = (x.gen s f).length) := hn2
  clear hO2 hn2 q0 q1
  go_upto_region 5 with fail
  go_cut [9] (fun v wx => ∃ g3 p3 n3, v = .slice (some ⟨g3, 0, none⟩) n3 p3 ∧ Hid (n3 = (y.gen (s || x.passes) (f + x.ifs)).length ∧ OwnX wx w2.heap.size g3 p3 (y.gen (s || x.passes) (f + x.ifs))) ∧ Below w2.heap.size w2 wx)
  case first =>
    have hkw : kg < w2.heap.size := by omega
    have HWr : Hid (IntKind.i64.wrap ((f : Int) + (x.ifs : Int)) = ((f + x.ifs : Nat) : Int)) := by show _ = _; rw [IntKind.wrap_i64]; omega
    cases s
    case false =>
      have hSd : (fun w' : World => w'.cell? ⟨kg, 0, none⟩ = some (.slice (some ⟨b, o1, none⟩) l1 c1) ∧ w'.cell? ⟨kg, 1, none⟩ = some (.slice (some ⟨b, o2, none⟩) l2 c2) ∧ Below w2.heap.size w2 w') w2.drew := ⟨r0, r1, (Below.refl _ _).drew⟩
      refine wp_region_T 99 (fun w' : World => w'.cell? ⟨kg, 0, none⟩ = some (.slice (some ⟨b, o1, none⟩) l1 c1) ∧ w'.cell? ⟨kg, 1, none⟩ = some (.slice (some ⟨b, o2, none⟩) l2 c2) ∧ Below w2.heap.size w2 w') (by kernel_rfl) ?_
      refine anyT_takeN (i := 0) (v := ?vf0) rfl (by kernel_rfl) (by kernel_rfl) (by kernel_rfl) (by rfl) (fun _ _ _ h => h) (Or.inl ⟨by rfl, ?yf0⟩) hSd ?_
      case yf0 => (intro wz hSw; obtain ⟨hz0, hz1, _⟩ := hSw; go_simp; (try with_reducible rfl))
      try simp only [Act.put, List.getElem_toArray, List.getElem_cons_zero, List.getElem_cons_succ, List.setIfInBounds_toArray, List.set_cons_zero, List.set_cons_succ]
      refine anyT_takeN (i := 1) (v := ?vf1) rfl (by kernel_rfl) (by kernel_rfl) (by kernel_rfl) (by rfl) (fun _ _ _ h => h) (Or.inl ⟨by rfl, ?yf1⟩) hSd ?_
      case yf1 => (intro wz hSw; obtain ⟨hz0, hz1, _⟩ := hSw; go_simp; (try with_reducible rfl))
      try simp only [Act.put, List.getElem_toArray, List.getElem_cons_zero, List.getElem_cons_succ, List.setIfInBounds_toArray, List.set_cons_zero, List.set_cons_succ]
      refine anyT_takeN (i := 2) (v := ?vf2) rfl (by kernel_rfl) (by kernel_rfl) (by kernel_rfl) (by rfl) (fun _ _ _ h => h) (Or.inl ⟨by rfl, ?yf2⟩) hSd ?_
      case yf2 => (intro wz hSw; obtain ⟨hz0, hz1, _⟩ := hSw; go_simp; (try with_reducible rfl))
      try simp only [Act.put, List.getElem_toArray, List.getElem_cons_zero, List.getElem_cons_succ, List.setIfInBounds_toArray, List.set_cons_zero, List.set_cons_succ]
      refine anyT_takeN (i := 3) (v := ?vf3) rfl (by kernel_rfl) (by kernel_rfl) (by kernel_rfl) (by rfl) (fun _ _ _ h => h) (Or.inl ⟨by rfl, ?yf3⟩) hSd ?_
      case yf3 => (intro wz hSw; obtain ⟨hz0, hz1, _⟩ := hSw; go_simp; (try with_reducible rfl))
      try simp only [Act.put, List.getElem_toArray, List.getElem_cons_zero, List.getElem_cons_succ, List.setIfInBounds_toArray, List.set_cons_zero, List.set_cons_succ]
      refine anyT_takeN (i := 4) (v := ?vf4) rfl (by kernel_rfl) (by kernel_rfl) (by kernel_rfl) (by rfl) (fun _ _ _ h => h) (Or.inl ⟨by rfl, ?yf4⟩) hSd ?_
      case yf4 => (intro wz hSw; obtain ⟨hz0, hz1, _⟩ := hSw; go_simp; (try with_reducible rfl))
      try simp only [Act.put, List.getElem_toArray, List.getElem_cons_zero, List.getElem_cons_succ, List.setIfInBounds_toArray, List.set_cons_zero, List.set_cons_succ]
      refine anyT_takeN (i := 5) (v := ?vf5) rfl (by kernel_rfl) (by kernel_rfl) (by kernel_rfl) (by rfl) (fun _ _ _ h => h) (Or.inl ⟨by rfl, ?yf5⟩) hSd ?_
      case yf5 => (intro wz hSw; obtain ⟨hz0, hz1, _⟩ := hSw; go_simp; (try with_reducible rfl))
      try simp only [Act.put, List.getElem_toArray, List.getElem_cons_zero, List.getElem_cons_succ, List.setIfInBounds_toArray, List.set_cons_zero, List.set_cons_succ]
      refine anyT_takeN (i := 6) (v := ?vf6) rfl (by kernel_rfl) (by kernel_rfl) (by kernel_rfl) (by rfl) (fun _ _ _ h => h) (Or.inl ⟨by rfl, ?yf6⟩) hSd ?_
      case yf6 => (intro wz hSw; obtain ⟨hz0, hz1, _⟩ := hSw; go_simp; (try with_reducible rfl))
      try simp only [Act.put, List.getElem_toArray, List.getElem_cons_zero, List.getElem_cons_succ, List.setIfInBounds_toArray, List.set_cons_zero, List.set_cons_succ]
      refine anyT_takeN (i := 7) (v := ?vf7) rfl (by kernel_rfl) (by kernel_rfl) (by kernel_rfl) (by rfl) (fun _ _ _ h => h) (Or.inl ⟨by rfl, ?yf7⟩) hSd ?_
      case yf7 => (intro wz hSw; obtain ⟨hz0, hz1, _⟩ := hSw; go_simp; (try with_reducible rfl))
      try simp only [Act.put, List.getElem_toArray, List.getElem_cons_zero, List.getElem_cons_succ, List.setIfInBounds_toArray, List.set_cons_zero, List.set_cons_succ]
      refine anyT_takeN (i := 10) (v := ?vf10) rfl (by kernel_rfl) (by kernel_rfl) (by kernel_rfl) (by rfl) (fun _ _ _ h => h) (Or.inl ⟨by rfl, ?yf10⟩) hSd ?_
      case yf10 => (intro wz hSw; obtain ⟨hz0, hz1, _⟩ := hSw; go_simp; (try with_reducible rfl))
      try simp only [Act.put, List.getElem_toArray, List.getElem_cons_zero, List.getElem_cons_succ, List.setIfInBounds_toArray, List.set_cons_zero, List.set_cons_succ]
      refine anyT_takeN (i := 11) (v := ?vf11) rfl (by kernel_rfl) (by kernel_rfl) (by kernel_rfl) (by rfl) (fun _ _ _ h => h) (Or.inl ⟨by rfl, ?yf11⟩) hSd ?_
      case yf11 => (intro wz hSw; obtain ⟨hz0, hz1, _⟩ := hSw; go_simp; (try with_reducible rfl))
      try simp only [Act.put, List.getElem_toArray, List.getElem_cons_zero, List.getElem_cons_succ, List.setIfInBounds_toArray, List.set_cons_zero, List.set_cons_succ]
      refine anyT_takeN (i := 12) (v := ?vf12) rfl (by kernel_rfl) (by kernel_rfl) (by kernel_rfl) (by rfl) (fun _ _ _ h => h) (Or.inl ⟨by rfl, ?yf12⟩) hSd ?_
      case yf12 => (intro wz hSw; obtain ⟨hz0, hz1, _⟩ := hSw; go_simp; (try with_reducible rfl))
      try simp only [Act.put, List.getElem_toArray, List.getElem_cons_zero, List.getElem_cons_succ, List.setIfInBounds_toArray, List.set_cons_zero, List.set_cons_succ]
      refine anyT_takeN (i := 13) (v := ?vf13) rfl (by kernel_rfl) (by kernel_rfl) (by kernel_rfl) (by rfl) (fun _ _ _ h => h) (Or.inl ⟨by rfl, ?yf13⟩) hSd ?_
      case yf13 => (intro wz hSw; obtain ⟨hz0, hz1, _⟩ := hSw; go_simp; (try with_reducible rfl))
      try simp only [Act.put, List.getElem_toArray, List.getElem_cons_zero, List.getElem_cons_succ, List.setIfInBounds_toArray, List.set_cons_zero, List.set_cons_succ]
      refine anyT_one (i := 8) (by kernel_rfl) rfl (fun K hK => ?_)
      go_simp
      go_at_call 40
      refine (GkC.pass_in HC1 k2 _ hSd.2.2).mono ?_
      rintro r v3 ⟨rfl, hv3, hc3⟩
      have hS3 : (fun w' : World => w'.cell? ⟨kg, 0, none⟩ = some (.slice (some ⟨b, o1, none⟩) l1 c1) ∧ w'.cell? ⟨kg, 1, none⟩ = some (.slice (some ⟨b, o2, none⟩) l2 c2) ∧ Below w2.heap.size w2 w') v3 := ⟨by rw [hc3 kg 0 hkw]; exact r0, by rw [hc3 kg 1 hkw]; exact r1, hv3⟩
      clear hc3
      refine hK.out _ _ (.inr hS3) ?_
      clear hK
      try simp only [Act.put, List.getElem_toArray, List.getElem_cons_zero, List.getElem_cons_succ, List.setIfInBounds_toArray, List.set_cons_zero, List.set_cons_succ]
      refine anyT_takeN (i := 9) (v := ?vf9) rfl (by kernel_rfl) (by kernel_rfl) (by kernel_rfl) (by rfl) (fun _ _ _ h => h) (Or.inl ⟨by rfl, ?yf9⟩) hS3 ?_
      case yf9 => (intro wz hSw; obtain ⟨hz0, hz1, _⟩ := hSw; go_simp; (try with_reducible rfl))
      try simp only [Act.put, List.getElem_toArray, List.getElem_cons_zero, List.getElem_cons_succ, List.setIfInBounds_toArray, List.set_cons_zero, List.set_cons_succ]
      refine anyT_one (i := 14) (by kernel_rfl) rfl (fun K hK => ?_)
      go_simp
      go_at_call 41
      refine (GkC.ifs_in HC1 k2 _ hS3.2.2).mono ?_
      rintro r v4 ⟨rfl, hv4⟩
      rw [hv4]
      clear hv4
      refine hK.out _ _ (.inr hS3) ?_
      clear hK
      try simp only [Act.put, List.getElem_toArray, List.getElem_cons_zero, List.getElem_cons_succ, List.setIfInBounds_toArray, List.set_cons_zero, List.set_cons_succ]
      refine anyT_takeN (i := 15) (v := ?vf15) rfl (by kernel_rfl) (by kernel_rfl) (by kernel_rfl) (by rfl) (fun _ _ _ h => h) (Or.inl ⟨by rfl, ?yf15⟩) hS3 ?_
      case yf15 => (intro wz hSw; obtain ⟨hz0, hz1, _⟩ := hSw; go_simp; (try with_reducible rfl))
      try simp only [Act.put, List.getElem_toArray, List.getElem_cons_zero, List.getElem_cons_succ, List.setIfInBounds_toArray, List.set_cons_zero, List.set_cons_succ]
      refine anyT_one (i := 16) (by kernel_rfl) rfl (fun K hK => ?_)
      go_simp
      go_at_call 17
      refine (GkC.gen_in HC2 k2 x.passes (f + x.ifs) _ HWr.out hf2 _ hS3.2.2).mono ?_
      rintro r v5 ⟨g3, p3, n3, rfl, HO3, hbb3⟩
      have hS5 : (fun w' : World => w'.cell? ⟨kg, 0, none⟩ = some (.slice (some ⟨b, o1, none⟩) l1 c1) ∧ w'.cell? ⟨kg, 1, none⟩ = some (.slice (some ⟨b, o2, none⟩) l2 c2) ∧ Below w2.heap.size w2 w') v5 := ⟨by rw [hbb3.cell (p := ⟨kg, 0, none⟩) hkw]; exact r0, by rw [hbb3.cell (p := ⟨kg, 1, none⟩) hkw]; exact r1, hbb3⟩
      refine hK.out _ _ (.inr hS5) ?_
      clear hK
      try simp only [Act.put, List.getElem_toArray, List.getElem_cons_zero, List.getElem_cons_succ, List.setIfInBounds_toArray, List.set_cons_zero, List.set_cons_succ]
      refine anyT_one (i := 17) (by kernel_rfl) rfl (fun K hK => ?_)
      go_simp
      refine hK.out _ _ (.inr hS5) ?_
      clear hK
      try simp only [Act.put, List.getElem_toArray, List.getElem_cons_zero, List.getElem_cons_succ, List.setIfInBounds_toArray, List.set_cons_zero, List.set_cons_succ]
      refine anyT_done (by kernel_rfl) ?_
      go_wp2_with fail
      go_meet
      exact ⟨g3, p3, n3, rfl, HO3, hbb3⟩
    case true =>
      have hSd : (fun w' : World => w'.cell? ⟨kg, 0, none⟩ = some (.slice (some ⟨b, o1, none⟩) l1 c1) ∧ w'.cell? ⟨kg, 1, none⟩ = some (.slice (some ⟨b, o2, none⟩) l2 c2) ∧ Below w2.heap.size w2 w') w2.drew := ⟨r0, r1, (Below.refl _ _).drew⟩
      refine wp_region_T 99 (fun w' : World => w'.cell? ⟨kg, 0, none⟩ = some (.slice (some ⟨b, o1, none⟩) l1 c1) ∧ w'.cell? ⟨kg, 1, none⟩ = some (.slice (some ⟨b, o2, none⟩) l2 c2) ∧ Below w2.heap.size w2 w') (by kernel_rfl) ?_
      refine anyT_takeN (i := 0) (v := ?vt0) rfl (by kernel_rfl) (by kernel_rfl) (by kernel_rfl) (by rfl) (fun _ _ _ h => h) (Or.inl ⟨by rfl, ?yt0⟩) hSd ?_
      case yt0 => (intro wz hSw; obtain ⟨hz0, hz1, _⟩ := hSw; go_simp; (try with_reducible rfl))
      try simp only [Act.put, List.getElem_toArray, List.getElem_cons_zero, List.getElem_cons_succ, List.setIfInBounds_toArray, List.set_cons_zero, List.set_cons_succ]
      refine anyT_takeN (i := 1) (v := ?vt1) rfl (by kernel_rfl) (by kernel_rfl) (by kernel_rfl) (by rfl) (fun _ _ _ h => h) (Or.inl ⟨by rfl, ?yt1⟩) hSd ?_
      case yt1 => (intro wz hSw; obtain ⟨hz0, hz1, _⟩ := hSw; go_simp; (try with_reducible rfl))
      try simp only [Act.put, List.getElem_toArray, List.getElem_cons_zero, List.getElem_cons_succ, List.setIfInBounds_toArray, List.set_cons_zero, List.set_cons_succ]
      refine anyT_takeN (i := 2) (v := ?vt2) rfl (by kernel_rfl) (by kernel_rfl) (by kernel_rfl) (by rfl) (fun _ _ _ h => h) (Or.inl ⟨by rfl, ?yt2⟩) hSd ?_
      case yt2 => (intro wz hSw; obtain ⟨hz0, hz1, _⟩ := hSw; go_simp; (try with_reducible rfl))
      try simp only [Act.put, List.getElem_toArray, List.getElem_cons_zero, List.getElem_cons_succ, List.setIfInBounds_toArray, List.set_cons_zero, List.set_cons_succ]
      refine anyT_takeN (i := 3) (v := ?vt3) rfl (by kernel_rfl) (by kernel_rfl) (by kernel_rfl) (by rfl) (fun _ _ _ h => h) (Or.inl ⟨by rfl, ?yt3⟩) hSd ?_
      case yt3 => (intro wz hSw; obtain ⟨hz0, hz1, _⟩ := hSw; go_simp; (try with_reducible rfl))
      try simp only [Act.put, List.getElem_toArray, List.getElem_cons_zero, List.getElem_cons_succ, List.setIfInBounds_toArray, List.set_cons_zero, List.set_cons_succ]
      refine anyT_takeN (i := 4) (v := ?vt4) rfl (by kernel_rfl) (by kernel_rfl) (by kernel_rfl) (by rfl) (fun _ _ _ h => h) (Or.inl ⟨by rfl, ?yt4⟩) hSd ?_
      case yt4 => (intro wz hSw; obtain ⟨hz0, hz1, _⟩ := hSw; go_simp; (try with_reducible rfl))
      try simp only [Act.put, List.getElem_toArray, List.getElem_cons_zero, List.getElem_cons_succ, List.setIfInBounds_toArray, List.set_cons_zero, List.set_cons_succ]
      refine anyT_takeN (i := 5) (v := undef) rfl (by kernel_rfl) (by kernel_rfl) (by kernel_rfl) (by rfl) (fun _ _ _ h => h) (Or.inr ⟨by rfl, rfl⟩) hSd ?_
      try simp only [Act.put, List.getElem_toArray, List.getElem_cons_zero, List.getElem_cons_succ, List.setIfInBounds_toArray, List.set_cons_zero, List.set_cons_succ]
      refine anyT_takeN (i := 6) (v := undef) rfl (by kernel_rfl) (by kernel_rfl) (by kernel_rfl) (by rfl) (fun _ _ _ h => h) (Or.inr ⟨by rfl, rfl⟩) hSd ?_
      try simp only [Act.put, List.getElem_toArray, List.getElem_cons_zero, List.getElem_cons_succ, List.setIfInBounds_toArray, List.set_cons_zero, List.set_cons_succ]
      refine anyT_takeN (i := 7) (v := undef) rfl (by kernel_rfl) (by kernel_rfl) (by kernel_rfl) (by rfl) (fun _ _ _ h => h) (Or.inr ⟨by rfl, rfl⟩) hSd ?_
      try simp only [Act.put, List.getElem_toArray, List.getElem_cons_zero, List.getElem_cons_succ, List.setIfInBounds_toArray, List.set_cons_zero, List.set_cons_succ]
      refine anyT_takeN (i := 10) (v := ?vt10) rfl (by kernel_rfl) (by kernel_rfl) (by kernel_rfl) (by rfl) (fun _ _ _ h => h) (Or.inl ⟨by rfl, ?yt10⟩) hSd ?_
      case yt10 => (intro wz hSw; obtain ⟨hz0, hz1, _⟩ := hSw; go_simp; (try with_reducible rfl))
      try simp only [Act.put, List.getElem_toArray, List.getElem_cons_zero, List.getElem_cons_succ, List.setIfInBounds_toArray, List.set_cons_zero, List.set_cons_succ]
      refine anyT_takeN (i := 11) (v := ?vt11) rfl (by kernel_rfl) (by kernel_rfl) (by kernel_rfl) (by rfl) (fun _ _ _ h => h) (Or.inl ⟨by rfl, ?yt11⟩) hSd ?_
      case yt11 => (intro wz hSw; obtain ⟨hz0, hz1, _⟩ := hSw; go_simp; (try with_reducible rfl))
      try simp only [Act.put, List.getElem_toArray, List.getElem_cons_zero, List.getElem_cons_succ, List.setIfInBounds_toArray, List.set_cons_zero, List.set_cons_succ]
      refine anyT_takeN (i := 12) (v := ?vt12) rfl (by kernel_rfl) (by kernel_rfl) (by kernel_rfl) (by rfl) (fun _ _ _ h => h) (Or.inl ⟨by rfl, ?yt12⟩) hSd ?_
      case yt12 => (intro wz hSw; obtain ⟨hz0, hz1, _⟩ := hSw; go_simp; (try with_reducible rfl))
      try simp only [Act.put, List.getElem_toArray, List.getElem_cons_zero, List.getElem_cons_succ, List.setIfInBounds_toArray, List.set_cons_zero, List.set_cons_succ]
      refine anyT_takeN (i := 13) (v := ?vt13) rfl (by kernel_rfl) (by kernel_rfl) (by kernel_rfl) (by rfl) (fun _ _ _ h => h) (Or.inl ⟨by rfl, ?yt13⟩) hSd ?_
      case yt13 => (intro wz hSw; obtain ⟨hz0, hz1, _⟩ := hSw; go_simp; (try with_reducible rfl))
      try simp only [Act.put, List.getElem_toArray, List.getElem_cons_zero, List.getElem_cons_succ, List.setIfInBounds_toArray, List.set_cons_zero, List.set_cons_succ]
      refine anyT_one (i := 8) (by kernel_rfl) rfl (fun K hK => ?_)
      go_simp
      refine hK.out _ _ (.inr hSd) ?_
      clear hK
      try simp only [Act.put, List.getElem_toArray, List.getElem_cons_zero, List.getElem_cons_succ, List.setIfInBounds_toArray, List.set_cons_zero, List.set_cons_succ]
      refine anyT_takeN (i := 9) (v := ?vt9) rfl (by kernel_rfl) (by kernel_rfl) (by kernel_rfl) (by rfl) (fun _ _ _ h => h) (Or.inl ⟨by rfl, ?yt9⟩) hSd ?_
      case yt9 => (intro wz hSw; obtain ⟨hz0, hz1, _⟩ := hSw; go_simp; (try with_reducible rfl))
      try simp only [Act.put, List.getElem_toArray, List.getElem_cons_zero, List.getElem_cons_succ, List.setIfInBounds_toArray, List.set_cons_zero, List.set_cons_succ]
      refine anyT_one (i := 14) (by kernel_rfl) rfl (fun K hK => ?_)
      go_simp
      go_at_call 41
      refine (GkC.ifs_in HC1 k2 _ hSd.2.2).mono ?_
      rintro r v4 ⟨rfl, hv4⟩
      rw [hv4]
      clear hv4
      refine hK.out _ _ (.inr hSd) ?_
      clear hK
      try simp only [Act.put, List.getElem_toArray, List.getElem_cons_zero, List.getElem_cons_succ, List.setIfInBounds_toArray, List.set_cons_zero, List.set_cons_succ]
      refine anyT_takeN (i := 15) (v := ?vt15) rfl (by kernel_rfl) (by kernel_rfl) (by kernel_rfl) (by rfl) (fun _ _ _ h => h) (Or.inl ⟨by rfl, ?yt15⟩) hSd ?_
      case yt15 => (intro wz hSw; obtain ⟨hz0, hz1, _⟩ := hSw; go_simp; (try with_reducible rfl))
      try simp only [Act.put, List.getElem_toArray, List.getElem_cons_zero, List.getElem_cons_succ, List.setIfInBounds_toArray, List.set_cons_zero, List.set_cons_succ]
      refine anyT_one (i := 16) (by kernel_rfl) rfl (fun K hK => ?_)
      go_simp
      go_at_call 17
      refine (GkC.gen_in HC2 k2 true (f + x.ifs) _ HWr.out hf2 _ hSd.2.2).mono ?_
      rintro r v5 ⟨g3, p3, n3, rfl, HO3, hbb3⟩
      have hS5 : (fun w' : World => w'.cell? ⟨kg, 0, none⟩ = some (.slice (some ⟨b, o1, none⟩) l1 c1) ∧ w'.cell? ⟨kg, 1, none⟩ = some (.slice (some ⟨b, o2, none⟩) l2 c2) ∧ Below w2.heap.size w2 w') v5 := ⟨by rw [hbb3.cell (p := ⟨kg, 0, none⟩) hkw]; exact r0, by rw [hbb3.cell (p := ⟨kg, 1, none⟩) hkw]; exact r1, hbb3⟩
      refine hK.out _ _ (.inr hS5) ?_
      clear hK
      try simp only [Act.put, List.getElem_toArray, List.getElem_cons_zero, List.getElem_cons_succ, List.setIfInBounds_toArray, List.set_cons_zero, List.set_cons_succ]
      refine anyT_one (i := 17) (by kernel_rfl) rfl (fun K hK => ?_)
      go_simp
      refine hK.out _ _ (.inr hS5) ?_
      clear hK
      try simp only [Act.put, List.getElem_toArray, List.getElem_cons_zero, List.getElem_cons_succ, List.setIfInBounds_toArray, List.set_cons_zero, List.set_cons_succ]
      refine anyT_done (by kernel_rfl) ?_
      go_wp2_with fail
      go_meet
      exact ⟨g3, p3, n3, rfl, HO3, hbb3⟩
  case rest =>
  obtain ⟨g3, p3, n3, rfl, HO3', hb3⟩ := hcut
  have HO3 : Hid (OwnX wc w2.heap.size g3 p3 (y.gen (s || x.passes) (f + x.ifs))) := HO3'.out.2
  have HN3 : Hid (n3 = (y.gen (s || x.passes) (f + x.ifs)).length) := HO3'.out.1
  obtain ⟨w3, hw3⟩ : ∃ w3 : World, w3 = wc := ⟨_, rfl⟩
  subst hw3
  have s3 := hb3.size
  have hg3 := HO3.out.lt
  have k3 : Below w.heap.size w w3 := k2.trans (hb3.mono k2.size)
  clear r0 r1
  obtain ⟨W4, hW4⟩ : ∃ W4 : World, W4 = w3.alloc (Obj.cells #[.slice (some ⟨g2, 0, none⟩) n2 p2, .slice (some ⟨g3, 0, none⟩) n3 p3] 27) := ⟨_, rfl⟩
  have hb4 : Below w3.heap.size w3 W4 := by rw [hW4]; exact (Below.refl _ _).alloc (Nat.le_refl _) _
  have HC : Hid (Calls Try.prog 39 #[.slice (some ⟨w3.heap.size, 0, none⟩) 2 2] W4 (GeP (CT.gen (.chain e x y) s f) W4)) := by
    have z4 : W4.heap.size = w3.heap.size + 1 := by rw [hW4]; simp
    have hb24 : Below w2.heap.size w2 W4 := hb3.trans (hb4.mono s3)
    have hlg := gen_len x s f
    have hlh := gen_len y (s || x.passes) (f + x.ifs)
    have h9 := l6Cat_core w3.heap.size 2 [.slice (some ⟨g2, 0, none⟩) n2 p2, .slice (some ⟨g3, 0, none⟩) n3 p3] [x.gen s f, y.gen (s || x.passes) (f + x.ifs)] W4 (fun j u hu => by
        rw [hW4]
        match j, hu with
        | 0, hu => cases hu; simp
        | 1, hu => cases hu; simp) (by omega) rfl (fun j u y' hu hy' => by
        match j, hu, hy' with
        | 0, hu, hy' => cases hu; cases hy'; exact ⟨g2, p2, by rw [HN2.out], HO2.out.at.below hb24 (by omega), by omega⟩
        | 1, hu, hy' => cases hu; cases hy'; exact ⟨g3, p3, by rw [HN3.out], HO3.out.at.below hb4 (by omega), by omega⟩) (by have := HSz.out; simp only [CT.size] at this; simp; omega) (by simp)
    have e9 : [x.gen s f, y.gen (s || x.passes) (f + x.ifs)].flatten = CT.gen (.chain e x y) s f := by simp [CT.gen]
    rw [e9] at h9
    exact h9
  have k4 : Below w.heap.size w W4 := k3.trans (hb4.mono k3.size)
  go_wp2_with fail
  rw [← hW4]
  clear hW4
  refine HC.out.mono ?_
  rintro r w5 ⟨g5, p5, rfl, hO5, hb5⟩
  have HR : Hid (GeP (CT.gen (.chain e x y) s f) w (.returned (.slice (some ⟨g5, 0, none⟩) (CT.gen (.chain e x y) s f).length p5)) w5) := ⟨g5, p5, rfl, hO5.low k4.size, k4.trans (hb5.mono k4.size)⟩
  clear hO5
  go_wp2_with fail
  go_ret
  exact HR.out
end Go.Proofs.Ytkbmdkgfgfbilaa

/-
  spec.l6Gen: its four cases.
-/
namespace Go.Proofs.Ytkbmdkgfgfbilaa
open Go.ChangeShapes Go.WideShapes Go.ChangeAt Go.RowKit Go.Deep
set_option linter.unusedVariables false
set_option linter.unusedSimpArgs false
set_option maxRecDepth 100000

set_option maxHeartbeats 8000000 in
theorem gen_inter {n : Nat} (H : GeC n) (w : World) (b o cap : Nat) (ks : List (List Nd)) (e : Nd) (t : CT) (s : Bool) (f : Nat) (hn : (ks.flatten ++ [e]).length ≤ n + 1) (hn2 : (ks.flatten ++ [e]).length ≤ 200) (hf : f + (ks.flatten ++ [e]).length ≤ 1000) (hW : Win w b o cap (ks.flatten ++ [e])) (hT : TreeF (ks.flatten ++ [e]) t) (hal : ks.length = arity e.kind) (hIs : ∀ k ∈ ks, IsT 1 k) {x y : CT} {ka kb : List Nd} (h15 : e.kind = 15) (hx : TreeF ka x) (hy : TreeF kb y) (ht : t = .inter e x y) (hks : ks = [ka, kb]) : Calls Try.prog 17 #[.slice (some ⟨b, o, none⟩) (ks.flatten ++ [e]).length cap, .bool s, .int .i64 (f : Int)] w (GeP (t.gen s f) w) := by
  simp only [List.length_append, List.length_singleton] at hn hn2 hf
  obtain ⟨m, hm⟩ : ∃ m, m = ks.flatten.length := ⟨_, rfl⟩
  have HT : Hid (∀ wx, Below w.heap.size w wx → Calls Try.prog 38 #[.slice (some ⟨b, o, none⟩) (m + 1) cap] wx fun r w' => r = .returned (.int .i64 e.kind) ∧ w' = wx) := fun wx hx => by
    rw [hm]; exact l5Top_core (hW.below hx)
  obtain ⟨a3, ha3⟩ : ∃ a3, a3 = ks.length := ⟨_, rfl⟩
  have HKs : Hid (Calls Try.prog 37 #[.slice (some ⟨b, o, none⟩) (m + 1) cap] w fun r w' => ∃ g cp, r = .returned (.slice (some ⟨g, 0, none⟩) a3 cp) ∧ OwnV w' w.heap.size g cp (kidVs b o cap ks) ∧ Below w.heap.size w w') := by
    rw [ha3, hm]; exact l5Kids_core hW hal hIs
  have HN : Hid (∀ {j : Nat} {k : List Nd} {u : CT}, ks[j]? = some k → TreeF k u → ∃ o' cap', (kidVs b o cap ks)[j]? = some (.slice (some ⟨b, o', none⟩) k.length cap') ∧ GkC w b o' k.length cap' u) := by
    intro j k u hk hu
    obtain ⟨o', cap', hv, hWk⟩ := kidVs_nth hW hk
    have hkl := len_flat (List.mem_of_getElem? hk)
    exact ⟨o', cap', hv, gkC_of H (by omega) (by omega) hWk hu⟩
  have HW : Hid (Win w b o cap (ks.flatten ++ [e])) := hW
  rw [List.length_append, List.length_singleton, ← hm]
  rw [← hm] at hf
  have hcap := hW.cap
  have hcl : m + 1 ≤ cap := by have := hW.len; rw [List.length_append, List.length_singleton] at this; omega
  have HM : Hid (a3 = ks.length ∧ m = ks.flatten.length) := ⟨ha3, hm⟩
  have HSz : Hid (t.size ≤ 200) := by show _ ≤ _; rw [hT.size, List.length_append, List.length_singleton]; omega
  have HK0 : Hid (t = .inter e x y ∧ ks = [ka, kb] ∧ e.kind = 15) := ⟨ht, hks, h15⟩
  clear hW hT hIs H hal hn hn2 hm ha3 ht hks h15
  go_enter Try.func17, Try.ntmps17
  go_wp2_with fail
  refine HKs.out.mono ?_
  rintro r w1 ⟨kg, kc, rfl, hO, hb1⟩
  have s1 := hb1.size
  have HO : Hid (OwnV w1 w.heap.size kg kc (kidVs b o cap ks)) := hO
  have hkc := hO.caps
  rw [kidVs_len, ← HM.out.1] at hkc
  have hkl := hO.lt
  clear hO HKs
  go_wp2_with fail
  refine (HT.out w1 hb1).mono ?_
  rintro r w1' ⟨rfl, hw1⟩
  rw [hw1]
  clear hw1
  obtain ⟨ht, hks, h15⟩ := HK0.out
  clear HK0
  subst ht hks
  have z14 : (e.kind == 14) = false := by rw [beq_eq_false_iff_ne]; omega
  have z15 : (e.kind == 15) = true := by rw [beq_iff_eq]; exact h15
  obtain rfl : a3 = 2 := HM.out.1
  obtain ⟨o1, c1, hv1, hc1⟩ := HN.out (j := 0) rfl hx
  obtain ⟨o2, c2, hv2, hc2⟩ := HN.out (j := 1) rfl hy
  have q0 := HO.out.cell hv1
  have q1 := HO.out.cell hv2
  have hm2 : m = ka.length + kb.length := by rw [HM.out.2]; simp
  obtain ⟨l1, hl1⟩ : ∃ l1, l1 = ka.length := ⟨_, rfl⟩
  obtain ⟨l2, hl2⟩ : ∃ l2, l2 = kb.length := ⟨_, rfl⟩
  rw [← hl1] at q0 hc1 hm2
  rw [← hl2] at q1 hc2 hm2
  have HC1 : Hid (GkC w b o1 l1 c1 x) := hc1
  have HC2 : Hid (GkC w b o2 l2 c2 y) := hc2
  have hi1 := hc1.le
  have hf1 : f + l1 ≤ 1000 := by omega
  have hf2 : f + x.ifs + l2 ≤ 1000 := by omega
  clear hc1 hc2 hv1 hv2 hl1 hl2 hm2 hx hy
  go_wp2_with fail
  refine (HC1.out.gen s f hf1 w1 hb1).mono ?_
  rintro r w2 ⟨g2, p2, rfl, hO2, hb2⟩
  have s2 := hb2.size
  have k2 : Below w.heap.size w w2 := hb1.trans (hb2.mono s1)
  have HO2 : Hid (OwnX w2 w1.heap.size g2 p2 (x.gen s f)) := hO2
  have r0 : w2.cell? ⟨kg, 0, none⟩ = some (.slice (some ⟨b, o1, none⟩) l1 c1) := by rw [hb2.cell (p := ⟨kg, 0, none⟩) hkl.2]; exact q0
  have r1 : w2.cell? ⟨kg, 1, none⟩ = some (.slice (some ⟨b, o2, none⟩) l2 c2) := by rw [hb2.cell (p := ⟨kg, 1, none⟩) hkl.2]; exact q1
  have hg2 := hO2.lt
  obtain ⟨n2, hn2⟩ : ∃ n2, n2 = (x.gen s f).length := ⟨_, rfl⟩
  rw [← hn2]
  have HN2 : Hid (n2 = (x.gen s f).length) := hn2
  clear hO2 hn2 q0 q1
  go_upto_region 9 with fail
  go_cut [11] (fun v wx => ∃ g3 p3 n3, v = .slice (some ⟨g3, 0, none⟩) n3 p3 ∧ Hid (n3 = (y.gen s (f + x.ifs)).length ∧ OwnX wx w2.heap.size g3 p3 (y.gen s (f + x.ifs))) ∧ Below w2.heap.size w2 wx)
  case first =>
    have hkw : kg < w2.heap.size := by omega
    have HWr : Hid (IntKind.i64.wrap ((f : Int) + (x.ifs : Int)) = ((f + x.ifs : Nat) : Int)) := by show _ = _; rw [IntKind.wrap_i64]; omega
    have hSd : (fun w' : World => w'.cell? ⟨kg, 0, none⟩ = some (.slice (some ⟨b, o1, none⟩) l1 c1) ∧ w'.cell? ⟨kg, 1, none⟩ = some (.slice (some ⟨b, o2, none⟩) l2 c2) ∧ Below w2.heap.size w2 w') w2.drew := ⟨r0, r1, (Below.refl _ _).drew⟩
    refine wp_region_T 99 (fun w' : World => w'.cell? ⟨kg, 0, none⟩ = some (.slice (some ⟨b, o1, none⟩) l1 c1) ∧ w'.cell? ⟨kg, 1, none⟩ = some (.slice (some ⟨b, o2, none⟩) l2 c2) ∧ Below w2.heap.size w2 w') (by kernel_rfl) ?_
    refine anyT_takeN (i := 0) (v := ?vi0) rfl (by kernel_rfl) (by kernel_rfl) (by kernel_rfl) (by rfl) (fun _ _ _ h => h) (Or.inl ⟨by rfl, ?yi0⟩) hSd ?_
    case yi0 => (intro wz hSw; obtain ⟨hz0, hz1, _⟩ := hSw; go_simp; (try with_reducible rfl))
    try simp only [Act.put, List.getElem_toArray, List.getElem_cons_zero, List.getElem_cons_succ, List.setIfInBounds_toArray, List.set_cons_zero, List.set_cons_succ]
    refine anyT_takeN (i := 1) (v := ?vi1) rfl (by kernel_rfl) (by kernel_rfl) (by kernel_rfl) (by rfl) (fun _ _ _ h => h) (Or.inl ⟨by rfl, ?yi1⟩) hSd ?_
    case yi1 => (intro wz hSw; obtain ⟨hz0, hz1, _⟩ := hSw; go_simp; (try with_reducible rfl))
    try simp only [Act.put, List.getElem_toArray, List.getElem_cons_zero, List.getElem_cons_succ, List.setIfInBounds_toArray, List.set_cons_zero, List.set_cons_succ]
    refine anyT_takeN (i := 2) (v := ?vi2) rfl (by kernel_rfl) (by kernel_rfl) (by kernel_rfl) (by rfl) (fun _ _ _ h => h) (Or.inl ⟨by rfl, ?yi2⟩) hSd ?_
    case yi2 => (intro wz hSw; obtain ⟨hz0, hz1, _⟩ := hSw; go_simp; (try with_reducible rfl))
    try simp only [Act.put, List.getElem_toArray, List.getElem_cons_zero, List.getElem_cons_succ, List.setIfInBounds_toArray, List.set_cons_zero, List.set_cons_succ]
    refine anyT_takeN (i := 3) (v := ?vi3) rfl (by kernel_rfl) (by kernel_rfl) (by kernel_rfl) (by rfl) (fun _ _ _ h => h) (Or.inl ⟨by rfl, ?yi3⟩) hSd ?_
    case yi3 => (intro wz hSw; obtain ⟨hz0, hz1, _⟩ := hSw; go_simp; (try with_reducible rfl))
    try simp only [Act.put, List.getElem_toArray, List.getElem_cons_zero, List.getElem_cons_succ, List.setIfInBounds_toArray, List.set_cons_zero, List.set_cons_succ]
    refine anyT_takeN (i := 4) (v := ?vi4) rfl (by kernel_rfl) (by kernel_rfl) (by kernel_rfl) (by rfl) (fun _ _ _ h => h) (Or.inl ⟨by rfl, ?yi4⟩) hSd ?_
    case yi4 => (intro wz hSw; obtain ⟨hz0, hz1, _⟩ := hSw; go_simp; (try with_reducible rfl))
    try simp only [Act.put, List.getElem_toArray, List.getElem_cons_zero, List.getElem_cons_succ, List.setIfInBounds_toArray, List.set_cons_zero, List.set_cons_succ]
    refine anyT_takeN (i := 5) (v := ?vi5) rfl (by kernel_rfl) (by kernel_rfl) (by kernel_rfl) (by rfl) (fun _ _ _ h => h) (Or.inl ⟨by rfl, ?yi5⟩) hSd ?_
    case yi5 => (intro wz hSw; obtain ⟨hz0, hz1, _⟩ := hSw; go_simp; (try with_reducible rfl))
    try simp only [Act.put, List.getElem_toArray, List.getElem_cons_zero, List.getElem_cons_succ, List.setIfInBounds_toArray, List.set_cons_zero, List.set_cons_succ]
    refine anyT_takeN (i := 6) (v := ?vi6) rfl (by kernel_rfl) (by kernel_rfl) (by kernel_rfl) (by rfl) (fun _ _ _ h => h) (Or.inl ⟨by rfl, ?yi6⟩) hSd ?_
    case yi6 => (intro wz hSw; obtain ⟨hz0, hz1, _⟩ := hSw; go_simp; (try with_reducible rfl))
    try simp only [Act.put, List.getElem_toArray, List.getElem_cons_zero, List.getElem_cons_succ, List.setIfInBounds_toArray, List.set_cons_zero, List.set_cons_succ]
    refine anyT_takeN (i := 7) (v := ?vi7) rfl (by kernel_rfl) (by kernel_rfl) (by kernel_rfl) (by rfl) (fun _ _ _ h => h) (Or.inl ⟨by rfl, ?yi7⟩) hSd ?_
    case yi7 => (intro wz hSw; obtain ⟨hz0, hz1, _⟩ := hSw; go_simp; (try with_reducible rfl))
    try simp only [Act.put, List.getElem_toArray, List.getElem_cons_zero, List.getElem_cons_succ, List.setIfInBounds_toArray, List.set_cons_zero, List.set_cons_succ]
    refine anyT_one (i := 8) (by kernel_rfl) rfl (fun K hK => ?_)
    go_simp
    go_at_call 41
    refine (GkC.ifs_in HC1 k2 _ hSd.2.2).mono ?_
    rintro r v4 ⟨rfl, hv4⟩
    rw [hv4]
    clear hv4
    refine hK.out _ _ (.inr hSd) ?_
    clear hK
    try simp only [Act.put, List.getElem_toArray, List.getElem_cons_zero, List.getElem_cons_succ, List.setIfInBounds_toArray, List.set_cons_zero, List.set_cons_succ]
    refine anyT_takeN (i := 9) (v := ?vi9) rfl (by kernel_rfl) (by kernel_rfl) (by kernel_rfl) (by rfl) (fun _ _ _ h => h) (Or.inl ⟨by rfl, ?yi9⟩) hSd ?_
    case yi9 => (intro wz hSw; obtain ⟨hz0, hz1, _⟩ := hSw; go_simp; (try with_reducible rfl))
    try simp only [Act.put, List.getElem_toArray, List.getElem_cons_zero, List.getElem_cons_succ, List.setIfInBounds_toArray, List.set_cons_zero, List.set_cons_succ]
    refine anyT_one (i := 10) (by kernel_rfl) rfl (fun K hK => ?_)
    go_simp
    go_at_call 17
    refine (GkC.gen_in HC2 k2 s (f + x.ifs) _ HWr.out hf2 _ hSd.2.2).mono ?_
    rintro r v5 ⟨g3, p3, n3, rfl, HO3, hbb3⟩
    have hS5 : (fun w' : World => w'.cell? ⟨kg, 0, none⟩ = some (.slice (some ⟨b, o1, none⟩) l1 c1) ∧ w'.cell? ⟨kg, 1, none⟩ = some (.slice (some ⟨b, o2, none⟩) l2 c2) ∧ Below w2.heap.size w2 w') v5 := ⟨by rw [hbb3.cell (p := ⟨kg, 0, none⟩) hkw]; exact r0, by rw [hbb3.cell (p := ⟨kg, 1, none⟩) hkw]; exact r1, hbb3⟩
    refine hK.out _ _ (.inr hS5) ?_
    clear hK
    try simp only [Act.put, List.getElem_toArray, List.getElem_cons_zero, List.getElem_cons_succ, List.setIfInBounds_toArray, List.set_cons_zero, List.set_cons_succ]
    refine anyT_one (i := 11) (by kernel_rfl) rfl (fun K hK => ?_)
    go_simp
    refine hK.out _ _ (.inr hS5) ?_
    clear hK
    try simp only [Act.put, List.getElem_toArray, List.getElem_cons_zero, List.getElem_cons_succ, List.setIfInBounds_toArray, List.set_cons_zero, List.set_cons_succ]
    refine anyT_done (by kernel_rfl) ?_
    go_wp2_with fail
    go_meet
    exact ⟨g3, p3, n3, rfl, HO3, hbb3⟩
  case rest =>
  obtain ⟨g3, p3, n3, rfl, HO3', hb3⟩ := hcut
  obtain ⟨w3, hw3⟩ : ∃ w3 : World, w3 = wc := ⟨_, rfl⟩
  subst hw3
  have s3 := hb3.size
  have k3 : Below w.heap.size w w3 := k2.trans (hb3.mono k2.size)
  have L3 : Hid (Lst w3 g2 (x.gen s f) ∧ Lst w3 g3 (y.gen s (f + x.ifs)) ∧ n3 = (y.gen s (f + x.ifs)).length) := ⟨HO2.out.lst.below hb3, HO3'.out.2.lst, HO3'.out.1⟩
  clear r0 r1 HO3' HO2
  go_wp2_with fail
  refine (l6One_at 2 w3).mono ?_
  rintro r w4 ⟨g4, p4, rfl, hL4, hb4⟩
  have k4 : Below w.heap.size w w4 := k3.trans (hb4.mono k3.size)
  go_wp2_with fail
  refine (l6One_at 3 w4).mono ?_
  rintro r w5 ⟨g5, p5, rfl, hL5, hb5⟩
  have k5 : Below w.heap.size w w5 := k4.trans (hb5.mono k4.size)
  go_wp2_with fail
  refine (l6One_at 4 w5).mono ?_
  rintro r w6 ⟨g6, p6, rfl, hL6, hb6⟩
  have k6 : Below w.heap.size w w6 := k5.trans (hb6.mono k5.size)
  obtain ⟨W7, hW7⟩ : ∃ W7 : World, W7 = w6.alloc (Obj.cells #[.slice (some ⟨g4, 0, none⟩) 1 p4, .slice (some ⟨g2, 0, none⟩) n2 p2, .slice (some ⟨g5, 0, none⟩) 1 p5, .slice (some ⟨g3, 0, none⟩) n3 p3, .slice (some ⟨g6, 0, none⟩) 1 p6] 27) := ⟨_, rfl⟩
  have k7 : Below w.heap.size w W7 := by rw [hW7]; exact k6.trans (((Below.refl _ _).alloc (Nat.le_refl _) _).mono k6.size)
  have HC : Hid (Calls Try.prog 39 #[.slice (some ⟨w6.heap.size, 0, none⟩) 5 5] W7 (GeP (CT.gen (.inter e x y) s f) W7)) := by
    rw [hW7]
    have hlg := gen_len x s f
    have hlh := gen_len y s (f + x.ifs)
    refine cat_lit (ns := [[opI 2], x.gen s f, [opI 3], y.gen s (f + x.ifs), [opI 4]]) (.cons rfl ((hL4.out.below hb5).below hb6) (.cons HN2.out (((L3.out.1.below hb4).below hb5).below hb6) (.cons rfl (hL5.out.below hb6) (.cons L3.out.2.2 (((L3.out.2.1.below hb4).below hb5).below hb6) (.cons rfl hL6.out .nil))))) rfl (by simp [CT.gen]) rfl ?_ (by simp)
    have := gen_len (.inter e x y) s f
    have h9 := HSz.out
    omega
  go_wp2_with fail
  rw [← hW7]
  clear hW7
  refine HC.out.mono ?_
  rintro r w8 ⟨g8, p8, rfl, hO8, hb8⟩
  have HR : Hid (GeP (CT.gen (.inter e x y) s f) w (.returned (.slice (some ⟨g8, 0, none⟩) (CT.gen (.inter e x y) s f).length p8)) w8) := ⟨g8, p8, rfl, hO8.low k7.size, k7.trans (hb8.mono k7.size)⟩
  clear hO8
  go_wp2_with fail
  go_ret
  exact HR.out
end Go.Proofs.Ytkbmdkgfgfbilaa

