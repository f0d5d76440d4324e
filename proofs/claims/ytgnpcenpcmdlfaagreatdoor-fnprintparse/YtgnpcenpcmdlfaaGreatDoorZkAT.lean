import Derived.Deep.DeepCutAuto
import Derived.Deep.RegionWith
import Derived.Test.YtgnpcenpcmdlfaaGreatDoorZkAS
import Derived.Test.YtgnpcenpcmdlfaaGreatDoorZkAQ
import Derived.Test.YtgnpcenpcmdlfaaGreatDoorZkAE
import Derived.Test.YtgnpcenpcmdlfaaGreatDoorZkAA
import Derived.Test.YtgnpcenpcmdlfaaGreatDoorZkAF
import Derived.Test.YtgnpcenpcmdlfaaGreatDoorZkAM
/-
  (*impl.filterParser).prim, and the whole descent.
-/
namespace Go.Proofs.YtgnpcenpcmdlfaaGreatDoor
open Go.ChangeShapes Go.WideShapes Go.ChangeAt Go.RowKit Go.Deep
set_option linter.unusedVariables false
set_option linter.unusedSimpArgs false
set_option maxRecDepth 100000

theorem prim_word_ok {F : Ps → PR Ps → Prop} {d : Nat} {s s1 s2 : Ps} {nd : Nd} {kd : Int} (hk : hdK s.ks = .word kd) (hm : Except.ok s1 = makerF s) (hb : BehR F d kd s1 (.ok (s2, nd))) : PrimR F d s (.ok (s2.add nd)) := by
  unfold BehR at hb
  by_cases hq : kd = 16
  · rw [if_pos hq] at hb
    rcases hb with ⟨s3, h3, h4⟩ | ⟨e, h3, h4⟩
    · cases h4
      exact .inr (.inl ⟨by rw [hk, hq], .inr ⟨s1, hm, .inr ⟨s2, h3, rfl⟩⟩⟩)
    · cases h4
  · rw [if_neg hq] at hb
    refine .inr (.inr (.inl ⟨kd, hk, hq, .inr ⟨s1, hm, ?_⟩⟩))
    show _ = argF kd s1
    unfold argP at hb
    unfold argF
    cases hz : argsF kd s1.ks with
    | error e => rw [hz] at hb; cases hb
    | ok p => rw [hz] at hb; cases hb; rfl
theorem prim_word_err {F : Ps → PR Ps → Prop} {d : Nat} {s s1 : Ps} {e : PE} {kd : Int} (hk : hdK s.ks = .word kd) (hm : Except.ok s1 = makerF s) (hb : BehR F d kd s1 (.error e)) : PrimR F d s (.error e) := by
  unfold BehR at hb
  by_cases hq : kd = 16
  · rw [if_pos hq] at hb
    rcases hb with ⟨s3, h3, h4⟩ | ⟨e, h3, h4⟩
    · cases h4
    · cases h4
      exact .inr (.inl ⟨by rw [hk, hq], .inr ⟨s1, hm, .inl ⟨_, h3, rfl⟩⟩⟩)
  · rw [if_neg hq] at hb
    refine .inr (.inr (.inl ⟨kd, hk, hq, .inr ⟨s1, hm, ?_⟩⟩))
    show _ = argF kd s1
    unfold argP at hb
    unfold argF
    cases hz : argsF kd s1.ks with
    | error e => rw [hz] at hb; cases hb; rfl
    | ok p => rw [hz] at hb; cases hb
theorem prim_maker {F : Ps → PR Ps → Prop} {d : Nat} {s : Ps} {e : PE} {kd : Int} (hk : hdK s.ks = .word kd) (hm : Except.error e = makerF s) : PrimR F d s (.error e) := by
  by_cases hq : kd = 16
  · exact .inr (.inl ⟨by rw [hk, hq], .inl ⟨_, hm, rfl⟩⟩)
  · exact .inr (.inr (.inl ⟨kd, hk, hq, .inl ⟨_, hm, rfl⟩⟩))
theorem step_append_ndV {ops : Array Oper} {oo : Oper} {a : Act} {K : Act → World → Prop} {Q : Exit → Act → World → Prop} {E : Prop} (w : World) (hgd : oo.guard = none) (s x : Operand)
    (ho : oo.op = .call { callee := .builtin .append, args := #[s, x], argTypes := #[23, 23] })
    (base : Nat) (v : Value) (b off m cx : Nat) (fs : List Nd) (e : Nd) (hs : a.eval s = v) (hx : a.eval x = .slice (some ⟨b, off, none⟩) m cx) (hm : m = 1) (hO : w.ownsRow base 65 7 v fs.length (cellsN fs))
    (hc : NdsAt w b off [e]) (hlen : fs.length ≤ 1000000) (hbase : base ≤ w.heap.size)
    (h : ∀ g' cp' w', w'.ownsRow base 65 7 (.slice (some ⟨g', 0, none⟩) (fs.length + 1) cp') (fs ++ [e]).length (cellsN (fs ++ [e])) → w.grownBy w' v.ownBlock → (v.ownBlock = some g' ∨ g' = w.heap.size) → K (a.put oo.dst (.slice (some ⟨g', 0, none⟩) (fs.length + 1) cp')) w') : if Region.wanted oo (yielded ops a.tmps) = true then Oper.wp Tryz.prog oo a w K Q else E := by
  have hw : Region.wanted oo (yielded ops a.tmps) = true := by simp [Region.wanted, hgd]
  rw [if_pos hw]
  subst hm
  obtain ⟨i, hi, hz0, hz1, hz2⟩ := info_parts Tryz.infoNd
  obtain ⟨v', w', hr, hO', hgr, hnil, hat⟩ := run_append_own_at (P := Tryz.prog) w base 23 oo.type 65 i _ 7 72 Tryz.underlying23 hi hz0 hz1 hz2 rfl (by decide) v fs.length (cellsN fs) hO ⟨b, off, none⟩ 1 cx (cellsN [e]) (length_cellsN [e]) (nds_cells hc) (nds_one [e]) (by unfold maxLen; omega) (by omega) hbase
  rcases hO'.2 with ⟨h0, _⟩ | ⟨g', cap', cur, hv, _, _, hn, hcap, _, _⟩
  · have := (hnil.1 h0).2
    simp at this
  · subst hv
    have hfin := h g' cap' w' (by rw [List.length_append, cellsN_append]; exact hO') hgr (by
      rcases hat with z | z
      · left; rw [← z]; rfl
      · right; simpa [Value.ownBlock] using z)
    unfold Oper.wp
    simp [execOp, ho, resolve, invoke, builtin, hs, hx, hr, Result.andThen]
    exact hfin
set_option maxHeartbeats 16000000 in
theorem prim_of {base g b off n cap : Nat} {t : List UInt8} {d : Nat} {F : Ps → PR Ps → Prop} (HF : 0 < d → OprC base g b off n cap t (d - 1) 26 F) (hM : MonR F) : OprC base g b off n cap t d 96 (PrimR F d) := by
  intro w s k ks p nv hS h
  have hdd := h.dd
  have H0 : Hid (FpS base b off n cap t w ∧ Fp base g b off n cap t d s k ks p nv w ∧ s.ks = k :: ks) := ⟨hS, h, h.eq⟩
  have HFl : Hid ((0 < d → OprC base g b off n cap t (d - 1) 26 F) ∧ MonR F) := ⟨HF, hM⟩
  have cK := h.fs.cell (j := 2) rfl
  have hkn := h.kinds
  have hsg := ft_sign (b := 40) hkn (by decide)
  have hsg' : (((ftB k.k).toNat : Int) == 40) = k.k.isSign 40 := hsg
  have hgl := h.fs.lt
  clear HF hM hS h hsg
  cases hsn : k.k.isSign 40
  case true =>
    rw [hsn] at hsg'
    have HC0 : Hid (Calls Tryz.prog 115 #[.pointer (some ⟨g, 0, none⟩)] w (FpO base g b off n cap t (d - 1) (fun r => r = enterF d s) (.tuple #[]) nv w)) := enter_core H0.out.1 H0.out.2.1
    have Hsn : Hid ((hdK s.ks).isSign 40 = true) := by show _ = _; rw [H0.out.2.2]; exact hsn
    clear hsn hkn
    go_enter Tryz.func96, Tryz.ntmps96
    go_wp2_with fail
    refine HC0.out.mono ?_
    clear HC0
    rintro e w1 ⟨Hc1, (⟨s1, hs1, rfl, k1, ks1, p1, nv1, hF1, hn1⟩ | ⟨c, a, hs1, rfl⟩)⟩
    case inr =>
      have HD : Hid (FpO base g b off n cap t d (PrimR F d s) (.tuple #[]) nv w (Pf c (a : Int)) w1) := ⟨Hc1.out, .inr ⟨c, a, .inl ⟨Hsn.out, .inl ⟨_, hs1, rfl⟩⟩, rfl⟩⟩
      clear hs1
      exact ⟨rfl, HD.out⟩
    have hd0 : 0 < d := by
      rcases Nat.eq_zero_or_pos d with q | q
      · exfalso
        have h9 : Except.ok s1 = enterF d s := hs1
        rw [q] at h9
        unfold enterF at h9
        split at h9 <;> first | cases h9 | (simp at h9)
      · exact q
    have HQ1 : Hid (Fp base g b off n cap t (d - 1) s1 k1 ks1 p1 nv1 w1 ∧ FpS base b off n cap t w1 ∧ Chg (fun q => q = g ∨ nv.ownBlock = some q) w w1 ∧ (∀ q, nv1.ownBlock = some q → nv.ownBlock = some q ∨ w.heap.size ≤ q) ∧ (∀ r, (bindR F (fnR leaveF)) s1 r → PrimR F d s r)) := ⟨hF1, H0.out.1.of H0.out.2.1 Hc1.out, Hc1.out, hn1, fun r hr => .inl ⟨Hsn.out, .inr ⟨s1, hs1, hr⟩⟩⟩
    have sz1 := HQ1.out.2.2.1.size
    have HC1 : Hid (Calls Tryz.prog 26 #[.pointer (some ⟨g, 0, none⟩)] w1 (FpO base g b off n cap t (d - 1) (F s1) (.tuple #[]) nv1 w1)) := HFl.out.1 hd0 w1 s1 k1 ks1 p1 nv1 HQ1.out.2.1 hF1
    clear hs1 hF1 hn1
    go_wp2_with fail
    refine HC1.out.mono ?_
    clear HC1
    rintro e w2 ⟨Hc2, (⟨s2, hs2, rfl, k2, ks2, p2, nv2, hF2, hn2⟩ | ⟨c, a, hs2, rfl⟩)⟩
    case inr =>
      have HD : Hid (FpO base g b off n cap t d (PrimR F d s) (.tuple #[]) nv w (Pf c (a : Int)) w2) := ⟨Chg.comp HQ1.out.2.2.1 Hc2.out (fun q hq z => by
      rcases z with z | z
      · exact .inl z
      · rcases HQ1.out.2.2.2.1 q z with y | y
        · exact .inr y
        · omega), .inr ⟨c, a, HQ1.out.2.2.2.2 _ (.inl ⟨_, hs2, rfl⟩), rfl⟩⟩
      clear hs2
      exact ⟨rfl, HD.out⟩
    have HQ2 : Hid (Fp base g b off n cap t (d - 1) s2 k2 ks2 p2 nv2 w2 ∧ FpS base b off n cap t w2 ∧ Chg (fun q => q = g ∨ nv.ownBlock = some q) w w2 ∧ (∀ q, nv2.ownBlock = some q → nv.ownBlock = some q ∨ w.heap.size ≤ q) ∧ (∀ r, fnR leaveF s2 r → PrimR F d s r)) := ⟨hF2, HQ1.out.2.1.of HQ1.out.1 Hc2.out, (Chg.comp HQ1.out.2.2.1 Hc2.out (fun q hq z => by
      rcases z with z | z
      · exact .inl z
      · rcases HQ1.out.2.2.2.1 q z with y | y
        · exact .inr y
        · omega)), (fun q hq => by
      rcases hn2 q hq with y | y
      · exact HQ1.out.2.2.2.1 q y
      · right; omega), fun r hr => HQ1.out.2.2.2.2 r (.inr ⟨s2, hs2, hr⟩)⟩
    have sz2 := HQ2.out.2.2.1.size
    have HC2 : Hid (Calls Tryz.prog 116 #[.pointer (some ⟨g, 0, none⟩)] w2 (FpO base g b off n cap t d (fun r => r = leaveF s2) (.tuple #[]) nv2 w2)) := by
      have h9 := leave_core HQ2.out.2.1 hF2 (by omega)
      rw [show d - 1 + 1 = d by omega] at h9
      exact h9
    clear hs2 hF2 hn2
    go_wp2_with fail
    refine HC2.out.mono ?_
    clear HC2
    intro e w3 h3
    have HR : Hid (FpO base g b off n cap t d (PrimR F d s) (.tuple #[]) nv w e w3) := FpO.seq HQ2.out.2.2.1 HQ2.out.2.2.2.1 h3 (fun r hr => HQ2.out.2.2.2.2 r hr)
    rcases h3 with ⟨Hc3, (⟨s3, hs3, rfl, k3, ks3, p3, nv3, hF3, hn3⟩ | ⟨c, a, hs3, rfl⟩)⟩
    · clear hs3 hF3 hn3
      go_wp2_with fail
      go_end0
      exact HR.out
    · clear hs3
      exact ⟨rfl, HR.out⟩
  rw [hsn] at hsg'
  by_cases hwd : ∃ kd, k.k = .word kd
  case neg =>
    have zk : (((ftB k.k).toNat : Int) == 97) = false := by
      cases hq : k.k with
      | word v => exact absurd ⟨v, hq⟩ hwd
      | sign c =>
        rw [hq] at hkn
        rcases hkn with q | q
        · rcases q with rfl | rfl | rfl | rfl | rfl | rfl <;> rfl
        · cases q
      | num _ => rfl
      | str _ => rfl
      | fin => rfl
      | bad => rfl
    have HD : Hid (FpO base g b off n cap t d (PrimR F d s) (.tuple #[]) nv w (Pf 3 (k.pos : Int)) w) := ⟨Chg.refl _ _, .inr ⟨3, k.pos, .inr (.inr (.inr ⟨by rw [H0.out.2.2]; exact hsn, fun kd q => hwd ⟨kd, by rw [H0.out.2.2] at q; exact q⟩, by rw [H0.out.2.2]; rfl⟩)), rfl⟩⟩
    obtain ⟨kb, hkb⟩ : ∃ kb : Int, kb = ((ftB k.k).toNat : Int) := ⟨_, rfl⟩
    rw [← hkb] at zk cK hsg'
    clear hwd hkn hsn hkb
    go_enter Tryz.func96, Tryz.ntmps96
    go_wp2_with fail
    refine (fdem_no H0.out.2.1 3).mono ?_
    rintro e w2 ⟨rfl, hw2⟩
    rw [hw2]
    clear hw2
    exact ⟨rfl, HD.out⟩
  obtain ⟨kd, hkd⟩ := hwd
  have hft : ftV k = [.int .u8 97, .int .i64 (k.pos : Int), .int .i64 kd, .int .u64 0, .string ⟨#[]⟩] := by unfold ftV; rw [hkd]; rfl
  have hgd : (TkK.word kd).good := by
    rcases hkn with q | q
    · rw [hkd] at q; exact q
    · rw [hkd] at q; cases q
  have HK : Hid (hdK s.ks = .word kd ∧ (TkK.word kd).good ∧ k.k.isFin = false) := ⟨by rw [H0.out.2.2]; exact hkd, hgd, by rw [hkd]; rfl⟩
  rw [show ftB k.k = 97 from by rw [hkd]; rfl] at cK
  have HMk : Hid (Calls Tryz.prog 95 #[.pointer (some ⟨g, 0, none⟩)] w (FpO base g b off n cap t d (fun r => r = makerF s) (.agg (ftV k).toArray) nv w)) := takeMaker_core H0.out.1 H0.out.2.1 HK.out.2.2
  have HFt : Hid (ftV k = [.int .u8 97, .int .i64 (k.pos : Int), .int .i64 kd, .int .u64 0, .string ⟨#[]⟩]) := hft
  clear hkd hgd hft hsn hkn hsg'
  go_enter Tryz.func96, Tryz.ntmps96
  go_wp2_with fail
  refine (fdem_yes _ 3 w).mono ?_
  rintro e w0 ⟨rfl, hw0⟩
  rw [hw0]
  clear hw0
  go_wp2_with fail
  refine HMk.out.mono ?_
  clear HMk
  rintro e w1 ⟨Hc1, (⟨s1, hs1, rfl, k1, ks1, p1, nv1, hF1, hn1⟩ | ⟨c, a, hs1, rfl⟩)⟩
  case inr =>
    have HD : Hid (FpO base g b off n cap t d (PrimR F d s) (.tuple #[]) nv w (Pf c (a : Int)) w1) := ⟨Hc1.out, .inr ⟨c, a, prim_maker HK.out.1 hs1, rfl⟩⟩
    clear hs1
    exact ⟨rfl, HD.out⟩
  have HQ1 : Hid (Fp base g b off n cap t d s1 k1 ks1 p1 nv1 w1 ∧ FpS base b off n cap t w1 ∧ Chg (fun q => q = g ∨ nv.ownBlock = some q) w w1 ∧ (∀ q, nv1.ownBlock = some q → nv.ownBlock = some q ∨ w.heap.size ≤ q) ∧ Except.ok s1 = makerF s) := ⟨hF1, H0.out.1.of H0.out.2.1 Hc1.out, Hc1.out, hn1, hs1⟩
  have sz1 := HQ1.out.2.2.1.size
  have HBh : Hid (Calls Tryz.prog 117 #[.pointer (some ⟨g, 0, none⟩), .int .i64 kd] w1 (BehP base g b off n cap t d (BehR F d kd s1) nv1 w1)) := behind_any HQ1.out.2.1 hF1 HFl.out.1 HK.out.2.1
  have hfe : (Instr.field 52 (.agg (ftV k).toArray) 2).run Tryz.prog w1 = .ok (.int .i64 kd) w1 := by rw [HFt.out]; kernel_rfl
  clear hs1 hF1 hn1
  go_wp2_with fail
  refine HBh.out.mono ?_
  clear HBh hfe
  rintro e w2 ⟨Hc2, (⟨s2, nd, hs2, rfl, k2, ks2, p2, nv2, hF2, hn2⟩ | ⟨c, a, hs2, rfl⟩)⟩
  case inr =>
    have HD : Hid (FpO base g b off n cap t d (PrimR F d s) (.tuple #[]) nv w (Pf c (a : Int)) w2) := ⟨Chg.comp HQ1.out.2.2.1 Hc2.out (fun q hq z => by
      rcases z with z | z
      · exact .inl z
      · rcases HQ1.out.2.2.2.1 q z with y | y
        · exact .inr y
        · omega), .inr ⟨c, a, prim_word_err HK.out.1 HQ1.out.2.2.2.2 hs2, rfl⟩⟩
    clear hs2
    exact ⟨rfl, HD.out⟩
  obtain ⟨a2, m2, c2, rfl⟩ := hF2.form
  have HPr : Hid (PrimR F d s (.ok (s2.add nd))) := prim_word_ok HK.out.1 HQ1.out.2.2.2.2 hs2
  have HQ2 : Hid (Fp base g b off n cap t d s2 k2 ks2 p2 (.slice a2 m2 c2) w2 ∧ FpS base b off n cap t w2 ∧ Chg (fun q => q = g ∨ nv.ownBlock = some q) w w2 ∧ (∀ q, (Value.slice a2 m2 c2).ownBlock = some q → nv.ownBlock = some q ∨ w.heap.size ≤ q)) := ⟨hF2, HQ1.out.2.1.of HQ1.out.1 Hc2.out, (Chg.comp HQ1.out.2.2.1 Hc2.out (fun q hq z => by
      rcases z with z | z
      · exact .inl z
      · rcases HQ1.out.2.2.2.1 q z with y | y
        · exact .inr y
        · omega)), (fun q hq => by
      rcases hn2 q hq with y | y
      · exact HQ1.out.2.2.2.1 q y
      · right; omega)⟩
  have sz2 := HQ2.out.2.2.1.size
  clear hs2 hF2 hn2
  obtain ⟨nk, ns, nh, nt, nl, nu, nn⟩ := nd
  have hvv : (⟨nk, ns, nh, nt, nl, nu, nn⟩ : Nd).v = .agg #[.int .i64 nk, .string ns, .bool nh, .string nt, .int .u64 nl, .int .u64 nu, .int .i64 nn] := rfl
  rw [hvv]
  clear hvv
  obtain ⟨W3, hW3⟩ : ∃ V : World, V = w2.alloc (Obj.cells #[.int .i64 nk, .string ns, .bool nh, .string nt, .int .u64 nl, .int .u64 nu, .int .i64 nn] 65) := ⟨_, rfl⟩
  have hb3 : Below w2.heap.size w2 W3 := by rw [hW3]; exact (Below.refl _ _).alloc (Nat.le_refl _) _
  obtain ⟨P, hP⟩ : ∃ P, P = w2.heap.size := ⟨_, rfl⟩
  have HB3 : Hid (BoxAt W3 P 65 7 P [.int .i64 nk, .string ns, .bool nh, .string nt, .int .u64 nl, .int .u64 nu, .int .i64 nn] ∧ Below w2.heap.size w2 W3 ∧ P = w2.heap.size) := by rw [hP]; exact ⟨by rw [hW3]; exact boxAt_new w2 _ (Nat.le_refl _) rfl, hb3, rfl⟩
  have HF3 : Hid (Fp base g b off n cap t d s2 k2 ks2 p2 (.slice a2 m2 c2) W3 ∧ FpS base b off n cap t W3) := ⟨HQ2.out.1.below hb3, HQ2.out.2.1.up (hb3.mono HQ2.out.2.1.sz)⟩
  go_upto_region 6 with fail
  rw [← hW3, ← hP]
  clear hW3 hP hb3 cK
  have hS0 : (fun w' : World => w'.cell? ⟨g, 9, none⟩ = some (.slice a2 m2 c2) ∧ w'.cell? ⟨P, 0, none⟩ = some (.int .i64 nk) ∧ w'.cell? ⟨P, 1, none⟩ = some (.string ns) ∧ w'.cell? ⟨P, 2, none⟩ = some (.bool nh) ∧ w'.cell? ⟨P, 3, none⟩ = some (.string nt) ∧ w'.cell? ⟨P, 4, none⟩ = some (.int .u64 nl) ∧ w'.cell? ⟨P, 5, none⟩ = some (.int .u64 nu) ∧ w'.cell? ⟨P, 6, none⟩ = some (.int .i64 nn)) W3.drew := ⟨HF3.out.1.fs.cell (j := 9) rfl, HB3.out.1.cell (j := 0) rfl, HB3.out.1.cell (j := 1) rfl, HB3.out.1.cell (j := 2) rfl, HB3.out.1.cell (j := 3) rfl, HB3.out.1.cell (j := 4) rfl, HB3.out.1.cell (j := 5) rfl, HB3.out.1.cell (j := 6) rfl⟩
  refine wp_region_T 10 (fun w' : World => w'.cell? ⟨g, 9, none⟩ = some (.slice a2 m2 c2) ∧ w'.cell? ⟨P, 0, none⟩ = some (.int .i64 nk) ∧ w'.cell? ⟨P, 1, none⟩ = some (.string ns) ∧ w'.cell? ⟨P, 2, none⟩ = some (.bool nh) ∧ w'.cell? ⟨P, 3, none⟩ = some (.string nt) ∧ w'.cell? ⟨P, 4, none⟩ = some (.int .u64 nl) ∧ w'.cell? ⟨P, 5, none⟩ = some (.int .u64 nu) ∧ w'.cell? ⟨P, 6, none⟩ = some (.int .i64 nn)) (by kernel_rfl) ?_
  refine anyT_take (i := 0) (v := ?vp0) rfl (by kernel_rfl) (by kernel_rfl) (by kernel_rfl) (by kernel_rfl) (by decide) (fun _ _ _ h => h) (Or.inl ⟨by rfl, ?yp0⟩) hS0 ?_
  case yp0 => (intro wz hSw; obtain ⟨hz0, hz1, hz2, hz3, hz4, hz5, hz6, hz7⟩ := hSw; go_simp; (try with_reducible rfl))
  try simp only [Act.put, List.getElem_toArray, List.getElem_cons_zero, List.getElem_cons_succ, List.setIfInBounds_toArray, List.set_cons_zero, List.set_cons_succ]

  refine anyT_take (i := 1) (v := ?vp1) rfl (by kernel_rfl) (by kernel_rfl) (by kernel_rfl) (by kernel_rfl) (by decide) (fun _ _ _ h => h) (Or.inl ⟨by rfl, ?yp1⟩) hS0 ?_
  case yp1 => (intro wz hSw; obtain ⟨hz0, hz1, hz2, hz3, hz4, hz5, hz6, hz7⟩ := hSw; go_simp; (try with_reducible rfl))
  try simp only [Act.put, List.getElem_toArray, List.getElem_cons_zero, List.getElem_cons_succ, List.setIfInBounds_toArray, List.set_cons_zero, List.set_cons_succ]

  refine anyT_take (i := 2) (v := ?vp2) rfl (by kernel_rfl) (by kernel_rfl) (by kernel_rfl) (by kernel_rfl) (by decide) (fun _ _ _ h => h) (Or.inl ⟨by rfl, ?yp2⟩) hS0 ?_
  case yp2 => (intro wz hSw; obtain ⟨hz0, hz1, hz2, hz3, hz4, hz5, hz6, hz7⟩ := hSw; go_simp; (try with_reducible rfl))
  try simp only [Act.put, List.getElem_toArray, List.getElem_cons_zero, List.getElem_cons_succ, List.setIfInBounds_toArray, List.set_cons_zero, List.set_cons_succ]

  refine anyT_take (i := 3) (v := ?vp3) rfl (by kernel_rfl) (by kernel_rfl) (by kernel_rfl) (by kernel_rfl) (by decide) (fun _ _ _ h => h) (Or.inl ⟨by rfl, ?yp3⟩) hS0 ?_
  case yp3 => (intro wz hSw; obtain ⟨hz0, hz1, hz2, hz3, hz4, hz5, hz6, hz7⟩ := hSw; go_simp; (try with_reducible rfl))
  try simp only [Act.put, List.getElem_toArray, List.getElem_cons_zero, List.getElem_cons_succ, List.setIfInBounds_toArray, List.set_cons_zero, List.set_cons_succ]

  refine anyT_take (i := 4) (v := ?vp4) rfl (by kernel_rfl) (by kernel_rfl) (by kernel_rfl) (by kernel_rfl) (by decide) (fun _ _ _ h => h) (Or.inl ⟨by rfl, ?yp4⟩) hS0 ?_
  case yp4 => (intro wz hSw; obtain ⟨hz0, hz1, hz2, hz3, hz4, hz5, hz6, hz7⟩ := hSw; go_simp; (try with_reducible rfl))
  try simp only [Act.put, List.getElem_toArray, List.getElem_cons_zero, List.getElem_cons_succ, List.setIfInBounds_toArray, List.set_cons_zero, List.set_cons_succ]

  refine anyT_take (i := 5) (v := ?vp5) rfl (by kernel_rfl) (by kernel_rfl) (by kernel_rfl) (by kernel_rfl) (by decide) (fun _ _ _ h => h) (Or.inl ⟨by rfl, ?yp5⟩) hS0 ?_
  case yp5 => (intro wz hSw; obtain ⟨hz0, hz1, hz2, hz3, hz4, hz5, hz6, hz7⟩ := hSw; go_simp; (try with_reducible rfl))
  try simp only [Act.put, List.getElem_toArray, List.getElem_cons_zero, List.getElem_cons_succ, List.setIfInBounds_toArray, List.set_cons_zero, List.set_cons_succ]

  obtain ⟨V1, hV1⟩ : ∃ V1 : World, V1 = (W3.alloc (Obj.cells #[.int .i64 nk, .string ns, .bool nh, .string nt, .int .u64 nl, .int .u64 nu, .int .i64 nn] 65)).drew := ⟨_, rfl⟩
  obtain ⟨G1, hG1⟩ : ∃ G1, G1 = W3.heap.size := ⟨_, rfl⟩
  have hbV : Below W3.heap.size W3 V1 := by rw [hV1]; exact ((Below.refl _ _).alloc (Nat.le_refl _) _).drew
  have HV : Hid (NdsAt V1 G1 0 [(⟨nk, ns, nh, nt, nl, nu, nn⟩ : Nd)] ∧ Fp base g b off n cap t d s2 k2 ks2 p2 (.slice a2 m2 c2) V1 ∧ FpS base b off n cap t V1 ∧ BoxAt V1 P 65 7 P [.int .i64 nk, .string ns, .bool nh, .string nt, .int .u64 nl, .int .u64 nu, .int .i64 nn] ∧ Below w2.heap.size w2 V1) := by
    refine ⟨?_, HF3.out.1.below hbV, HF3.out.2.up (hbV.mono HF3.out.2.sz), HB3.out.1.below hbV, HB3.out.2.1.trans (hbV.mono HB3.out.2.1.size)⟩
    intro i e he
    cases i with
    | zero =>
      simp at he
      subst he
      rw [hV1, hG1]
      refine ⟨?_, ?_, ?_, ?_, ?_, ?_, ?_⟩ <;> simp
    | succ i => simp at he
  have hS1 : (fun w' : World => w'.cell? ⟨g, 9, none⟩ = some (.slice a2 m2 c2) ∧ w'.cell? ⟨P, 0, none⟩ = some (.int .i64 nk) ∧ w'.cell? ⟨P, 1, none⟩ = some (.string ns) ∧ w'.cell? ⟨P, 2, none⟩ = some (.bool nh) ∧ w'.cell? ⟨P, 3, none⟩ = some (.string nt) ∧ w'.cell? ⟨P, 4, none⟩ = some (.int .u64 nl) ∧ w'.cell? ⟨P, 5, none⟩ = some (.int .u64 nu) ∧ w'.cell? ⟨P, 6, none⟩ = some (.int .i64 nn)) V1 := ⟨HV.out.2.1.fs.cell (j := 9) rfl, HV.out.2.2.2.1.cell (j := 0) rfl, HV.out.2.2.2.1.cell (j := 1) rfl, HV.out.2.2.2.1.cell (j := 2) rfl, HV.out.2.2.2.1.cell (j := 3) rfl, HV.out.2.2.2.1.cell (j := 4) rfl, HV.out.2.2.2.1.cell (j := 5) rfl, HV.out.2.2.2.1.cell (j := 6) rfl⟩
  clear hbV
  refine anyT_one (i := 6) (by kernel_rfl) rfl (fun K hK => ?_)
  go_simp
  rw [← hV1, ← hG1]
  clear hV1 hG1
  refine hK.out _ _ (.inr hS1) ?_
  clear hK
  try simp only [Act.put, List.getElem_toArray, List.getElem_cons_zero, List.getElem_cons_succ, List.setIfInBounds_toArray, List.set_cons_zero, List.set_cons_succ]
  refine anyT_one (i := 7) (by kernel_rfl) rfl (fun K hK => ?_)
  refine step_append_ndV _ rfl _ _ rfl base (.slice a2 m2 c2) G1 0 1 1 s2.out (⟨nk, ns, nh, nt, nl, nu, nn⟩ : Nd) rfl rfl rfl HV.out.2.1.nds HV.out.1 (by have := HV.out.2.1.ol; omega) HV.out.2.2.1.sz ?_
  intro g6 c6 w6 hO6 hgr hat
  have H6 : Hid (FsAt w6 base g b off n cap p2 (fpL k2 s2.made (20 - d) (.slice a2 m2 c2)) ∧ w6.ownsRow base 65 7 (.slice (some ⟨g6, 0, none⟩) (s2.out.length + 1) c6) (s2.out ++ [(⟨nk, ns, nh, nt, nl, nu, nn⟩ : Nd)]).length (cellsN (s2.out ++ [(⟨nk, ns, nh, nt, nl, nu, nn⟩ : Nd)])) ∧ Chg (fun q => q = g ∨ nv.ownBlock = some q) w w6 ∧ ¬ g6 = g ∧ (nv.ownBlock = some g6 ∨ w.heap.size ≤ g6) ∧ BoxAt w6 P 65 7 P [.int .i64 nk, .string ns, .bool nh, .string nt, .int .u64 nl, .int .u64 nu, .int .i64 nn]) := by
    have hc6 : Chg (fun q => (Value.slice a2 m2 c2).ownBlock = some q) V1 w6 := Chg.of_grown hgr (fun q hq => hq)
    have hF5 := HV.out.2.1
    have hcw5 : Chg (fun q => q = g ∨ nv.ownBlock = some q) w V1 := Chg.comp HQ2.out.2.2.1 (Chg.of_below HV.out.2.2.2.2 (S := fun _ => False)) (fun q _ z => z.elim)
    refine ⟨BoxAt.chg hF5.fs hc6 (fun z => hF5.ap _ z rfl), hO6, Chg.comp hcw5 hc6 (fun q hq z => ?_), ?_, ?_, BoxAt.chg HV.out.2.2.2.1 hc6 (fun z => ?_)⟩
    · rcases HQ2.out.2.2.2 q z with y | y
      · exact .inr y
      · omega
    · rcases hat with z | z
      · exact fun q => hF5.ap _ z q
      · have := hF5.fs.lt.2; omega
    · rcases hat with z | z
      · exact HQ2.out.2.2.2 _ z
      · right; have := hcw5.size; omega
    · have h1 := (HQ2.out.1.nlt _ z).2
      have h2 := HB3.out.2.2
      omega
  clear hO6 hgr hat
  have hS2 : (fun w' : World => w'.cell? ⟨g, 9, none⟩ = some (.slice a2 m2 c2) ∧ w'.cell? ⟨P, 0, none⟩ = some (.int .i64 nk) ∧ w'.cell? ⟨P, 1, none⟩ = some (.string ns) ∧ w'.cell? ⟨P, 2, none⟩ = some (.bool nh) ∧ w'.cell? ⟨P, 3, none⟩ = some (.string nt) ∧ w'.cell? ⟨P, 4, none⟩ = some (.int .u64 nl) ∧ w'.cell? ⟨P, 5, none⟩ = some (.int .u64 nu) ∧ w'.cell? ⟨P, 6, none⟩ = some (.int .i64 nn)) w6 := ⟨H6.out.1.cell (j := 9) rfl, H6.out.2.2.2.2.2.cell (j := 0) rfl, H6.out.2.2.2.2.2.cell (j := 1) rfl, H6.out.2.2.2.2.2.cell (j := 2) rfl, H6.out.2.2.2.2.2.cell (j := 3) rfl, H6.out.2.2.2.2.2.cell (j := 4) rfl, H6.out.2.2.2.2.2.cell (j := 5) rfl, H6.out.2.2.2.2.2.cell (j := 6) rfl⟩
  refine hK.out _ _ (.inr hS2) ?_
  clear hK
  try simp only [Act.put, List.getElem_toArray, List.getElem_cons_zero, List.getElem_cons_succ, List.setIfInBounds_toArray, List.set_cons_zero, List.set_cons_succ]
  refine anyT_one (i := 8) (by kernel_rfl) rfl (fun K hK => ?_)
  go_simp
  refine hK.out _ _ (.inr hS2) ?_
  clear hK
  try simp only [Act.put, List.getElem_toArray, List.getElem_cons_zero, List.getElem_cons_succ, List.setIfInBounds_toArray, List.set_cons_zero, List.set_cons_succ]
  refine anyT_one (i := 9) (by kernel_rfl) rfl (fun K hK => ?_)
  go_simp
  refine hK.out _ _ (.inr hS2) ?_
  clear hK
  try simp only [Act.put, List.getElem_toArray, List.getElem_cons_zero, List.getElem_cons_succ, List.setIfInBounds_toArray, List.set_cons_zero, List.set_cons_succ]
  have cN := H6.out.1.cell (j := 9) rfl
  have fN := H6.out.1.frozen 9
  refine anyT_one (i := 10) (by kernel_rfl) rfl (fun K hK => ?_)
  go_simp
  refine hK.out _ _ (.inl rfl) ?_
  clear hK
  try simp only [Act.put, List.getElem_toArray, List.getElem_cons_zero, List.getElem_cons_succ, List.setIfInBounds_toArray, List.set_cons_zero, List.set_cons_succ]
  refine anyT_done (by kernel_rfl) ?_
  have HR : Hid (FpO base g b off n cap t d (PrimR F d s) (.tuple #[]) nv w (.returned (.tuple #[])) (w6.setCell ⟨g, 9, none⟩ (.slice (some ⟨g6, 0, none⟩) (s2.out.length + 1) c6))) := by
    have hc9 : Chg (fun q => q = g) w6 (w6.setCell ⟨g, 9, none⟩ (.slice (some ⟨g6, 0, none⟩) (s2.out.length + 1) c6)) := Chg.of_set _ _ _ _ rfl
    have h6 := H6.out
    have h4 := HQ2.out.1
    refine ⟨Chg.comp h6.2.2.1 hc9 (fun q _ z => .inl z), .inl ⟨s2.add (⟨nk, ns, nh, nt, nl, nu, nn⟩ : Nd), HPr.out, rfl, k2, ks2, p2, .slice (some ⟨g6, 0, none⟩) (s2.out.length + 1) c6, ⟨h4.eq, BoxAt.set h6.1 9 _, h4.pn, h4.lx, h4.nb, h4.tk, h4.md, h4.dd, own_chg h6.2.1 hc9 (fun q hq z => ?_), fun q hq => ?_, ?_⟩, fun q hq => ?_⟩⟩
    · simp [Value.ownBlock] at hq; exact h6.2.2.2.1 (hq.trans z)
    · simp [Value.ownBlock] at hq; rw [← hq]; exact h6.2.2.2.1
    · have h1 := (mon_prim HFl.out.2 d s _ HPr.out).2
      have h2 := H0.out.2.1.ol
      omega
    · simp [Value.ownBlock] at hq; rw [← hq]; exact h6.2.2.2.2.1
  clear hS0 hS1 hS2 cN fN
  go_wp2_with fail
  go_end0
  exact HR.out
theorem fil_of (base g b off n cap : Nat) (t : List UInt8) : ∀ d, OprC base g b off n cap t d 26 (FilR d)
  | 0 => filter_of (chain_of (prim_of (F := fun _ _ => False) (fun q => absurd q (Nat.lt_irrefl 0)) (fun _ _ q => q.elim)) (mon_prim (fun _ _ q => q.elim) 0)) (mon_join (mon_prim (fun _ _ q => q.elim) 0))
  | d + 1 => filter_of (chain_of (prim_of (F := FilR d) (fun _ => fil_of base g b off n cap t d) (mon_fil d)) (mon_prim (mon_fil d) (d + 1))) (mon_join (mon_prim (mon_fil d) (d + 1)))
end Go.Proofs.YtgnpcenpcmdlfaaGreatDoor

/-
  impl.ParseFilter.
-/
namespace Go.Proofs.YtgnpcenpcmdlfaaGreatDoor
open Go.ChangeShapes Go.WideShapes Go.ChangeAt Go.RowKit Go.Deep
set_option linter.unusedVariables false
set_option linter.unusedSimpArgs false
set_option maxRecDepth 100000

/- Every fault has a number. -/
def Ers {α β : Type} (A : α → PR β → Prop) : Prop := ∀ s e, A s (.error e) → 1 ≤ e.1
theorem ers_bind {α β γ : Type} {A : α → PR β → Prop} {B : β → PR γ → Prop} (hA : Ers A) (hB : Ers B) : Ers (bindR A B) := by
  intro s e h
  rcases h with ⟨e2, h1, q⟩ | ⟨s2, h1, h2⟩
  · cases q; exact hA s e h1
  · exact hB s2 e h2
theorem take_ers {ks : List Tk} {e : PE} (h : takeF ks = .error e) : 1 ≤ e.1 := by
  unfold takeF at h
  split at h
  · cases h; simp
  · cases h
theorem exp_ers {b : UInt8} {ks : List Tk} {e : PE} (h : expectF b ks = .error e) : 1 ≤ e.1 := by
  unfold expectF at h
  split at h
  · exact take_ers h
  · cases h; simp
theorem to_ers {s : Ps} {r : PR (List Tk)} {e : PE} (h : s.to r = .error e) : r = .error e := by
  cases r with
  | error q => cases h; rfl
  | ok q => cases h
theorem ers_expect (b : UInt8) : Ers (fnR fun s : Ps => s.to (expectF b s.ks)) := fun s e h => exp_ers (to_ers (Eq.symm h))
theorem ers_maker : Ers (fnR makerF) := by
  intro s e h
  have h' : Except.error e = makerF s := h
  unfold makerF at h'
  split at h'
  · exact take_ers (to_ers h'.symm)
  · cases h'; simp
theorem ers_enter (d : Nat) : Ers (fnR (enterF d)) := by
  intro s e h
  have h' : Except.error e = enterF d s := h
  unfold enterF at h'
  split at h'
  · split at h'
    · cases h'; simp
    · exact take_ers (to_ers h'.symm)
  · cases h'; simp
theorem up_ers {k : Int} {st : Bool} {a : TkK} {ks : List Tk} {e : PE} (h : upF k st a ks = .error e) : 1 ≤ e.1 := by
  unfold upF at h
  split at h
  · split at h
    · cases hq : takeF ks with
      | error q => rw [hq] at h; cases h; exact take_ers hq
      | ok k2 => rw [hq] at h; cases h
    · cases h; simp
  · cases h
theorem dots_ers {k : Int} {st : Bool} {a : TkK} {ks : List Tk} {e : PE} (h : dotsF k st a ks = .error e) : 1 ≤ e.1 := by
  unfold dotsF at h
  cases hq : expectF 46 ks with
  | error q => rw [hq] at h; cases h; exact exp_ers hq
  | ok k2 => rw [hq] at h; exact up_ers h
theorem range_ers {k : Int} {st : Bool} {ks : List Tk} {e : PE} (h : rangeF k st ks = .error e) : 1 ≤ e.1 := by
  unfold rangeF at h
  split at h
  · cases hq : takeF ks with
    | error q => rw [hq] at h; cases h; exact take_ers hq
    | ok k2 => rw [hq] at h; exact dots_ers h
  · exact dots_ers h
theorem args_ers {k : Int} {ks : List Tk} {e : PE} (h : argsF k ks = .error e) : 1 ≤ e.1 := by
  unfold argsF at h
  split at h
  · cases h
  split at h
  · split at h
    · split at h
      · cases hq : takeF ks with
        | error q => rw [hq] at h; cases h; exact take_ers hq
        | ok k2 => rw [hq] at h; cases h
      · cases h; simp
    · cases h; simp
  split at h
  · exact range_ers h
  split at h
  · exact range_ers h
  split at h
  · split at h
    · cases hq : takeF ks with
      | error q => rw [hq] at h; cases h; exact take_ers hq
      | ok k2 => rw [hq] at h; cases h
    · cases h; simp
  · cases h; simp
theorem ers_arg (k : Int) : Ers (fnR (argF k)) := by
  intro s e h
  have h' : Except.error e = argF k s := h
  unfold argF at h'
  cases hq : argsF k s.ks with
  | error q => rw [hq] at h'; cases h'; exact args_ers hq
  | ok q => obtain ⟨ks, nd⟩ := q; rw [hq] at h'; cases h'
theorem ers_loop {sg : UInt8} {kd : Int} {R : Ps → PR Ps → Prop} (hR : Ers R) {s : Ps} {r : PR Ps} (h : LoopR sg kd R s r) : ∀ e, r = .error e → 1 ≤ e.1 := by
  induction h with
  | stop _ => intro e q; cases q
  | e1 _ h1 => intro e q; cases q; exact ers_maker _ _ (Eq.symm h1)
  | e2 _ _ h2 => intro e q; cases q; exact hR _ _ h2
  | more _ _ _ _ ih => exact ih
theorem ers_join {sg : UInt8} {kd : Int} {R : Ps → PR Ps → Prop} (hR : Ers R) : Ers (JoinR sg kd R) := ers_bind hR (fun s e h => ers_loop hR h e rfl)
theorem ers_bran {F : Ps → PR Ps → Prop} (hF : Ers F) (d : Nat) : Ers (BranR F d) := ers_bind (ers_enter d) (ers_bind hF (ers_bind (ers_expect 44) (ers_bind hF (ers_bind (ers_expect 44) (ers_bind hF (ers_expect 41))))))
theorem ers_prim {F : Ps → PR Ps → Prop} (hF : Ers F) (d : Nat) : Ers (PrimR F d) := by
  intro s e h
  rcases h with ⟨_, h⟩ | ⟨hw, h⟩ | ⟨k, hw, _, h⟩ | ⟨_, _, q⟩
  · exact ers_bind (ers_enter d) (ers_bind hF (ers_expect 41)) s e h
  · exact ers_bind ers_maker (ers_bind (ers_bran hF d) (fun s e h => by cases h)) s e h
  · exact ers_bind ers_maker (ers_arg k) s e h
  · cases q; simp
theorem ers_fil : ∀ d, Ers (FilR d)
  | 0 => ers_join (ers_join (ers_prim (fun _ _ q => q.elim) 0))
  | d + 1 => ers_join (ers_join (ers_prim (ers_fil d) (d + 1)))

/-- What impl.ParseFilter hands back. -/
def PfR (base : Nat) (t : List UInt8) (v : Value) (w' : World) : Prop := ∃ (c a : Int) (nv : Value), v = .agg #[.int .i64 c, .int .i64 a, nv] ∧
  ((4000 < t.length ∧ c = 1 ∧ a = 0 ∧ nv = .slice none 0 0) ∨
   (t.length ≤ 4000 ∧ ∃ ks, LexR t 0 ks ∧ ((∃ s1 : Ps, ParR ks (.ok s1) ∧ c = 0 ∧ a = 0 ∧ w'.ownsRow base 65 7 nv s1.out.length (cellsN s1.out) ∧ s1.out.length ≤ 200000) ∨ (∃ p : Nat, ParR ks (.error (c, p)) ∧ a = (p : Int) ∧ 1 ≤ c ∧ nv = .slice none 0 0))))
def PfP (t : List UInt8) (w : World) (e : Ending) (w' : World) : Prop := ∃ v, e = .returned v ∧ Below w.heap.size w w' ∧ PfR w.heap.size t v w'
set_option maxHeartbeats 4000000 in
theorem pf_catch (base rb : Nat) (c a : Int) (older : List PanicEntry) (w : World) (hc : ¬ c = 0) (hr : BoxAt w base 27 3 rb [.int .i64 0, .int .i64 0, .slice none 0 0]) :
    CallsD Tryz.prog 23 #[.pointer (some ⟨rb, 0, none⟩)] (.panicking ({ v := pfV c a, recovered := false } :: older)) w fun e u' w' =>
      e = .returned (.tuple #[]) ∧ u' = .panicking ({ v := pfV c a, recovered := true } :: older) ∧ BoxAt w' base 27 3 rb [.int .i64 c, .int .i64 a, .slice none 0 0] ∧ Chg (fun k => k = rb) w w' := by
  refine callsD_of_wpS Tryz.func23 rfl fun c₀ cs hu => ?_
  apply wpS_seq
  apply wpS_region
  simp [wpOpsS, go_sem, recoverD, hu, Tryz.ntmps23, Exit.thenS]
  refine (pfOf_pf c a w).mono ?_
  rintro e w1 ⟨rfl, hb1⟩
  simp [wpOpsS, go_sem]
  have ht : #[Value.pointer (some ⟨rb, 0, none⟩)] ++ (((Array.replicate 11 undef).setIfInBounds 1 (pfV c a)).setIfInBounds 2 (Value.agg #[Value.int IntKind.i64 c, Value.int IntKind.i64 a])).setIfInBounds 0 (Value.pointer (some ⟨w1.heap.size, 0, none⟩)) = #[.pointer (some ⟨rb, 0, none⟩), .pointer (some ⟨w1.heap.size, 0, none⟩), pfV c a, .agg #[.int .i64 c, .int .i64 a], undef, undef, undef, undef, undef, undef, undef, undef] := by rfl
  rw [ht]
  clear ht
  obtain ⟨W2, hW2⟩ : ∃ W2 : World, W2 = w1.alloc (Obj.cells #[.int .i64 c, .int .i64 a] 46) := ⟨_, rfl⟩
  have hb2 : Below w1.heap.size w1 W2 := by rw [hW2]; exact (Below.refl _ _).alloc (Nat.le_refl _) _
  have HB : Hid (BoxAt W2 base 27 3 rb [.int .i64 0, .int .i64 0, .slice none 0 0] ∧ Chg (fun k => k = rb) w W2) :=
    ⟨(hr.below hb1).below hb2, (Chg.of_below hb1).trans (Chg.of_below hb2)⟩
  have d0 : W2.cell? ⟨w1.heap.size, 0, none⟩ = some (.int .i64 c) := by rw [hW2]; simp
  have d1 : W2.cell? ⟨w1.heap.size, 1, none⟩ = some (.int .i64 a) := by rw [hW2]; simp
  have hrl := (hr.below hb1).lt.2
  obtain ⟨FB, hFB⟩ : ∃ FB, FB = w1.heap.size := ⟨_, rfl⟩
  rw [← hW2]
  rw [← hFB] at d0 d1 ⊢
  have n1 : ¬ FB = rb := by omega
  clear hW2 hFB hb1 hb2 hr hrl
  have e0 := HB.out.1.cell (j := 0) rfl
  have e1 := HB.out.1.cell (j := 1) rfl
  have e2 := HB.out.1.cell (j := 2) rfl
  have f0 := HB.out.1.frozen 0
  have f1 := HB.out.1.frozen 1
  have f2 := HB.out.1.frozen 2
  obtain ⟨W3, hW3⟩ : ∃ V : World, V = ((W2.setCell ⟨rb, 0, none⟩ (.int .i64 c)).setCell ⟨rb, 1, none⟩ (.int .i64 a)).setCell ⟨rb, 2, none⟩ (.slice none 0 0) := ⟨_, rfl⟩
  have HW3 : Hid (BoxAt W3 base 27 3 rb [.int .i64 c, .int .i64 a, .slice none 0 0] ∧ Chg (fun k => k = rb) w W3) := by
    rw [hW3]
    exact ⟨((HB.out.1.set 0 (.int .i64 c)).set 1 (.int .i64 a)).set 2 (.slice none 0 0), ((HB.out.2.trans (Chg.of_set _ rb 0 _ rfl)).trans (Chg.of_set _ rb 1 _ rfl)).trans (Chg.of_set _ rb 2 _ rfl)⟩
  refine wpS_of_wp ?_
  go_wp2_with fail
  rw [← hW3]
  exact ⟨rfl, _, rfl, _, by simp [results, Tryz.results23], rfl, rfl, HW3.out.1, HW3.out.2⟩
set_option maxHeartbeats 4000000 in
theorem pf_idle (rb : Nat) (w : World) :
    CallsD Tryz.prog 23 #[.pointer (some ⟨rb, 0, none⟩)] .returning w fun e u' w' => e = .returned (.tuple #[]) ∧ u' = .returning ∧ Below w.heap.size w w' := by
  refine callsD_of_wpS Tryz.func23 rfl fun c₀ cs hu => ?_
  apply wpS_seq
  apply wpS_region
  simp [wpOpsS, go_sem, recoverD, hu, Tryz.ntmps23, Exit.thenS]
  refine (pfOf_nil w).mono ?_
  rintro e w1 ⟨rfl, hb1⟩
  simp [wpOpsS, go_sem]
  have ht : #[Value.pointer (some ⟨rb, 0, none⟩)] ++ (((Array.replicate 11 undef).setIfInBounds 1 .nilIface).setIfInBounds 2 (Value.agg #[Value.int IntKind.i64 0, Value.int IntKind.i64 0])).setIfInBounds 0 (Value.pointer (some ⟨w1.heap.size, 0, none⟩)) = #[.pointer (some ⟨rb, 0, none⟩), .pointer (some ⟨w1.heap.size, 0, none⟩), .nilIface, .agg #[.int .i64 0, .int .i64 0], undef, undef, undef, undef, undef, undef, undef, undef] := by rfl
  rw [ht]
  clear ht
  have HB : Hid (Below w.heap.size w (w1.alloc (Obj.cells #[.int .i64 0, .int .i64 0] 46))) := hb1.trans ((Below.refl _ _).alloc hb1.size _)
  clear hb1
  refine wpS_of_wp ?_
  go_wp2_with fail
  refine ⟨rfl, .returning, ?_, _, by simp [results, Tryz.results23], rfl, rfl, HB.out⟩
  cases c₀
  simp_all
theorem pf_res {base rb : Nat} {w : World} {a : Act} {x y : Value} {sa : Option Addr} {sn sc : Nat} (ht : a.tmps.getD 2 undef = .pointer (some ⟨rb, 0, none⟩)) (hr : BoxAt w base 27 3 rb [x, y, .slice sa sn sc]) :
    (results Tryz.f8 a.tmps).run Tryz.prog w = .ok (.agg #[x, y, .slice sa sn sc]) w := by
  have p0 := hr.cell (j := 0) rfl
  have p1 := hr.cell (j := 1) rfl
  have p2 := hr.cell (j := 2) rfl
  have h1 : a.tmps[2]?.getD undef = .pointer (some ⟨rb, 0, none⟩) := by rw [← Array.getD_eq_getD_getElem?]; exact ht
  simp [results, Tryz.results8, go_sem, h1, p0, p1, p2]
theorem pf_dies (t : List UInt8) (w wq : World) (a : Act) (c : Int) (k rb : Nat) {ks : List Tk} (hrb : w.heap.size ≤ rb) (hd : a.defers = [{ target := Target.fn (Fn.func 23) #[.pointer (some ⟨rb, 0, none⟩)], args := #[] }])
    (ht : a.tmps.getD 2 undef = .pointer (some ⟨rb, 0, none⟩)) (hl : t.length ≤ 4000) (hL : LexR t 0 ks) (hP : ParR ks (.error (c, k))) (hc : 1 ≤ c) (hr : BoxAt wq w.heap.size 27 3 rb [.int .i64 0, .int .i64 0, .slice none 0 0]) (hB : Below w.heap.size w wq) :
    bodyPostD Tryz.prog Tryz.f8 (fun e w' => PfP t w e w') (.panic [{ v := pfV c k, recovered := false }]) a wq := by
  show Leaves Tryz.prog Tryz.f8 a.tmps (fun e w' => PfP t w e w') a.defers (.panicking [{ v := pfV c k, recovered := false }]) wq
  rw [hd]
  refine leaves_cons (f := 23) (args := #[.pointer (some ⟨rb, 0, none⟩)]) (by simp) (by simp [go_sem]) ?_
  refine (pf_catch w.heap.size rb c k [] wq (by omega) hr).mono ?_
  rintro e u' w'' ⟨rfl, rfl, hr2, hC⟩
  show Leaves Tryz.prog Tryz.f8 a.tmps (fun e w' => PfP t w e w') [] (settle (.panicking [{ v := pfV c k, recovered := true }])) _
  exact ⟨_, pf_res ht hr2, _, rfl, Chg.below hB hC hB.size (fun j q => by omega), c, k, .slice none 0 0, rfl, .inr ⟨hl, ks, hL, .inr ⟨k, hP, rfl, hc, rfl⟩⟩⟩
theorem pf_done (t : List UInt8) (w wq : World) (a : Act) (rb : Nat) {ks : List Tk} {s1 : Ps} {sa : Option Addr} {sn sc : Nat} (hd : a.defers = [{ target := Target.fn (Fn.func 23) #[.pointer (some ⟨rb, 0, none⟩)], args := #[] }])
    (ht : a.tmps.getD 2 undef = .pointer (some ⟨rb, 0, none⟩)) (hl : t.length ≤ 4000) (hL : LexR t 0 ks) (hP : ParR ks (.ok s1)) (hO : wq.ownsRow w.heap.size 65 7 (.slice sa sn sc) s1.out.length (cellsN s1.out)) (h2 : s1.out.length ≤ 200000) (hr : BoxAt wq w.heap.size 27 3 rb [.int .i64 0, .int .i64 0, .slice sa sn sc]) (hB : Below w.heap.size w wq) :
    bodyPostD Tryz.prog Tryz.f8 (fun e w' => PfP t w e w') .ret a wq := by
  show Leaves Tryz.prog Tryz.f8 a.tmps (fun e w' => PfP t w e w') a.defers .returning wq
  rw [hd]
  refine leaves_cons (f := 23) (args := #[.pointer (some ⟨rb, 0, none⟩)]) (by simp) (by simp [go_sem]) ?_
  refine (pf_idle rb wq).mono ?_
  rintro e u' w'' ⟨rfl, rfl, hb⟩
  show Leaves Tryz.prog Tryz.f8 a.tmps (fun e w' => PfP t w e w') [] (settle .returning) w''
  exact ⟨_, pf_res ht (hr.below hb), _, rfl, hB.trans (hb.mono hB.size), 0, 0, _, rfl, .inr ⟨hl, ks, hL, .inl ⟨s1, hP, rfl, rfl, own_chg (S := fun _ => False) hO (Chg.of_below hb) (fun _ _ q => q), h2⟩⟩⟩
set_option maxHeartbeats 8000000 in
theorem implParse_core {b off n cap : Nat} {t : List UInt8} {w : World} (hT : BysAt w b off t) (hb : b < w.heap.size) (hn : n = t.length) (hl : n ≤ 2 ^ 40) (hc : n ≤ cap) (hcm : cap ≤ maxLen) (hG : 7 ≤ w.heap.size) (hW : WdsAt w) (hE : ErrAt w) :
    Calls Tryz.prog 8 #[.slice (some ⟨b, off, none⟩) n cap] w (fun e w' => PfP t w e w') := by
  have hmf : ∀ (fn : Fn) (first cap : Array Value) (w : World), (Instr.makeFunc fn first cap).run Tryz.prog w = .ok (.func fn first cap) w := fun _ _ _ _ => rfl
  have HN : Hid (n = t.length) := hn
  obtain ⟨W0, hW0⟩ : ∃ W0 : World, W0 = w.alloc (Obj.cells #[.int .i64 0, .int .i64 0, .slice none 0 0] 27) := ⟨_, rfl⟩
  have b0 : Below w.heap.size w W0 := by rw [hW0]; exact (Below.refl _ _).alloc (Nat.le_refl _) _
  have HB0 : Hid (BoxAt W0 w.heap.size 27 3 w.heap.size [.int .i64 0, .int .i64 0, .slice none 0 0] ∧ Below w.heap.size w W0 ∧ W0.heap.size = w.heap.size + 1) := ⟨by rw [hW0]; exact boxAt_new w _ (Nat.le_refl _) rfl, b0, by rw [hW0]; simp⟩
  by_cases hlong : 4000 < n
  · have z : ¬ (n : Int) ≤ 4000 := by omega
    have z2 : (4000 : Int) < (n : Int) := by omega
    go_enter_defers Tryz.func8, Tryz.ntmps8
    go_upto_region 1 with fail
    rw [← hW0]
    clear hW0
    have e0 := HB0.out.1.cell (j := 0) rfl
    have e1 := HB0.out.1.cell (j := 1) rfl
    have e2 := HB0.out.1.cell (j := 2) rfl
    have f0 := HB0.out.1.frozen 0
    have f1 := HB0.out.1.frozen 1
    have f2 := HB0.out.1.frozen 2
    obtain ⟨W3, hW3⟩ : ∃ V : World, V = ((W0.setCell ⟨w.heap.size, 0, none⟩ (.int .i64 1)).setCell ⟨w.heap.size, 1, none⟩ (.int .i64 0)).setCell ⟨w.heap.size, 2, none⟩ (.slice none 0 0) := ⟨_, rfl⟩
    have HW3 : Hid (BoxAt W3 w.heap.size 27 3 w.heap.size [.int .i64 1, .int .i64 0, .slice none 0 0] ∧ Below w.heap.size w W3) := by
      rw [hW3]
      exact ⟨((HB0.out.1.set 0 (.int .i64 1)).set 1 (.int .i64 0)).set 2 (.slice none 0 0), below_set (below_set (below_set HB0.out.2.1 (Nat.le_refl _) 0 _) (Nat.le_refl _) 1 _) (Nat.le_refl _) 2 _⟩
    go_wp2_with fail
    rw [← hW3]
    show Leaves Tryz.prog Tryz.f8 _ (fun e w' => PfP t w e w') [] .returning W3
    exact ⟨_, pf_res (a := { tmps := _, defers := [] }) rfl HW3.out.1, _, rfl, HW3.out.2, 1, 0, _, rfl, .inl ⟨by rw [← HN.out]; exact hlong, rfl, rfl, rfl⟩⟩
  have hn4 : n ≤ 4000 := by omega
  have z : (n : Int) ≤ 4000 := by omega
  obtain ⟨ks, hL⟩ := lexR_ex t.length t 0 (Nat.le_refl _)
  obtain ⟨W1, hW1⟩ : ∃ V : World, V = W0.alloc (Obj.cells #[.slice (some ⟨b, off, none⟩) n cap, .int .i64 0, .int .u8 0, .int .i64 0, .int .i64 0, .int .u64 0, .string ⟨#[]⟩, .int .i64 0, .int .i64 0, .slice none 0 0] 54) := ⟨_, rfl⟩
  have b1 : Below W0.heap.size W0 W1 := by rw [hW1]; exact (Below.refl _ _).alloc (Nat.le_refl _) _
  have bw1 : Below w.heap.size w W1 := b0.trans (b1.mono b0.size)
  have hz0 := HB0.out.2.2
  have hS0 : FpS w.heap.size b off n cap t w := ⟨hT, hb, hG, Nat.le_refl _, hW, hE, hn, by omega, hc, hcm⟩
  have H1 : Hid (BoxAt W1 w.heap.size 27 3 w.heap.size [.int .i64 0, .int .i64 0, .slice none 0 0] ∧ FpS w.heap.size b off n cap t W1 ∧ FsAt W1 w.heap.size (w.heap.size + 1) b off n cap 0 (fpL ⟨.fin, 0⟩ 0 0 (.slice none 0 0)) ∧ Below w.heap.size w W1 ∧ W1.heap.size = w.heap.size + 2 ∧ LexR t 0 ks ∧ t.length ≤ 4000) :=
    ⟨HB0.out.1.below b1, hS0.up bw1, by rw [hW1, ← hz0]; exact boxAt_new W0 #[.slice (some ⟨b, off, none⟩) n cap, .int .i64 0, .int .u8 0, .int .i64 0, .int .i64 0, .int .u64 0, .string ⟨#[]⟩, .int .i64 0, .int .i64 0, .slice none 0 0] (by omega) rfl, bw1, by rw [hW1]; simp; omega, hL, by omega⟩
  have HNx : Hid (Calls Tryz.prog 25 #[.pointer (some ⟨w.heap.size + 1, 0, none⟩)] W1 (NxtP w.heap.size (w.heap.size + 1) b off n cap (fpL ⟨.fin, 0⟩ 0 0 (.slice none 0 0)) t ks W1)) := by
    have h8 := H1.out.2.1
    exact next_core (i := 0) H1.out.2.2.1 h8.bys (by have := h8.bl; have := H1.out.2.2.2.2.1; omega) h8.nt h8.nl h8.nc h8.cm (Nat.zero_le _) ⟨by have := H1.out.2.2.2.2.1; omega, by omega, by have := h8.lo; omega, by have := h8.lo; have := h8.sz; omega⟩ h8.wds h8.err hL
  clear hT hb hG hW hE hn hl hc hcm b0 b1 bw1 hS0 hL HB0
  go_enter_defers Tryz.func8, Tryz.ntmps8
  go_upto_region 1 with fail
  rw [← hW0]
  clear hW0
  go_upto_region 5 with fail
  rw [← hW1]
  clear hW1 hz0
  go_wp2_with fail
  refine HNx.out.mono ?_
  clear HNx
  rintro e w2 ⟨Hc2, (⟨hbd, rfl⟩ | ⟨hbd, k, ks2, hk, rfl, p2, hfs, hp2, hlx⟩)⟩
  · exact pf_dies t w w2 _ 2 (hdA ks) w.heap.size (Nat.le_refl _) rfl rfl H1.out.2.2.2.2.2.2 H1.out.2.2.2.2.2.1 (.inl ⟨hbd, rfl⟩) (by decide) (H1.out.1.chg Hc2.out (by omega)) (Chg.below H1.out.2.2.2.1 Hc2.out H1.out.2.2.2.1.size (fun j q => by omega))
  have i0 := hfs.cell (j := 2) rfl
  have i1 := hfs.cell (j := 3) rfl
  have i2 := hfs.cell (j := 4) rfl
  have i3 := hfs.cell (j := 5) rfl
  have i4 := hfs.cell (j := 6) rfl
  have z0 := hfs.frozen 2
  have z1 := hfs.frozen 3
  have z2 := hfs.frozen 4
  have z3 := hfs.frozen 5
  have z4 := hfs.frozen 6
  obtain ⟨W3, hW3⟩ : ∃ V : World, V = setQ w2 (w.heap.size + 1) (.int .u8 ((ftB k.k).toNat : Int)) (.int .i64 (k.pos : Int)) (.int .i64 k.k.wd) (.int .u64 k.k.nm) (.string k.k.txt) := ⟨_, rfl⟩
  have hc3 : Chg (fun q => q = w.heap.size + 1) w2 W3 := by rw [hW3]; exact chg_setQ _ _ _ _ _ _ _
  have hc13 : Chg (fun q => q = w.heap.size + 1) W1 W3 := Hc2.out.trans hc3
  have H3 : Hid (BoxAt W3 w.heap.size 27 3 w.heap.size [.int .i64 0, .int .i64 0, .slice none 0 0] ∧ FpS w.heap.size b off n cap t W3 ∧ Fp w.heap.size (w.heap.size + 1) b off n cap t 20 ⟨ks, 0, []⟩ k ks2 p2 (.slice none 0 0) W3 ∧ Below w.heap.size w W3 ∧ (hdK ks).isBad = false ∧ LexR t 0 ks ∧ t.length ≤ 4000) := by
    have hks := H1.out.2.2.2.2.2.1
    refine ⟨H1.out.1.chg hc13 (by omega), H1.out.2.1.chg hc13 (fun q z => by omega), ⟨hk, by rw [hW3]; exact FsAt.setQ hfs, hp2, hlx, by rw [hk] at hbd; exact hbd, by have := hks.toks; rw [hk] at this; exact this, by simp, by decide, ⟨rfl, .inl ⟨rfl, rfl⟩⟩, (fun q hq => by cases hq), by have := hks.len.1; have := H1.out.2.2.2.2.2.2; simp; omega⟩, Chg.below H1.out.2.2.2.1 hc13 H1.out.2.2.2.1.size (fun j q => by omega), hbd, hks, H1.out.2.2.2.2.2.2⟩
  clear hbd hk hfs hp2 hlx hc3 hc13 H1 Hc2
  unfold setQ at hW3
  go_upto_region 6 with fail
  rw [← hW3]
  clear hW3 i0 i1 i2 i3 i4 z0 z1 z2 z3 z4
  have HFi : Hid (Calls Tryz.prog 26 #[.pointer (some ⟨w.heap.size + 1, 0, none⟩)] W3 (FpO w.heap.size (w.heap.size + 1) b off n cap t 20 (FilR 20 ⟨ks, 0, []⟩) (.tuple #[]) (.slice none 0 0) W3)) := fil_of w.heap.size (w.heap.size + 1) b off n cap t 20 W3 ⟨ks, 0, []⟩ k ks2 p2 (.slice none 0 0) H3.out.2.1 H3.out.2.2.1
  go_wp2_with fail
  refine HFi.out.mono ?_
  clear HFi
  rintro e w4 ⟨Hc4, (⟨s4, hs4, rfl, k4, ks4, p4, nv4, hF4, hn4'⟩ | ⟨c, a, hs4, rfl⟩)⟩
  case inr =>
    have hn1 : ¬ (w.heap.size = w.heap.size + 1 ∨ (Value.slice none 0 0).ownBlock = some w.heap.size) := fun z => by
      rcases z with q | q
      · omega
      · cases q
    have hn2 : ∀ j, (j = w.heap.size + 1 ∨ (Value.slice none 0 0).ownBlock = some j) → w.heap.size ≤ j := fun j z => by
      rcases z with q | q
      · omega
      · cases q
    exact pf_dies t w w4 _ c a w.heap.size (Nat.le_refl _) rfl rfl H3.out.2.2.2.2.2.2 H3.out.2.2.2.2.2.1 (.inr ⟨H3.out.2.2.2.2.1, .inl ⟨_, hs4, rfl⟩⟩) (ers_fil 20 _ _ hs4) (H3.out.1.chg Hc4.out hn1) (Chg.below H3.out.2.2.2.1 Hc4.out H3.out.2.2.2.1.size hn2)
  obtain ⟨a4, m4, c4, rfl⟩ := hF4.form
  have H4 : Hid (BoxAt w4 w.heap.size 27 3 w.heap.size [.int .i64 0, .int .i64 0, .slice none 0 0] ∧ Fp w.heap.size (w.heap.size + 1) b off n cap t 20 s4 k4 ks4 p4 (.slice a4 m4 c4) w4 ∧ Below w.heap.size w w4 ∧ (FilR 20 ⟨ks, 0, []⟩ (.ok s4)) ∧ (∀ q, (Value.slice a4 m4 c4).ownBlock = some q → ¬ q = w.heap.size)) := by
    have hsz := H3.out.2.2.1.fs.lt.2
    have hn1 : ¬ (w.heap.size = w.heap.size + 1 ∨ (Value.slice none 0 0).ownBlock = some w.heap.size) := fun z => by
      rcases z with q | q
      · omega
      · cases q
    have hn2 : ∀ j, (j = w.heap.size + 1 ∨ (Value.slice none 0 0).ownBlock = some j) → w.heap.size ≤ j := fun j z => by
      rcases z with q | q
      · omega
      · cases q
    refine ⟨H3.out.1.chg Hc4.out hn1, hF4, Chg.below H3.out.2.2.2.1 Hc4.out H3.out.2.2.2.1.size hn2, hs4, fun q hq => ?_⟩
    rcases hn4' q hq with y | y
    · cases y
    · omega
  clear hs4 hF4 hn4' Hc4
  have cK := H4.out.2.1.fs.cell (j := 2) rfl
  have cN := H4.out.2.1.fs.cell (j := 9) rfl
  have hkn := H4.out.2.1.kinds
  cases hfin : k4.k.isFin
  case false =>
    have zk : (((ftB k4.k).toNat : Int) == 0) = false := by
      cases hq : k4.k with
      | fin => rw [hq] at hfin; cases hfin
      | sign c =>
        rw [hq] at hkn
        rcases hkn with q | q
        · rcases q with rfl | rfl | rfl | rfl | rfl | rfl <;> rfl
        · cases q
      | num _ => rfl
      | str _ => rfl
      | word _ => rfl
      | bad => rw [hq] at hkn; rcases hkn with q | q <;> cases q
    have HE2 : Hid (ParR ks (.error (3, k4.pos))) := .inr ⟨H3.out.2.2.2.2.1, .inr ⟨s4, H4.out.2.2.2.1, by
      show _ = endF s4
      unfold endF
      rw [H4.out.2.1.eq]
      rw [if_neg (by show ¬ k4.k.isFin = true; rw [hfin]; simp)]
      rfl⟩⟩
    obtain ⟨kb, hkb⟩ : ∃ kb : Int, kb = ((ftB k4.k).toNat : Int) := ⟨_, rfl⟩
    rw [← hkb] at zk cK
    clear hfin hkn hkb
    go_wp2_with fail
    refine (fdem_no H4.out.2.1 3).mono ?_
    rintro e w5 ⟨rfl, hw5⟩
    rw [hw5]
    exact pf_dies t w w4 _ 3 k4.pos w.heap.size (Nat.le_refl _) rfl rfl H3.out.2.2.2.2.2.2 H3.out.2.2.2.2.2.1 HE2.out (by decide) H4.out.1 H4.out.2.2.1
  have HOk : Hid (ParR ks (.ok s4)) := .inr ⟨H3.out.2.2.2.2.1, .inr ⟨s4, H4.out.2.2.2.1, by
      show _ = endF s4
      unfold endF
      rw [H4.out.2.1.eq]
      rw [if_pos (by exact hfin)]⟩⟩
  rw [show ftB k4.k = 0 from by
    cases hq : k4.k with
    | fin => rfl
    | bad => rfl
    | sign c => rw [hq] at hfin; cases hfin
    | num _ => rw [hq] at hfin; cases hfin
    | str _ => rw [hq] at hfin; cases hfin
    | word _ => rw [hq] at hfin; cases hfin] at cK
  clear hfin hkn
  go_wp2_with fail
  refine (fdem_yes _ 3 w4).mono ?_
  rintro e w5 ⟨rfl, hw5⟩
  rw [hw5]
  clear hw5
  have e0 := H4.out.1.cell (j := 0) rfl
  have e1 := H4.out.1.cell (j := 1) rfl
  have e2 := H4.out.1.cell (j := 2) rfl
  have f0 := H4.out.1.frozen 0
  have f1 := H4.out.1.frozen 1
  have f2 := H4.out.1.frozen 2
  obtain ⟨W6, hW6⟩ : ∃ V : World, V = ((w4.setCell ⟨w.heap.size, 0, none⟩ (.int .i64 0)).setCell ⟨w.heap.size, 1, none⟩ (.int .i64 0)).setCell ⟨w.heap.size, 2, none⟩ (.slice a4 m4 c4) := ⟨_, rfl⟩
  have HW6 : Hid (BoxAt W6 w.heap.size 27 3 w.heap.size [.int .i64 0, .int .i64 0, .slice a4 m4 c4] ∧ Below w.heap.size w W6 ∧ W6.ownsRow w.heap.size 65 7 (.slice a4 m4 c4) s4.out.length (cellsN s4.out) ∧ s4.out.length ≤ 200000) := by
    have hc : Chg (fun q => q = w.heap.size) w4 W6 := by rw [hW6]; exact ((Chg.of_set (S := fun q => q = w.heap.size) _ w.heap.size 0 _ rfl).trans (Chg.of_set (S := fun q => q = w.heap.size) _ w.heap.size 1 _ rfl)).trans (Chg.of_set (S := fun q => q = w.heap.size) _ w.heap.size 2 _ rfl)
    refine ⟨by rw [hW6]; exact ((H4.out.1.set 0 (.int .i64 0)).set 1 (.int .i64 0)).set 2 (.slice a4 m4 c4), by rw [hW6]; exact below_set (below_set (below_set H4.out.2.2.1 (Nat.le_refl _) 0 _) (Nat.le_refl _) 1 _) (Nat.le_refl _) 2 _, own_chg H4.out.2.1.nds hc (fun q hq => H4.out.2.2.2.2 q hq), by have := H4.out.2.1.ol; omega⟩
  clear cK
  go_wp2_with fail
  rw [← hW6]
  exact pf_done t w W6 _ w.heap.size rfl rfl H3.out.2.2.2.2.2.2 H3.out.2.2.2.2.2.1 HOk.out HW6.out.2.2.1 HW6.out.2.2.2 HW6.out.1 HW6.out.2.1
end Go.Proofs.YtgnpcenpcmdlfaaGreatDoor

/-
  The marks, looked for.
-/
namespace Go.Proofs.YtgnpcenpcmdlfaaGreatDoor
open Go.ChangeShapes Go.WideShapes Go.ChangeAt Go.RowKit Go.Deep
set_option linter.unusedVariables false

theorem markText_in (W0 : World) (a : Int) (w : World) (hb : Below W0.heap.size W0 w) (h0 : 0 < a) (h1 : a ≤ 2 ^ 40) :
    Calls Tryz.prog 98 #[.int .i64 a] w fun e w' => e = .returned (.string (mText a.toNat)) ∧ Below W0.heap.size W0 w' := by
  refine (markText_any a w h0 h1).mono ?_
  rintro e w' ⟨he, hb'⟩
  exact ⟨he, hb.trans (hb'.mono hb.size)⟩

end Go.Proofs.YtgnpcenpcmdlfaaGreatDoor

/-
  Nodes with marks: markNodeS, heldNodeS, markFilter, heldFilter.
-/
namespace Go.Proofs.YtgnpcenpcmdlfaaGreatDoor
open Go.ChangeShapes Go.WideShapes Go.ChangeAt Go.RowKit Go.Deep
set_option linter.unusedVariables false
set_option linter.unusedSimpArgs false
set_option maxRecDepth 100000

/-- Whether a third mark. -/
def thirdB (k : Int) : Bool := k % 3 == 0
/-- The node that the marks from 'k' on make. -/
def mNd (k : Int) : Nd := ⟨k, mText (k + 1).toNat, thirdB (k + 1 + 1), mText (k + 1 + 1 + 1).toNat, k + 1 + 1 + 1 + 1, k + 1 + 1 + 1 + 1 + 1, k + 1 + 1 + 1 + 1 + 1 + 1⟩
/-- The first 'i' of the nodes are marked, from 'k' on. -/
def markedN (k : Int) (es : List Nd) (i : Nat) : Prop := ∀ j : Nat, j < i → es[j]? = some (mNd (k + j * 7))
theorem OwnNd.upd {w : World} {base g cap m j : Nat} {fs : List Nd} {f f' : Nd} {u : Value} (h : OwnNd w base g cap (fs.set m f)) (hm : m < fs.length) (hj : j < 7) (hc : f'.seven = f.seven.set j u) :
    OwnNd (w.setCell ⟨g, m * 7 + j, none⟩ u) base g cap (fs.set m f') := by
  have := h.set m j f f' u (by simp [hm]) hj hc
  rwa [List.set_set] at this
theorem markedN_set {k : Int} {fs : List Nd} {m : Nat} (h : markedN k fs m) (hm : m < fs.length) : markedN k (fs.set m (mNd (k + m * 7))) (m + 1) := by
  intro j hj
  by_cases e : j = m
  · subst e; simp [hm]
  · rw [List.getElem?_set_ne (by omega)]; exact h j (by omega)
set_option maxHeartbeats 2000000 in
theorem markNodeS_core (base g cap : Nat) (es : List Nd) (k : Int) (w : World) (hO : OwnNd w base g cap es) (h0 : 0 < k) (h1 : k ≤ 2 ^ 30) (hn : es.length ≤ 1048576) :
    Calls Tryz.prog 66 #[.slice (some ⟨g, 0, none⟩) es.length cap, .int .i64 k] w fun e w' =>
      ∃ fs, e = .returned (.int .i64 (k + es.length * 7)) ∧ OwnNd w' base g cap fs ∧ fs.length = es.length ∧ markedN k fs es.length ∧ w.grownBy w' (some g) := by
  have HO : Hid (OwnNd w base g cap es) := hO
  clear hO
  go_enter Tryz.func66, Tryz.ntmps66
  go_wp2
  go_loopw [1, 5] (fun c i wr => ∃ (m : Nat) (a : Int) (fs : List Nd), m ≤ es.length ∧ i = .int .i64 m ∧ c = .int .i64 a ∧ a = k + m * 7 ∧ OwnNd wr base g cap fs ∧ fs.length = es.length ∧ markedN k fs m ∧ w.grownBy wr (some g)) (fun _ i _ => es.length - (intOf i).toNat)
  case atStart => exact ⟨0, k, es, Nat.zero_le _, rfl, rfl, by simp, HO.out, rfl, fun j hj => by omega, grown_of_below (Below.refl _ _) _⟩
  case round =>
    obtain ⟨m, a, fs, hm, rfl, rfl, ha, hO, hfl, hmk, hgr⟩ := hrel
    have HR : Hid (a = k + m * 7 ∧ OwnNd wr base g cap fs ∧ fs.length = es.length ∧ markedN k fs m) := ⟨ha, hO, hfl, hmk⟩
    have ha0 : 0 < a := by omega
    have ha1 : a ≤ 2 ^ 31 := by omega
    have HG : Hid (w.grownBy wr (some g)) := hgr
    clear hO hfl hmk ha hgr
    by_cases hlt : m < es.length
    · obtain ⟨f, hf⟩ : ∃ f, fs[m]? = some f := ⟨_, List.getElem?_eq_getElem (by rw [HR.out.2.2.1]; exact hlt)⟩
      have HF : Hid (fs[m]? = some f ∧ m < fs.length) := ⟨hf, by rw [HR.out.2.2.1]; exact hlt⟩
      clear hf
      have c0 := (HR.out.2.1.at m f HF.out.1).1
      simp only [Nat.zero_add] at c0
      have z0 := fun j => World.ownsRow.frozenAt HR.out.2.1 j
      have H0 : Hid (OwnNd (wr.setCell ⟨g, m * 7, none⟩ (.int .i64 a)) base g cap (fs.set m { f with kind := a }) ∧ w.grownBy (wr.setCell ⟨g, m * 7, none⟩ (.int .i64 a)) (some g)) :=
        ⟨HR.out.2.1.set m 0 f { f with kind := a } (.int .i64 a) HF.out.1 (by omega) rfl, HG.out.trans (grown_set _ _ _ _)⟩
      go_wp2_with fail
      refine (markText_any (a + 1) _ (by omega) (by omega)).mono ?_
      rintro e w1 ⟨rfl, hb1⟩
      have hO1 := H0.out.1.below hb1 H0.out.1.lt.2
      obtain ⟨_, c1, c2, _⟩ := hO1.at m _ (by simp [HF.out.2]; rfl)
      simp only [Nat.zero_add] at c1 c2
      have z1 := fun j => World.ownsRow.frozenAt hO1 j
      have hO2 := (hO1.upd (j := 1) (u := .string (mText (a + 1).toNat)) (f' := { f with kind := a, s := mText (a + 1).toNat }) HF.out.2 (by omega) rfl).upd (j := 2) (u := .bool ((a + 1 + 1) % 3 == 0)) (f' := { f with kind := a, s := mText (a + 1).toNat, hi := ((a + 1 + 1) % 3 == 0) }) HF.out.2 (by omega) rfl
      have H1 : Hid (OwnNd ((w1.setCell ⟨g, m * 7 + 1, none⟩ (.string (mText (a + 1).toNat))).setCell ⟨g, m * 7 + 2, none⟩ (.bool ((a + 1 + 1) % 3 == 0))) base g cap (fs.set m { f with kind := a, s := mText (a + 1).toNat, hi := ((a + 1 + 1) % 3 == 0) }) ∧ w.grownBy ((w1.setCell ⟨g, m * 7 + 1, none⟩ (.string (mText (a + 1).toNat))).setCell ⟨g, m * 7 + 2, none⟩ (.bool ((a + 1 + 1) % 3 == 0))) (some g)) :=
        ⟨hO2, ((H0.out.2.trans (grown_of_below hb1 _)).trans (grown_set _ _ _ _)).trans (grown_set _ _ _ _)⟩
      clear hO1 hO2 hb1 c0 z0
      go_wp2_with fail
      refine (markText_any (a + 1 + 1 + 1) _ (by omega) (by omega)).mono ?_
      rintro e w2 ⟨rfl, hb2⟩
      have hO3 := H1.out.1.below hb2 H1.out.1.lt.2
      obtain ⟨_, _, _, c3, c4, c5, c6⟩ := hO3.at m _ (by simp [HF.out.2]; rfl)
      simp only [Nat.zero_add] at c3 c4 c5 c6
      have z3 := fun j => World.ownsRow.frozenAt hO3 j
      have hO4 := (((hO3.upd (j := 3) (u := .string (mText (a + 1 + 1 + 1).toNat)) (f' := { f with kind := a, s := mText (a + 1).toNat, hi := ((a + 1 + 1) % 3 == 0), t := mText (a + 1 + 1 + 1).toNat }) HF.out.2 (by omega) rfl).upd (j := 4) (u := .int .u64 (a + 1 + 1 + 1 + 1))
        (f' := { f with kind := a, s := mText (a + 1).toNat, hi := ((a + 1 + 1) % 3 == 0), t := mText (a + 1 + 1 + 1).toNat, lo := a + 1 + 1 + 1 + 1 }) HF.out.2 (by omega) rfl).upd (j := 5) (u := .int .u64 (a + 1 + 1 + 1 + 1 + 1))
        (f' := { f with kind := a, s := mText (a + 1).toNat, hi := ((a + 1 + 1) % 3 == 0), t := mText (a + 1 + 1 + 1).toNat, lo := a + 1 + 1 + 1 + 1, up := a + 1 + 1 + 1 + 1 + 1 }) HF.out.2 (by omega) rfl).upd (j := 6) (u := .int .i64 (a + 1 + 1 + 1 + 1 + 1 + 1)) (f' := mNd a) HF.out.2 (by omega) rfl
      have hG4 := ((((H1.out.2.trans (grown_of_below hb2 _)).trans (grown_set w2 g (m * 7 + 3) (.string (mText (a + 1 + 1 + 1).toNat)))).trans (grown_set _ g (m * 7 + 4) (.int .u64 (a + 1 + 1 + 1 + 1)))).trans (grown_set _ g (m * 7 + 5) (.int .u64 (a + 1 + 1 + 1 + 1 + 1)))).trans (grown_set _ g (m * 7 + 6) (.int .i64 (a + 1 + 1 + 1 + 1 + 1 + 1)))
      have H4 : Hid (_ ∧ _) := ⟨hO4, hG4⟩
      have HE : Hid (a = k + m * 7) := HR.out.1
      clear hO3 hO4 hG4 hb2 c1 c2 z1
      go_wp2_with fail
      refine ⟨⟨m + 1, a + 1 + 1 + 1 + 1 + 1 + 1 + 1, fs.set m (mNd a), by omega, by go_num, rfl, ?_, H4.out.1, by rw [List.length_set]; exact HR.out.2.2.1, ?_, H4.out.2⟩, ?_⟩
      · go_light
        have := HE.out
        omega
      · go_light
        have := markedN_set HR.out.2.2.2 HF.out.2
        rw [← HE.out] at this
        exact this
      · go_light
        simp [intOf]; omega
    · go_wp2_with fail
      go_ret
      have e1 : m = es.length := by omega
      refine ⟨fs, ?_, HR.out.2.1, HR.out.2.2.1, ?_, HG.out⟩
      · rw [HR.out.1, e1]; rfl
      · rw [← e1]; exact HR.out.2.2.2
set_option maxHeartbeats 2000000 in
theorem heldNodeS_core (b off cap : Nat) (es : List Nd) (k : Int) (w : World) (hE : NdsAt w b off es) (hmk : markedN k es es.length) (hB : b < w.heap.size) (h0 : 0 < k) (h1 : k ≤ 2 ^ 30) (hn : es.length ≤ 1048576) :
    Calls Tryz.prog 67 #[.slice (some ⟨b, off, none⟩) es.length cap, .int .i64 k] w fun e w' =>
      e = .returned (.int .i64 (k + es.length * 7)) ∧ Below w.heap.size w w' := by
  have HE : Hid (NdsAt w b off es ∧ markedN k es es.length) := ⟨hE, hmk⟩
  clear hE hmk
  go_enter Tryz.func67, Tryz.ntmps67
  go_wp2
  go_loopw [1, 5] (fun c i wr => ∃ (m : Nat) (a : Int), m ≤ es.length ∧ i = .int .i64 m ∧ c = .int .i64 a ∧ a = k + m * 7 ∧ Below w.heap.size w wr) (fun _ i _ => es.length - (intOf i).toNat)
  case atStart => exact ⟨0, k, Nat.zero_le _, rfl, rfl, by simp, Below.refl _ _⟩
  case round =>
    obtain ⟨m, a, hm, rfl, rfl, ha, hb⟩ := hrel
    have ha0 : 0 < a := by omega
    have ha1 : a ≤ 2 ^ 31 := by omega
    have HA : Hid (a = k + m * 7) := ha
    clear ha
    have hs := hb.size
    by_cases hlt : m < es.length
    · have he : es[m]? = some (mNd a) := by rw [HA.out]; exact HE.out.2 m hlt
      have HM : Hid (es[m]? = some (mNd a)) := he
      clear he
      have z2 : (m : Int) < (es.length : Int) := by omega
      have HC : Hid (∀ wx, Below w.heap.size w wx → wx.cell? ⟨b, off + m * 7, none⟩ = some (.int .i64 a) ∧ wx.cell? ⟨b, off + m * 7 + 1, none⟩ = some (.string (mText (a + 1).toNat)) ∧ wx.cell? ⟨b, off + m * 7 + 2, none⟩ = some (.bool ((a + 1 + 1) % 3 == 0)) ∧ wx.cell? ⟨b, off + m * 7 + 3, none⟩ = some (.string (mText (a + 1 + 1 + 1).toNat)) ∧ wx.cell? ⟨b, off + m * 7 + 4, none⟩ = some (.int .u64 (a + 1 + 1 + 1 + 1)) ∧ wx.cell? ⟨b, off + m * 7 + 5, none⟩ = some (.int .u64 (a + 1 + 1 + 1 + 1 + 1)) ∧ wx.cell? ⟨b, off + m * 7 + 6, none⟩ = some (.int .i64 (a + 1 + 1 + 1 + 1 + 1 + 1))) := fun wx hx => (HE.out.1.below hx hB) m _ HM.out
      have c0 := (HC.out wr hb).1
      have c1 := (HC.out wr hb).2.1
      go_upto_region 7 with fail
      go_cut [28] (fun s wx => s = .bool false ∧ Below w.heap.size w wx)
      case first =>
        go_region_with (go_at_call 98; refine (markText_in w _ _ ?hB (by omega) (by omega)).mono ?_; (case hB => (repeat (first | assumption | refine Below.drew ?_))); rintro e' w' ⟨rfl, hbb⟩; have cx := (HC.out w' hbb).2.1)
        all_goals go_wp2_with fail
        all_goals go_meet
        all_goals exact ⟨rfl, by assumption⟩
      case rest =>
      obtain ⟨rfl, h2⟩ := hcut
      clear c0 c1
      obtain ⟨wa, rfl⟩ : ∃ wa : World, wa = wc := ⟨_, rfl⟩
      have c2 := (HC.out wa h2).2.2.1
      have c3 := (HC.out wa h2).2.2.2.1
      go_upto_region 13 with fail
      go_cut [49] (fun s wx => s = .bool false ∧ Below w.heap.size w wx)
      case first =>
        go_region_with (go_at_call 98; refine (markText_in w _ _ ?hB (by omega) (by omega)).mono ?_; (case hB => (repeat (first | assumption | refine Below.drew ?_))); rintro e' w' ⟨rfl, hbb⟩; have cx := (HC.out w' hbb).2.2.2.1)
        all_goals go_wp2_with fail
        all_goals go_meet
        all_goals exact ⟨rfl, by assumption⟩
      case rest =>
      obtain ⟨rfl, h3⟩ := hcut
      clear c2 c3
      obtain ⟨wb, rfl⟩ : ∃ wb : World, wb = wc := ⟨_, rfl⟩
      have c4 := (HC.out wb h3).2.2.2.2.1
      have c5 := (HC.out wb h3).2.2.2.2.2.1
      have c6 := (HC.out wb h3).2.2.2.2.2.2
      go_wp2_with fail
      refine ⟨⟨m + 1, a + 1 + 1 + 1 + 1 + 1 + 1 + 1, by omega, by go_num, rfl, ?_, h3⟩, ?_⟩
      · go_light
        have := HA.out
        omega
      · go_light
        simp [intOf]; omega
    · go_wp2_with fail
      go_ret
      have e1 : m = es.length := by omega
      refine ⟨?_, hb⟩
      rw [HA.out, e1]; rfl
/-- A slice of the call's own, or nil. -/
def OwnUN (w : World) (base : Nat) (u : Value) (R : List Nd) : Prop := (u = .slice none 0 0 ∧ R = []) ∨ ∃ g cp, u = .slice (some ⟨g, 0, none⟩) R.length cp ∧ OwnNd w base g cp R
theorem OwnUN.ins {w : World} {base : Nat} {u : Value} {R : List Nd} (h : OwnUN w base u R) : InNds w u R := by
  rcases h with ⟨rfl, rfl⟩ | ⟨g, cp, rfl, hO⟩
  · exact .inl ⟨_, _, rfl, rfl⟩
  · exact InNds.own hO rfl
theorem OwnUN.row {w : World} {base : Nat} {u : Value} {R : List Nd} (h : OwnUN w base u R) : ∀ g, u.ownBlock = some g → base ≤ g ∧ g < w.heap.size := by
  intro g hg
  rcases h with ⟨rfl, _⟩ | ⟨g', cp, rfl, hO⟩
  · cases hg
  · have : g' = g := Option.some.inj hg
    subst this
    exact hO.lt
theorem OwnUN.keptNe {w w' : World} {base : Nat} {u : Value} {R : List Nd} {row : Option Nat} (h : OwnUN w base u R) (hg : w.grownBy w' row) (hne : ∀ g, u.ownBlock = some g → row ≠ some g) : OwnUN w' base u R := by
  rcases h with h | ⟨g, cp, rfl, hO⟩
  · exact .inl h
  · exact .inr ⟨g, cp, rfl, World.ownsRow.kept hO hg (.inr (fun q => hne g rfl q.symm))⟩
theorem OwnUN.below {w w' : World} {base : Nat} {u : Value} {R : List Nd} (h : OwnUN w base u R) (hb : Below w.heap.size w w') : OwnUN w' base u R := h.keptNe (grown_of_below hb none) (fun g q z => by cases z)
theorem OwnUN.ownCells {w : World} {base : Nat} {u : Value} {R : List Nd} (h : OwnUN w base u R) : u.cells = #[u] := by
  rcases h with ⟨rfl, _⟩ | ⟨g, cp, rfl, _⟩ <;> rfl
set_option maxHeartbeats 400000 in
theorem markNodeS_zero (a : Option Addr) (cap : Nat) (k : Int) (w : World) :
    Calls Tryz.prog 66 #[.slice a 0 cap, .int .i64 k] w fun e w' => e = .returned (.int .i64 k) ∧ Below w.heap.size w w' := by
  go_enter Tryz.func66, Tryz.ntmps66
  go_wp2
  go_loopw [1, 5] (fun c i wr => c = .int .i64 k ∧ i = .int .i64 0 ∧ wr = w) (fun _ i _ => 0)
  case atStart => exact ⟨rfl, rfl, rfl⟩
  case round =>
    obtain ⟨rfl, rfl, rfl⟩ := hrel
    go_wp2_with fail
    go_ret
    exact ⟨rfl, Below.refl _ _⟩
set_option maxHeartbeats 400000 in
theorem heldNodeS_zero (a : Option Addr) (cap : Nat) (k : Int) (w : World) :
    Calls Tryz.prog 67 #[.slice a 0 cap, .int .i64 k] w fun e w' => e = .returned (.int .i64 k) ∧ Below w.heap.size w w' := by
  go_enter Tryz.func67, Tryz.ntmps67
  go_wp2
  go_loopw [1, 5] (fun c i wr => c = .int .i64 k ∧ i = .int .i64 0 ∧ wr = w) (fun _ i _ => 0)
  case atStart => exact ⟨rfl, rfl, rfl⟩
  case round =>
    obtain ⟨rfl, rfl, rfl⟩ := hrel
    go_wp2_with fail
    go_ret
    exact ⟨rfl, Below.refl _ _⟩
theorem markNodeS_own (base : Nat) (u : Value) (R : List Nd) (k : Int) (w : World) (h : OwnUN w base u R) (h0 : 0 < k) (h1 : k ≤ 2 ^ 30) (hn : R.length ≤ 1048576) :
    Calls Tryz.prog 66 #[u, .int .i64 k] w fun e w' =>
      ∃ R', e = .returned (.int .i64 (k + R.length * 7)) ∧ OwnUN w' base u R' ∧ R'.length = R.length ∧ markedN k R' R'.length ∧ w.grownBy w' u.ownBlock := by
  rcases h with ⟨rfl, rfl⟩ | ⟨g, cp, rfl, hO⟩
  · refine (markNodeS_zero none 0 k w).mono ?_
    rintro e w' ⟨rfl, hb⟩
    exact ⟨[], by simp, .inl ⟨rfl, rfl⟩, rfl, fun j hj => by simp at hj, grown_of_below hb _⟩
  · refine (markNodeS_core base g cp R k w hO h0 h1 hn).mono ?_
    rintro e w' ⟨fs, rfl, hO', hl, hm, hg⟩
    exact ⟨fs, rfl, .inr ⟨g, cp, by rw [hl], hO'⟩, hl, by rw [hl]; exact hm, hg⟩
theorem heldNodeS_own (base : Nat) (u : Value) (R : List Nd) (k : Int) (w : World) (h : OwnUN w base u R) (hm : markedN k R R.length) (h0 : 0 < k) (h1 : k ≤ 2 ^ 30) (hn : R.length ≤ 1048576) :
    Calls Tryz.prog 67 #[u, .int .i64 k] w fun e w' => e = .returned (.int .i64 (k + R.length * 7)) ∧ Below w.heap.size w w' := by
  rcases h with ⟨rfl, rfl⟩ | ⟨g, cp, rfl, hO⟩
  · refine (heldNodeS_zero none 0 k w).mono ?_
    rintro e w' ⟨rfl, hb⟩
    exact ⟨by simp, hb⟩
  · exact heldNodeS_core g 0 cp R k w hO.at hm hO.lt.2 h0 h1 hn
set_option maxHeartbeats 400000 in
theorem markFilter_own (base : Nat) (u : Value) (R : List Nd) (k : Int) (w : World) (h : OwnUN w base u R) (h0 : 0 < k) (h1 : k ≤ 2 ^ 30) (hn : R.length ≤ 1048576) :
    Calls Tryz.prog 29 #[.agg #[u], .int .i64 k] w fun e w' =>
      ∃ R', e = .returned (.int .i64 (k + R.length * 7)) ∧ OwnUN w' base u R' ∧ R'.length = R.length ∧ markedN k R' R'.length ∧ w.grownBy w' u.ownBlock := by
  have hu := h.ownCells
  have hb0 : Below w.heap.size w (w.alloc (Obj.cells #[u] 25)) := (Below.refl _ _).alloc (Nat.le_refl _) _
  have HU : Hid (OwnUN (w.alloc (Obj.cells #[u] 25)) base u R) := h.below hb0
  clear h
  go_enter Tryz.func29, Tryz.ntmps29
  go_wp2_with fail
  refine (markNodeS_own base u R k _ HU.out h0 h1 hn).mono ?_
  rintro e w1 ⟨R', rfl, hU', hl, hm, hb1⟩
  have HF : Hid (OwnUN w1 base u R' ∧ R'.length = R.length ∧ markedN k R' R'.length) := ⟨hU', hl, hm⟩
  clear hU' hl hm
  go_wp2_with fail
  go_ret
  exact ⟨R', rfl, HF.out.1, HF.out.2.1, HF.out.2.2, (grown_of_below hb0 _).trans hb1⟩
set_option maxHeartbeats 400000 in
theorem heldFilter_own (base : Nat) (u : Value) (R : List Nd) (k : Int) (w : World) (h : OwnUN w base u R) (hm : markedN k R R.length) (h0 : 0 < k) (h1 : k ≤ 2 ^ 30) (hn : R.length ≤ 1048576) :
    Calls Tryz.prog 30 #[.agg #[u], .int .i64 k] w fun e w' => e = .returned (.int .i64 (k + R.length * 7)) ∧ Below w.heap.size w w' := by
  have hu := h.ownCells
  have hb0 : Below w.heap.size w (w.alloc (Obj.cells #[u] 25)) := (Below.refl _ _).alloc (Nat.le_refl _) _
  have HU : Hid (OwnUN (w.alloc (Obj.cells #[u] 25)) base u R ∧ markedN k R R.length) := ⟨h.below hb0, hm⟩
  clear h hm
  go_enter Tryz.func30, Tryz.ntmps30
  go_wp2_with fail
  refine (heldNodeS_own base u R k _ HU.out.1 HU.out.2 h0 h1 hn).mono ?_
  rintro e w1 ⟨rfl, hb1⟩
  have hge : 0 ≤ k + (R.length : Int) * 7 := by omega
  go_wp2_with fail
  go_ret
  exact ⟨rfl, hb0.trans (hb1.mono (by simp))⟩
end Go.Proofs.YtgnpcenpcmdlfaaGreatDoor

/-
  The text that a filter is printed as, cut into tokens.
-/
namespace Go.Proofs.YtgnpcenpcmdlfaaGreatDoor
set_option linter.unusedVariables false
set_option linter.unusedSimpArgs false

/-- No letter and no digit comes first. -/
def NxO (l : List UInt8) : Prop := ∀ b, l.head? = some b → isLet b = false ∧ isDig b = false
/-- The text l is the tokens K, whatever comes behind (c: no letter and no digit). -/
def Lx (c : Bool) (l : List UInt8) (K : List TkK) : Prop := ∀ (rest : List UInt8) (i : Nat) (ks' : List Tk), (c = true → NxO rest) → LexR rest (i + l.length) ks' → ∃ ks, LexR (l ++ rest) i (ks ++ ks') ∧ ks.map (·.k) = K
theorem Lx.weak {c : Bool} {l : List UInt8} {K : List TkK} (h : Lx false l K) : Lx c l K := fun rest i ks' _ hl => h rest i ks' (by simp) hl
theorem Lx.seq {c1 c2 : Bool} {l1 l2 : List UInt8} {K1 K2 : List TkK} (h1 : Lx c1 l1 K1) (h2 : Lx c2 l2 K2) (hn : c1 = true → l2 ≠ [] ∧ NxO l2) : Lx c2 (l1 ++ l2) (K1 ++ K2) := by
  intro rest i ks' hc hl
  rw [List.length_append, ← Nat.add_assoc] at hl
  obtain ⟨ka, ha, ea⟩ := h2 rest (i + l1.length) ks' hc hl
  obtain ⟨kb, hb, eb⟩ := h1 (l2 ++ rest) i (ka ++ ks') (fun q => by
    obtain ⟨n1, n2⟩ := hn q
    intro b hb
    apply n2
    cases l2 with
    | nil => exact absurd rfl n1
    | cons x l => exact hb) ha
  exact ⟨kb ++ ka, by rw [List.append_assoc, List.append_assoc]; exact hb, by rw [List.map_append, ea, eb]⟩
theorem Lx.space {c : Bool} {l : List UInt8} {K : List TkK} (h : Lx c l K) : Lx c (32 :: l) K := by
  intro rest i ks' hc hl
  obtain ⟨ks, h1, h2⟩ := h rest (i + 1) ks' hc (by rw [List.length_cons] at hl; rw [show i + 1 + l.length = i + (l.length + 1) by omega]; exact hl)
  exact ⟨ks, .space h1, h2⟩
theorem Lx.nil {c : Bool} : Lx c [] [] := fun rest i ks' _ hl => ⟨[], hl, rfl⟩
theorem lx_tok {c : Bool} {b : UInt8} {l : List UInt8} {k : TkK} (hb : ¬ b = 32) (h : ∀ rest, (c = true → NxO rest) → tokF (b :: l ++ rest) = some (k, (b :: l).length)) : Lx c (b :: l) [k] := by
  intro rest i ks' hc hl
  refine ⟨[⟨k, i⟩], ?_, rfl⟩
  refine .tok (l := l ++ rest) hb (h rest hc) ?_
  have e : (b :: (l ++ rest)).drop (b :: l).length = rest := by rw [← List.cons_append, List.drop_left]
  rw [e]
  exact hl
theorem lx_sign {b : UInt8} (h : b = 40 ∨ b = 41 ∨ b = 44 ∨ b = 62 ∨ b = 124) : Lx false [b] [.sign b] := by
  refine lx_tok (by rcases h with rfl | rfl | rfl | rfl | rfl <;> decide) (fun rest _ => ?_)
  rcases h with rfl | rfl | rfl | rfl | rfl <;> rfl
theorem lx_dots : Lx false [46, 46] [.sign 46] := lx_tok (by decide) (fun rest _ => rfl)
theorem takeWhile_nx {p : UInt8 → Bool} : ∀ {l rest : List UInt8}, (∀ b ∈ l, p b = true) → (∀ b, rest.head? = some b → p b = false) → (l ++ rest).takeWhile p = l
  | [], [], _, _ => rfl
  | [], b :: r, _, h => by simp [h b rfl]
  | a :: l, rest, h, h2 => by
    rw [List.cons_append, List.takeWhile_cons, if_pos (h a (by simp)), takeWhile_nx (fun b hb => h b (by simp [hb])) h2]
theorem lx_letters {b : UInt8} {l : List UInt8} {k : Int} (hl : ∀ x ∈ b :: l, isLet x = true) (hk : kwF (b :: l) = some k) : Lx true (b :: l) [.word k] := by
  have hb := hl b (by simp)
  refine lx_tok (by intro q; subst q; exact absurd hb (by decide)) (fun rest hc => ?_)
  have ht := takeWhile_nx hl (fun x hx => (hc rfl x hx).1)
  rw [List.cons_append] at ht ⊢
  unfold tokF
  dsimp only
  rw [if_pos hb, ht, hk]
  rfl
theorem lx_word {k : Int} (h1 : 1 ≤ k) (h2 : k ≤ 13) : Lx true (bl (wordA k)) [.word k] := by
  rcases cases13 h1 h2 with rfl | rfl | rfl | rfl | rfl | rfl | rfl | rfl | rfl | rfl | rfl | rfl | rfl <;> exact lx_letters (by decide) (by decide)
theorem lx_if : Lx true [105, 102] [.word 16] := lx_letters (by decide) (by decide)
/- Numbers. -/
theorem dig_of {n : Nat} (h : n < 10) : isDig (UInt8.ofNat (48 + n)) = true ∧ (UInt8.ofNat (48 + n)).toNat = 48 + n := by
  have : (UInt8.ofNat (48 + n)).toNat = 48 + n := by simp [UInt8.toNat_ofNat']; omega
  refine ⟨?_, this⟩
  unfold isDig
  rw [this]
  simp; omega
theorem dec_dig (n : Nat) : ∀ b ∈ Lib.decDigits n, isDig b = true := by
  induction n using Nat.strongRecOn with
  | _ n ih =>
    intro b hb
    rw [Lib.decDigits] at hb
    split at hb
    · rename_i h
      rw [List.mem_singleton] at hb
      rw [hb]; exact (dig_of h).1
    · rename_i h
      rw [List.mem_append, List.mem_singleton] at hb
      rcases hb with hb | hb
      · exact ih (n / 10) (by omega) b hb
      · rw [hb]; exact (dig_of (Nat.mod_lt _ (by omega))).1
theorem dec_val (n : Nat) : decV (Lib.decDigits n) = n := by
  induction n using Nat.strongRecOn with
  | _ n ih =>
    rw [Lib.decDigits]
    split
    · rename_i h
      simp only [decV, List.foldl_cons, List.foldl_nil, (dig_of h).2]
      omega
    · rename_i h
      have h1 := ih (n / 10) (by omega)
      unfold decV at h1 ⊢
      rw [List.foldl_append, h1]
      simp only [List.foldl_cons, List.foldl_nil, (dig_of (Nat.mod_lt n (by omega))).2]
      omega
theorem dec_head (n : Nat) : ∃ b l, Lib.decDigits n = b :: l ∧ (1 ≤ n → ¬ b = 48) := by
  induction n using Nat.strongRecOn with
  | _ n ih =>
    rw [Lib.decDigits]
    split
    · rename_i h
      refine ⟨_, _, rfl, fun h1 q => ?_⟩
      have := (dig_of h).2
      rw [q] at this
      simp at this; omega
    · rename_i h
      obtain ⟨b, l, h1, h2⟩ := ih (n / 10) (by omega)
      exact ⟨b, l ++ [_], by rw [h1]; rfl, fun _ => h2 (by omega)⟩
theorem dec_numM {n : Nat} (h : n < 2 ^ 64) : numM (Lib.decDigits n) = some n := by
  unfold numM
  rw [if_neg, if_pos (by rw [dec_val]; exact h), dec_val]
  rintro ⟨h1, h2⟩
  by_cases h0 : n < 10
  · rw [Lib.decDigits, dif_pos h0] at h1
    simp at h1
  · obtain ⟨b, l, e, hb⟩ := dec_head n
    rw [e] at h2
    exact hb (by omega) (by simpa using h2)
theorem lx_num {n : Nat} (h : n < 2 ^ 64) : Lx true (Lib.decDigits n) [.num (n : Int)] := by
  obtain ⟨b, l, e, _⟩ := dec_head n
  have hd := dec_dig n
  have hm := dec_numM h
  rw [e] at hd hm ⊢
  have hb := hd b (by simp)
  have hnl : isLet b = false := by
    unfold isDig at hb
    unfold isLet
    simp at hb ⊢
    omega
  refine lx_tok (by intro q; subst q; exact absurd hb (by decide)) (fun rest hc => ?_)
  have ht := takeWhile_nx hd (fun x hx => (hc rfl x hx).2)
  rw [List.cons_append] at ht ⊢
  unfold tokF
  dsimp only
  rw [if_neg (by rw [hnl]; simp), if_pos hb, ht, hm]
  rfl
/- Quotes. -/
theorem hex_of {n : Nat} (h : n < 16) : hexV (hexB n) = some n := by
  have : ∀ m : Fin 16, hexV (hexB m.val) = some m.val := by decide
  exact this ⟨n, h⟩
theorem strM_quo : ∀ (s rest : List UInt8), strM (quoL s ++ 34 :: rest) = some (s, (quoL s).length + 1)
  | [], rest => by
    show strM (34 :: rest) = _
    unfold strM
    rw [if_pos rfl]
    rfl
  | b :: s, rest => by
    have ih := strM_quo s rest
    have e : quoL (b :: s) = qByte b ++ quoL s := by simp [quoL]
    rw [e, List.append_assoc]
    unfold qByte
    by_cases h1 : b.toNat = 34 ∨ b.toNat = 92
    · rw [if_pos h1]
      have hb : b = 34 ∨ b = 92 := by
        rcases h1 with h | h
        · exact .inl (UInt8.toNat_inj.1 h)
        · exact .inr (UInt8.toNat_inj.1 h)
      show strM (92 :: b :: (quoL s ++ 34 :: rest)) = _
      unfold strM
      rw [if_neg (by decide), if_pos rfl]
      dsimp only
      rw [if_pos hb, ih]
      simp
    · rw [if_neg h1]
      have n34 : ¬ b = 34 := fun q => h1 (.inl (by rw [q]; rfl))
      have n92 : ¬ b = 92 := fun q => h1 (.inr (by rw [q]; rfl))
      by_cases h2 : 32 ≤ b.toNat ∧ b.toNat ≤ 126
      · rw [if_pos h2]
        show strM (b :: (quoL s ++ 34 :: rest)) = _
        unfold strM
        rw [if_neg n34, if_neg n92, if_pos (by unfold isPla; simpa using h2), ih]
        simp
      · rw [if_neg h2]
        show strM (92 :: 120 :: hexB (b.toNat / 16) :: hexB (b.toNat % 16) :: (quoL s ++ 34 :: rest)) = _
        unfold strM
        rw [if_neg (by decide), if_pos rfl]
        dsimp only
        rw [if_neg (by decide), if_pos rfl]
        have hlt := b.toNat_lt
        rw [hex_of (by omega), hex_of (Nat.mod_lt _ (by omega))]
        dsimp only
        rw [ih]
        have : UInt8.ofNat (16 * (b.toNat / 16) + b.toNat % 16) = b := by
          rw [Nat.div_add_mod]; exact UInt8.ofNat_toNat
        rw [this]
        simp
theorem lx_str {s : ByteArray} (h : s.size ≤ 200) : Lx false (quoM (bl s)) [.str s] := by
  have e : quoM (bl s) = 34 :: (quoL (bl s) ++ [34]) := by unfold quoM; simp
  rw [e]
  refine lx_tok (by decide) (fun rest _ => ?_)
  rw [List.cons_append]
  unfold tokF
  dsimp only
  rw [if_neg (by decide), if_neg (by decide), if_pos rfl, List.append_assoc, List.singleton_append, strM_quo]
  dsimp only
  rw [if_pos (by rw [bl_len]; exact h)]
  have : (⟨(bl s).toArray⟩ : ByteArray) = s := by
    cases s with
    | mk a => simp [bl]
  rw [this]
  simp
end Go.Proofs.YtgnpcenpcmdlfaaGreatDoor

