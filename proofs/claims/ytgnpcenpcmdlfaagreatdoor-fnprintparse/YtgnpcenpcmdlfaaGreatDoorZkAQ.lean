import Derived.Lib.AppendZeros
import Derived.Deep.LoopGhost
import Derived.Test.YtgnpcenpcmdlfaaGreatDoorZkAP
import Derived.Test.YtgnpcenpcmdlfaaGreatDoorZkAF
/-
  (*impl.filterParser): expect, takeMaker, enter, leave.
-/
namespace Go.Proofs.YtgnpcenpcmdlfaaGreatDoor
open Go.ChangeShapes Go.WideShapes Go.ChangeAt Go.RowKit Go.Deep
set_option linter.unusedVariables false
set_option linter.unusedSimpArgs false
set_option maxRecDepth 100000

theorem sign_nofin {k : TkK} {b : UInt8} (h : k.isSign b = true) : k.isFin = false := by rw [TkK.isSign_eq h]; rfl
theorem Fp.nlt {base g b off n cap : Nat} {t : List UInt8} {d : Nat} {s : Ps} {k : Tk} {ks : List Tk} {p : Nat} {nv : Value} {w : World} (h : Fp base g b off n cap t d s k ks p nv w) : ∀ q, nv.ownBlock = some q → base ≤ q ∧ q < w.heap.size := World.ownsRow.lt h.nds
/-- Made one more. -/
theorem Fp.make {base g b off n cap : Nat} {t : List UInt8} {d : Nat} {s : Ps} {k : Tk} {ks : List Tk} {p : Nat} {nv : Value} {w : World} (h : Fp base g b off n cap t d s k ks p nv w) (hm : s.made < 200) : Fp base g b off n cap t d { s with made := s.made + 1 } k ks p nv (w.setCell ⟨g, 7, none⟩ (.int .i64 ((s.made : Int) + 1))) := by
  have hc : Chg (fun q => q = g) w (w.setCell ⟨g, 7, none⟩ (.int .i64 ((s.made : Int) + 1))) := Chg.of_set _ _ _ _ rfl
  exact ⟨h.eq, BoxAt.set h.fs 7 (.int .i64 ((s.made : Int) + 1)), h.pn, h.lx, h.nb, h.tk, by show s.made + 1 ≤ 200; omega, h.dd, own_chg h.nds hc (fun q hq z => h.ap q hq z), h.ap, h.ol⟩
theorem Fp.deep {base g b off n cap : Nat} {t : List UInt8} {d d' : Nat} {s : Ps} {k : Tk} {ks : List Tk} {p : Nat} {nv : Value} {w : World} (h : Fp base g b off n cap t d s k ks p nv w) (hd : d' ≤ 20) (u : Value) (hu : u = .int .i64 ((20 - d' : Nat) : Int)) : Fp base g b off n cap t d' s k ks p nv (w.setCell ⟨g, 8, none⟩ u) := by
  have hc : Chg (fun q => q = g) w (w.setCell ⟨g, 8, none⟩ u) := Chg.of_set _ _ _ _ rfl
  subst hu
  exact ⟨h.eq, BoxAt.set h.fs 8 (.int .i64 ((20 - d' : Nat) : Int)), h.pn, h.lx, h.nb, h.tk, h.md, hd, own_chg h.nds hc (fun q hq z => h.ap q hq z), h.ap, h.ol⟩
/-- Taken, with the token stored in a box of the caller's. -/
theorem FpO.box {base g b off n cap : Nat} {t : List UInt8} {d : Nat} {A : PR Ps → Prop} {V : Value} {nv : Value} {w W0 w3 W9 : World} {s1 : Ps} {k2 : Tk} {ks2 : List Tk} {p2 : Nat} {B : Nat} (hA : A (.ok s1)) (hF : Fp base g b off n cap t d s1 k2 ks2 p2 nv w3) (hc0 : Chg (fun q => q = g ∨ nv.ownBlock = some q) w W0) (hc3 : Chg (fun q => q = g) W0 w3) (hc9 : Chg (fun q => q = B) w3 W9) (hB : ¬ B = g ∧ w.heap.size ≤ B) (hn : ∀ q, nv.ownBlock = some q → q < w.heap.size) : FpO base g b off n cap t d A V nv w (.returned V) W9 := by
  refine ⟨Chg.comp (Chg.comp hc0 hc3 (fun q _ z => .inl z)) hc9 (fun q hq z => by omega), .inl ⟨s1, hA, rfl, k2, ks2, p2, nv, hF.chg hc9 (fun q => hB.1 q.symm) (fun q hq z => by have := hn q hq; omega), fun q hq => .inl hq⟩⟩
set_option maxHeartbeats 8000000 in
theorem expect_core {base g b off n cap : Nat} {t : List UInt8} {d : Nat} {s : Ps} {k : Tk} {ks : List Tk} {p : Nat} {nv : Value} {w : World} (hS : FpS base b off n cap t w) (h : Fp base g b off n cap t d s k ks p nv w) {bb : UInt8} (hbb : bb = 40 ∨ bb = 41 ∨ bb = 44 ∨ bb = 62 ∨ bb = 124 ∨ bb = 46) :
    Calls Tryz.prog 127 #[.pointer (some ⟨g, 0, none⟩), .int .u8 (bb.toNat : Int)] w (FpO base g b off n cap t d (fun r => r = s.to (expectF bb s.ks)) (.agg (ftV k).toArray) nv w) := by
  obtain ⟨W0, hW0⟩ : ∃ W0 : World, W0 = w.alloc (Obj.cells #[.int .u8 0, .int .i64 0, .int .i64 0, .int .u64 0, .string ⟨#[]⟩] 52) := ⟨_, rfl⟩
  have b3 : Below w.heap.size w W0 := by rw [hW0]; exact (Below.refl _ _).alloc (Nat.le_refl _) _
  have b1 : BoxAt W0 w.heap.size 52 5 w.heap.size [.int .u8 0, .int .i64 0, .int .i64 0, .int .u64 0, .string ⟨#[]⟩] := by rw [hW0]; exact boxAt_new w _ (Nat.le_refl _) rfl
  have hbs : Below base w W0 := b3.mono hS.sz
  have hnl := h.nlt
  have HW0 : Hid (BoxAt W0 w.heap.size 52 5 w.heap.size [.int .u8 0, .int .i64 0, .int .i64 0, .int .u64 0, .string ⟨#[]⟩] ∧ Fp base g b off n cap t d s k ks p nv W0 ∧ FpS base b off n cap t W0 ∧ Chg (fun q => q = g ∨ nv.ownBlock = some q) w W0 ∧ (∀ q, nv.ownBlock = some q → q < w.heap.size)) := ⟨b1, h.below b3, hS.up hbs, Chg.of_below b3, fun q hq => (hnl q hq).2⟩
  have hgl := h.fs.lt
  have HEq : Hid (s.ks = k :: ks) := h.eq
  have cK := (h.below b3).fs.cell (j := 2) rfl
  have hsg := ft_sign h.kinds hbb
  obtain ⟨kb, hkb⟩ : ∃ kb : Int, kb = ((ftB k.k).toNat : Int) := ⟨_, rfl⟩
  obtain ⟨bi, hbi⟩ : ∃ bi : Int, bi = (bb.toNat : Int) := ⟨_, rfl⟩
  rw [← hkb, ← hbi] at hsg
  rw [← hkb] at cK
  rw [← hbi]
  clear h hS b1 b3 hbs hbi hkb hnl
  cases hsn : k.k.isSign bb
  case false =>
    rw [hsn] at hsg
    have HD : Hid (FpO base g b off n cap t d (fun r => r = s.to (expectF bb s.ks)) (.agg (ftV k).toArray) nv w (Pf 3 (k.pos : Int)) W0) := by
      refine ⟨HW0.out.2.2.2.1, .inr ⟨3, k.pos, ?_, rfl⟩⟩
      unfold expectF
      rw [HEq.out]
      show _ = s.to (if k.k.isSign bb = true then _ else _)
      rw [if_neg (by rw [hsn]; simp)]
      rfl
    clear hsn
    go_enter Tryz.func127, Tryz.ntmps127
    go_upto_region 1 with fail
    rw [← hW0]
    clear hW0
    go_wp2_with fail
    refine (fdem_no HW0.out.2.1 3).mono ?_
    rintro e w2 ⟨rfl, hw2⟩
    rw [hw2]
    clear hw2
    exact ⟨rfl, HD.out⟩
  case true =>
    rw [hsn] at hsg
    have HTk : Hid (Calls Tryz.prog 114 #[.pointer (some ⟨g, 0, none⟩)] W0 (TakP base g b off n cap t d s k nv W0)) := ftake_core HW0.out.2.2.1 HW0.out.2.1 (sign_nofin hsn)
    have HEx : Hid (expectF bb s.ks = takeF s.ks) := by
      show _ = _
      unfold expectF
      rw [if_pos (by rw [HEq.out]; exact hsn)]
    clear hsn
    go_enter Tryz.func127, Tryz.ntmps127
    go_upto_region 1 with fail
    rw [← hW0]
    clear hW0
    go_wp2_with fail
    refine (fdem_yes _ 3 W0).mono ?_
    rintro e w2 ⟨rfl, hw2⟩
    rw [hw2]
    clear hw2
    go_wp2_with fail
    refine HTk.out.mono ?_
    rintro e w3 ⟨Hb3, (⟨k2, ks2, p2, htk, rfl, hF3⟩ | ⟨c, a, htk, rfl⟩)⟩
    · have hBx := HW0.out.1.chg Hb3.out (by omega)
      have HF3 : Hid (Fp base g b off n cap t d { s with ks := k2 :: ks2 } k2 ks2 p2 nv w3 ∧ takeF s.ks = .ok (k2 :: ks2) ∧ Chg (fun q => q = g) W0 w3) := ⟨hF3, htk, Hb3.out⟩
      clear htk hF3 HTk cK
      have l0 := hBx.cell (j := 0) rfl
      have l1 := hBx.cell (j := 1) rfl
      have l2 := hBx.cell (j := 2) rfl
      have l3 := hBx.cell (j := 3) rfl
      have l4 := hBx.cell (j := 4) rfl
      have f0 := hBx.frozen 0
      have f1 := hBx.frozen 1
      have f2 := hBx.frozen 2
      have f3 := hBx.frozen 3
      have f4 := hBx.frozen 4
      obtain ⟨W9, hW9⟩ : ∃ V : World, V = setP w3 w.heap.size (.int .u8 ((ftB k.k).toNat : Int)) (.int .i64 (k.pos : Int)) (.int .i64 k.k.wd) (.int .u64 k.k.nm) (.string k.k.txt) := ⟨_, rfl⟩
      have hB9 := hBx.setP (.int .u8 ((ftB k.k).toNat : Int)) (.int .i64 (k.pos : Int)) (.int .i64 k.k.wd) (.int .u64 k.k.nm) (.string k.k.txt)
      rw [← hW9] at hB9
      have hc9 : Chg (fun q => q = w.heap.size) w3 W9 := by rw [hW9]; exact chg_setP _ _ _ _ _ _ _
      have HR : Hid (FpO base g b off n cap t d (fun r => r = s.to (expectF bb s.ks)) (.agg (ftV k).toArray) nv w (.returned (.agg (ftV k).toArray)) W9) := FpO.box (by show _ = _; rw [HEx.out, HF3.out.2.1]; rfl) HF3.out.1 HW0.out.2.2.2.1 HF3.out.2.2 hc9 (by omega) HW0.out.2.2.2.2
      have p0 := hB9.cell (j := 0) rfl
      have p1 := hB9.cell (j := 1) rfl
      have p2' := hB9.cell (j := 2) rfl
      have p3 := hB9.cell (j := 3) rfl
      have p4 := hB9.cell (j := 4) rfl
      unfold setP at hW9
      clear hB9 hc9
      go_wp2_with fail
      rw [← hW9]
      exact bodyPost_ret (v := .agg (ftV k).toArray) (by simp [results, Tryz.results127, go_sem, p0, p1, p2', p3, p4]) rfl HR.out
    · have HD : Hid (FpO base g b off n cap t d (fun r => r = s.to (expectF bb s.ks)) (.agg (ftV k).toArray) nv w (Pf c (a : Int)) w3) := ⟨Chg.comp HW0.out.2.2.2.1 Hb3.out (fun q _ z => .inl z), .inr ⟨c, a, by rw [HEx.out, htk]; rfl, rfl⟩⟩
      clear htk HTk
      exact ⟨rfl, HD.out⟩
set_option maxHeartbeats 8000000 in
theorem takeMaker_core {base g b off n cap : Nat} {t : List UInt8} {d : Nat} {s : Ps} {k : Tk} {ks : List Tk} {p : Nat} {nv : Value} {w : World} (hS : FpS base b off n cap t w) (h : Fp base g b off n cap t d s k ks p nv w) (hf : k.k.isFin = false) :
    Calls Tryz.prog 95 #[.pointer (some ⟨g, 0, none⟩)] w (FpO base g b off n cap t d (fun r => r = makerF s) (.agg (ftV k).toArray) nv w) := by
  obtain ⟨W0, hW0⟩ : ∃ W0 : World, W0 = w.alloc (Obj.cells #[.int .u8 0, .int .i64 0, .int .i64 0, .int .u64 0, .string ⟨#[]⟩] 52) := ⟨_, rfl⟩
  have b3 : Below w.heap.size w W0 := by rw [hW0]; exact (Below.refl _ _).alloc (Nat.le_refl _) _
  have b1 : BoxAt W0 w.heap.size 52 5 w.heap.size [.int .u8 0, .int .i64 0, .int .i64 0, .int .u64 0, .string ⟨#[]⟩] := by rw [hW0]; exact boxAt_new w _ (Nat.le_refl _) rfl
  have hbs : Below base w W0 := b3.mono hS.sz
  have hnl := h.nlt
  have HW0 : Hid (BoxAt W0 w.heap.size 52 5 w.heap.size [.int .u8 0, .int .i64 0, .int .i64 0, .int .u64 0, .string ⟨#[]⟩] ∧ Fp base g b off n cap t d s k ks p nv W0 ∧ FpS base b off n cap t W0 ∧ Chg (fun q => q = g ∨ nv.ownBlock = some q) w W0 ∧ (∀ q, nv.ownBlock = some q → q < w.heap.size)) := ⟨b1, h.below b3, hS.up hbs, Chg.of_below b3, fun q hq => (hnl q hq).2⟩
  have hgl := h.fs.lt
  have HEq : Hid (s.ks = k :: ks) := h.eq
  have cM := (h.below b3).fs.cell (j := 7) rfl
  have fM := (h.below b3).fs.frozen 7
  have hmd := h.md
  clear h hS b1 b3 hbs hnl
  by_cases hm : s.made < 200
  · have zm : decide ((s.made : Int) < 200) = true := decide_eq_true (by omega)
    have zw : IntKind.i64.wrap ((s.made : Int) + 1) = (s.made : Int) + 1 := wrap64 (by omega) (by omega)
    obtain ⟨W1, hW1⟩ : ∃ W1 : World, W1 = W0.setCell ⟨g, 7, none⟩ (.int .i64 ((s.made : Int) + 1)) := ⟨_, rfl⟩
    have hc1 : Chg (fun q => q = g) W0 W1 := by rw [hW1]; exact Chg.of_set _ _ _ _ rfl
    have HW1 : Hid (Fp base g b off n cap t d { s with made := s.made + 1 } k ks p nv W1 ∧ FpS base b off n cap t W1 ∧ BoxAt W1 w.heap.size 52 5 w.heap.size [.int .u8 0, .int .i64 0, .int .i64 0, .int .u64 0, .string ⟨#[]⟩] ∧ Chg (fun q => q = g) W0 W1) := ⟨by rw [hW1]; exact HW0.out.2.1.make hm, HW0.out.2.2.1.chg hc1 (fun q z => by omega), HW0.out.1.chg hc1 (by omega), hc1⟩
    have HTk : Hid (Calls Tryz.prog 114 #[.pointer (some ⟨g, 0, none⟩)] W1 (TakP base g b off n cap t d { s with made := s.made + 1 } k nv W1)) := ftake_core HW1.out.2.1 HW1.out.1 hf
    have HEx : Hid (makerF s = Ps.to { s with made := s.made + 1 } (takeF s.ks)) := by
      show _ = _
      unfold makerF
      rw [if_pos hm]
    clear hc1
    go_enter Tryz.func95, Tryz.ntmps95
    go_upto_region 1 with fail
    rw [← hW0]
    clear hW0
    go_wp2_with fail
    refine (fdem_yes _ 5 W0).mono ?_
    rintro e w2 ⟨rfl, hw2⟩
    rw [hw2]
    clear hw2
    go_upto_region 3 with fail
    rw [← hW1]
    clear hW1 cM fM
    go_wp2_with fail
    refine HTk.out.mono ?_
    rintro e w3 ⟨Hb3, (⟨k2, ks2, p2, htk, rfl, hF3⟩ | ⟨c, a, htk, rfl⟩)⟩
    · have hBx := HW1.out.2.2.1.chg Hb3.out (by omega)
      have HF3 : Hid (Fp base g b off n cap t d { ks := k2 :: ks2, made := s.made + 1, out := s.out } k2 ks2 p2 nv w3 ∧ takeF s.ks = .ok (k2 :: ks2) ∧ Chg (fun q => q = g) W0 w3) := ⟨hF3, htk, HW1.out.2.2.2.trans Hb3.out⟩
      clear htk hF3 HTk
      have l0 := hBx.cell (j := 0) rfl
      have l1 := hBx.cell (j := 1) rfl
      have l2 := hBx.cell (j := 2) rfl
      have l3 := hBx.cell (j := 3) rfl
      have l4 := hBx.cell (j := 4) rfl
      have f0 := hBx.frozen 0
      have f1 := hBx.frozen 1
      have f2 := hBx.frozen 2
      have f3 := hBx.frozen 3
      have f4 := hBx.frozen 4
      obtain ⟨W9, hW9⟩ : ∃ V : World, V = setP w3 w.heap.size (.int .u8 ((ftB k.k).toNat : Int)) (.int .i64 (k.pos : Int)) (.int .i64 k.k.wd) (.int .u64 k.k.nm) (.string k.k.txt) := ⟨_, rfl⟩
      have hB9 := hBx.setP (.int .u8 ((ftB k.k).toNat : Int)) (.int .i64 (k.pos : Int)) (.int .i64 k.k.wd) (.int .u64 k.k.nm) (.string k.k.txt)
      rw [← hW9] at hB9
      have hc9 : Chg (fun q => q = w.heap.size) w3 W9 := by rw [hW9]; exact chg_setP _ _ _ _ _ _ _
      have HR : Hid (FpO base g b off n cap t d (fun r => r = makerF s) (.agg (ftV k).toArray) nv w (.returned (.agg (ftV k).toArray)) W9) := FpO.box (by show _ = _; rw [HEx.out, HF3.out.2.1]; rfl) HF3.out.1 HW0.out.2.2.2.1 HF3.out.2.2 hc9 (by omega) HW0.out.2.2.2.2
      have p0 := hB9.cell (j := 0) rfl
      have p1 := hB9.cell (j := 1) rfl
      have p2' := hB9.cell (j := 2) rfl
      have p3 := hB9.cell (j := 3) rfl
      have p4 := hB9.cell (j := 4) rfl
      unfold setP at hW9
      clear hB9 hc9
      go_wp2_with fail
      rw [← hW9]
      exact bodyPost_ret (v := .agg (ftV k).toArray) (by simp [results, Tryz.results95, go_sem, p0, p1, p2', p3, p4]) rfl HR.out
    · have HD : Hid (FpO base g b off n cap t d (fun r => r = makerF s) (.agg (ftV k).toArray) nv w (Pf c (a : Int)) w3) := ⟨Chg.comp HW0.out.2.2.2.1 (HW1.out.2.2.2.trans Hb3.out) (fun q _ z => .inl z), .inr ⟨c, a, by rw [HEx.out, htk]; rfl, rfl⟩⟩
      clear htk HTk
      exact ⟨rfl, HD.out⟩
  · have zm : decide ((s.made : Int) < 200) = false := decide_eq_false (by omega)
    have HD : Hid (FpO base g b off n cap t d (fun r => r = makerF s) (.agg (ftV k).toArray) nv w (Pf 5 (k.pos : Int)) W0) := by
      refine ⟨HW0.out.2.2.2.1, .inr ⟨5, k.pos, ?_, rfl⟩⟩
      show _ = makerF s
      unfold makerF
      rw [if_neg hm, HEq.out]
      rfl
    go_enter Tryz.func95, Tryz.ntmps95
    go_upto_region 1 with fail
    rw [← hW0]
    clear hW0
    go_wp2_with fail
    refine (fdem_no HW0.out.2.1 5).mono ?_
    rintro e w2 ⟨rfl, hw2⟩
    rw [hw2]
    clear hw2
    exact ⟨rfl, HD.out⟩
end Go.Proofs.YtgnpcenpcmdlfaaGreatDoor

/-
  (*impl.filterParser): enter, leave.
-/
namespace Go.Proofs.YtgnpcenpcmdlfaaGreatDoor
open Go.ChangeShapes Go.WideShapes Go.ChangeAt Go.RowKit Go.Deep
set_option linter.unusedVariables false
set_option linter.unusedSimpArgs false
set_option maxRecDepth 100000

set_option maxHeartbeats 8000000 in
theorem enter_core {base g b off n cap : Nat} {t : List UInt8} {d : Nat} {s : Ps} {k : Tk} {ks : List Tk} {p : Nat} {nv : Value} {w : World} (hS : FpS base b off n cap t w) (h : Fp base g b off n cap t d s k ks p nv w) :
    Calls Tryz.prog 115 #[.pointer (some ⟨g, 0, none⟩)] w (FpO base g b off n cap t (d - 1) (fun r => r = enterF d s) (.tuple #[]) nv w) := by
  have HF : Hid (Fp base g b off n cap t d s k ks p nv w ∧ FpS base b off n cap t w ∧ s.ks = k :: ks) := ⟨h, hS, h.eq⟩
  have hgl := h.fs.lt
  have cK := h.fs.cell (j := 2) rfl
  have cO := h.fs.cell (j := 8) rfl
  have fO := h.fs.frozen 8
  have hdd := h.dd
  have hsg := ft_sign (b := 40) h.kinds (.inl rfl)
  have hsg' : (((ftB k.k).toNat : Int) == 40) = k.k.isSign 40 := hsg
  have HC0 : Hid (Chg (fun q => q = g ∨ nv.ownBlock = some q) w w) := Chg.of_below (Below.refl _ _)
  obtain ⟨kb, hkb⟩ : ∃ kb : Int, kb = ((ftB k.k).toNat : Int) := ⟨_, rfl⟩
  rw [← hkb] at hsg' cK
  clear h hS hsg hkb
  cases hsn : k.k.isSign 40
  case false =>
    rw [hsn] at hsg'
    have HD : Hid (FpO base g b off n cap t (d - 1) (fun r => r = enterF d s) (.tuple #[]) nv w (Pf 3 (k.pos : Int)) w) := by
      refine ⟨HC0.out, .inr ⟨3, k.pos, ?_, rfl⟩⟩
      show _ = enterF d s
      unfold enterF
      rw [HF.out.2.2]
      show _ = if k.k.isSign 40 = true then _ else _
      rw [if_neg (by rw [hsn]; simp)]
      rfl
    clear hsn
    go_enter Tryz.func115, Tryz.ntmps115
    go_wp2_with fail
    refine (fdem_no HF.out.1 3).mono ?_
    rintro e w2 ⟨rfl, hw2⟩
    rw [hw2]
    clear hw2
    exact ⟨rfl, HD.out⟩
  case true =>
  rw [hsn] at hsg'
  have HEn : Hid (enterF d s = if d = 0 then .error (4, k.pos) else s.to (takeF s.ks)) := by
    show enterF d s = _
    unfold enterF
    rw [if_pos (by rw [HF.out.2.2]; exact hsn), HF.out.2.2]
    rfl
  have Hnf : Hid (k.k.isFin = false) := sign_nofin hsn
  clear hsn
  by_cases hd : d = 0
  · have zo : decide (((20 - d : Nat) : Int) < 20) = false := decide_eq_false (by omega)
    have HD : Hid (FpO base g b off n cap t (d - 1) (fun r => r = enterF d s) (.tuple #[]) nv w (Pf 4 (k.pos : Int)) w) := by
      refine ⟨HC0.out, .inr ⟨4, k.pos, ?_, rfl⟩⟩
      show _ = enterF d s
      rw [HEn.out, if_pos hd]
    obtain ⟨op, hop⟩ : ∃ op : Int, op = ((20 - d : Nat) : Int) := ⟨_, rfl⟩
    rw [← hop] at zo cO
    clear hd hop
    go_enter Tryz.func115, Tryz.ntmps115
    go_wp2_with fail
    refine (fdem_yes _ 3 w).mono ?_
    rintro e w2 ⟨rfl, hw2⟩
    rw [hw2]
    clear hw2
    go_wp2_with fail
    refine (fdem_no HF.out.1 4).mono ?_
    rintro e w2 ⟨rfl, hw2⟩
    rw [hw2]
    clear hw2
    exact ⟨rfl, HD.out⟩
  · have zo : decide (((20 - d : Nat) : Int) < 20) = true := decide_eq_true (by omega)
    obtain ⟨W1, hW1⟩ : ∃ W1 : World, W1 = w.setCell ⟨g, 8, none⟩ (.int .i64 (((20 - d : Nat) : Int) + 1)) := ⟨_, rfl⟩
    have hc1 : Chg (fun q => q = g) w W1 := by rw [hW1]; exact Chg.of_set _ _ _ _ rfl
    have HW1 : Hid (Fp base g b off n cap t (d - 1) s k ks p nv W1 ∧ FpS base b off n cap t W1 ∧ Chg (fun q => q = g) w W1) := ⟨by rw [hW1]; exact HF.out.1.deep (d' := d - 1) (by omega) _ (by congr 1; omega), HF.out.2.1.chg hc1 (fun q z => by omega), hc1⟩
    have HTk : Hid (Calls Tryz.prog 114 #[.pointer (some ⟨g, 0, none⟩)] W1 (TakP base g b off n cap t (d - 1) s k nv W1)) := ftake_core HW1.out.2.1 HW1.out.1 Hnf.out
    have HEx : Hid (enterF d s = s.to (takeF s.ks)) := by show _ = _; rw [HEn.out, if_neg hd]
    have zw : IntKind.i64.wrap (((20 - d : Nat) : Int) + 1) = ((20 - d : Nat) : Int) + 1 := wrap64 (by omega) (by omega)
    obtain ⟨op, hop⟩ : ∃ op : Int, op = ((20 - d : Nat) : Int) := ⟨_, rfl⟩
    rw [← hop] at zo cO hW1 zw
    clear hd hop hc1
    go_enter Tryz.func115, Tryz.ntmps115
    go_wp2_with fail
    refine (fdem_yes _ 3 w).mono ?_
    rintro e w2 ⟨rfl, hw2⟩
    rw [hw2]
    clear hw2
    go_wp2_with fail
    refine (fdem_yes _ 4 w).mono ?_
    rintro e w2 ⟨rfl, hw2⟩
    rw [hw2]
    clear hw2
    go_upto_region 3 with fail
    rw [← hW1]
    clear hW1 cO fO
    go_wp2_with fail
    refine HTk.out.mono ?_
    rintro e w3 ⟨Hb3, (⟨k2, ks2, p2, htk, rfl, hF3⟩ | ⟨c, a, htk, rfl⟩)⟩
    · have HR : Hid (FpO base g b off n cap t (d - 1) (fun r => r = enterF d s) (.tuple #[]) nv w (.returned (.tuple #[])) w3) := ⟨Chg.comp HC0.out (HW1.out.2.2.trans Hb3.out) (fun q _ z => .inl z), .inl ⟨_, by rw [HEx.out, htk]; rfl, rfl, k2, ks2, p2, nv, hF3, fun q hq => .inl hq⟩⟩
      clear htk hF3 HTk
      go_wp2_with fail
      go_end0
      exact HR.out
    · have HD : Hid (FpO base g b off n cap t (d - 1) (fun r => r = enterF d s) (.tuple #[]) nv w (Pf c (a : Int)) w3) := ⟨Chg.comp HC0.out (HW1.out.2.2.trans Hb3.out) (fun q _ z => .inl z), .inr ⟨c, a, by rw [HEx.out, htk]; rfl, rfl⟩⟩
      clear htk HTk
      exact ⟨rfl, HD.out⟩
set_option maxHeartbeats 8000000 in
theorem leave_core {base g b off n cap : Nat} {t : List UInt8} {d : Nat} {s : Ps} {k : Tk} {ks : List Tk} {p : Nat} {nv : Value} {w : World} (hS : FpS base b off n cap t w) (h : Fp base g b off n cap t d s k ks p nv w) (hd : d < 20) :
    Calls Tryz.prog 116 #[.pointer (some ⟨g, 0, none⟩)] w (FpO base g b off n cap t (d + 1) (fun r => r = leaveF s) (.tuple #[]) nv w) := by
  have HEx : Hid (Calls Tryz.prog 127 #[.pointer (some ⟨g, 0, none⟩), .int .u8 41] w (FpO base g b off n cap t d (fun r => r = s.to (expectF 41 s.ks)) (.agg (ftV k).toArray) nv w)) := expect_core hS h (bb := 41) (.inr (.inl rfl))
  have hgl := h.fs.lt
  clear h hS
  go_enter Tryz.func116, Tryz.ntmps116
  go_wp2_with fail
  refine HEx.out.mono ?_
  rintro e w3 ⟨Hc3, (⟨s1, hs1, rfl, k2, ks2, p2, nv2, hF3, hn2⟩ | ⟨c, a, hs1, rfl⟩)⟩
  · have cO := hF3.fs.cell (j := 8) rfl
    have fO := hF3.fs.frozen 8
    have HR : Hid (FpO base g b off n cap t (d + 1) (fun r => r = leaveF s) (.tuple #[]) nv w (.returned (.tuple #[])) (w3.setCell ⟨g, 8, none⟩ (.int .i64 (((20 - d : Nat) : Int) - 1)))) := by
      have hc : Chg (fun q => q = g) w3 (w3.setCell ⟨g, 8, none⟩ (.int .i64 (((20 - d : Nat) : Int) - 1))) := Chg.of_set _ _ _ _ rfl
      exact ⟨Chg.comp Hc3.out hc (fun q _ z => .inl z), .inl ⟨s1, hs1, rfl, k2, ks2, p2, nv2, hF3.deep (d' := d + 1) (by omega) _ (by congr 1; omega), hn2⟩⟩
    have zw : IntKind.i64.wrap (((20 - d : Nat) : Int) - 1) = ((20 - d : Nat) : Int) - 1 := wrap64 (by omega) (by omega)
    obtain ⟨op, hop⟩ : ∃ op : Int, op = ((20 - d : Nat) : Int) := ⟨_, rfl⟩
    rw [← hop] at cO HR zw
    clear hF3 hs1 hn2 hop HEx
    go_wp2_with fail
    go_end0
    exact HR.out
  · have HD : Hid (FpO base g b off n cap t (d + 1) (fun r => r = leaveF s) (.tuple #[]) nv w (Pf c (a : Int)) w3) := ⟨Hc3.out, .inr ⟨c, a, hs1, rfl⟩⟩
    clear hs1 HEx
    exact ⟨rfl, HD.out⟩
end Go.Proofs.YtgnpcenpcmdlfaaGreatDoor

/-
  impl's isSingle, slices.Equal, slices.Grow and slices.Concat over nodes.
-/
namespace Go.Proofs.YtgnpcenpcmdlfaaGreatDoor
open Go.ChangeShapes Go.WideShapes Go.ChangeAt Go.RowKit Go.Deep
set_option linter.unusedVariables false
set_option linter.unusedSimpArgs false
set_option maxRecDepth 100000

/-- Nodes appended to a row of the call's own, or to none. -/
theorem wpList_append_ndV {ops : Array Oper} {rest : List Oper} {o : Oper} {a : Act} {Q : Exit → Act → World → Prop} (w : World) (hgd : o.guard = none) (s x : Operand)
    (ho : o.op = .call { callee := .builtin .append, args := #[s, x], argTypes := #[23, 23] })
    (base : Nat) (v : Value) (b off m cx : Nat) (fs es : List Nd) (hs : a.eval s = v) (hx : a.eval x = .slice (some ⟨b, off, none⟩) m cx) (hm : m = es.length) (hO : w.ownsRow base 65 7 v fs.length (cellsN fs))
    (hc : NdsAt w b off es) (hlen : fs.length + es.length ≤ 2 ^ 30) (hbase : base ≤ w.heap.size)
    (h : ∀ v' w', w'.ownsRow base 65 7 v' (fs ++ es).length (cellsN (fs ++ es)) → w.grownBy w' v.ownBlock → wpList Tryz.prog ops Q rest (a.put o.dst v') w') : wpList Tryz.prog ops Q (o :: rest) a w := by
  subst hm
  obtain ⟨i, hi, hz0, hz1, hz2⟩ := info_parts Tryz.infoNd
  refine wpList_append_own_at w hgd s x 23 ho base 65 i _ 7 72 Tryz.underlying23 hi hz0 hz1 hz2 rfl (by decide) v fs.length (cellsN fs) hs hO ⟨b, off, none⟩ es.length cx (cellsN es) hx (length_cellsN es) (nds_cells hc) (nds_one es) ?_ ?_ hbase ?_
  · unfold maxLen; omega
  · omega
  · intro v' w' hO' hgr hnil hat
    refine h v' w' ?_ hgr
    rw [List.length_append, cellsN_append]
    exact hO'
theorem growN_row (w : World) (t : TypeId) (z : Array Value) (size n c : Nat) (hz : z.size = size) (hn : n ≤ c) (hc : c ≤ maxLen) :
    (w.drew.alloc (.cells (Builtin.zeroCells z n ++ Builtin.zeroCells z (c - n)) t)).ownsRow w.heap.size t size (.slice (some ⟨w.heap.size, 0, none⟩) 0 c) 0 [] := by
  refine ⟨by simp, .inr ⟨w.heap.size, c, _, rfl, Nat.le_refl _, heap_alloc_new w.drew _, Nat.zero_le _, hc, ?_, by simp⟩⟩
  rw [Array.size_append, size_zeroCells, size_zeroCells, hz, ← Nat.add_mul]
  congr 1
  omega
def GrowN (w : World) (r : Ending) (w' : World) : Prop := ∃ v : Value, r = .returned v ∧ w'.ownsRow w.heap.size 65 7 v 0 [] ∧ Below w.heap.size w w'
end Go.Proofs.YtgnpcenpcmdlfaaGreatDoor

/-
  (*impl.filterParser).joined.
-/
namespace Go.Proofs.YtgnpcenpcmdlfaaGreatDoor
open Go.ChangeShapes Go.WideShapes Go.ChangeAt Go.RowKit Go.Deep
set_option linter.unusedVariables false
set_option linter.unusedSimpArgs false
set_option maxRecDepth 100000

theorem takeF_len {ks ks' : List Tk} (h : takeF ks = .ok ks') : ks'.length ≤ ks.length ∧ (ks ≠ [] → ks'.length < ks.length) := by
  unfold takeF at h
  split at h
  · cases h
  · cases h
    cases ks with
    | nil => exact ⟨Nat.le_refl _, fun q => absurd rfl q⟩
    | cons a l => exact ⟨by simp, fun _ => by simp⟩
theorem makerF_len {s s1 : Ps} (h : makerF s = .ok s1) : (s1.ks.length ≤ s.ks.length ∧ s1.out = s.out) ∧ (s.ks ≠ [] → s1.ks.length < s.ks.length) := by
  unfold makerF at h
  split at h
  · cases hq : takeF s.ks with
    | error e => rw [hq] at h; cases h
    | ok ks => rw [hq] at h; cases h; exact ⟨⟨(takeF_len hq).1, rfl⟩, (takeF_len hq).2⟩
  · cases h
/-- Nothing is given back. -/
def MonR (R : Ps → PR Ps → Prop) : Prop := ∀ s s1, R s (.ok s1) → s1.ks.length ≤ s.ks.length ∧ s1.out.length + s1.ks.length ≤ s.out.length + s.ks.length
theorem Fp.form {base g b off n cap : Nat} {t : List UInt8} {d : Nat} {s : Ps} {k : Tk} {ks : List Tk} {p : Nat} {nv : Value} {w : World} (h : Fp base g b off n cap t d s k ks p nv w) : ∃ a m c, nv = .slice a m c := by
  rcases h.nds.2 with ⟨q, _⟩ | ⟨g', cap', cur, q, _⟩
  · exact ⟨_, _, _, q⟩
  · exact ⟨_, _, _, q⟩
theorem wpList_append_ndW {ops : Array Oper} {rest : List Oper} {o : Oper} {a : Act} {Q : Exit → Act → World → Prop} (w : World) (hgd : o.guard = none) (s x : Operand)
    (ho : o.op = .call { callee := .builtin .append, args := #[s, x], argTypes := #[23, 23] })
    (base : Nat) (v : Value) (b off m cx : Nat) (fs : List Nd) (e : Nd) (hs : a.eval s = v) (hx : a.eval x = .slice (some ⟨b, off, none⟩) m cx) (hm : m = 1) (hO : w.ownsRow base 65 7 v fs.length (cellsN fs))
    (hc : NdsAt w b off [e]) (hlen : fs.length ≤ 1000000) (hbase : base ≤ w.heap.size)
    (h : ∀ g' cp' w', w'.ownsRow base 65 7 (.slice (some ⟨g', 0, none⟩) (fs.length + 1) cp') (fs ++ [e]).length (cellsN (fs ++ [e])) → w.grownBy w' v.ownBlock → (v.ownBlock = some g' ∨ g' = w.heap.size) → wpList Tryz.prog ops Q rest (a.put o.dst (.slice (some ⟨g', 0, none⟩) (fs.length + 1) cp')) w') : wpList Tryz.prog ops Q (o :: rest) a w := by
  subst hm
  obtain ⟨i, hi, hz0, hz1, hz2⟩ := info_parts Tryz.infoNd
  refine wpList_append_own_at w hgd s x 23 ho base 65 i _ 7 72 Tryz.underlying23 hi hz0 hz1 hz2 rfl (by decide) v fs.length (cellsN fs) hs hO ⟨b, off, none⟩ 1 cx (cellsN [e]) hx (length_cellsN [e]) (nds_cells hc) (nds_one [e]) ?_ ?_ hbase ?_
  · unfold maxLen; omega
  · omega
  · intro v' w' hO' hgr hnil hat
    rcases hO'.2 with ⟨h0, _⟩ | ⟨g', cap', cur, hv, _, _, hn, hcap, _, _⟩
    · have := (hnil.1 h0).2
      simp at this
    · subst hv
      refine h g' cap' w' ?_ hgr ?_
      · rw [List.length_append, cellsN_append]
        exact hO'
      · rcases hat with z | z
        · left; rw [← z]; rfl
        · right; simpa [Value.ownBlock] using z
def OprC (base g b off n cap : Nat) (t : List UInt8) (d : Nat) (F : Nat) (R : Ps → PR Ps → Prop) : Prop := ∀ (w : World) (s : Ps) (k : Tk) (ks : List Tk) (p : Nat) (nv : Value), FpS base b off n cap t w → Fp base g b off n cap t d s k ks p nv w → Calls Tryz.prog F #[.pointer (some ⟨g, 0, none⟩)] w (FpO base g b off n cap t d (R s) (.tuple #[]) nv w)
/-- Under way between operands. -/
structure JnJ (base g b off n cap : Nat) (t : List UInt8) (d : Nat) (sg : UInt8) (kd : Int) (R : Ps → PR Ps → Prop) (nv0 : Value) (w : World) (s1 s2 : Ps) (k : Tk) (ks : List Tk) (p : Nat) (nv : Value) (wr : World) : Prop where
  fp : Fp base g b off n cap t d s2 k ks p nv wr
  fs : FpS base b off n cap t wr
  chg : Chg (fun q => q = g ∨ nv0.ownBlock = some q) w wr
  loc : ∀ q, nv.ownBlock = some q → nv0.ownBlock = some q ∨ w.heap.size ≤ q
  stp : ∀ r, LoopR sg kd R s2 r → LoopR sg kd R s1 r
theorem FpS.of {base b off n cap : Nat} {t : List UInt8} {g : Nat} {d : Nat} {s : Ps} {k : Tk} {ks : List Tk} {p : Nat} {nv : Value} {w w' : World} (h : FpS base b off n cap t w) (hF : Fp base g b off n cap t d s k ks p nv w) (hc : Chg (fun q => q = g ∨ nv.ownBlock = some q) w w') : FpS base b off n cap t w' :=
  h.chg hc (fun q z => by rcases z with z | z
                          · rw [z]; exact hF.fs.lt.1
                          · exact (hF.nlt q z).1)
set_option maxHeartbeats 16000000 in
theorem joined_prim {base g b off n cap : Nat} {t : List UInt8} {d : Nat} {s : Ps} {k : Tk} {ks : List Tk} {p : Nat} {nv : Value} {w : World} {R : Ps → PR Ps → Prop} (HO : OprC base g b off n cap t d 96 R) (hM : MonR R) (hS : FpS base b off n cap t w) (h : Fp base g b off n cap t d s k ks p nv w) :
    Calls Tryz.prog 63 #[.pointer (some ⟨g, 0, none⟩), .int .u8 62, .int .i64 14, .func (Fn.func 96) #[.pointer (some ⟨g, 0, none⟩)] #[]] w (FpO base g b off n cap t d (JoinR 62 14 R s) (.tuple #[]) nv w) := by
  have H0 : Hid (OprC base g b off n cap t d 96 R ∧ MonR R ∧ FpS base b off n cap t w ∧ Fp base g b off n cap t d s k ks p nv w) := ⟨HO, hM, hS, h⟩
  have hgl := h.fs.lt
  have HC0 : Hid (Calls Tryz.prog 96 #[.pointer (some ⟨g, 0, none⟩)] w (FpO base g b off n cap t d (R s) (.tuple #[]) nv w)) := HO w s k ks p nv hS h
  clear HO hM hS h
  go_enter Tryz.func63, Tryz.ntmps63
  go_wp2_with fail
  refine HC0.out.mono ?_
  rintro e w1 ⟨Hc1, (⟨s1, hs1, rfl, k1, ks1, p1, nv1, hF1, hn1⟩ | ⟨c, a, hs1, rfl⟩)⟩
  case inr =>
    have HD : Hid (FpO base g b off n cap t d (JoinR 62 14 R s) (.tuple #[]) nv w (Pf c (a : Int)) w1) := ⟨Hc1.out, .inr ⟨c, a, .inl ⟨_, hs1, rfl⟩, rfl⟩⟩
    clear hs1 HC0
    exact ⟨rfl, HD.out⟩
  have HR1 : Hid (R s (.ok s1)) := hs1
  have HJ1 : Hid (JnJ base g b off n cap t d 62 14 R nv w s1 s1 k1 ks1 p1 nv1 w1) := ⟨hF1, H0.out.2.2.1.of H0.out.2.2.2 Hc1.out, Hc1.out, hn1, fun r q => q⟩
  have hsz1 := Hc1.out.size
  clear hs1 hF1 hn1 HC0
  go_wp2_with fail
  go_loopg [] (s1.ks.length) (fun gk wr => ∃ (s2 : Ps) (k2 : Tk) (ks2 : List Tk) (p2 : Nat) (nv2 : Value), s2.ks.length ≤ gk ∧ JnJ base g b off n cap t d 62 14 R nv w s1 s2 k2 ks2 p2 nv2 wr)
  case atStart => exact ⟨s1, k1, ks1, p1, nv1, Nat.le_refl _, HJ1.out⟩
  case round =>
    clear HJ1
    obtain ⟨s2, k2, ks2, p2, nv2, hlen, hJ⟩ := hrel
    have HJ : Hid (JnJ base g b off n cap t d 62 14 R nv w s1 s2 k2 ks2 p2 nv2 wr ∧ s2.ks.length ≤ gk) := ⟨hJ, hlen⟩
    have cK := hJ.fp.fs.cell (j := 2) rfl
    have hsg := ft_sign (b := 62) hJ.fp.kinds (by decide)
    have hsg' : (((ftB k2.k).toNat : Int) == 62) = k2.k.isSign 62 := hsg
    have HEq : Hid (s2.ks = k2 :: ks2) := hJ.fp.eq
    have szr := hJ.chg.size
    have hnl := hJ.fp.nlt
    obtain ⟨kb, hkb⟩ : ∃ kb : Int, kb = ((ftB k2.k).toNat : Int) := ⟨_, rfl⟩
    rw [← hkb] at hsg' cK
    clear hJ hlen hsg hkb
    cases hsn : k2.k.isSign 62
    case false =>
      rw [hsn] at hsg'
      have HR : Hid (FpO base g b off n cap t d (JoinR 62 14 R s) (.tuple #[]) nv w (.returned (.tuple #[])) wr) := ⟨HJ.out.1.chg, .inl ⟨s2, .inr ⟨s1, HR1.out, HJ.out.1.stp _ (.stop (by rw [HEq.out]; exact hsn))⟩, rfl, k2, ks2, p2, nv2, HJ.out.1.fp, HJ.out.1.loc⟩⟩
      clear hsn hnl
      go_wp2_with fail
      go_end0
      exact HR.out
    case true =>
    rw [hsn] at hsg'
    have Hsn : Hid ((hdK s2.ks).isSign 62 = true) := by show _ = _; rw [HEq.out]; exact hsn
    have HMk : Hid (Calls Tryz.prog 95 #[.pointer (some ⟨g, 0, none⟩)] wr (FpO base g b off n cap t d (fun r => r = makerF s2) (.agg (ftV k2).toArray) nv2 wr)) := takeMaker_core HJ.out.1.fs HJ.out.1.fp (sign_nofin hsn)
    have HL : Hid (∀ q, nv2.ownBlock = some q → base ≤ q ∧ q < wr.heap.size) := hnl
    clear hsn hnl
    go_wp2_with fail
    refine HMk.out.mono ?_
    rintro e w3 ⟨Hc3, (⟨s3, hs3, rfl, k3, ks3, p3, nv3, hF3, hn3⟩ | ⟨c, a, hs3, rfl⟩)⟩
    case inr =>
      have HD : Hid (FpO base g b off n cap t d (JoinR 62 14 R s) (.tuple #[]) nv w (Pf c (a : Int)) w3) := ⟨Chg.comp HJ.out.1.chg Hc3.out (fun q hq z => by
        rcases z with z | z
        · exact .inl z
        · rcases HJ.out.1.loc q z with y | y
          · exact .inr y
          · omega), .inr ⟨c, a, .inr ⟨s1, HR1.out, HJ.out.1.stp _ (.e1 Hsn.out hs3.symm)⟩, rfl⟩⟩
      clear hs3 HMk
      exact ⟨rfl, HD.out⟩
    have hcw3 : Chg (fun q => q = g ∨ nv.ownBlock = some q) w w3 := Chg.comp HJ.out.1.chg Hc3.out (fun q hq z => by
        rcases z with z | z
        · exact .inl z
        · rcases HJ.out.1.loc q z with y | y
          · exact .inr y
          · omega)
    have hloc3 : ∀ q, nv3.ownBlock = some q → nv.ownBlock = some q ∨ w.heap.size ≤ q := fun q hq => by
      rcases hn3 q hq with y | y
      · exact HJ.out.1.loc q y
      · right; omega
    have H3 : Hid (Fp base g b off n cap t d s3 k3 ks3 p3 nv3 w3 ∧ FpS base b off n cap t w3 ∧ Chg (fun q => q = g ∨ nv.ownBlock = some q) w w3 ∧ (∀ q, nv3.ownBlock = some q → nv.ownBlock = some q ∨ w.heap.size ≤ q) ∧ makerF s2 = .ok s3) := ⟨hF3, HJ.out.1.fs.of HJ.out.1.fp Hc3.out, hcw3, hloc3, hs3.symm⟩
    have HC3 : Hid (Calls Tryz.prog 96 #[.pointer (some ⟨g, 0, none⟩)] w3 (FpO base g b off n cap t d (R s3) (.tuple #[]) nv3 w3)) := H0.out.1 w3 s3 k3 ks3 p3 nv3 H3.out.2.1 hF3
    have sz3 := hcw3.size
    clear hs3 hF3 hn3 hcw3 hloc3 HMk cK
    go_wp2_with fail
    refine HC3.out.mono ?_
    rintro e w4 ⟨Hc4, (⟨s4, hs4, rfl, k4, ks4, p4, nv4, hF4, hn4⟩ | ⟨c, a, hs4, rfl⟩)⟩
    case inr =>
      have HD : Hid (FpO base g b off n cap t d (JoinR 62 14 R s) (.tuple #[]) nv w (Pf c (a : Int)) w4) := ⟨Chg.comp H3.out.2.2.1 Hc4.out (fun q hq z => by
        rcases z with z | z
        · exact .inl z
        · rcases H3.out.2.2.2.1 q z with y | y
          · exact .inr y
          · omega), .inr ⟨c, a, .inr ⟨s1, HR1.out, HJ.out.1.stp _ (.e2 Hsn.out H3.out.2.2.2.2 hs4)⟩, rfl⟩⟩
      clear hs4 HC3
      exact ⟨rfl, HD.out⟩
    obtain ⟨a4, m4, c4, rfl⟩ := hF4.form
    have HR4 : Hid (R s3 (.ok s4)) := hs4
    have H4 : Hid (Fp base g b off n cap t d s4 k4 ks4 p4 (.slice a4 m4 c4) w4 ∧ FpS base b off n cap t w4 ∧ Chg (fun q => q = g ∨ nv.ownBlock = some q) w w4 ∧ (∀ q, (Value.slice a4 m4 c4).ownBlock = some q → nv.ownBlock = some q ∨ w.heap.size ≤ q)) := ⟨hF4, H3.out.2.1.of H3.out.1 Hc4.out, Chg.comp H3.out.2.2.1 Hc4.out (fun q hq z => by
        rcases z with z | z
        · exact .inl z
        · rcases H3.out.2.2.2.1 q z with y | y
          · exact .inr y
          · omega), fun q hq => by
      rcases hn4 q hq with y | y
      · exact H3.out.2.2.2.1 q y
      · right; omega⟩
    have cN := hF4.fs.cell (j := 9) rfl
    have sz4 := H4.out.2.2.1.size
    have hg4 := hF4.fs.lt.2
    obtain ⟨W5, hW5⟩ : ∃ V : World, V = w4.alloc (Obj.cells #[.int .i64 14, .string ⟨#[]⟩, .bool false, .string ⟨#[]⟩, .int .u64 0, .int .u64 0, .int .i64 0] 65) := ⟨_, rfl⟩
    have hb5 : Below w4.heap.size w4 W5 := by rw [hW5]; exact (Below.refl _ _).alloc (Nat.le_refl _) _
    have HW5 : Hid (Fp base g b off n cap t d s4 k4 ks4 p4 (.slice a4 m4 c4) W5 ∧ NdsAt W5 w4.heap.size 0 [leafN 14] ∧ Below w4.heap.size w4 W5) := by
      refine ⟨hF4.below hb5, ?_, hb5⟩
      intro i e he
      cases i with
      | zero =>
        simp at he
        subst he
        rw [hW5]
        refine ⟨?_, ?_, ?_, ?_, ?_, ?_, ?_⟩ <;> simp [leafN, noS]
      | succ i => simp at he
    have sz5 := hb5.size
    have hbs : base ≤ W5.heap.size := by have := H4.out.2.1.sz; omega
    clear hs4 hF4 hn4 HC3 hb5
    go_wp2_with (at_builtin; (try rw [← hW5]); refine wpList_append_ndW _ rfl _ _ rfl base (.slice a4 m4 c4) w4.heap.size 0 1 1 s4.out (leafN 14) rfl rfl rfl HW5.out.1.nds HW5.out.2.1 ?hl ?hb ?_)
    case hl => have := HW5.out.1.ol; omega
    case hb => exact hbs
    intro g6 c6 w6 hO6 hgr hat
    have hgr2 : W5.grownBy w6 (Value.slice a4 m4 c4).ownBlock := by first | exact hgr | (rw [hW5]; exact hgr)
    have hat2 : (Value.slice a4 m4 c4).ownBlock = some g6 ∨ g6 = W5.heap.size := by first | exact hat | (rw [hW5]; exact hat) | (rw [hW5]; simpa using hat)
    have H6 : Hid (FsAt w6 base g b off n cap p4 (fpL k4 s4.made (20 - d) (.slice a4 m4 c4)) ∧ w6.ownsRow base 65 7 (.slice (some ⟨g6, 0, none⟩) (s4.out.length + 1) c6) (s4.out ++ [leafN 14]).length (cellsN (s4.out ++ [leafN 14])) ∧ Chg (fun q => q = g ∨ nv.ownBlock = some q) w w6 ∧ ¬ g6 = g ∧ (nv.ownBlock = some g6 ∨ w.heap.size ≤ g6) ∧ FpS base b off n cap t w6) := by
      have hc6 : Chg (fun q => (Value.slice a4 m4 c4).ownBlock = some q) W5 w6 := Chg.of_grown hgr2 (fun q hq => hq)
      have hF5 := HW5.out.1
      have hcw5 : Chg (fun q => q = g ∨ nv.ownBlock = some q) w W5 := Chg.comp H4.out.2.2.1 (Chg.of_below HW5.out.2.2 (S := fun _ => False)) (fun q _ z => z.elim)
      refine ⟨BoxAt.chg hF5.fs hc6 (fun z => hF5.ap _ z rfl), by rw [List.length_append]; exact hO6, Chg.comp hcw5 hc6 (fun q hq z => ?_), ?_, ?_, ?_⟩
      · rcases H4.out.2.2.2 q z with y | y
        · exact .inr y
        · omega
      · rcases hat2 with z | z
        · exact fun q => hF5.ap _ z q
        · have := hF5.fs.lt.2; omega
      · rcases hat2 with z | z
        · exact H4.out.2.2.2 _ z
        · right; omega
      · refine (H4.out.2.1.up (HW5.out.2.2.mono H4.out.2.1.sz)).chg hc6 (fun q z => (hF5.nlt q z).1)
    clear hO6 hgr hgr2 hat hat2 hW5 cN
    have cN := H6.out.1.cell (j := 9) rfl
    have fN := H6.out.1.frozen 9
    have HR : Hid (∃ (s2' : Ps) (k2' : Tk) (ks2' : List Tk) (p2' : Nat) (nv2' : Value), s2'.ks.length ≤ s4.ks.length ∧ JnJ base g b off n cap t d 62 14 R nv w s1 s2' k2' ks2' p2' nv2' (w6.setCell ⟨g, 9, none⟩ (.slice (some ⟨g6, 0, none⟩) (s4.out.length + 1) c6))) := by
      have hc9 : Chg (fun q => q = g) w6 (w6.setCell ⟨g, 9, none⟩ (.slice (some ⟨g6, 0, none⟩) (s4.out.length + 1) c6)) := Chg.of_set _ _ _ _ rfl
      have h6 := H6.out
      have h4 := H4.out.1
      have hmk := makerF_len H3.out.2.2.2.2
      refine ⟨s4.add (leafN 14), k4, ks4, p4, .slice (some ⟨g6, 0, none⟩) (s4.out.length + 1) c6, Nat.le_refl _, ⟨h4.eq, BoxAt.set h6.1 9 _, h4.pn, h4.lx, h4.nb, h4.tk, h4.md, h4.dd, own_chg h6.2.1 hc9 (fun q hq z => ?_), fun q hq => ?_, ?_⟩, h6.2.2.2.2.2.chg hc9 (fun q z => ?_), Chg.comp h6.2.2.1 hc9 (fun q _ z => .inl z), fun q hq => ?_, fun r hr => HJ.out.1.stp r (.more Hsn.out H3.out.2.2.2.2 HR4.out hr)⟩
      · simp [Value.ownBlock] at hq; exact h6.2.2.2.1 (hq.trans z)
      · simp [Value.ownBlock] at hq; rw [← hq]; exact h6.2.2.2.1
      · show (s4.out ++ [leafN 14]).length + s4.ks.length ≤ 200000
        rw [List.length_append, List.length_singleton]
        have h1 := makerF_len H3.out.2.2.2.2
        have h2 := (H0.out.2.1 s3 s4 HR4.out).2
        have h5 := h1.2 (by rw [HEq.out]; simp)
        have h7 := HJ.out.1.fp.ol
        rw [h1.1.2] at h2
        omega
      · rw [z]; exact h4.fs.lt.1
      · simp [Value.ownBlock] at hq; rw [← hq]; exact h6.2.2.2.2.1
    have hlt : s4.ks.length < gk := by
      have h1 := makerF_len H3.out.2.2.2.2
      have h2 := (H0.out.2.1 s3 s4 HR4.out).1
      have h3 := HJ.out.2
      have h5 := h1.2 (by rw [HEq.out]; simp)
      omega
    go_wp2_with fail
    go_roundg (s4.ks.length)
    case measure => exact hlt
    case rel => exact HR.out
set_option maxHeartbeats 16000000 in
theorem joined_chain {base g b off n cap : Nat} {t : List UInt8} {d : Nat} {s : Ps} {k : Tk} {ks : List Tk} {p : Nat} {nv : Value} {w : World} {R : Ps → PR Ps → Prop} (HO : OprC base g b off n cap t d 64 R) (hM : MonR R) (hS : FpS base b off n cap t w) (h : Fp base g b off n cap t d s k ks p nv w) :
    Calls Tryz.prog 63 #[.pointer (some ⟨g, 0, none⟩), .int .u8 124, .int .i64 15, .func (Fn.func 64) #[.pointer (some ⟨g, 0, none⟩)] #[]] w (FpO base g b off n cap t d (JoinR 124 15 R s) (.tuple #[]) nv w) := by
  have H0 : Hid (OprC base g b off n cap t d 64 R ∧ MonR R ∧ FpS base b off n cap t w ∧ Fp base g b off n cap t d s k ks p nv w) := ⟨HO, hM, hS, h⟩
  have hgl := h.fs.lt
  have HC0 : Hid (Calls Tryz.prog 64 #[.pointer (some ⟨g, 0, none⟩)] w (FpO base g b off n cap t d (R s) (.tuple #[]) nv w)) := HO w s k ks p nv hS h
  clear HO hM hS h
  go_enter Tryz.func63, Tryz.ntmps63
  go_wp2_with fail
  refine HC0.out.mono ?_
  rintro e w1 ⟨Hc1, (⟨s1, hs1, rfl, k1, ks1, p1, nv1, hF1, hn1⟩ | ⟨c, a, hs1, rfl⟩)⟩
  case inr =>
    have HD : Hid (FpO base g b off n cap t d (JoinR 124 15 R s) (.tuple #[]) nv w (Pf c (a : Int)) w1) := ⟨Hc1.out, .inr ⟨c, a, .inl ⟨_, hs1, rfl⟩, rfl⟩⟩
    clear hs1 HC0
    exact ⟨rfl, HD.out⟩
  have HR1 : Hid (R s (.ok s1)) := hs1
  have HJ1 : Hid (JnJ base g b off n cap t d 124 15 R nv w s1 s1 k1 ks1 p1 nv1 w1) := ⟨hF1, H0.out.2.2.1.of H0.out.2.2.2 Hc1.out, Hc1.out, hn1, fun r q => q⟩
  have hsz1 := Hc1.out.size
  clear hs1 hF1 hn1 HC0
  go_wp2_with fail
  go_loopg [] (s1.ks.length) (fun gk wr => ∃ (s2 : Ps) (k2 : Tk) (ks2 : List Tk) (p2 : Nat) (nv2 : Value), s2.ks.length ≤ gk ∧ JnJ base g b off n cap t d 124 15 R nv w s1 s2 k2 ks2 p2 nv2 wr)
  case atStart => exact ⟨s1, k1, ks1, p1, nv1, Nat.le_refl _, HJ1.out⟩
  case round =>
    clear HJ1
    obtain ⟨s2, k2, ks2, p2, nv2, hlen, hJ⟩ := hrel
    have HJ : Hid (JnJ base g b off n cap t d 124 15 R nv w s1 s2 k2 ks2 p2 nv2 wr ∧ s2.ks.length ≤ gk) := ⟨hJ, hlen⟩
    have cK := hJ.fp.fs.cell (j := 2) rfl
    have hsg := ft_sign (b := 124) hJ.fp.kinds (by decide)
    have hsg' : (((ftB k2.k).toNat : Int) == 124) = k2.k.isSign 124 := hsg
    have HEq : Hid (s2.ks = k2 :: ks2) := hJ.fp.eq
    have szr := hJ.chg.size
    have hnl := hJ.fp.nlt
    obtain ⟨kb, hkb⟩ : ∃ kb : Int, kb = ((ftB k2.k).toNat : Int) := ⟨_, rfl⟩
    rw [← hkb] at hsg' cK
    clear hJ hlen hsg hkb
    cases hsn : k2.k.isSign 124
    case false =>
      rw [hsn] at hsg'
      have HR : Hid (FpO base g b off n cap t d (JoinR 124 15 R s) (.tuple #[]) nv w (.returned (.tuple #[])) wr) := ⟨HJ.out.1.chg, .inl ⟨s2, .inr ⟨s1, HR1.out, HJ.out.1.stp _ (.stop (by rw [HEq.out]; exact hsn))⟩, rfl, k2, ks2, p2, nv2, HJ.out.1.fp, HJ.out.1.loc⟩⟩
      clear hsn hnl
      go_wp2_with fail
      go_end0
      exact HR.out
    case true =>
    rw [hsn] at hsg'
    have Hsn : Hid ((hdK s2.ks).isSign 124 = true) := by show _ = _; rw [HEq.out]; exact hsn
    have HMk : Hid (Calls Tryz.prog 95 #[.pointer (some ⟨g, 0, none⟩)] wr (FpO base g b off n cap t d (fun r => r = makerF s2) (.agg (ftV k2).toArray) nv2 wr)) := takeMaker_core HJ.out.1.fs HJ.out.1.fp (sign_nofin hsn)
    have HL : Hid (∀ q, nv2.ownBlock = some q → base ≤ q ∧ q < wr.heap.size) := hnl
    clear hsn hnl
    go_wp2_with fail
    refine HMk.out.mono ?_
    rintro e w3 ⟨Hc3, (⟨s3, hs3, rfl, k3, ks3, p3, nv3, hF3, hn3⟩ | ⟨c, a, hs3, rfl⟩)⟩
    case inr =>
      have HD : Hid (FpO base g b off n cap t d (JoinR 124 15 R s) (.tuple #[]) nv w (Pf c (a : Int)) w3) := ⟨Chg.comp HJ.out.1.chg Hc3.out (fun q hq z => by
        rcases z with z | z
        · exact .inl z
        · rcases HJ.out.1.loc q z with y | y
          · exact .inr y
          · omega), .inr ⟨c, a, .inr ⟨s1, HR1.out, HJ.out.1.stp _ (.e1 Hsn.out hs3.symm)⟩, rfl⟩⟩
      clear hs3 HMk
      exact ⟨rfl, HD.out⟩
    have hcw3 : Chg (fun q => q = g ∨ nv.ownBlock = some q) w w3 := Chg.comp HJ.out.1.chg Hc3.out (fun q hq z => by
        rcases z with z | z
        · exact .inl z
        · rcases HJ.out.1.loc q z with y | y
          · exact .inr y
          · omega)
    have hloc3 : ∀ q, nv3.ownBlock = some q → nv.ownBlock = some q ∨ w.heap.size ≤ q := fun q hq => by
      rcases hn3 q hq with y | y
      · exact HJ.out.1.loc q y
      · right; omega
    have H3 : Hid (Fp base g b off n cap t d s3 k3 ks3 p3 nv3 w3 ∧ FpS base b off n cap t w3 ∧ Chg (fun q => q = g ∨ nv.ownBlock = some q) w w3 ∧ (∀ q, nv3.ownBlock = some q → nv.ownBlock = some q ∨ w.heap.size ≤ q) ∧ makerF s2 = .ok s3) := ⟨hF3, HJ.out.1.fs.of HJ.out.1.fp Hc3.out, hcw3, hloc3, hs3.symm⟩
    have HC3 : Hid (Calls Tryz.prog 64 #[.pointer (some ⟨g, 0, none⟩)] w3 (FpO base g b off n cap t d (R s3) (.tuple #[]) nv3 w3)) := H0.out.1 w3 s3 k3 ks3 p3 nv3 H3.out.2.1 hF3
    have sz3 := hcw3.size
    clear hs3 hF3 hn3 hcw3 hloc3 HMk cK
    go_wp2_with fail
    refine HC3.out.mono ?_
    rintro e w4 ⟨Hc4, (⟨s4, hs4, rfl, k4, ks4, p4, nv4, hF4, hn4⟩ | ⟨c, a, hs4, rfl⟩)⟩
    case inr =>
      have HD : Hid (FpO base g b off n cap t d (JoinR 124 15 R s) (.tuple #[]) nv w (Pf c (a : Int)) w4) := ⟨Chg.comp H3.out.2.2.1 Hc4.out (fun q hq z => by
        rcases z with z | z
        · exact .inl z
        · rcases H3.out.2.2.2.1 q z with y | y
          · exact .inr y
          · omega), .inr ⟨c, a, .inr ⟨s1, HR1.out, HJ.out.1.stp _ (.e2 Hsn.out H3.out.2.2.2.2 hs4)⟩, rfl⟩⟩
      clear hs4 HC3
      exact ⟨rfl, HD.out⟩
    obtain ⟨a4, m4, c4, rfl⟩ := hF4.form
    have HR4 : Hid (R s3 (.ok s4)) := hs4
    have H4 : Hid (Fp base g b off n cap t d s4 k4 ks4 p4 (.slice a4 m4 c4) w4 ∧ FpS base b off n cap t w4 ∧ Chg (fun q => q = g ∨ nv.ownBlock = some q) w w4 ∧ (∀ q, (Value.slice a4 m4 c4).ownBlock = some q → nv.ownBlock = some q ∨ w.heap.size ≤ q)) := ⟨hF4, H3.out.2.1.of H3.out.1 Hc4.out, Chg.comp H3.out.2.2.1 Hc4.out (fun q hq z => by
        rcases z with z | z
        · exact .inl z
        · rcases H3.out.2.2.2.1 q z with y | y
          · exact .inr y
          · omega), fun q hq => by
      rcases hn4 q hq with y | y
      · exact H3.out.2.2.2.1 q y
      · right; omega⟩
    have cN := hF4.fs.cell (j := 9) rfl
    have sz4 := H4.out.2.2.1.size
    have hg4 := hF4.fs.lt.2
    obtain ⟨W5, hW5⟩ : ∃ V : World, V = w4.alloc (Obj.cells #[.int .i64 15, .string ⟨#[]⟩, .bool false, .string ⟨#[]⟩, .int .u64 0, .int .u64 0, .int .i64 0] 65) := ⟨_, rfl⟩
    have hb5 : Below w4.heap.size w4 W5 := by rw [hW5]; exact (Below.refl _ _).alloc (Nat.le_refl _) _
    have HW5 : Hid (Fp base g b off n cap t d s4 k4 ks4 p4 (.slice a4 m4 c4) W5 ∧ NdsAt W5 w4.heap.size 0 [leafN 15] ∧ Below w4.heap.size w4 W5) := by
      refine ⟨hF4.below hb5, ?_, hb5⟩
      intro i e he
      cases i with
      | zero =>
        simp at he
        subst he
        rw [hW5]
        refine ⟨?_, ?_, ?_, ?_, ?_, ?_, ?_⟩ <;> simp [leafN, noS]
      | succ i => simp at he
    have sz5 := hb5.size
    have hbs : base ≤ W5.heap.size := by have := H4.out.2.1.sz; omega
    clear hs4 hF4 hn4 HC3 hb5
    go_wp2_with (at_builtin; (try rw [← hW5]); refine wpList_append_ndW _ rfl _ _ rfl base (.slice a4 m4 c4) w4.heap.size 0 1 1 s4.out (leafN 15) rfl rfl rfl HW5.out.1.nds HW5.out.2.1 ?hl ?hb ?_)
    case hl => have := HW5.out.1.ol; omega
    case hb => exact hbs
    intro g6 c6 w6 hO6 hgr hat
    have hgr2 : W5.grownBy w6 (Value.slice a4 m4 c4).ownBlock := by first | exact hgr | (rw [hW5]; exact hgr)
    have hat2 : (Value.slice a4 m4 c4).ownBlock = some g6 ∨ g6 = W5.heap.size := by first | exact hat | (rw [hW5]; exact hat) | (rw [hW5]; simpa using hat)
    have H6 : Hid (FsAt w6 base g b off n cap p4 (fpL k4 s4.made (20 - d) (.slice a4 m4 c4)) ∧ w6.ownsRow base 65 7 (.slice (some ⟨g6, 0, none⟩) (s4.out.length + 1) c6) (s4.out ++ [leafN 15]).length (cellsN (s4.out ++ [leafN 15])) ∧ Chg (fun q => q = g ∨ nv.ownBlock = some q) w w6 ∧ ¬ g6 = g ∧ (nv.ownBlock = some g6 ∨ w.heap.size ≤ g6) ∧ FpS base b off n cap t w6) := by
      have hc6 : Chg (fun q => (Value.slice a4 m4 c4).ownBlock = some q) W5 w6 := Chg.of_grown hgr2 (fun q hq => hq)
      have hF5 := HW5.out.1
      have hcw5 : Chg (fun q => q = g ∨ nv.ownBlock = some q) w W5 := Chg.comp H4.out.2.2.1 (Chg.of_below HW5.out.2.2 (S := fun _ => False)) (fun q _ z => z.elim)
      refine ⟨BoxAt.chg hF5.fs hc6 (fun z => hF5.ap _ z rfl), by rw [List.length_append]; exact hO6, Chg.comp hcw5 hc6 (fun q hq z => ?_), ?_, ?_, ?_⟩
      · rcases H4.out.2.2.2 q z with y | y
        · exact .inr y
        · omega
      · rcases hat2 with z | z
        · exact fun q => hF5.ap _ z q
        · have := hF5.fs.lt.2; omega
      · rcases hat2 with z | z
        · exact H4.out.2.2.2 _ z
        · right; omega
      · refine (H4.out.2.1.up (HW5.out.2.2.mono H4.out.2.1.sz)).chg hc6 (fun q z => (hF5.nlt q z).1)
    clear hO6 hgr hgr2 hat hat2 hW5 cN
    have cN := H6.out.1.cell (j := 9) rfl
    have fN := H6.out.1.frozen 9
    have HR : Hid (∃ (s2' : Ps) (k2' : Tk) (ks2' : List Tk) (p2' : Nat) (nv2' : Value), s2'.ks.length ≤ s4.ks.length ∧ JnJ base g b off n cap t d 124 15 R nv w s1 s2' k2' ks2' p2' nv2' (w6.setCell ⟨g, 9, none⟩ (.slice (some ⟨g6, 0, none⟩) (s4.out.length + 1) c6))) := by
      have hc9 : Chg (fun q => q = g) w6 (w6.setCell ⟨g, 9, none⟩ (.slice (some ⟨g6, 0, none⟩) (s4.out.length + 1) c6)) := Chg.of_set _ _ _ _ rfl
      have h6 := H6.out
      have h4 := H4.out.1
      have hmk := makerF_len H3.out.2.2.2.2
      refine ⟨s4.add (leafN 15), k4, ks4, p4, .slice (some ⟨g6, 0, none⟩) (s4.out.length + 1) c6, Nat.le_refl _, ⟨h4.eq, BoxAt.set h6.1 9 _, h4.pn, h4.lx, h4.nb, h4.tk, h4.md, h4.dd, own_chg h6.2.1 hc9 (fun q hq z => ?_), fun q hq => ?_, ?_⟩, h6.2.2.2.2.2.chg hc9 (fun q z => ?_), Chg.comp h6.2.2.1 hc9 (fun q _ z => .inl z), fun q hq => ?_, fun r hr => HJ.out.1.stp r (.more Hsn.out H3.out.2.2.2.2 HR4.out hr)⟩
      · simp [Value.ownBlock] at hq; exact h6.2.2.2.1 (hq.trans z)
      · simp [Value.ownBlock] at hq; rw [← hq]; exact h6.2.2.2.1
      · show (s4.out ++ [leafN 15]).length + s4.ks.length ≤ 200000
        rw [List.length_append, List.length_singleton]
        have h1 := makerF_len H3.out.2.2.2.2
        have h2 := (H0.out.2.1 s3 s4 HR4.out).2
        have h5 := h1.2 (by rw [HEq.out]; simp)
        have h7 := HJ.out.1.fp.ol
        rw [h1.1.2] at h2
        omega
      · rw [z]; exact h4.fs.lt.1
      · simp [Value.ownBlock] at hq; rw [← hq]; exact h6.2.2.2.2.1
    have hlt : s4.ks.length < gk := by
      have h1 := makerF_len H3.out.2.2.2.2
      have h2 := (H0.out.2.1 s3 s4 HR4.out).1
      have h3 := HJ.out.2
      have h5 := h1.2 (by rw [HEq.out]; simp)
      omega
    go_wp2_with fail
    go_roundg (s4.ks.length)
    case measure => exact hlt
    case rel => exact HR.out
end Go.Proofs.YtgnpcenpcmdlfaaGreatDoor

/-
  The descent gives no token back, and makes no more nodes than it takes tokens.
-/
namespace Go.Proofs.YtgnpcenpcmdlfaaGreatDoor
set_option linter.unusedVariables false
set_option linter.unusedSimpArgs false

def Mon2 (c : Nat) (A : Ps → PR Ps → Prop) : Prop := ∀ s s1, A s (.ok s1) → s1.ks.length ≤ s.ks.length ∧ s1.out.length + s1.ks.length ≤ s.out.length + s.ks.length + c
theorem mon2_zero {A : Ps → PR Ps → Prop} (h : Mon2 0 A) : MonR A := fun s s1 q => by have := h s s1 q; exact ⟨this.1, by omega⟩
theorem monR_two {A : Ps → PR Ps → Prop} (h : MonR A) : Mon2 0 A := fun s s1 q => by have := h s s1 q; exact ⟨this.1, by omega⟩
theorem mon2_bind {A B : Ps → PR Ps → Prop} {c e : Nat} (hA : Mon2 c A) (hB : Mon2 e B) : Mon2 (c + e) (bindR A B) := by
  intro s s1 h
  rcases h with ⟨_, _, q⟩ | ⟨s2, h1, h2⟩
  · cases q
  · have a := hA s s2 h1
    have b := hB s2 s1 h2
    exact ⟨by omega, by omega⟩
theorem to_ok {s s1 : Ps} {r : PR (List Tk)} (h : s.to r = .ok s1) : ∃ ks, r = .ok ks ∧ s1 = { s with ks := ks } := by
  cases r with
  | error e => cases h
  | ok ks => cases h; exact ⟨ks, rfl, rfl⟩
theorem expectF_len {b : UInt8} {ks ks' : List Tk} (h : expectF b ks = .ok ks') : ks'.length ≤ ks.length := by
  unfold expectF at h
  split at h
  · exact (takeF_len h).1
  · cases h
theorem mon2_expect (b : UInt8) : Mon2 0 (fnR fun s => s.to (expectF b s.ks)) := by
  intro s s1 h
  obtain ⟨ks, h1, rfl⟩ := to_ok h.symm
  have := expectF_len h1
  exact ⟨this, by show s.out.length + ks.length ≤ _; omega⟩
theorem mon2_enter (d : Nat) : Mon2 0 (fnR (enterF d)) := by
  intro s s1 h
  have h' : Except.ok s1 = enterF d s := h
  unfold enterF at h'
  split at h'
  · split at h'
    · cases h'
    · obtain ⟨ks, h1, rfl⟩ := to_ok h'.symm
      have := (takeF_len h1).1
      exact ⟨this, by show s.out.length + ks.length ≤ _; omega⟩
  · cases h'
theorem upF_len {k : Int} {st : Bool} {a : TkK} {ks ks' : List Tk} {e : Nd} (h : upF k st a ks = .ok (ks', e)) : ks'.length ≤ ks.length := by
  unfold upF at h
  split at h
  · split at h
    · cases hq : takeF ks with
      | error e => rw [hq] at h; cases h
      | ok k2 => rw [hq] at h; cases h; exact (takeF_len hq).1
    · cases h
  · cases h; exact Nat.le_refl _
theorem dotsF_len {k : Int} {st : Bool} {a : TkK} {ks ks' : List Tk} {e : Nd} (h : dotsF k st a ks = .ok (ks', e)) : ks'.length ≤ ks.length := by
  unfold dotsF at h
  cases hq : expectF 46 ks with
  | error e => rw [hq] at h; cases h
  | ok k2 => rw [hq] at h; exact Nat.le_trans (upF_len h) (expectF_len hq)
theorem rangeF_len {k : Int} {st : Bool} {ks ks' : List Tk} {e : Nd} (h : rangeF k st ks = .ok (ks', e)) : ks'.length ≤ ks.length := by
  unfold rangeF at h
  split at h
  · cases hq : takeF ks with
    | error e => rw [hq] at h; cases h
    | ok k2 => rw [hq] at h; exact Nat.le_trans (dotsF_len h) (takeF_len hq).1
  · exact dotsF_len h
theorem argsF_len {k : Int} {ks ks' : List Tk} {e : Nd} (h : argsF k ks = .ok (ks', e)) : ks'.length ≤ ks.length := by
  unfold argsF at h
  split at h
  · cases h; exact Nat.le_refl _
  split at h
  · split at h
    · split at h
      · cases hq : takeF ks with
        | error e => rw [hq] at h; cases h
        | ok k2 => rw [hq] at h; cases h; exact (takeF_len hq).1
      · cases h
    · cases h
  split at h
  · exact rangeF_len h
  split at h
  · exact rangeF_len h
  split at h
  · split at h
    · cases hq : takeF ks with
      | error e => rw [hq] at h; cases h
      | ok k2 => rw [hq] at h; cases h; exact (takeF_len hq).1
    · cases h
  · cases h
theorem mon2_arg (k : Int) : Mon2 1 (fnR (argF k)) := by
  intro s s1 h
  have h' : Except.ok s1 = argF k s := h
  unfold argF at h'
  cases hq : argsF k s.ks with
  | error e => rw [hq] at h'; cases h'
  | ok q =>
    obtain ⟨ks, nd⟩ := q
    rw [hq] at h'
    cases h'
    have := argsF_len hq
    exact ⟨this, by show (s.out ++ [nd]).length + ks.length ≤ _; rw [List.length_append, List.length_singleton]; omega⟩
/-- A token that makes a node has been taken. -/
theorem mon_maker {A : Ps → PR Ps → Prop} (hA : Mon2 1 A) {s s1 : Ps} (hne : s.ks ≠ []) (h : bindR (fnR makerF) A s (.ok s1)) : s1.ks.length ≤ s.ks.length ∧ s1.out.length + s1.ks.length ≤ s.out.length + s.ks.length := by
  rcases h with ⟨_, _, q⟩ | ⟨s2, h1, h2⟩
  · cases q
  · have a := makerF_len (Eq.symm h1)
    have b := hA s2 s1 h2
    have a2 := a.2 hne
    have a3 := congrArg List.length a.1.2
    exact ⟨by omega, by omega⟩
theorem hd_ne {ks : List Tk} {k : Int} (h : hdK ks = .word k) : ks ≠ [] := fun q => by rw [q] at h; cases h
theorem mon_prim {F : Ps → PR Ps → Prop} (hF : MonR F) (d : Nat) : MonR (PrimR F d) := by
  have f2 := monR_two hF
  intro s s1 h
  rcases h with ⟨_, h⟩ | ⟨hw, h⟩ | ⟨k, hw, _, h⟩ | ⟨_, _, q⟩
  · have := mon2_bind (mon2_enter d) (mon2_bind f2 (mon2_expect 41)) s s1 h
    exact ⟨this.1, by omega⟩
  · refine mon_maker (A := bindR (BranR F d) (fnR fun s => .ok (s.add (leafN 16)))) ?_ (hd_ne hw) h
    have hb : Mon2 0 (BranR F d) := by
      have := mon2_bind (mon2_enter d) (mon2_bind f2 (mon2_bind (mon2_expect 44) (mon2_bind f2 (mon2_bind (mon2_expect 44) (mon2_bind f2 (mon2_expect 41))))))
      exact this
    have ha : Mon2 1 (fnR fun s => .ok (s.add (leafN 16))) := by
      intro s s1 h
      have h' : Except.ok s1 = Except.ok (s.add (leafN 16)) := h
      cases h'
      exact ⟨Nat.le_refl _, by show (s.out ++ [leafN 16]).length + s.ks.length ≤ _; rw [List.length_append, List.length_singleton]; omega⟩
    have := mon2_bind hb ha
    exact this
  · exact mon_maker (mon2_arg k) (hd_ne hw) h
  · cases q
theorem mon_loop {sg : UInt8} {kd : Int} {R : Ps → PR Ps → Prop} (hR : MonR R) {s : Ps} {r : PR Ps} (h : LoopR sg kd R s r) : ∀ s1, r = .ok s1 → s1.ks.length ≤ s.ks.length ∧ s1.out.length + s1.ks.length ≤ s.out.length + s.ks.length := by
  induction h with
  | stop h => intro s1 q; cases q; exact ⟨Nat.le_refl _, Nat.le_refl _⟩
  | e1 _ _ => intro s1 q; cases q
  | e2 _ _ _ => intro s1 q; cases q
  | @more s s1 s2 r hs h1 h2 h3 ih =>
    intro s9 q
    have a := makerF_len h1
    have b := hR s1 s2 h2
    have c := ih s9 q
    have hne : s.ks ≠ [] := fun z => by rw [z] at hs; cases hs
    have a2 := a.2 hne
    have a3 := congrArg List.length a.1.2
    have c1 : (s2.add (leafN kd)).ks.length = s2.ks.length := rfl
    have c2 : (s2.add (leafN kd)).out.length = s2.out.length + 1 := by show (s2.out ++ [leafN kd]).length = _; simp
    exact ⟨by omega, by omega⟩
theorem mon_join {sg : UInt8} {kd : Int} {R : Ps → PR Ps → Prop} (hR : MonR R) : MonR (JoinR sg kd R) := by
  intro s s1 h
  rcases h with ⟨_, _, q⟩ | ⟨s2, h1, h2⟩
  · cases q
  · have a := hR s s2 h1
    have b := mon_loop hR h2 s1 rfl
    exact ⟨by omega, by omega⟩
theorem mon_fil : ∀ d, MonR (FilR d)
  | 0 => mon_join (mon_join (mon_prim (fun _ _ q => q.elim) 0))
  | d + 1 => mon_join (mon_join (mon_prim (mon_fil d) (d + 1)))
end Go.Proofs.YtgnpcenpcmdlfaaGreatDoor

/-
  (*impl.filterParser): chain, filter, branches.
-/
namespace Go.Proofs.YtgnpcenpcmdlfaaGreatDoor
open Go.ChangeShapes Go.WideShapes Go.ChangeAt Go.RowKit Go.Deep
set_option linter.unusedVariables false
set_option linter.unusedSimpArgs false
set_option maxRecDepth 100000

/-- One function behind another. -/
theorem FpO.seq {base g b off n cap : Nat} {t : List UInt8} {d2 : Nat} {A A2 : PR Ps → Prop} {V : Value} {nv nv1 : Value} {w w1 w2 : World} {e : Ending} (hc1 : Chg (fun q => q = g ∨ nv.ownBlock = some q) w w1) (hl1 : ∀ q, nv1.ownBlock = some q → nv.ownBlock = some q ∨ w.heap.size ≤ q) (h2 : FpO base g b off n cap t d2 A2 V nv1 w1 e w2) (hA : ∀ r, A2 r → A r) : FpO base g b off n cap t d2 A V nv w e w2 := by
  obtain ⟨hc2, h2⟩ := h2
  have hs := hc1.size
  refine ⟨Chg.comp hc1 hc2.out (fun q hq z => ?_), ?_⟩
  · rcases z with z | z
    · exact .inl z
    · rcases hl1 q z with y | y
      · exact .inr y
      · omega
  · rcases h2 with ⟨s1, ha, rfl, k, ks, p, nv', hF, hl⟩ | ⟨c, a, ha, rfl⟩
    · refine .inl ⟨s1, hA _ ha, rfl, k, ks, p, nv', hF, fun q hq => ?_⟩
      rcases hl q hq with y | y
      · exact hl1 q y
      · right; omega
    · exact .inr ⟨c, a, hA _ ha, rfl⟩
set_option maxHeartbeats 2000000 in
theorem chain_of {base g b off n cap : Nat} {t : List UInt8} {d : Nat} {R : Ps → PR Ps → Prop} (HO : OprC base g b off n cap t d 96 R) (hM : MonR R) : OprC base g b off n cap t d 64 (JoinR 62 14 R) := by
  intro w s k ks p nv hS h
  have HJ : Hid (Calls Tryz.prog 63 #[.pointer (some ⟨g, 0, none⟩), .int .u8 62, .int .i64 14, .func (Fn.func 96) #[.pointer (some ⟨g, 0, none⟩)] #[]] w (FpO base g b off n cap t d (JoinR 62 14 R s) (.tuple #[]) nv w)) := joined_prim HO hM hS h
  clear hS h HO hM
  go_enter Tryz.func64, Tryz.ntmps64
  go_wp2_with fail
  refine HJ.out.mono ?_
  rintro e w1 ⟨Hc, (⟨s1, hs1, rfl, hQ⟩ | ⟨c, a, hs1, rfl⟩)⟩
  · have HR : Hid (FpO base g b off n cap t d (JoinR 62 14 R s) (.tuple #[]) nv w (.returned (.tuple #[])) w1) := ⟨Hc, .inl ⟨s1, hs1, rfl, hQ⟩⟩
    clear hs1 hQ HJ
    go_wp2_with fail
    go_end0
    exact HR.out
  · have HD : Hid (FpO base g b off n cap t d (JoinR 62 14 R s) (.tuple #[]) nv w (Pf c (a : Int)) w1) := ⟨Hc, .inr ⟨c, a, hs1, rfl⟩⟩
    clear hs1 HJ
    exact ⟨rfl, HD.out⟩
set_option maxHeartbeats 2000000 in
theorem filter_of {base g b off n cap : Nat} {t : List UInt8} {d : Nat} {R : Ps → PR Ps → Prop} (HO : OprC base g b off n cap t d 64 R) (hM : MonR R) : OprC base g b off n cap t d 26 (JoinR 124 15 R) := by
  intro w s k ks p nv hS h
  have HJ : Hid (Calls Tryz.prog 63 #[.pointer (some ⟨g, 0, none⟩), .int .u8 124, .int .i64 15, .func (Fn.func 64) #[.pointer (some ⟨g, 0, none⟩)] #[]] w (FpO base g b off n cap t d (JoinR 124 15 R s) (.tuple #[]) nv w)) := joined_chain HO hM hS h
  clear hS h HO hM
  go_enter Tryz.func26, Tryz.ntmps26
  go_wp2_with fail
  refine HJ.out.mono ?_
  rintro e w1 ⟨Hc, (⟨s1, hs1, rfl, hQ⟩ | ⟨c, a, hs1, rfl⟩)⟩
  · have HR : Hid (FpO base g b off n cap t d (JoinR 124 15 R s) (.tuple #[]) nv w (.returned (.tuple #[])) w1) := ⟨Hc, .inl ⟨s1, hs1, rfl, hQ⟩⟩
    clear hs1 hQ HJ
    go_wp2_with fail
    go_end0
    exact HR.out
  · have HD : Hid (FpO base g b off n cap t d (JoinR 124 15 R s) (.tuple #[]) nv w (Pf c (a : Int)) w1) := ⟨Hc, .inr ⟨c, a, hs1, rfl⟩⟩
    clear hs1 HJ
    exact ⟨rfl, HD.out⟩
set_option maxHeartbeats 8000000 in
theorem branches_core {base g b off n cap : Nat} {t : List UInt8} {d : Nat} {s : Ps} {k : Tk} {ks : List Tk} {p : Nat} {nv : Value} {w : World} {F : Ps → PR Ps → Prop} (HF : 0 < d → OprC base g b off n cap t (d - 1) 26 F) (hS : FpS base b off n cap t w) (h : Fp base g b off n cap t d s k ks p nv w) :
    Calls Tryz.prog 128 #[.pointer (some ⟨g, 0, none⟩)] w (FpO base g b off n cap t d (BranR F d s) (.tuple #[]) nv w) := by
  have hdd := h.dd
  have H0 : Hid (FpS base b off n cap t w ∧ Fp base g b off n cap t d s k ks p nv w) := ⟨hS, h⟩
  have HFl : Hid (0 < d → OprC base g b off n cap t (d - 1) 26 F) := HF
  have HC0 : Hid (Calls Tryz.prog 115 #[.pointer (some ⟨g, 0, none⟩)] w (FpO base g b off n cap t (d - 1) (fun r => r = enterF d s) (.tuple #[]) nv w)) := enter_core hS h
  clear HF hS h
  go_enter Tryz.func128, Tryz.ntmps128
  go_wp2_with fail
  refine HC0.out.mono ?_
  rintro e w1 ⟨Hc1, (⟨s1, hs1, rfl, k1, ks1, p1, nv1, hF1, hn1⟩ | ⟨c, a, hs1, rfl⟩)⟩
  case inr =>
    have HD : Hid (FpO base g b off n cap t d (BranR F d s) (.tuple #[]) nv w (Pf c (a : Int)) w1) := ⟨Hc1.out, .inr ⟨c, a, .inl ⟨_, hs1, rfl⟩, rfl⟩⟩
    clear hs1 HC0
    exact ⟨rfl, HD.out⟩
  have hd0 : 0 < d := by
    rcases Nat.eq_zero_or_pos d with q | q
    · exfalso
      have h9 : Except.ok s1 = enterF d s := hs1
      rw [q] at h9
      unfold enterF at h9
      split at h9 <;> first | cases h9 | (simp at h9)
    · exact q
  have HQ1 : Hid (Fp base g b off n cap t (d - 1) s1 k1 ks1 p1 nv1 w1 ∧ FpS base b off n cap t w1 ∧ Chg (fun q => q = g ∨ nv.ownBlock = some q) w w1 ∧ (∀ q, nv1.ownBlock = some q → nv.ownBlock = some q ∨ w.heap.size ≤ q) ∧ (∀ r, (bindR F (bindR (fnR commaF) (bindR F (bindR (fnR commaF) (bindR F (fnR leaveF)))))) s1 r → BranR F d s r)) := ⟨hF1, H0.out.1.of H0.out.2 Hc1.out, Hc1.out, hn1, fun r hr => .inr ⟨s1, hs1, hr⟩⟩
  have sz1 := HQ1.out.2.2.1.size
  have HC1 : Hid (Calls Tryz.prog 26 #[.pointer (some ⟨g, 0, none⟩)] w1 (FpO base g b off n cap t (d - 1) (F s1) (.tuple #[]) nv1 w1)) := HFl.out hd0 w1 s1 k1 ks1 p1 nv1 HQ1.out.2.1 hF1
  clear hs1 hF1 hn1 HC0
  go_wp2_with fail
  refine HC1.out.mono ?_
  rintro e w2 ⟨Hc2, (⟨s2, hs2, rfl, k2, ks2, p2, nv2, hF2, hn2⟩ | ⟨c, a, hs2, rfl⟩)⟩
  case inr =>
    have HD : Hid (FpO base g b off n cap t d (BranR F d s) (.tuple #[]) nv w (Pf c (a : Int)) w2) := ⟨Chg.comp HQ1.out.2.2.1 Hc2.out (fun q hq z => by
      rcases z with z | z
      · exact .inl z
      · rcases HQ1.out.2.2.2.1 q z with y | y
        · exact .inr y
        · omega), .inr ⟨c, a, HQ1.out.2.2.2.2 _ (.inl ⟨_, hs2, rfl⟩), rfl⟩⟩
    clear hs2 HC1
    exact ⟨rfl, HD.out⟩
  have HQ2 : Hid (Fp base g b off n cap t (d - 1) s2 k2 ks2 p2 nv2 w2 ∧ FpS base b off n cap t w2 ∧ Chg (fun q => q = g ∨ nv.ownBlock = some q) w w2 ∧ (∀ q, nv2.ownBlock = some q → nv.ownBlock = some q ∨ w.heap.size ≤ q) ∧ (∀ r, (bindR (fnR commaF) (bindR F (bindR (fnR commaF) (bindR F (fnR leaveF))))) s2 r → BranR F d s r)) := ⟨hF2, HQ1.out.2.1.of HQ1.out.1 Hc2.out, (Chg.comp HQ1.out.2.2.1 Hc2.out (fun q hq z => by
      rcases z with z | z
      · exact .inl z
      · rcases HQ1.out.2.2.2.1 q z with y | y
        · exact .inr y
        · omega)), (fun q hq => by
      rcases hn2 q hq with y | y
      · exact HQ1.out.2.2.2.1 q y
      · right; omega), fun r hr => HQ1.out.2.2.2.2 r (.inr ⟨s2, hs2, hr⟩)⟩
  have sz2 := HQ2.out.2.2.1.size
  have HC2 : Hid (Calls Tryz.prog 127 #[.pointer (some ⟨g, 0, none⟩), .int .u8 44] w2 (FpO base g b off n cap t (d - 1) (fun r => r = s2.to (expectF 44 s2.ks)) (.agg (ftV k2).toArray) nv2 w2)) := expect_core HQ2.out.2.1 hF2 (bb := 44) (.inr (.inr (.inl rfl)))
  clear hs2 hF2 hn2 HC1
  go_wp2_with fail
  refine HC2.out.mono ?_
  rintro e w3 ⟨Hc3, (⟨s3, hs3, rfl, k3, ks3, p3, nv3, hF3, hn3⟩ | ⟨c, a, hs3, rfl⟩)⟩
  case inr =>
    have HD : Hid (FpO base g b off n cap t d (BranR F d s) (.tuple #[]) nv w (Pf c (a : Int)) w3) := ⟨Chg.comp HQ2.out.2.2.1 Hc3.out (fun q hq z => by
      rcases z with z | z
      · exact .inl z
      · rcases HQ2.out.2.2.2.1 q z with y | y
        · exact .inr y
        · omega), .inr ⟨c, a, HQ2.out.2.2.2.2 _ (.inl ⟨_, hs3, rfl⟩), rfl⟩⟩
    clear hs3 HC2
    exact ⟨rfl, HD.out⟩
  have HQ3 : Hid (Fp base g b off n cap t (d - 1) s3 k3 ks3 p3 nv3 w3 ∧ FpS base b off n cap t w3 ∧ Chg (fun q => q = g ∨ nv.ownBlock = some q) w w3 ∧ (∀ q, nv3.ownBlock = some q → nv.ownBlock = some q ∨ w.heap.size ≤ q) ∧ (∀ r, (bindR F (bindR (fnR commaF) (bindR F (fnR leaveF)))) s3 r → BranR F d s r)) := ⟨hF3, HQ2.out.2.1.of HQ2.out.1 Hc3.out, (Chg.comp HQ2.out.2.2.1 Hc3.out (fun q hq z => by
      rcases z with z | z
      · exact .inl z
      · rcases HQ2.out.2.2.2.1 q z with y | y
        · exact .inr y
        · omega)), (fun q hq => by
      rcases hn3 q hq with y | y
      · exact HQ2.out.2.2.2.1 q y
      · right; omega), fun r hr => HQ2.out.2.2.2.2 r (.inr ⟨s3, hs3, hr⟩)⟩
  have sz3 := HQ3.out.2.2.1.size
  have HC3 : Hid (Calls Tryz.prog 26 #[.pointer (some ⟨g, 0, none⟩)] w3 (FpO base g b off n cap t (d - 1) (F s3) (.tuple #[]) nv3 w3)) := HFl.out hd0 w3 s3 k3 ks3 p3 nv3 HQ3.out.2.1 hF3
  clear hs3 hF3 hn3 HC2
  go_wp2_with fail
  refine HC3.out.mono ?_
  rintro e w4 ⟨Hc4, (⟨s4, hs4, rfl, k4, ks4, p4, nv4, hF4, hn4⟩ | ⟨c, a, hs4, rfl⟩)⟩
  case inr =>
    have HD : Hid (FpO base g b off n cap t d (BranR F d s) (.tuple #[]) nv w (Pf c (a : Int)) w4) := ⟨Chg.comp HQ3.out.2.2.1 Hc4.out (fun q hq z => by
      rcases z with z | z
      · exact .inl z
      · rcases HQ3.out.2.2.2.1 q z with y | y
        · exact .inr y
        · omega), .inr ⟨c, a, HQ3.out.2.2.2.2 _ (.inl ⟨_, hs4, rfl⟩), rfl⟩⟩
    clear hs4 HC3
    exact ⟨rfl, HD.out⟩
  have HQ4 : Hid (Fp base g b off n cap t (d - 1) s4 k4 ks4 p4 nv4 w4 ∧ FpS base b off n cap t w4 ∧ Chg (fun q => q = g ∨ nv.ownBlock = some q) w w4 ∧ (∀ q, nv4.ownBlock = some q → nv.ownBlock = some q ∨ w.heap.size ≤ q) ∧ (∀ r, (bindR (fnR commaF) (bindR F (fnR leaveF))) s4 r → BranR F d s r)) := ⟨hF4, HQ3.out.2.1.of HQ3.out.1 Hc4.out, (Chg.comp HQ3.out.2.2.1 Hc4.out (fun q hq z => by
      rcases z with z | z
      · exact .inl z
      · rcases HQ3.out.2.2.2.1 q z with y | y
        · exact .inr y
        · omega)), (fun q hq => by
      rcases hn4 q hq with y | y
      · exact HQ3.out.2.2.2.1 q y
      · right; omega), fun r hr => HQ3.out.2.2.2.2 r (.inr ⟨s4, hs4, hr⟩)⟩
  have sz4 := HQ4.out.2.2.1.size
  have HC4 : Hid (Calls Tryz.prog 127 #[.pointer (some ⟨g, 0, none⟩), .int .u8 44] w4 (FpO base g b off n cap t (d - 1) (fun r => r = s4.to (expectF 44 s4.ks)) (.agg (ftV k4).toArray) nv4 w4)) := expect_core HQ4.out.2.1 hF4 (bb := 44) (.inr (.inr (.inl rfl)))
  clear hs4 hF4 hn4 HC3
  go_wp2_with fail
  refine HC4.out.mono ?_
  rintro e w5 ⟨Hc5, (⟨s5, hs5, rfl, k5, ks5, p5, nv5, hF5, hn5⟩ | ⟨c, a, hs5, rfl⟩)⟩
  case inr =>
    have HD : Hid (FpO base g b off n cap t d (BranR F d s) (.tuple #[]) nv w (Pf c (a : Int)) w5) := ⟨Chg.comp HQ4.out.2.2.1 Hc5.out (fun q hq z => by
      rcases z with z | z
      · exact .inl z
      · rcases HQ4.out.2.2.2.1 q z with y | y
        · exact .inr y
        · omega), .inr ⟨c, a, HQ4.out.2.2.2.2 _ (.inl ⟨_, hs5, rfl⟩), rfl⟩⟩
    clear hs5 HC4
    exact ⟨rfl, HD.out⟩
  have HQ5 : Hid (Fp base g b off n cap t (d - 1) s5 k5 ks5 p5 nv5 w5 ∧ FpS base b off n cap t w5 ∧ Chg (fun q => q = g ∨ nv.ownBlock = some q) w w5 ∧ (∀ q, nv5.ownBlock = some q → nv.ownBlock = some q ∨ w.heap.size ≤ q) ∧ (∀ r, (bindR F (fnR leaveF)) s5 r → BranR F d s r)) := ⟨hF5, HQ4.out.2.1.of HQ4.out.1 Hc5.out, (Chg.comp HQ4.out.2.2.1 Hc5.out (fun q hq z => by
      rcases z with z | z
      · exact .inl z
      · rcases HQ4.out.2.2.2.1 q z with y | y
        · exact .inr y
        · omega)), (fun q hq => by
      rcases hn5 q hq with y | y
      · exact HQ4.out.2.2.2.1 q y
      · right; omega), fun r hr => HQ4.out.2.2.2.2 r (.inr ⟨s5, hs5, hr⟩)⟩
  have sz5 := HQ5.out.2.2.1.size
  have HC5 : Hid (Calls Tryz.prog 26 #[.pointer (some ⟨g, 0, none⟩)] w5 (FpO base g b off n cap t (d - 1) (F s5) (.tuple #[]) nv5 w5)) := HFl.out hd0 w5 s5 k5 ks5 p5 nv5 HQ5.out.2.1 hF5
  clear hs5 hF5 hn5 HC4
  go_wp2_with fail
  refine HC5.out.mono ?_
  rintro e w6 ⟨Hc6, (⟨s6, hs6, rfl, k6, ks6, p6, nv6, hF6, hn6⟩ | ⟨c, a, hs6, rfl⟩)⟩
  case inr =>
    have HD : Hid (FpO base g b off n cap t d (BranR F d s) (.tuple #[]) nv w (Pf c (a : Int)) w6) := ⟨Chg.comp HQ5.out.2.2.1 Hc6.out (fun q hq z => by
      rcases z with z | z
      · exact .inl z
      · rcases HQ5.out.2.2.2.1 q z with y | y
        · exact .inr y
        · omega), .inr ⟨c, a, HQ5.out.2.2.2.2 _ (.inl ⟨_, hs6, rfl⟩), rfl⟩⟩
    clear hs6 HC5
    exact ⟨rfl, HD.out⟩
  have HQ6 : Hid (Fp base g b off n cap t (d - 1) s6 k6 ks6 p6 nv6 w6 ∧ FpS base b off n cap t w6 ∧ Chg (fun q => q = g ∨ nv.ownBlock = some q) w w6 ∧ (∀ q, nv6.ownBlock = some q → nv.ownBlock = some q ∨ w.heap.size ≤ q) ∧ (∀ r, (fnR leaveF) s6 r → BranR F d s r)) := ⟨hF6, HQ5.out.2.1.of HQ5.out.1 Hc6.out, (Chg.comp HQ5.out.2.2.1 Hc6.out (fun q hq z => by
      rcases z with z | z
      · exact .inl z
      · rcases HQ5.out.2.2.2.1 q z with y | y
        · exact .inr y
        · omega)), (fun q hq => by
      rcases hn6 q hq with y | y
      · exact HQ5.out.2.2.2.1 q y
      · right; omega), fun r hr => HQ5.out.2.2.2.2 r (.inr ⟨s6, hs6, hr⟩)⟩
  have sz6 := HQ6.out.2.2.1.size
  have HC6 : Hid (Calls Tryz.prog 116 #[.pointer (some ⟨g, 0, none⟩)] w6 (FpO base g b off n cap t (d - 1 + 1) (fun r => r = leaveF s6) (.tuple #[]) nv6 w6)) := leave_core HQ6.out.2.1 hF6 (by omega)
  clear hs6 hF6 hn6 HC5
  go_wp2_with fail
  refine HC6.out.mono ?_
  rintro e w7 ⟨Hc7, (⟨s7, hs7, rfl, k7, ks7, p7, nv7, hF7, hn7⟩ | ⟨c, a, hs7, rfl⟩)⟩
  case inr =>
    have HD : Hid (FpO base g b off n cap t d (BranR F d s) (.tuple #[]) nv w (Pf c (a : Int)) w7) := ⟨Chg.comp HQ6.out.2.2.1 Hc7.out (fun q hq z => by
      rcases z with z | z
      · exact .inl z
      · rcases HQ6.out.2.2.2.1 q z with y | y
        · exact .inr y
        · omega), .inr ⟨c, a, HQ6.out.2.2.2.2 _ (hs7), rfl⟩⟩
    clear hs7 HC6
    exact ⟨rfl, HD.out⟩
  have HR : Hid (FpO base g b off n cap t d (BranR F d s) (.tuple #[]) nv w (.returned (.tuple #[])) w7) := by
    have h9 : FpO base g b off n cap t (d - 1 + 1) (fun r => r = leaveF s6) (.tuple #[]) nv6 w6 (.returned (.tuple #[])) w7 := ⟨Hc7.out, .inl ⟨s7, hs7, rfl, k7, ks7, p7, nv7, hF7, hn7⟩⟩
    rw [show d - 1 + 1 = d by omega] at h9
    exact FpO.seq HQ6.out.2.2.1 HQ6.out.2.2.2.1 h9 (fun r hr => HQ6.out.2.2.2.2 r hr)
  clear hs7 hF7 hn7 HC6
  go_wp2_with fail
  go_end0
  exact HR.out
end Go.Proofs.YtgnpcenpcmdlfaaGreatDoor

