/-
  (*impl.filterParser).ends: a range.
-/
import Derived.Test.YtgnpcenpcmdlfaaGreatDoorRFpH
import Derived.Test.YtgnpcenpcmdlfaaGreatDoorZkAC
namespace Go.Proofs.YtgnpcenpcmdlfaaGreatDoor
open Go.ChangeShapes Go.WideShapes Go.ChangeAt Go.RowKit Go.Deep
set_option linter.unusedVariables false
set_option linter.unusedSimpArgs false
set_option maxRecDepth 100000

def liftP (s : Ps) (r : PR (List Tk × Nd)) : PR (Ps × Nd) := match r with
  | .error e => .error e
  | .ok (ks, nd) => .ok ({ s with ks := ks }, nd)
theorem argP_lift (kd : Int) (s : Ps) : argP kd s = liftP s (argsF kd s.ks) := rfl
/-- The call of ends under way: the low end's token a. -/
structure EnJ (w : World) (base g b off n cap : Nat) (t : List UInt8) (d : Nat) (nv0 : Value) (a : Tk) (s : Ps) (k : Tk) (ks : List Tk) (p : Nat) (nv : Value) (W : World) : Prop where
  fp : Fp base g b off n cap t d s k ks p nv W
  st : FpS base b off n cap t W
  res : BoxAt W w.heap.size 65 7 w.heap.size [.int .i64 0, .string ⟨#[]⟩, .bool false, .string ⟨#[]⟩, .int .u64 0, .int .u64 0, .int .i64 0]
  low : BoxAt W w.heap.size 52 5 (w.heap.size + 1) (ftV a)
  chg : Chg (fun q => q = g ∨ nv0.ownBlock = some q) w W
  old : ∀ q, nv0.ownBlock = some q → q < w.heap.size
  own : ∀ q, nv.ownBlock = some q → (nv0.ownBlock = some q ∨ w.heap.size + 2 ≤ q)
  lt : base ≤ w.heap.size ∧ base ≤ g ∧ g < w.heap.size ∧ w.heap.size + 2 ≤ W.heap.size
theorem EnJ.up {w : World} {base g b off n cap : Nat} {t : List UInt8} {d : Nat} {nv0 : Value} {a : Tk} {s : Ps} {k : Tk} {ks : List Tk} {p : Nat} {nv : Value} {W W' : World} (h : EnJ w base g b off n cap t d nv0 a s k ks p nv W) (hb : Below W.heap.size W W') : EnJ w base g b off n cap t d nv0 a s k ks p nv W' :=
  ⟨h.fp.below hb, h.st.up (hb.mono h.st.sz), h.res.chg (S := fun _ => False) (Chg.of_below hb) (fun q => q), h.low.chg (S := fun _ => False) (Chg.of_below hb) (fun q => q), Chg.comp h.chg (Chg.of_below (S := fun _ => False) hb) (fun _ _ q => q.elim), h.old, h.own, by have := h.lt; have := hb.size; omega⟩
theorem EnJ.on {w : World} {base g b off n cap : Nat} {t : List UInt8} {d : Nat} {nv0 : Value} {a : Tk} {s : Ps} {k : Tk} {ks : List Tk} {p : Nat} {nv : Value} {W W' : World} (h : EnJ w base g b off n cap t d nv0 a s k ks p nv W) (hc : Chg (fun q => q = g ∨ nv.ownBlock = some q) W W') {s2 : Ps} {k2 : Tk} {ks2 : List Tk} {p2 : Nat} {nv2 : Value} (hF : Fp base g b off n cap t d s2 k2 ks2 p2 nv2 W') (ho : ∀ q, nv2.ownBlock = some q → nv.ownBlock = some q ∨ W.heap.size ≤ q) : EnJ w base g b off n cap t d nv0 a s2 k2 ks2 p2 nv2 W' := by
  have hl := h.lt
  have hn : ∀ q, (q = g ∨ nv.ownBlock = some q) → ¬ q = w.heap.size ∧ ¬ q = w.heap.size + 1 := by
    intro q hq
    rcases hq with hq | hq
    · omega
    · rcases h.own q hq with z | z
      · have := h.old q z; omega
      · omega
  have hbb : Below base W W' := by
    refine ⟨hc.os, hc.tape, hc.output, hc.size, fun q hq => hc.block q (Nat.lt_of_lt_of_le hq h.st.sz) (fun z => ?_)⟩
    rcases z with z | z
    · omega
    · have := (h.fp.nlt q z).1; omega
  refine ⟨hF, h.st.up hbb, h.res.chg hc (fun z => (hn _ z).1 rfl), h.low.chg hc (fun z => (hn _ z).2 rfl), Chg.comp h.chg hc (fun q hq z => ?_), h.old, fun q hq => ?_, by have := hc.size; omega⟩
  · rcases z with z | z
    · exact .inl z
    · rcases h.own q z with y | y
      · exact .inr y
      · omega
  · rcases ho q hq with y | y
    · exact h.own q y
    · exact .inr (by omega)
theorem EnJ.side {w : World} {base g b off n cap : Nat} {t : List UInt8} {d : Nat} {nv0 : Value} {a : Tk} {s : Ps} {k : Tk} {ks : List Tk} {p : Nat} {nv : Value} {W W' : World} {B : Nat} (h : EnJ w base g b off n cap t d nv0 a s k ks p nv W) (hc : Chg (fun q => q = B) W W') (hB : w.heap.size + 2 ≤ B) (hn : ∀ q, nv.ownBlock = some q → ¬ q = B) : EnJ w base g b off n cap t d nv0 a s k ks p nv W' := by
  have hl := h.lt
  refine ⟨h.fp.chg hc (by omega) hn, h.st.chg hc (fun q z => by omega), h.res.chg hc (by omega), h.low.chg hc (by omega), Chg.comp h.chg hc (fun q hq z => by omega), h.old, h.own, by have := hc.size; omega⟩
theorem EnJ.fin {w : World} {base g b off n cap : Nat} {t : List UInt8} {d : Nat} {A : PR (Ps × Nd) → Prop} {nv0 : Value} {a : Tk} {s : Ps} {k : Tk} {ks : List Tk} {p : Nat} {nv : Value} {W W' : World} (h : EnJ w base g b off n cap t d nv0 a s k ks p nv W) {nd : Nd} (hA : A (.ok (s, nd))) (hc : Chg (fun q => q = w.heap.size) W W') : BehP base g b off n cap t d A nv0 w (.returned nd.v) W' := by
  have hl := h.lt
  refine BehP.box (nv3 := nv) (Bk := w.heap.size) hA h.fp h.chg (fun q hq => ?_) hc (by omega) (fun q hq => ?_)
  · rcases h.own q hq with z | z
    · exact .inl z
    · exact .inr (by omega)
  · rcases h.own q hq with z | z
    · have := h.old q z; omega
    · omega
theorem EnJ.die {w : World} {base g b off n cap : Nat} {t : List UInt8} {d : Nat} {A : PR (Ps × Nd) → Prop} {nv0 : Value} {a : Tk} {s : Ps} {k : Tk} {ks : List Tk} {p : Nat} {nv : Value} {W W' : World} (h : EnJ w base g b off n cap t d nv0 a s k ks p nv W) (hc : Chg (fun q => q = g ∨ nv.ownBlock = some q) W W') {c : Int} {e : Nat} (hA : A (.error (c, e))) : BehP base g b off n cap t d A nv0 w (Pf c (e : Int)) W' := by
  refine ⟨Chg.comp h.chg hc (fun q hq z => ?_), .inr ⟨c, e, hA, rfl⟩⟩
  rcases z with z | z
  · exact .inl z
  · rcases h.own q z with y | y
    · exact .inr y
    · have := h.lt; omega
theorem boxes2 {w W : World} {t1 t2 : Nat} (v u : List Value) (h : W = (w.alloc (Obj.cells v.toArray t1)).alloc (Obj.cells u.toArray t2)) : BoxAt W w.heap.size t1 v.length w.heap.size v ∧ BoxAt W w.heap.size t2 u.length (w.heap.size + 1) u ∧ Below w.heap.size w W ∧ W.heap.size = w.heap.size + 2 := by
  obtain ⟨X, hX⟩ : ∃ X : World, X = w.alloc (Obj.cells v.toArray t1) := ⟨_, rfl⟩
  have z : X.heap.size = w.heap.size + 1 := by rw [hX]; simp
  have b1 := boxAt_new w (base := w.heap.size) (t := t1) (sz := v.length) v.toArray (Nat.le_refl _) (by simp)
  have k1 : Below w.heap.size w X := by rw [hX]; exact (Below.refl _ _).alloc (Nat.le_refl _) _
  rw [← hX] at b1 h
  have k2 : Below X.heap.size X W := by rw [h]; exact (Below.refl _ _).alloc (Nat.le_refl _) _
  have b2 := boxAt_new X (base := w.heap.size) (t := t2) (sz := u.length) u.toArray (by omega) (by simp)
  rw [← h, z] at b2
  exact ⟨b1.below k2, b2, k1.trans (k2.mono (by omega)), by rw [h]; simp; omega⟩
theorem ends_sort {k : TkK} (hk : k.good ∨ k = .fin) (strs : Bool) : (((ftB k).toNat : Int) == (if strs = true then 34 else 48)) = k.isSort strs := by
  cases strs <;> (rcases hk with q | q
                  · cases k with
                    | sign c => rcases q with rfl | rfl | rfl | rfl | rfl | rfl <;> rfl
                    | word _ => rfl
                    | num _ => rfl
                    | str _ => rfl
                    | fin => rfl
                    | bad => rfl
                  · rw [q]; rfl)
theorem sort_fin {k : TkK} {strs : Bool} (h : k.isSort strs = true) : k.isFin = false := by
  cases k <;> cases strs <;> simp_all [TkK.isSort, TkK.isFin]
theorem expect_err {s : Ps} {c : Int} {e : Nat} {x : UInt8} (h : Except.error (c, e) = s.to (expectF x s.ks)) : expectF x s.ks = .error (c, e) := by
  cases hq : expectF x s.ks with
  | error q => rw [hq] at h; cases h; rfl
  | ok q => rw [hq] at h; cases h
theorem expect_ok {s s1 : Ps} {x : UInt8} (h : Except.ok s1 = s.to (expectF x s.ks)) : ∃ k2, expectF x s.ks = .ok k2 ∧ s1 = { s with ks := k2 } := by
  cases hq : expectF x s.ks with
  | error q => rw [hq] at h; cases h
  | ok q => rw [hq] at h; cases h; exact ⟨q, rfl, rfl⟩
set_option maxHeartbeats 8000000 in
theorem fends_core {base g b off n cap : Nat} {t : List UInt8} {d : Nat} {s : Ps} {k : Tk} {ks : List Tk} {p : Nat} {nv : Value} {w : World} (hS : FpS base b off n cap t w) (h : Fp base g b off n cap t d s k ks p nv w) (strs : Bool) (kd sv : Int) (hsv : (if strs = true then (34 : Int) else 48) = sv) : Calls Tryz.prog 129 #[.pointer (some ⟨g, 0, none⟩), .int .i64 kd, .int .u8 sv] w (BehP base g b off n cap t d (fun r => r = liftP s (rangeF kd strs s.ks)) nv w) := by
  obtain ⟨W0, hW0⟩ : ∃ W0 : World, W0 = (w.alloc (Obj.cells #[.int .i64 0, .string ⟨#[]⟩, .bool false, .string ⟨#[]⟩, .int .u64 0, .int .u64 0, .int .i64 0] 65)).alloc (Obj.cells #[.int .u8 0, .int .i64 0, .int .i64 0, .int .u64 0, .string ⟨#[]⟩] 52) := ⟨_, rfl⟩
  obtain ⟨b1, b2, b3, z3⟩ := boxes2 [.int .i64 0, .string ⟨#[]⟩, .bool false, .string ⟨#[]⟩, .int .u64 0, .int .u64 0, .int .i64 0] [.int .u8 0, .int .i64 0, .int .i64 0, .int .u64 0, .string ⟨#[]⟩] hW0
  have hnl := h.nlt
  have hgl := h.fs.lt
  have HJ0 : Hid (EnJ w base g b off n cap t d nv ⟨.fin, 0⟩ s k ks p nv W0 ∧ (k.k.good ∨ k.k = .fin) ∧ s.ks = k :: ks) := ⟨⟨h.below b3, hS.up (b3.mono hS.sz), b1, b2, Chg.of_below b3, fun q hq => (hnl q hq).2, fun q hq => .inl hq, ⟨hS.sz, hgl.1, hgl.2, by omega⟩⟩, h.kinds, h.eq⟩
  clear h hS b1 b2 b3 z3 hnl
  go_enter Tryz.func129, Tryz.ntmps129
  go_upto_region 2 with fail
  rw [← hW0]
  clear hW0
  have cK := HJ0.out.1.fp.fs.cell (j := 2) rfl
  have zK := ends_sort HJ0.out.2.1 strs
  rw [hsv] at zK
  by_cases h1 : k.k.isSort strs = true
  case neg =>
    have h1' : k.k.isSort strs = false := by simpa using h1
    rw [h1'] at zK
    obtain ⟨a, ha⟩ : ∃ a : Tk, a = ⟨.fin, 0⟩ := ⟨_, rfl⟩
    have HA : Hid (liftP s (rangeF kd strs s.ks) = liftP s (dotsF kd strs a.k s.ks)) := by
      show _ = _
      rw [rangeF, if_neg (by rw [HJ0.out.2.2]; show ¬ k.k.isSort strs = true; rw [h1']; simp), ha]
    have HJ : Hid (EnJ w base g b off n cap t d nv a s k ks p nv W0) := by rw [ha]; exact HJ0.out.1
    clear HJ0 ha h1 h1'
    go_upto_region 4 with fail
    clear cK zK
    have HE : Hid (Calls Tryz.prog 127 #[.pointer (some ⟨g, 0, none⟩), .int .u8 46] W0 (FpO base g b off n cap t d (fun r => r = s.to (expectF 46 s.ks)) (.agg (ftV k).toArray) nv W0)) := expect_core (bb := 46) HJ.out.st HJ.out.fp (by simp)
    go_wp2_with fail
    refine HE.out.mono ?_
    clear HE
    rintro e w3 ⟨Hc3, (⟨s3, hs3, rfl, k3, ks3, p3, nv3, hF3, hn3⟩ | ⟨c, e3, hs3, rfl⟩)⟩
    case inr =>
      have HD : Hid (BehP base g b off n cap t d (fun r => r = liftP s (rangeF kd strs s.ks)) nv w (Pf c (e3 : Int)) w3) := HJ.out.die Hc3.out (by
        show _ = _
        rw [HA.out, dotsF, expect_err hs3]; rfl)
      clear hs3
      exact ⟨rfl, HD.out⟩
    have HJ3 : Hid (EnJ w base g b off n cap t d nv a s3 k3 ks3 p3 nv3 w3) := HJ.out.on Hc3.out hF3 hn3
    have HA3 : Hid (liftP s (rangeF kd strs s.ks) = liftP s3 (upF kd strs a.k s3.ks)) := by
      obtain ⟨q, hq, rfl⟩ := expect_ok hs3
      show _ = _
      rw [HA.out, dotsF, hq]
      rfl
    clear hs3 hF3 hn3 Hc3
    have m3 := HJ3.out.low.cell (j := 3) rfl
    have m4 := HJ3.out.low.cell (j := 4) rfl
    obtain ⟨W4, hW4⟩ : ∃ V : World, V = w3.alloc (Obj.cells #[.int .i64 kd, .string a.k.txt, .bool false, .string ⟨#[]⟩, .int .u64 a.k.nm, .int .u64 0, .int .i64 0] 65) := ⟨_, rfl⟩
    have b4 : Below w3.heap.size w3 W4 := by rw [hW4]; exact (Below.refl _ _).alloc (Nat.le_refl _) _
    have H4 : Hid (EnJ w base g b off n cap t d nv a s3 k3 ks3 p3 nv3 W4 ∧ BoxAt W4 w3.heap.size 65 7 w3.heap.size [.int .i64 kd, .string a.k.txt, .bool false, .string ⟨#[]⟩, .int .u64 a.k.nm, .int .u64 0, .int .i64 0] ∧ (k3.k.good ∨ k3.k = .fin) ∧ s3.ks = k3 :: ks3) := ⟨HJ3.out.up b4, by rw [hW4]; exact boxAt_new w3 _ (Nat.le_refl _) rfl, HJ3.out.fp.kinds, HJ3.out.fp.eq⟩
    go_upto_region 6 with fail
    rw [← hW4]
    clear hW4 m3 m4 b4
    have cK := H4.out.1.fp.fs.cell (j := 2) rfl
    have zK := ends_sort H4.out.2.2.1 strs
    rw [hsv] at zK
    by_cases h3 : k3.k.isSort strs = true
    case neg =>
      have h3' : k3.k.isSort strs = false := by simpa using h3
      rw [h3'] at zK
      clear h3
      have HA4 : Hid (liftP s (rangeF kd strs s.ks) = .ok (s3, (⟨kd, a.k.txt, false, noS, a.k.nm, 0, 0⟩ : Nd))) := by
        show _ = _
        rw [HA3.out, upF, if_neg (by rw [H4.out.2.2.2]; show ¬ k3.k.isSort strs = true; rw [h3']; simp)]
        rfl
      clear h3'
      have hne : ¬ w3.heap.size = w.heap.size := by have := HJ3.out.lt; omega
      go_upto_region 10 with fail
      have l0 := H4.out.1.res.cell (j := 0) rfl
      have l1 := H4.out.1.res.cell (j := 1) rfl
      have l2 := H4.out.1.res.cell (j := 2) rfl
      have l3 := H4.out.1.res.cell (j := 3) rfl
      have l4 := H4.out.1.res.cell (j := 4) rfl
      have l5 := H4.out.1.res.cell (j := 5) rfl
      have l6 := H4.out.1.res.cell (j := 6) rfl
      have f0 := H4.out.1.res.frozen 0
      have f1 := H4.out.1.res.frozen 1
      have f2 := H4.out.1.res.frozen 2
      have f3 := H4.out.1.res.frozen 3
      have f4 := H4.out.1.res.frozen 4
      have f5 := H4.out.1.res.frozen 5
      have f6 := H4.out.1.res.frozen 6
      have c0 := H4.out.2.1.cell (j := 0) rfl
      have c1 := H4.out.2.1.cell (j := 1) rfl
      have c2 := H4.out.2.1.cell (j := 2) rfl
      have c3 := H4.out.2.1.cell (j := 3) rfl
      have c4 := H4.out.2.1.cell (j := 4) rfl
      have c5 := H4.out.2.1.cell (j := 5) rfl
      have c6 := H4.out.2.1.cell (j := 6) rfl
      obtain ⟨W9, hW9⟩ : ∃ V : World, V = setN W4 w.heap.size ((⟨kd, a.k.txt, false, noS, a.k.nm, 0, 0⟩ : Nd)) := ⟨_, rfl⟩
      have hB9 := H4.out.1.res.setN ((⟨kd, a.k.txt, false, noS, a.k.nm, 0, 0⟩ : Nd))
      rw [← hW9] at hB9
      have hc9 : Chg (fun q => q = w.heap.size) W4 W9 := by rw [hW9]; exact chg_setN _ _ _
      have HR : Hid (BehP base g b off n cap t d (fun r => r = liftP s (rangeF kd strs s.ks)) nv w (.returned ((⟨kd, a.k.txt, false, noS, a.k.nm, 0, 0⟩ : Nd)).v) W9) := H4.out.1.fin (by show _ = _; rw [HA4.out]) hc9
      have q0 := hB9.cell (j := 0) rfl
      have q1 := hB9.cell (j := 1) rfl
      have q2 := hB9.cell (j := 2) rfl
      have q3 := hB9.cell (j := 3) rfl
      have q4 := hB9.cell (j := 4) rfl
      have q5 := hB9.cell (j := 5) rfl
      have q6 := hB9.cell (j := 6) rfl
      unfold setN at hW9
      simp only [noS] at hW9 q0 q1 q2 q3 q4 q5 q6
      clear hB9 hc9
      go_wp2_with fail
      rw [← hW9]
      exact bodyPost_ret (v := ((⟨kd, a.k.txt, false, noS, a.k.nm, 0, 0⟩ : Nd)).v) (by simp [results, Tryz.results129, go_sem, q0, q1, q2, q3, q4, q5, q6, noS]) rfl HR.out
    rw [h3] at zK
    have hfin := sort_fin h3
    have eU : upF kd strs a.k s3.ks = (if less a.k.txt k3.k.txt ∨ a.k.nm < k3.k.nm then (match takeF s3.ks with
          | .error e => .error e
          | .ok k2 => .ok (k2, (⟨kd, a.k.txt, true, k3.k.txt, a.k.nm, k3.k.nm, 0⟩ : Nd))) else .error (7, k3.pos)) := by
      unfold upF
      rw [if_pos (by rw [H4.out.2.2.2]; exact h3)]
      rw [show hdK s3.ks = k3.k from by rw [H4.out.2.2.2]; rfl, show hdA s3.ks = k3.pos from by rw [H4.out.2.2.2]; rfl]
      rfl
    have HA5 : Hid (liftP s (rangeF kd strs s.ks) = liftP s3 (if less a.k.txt k3.k.txt ∨ a.k.nm < k3.k.nm then (match takeF s3.ks with
          | .error e => .error e
          | .ok k2 => .ok (k2, (⟨kd, a.k.txt, true, k3.k.txt, a.k.nm, k3.k.nm, 0⟩ : Nd))) else .error (7, k3.pos))) := by show _ = _; rw [HA3.out, eU]
    clear eU h3 HA3
    go_upto_region 7 with fail
    clear cK zK
    by_cases hl1 : less a.k.txt k3.k.txt
    case pos =>
      have hd1 : Op.bytesLess a.k.txt.toList k3.k.txt.toList = true := hl1
      have HA6 : Hid (liftP s (rangeF kd strs s.ks) = liftP s3 (match takeF s3.ks with
          | .error e => .error e
          | .ok k2 => .ok (k2, (⟨kd, a.k.txt, true, k3.k.txt, a.k.nm, k3.k.nm, 0⟩ : Nd)))) := by show _ = _; rw [HA5.out, if_pos (by exact .inl hl1)]

      clear hl1
      have e4 := H4.out.1.low.cell (j := 4) rfl
      have e3 := H4.out.1.low.cell (j := 3) rfl
      have e6 := H4.out.1.fp.fs.cell (j := 6) rfl
      have e5 := H4.out.1.fp.fs.cell (j := 5) rfl
      have hS0 : (fun w' : World => w'.cell? ⟨w.heap.size + 1, 4, none⟩ = some (.string a.k.txt) ∧ w'.cell? ⟨w.heap.size + 1, 3, none⟩ = some (.int .u64 a.k.nm) ∧ w'.cell? ⟨g, 6, none⟩ = some (.string k3.k.txt) ∧ w'.cell? ⟨g, 5, none⟩ = some (.int .u64 k3.k.nm)) W4.drew := ⟨e4, e3, e6, e5⟩
      clear e3 e4 e5 e6
      refine wp_region_T 99 (fun w' : World => w'.cell? ⟨w.heap.size + 1, 4, none⟩ = some (.string a.k.txt) ∧ w'.cell? ⟨w.heap.size + 1, 3, none⟩ = some (.int .u64 a.k.nm) ∧ w'.cell? ⟨g, 6, none⟩ = some (.string k3.k.txt) ∧ w'.cell? ⟨g, 5, none⟩ = some (.int .u64 k3.k.nm)) (by kernel_rfl) ?_
      refine anyT_takeN (i := 0) (v := ?vax0) rfl (by kernel_rfl) (by kernel_rfl) (by kernel_rfl) (by rfl) (fun _ _ _ h => h) (Or.inl ⟨by rfl, ?yax0⟩) hS0 ?_
      case yax0 => (intro wz hSw; obtain ⟨hz0, hz1, hz2, hz3⟩ := hSw; go_simp; (try with_reducible rfl))
      try simp only [Act.put, List.getElem_toArray, List.getElem_cons_zero, List.getElem_cons_succ, List.setIfInBounds_toArray, List.set_cons_zero, List.set_cons_succ]
      refine anyT_takeN (i := 1) (v := ?vax1) rfl (by kernel_rfl) (by kernel_rfl) (by kernel_rfl) (by rfl) (fun _ _ _ h => h) (Or.inl ⟨by rfl, ?yax1⟩) hS0 ?_
      case yax1 => (intro wz hSw; obtain ⟨hz0, hz1, hz2, hz3⟩ := hSw; go_simp; (try with_reducible rfl))
      try simp only [Act.put, List.getElem_toArray, List.getElem_cons_zero, List.getElem_cons_succ, List.setIfInBounds_toArray, List.set_cons_zero, List.set_cons_succ]
      refine anyT_takeN (i := 2) (v := ?vax2) rfl (by kernel_rfl) (by kernel_rfl) (by kernel_rfl) (by rfl) (fun _ _ _ h => h) (Or.inl ⟨by rfl, ?yax2⟩) hS0 ?_
      case yax2 => (intro wz hSw; obtain ⟨hz0, hz1, hz2, hz3⟩ := hSw; go_simp; (try with_reducible rfl))
      try simp only [Act.put, List.getElem_toArray, List.getElem_cons_zero, List.getElem_cons_succ, List.setIfInBounds_toArray, List.set_cons_zero, List.set_cons_succ]
      refine anyT_takeN (i := 3) (v := ?vax3) rfl (by kernel_rfl) (by kernel_rfl) (by kernel_rfl) (by rfl) (fun _ _ _ h => h) (Or.inl ⟨by rfl, ?yax3⟩) hS0 ?_
      case yax3 => (intro wz hSw; obtain ⟨hz0, hz1, hz2, hz3⟩ := hSw; go_simp; (try with_reducible rfl))
      try simp only [Act.put, List.getElem_toArray, List.getElem_cons_zero, List.getElem_cons_succ, List.setIfInBounds_toArray, List.set_cons_zero, List.set_cons_succ]
      refine anyT_takeN (i := 4) (v := ?vax4) rfl (by kernel_rfl) (by kernel_rfl) (by kernel_rfl) (by rfl) (fun _ _ _ h => h) (Or.inl ⟨by rfl, ?yax4⟩) hS0 ?_
      case yax4 => (intro wz hSw; obtain ⟨hz0, hz1, hz2, hz3⟩ := hSw; go_simp; (try with_reducible rfl))
      try simp only [Act.put, List.getElem_toArray, List.getElem_cons_zero, List.getElem_cons_succ, List.setIfInBounds_toArray, List.set_cons_zero, List.set_cons_succ]
      refine anyT_takeN (i := 5) (v := ?vax5) rfl (by kernel_rfl) (by kernel_rfl) (by kernel_rfl) (by rfl) (fun _ _ _ h => h) (Or.inl ⟨by rfl, ?yax5⟩) hS0 ?_
      case yax5 => (intro wz hSw; obtain ⟨hz0, hz1, hz2, hz3⟩ := hSw; go_simp; (try with_reducible rfl))
      try simp only [Act.put, List.getElem_toArray, List.getElem_cons_zero, List.getElem_cons_succ, List.setIfInBounds_toArray, List.set_cons_zero, List.set_cons_succ]
      refine anyT_takeN (i := 6) (v := ?vax6) rfl (by kernel_rfl) (by kernel_rfl) (by kernel_rfl) (by rfl) (fun _ _ _ h => h) (Or.inl ⟨by rfl, ?yax6⟩) hS0 ?_
      case yax6 => (intro wz hSw; obtain ⟨hz0, hz1, hz2, hz3⟩ := hSw; go_simp; (try with_reducible rfl))
      try simp only [Act.put, List.getElem_toArray, List.getElem_cons_zero, List.getElem_cons_succ, List.setIfInBounds_toArray, List.set_cons_zero, List.set_cons_succ]
      refine anyT_takeN (i := 7) (v := ?vax7) rfl (by kernel_rfl) (by kernel_rfl) (by kernel_rfl) (by rfl) (fun _ _ _ h => h) (Or.inl ⟨by rfl, ?yax7⟩) hS0 ?_
      case yax7 => (intro wz hSw; obtain ⟨hz0, hz1, hz2, hz3⟩ := hSw; go_simp; (try with_reducible rfl))
      try simp only [Act.put, List.getElem_toArray, List.getElem_cons_zero, List.getElem_cons_succ, List.setIfInBounds_toArray, List.set_cons_zero, List.set_cons_succ]
      refine anyT_takeN (i := 8) (v := .bool true) rfl (by kernel_rfl) (by kernel_rfl) (by kernel_rfl) (by rfl) (fun _ _ _ h => h) (Or.inl ⟨by rfl, ?yax8⟩) hS0 ?_
      case yax8 => (intro wz hSw; obtain ⟨hz0, hz1, hz2, hz3⟩ := hSw; go_simp; (try with_reducible rfl))
      try simp only [Act.put, List.getElem_toArray, List.getElem_cons_zero, List.getElem_cons_succ, List.setIfInBounds_toArray, List.set_cons_zero, List.set_cons_succ]
      refine anyT_takeN (i := 9) (v := ?vax9) rfl (by kernel_rfl) (by kernel_rfl) (by kernel_rfl) (by rfl) (fun _ _ _ h => h) (Or.inl ⟨by rfl, ?yax9⟩) hS0 ?_
      case yax9 => (intro wz hSw; obtain ⟨hz0, hz1, hz2, hz3⟩ := hSw; go_simp; (try with_reducible rfl))
      try simp only [Act.put, List.getElem_toArray, List.getElem_cons_zero, List.getElem_cons_succ, List.setIfInBounds_toArray, List.set_cons_zero, List.set_cons_succ]
      refine anyT_takeN (i := 10) (v := undef) rfl (by kernel_rfl) (by kernel_rfl) (by kernel_rfl) (by rfl) (fun _ _ _ h => h) (Or.inr ⟨by rfl, rfl⟩) hS0 ?_
      try simp only [Act.put, List.getElem_toArray, List.getElem_cons_zero, List.getElem_cons_succ, List.setIfInBounds_toArray, List.set_cons_zero, List.set_cons_succ]
      refine anyT_takeN (i := 11) (v := undef) rfl (by kernel_rfl) (by kernel_rfl) (by kernel_rfl) (by rfl) (fun _ _ _ h => h) (Or.inr ⟨by rfl, rfl⟩) hS0 ?_
      try simp only [Act.put, List.getElem_toArray, List.getElem_cons_zero, List.getElem_cons_succ, List.setIfInBounds_toArray, List.set_cons_zero, List.set_cons_succ]
      refine anyT_takeN (i := 12) (v := undef) rfl (by kernel_rfl) (by kernel_rfl) (by kernel_rfl) (by rfl) (fun _ _ _ h => h) (Or.inr ⟨by rfl, rfl⟩) hS0 ?_
      try simp only [Act.put, List.getElem_toArray, List.getElem_cons_zero, List.getElem_cons_succ, List.setIfInBounds_toArray, List.set_cons_zero, List.set_cons_succ]
      refine anyT_takeN (i := 13) (v := undef) rfl (by kernel_rfl) (by kernel_rfl) (by kernel_rfl) (by rfl) (fun _ _ _ h => h) (Or.inr ⟨by rfl, rfl⟩) hS0 ?_
      try simp only [Act.put, List.getElem_toArray, List.getElem_cons_zero, List.getElem_cons_succ, List.setIfInBounds_toArray, List.set_cons_zero, List.set_cons_succ]
      refine anyT_takeN (i := 14) (v := undef) rfl (by kernel_rfl) (by kernel_rfl) (by kernel_rfl) (by rfl) (fun _ _ _ h => h) (Or.inr ⟨by rfl, rfl⟩) hS0 ?_
      try simp only [Act.put, List.getElem_toArray, List.getElem_cons_zero, List.getElem_cons_succ, List.setIfInBounds_toArray, List.set_cons_zero, List.set_cons_succ]
      refine anyT_takeN (i := 15) (v := undef) rfl (by kernel_rfl) (by kernel_rfl) (by kernel_rfl) (by rfl) (fun _ _ _ h => h) (Or.inr ⟨by rfl, rfl⟩) hS0 ?_
      try simp only [Act.put, List.getElem_toArray, List.getElem_cons_zero, List.getElem_cons_succ, List.setIfInBounds_toArray, List.set_cons_zero, List.set_cons_succ]
      refine anyT_takeN (i := 16) (v := undef) rfl (by kernel_rfl) (by kernel_rfl) (by kernel_rfl) (by rfl) (fun _ _ _ h => h) (Or.inr ⟨by rfl, rfl⟩) hS0 ?_
      try simp only [Act.put, List.getElem_toArray, List.getElem_cons_zero, List.getElem_cons_succ, List.setIfInBounds_toArray, List.set_cons_zero, List.set_cons_succ]
      refine anyT_takeN (i := 17) (v := undef) rfl (by kernel_rfl) (by kernel_rfl) (by kernel_rfl) (by rfl) (fun _ _ _ h => h) (Or.inr ⟨by rfl, rfl⟩) hS0 ?_
      try simp only [Act.put, List.getElem_toArray, List.getElem_cons_zero, List.getElem_cons_succ, List.setIfInBounds_toArray, List.set_cons_zero, List.set_cons_succ]
      refine anyT_takeN (i := 18) (v := ?vax18) rfl (by kernel_rfl) (by kernel_rfl) (by kernel_rfl) (by rfl) (fun _ _ _ h => h) (Or.inl ⟨by rfl, ?yax18⟩) hS0 ?_
      case yax18 => (intro wz hSw; obtain ⟨hz0, hz1, hz2, hz3⟩ := hSw; go_simp; (try with_reducible rfl))
      try simp only [Act.put, List.getElem_toArray, List.getElem_cons_zero, List.getElem_cons_succ, List.setIfInBounds_toArray, List.set_cons_zero, List.set_cons_succ]
      refine anyT_one (i := 19) (by kernel_rfl) rfl (fun K hK => ?_)
      go_simp
      go_at_call 27
      refine (fdem_yes _ 7 W4.drew).mono ?_
      rintro e w5 ⟨rfl, hw5⟩
      rw [hw5]
      clear hw5
      refine hK.out _ _ (.inr hS0) ?_
      clear hK
      refine anyT_done (by kernel_rfl) ?_
      clear hS0
      obtain ⟨W5, hW5⟩ : ∃ V : World, V = W4.drew := ⟨_, rfl⟩
      have hb5 : Below W4.heap.size W4 W5 := by rw [hW5]; exact (Below.refl _ _).drew
      have H5 : Hid (EnJ w base g b off n cap t d nv a s3 k3 ks3 p3 nv3 W5 ∧ BoxAt W5 w3.heap.size 65 7 w3.heap.size [.int .i64 kd, .string a.k.txt, .bool false, .string ⟨#[]⟩, .int .u64 a.k.nm, .int .u64 0, .int .i64 0]) := ⟨H4.out.1.up hb5, H4.out.2.1.chg (S := fun _ => False) (Chg.of_below hb5) (fun q => q)⟩
      rw [← hW5]
      clear hW5 hb5
      have HTk : Hid (Calls Tryz.prog 114 #[.pointer (some ⟨g, 0, none⟩)] W5 (TakP base g b off n cap t d s3 k3 nv3 W5)) := ftake_core H5.out.1.st H5.out.1.fp hfin
      go_wp2_with fail
      refine HTk.out.mono ?_
      clear HTk
      rintro e w6 ⟨Hb6, (⟨k6, ks6, p6, htk, rfl, hF6⟩ | ⟨c, e6, htk, rfl⟩)⟩
      case inr =>
        have HD : Hid (BehP base g b off n cap t d (fun r => r = liftP s (rangeF kd strs s.ks)) nv w (Pf c (e6 : Int)) w6) := H5.out.1.die (Hb6.out.mono (fun q z => .inl z)) (by
          show _ = _
          rw [HA6.out, htk]; rfl)
        clear htk
        exact ⟨rfl, HD.out⟩
      have HA7 : Hid (liftP s (rangeF kd strs s.ks) = .ok (⟨k6 :: ks6, s3.made, s3.out⟩, (⟨kd, a.k.txt, true, k3.k.txt, a.k.nm, k3.k.nm, 0⟩ : Nd))) := by show _ = _; rw [HA6.out, htk]; rfl
      have hJ6 : EnJ w base g b off n cap t d nv a ⟨k6 :: ks6, s3.made, s3.out⟩ k6 ks6 p6 nv3 w6 := H5.out.1.on (Hb6.out.mono (fun q z => .inl z)) hF6 (fun q hq => .inl hq)
      have hB6 := H5.out.2.chg Hb6.out (by have := HJ3.out.lt; omega)
      obtain ⟨W7, hW7⟩ : ∃ V : World, V = w6.alloc (Obj.cells #[.int .u8 ((ftB k3.k).toNat : Int), .int .i64 (k3.pos : Int), .int .i64 k3.k.wd, .int .u64 k3.k.nm, .string k3.k.txt] 52) := ⟨_, rfl⟩
      have hb7 : Below w6.heap.size w6 W7 := by rw [hW7]; exact (Below.refl _ _).alloc (Nat.le_refl _) _
      have H7 : Hid (EnJ w base g b off n cap t d nv a ⟨k6 :: ks6, s3.made, s3.out⟩ k6 ks6 p6 nv3 W7 ∧ BoxAt W7 w3.heap.size 65 7 w3.heap.size [.int .i64 kd, .string a.k.txt, .bool false, .string ⟨#[]⟩, .int .u64 a.k.nm, .int .u64 0, .int .i64 0] ∧ BoxAt W7 w6.heap.size 52 5 w6.heap.size (ftV k3) ∧ w3.heap.size < w6.heap.size) := ⟨hJ6.up hb7, hB6.chg (S := fun _ => False) (Chg.of_below hb7) (fun q => q), by rw [hW7]; exact boxAt_new w6 _ (Nat.le_refl _) rfl, hB6.lt.2⟩
      clear htk hF6 hJ6 hB6 hb7 Hb6
      go_upto_region 9 with fail
      rw [← hW7]
      clear hW7
      have y3 := H7.out.2.2.1.cell (j := 3) rfl
      have y4 := H7.out.2.2.1.cell (j := 4) rfl
      have x2 := H7.out.2.1.cell (j := 2) rfl
      have x3 := H7.out.2.1.cell (j := 3) rfl
      have x5 := H7.out.2.1.cell (j := 5) rfl
      have u2 := H7.out.2.1.frozen 2
      have u3 := H7.out.2.1.frozen 3
      have u5 := H7.out.2.1.frozen 5
      have hne : ¬ w6.heap.size = w3.heap.size := by have := H7.out.2.2.2; omega
      go_region
      obtain ⟨W8, hW8⟩ : ∃ V : World, V = (((W7.setCell ⟨w3.heap.size, 2, none⟩ (Value.bool true)).setCell ⟨w3.heap.size, 3, none⟩ (Value.string k3.k.txt)).setCell ⟨w3.heap.size, 5, none⟩ (Value.int IntKind.u64 k3.k.nm)).drew := ⟨_, rfl⟩
      have hc8 : Chg (fun q => q = w3.heap.size) W7 W8 := by
        rw [hW8]
        exact (((Chg.of_set (S := fun q => q = w3.heap.size) _ _ _ _ rfl).trans (Chg.of_set (S := fun q => q = w3.heap.size) _ _ _ _ rfl)).trans (Chg.of_set (S := fun q => q = w3.heap.size) _ _ _ _ rfl)).trans (Chg.of_below (Below.refl _ _).drew)
      have H8 : Hid (EnJ w base g b off n cap t d nv a ⟨k6 :: ks6, s3.made, s3.out⟩ k6 ks6 p6 nv3 W8 ∧ BoxAt W8 w3.heap.size 65 7 w3.heap.size [.int .i64 kd, .string a.k.txt, .bool true, .string k3.k.txt, .int .u64 a.k.nm, .int .u64 k3.k.nm, .int .i64 0]) := ⟨H7.out.1.side hc8 (by have := HJ3.out.lt; omega) (fun q hq z => by have := (HJ3.out.fp.nlt q hq).2; omega), by
        have h1 := ((H7.out.2.1.set 2 (.bool true)).set 3 (.string k3.k.txt)).set 5 (.int .u64 k3.k.nm)
        rw [hW8]
        exact BoxAt.chg (S := fun _ => False) h1 (Chg.of_below (Below.refl _ _).drew) (fun q => q)⟩
      rw [← hW8]
      clear hW8 hc8 x2 x3 x5 u2 u3 u5 y3 y4 hne
      have hne : ¬ w3.heap.size = w.heap.size := by have := HJ3.out.lt; omega
      have l0 := H8.out.1.res.cell (j := 0) rfl
      have l1 := H8.out.1.res.cell (j := 1) rfl
      have l2 := H8.out.1.res.cell (j := 2) rfl
      have l3 := H8.out.1.res.cell (j := 3) rfl
      have l4 := H8.out.1.res.cell (j := 4) rfl
      have l5 := H8.out.1.res.cell (j := 5) rfl
      have l6 := H8.out.1.res.cell (j := 6) rfl
      have f0 := H8.out.1.res.frozen 0
      have f1 := H8.out.1.res.frozen 1
      have f2 := H8.out.1.res.frozen 2
      have f3 := H8.out.1.res.frozen 3
      have f4 := H8.out.1.res.frozen 4
      have f5 := H8.out.1.res.frozen 5
      have f6 := H8.out.1.res.frozen 6
      have c0 := H8.out.2.cell (j := 0) rfl
      have c1 := H8.out.2.cell (j := 1) rfl
      have c2 := H8.out.2.cell (j := 2) rfl
      have c3 := H8.out.2.cell (j := 3) rfl
      have c4 := H8.out.2.cell (j := 4) rfl
      have c5 := H8.out.2.cell (j := 5) rfl
      have c6 := H8.out.2.cell (j := 6) rfl
      obtain ⟨W9, hW9⟩ : ∃ V : World, V = setN W8 w.heap.size ((⟨kd, a.k.txt, true, k3.k.txt, a.k.nm, k3.k.nm, 0⟩ : Nd)) := ⟨_, rfl⟩
      have hB9 := H8.out.1.res.setN ((⟨kd, a.k.txt, true, k3.k.txt, a.k.nm, k3.k.nm, 0⟩ : Nd))
      rw [← hW9] at hB9
      have hc9 : Chg (fun q => q = w.heap.size) W8 W9 := by rw [hW9]; exact chg_setN _ _ _
      have HR : Hid (BehP base g b off n cap t d (fun r => r = liftP s (rangeF kd strs s.ks)) nv w (.returned ((⟨kd, a.k.txt, true, k3.k.txt, a.k.nm, k3.k.nm, 0⟩ : Nd)).v) W9) := H8.out.1.fin (by show _ = _; rw [HA7.out]) hc9
      have q0 := hB9.cell (j := 0) rfl
      have q1 := hB9.cell (j := 1) rfl
      have q2 := hB9.cell (j := 2) rfl
      have q3 := hB9.cell (j := 3) rfl
      have q4 := hB9.cell (j := 4) rfl
      have q5 := hB9.cell (j := 5) rfl
      have q6 := hB9.cell (j := 6) rfl
      unfold setN at hW9
      simp only [noS] at hW9 q0 q1 q2 q3 q4 q5 q6
      clear hB9 hc9
      go_wp2_with fail
      rw [← hW9]
      exact bodyPost_ret (v := ((⟨kd, a.k.txt, true, k3.k.txt, a.k.nm, k3.k.nm, 0⟩ : Nd)).v) (by simp [results, Tryz.results129, go_sem, q0, q1, q2, q3, q4, q5, q6, noS]) rfl HR.out

    have hd1 : Op.bytesLess a.k.txt.toList k3.k.txt.toList = false := by unfold less at hl1; simpa using hl1
    by_cases hl2 : a.k.nm < k3.k.nm
    case pos =>
      have hd2 : decide (a.k.nm < k3.k.nm) = true := decide_eq_true hl2
      have HA6 : Hid (liftP s (rangeF kd strs s.ks) = liftP s3 (match takeF s3.ks with
          | .error e => .error e
          | .ok k2 => .ok (k2, (⟨kd, a.k.txt, true, k3.k.txt, a.k.nm, k3.k.nm, 0⟩ : Nd)))) := by show _ = _; rw [HA5.out, if_pos (by exact .inr hl2)]

      clear hl1 hl2
      have e4 := H4.out.1.low.cell (j := 4) rfl
      have e3 := H4.out.1.low.cell (j := 3) rfl
      have e6 := H4.out.1.fp.fs.cell (j := 6) rfl
      have e5 := H4.out.1.fp.fs.cell (j := 5) rfl
      have hS0 : (fun w' : World => w'.cell? ⟨w.heap.size + 1, 4, none⟩ = some (.string a.k.txt) ∧ w'.cell? ⟨w.heap.size + 1, 3, none⟩ = some (.int .u64 a.k.nm) ∧ w'.cell? ⟨g, 6, none⟩ = some (.string k3.k.txt) ∧ w'.cell? ⟨g, 5, none⟩ = some (.int .u64 k3.k.nm)) W4.drew := ⟨e4, e3, e6, e5⟩
      clear e3 e4 e5 e6
      refine wp_region_T 99 (fun w' : World => w'.cell? ⟨w.heap.size + 1, 4, none⟩ = some (.string a.k.txt) ∧ w'.cell? ⟨w.heap.size + 1, 3, none⟩ = some (.int .u64 a.k.nm) ∧ w'.cell? ⟨g, 6, none⟩ = some (.string k3.k.txt) ∧ w'.cell? ⟨g, 5, none⟩ = some (.int .u64 k3.k.nm)) (by kernel_rfl) ?_
      refine anyT_takeN (i := 0) (v := ?vay0) rfl (by kernel_rfl) (by kernel_rfl) (by kernel_rfl) (by rfl) (fun _ _ _ h => h) (Or.inl ⟨by rfl, ?yay0⟩) hS0 ?_
      case yay0 => (intro wz hSw; obtain ⟨hz0, hz1, hz2, hz3⟩ := hSw; go_simp; (try with_reducible rfl))
      try simp only [Act.put, List.getElem_toArray, List.getElem_cons_zero, List.getElem_cons_succ, List.setIfInBounds_toArray, List.set_cons_zero, List.set_cons_succ]
      refine anyT_takeN (i := 1) (v := ?vay1) rfl (by kernel_rfl) (by kernel_rfl) (by kernel_rfl) (by rfl) (fun _ _ _ h => h) (Or.inl ⟨by rfl, ?yay1⟩) hS0 ?_
      case yay1 => (intro wz hSw; obtain ⟨hz0, hz1, hz2, hz3⟩ := hSw; go_simp; (try with_reducible rfl))
      try simp only [Act.put, List.getElem_toArray, List.getElem_cons_zero, List.getElem_cons_succ, List.setIfInBounds_toArray, List.set_cons_zero, List.set_cons_succ]
      refine anyT_takeN (i := 2) (v := ?vay2) rfl (by kernel_rfl) (by kernel_rfl) (by kernel_rfl) (by rfl) (fun _ _ _ h => h) (Or.inl ⟨by rfl, ?yay2⟩) hS0 ?_
      case yay2 => (intro wz hSw; obtain ⟨hz0, hz1, hz2, hz3⟩ := hSw; go_simp; (try with_reducible rfl))
      try simp only [Act.put, List.getElem_toArray, List.getElem_cons_zero, List.getElem_cons_succ, List.setIfInBounds_toArray, List.set_cons_zero, List.set_cons_succ]
      refine anyT_takeN (i := 3) (v := ?vay3) rfl (by kernel_rfl) (by kernel_rfl) (by kernel_rfl) (by rfl) (fun _ _ _ h => h) (Or.inl ⟨by rfl, ?yay3⟩) hS0 ?_
      case yay3 => (intro wz hSw; obtain ⟨hz0, hz1, hz2, hz3⟩ := hSw; go_simp; (try with_reducible rfl))
      try simp only [Act.put, List.getElem_toArray, List.getElem_cons_zero, List.getElem_cons_succ, List.setIfInBounds_toArray, List.set_cons_zero, List.set_cons_succ]
      refine anyT_takeN (i := 4) (v := ?vay4) rfl (by kernel_rfl) (by kernel_rfl) (by kernel_rfl) (by rfl) (fun _ _ _ h => h) (Or.inl ⟨by rfl, ?yay4⟩) hS0 ?_
      case yay4 => (intro wz hSw; obtain ⟨hz0, hz1, hz2, hz3⟩ := hSw; go_simp; (try with_reducible rfl))
      try simp only [Act.put, List.getElem_toArray, List.getElem_cons_zero, List.getElem_cons_succ, List.setIfInBounds_toArray, List.set_cons_zero, List.set_cons_succ]
      refine anyT_takeN (i := 5) (v := ?vay5) rfl (by kernel_rfl) (by kernel_rfl) (by kernel_rfl) (by rfl) (fun _ _ _ h => h) (Or.inl ⟨by rfl, ?yay5⟩) hS0 ?_
      case yay5 => (intro wz hSw; obtain ⟨hz0, hz1, hz2, hz3⟩ := hSw; go_simp; (try with_reducible rfl))
      try simp only [Act.put, List.getElem_toArray, List.getElem_cons_zero, List.getElem_cons_succ, List.setIfInBounds_toArray, List.set_cons_zero, List.set_cons_succ]
      refine anyT_takeN (i := 6) (v := ?vay6) rfl (by kernel_rfl) (by kernel_rfl) (by kernel_rfl) (by rfl) (fun _ _ _ h => h) (Or.inl ⟨by rfl, ?yay6⟩) hS0 ?_
      case yay6 => (intro wz hSw; obtain ⟨hz0, hz1, hz2, hz3⟩ := hSw; go_simp; (try with_reducible rfl))
      try simp only [Act.put, List.getElem_toArray, List.getElem_cons_zero, List.getElem_cons_succ, List.setIfInBounds_toArray, List.set_cons_zero, List.set_cons_succ]
      refine anyT_takeN (i := 7) (v := ?vay7) rfl (by kernel_rfl) (by kernel_rfl) (by kernel_rfl) (by rfl) (fun _ _ _ h => h) (Or.inl ⟨by rfl, ?yay7⟩) hS0 ?_
      case yay7 => (intro wz hSw; obtain ⟨hz0, hz1, hz2, hz3⟩ := hSw; go_simp; (try with_reducible rfl))
      try simp only [Act.put, List.getElem_toArray, List.getElem_cons_zero, List.getElem_cons_succ, List.setIfInBounds_toArray, List.set_cons_zero, List.set_cons_succ]
      refine anyT_takeN (i := 8) (v := .bool false) rfl (by kernel_rfl) (by kernel_rfl) (by kernel_rfl) (by rfl) (fun _ _ _ h => h) (Or.inl ⟨by rfl, ?yay8⟩) hS0 ?_
      case yay8 => (intro wz hSw; obtain ⟨hz0, hz1, hz2, hz3⟩ := hSw; go_simp; (try with_reducible rfl))
      try simp only [Act.put, List.getElem_toArray, List.getElem_cons_zero, List.getElem_cons_succ, List.setIfInBounds_toArray, List.set_cons_zero, List.set_cons_succ]
      refine anyT_takeN (i := 9) (v := ?vay9) rfl (by kernel_rfl) (by kernel_rfl) (by kernel_rfl) (by rfl) (fun _ _ _ h => h) (Or.inl ⟨by rfl, ?yay9⟩) hS0 ?_
      case yay9 => (intro wz hSw; obtain ⟨hz0, hz1, hz2, hz3⟩ := hSw; go_simp; (try with_reducible rfl))
      try simp only [Act.put, List.getElem_toArray, List.getElem_cons_zero, List.getElem_cons_succ, List.setIfInBounds_toArray, List.set_cons_zero, List.set_cons_succ]
      refine anyT_takeN (i := 10) (v := ?vay10) rfl (by kernel_rfl) (by kernel_rfl) (by kernel_rfl) (by rfl) (fun _ _ _ h => h) (Or.inl ⟨by rfl, ?yay10⟩) hS0 ?_
      case yay10 => (intro wz hSw; obtain ⟨hz0, hz1, hz2, hz3⟩ := hSw; go_simp; (try with_reducible rfl))
      try simp only [Act.put, List.getElem_toArray, List.getElem_cons_zero, List.getElem_cons_succ, List.setIfInBounds_toArray, List.set_cons_zero, List.set_cons_succ]
      refine anyT_takeN (i := 11) (v := ?vay11) rfl (by kernel_rfl) (by kernel_rfl) (by kernel_rfl) (by rfl) (fun _ _ _ h => h) (Or.inl ⟨by rfl, ?yay11⟩) hS0 ?_
      case yay11 => (intro wz hSw; obtain ⟨hz0, hz1, hz2, hz3⟩ := hSw; go_simp; (try with_reducible rfl))
      try simp only [Act.put, List.getElem_toArray, List.getElem_cons_zero, List.getElem_cons_succ, List.setIfInBounds_toArray, List.set_cons_zero, List.set_cons_succ]
      refine anyT_takeN (i := 12) (v := ?vay12) rfl (by kernel_rfl) (by kernel_rfl) (by kernel_rfl) (by rfl) (fun _ _ _ h => h) (Or.inl ⟨by rfl, ?yay12⟩) hS0 ?_
      case yay12 => (intro wz hSw; obtain ⟨hz0, hz1, hz2, hz3⟩ := hSw; go_simp; (try with_reducible rfl))
      try simp only [Act.put, List.getElem_toArray, List.getElem_cons_zero, List.getElem_cons_succ, List.setIfInBounds_toArray, List.set_cons_zero, List.set_cons_succ]
      refine anyT_takeN (i := 13) (v := ?vay13) rfl (by kernel_rfl) (by kernel_rfl) (by kernel_rfl) (by rfl) (fun _ _ _ h => h) (Or.inl ⟨by rfl, ?yay13⟩) hS0 ?_
      case yay13 => (intro wz hSw; obtain ⟨hz0, hz1, hz2, hz3⟩ := hSw; go_simp; (try with_reducible rfl))
      try simp only [Act.put, List.getElem_toArray, List.getElem_cons_zero, List.getElem_cons_succ, List.setIfInBounds_toArray, List.set_cons_zero, List.set_cons_succ]
      refine anyT_takeN (i := 14) (v := ?vay14) rfl (by kernel_rfl) (by kernel_rfl) (by kernel_rfl) (by rfl) (fun _ _ _ h => h) (Or.inl ⟨by rfl, ?yay14⟩) hS0 ?_
      case yay14 => (intro wz hSw; obtain ⟨hz0, hz1, hz2, hz3⟩ := hSw; go_simp; (try with_reducible rfl))
      try simp only [Act.put, List.getElem_toArray, List.getElem_cons_zero, List.getElem_cons_succ, List.setIfInBounds_toArray, List.set_cons_zero, List.set_cons_succ]
      refine anyT_takeN (i := 15) (v := ?vay15) rfl (by kernel_rfl) (by kernel_rfl) (by kernel_rfl) (by rfl) (fun _ _ _ h => h) (Or.inl ⟨by rfl, ?yay15⟩) hS0 ?_
      case yay15 => (intro wz hSw; obtain ⟨hz0, hz1, hz2, hz3⟩ := hSw; go_simp; (try with_reducible rfl))
      try simp only [Act.put, List.getElem_toArray, List.getElem_cons_zero, List.getElem_cons_succ, List.setIfInBounds_toArray, List.set_cons_zero, List.set_cons_succ]
      refine anyT_takeN (i := 16) (v := ?vay16) rfl (by kernel_rfl) (by kernel_rfl) (by kernel_rfl) (by rfl) (fun _ _ _ h => h) (Or.inl ⟨by rfl, ?yay16⟩) hS0 ?_
      case yay16 => (intro wz hSw; obtain ⟨hz0, hz1, hz2, hz3⟩ := hSw; go_simp; (try with_reducible rfl))
      try simp only [Act.put, List.getElem_toArray, List.getElem_cons_zero, List.getElem_cons_succ, List.setIfInBounds_toArray, List.set_cons_zero, List.set_cons_succ]
      refine anyT_takeN (i := 17) (v := .bool true) rfl (by kernel_rfl) (by kernel_rfl) (by kernel_rfl) (by rfl) (fun _ _ _ h => h) (Or.inl ⟨by rfl, ?yay17⟩) hS0 ?_
      case yay17 => (intro wz hSw; obtain ⟨hz0, hz1, hz2, hz3⟩ := hSw; go_simp; (try with_reducible rfl))
      try simp only [Act.put, List.getElem_toArray, List.getElem_cons_zero, List.getElem_cons_succ, List.setIfInBounds_toArray, List.set_cons_zero, List.set_cons_succ]
      refine anyT_takeN (i := 18) (v := ?vay18) rfl (by kernel_rfl) (by kernel_rfl) (by kernel_rfl) (by rfl) (fun _ _ _ h => h) (Or.inl ⟨by rfl, ?yay18⟩) hS0 ?_
      case yay18 => (intro wz hSw; obtain ⟨hz0, hz1, hz2, hz3⟩ := hSw; go_simp; (try with_reducible rfl))
      try simp only [Act.put, List.getElem_toArray, List.getElem_cons_zero, List.getElem_cons_succ, List.setIfInBounds_toArray, List.set_cons_zero, List.set_cons_succ]
      refine anyT_one (i := 19) (by kernel_rfl) rfl (fun K hK => ?_)
      go_simp
      go_at_call 27
      refine (fdem_yes _ 7 W4.drew).mono ?_
      rintro e w5 ⟨rfl, hw5⟩
      rw [hw5]
      clear hw5
      refine hK.out _ _ (.inr hS0) ?_
      clear hK
      refine anyT_done (by kernel_rfl) ?_
      clear hS0
      obtain ⟨W5, hW5⟩ : ∃ V : World, V = W4.drew := ⟨_, rfl⟩
      have hb5 : Below W4.heap.size W4 W5 := by rw [hW5]; exact (Below.refl _ _).drew
      have H5 : Hid (EnJ w base g b off n cap t d nv a s3 k3 ks3 p3 nv3 W5 ∧ BoxAt W5 w3.heap.size 65 7 w3.heap.size [.int .i64 kd, .string a.k.txt, .bool false, .string ⟨#[]⟩, .int .u64 a.k.nm, .int .u64 0, .int .i64 0]) := ⟨H4.out.1.up hb5, H4.out.2.1.chg (S := fun _ => False) (Chg.of_below hb5) (fun q => q)⟩
      rw [← hW5]
      clear hW5 hb5
      have HTk : Hid (Calls Tryz.prog 114 #[.pointer (some ⟨g, 0, none⟩)] W5 (TakP base g b off n cap t d s3 k3 nv3 W5)) := ftake_core H5.out.1.st H5.out.1.fp hfin
      go_wp2_with fail
      refine HTk.out.mono ?_
      clear HTk
      rintro e w6 ⟨Hb6, (⟨k6, ks6, p6, htk, rfl, hF6⟩ | ⟨c, e6, htk, rfl⟩)⟩
      case inr =>
        have HD : Hid (BehP base g b off n cap t d (fun r => r = liftP s (rangeF kd strs s.ks)) nv w (Pf c (e6 : Int)) w6) := H5.out.1.die (Hb6.out.mono (fun q z => .inl z)) (by
          show _ = _
          rw [HA6.out, htk]; rfl)
        clear htk
        exact ⟨rfl, HD.out⟩
      have HA7 : Hid (liftP s (rangeF kd strs s.ks) = .ok (⟨k6 :: ks6, s3.made, s3.out⟩, (⟨kd, a.k.txt, true, k3.k.txt, a.k.nm, k3.k.nm, 0⟩ : Nd))) := by show _ = _; rw [HA6.out, htk]; rfl
      have hJ6 : EnJ w base g b off n cap t d nv a ⟨k6 :: ks6, s3.made, s3.out⟩ k6 ks6 p6 nv3 w6 := H5.out.1.on (Hb6.out.mono (fun q z => .inl z)) hF6 (fun q hq => .inl hq)
      have hB6 := H5.out.2.chg Hb6.out (by have := HJ3.out.lt; omega)
      obtain ⟨W7, hW7⟩ : ∃ V : World, V = w6.alloc (Obj.cells #[.int .u8 ((ftB k3.k).toNat : Int), .int .i64 (k3.pos : Int), .int .i64 k3.k.wd, .int .u64 k3.k.nm, .string k3.k.txt] 52) := ⟨_, rfl⟩
      have hb7 : Below w6.heap.size w6 W7 := by rw [hW7]; exact (Below.refl _ _).alloc (Nat.le_refl _) _
      have H7 : Hid (EnJ w base g b off n cap t d nv a ⟨k6 :: ks6, s3.made, s3.out⟩ k6 ks6 p6 nv3 W7 ∧ BoxAt W7 w3.heap.size 65 7 w3.heap.size [.int .i64 kd, .string a.k.txt, .bool false, .string ⟨#[]⟩, .int .u64 a.k.nm, .int .u64 0, .int .i64 0] ∧ BoxAt W7 w6.heap.size 52 5 w6.heap.size (ftV k3) ∧ w3.heap.size < w6.heap.size) := ⟨hJ6.up hb7, hB6.chg (S := fun _ => False) (Chg.of_below hb7) (fun q => q), by rw [hW7]; exact boxAt_new w6 _ (Nat.le_refl _) rfl, hB6.lt.2⟩
      clear htk hF6 hJ6 hB6 hb7 Hb6
      go_upto_region 9 with fail
      rw [← hW7]
      clear hW7
      have y3 := H7.out.2.2.1.cell (j := 3) rfl
      have y4 := H7.out.2.2.1.cell (j := 4) rfl
      have x2 := H7.out.2.1.cell (j := 2) rfl
      have x3 := H7.out.2.1.cell (j := 3) rfl
      have x5 := H7.out.2.1.cell (j := 5) rfl
      have u2 := H7.out.2.1.frozen 2
      have u3 := H7.out.2.1.frozen 3
      have u5 := H7.out.2.1.frozen 5
      have hne : ¬ w6.heap.size = w3.heap.size := by have := H7.out.2.2.2; omega
      go_region
      obtain ⟨W8, hW8⟩ : ∃ V : World, V = (((W7.setCell ⟨w3.heap.size, 2, none⟩ (Value.bool true)).setCell ⟨w3.heap.size, 3, none⟩ (Value.string k3.k.txt)).setCell ⟨w3.heap.size, 5, none⟩ (Value.int IntKind.u64 k3.k.nm)).drew := ⟨_, rfl⟩
      have hc8 : Chg (fun q => q = w3.heap.size) W7 W8 := by
        rw [hW8]
        exact (((Chg.of_set (S := fun q => q = w3.heap.size) _ _ _ _ rfl).trans (Chg.of_set (S := fun q => q = w3.heap.size) _ _ _ _ rfl)).trans (Chg.of_set (S := fun q => q = w3.heap.size) _ _ _ _ rfl)).trans (Chg.of_below (Below.refl _ _).drew)
      have H8 : Hid (EnJ w base g b off n cap t d nv a ⟨k6 :: ks6, s3.made, s3.out⟩ k6 ks6 p6 nv3 W8 ∧ BoxAt W8 w3.heap.size 65 7 w3.heap.size [.int .i64 kd, .string a.k.txt, .bool true, .string k3.k.txt, .int .u64 a.k.nm, .int .u64 k3.k.nm, .int .i64 0]) := ⟨H7.out.1.side hc8 (by have := HJ3.out.lt; omega) (fun q hq z => by have := (HJ3.out.fp.nlt q hq).2; omega), by
        have h1 := ((H7.out.2.1.set 2 (.bool true)).set 3 (.string k3.k.txt)).set 5 (.int .u64 k3.k.nm)
        rw [hW8]
        exact BoxAt.chg (S := fun _ => False) h1 (Chg.of_below (Below.refl _ _).drew) (fun q => q)⟩
      rw [← hW8]
      clear hW8 hc8 x2 x3 x5 u2 u3 u5 y3 y4 hne
      have hne : ¬ w3.heap.size = w.heap.size := by have := HJ3.out.lt; omega
      have l0 := H8.out.1.res.cell (j := 0) rfl
      have l1 := H8.out.1.res.cell (j := 1) rfl
      have l2 := H8.out.1.res.cell (j := 2) rfl
      have l3 := H8.out.1.res.cell (j := 3) rfl
      have l4 := H8.out.1.res.cell (j := 4) rfl
      have l5 := H8.out.1.res.cell (j := 5) rfl
      have l6 := H8.out.1.res.cell (j := 6) rfl
      have f0 := H8.out.1.res.frozen 0
      have f1 := H8.out.1.res.frozen 1
      have f2 := H8.out.1.res.frozen 2
      have f3 := H8.out.1.res.frozen 3
      have f4 := H8.out.1.res.frozen 4
      have f5 := H8.out.1.res.frozen 5
      have f6 := H8.out.1.res.frozen 6
      have c0 := H8.out.2.cell (j := 0) rfl
      have c1 := H8.out.2.cell (j := 1) rfl
      have c2 := H8.out.2.cell (j := 2) rfl
      have c3 := H8.out.2.cell (j := 3) rfl
      have c4 := H8.out.2.cell (j := 4) rfl
      have c5 := H8.out.2.cell (j := 5) rfl
      have c6 := H8.out.2.cell (j := 6) rfl
      obtain ⟨W9, hW9⟩ : ∃ V : World, V = setN W8 w.heap.size ((⟨kd, a.k.txt, true, k3.k.txt, a.k.nm, k3.k.nm, 0⟩ : Nd)) := ⟨_, rfl⟩
      have hB9 := H8.out.1.res.setN ((⟨kd, a.k.txt, true, k3.k.txt, a.k.nm, k3.k.nm, 0⟩ : Nd))
      rw [← hW9] at hB9
      have hc9 : Chg (fun q => q = w.heap.size) W8 W9 := by rw [hW9]; exact chg_setN _ _ _
      have HR : Hid (BehP base g b off n cap t d (fun r => r = liftP s (rangeF kd strs s.ks)) nv w (.returned ((⟨kd, a.k.txt, true, k3.k.txt, a.k.nm, k3.k.nm, 0⟩ : Nd)).v) W9) := H8.out.1.fin (by show _ = _; rw [HA7.out]) hc9
      have q0 := hB9.cell (j := 0) rfl
      have q1 := hB9.cell (j := 1) rfl
      have q2 := hB9.cell (j := 2) rfl
      have q3 := hB9.cell (j := 3) rfl
      have q4 := hB9.cell (j := 4) rfl
      have q5 := hB9.cell (j := 5) rfl
      have q6 := hB9.cell (j := 6) rfl
      unfold setN at hW9
      simp only [noS] at hW9 q0 q1 q2 q3 q4 q5 q6
      clear hB9 hc9
      go_wp2_with fail
      rw [← hW9]
      exact bodyPost_ret (v := ((⟨kd, a.k.txt, true, k3.k.txt, a.k.nm, k3.k.nm, 0⟩ : Nd)).v) (by simp [results, Tryz.results129, go_sem, q0, q1, q2, q3, q4, q5, q6, noS]) rfl HR.out

    have hd2 : decide (a.k.nm < k3.k.nm) = false := decide_eq_false hl2
    have e4 := H4.out.1.low.cell (j := 4) rfl
    have e3 := H4.out.1.low.cell (j := 3) rfl
    have e6 := H4.out.1.fp.fs.cell (j := 6) rfl
    have e5 := H4.out.1.fp.fs.cell (j := 5) rfl
    have hS0 : (fun w' : World => w'.cell? ⟨w.heap.size + 1, 4, none⟩ = some (.string a.k.txt) ∧ w'.cell? ⟨w.heap.size + 1, 3, none⟩ = some (.int .u64 a.k.nm) ∧ w'.cell? ⟨g, 6, none⟩ = some (.string k3.k.txt) ∧ w'.cell? ⟨g, 5, none⟩ = some (.int .u64 k3.k.nm)) W4.drew := ⟨e4, e3, e6, e5⟩
    clear e3 e4 e5 e6
    refine wp_region_T 99 (fun w' : World => w'.cell? ⟨w.heap.size + 1, 4, none⟩ = some (.string a.k.txt) ∧ w'.cell? ⟨w.heap.size + 1, 3, none⟩ = some (.int .u64 a.k.nm) ∧ w'.cell? ⟨g, 6, none⟩ = some (.string k3.k.txt) ∧ w'.cell? ⟨g, 5, none⟩ = some (.int .u64 k3.k.nm)) (by kernel_rfl) ?_
    refine anyT_takeN (i := 0) (v := ?vaz0) rfl (by kernel_rfl) (by kernel_rfl) (by kernel_rfl) (by rfl) (fun _ _ _ h => h) (Or.inl ⟨by rfl, ?yaz0⟩) hS0 ?_
    case yaz0 => (intro wz hSw; obtain ⟨hz0, hz1, hz2, hz3⟩ := hSw; go_simp; (try with_reducible rfl))
    try simp only [Act.put, List.getElem_toArray, List.getElem_cons_zero, List.getElem_cons_succ, List.setIfInBounds_toArray, List.set_cons_zero, List.set_cons_succ]
    refine anyT_takeN (i := 1) (v := ?vaz1) rfl (by kernel_rfl) (by kernel_rfl) (by kernel_rfl) (by rfl) (fun _ _ _ h => h) (Or.inl ⟨by rfl, ?yaz1⟩) hS0 ?_
    case yaz1 => (intro wz hSw; obtain ⟨hz0, hz1, hz2, hz3⟩ := hSw; go_simp; (try with_reducible rfl))
    try simp only [Act.put, List.getElem_toArray, List.getElem_cons_zero, List.getElem_cons_succ, List.setIfInBounds_toArray, List.set_cons_zero, List.set_cons_succ]
    refine anyT_takeN (i := 2) (v := ?vaz2) rfl (by kernel_rfl) (by kernel_rfl) (by kernel_rfl) (by rfl) (fun _ _ _ h => h) (Or.inl ⟨by rfl, ?yaz2⟩) hS0 ?_
    case yaz2 => (intro wz hSw; obtain ⟨hz0, hz1, hz2, hz3⟩ := hSw; go_simp; (try with_reducible rfl))
    try simp only [Act.put, List.getElem_toArray, List.getElem_cons_zero, List.getElem_cons_succ, List.setIfInBounds_toArray, List.set_cons_zero, List.set_cons_succ]
    refine anyT_takeN (i := 3) (v := ?vaz3) rfl (by kernel_rfl) (by kernel_rfl) (by kernel_rfl) (by rfl) (fun _ _ _ h => h) (Or.inl ⟨by rfl, ?yaz3⟩) hS0 ?_
    case yaz3 => (intro wz hSw; obtain ⟨hz0, hz1, hz2, hz3⟩ := hSw; go_simp; (try with_reducible rfl))
    try simp only [Act.put, List.getElem_toArray, List.getElem_cons_zero, List.getElem_cons_succ, List.setIfInBounds_toArray, List.set_cons_zero, List.set_cons_succ]
    refine anyT_takeN (i := 4) (v := ?vaz4) rfl (by kernel_rfl) (by kernel_rfl) (by kernel_rfl) (by rfl) (fun _ _ _ h => h) (Or.inl ⟨by rfl, ?yaz4⟩) hS0 ?_
    case yaz4 => (intro wz hSw; obtain ⟨hz0, hz1, hz2, hz3⟩ := hSw; go_simp; (try with_reducible rfl))
    try simp only [Act.put, List.getElem_toArray, List.getElem_cons_zero, List.getElem_cons_succ, List.setIfInBounds_toArray, List.set_cons_zero, List.set_cons_succ]
    refine anyT_takeN (i := 5) (v := ?vaz5) rfl (by kernel_rfl) (by kernel_rfl) (by kernel_rfl) (by rfl) (fun _ _ _ h => h) (Or.inl ⟨by rfl, ?yaz5⟩) hS0 ?_
    case yaz5 => (intro wz hSw; obtain ⟨hz0, hz1, hz2, hz3⟩ := hSw; go_simp; (try with_reducible rfl))
    try simp only [Act.put, List.getElem_toArray, List.getElem_cons_zero, List.getElem_cons_succ, List.setIfInBounds_toArray, List.set_cons_zero, List.set_cons_succ]
    refine anyT_takeN (i := 6) (v := ?vaz6) rfl (by kernel_rfl) (by kernel_rfl) (by kernel_rfl) (by rfl) (fun _ _ _ h => h) (Or.inl ⟨by rfl, ?yaz6⟩) hS0 ?_
    case yaz6 => (intro wz hSw; obtain ⟨hz0, hz1, hz2, hz3⟩ := hSw; go_simp; (try with_reducible rfl))
    try simp only [Act.put, List.getElem_toArray, List.getElem_cons_zero, List.getElem_cons_succ, List.setIfInBounds_toArray, List.set_cons_zero, List.set_cons_succ]
    refine anyT_takeN (i := 7) (v := ?vaz7) rfl (by kernel_rfl) (by kernel_rfl) (by kernel_rfl) (by rfl) (fun _ _ _ h => h) (Or.inl ⟨by rfl, ?yaz7⟩) hS0 ?_
    case yaz7 => (intro wz hSw; obtain ⟨hz0, hz1, hz2, hz3⟩ := hSw; go_simp; (try with_reducible rfl))
    try simp only [Act.put, List.getElem_toArray, List.getElem_cons_zero, List.getElem_cons_succ, List.setIfInBounds_toArray, List.set_cons_zero, List.set_cons_succ]
    refine anyT_takeN (i := 8) (v := .bool false) rfl (by kernel_rfl) (by kernel_rfl) (by kernel_rfl) (by rfl) (fun _ _ _ h => h) (Or.inl ⟨by rfl, ?yaz8⟩) hS0 ?_
    case yaz8 => (intro wz hSw; obtain ⟨hz0, hz1, hz2, hz3⟩ := hSw; go_simp; (try with_reducible rfl))
    try simp only [Act.put, List.getElem_toArray, List.getElem_cons_zero, List.getElem_cons_succ, List.setIfInBounds_toArray, List.set_cons_zero, List.set_cons_succ]
    refine anyT_takeN (i := 9) (v := ?vaz9) rfl (by kernel_rfl) (by kernel_rfl) (by kernel_rfl) (by rfl) (fun _ _ _ h => h) (Or.inl ⟨by rfl, ?yaz9⟩) hS0 ?_
    case yaz9 => (intro wz hSw; obtain ⟨hz0, hz1, hz2, hz3⟩ := hSw; go_simp; (try with_reducible rfl))
    try simp only [Act.put, List.getElem_toArray, List.getElem_cons_zero, List.getElem_cons_succ, List.setIfInBounds_toArray, List.set_cons_zero, List.set_cons_succ]
    refine anyT_takeN (i := 10) (v := ?vaz10) rfl (by kernel_rfl) (by kernel_rfl) (by kernel_rfl) (by rfl) (fun _ _ _ h => h) (Or.inl ⟨by rfl, ?yaz10⟩) hS0 ?_
    case yaz10 => (intro wz hSw; obtain ⟨hz0, hz1, hz2, hz3⟩ := hSw; go_simp; (try with_reducible rfl))
    try simp only [Act.put, List.getElem_toArray, List.getElem_cons_zero, List.getElem_cons_succ, List.setIfInBounds_toArray, List.set_cons_zero, List.set_cons_succ]
    refine anyT_takeN (i := 11) (v := ?vaz11) rfl (by kernel_rfl) (by kernel_rfl) (by kernel_rfl) (by rfl) (fun _ _ _ h => h) (Or.inl ⟨by rfl, ?yaz11⟩) hS0 ?_
    case yaz11 => (intro wz hSw; obtain ⟨hz0, hz1, hz2, hz3⟩ := hSw; go_simp; (try with_reducible rfl))
    try simp only [Act.put, List.getElem_toArray, List.getElem_cons_zero, List.getElem_cons_succ, List.setIfInBounds_toArray, List.set_cons_zero, List.set_cons_succ]
    refine anyT_takeN (i := 12) (v := ?vaz12) rfl (by kernel_rfl) (by kernel_rfl) (by kernel_rfl) (by rfl) (fun _ _ _ h => h) (Or.inl ⟨by rfl, ?yaz12⟩) hS0 ?_
    case yaz12 => (intro wz hSw; obtain ⟨hz0, hz1, hz2, hz3⟩ := hSw; go_simp; (try with_reducible rfl))
    try simp only [Act.put, List.getElem_toArray, List.getElem_cons_zero, List.getElem_cons_succ, List.setIfInBounds_toArray, List.set_cons_zero, List.set_cons_succ]
    refine anyT_takeN (i := 13) (v := ?vaz13) rfl (by kernel_rfl) (by kernel_rfl) (by kernel_rfl) (by rfl) (fun _ _ _ h => h) (Or.inl ⟨by rfl, ?yaz13⟩) hS0 ?_
    case yaz13 => (intro wz hSw; obtain ⟨hz0, hz1, hz2, hz3⟩ := hSw; go_simp; (try with_reducible rfl))
    try simp only [Act.put, List.getElem_toArray, List.getElem_cons_zero, List.getElem_cons_succ, List.setIfInBounds_toArray, List.set_cons_zero, List.set_cons_succ]
    refine anyT_takeN (i := 14) (v := ?vaz14) rfl (by kernel_rfl) (by kernel_rfl) (by kernel_rfl) (by rfl) (fun _ _ _ h => h) (Or.inl ⟨by rfl, ?yaz14⟩) hS0 ?_
    case yaz14 => (intro wz hSw; obtain ⟨hz0, hz1, hz2, hz3⟩ := hSw; go_simp; (try with_reducible rfl))
    try simp only [Act.put, List.getElem_toArray, List.getElem_cons_zero, List.getElem_cons_succ, List.setIfInBounds_toArray, List.set_cons_zero, List.set_cons_succ]
    refine anyT_takeN (i := 15) (v := ?vaz15) rfl (by kernel_rfl) (by kernel_rfl) (by kernel_rfl) (by rfl) (fun _ _ _ h => h) (Or.inl ⟨by rfl, ?yaz15⟩) hS0 ?_
    case yaz15 => (intro wz hSw; obtain ⟨hz0, hz1, hz2, hz3⟩ := hSw; go_simp; (try with_reducible rfl))
    try simp only [Act.put, List.getElem_toArray, List.getElem_cons_zero, List.getElem_cons_succ, List.setIfInBounds_toArray, List.set_cons_zero, List.set_cons_succ]
    refine anyT_takeN (i := 16) (v := ?vaz16) rfl (by kernel_rfl) (by kernel_rfl) (by kernel_rfl) (by rfl) (fun _ _ _ h => h) (Or.inl ⟨by rfl, ?yaz16⟩) hS0 ?_
    case yaz16 => (intro wz hSw; obtain ⟨hz0, hz1, hz2, hz3⟩ := hSw; go_simp; (try with_reducible rfl))
    try simp only [Act.put, List.getElem_toArray, List.getElem_cons_zero, List.getElem_cons_succ, List.setIfInBounds_toArray, List.set_cons_zero, List.set_cons_succ]
    refine anyT_takeN (i := 17) (v := .bool false) rfl (by kernel_rfl) (by kernel_rfl) (by kernel_rfl) (by rfl) (fun _ _ _ h => h) (Or.inl ⟨by rfl, ?yaz17⟩) hS0 ?_
    case yaz17 => (intro wz hSw; obtain ⟨hz0, hz1, hz2, hz3⟩ := hSw; go_simp; (try with_reducible rfl))
    try simp only [Act.put, List.getElem_toArray, List.getElem_cons_zero, List.getElem_cons_succ, List.setIfInBounds_toArray, List.set_cons_zero, List.set_cons_succ]
    refine anyT_takeN (i := 18) (v := ?vaz18) rfl (by kernel_rfl) (by kernel_rfl) (by kernel_rfl) (by rfl) (fun _ _ _ h => h) (Or.inl ⟨by rfl, ?yaz18⟩) hS0 ?_
    case yaz18 => (intro wz hSw; obtain ⟨hz0, hz1, hz2, hz3⟩ := hSw; go_simp; (try with_reducible rfl))
    try simp only [Act.put, List.getElem_toArray, List.getElem_cons_zero, List.getElem_cons_succ, List.setIfInBounds_toArray, List.set_cons_zero, List.set_cons_succ]
    refine anyT_one (i := 19) (by kernel_rfl) rfl (fun K hK => ?_)
    go_simp
    go_at_call 27
    have HD : Hid (BehP base g b off n cap t d (fun r => r = liftP s (rangeF kd strs s.ks)) nv w (Pf 7 (k3.pos : Int)) W4.drew) := H4.out.1.die (Chg.of_below (Below.refl _ _).drew) (by show _ = _; rw [HA5.out, if_neg (by intro z; rcases z with z | z <;> simp_all [less])]; rfl)
    refine (fdem_no (H4.out.1.fp.below (Below.refl _ _).drew) 7).mono ?_
    rintro e w5 ⟨rfl, hw5⟩
    rw [hw5]
    clear hw5 hK
    exact ⟨rfl, HD.out⟩


  rw [h1] at zK
  have HTk : Hid (Calls Tryz.prog 114 #[.pointer (some ⟨g, 0, none⟩)] W0 (TakP base g b off n cap t d s k nv W0)) := ftake_core HJ0.out.1.st HJ0.out.1.fp (sort_fin h1)
  have HA0 : Hid (liftP s (rangeF kd strs s.ks) = liftP s (match takeF s.ks with
      | .error e => .error e
      | .ok k2 => dotsF kd strs k.k k2)) := by
    show _ = _
    rw [rangeF, if_pos (by rw [HJ0.out.2.2]; exact h1)]
    rw [show hdK s.ks = k.k from by rw [HJ0.out.2.2]; rfl]
    rfl
  clear h1
  go_wp2_with fail
  refine HTk.out.mono ?_
  clear HTk
  rintro e w1 ⟨Hb1, (⟨k1, ks1, p1, htk, rfl, hF1⟩ | ⟨c, e1, htk, rfl⟩)⟩
  case inr =>
    have HD : Hid (BehP base g b off n cap t d (fun r => r = liftP s (rangeF kd strs s.ks)) nv w (Pf c (e1 : Int)) w1) := HJ0.out.1.die (Hb1.out.mono (fun q z => .inl z)) (by
      show _ = _
      rw [HA0.out, htk]; rfl)
    clear htk
    exact ⟨rfl, HD.out⟩
  obtain ⟨s2, hs2⟩ : ∃ s2 : Ps, s2 = ⟨k1 :: ks1, s.made, s.out⟩ := ⟨_, rfl⟩
  have hJ1 : EnJ w base g b off n cap t d nv ⟨.fin, 0⟩ s2 k1 ks1 p1 nv w1 := by rw [hs2]; exact HJ0.out.1.on (Hb1.out.mono (fun q z => .inl z)) hF1 (fun q hq => .inl hq)
  have HA : Hid (liftP s (rangeF kd strs s.ks) = liftP s2 (dotsF kd strs k.k s2.ks)) := by show _ = _; rw [HA0.out, htk, hs2]; rfl
  have l0 := hJ1.low.cell (j := 0) rfl
  have l1 := hJ1.low.cell (j := 1) rfl
  have l2 := hJ1.low.cell (j := 2) rfl
  have l3 := hJ1.low.cell (j := 3) rfl
  have l4 := hJ1.low.cell (j := 4) rfl
  have f0 := hJ1.low.frozen 0
  have f1 := hJ1.low.frozen 1
  have f2 := hJ1.low.frozen 2
  have f3 := hJ1.low.frozen 3
  have f4 := hJ1.low.frozen 4
  obtain ⟨W2, hW2⟩ : ∃ V : World, V = setP w1 (w.heap.size + 1) (.int .u8 ((ftB k.k).toNat : Int)) (.int .i64 (k.pos : Int)) (.int .i64 k.k.wd) (.int .u64 k.k.nm) (.string k.k.txt) := ⟨_, rfl⟩
  have HJ : Hid (EnJ w base g b off n cap t d nv k s2 k1 ks1 p1 nv W2) := by
    have hc2 : Chg (fun q => q = w.heap.size + 1) w1 W2 := by rw [hW2]; exact chg_setP _ _ _ _ _ _ _
    have hl := hJ1.lt
    have hno : ∀ q, nv.ownBlock = some q → ¬ q = w.heap.size + 1 := fun q hq z => by have := hJ1.old q hq; omega
    exact ⟨hJ1.fp.chg hc2 (by omega) hno, hJ1.st.chg hc2 (fun q z => by omega), hJ1.res.chg hc2 (by omega), by rw [hW2]; exact hJ1.low.setP _ _ _ _ _, Chg.comp hJ1.chg hc2 (fun q hq z => by omega), hJ1.old, hJ1.own, by have := hc2.size; omega⟩
  clear hJ1 HA0 HJ0 htk hF1 Hb1 hs2
  unfold setP at hW2
  obtain ⟨a, ha⟩ : ∃ a : Tk, a = k := ⟨_, rfl⟩
  have zft : ftV k = [.int .u8 ((ftB k.k).toNat : Int), .int .i64 (k.pos : Int), .int .i64 k.k.wd, .int .u64 k.k.nm, .string k.k.txt] := rfl
  rw [← ha] at HJ HA
  go_upto_region 4 with fail
  rw [← hW2]
  clear hW2 cK zK l0 l1 l2 l3 l4 f0 f1 f2 f3 f4 ha zft
  have HE : Hid (Calls Tryz.prog 127 #[.pointer (some ⟨g, 0, none⟩), .int .u8 46] W2 (FpO base g b off n cap t d (fun r => r = s2.to (expectF 46 s2.ks)) (.agg (ftV k1).toArray) nv W2)) := expect_core (bb := 46) HJ.out.st HJ.out.fp (by simp)
  go_wp2_with fail
  refine HE.out.mono ?_
  clear HE
  rintro e w3 ⟨Hc3, (⟨s3, hs3, rfl, k3, ks3, p3, nv3, hF3, hn3⟩ | ⟨c, e3, hs3, rfl⟩)⟩
  case inr =>
    have HD : Hid (BehP base g b off n cap t d (fun r => r = liftP s (rangeF kd strs s.ks)) nv w (Pf c (e3 : Int)) w3) := HJ.out.die Hc3.out (by
      show _ = _
      rw [HA.out, dotsF, expect_err hs3]; rfl)
    clear hs3
    exact ⟨rfl, HD.out⟩
  have HJ3 : Hid (EnJ w base g b off n cap t d nv a s3 k3 ks3 p3 nv3 w3) := HJ.out.on Hc3.out hF3 hn3
  have HA3 : Hid (liftP s (rangeF kd strs s.ks) = liftP s3 (upF kd strs a.k s3.ks)) := by
    obtain ⟨q, hq, rfl⟩ := expect_ok hs3
    show _ = _
    rw [HA.out, dotsF, hq]
    rfl
  clear hs3 hF3 hn3 Hc3
  have m3 := HJ3.out.low.cell (j := 3) rfl
  have m4 := HJ3.out.low.cell (j := 4) rfl
  obtain ⟨W4, hW4⟩ : ∃ V : World, V = w3.alloc (Obj.cells #[.int .i64 kd, .string a.k.txt, .bool false, .string ⟨#[]⟩, .int .u64 a.k.nm, .int .u64 0, .int .i64 0] 65) := ⟨_, rfl⟩
  have b4 : Below w3.heap.size w3 W4 := by rw [hW4]; exact (Below.refl _ _).alloc (Nat.le_refl _) _
  have H4 : Hid (EnJ w base g b off n cap t d nv a s3 k3 ks3 p3 nv3 W4 ∧ BoxAt W4 w3.heap.size 65 7 w3.heap.size [.int .i64 kd, .string a.k.txt, .bool false, .string ⟨#[]⟩, .int .u64 a.k.nm, .int .u64 0, .int .i64 0] ∧ (k3.k.good ∨ k3.k = .fin) ∧ s3.ks = k3 :: ks3) := ⟨HJ3.out.up b4, by rw [hW4]; exact boxAt_new w3 _ (Nat.le_refl _) rfl, HJ3.out.fp.kinds, HJ3.out.fp.eq⟩
  go_upto_region 6 with fail
  rw [← hW4]
  clear hW4 m3 m4 b4
  have cK := H4.out.1.fp.fs.cell (j := 2) rfl
  have zK := ends_sort H4.out.2.2.1 strs
  rw [hsv] at zK
  by_cases h3 : k3.k.isSort strs = true
  case neg =>
    have h3' : k3.k.isSort strs = false := by simpa using h3
    rw [h3'] at zK
    clear h3
    have HA4 : Hid (liftP s (rangeF kd strs s.ks) = .ok (s3, (⟨kd, a.k.txt, false, noS, a.k.nm, 0, 0⟩ : Nd))) := by
      show _ = _
      rw [HA3.out, upF, if_neg (by rw [H4.out.2.2.2]; show ¬ k3.k.isSort strs = true; rw [h3']; simp)]
      rfl
    clear h3'
    have hne : ¬ w3.heap.size = w.heap.size := by have := HJ3.out.lt; omega
    go_upto_region 10 with fail
    have l0 := H4.out.1.res.cell (j := 0) rfl
    have l1 := H4.out.1.res.cell (j := 1) rfl
    have l2 := H4.out.1.res.cell (j := 2) rfl
    have l3 := H4.out.1.res.cell (j := 3) rfl
    have l4 := H4.out.1.res.cell (j := 4) rfl
    have l5 := H4.out.1.res.cell (j := 5) rfl
    have l6 := H4.out.1.res.cell (j := 6) rfl
    have f0 := H4.out.1.res.frozen 0
    have f1 := H4.out.1.res.frozen 1
    have f2 := H4.out.1.res.frozen 2
    have f3 := H4.out.1.res.frozen 3
    have f4 := H4.out.1.res.frozen 4
    have f5 := H4.out.1.res.frozen 5
    have f6 := H4.out.1.res.frozen 6
    have c0 := H4.out.2.1.cell (j := 0) rfl
    have c1 := H4.out.2.1.cell (j := 1) rfl
    have c2 := H4.out.2.1.cell (j := 2) rfl
    have c3 := H4.out.2.1.cell (j := 3) rfl
    have c4 := H4.out.2.1.cell (j := 4) rfl
    have c5 := H4.out.2.1.cell (j := 5) rfl
    have c6 := H4.out.2.1.cell (j := 6) rfl
    obtain ⟨W9, hW9⟩ : ∃ V : World, V = setN W4 w.heap.size ((⟨kd, a.k.txt, false, noS, a.k.nm, 0, 0⟩ : Nd)) := ⟨_, rfl⟩
    have hB9 := H4.out.1.res.setN ((⟨kd, a.k.txt, false, noS, a.k.nm, 0, 0⟩ : Nd))
    rw [← hW9] at hB9
    have hc9 : Chg (fun q => q = w.heap.size) W4 W9 := by rw [hW9]; exact chg_setN _ _ _
    have HR : Hid (BehP base g b off n cap t d (fun r => r = liftP s (rangeF kd strs s.ks)) nv w (.returned ((⟨kd, a.k.txt, false, noS, a.k.nm, 0, 0⟩ : Nd)).v) W9) := H4.out.1.fin (by show _ = _; rw [HA4.out]) hc9
    have q0 := hB9.cell (j := 0) rfl
    have q1 := hB9.cell (j := 1) rfl
    have q2 := hB9.cell (j := 2) rfl
    have q3 := hB9.cell (j := 3) rfl
    have q4 := hB9.cell (j := 4) rfl
    have q5 := hB9.cell (j := 5) rfl
    have q6 := hB9.cell (j := 6) rfl
    unfold setN at hW9
    simp only [noS] at hW9 q0 q1 q2 q3 q4 q5 q6
    clear hB9 hc9
    go_wp2_with fail
    rw [← hW9]
    exact bodyPost_ret (v := ((⟨kd, a.k.txt, false, noS, a.k.nm, 0, 0⟩ : Nd)).v) (by simp [results, Tryz.results129, go_sem, q0, q1, q2, q3, q4, q5, q6, noS]) rfl HR.out
  rw [h3] at zK
  have hfin := sort_fin h3
  have eU : upF kd strs a.k s3.ks = (if less a.k.txt k3.k.txt ∨ a.k.nm < k3.k.nm then (match takeF s3.ks with
        | .error e => .error e
        | .ok k2 => .ok (k2, (⟨kd, a.k.txt, true, k3.k.txt, a.k.nm, k3.k.nm, 0⟩ : Nd))) else .error (7, k3.pos)) := by
    unfold upF
    rw [if_pos (by rw [H4.out.2.2.2]; exact h3)]
    rw [show hdK s3.ks = k3.k from by rw [H4.out.2.2.2]; rfl, show hdA s3.ks = k3.pos from by rw [H4.out.2.2.2]; rfl]
    rfl
  have HA5 : Hid (liftP s (rangeF kd strs s.ks) = liftP s3 (if less a.k.txt k3.k.txt ∨ a.k.nm < k3.k.nm then (match takeF s3.ks with
        | .error e => .error e
        | .ok k2 => .ok (k2, (⟨kd, a.k.txt, true, k3.k.txt, a.k.nm, k3.k.nm, 0⟩ : Nd))) else .error (7, k3.pos))) := by show _ = _; rw [HA3.out, eU]
  clear eU h3 HA3
  go_upto_region 7 with fail
  clear cK zK
  by_cases hl1 : less a.k.txt k3.k.txt
  case pos =>
    have hd1 : Op.bytesLess a.k.txt.toList k3.k.txt.toList = true := hl1
    have HA6 : Hid (liftP s (rangeF kd strs s.ks) = liftP s3 (match takeF s3.ks with
        | .error e => .error e
        | .ok k2 => .ok (k2, (⟨kd, a.k.txt, true, k3.k.txt, a.k.nm, k3.k.nm, 0⟩ : Nd)))) := by show _ = _; rw [HA5.out, if_pos (by exact .inl hl1)]

    clear hl1
    have e4 := H4.out.1.low.cell (j := 4) rfl
    have e3 := H4.out.1.low.cell (j := 3) rfl
    have e6 := H4.out.1.fp.fs.cell (j := 6) rfl
    have e5 := H4.out.1.fp.fs.cell (j := 5) rfl
    have hS0 : (fun w' : World => w'.cell? ⟨w.heap.size + 1, 4, none⟩ = some (.string a.k.txt) ∧ w'.cell? ⟨w.heap.size + 1, 3, none⟩ = some (.int .u64 a.k.nm) ∧ w'.cell? ⟨g, 6, none⟩ = some (.string k3.k.txt) ∧ w'.cell? ⟨g, 5, none⟩ = some (.int .u64 k3.k.nm)) W4.drew := ⟨e4, e3, e6, e5⟩
    clear e3 e4 e5 e6
    refine wp_region_T 99 (fun w' : World => w'.cell? ⟨w.heap.size + 1, 4, none⟩ = some (.string a.k.txt) ∧ w'.cell? ⟨w.heap.size + 1, 3, none⟩ = some (.int .u64 a.k.nm) ∧ w'.cell? ⟨g, 6, none⟩ = some (.string k3.k.txt) ∧ w'.cell? ⟨g, 5, none⟩ = some (.int .u64 k3.k.nm)) (by kernel_rfl) ?_
    refine anyT_takeN (i := 0) (v := ?vbx0) rfl (by kernel_rfl) (by kernel_rfl) (by kernel_rfl) (by rfl) (fun _ _ _ h => h) (Or.inl ⟨by rfl, ?ybx0⟩) hS0 ?_
    case ybx0 => (intro wz hSw; obtain ⟨hz0, hz1, hz2, hz3⟩ := hSw; go_simp; (try with_reducible rfl))
    try simp only [Act.put, List.getElem_toArray, List.getElem_cons_zero, List.getElem_cons_succ, List.setIfInBounds_toArray, List.set_cons_zero, List.set_cons_succ]
    refine anyT_takeN (i := 1) (v := ?vbx1) rfl (by kernel_rfl) (by kernel_rfl) (by kernel_rfl) (by rfl) (fun _ _ _ h => h) (Or.inl ⟨by rfl, ?ybx1⟩) hS0 ?_
    case ybx1 => (intro wz hSw; obtain ⟨hz0, hz1, hz2, hz3⟩ := hSw; go_simp; (try with_reducible rfl))
    try simp only [Act.put, List.getElem_toArray, List.getElem_cons_zero, List.getElem_cons_succ, List.setIfInBounds_toArray, List.set_cons_zero, List.set_cons_succ]
    refine anyT_takeN (i := 2) (v := ?vbx2) rfl (by kernel_rfl) (by kernel_rfl) (by kernel_rfl) (by rfl) (fun _ _ _ h => h) (Or.inl ⟨by rfl, ?ybx2⟩) hS0 ?_
    case ybx2 => (intro wz hSw; obtain ⟨hz0, hz1, hz2, hz3⟩ := hSw; go_simp; (try with_reducible rfl))
    try simp only [Act.put, List.getElem_toArray, List.getElem_cons_zero, List.getElem_cons_succ, List.setIfInBounds_toArray, List.set_cons_zero, List.set_cons_succ]
    refine anyT_takeN (i := 3) (v := ?vbx3) rfl (by kernel_rfl) (by kernel_rfl) (by kernel_rfl) (by rfl) (fun _ _ _ h => h) (Or.inl ⟨by rfl, ?ybx3⟩) hS0 ?_
    case ybx3 => (intro wz hSw; obtain ⟨hz0, hz1, hz2, hz3⟩ := hSw; go_simp; (try with_reducible rfl))
    try simp only [Act.put, List.getElem_toArray, List.getElem_cons_zero, List.getElem_cons_succ, List.setIfInBounds_toArray, List.set_cons_zero, List.set_cons_succ]
    refine anyT_takeN (i := 4) (v := ?vbx4) rfl (by kernel_rfl) (by kernel_rfl) (by kernel_rfl) (by rfl) (fun _ _ _ h => h) (Or.inl ⟨by rfl, ?ybx4⟩) hS0 ?_
    case ybx4 => (intro wz hSw; obtain ⟨hz0, hz1, hz2, hz3⟩ := hSw; go_simp; (try with_reducible rfl))
    try simp only [Act.put, List.getElem_toArray, List.getElem_cons_zero, List.getElem_cons_succ, List.setIfInBounds_toArray, List.set_cons_zero, List.set_cons_succ]
    refine anyT_takeN (i := 5) (v := ?vbx5) rfl (by kernel_rfl) (by kernel_rfl) (by kernel_rfl) (by rfl) (fun _ _ _ h => h) (Or.inl ⟨by rfl, ?ybx5⟩) hS0 ?_
    case ybx5 => (intro wz hSw; obtain ⟨hz0, hz1, hz2, hz3⟩ := hSw; go_simp; (try with_reducible rfl))
    try simp only [Act.put, List.getElem_toArray, List.getElem_cons_zero, List.getElem_cons_succ, List.setIfInBounds_toArray, List.set_cons_zero, List.set_cons_succ]
    refine anyT_takeN (i := 6) (v := ?vbx6) rfl (by kernel_rfl) (by kernel_rfl) (by kernel_rfl) (by rfl) (fun _ _ _ h => h) (Or.inl ⟨by rfl, ?ybx6⟩) hS0 ?_
    case ybx6 => (intro wz hSw; obtain ⟨hz0, hz1, hz2, hz3⟩ := hSw; go_simp; (try with_reducible rfl))
    try simp only [Act.put, List.getElem_toArray, List.getElem_cons_zero, List.getElem_cons_succ, List.setIfInBounds_toArray, List.set_cons_zero, List.set_cons_succ]
    refine anyT_takeN (i := 7) (v := ?vbx7) rfl (by kernel_rfl) (by kernel_rfl) (by kernel_rfl) (by rfl) (fun _ _ _ h => h) (Or.inl ⟨by rfl, ?ybx7⟩) hS0 ?_
    case ybx7 => (intro wz hSw; obtain ⟨hz0, hz1, hz2, hz3⟩ := hSw; go_simp; (try with_reducible rfl))
    try simp only [Act.put, List.getElem_toArray, List.getElem_cons_zero, List.getElem_cons_succ, List.setIfInBounds_toArray, List.set_cons_zero, List.set_cons_succ]
    refine anyT_takeN (i := 8) (v := .bool true) rfl (by kernel_rfl) (by kernel_rfl) (by kernel_rfl) (by rfl) (fun _ _ _ h => h) (Or.inl ⟨by rfl, ?ybx8⟩) hS0 ?_
    case ybx8 => (intro wz hSw; obtain ⟨hz0, hz1, hz2, hz3⟩ := hSw; go_simp; (try with_reducible rfl))
    try simp only [Act.put, List.getElem_toArray, List.getElem_cons_zero, List.getElem_cons_succ, List.setIfInBounds_toArray, List.set_cons_zero, List.set_cons_succ]
    refine anyT_takeN (i := 9) (v := ?vbx9) rfl (by kernel_rfl) (by kernel_rfl) (by kernel_rfl) (by rfl) (fun _ _ _ h => h) (Or.inl ⟨by rfl, ?ybx9⟩) hS0 ?_
    case ybx9 => (intro wz hSw; obtain ⟨hz0, hz1, hz2, hz3⟩ := hSw; go_simp; (try with_reducible rfl))
    try simp only [Act.put, List.getElem_toArray, List.getElem_cons_zero, List.getElem_cons_succ, List.setIfInBounds_toArray, List.set_cons_zero, List.set_cons_succ]
    refine anyT_takeN (i := 10) (v := undef) rfl (by kernel_rfl) (by kernel_rfl) (by kernel_rfl) (by rfl) (fun _ _ _ h => h) (Or.inr ⟨by rfl, rfl⟩) hS0 ?_
    try simp only [Act.put, List.getElem_toArray, List.getElem_cons_zero, List.getElem_cons_succ, List.setIfInBounds_toArray, List.set_cons_zero, List.set_cons_succ]
    refine anyT_takeN (i := 11) (v := undef) rfl (by kernel_rfl) (by kernel_rfl) (by kernel_rfl) (by rfl) (fun _ _ _ h => h) (Or.inr ⟨by rfl, rfl⟩) hS0 ?_
    try simp only [Act.put, List.getElem_toArray, List.getElem_cons_zero, List.getElem_cons_succ, List.setIfInBounds_toArray, List.set_cons_zero, List.set_cons_succ]
    refine anyT_takeN (i := 12) (v := undef) rfl (by kernel_rfl) (by kernel_rfl) (by kernel_rfl) (by rfl) (fun _ _ _ h => h) (Or.inr ⟨by rfl, rfl⟩) hS0 ?_
    try simp only [Act.put, List.getElem_toArray, List.getElem_cons_zero, List.getElem_cons_succ, List.setIfInBounds_toArray, List.set_cons_zero, List.set_cons_succ]
    refine anyT_takeN (i := 13) (v := undef) rfl (by kernel_rfl) (by kernel_rfl) (by kernel_rfl) (by rfl) (fun _ _ _ h => h) (Or.inr ⟨by rfl, rfl⟩) hS0 ?_
    try simp only [Act.put, List.getElem_toArray, List.getElem_cons_zero, List.getElem_cons_succ, List.setIfInBounds_toArray, List.set_cons_zero, List.set_cons_succ]
    refine anyT_takeN (i := 14) (v := undef) rfl (by kernel_rfl) (by kernel_rfl) (by kernel_rfl) (by rfl) (fun _ _ _ h => h) (Or.inr ⟨by rfl, rfl⟩) hS0 ?_
    try simp only [Act.put, List.getElem_toArray, List.getElem_cons_zero, List.getElem_cons_succ, List.setIfInBounds_toArray, List.set_cons_zero, List.set_cons_succ]
    refine anyT_takeN (i := 15) (v := undef) rfl (by kernel_rfl) (by kernel_rfl) (by kernel_rfl) (by rfl) (fun _ _ _ h => h) (Or.inr ⟨by rfl, rfl⟩) hS0 ?_
    try simp only [Act.put, List.getElem_toArray, List.getElem_cons_zero, List.getElem_cons_succ, List.setIfInBounds_toArray, List.set_cons_zero, List.set_cons_succ]
    refine anyT_takeN (i := 16) (v := undef) rfl (by kernel_rfl) (by kernel_rfl) (by kernel_rfl) (by rfl) (fun _ _ _ h => h) (Or.inr ⟨by rfl, rfl⟩) hS0 ?_
    try simp only [Act.put, List.getElem_toArray, List.getElem_cons_zero, List.getElem_cons_succ, List.setIfInBounds_toArray, List.set_cons_zero, List.set_cons_succ]
    refine anyT_takeN (i := 17) (v := undef) rfl (by kernel_rfl) (by kernel_rfl) (by kernel_rfl) (by rfl) (fun _ _ _ h => h) (Or.inr ⟨by rfl, rfl⟩) hS0 ?_
    try simp only [Act.put, List.getElem_toArray, List.getElem_cons_zero, List.getElem_cons_succ, List.setIfInBounds_toArray, List.set_cons_zero, List.set_cons_succ]
    refine anyT_takeN (i := 18) (v := ?vbx18) rfl (by kernel_rfl) (by kernel_rfl) (by kernel_rfl) (by rfl) (fun _ _ _ h => h) (Or.inl ⟨by rfl, ?ybx18⟩) hS0 ?_
    case ybx18 => (intro wz hSw; obtain ⟨hz0, hz1, hz2, hz3⟩ := hSw; go_simp; (try with_reducible rfl))
    try simp only [Act.put, List.getElem_toArray, List.getElem_cons_zero, List.getElem_cons_succ, List.setIfInBounds_toArray, List.set_cons_zero, List.set_cons_succ]
    refine anyT_one (i := 19) (by kernel_rfl) rfl (fun K hK => ?_)
    go_simp
    go_at_call 27
    refine (fdem_yes _ 7 W4.drew).mono ?_
    rintro e w5 ⟨rfl, hw5⟩
    rw [hw5]
    clear hw5
    refine hK.out _ _ (.inr hS0) ?_
    clear hK
    refine anyT_done (by kernel_rfl) ?_
    clear hS0
    obtain ⟨W5, hW5⟩ : ∃ V : World, V = W4.drew := ⟨_, rfl⟩
    have hb5 : Below W4.heap.size W4 W5 := by rw [hW5]; exact (Below.refl _ _).drew
    have H5 : Hid (EnJ w base g b off n cap t d nv a s3 k3 ks3 p3 nv3 W5 ∧ BoxAt W5 w3.heap.size 65 7 w3.heap.size [.int .i64 kd, .string a.k.txt, .bool false, .string ⟨#[]⟩, .int .u64 a.k.nm, .int .u64 0, .int .i64 0]) := ⟨H4.out.1.up hb5, H4.out.2.1.chg (S := fun _ => False) (Chg.of_below hb5) (fun q => q)⟩
    rw [← hW5]
    clear hW5 hb5
    have HTk : Hid (Calls Tryz.prog 114 #[.pointer (some ⟨g, 0, none⟩)] W5 (TakP base g b off n cap t d s3 k3 nv3 W5)) := ftake_core H5.out.1.st H5.out.1.fp hfin
    go_wp2_with fail
    refine HTk.out.mono ?_
    clear HTk
    rintro e w6 ⟨Hb6, (⟨k6, ks6, p6, htk, rfl, hF6⟩ | ⟨c, e6, htk, rfl⟩)⟩
    case inr =>
      have HD : Hid (BehP base g b off n cap t d (fun r => r = liftP s (rangeF kd strs s.ks)) nv w (Pf c (e6 : Int)) w6) := H5.out.1.die (Hb6.out.mono (fun q z => .inl z)) (by
        show _ = _
        rw [HA6.out, htk]; rfl)
      clear htk
      exact ⟨rfl, HD.out⟩
    have HA7 : Hid (liftP s (rangeF kd strs s.ks) = .ok (⟨k6 :: ks6, s3.made, s3.out⟩, (⟨kd, a.k.txt, true, k3.k.txt, a.k.nm, k3.k.nm, 0⟩ : Nd))) := by show _ = _; rw [HA6.out, htk]; rfl
    have hJ6 : EnJ w base g b off n cap t d nv a ⟨k6 :: ks6, s3.made, s3.out⟩ k6 ks6 p6 nv3 w6 := H5.out.1.on (Hb6.out.mono (fun q z => .inl z)) hF6 (fun q hq => .inl hq)
    have hB6 := H5.out.2.chg Hb6.out (by have := HJ3.out.lt; omega)
    obtain ⟨W7, hW7⟩ : ∃ V : World, V = w6.alloc (Obj.cells #[.int .u8 ((ftB k3.k).toNat : Int), .int .i64 (k3.pos : Int), .int .i64 k3.k.wd, .int .u64 k3.k.nm, .string k3.k.txt] 52) := ⟨_, rfl⟩
    have hb7 : Below w6.heap.size w6 W7 := by rw [hW7]; exact (Below.refl _ _).alloc (Nat.le_refl _) _
    have H7 : Hid (EnJ w base g b off n cap t d nv a ⟨k6 :: ks6, s3.made, s3.out⟩ k6 ks6 p6 nv3 W7 ∧ BoxAt W7 w3.heap.size 65 7 w3.heap.size [.int .i64 kd, .string a.k.txt, .bool false, .string ⟨#[]⟩, .int .u64 a.k.nm, .int .u64 0, .int .i64 0] ∧ BoxAt W7 w6.heap.size 52 5 w6.heap.size (ftV k3) ∧ w3.heap.size < w6.heap.size) := ⟨hJ6.up hb7, hB6.chg (S := fun _ => False) (Chg.of_below hb7) (fun q => q), by rw [hW7]; exact boxAt_new w6 _ (Nat.le_refl _) rfl, hB6.lt.2⟩
    clear htk hF6 hJ6 hB6 hb7 Hb6
    go_upto_region 9 with fail
    rw [← hW7]
    clear hW7
    have y3 := H7.out.2.2.1.cell (j := 3) rfl
    have y4 := H7.out.2.2.1.cell (j := 4) rfl
    have x2 := H7.out.2.1.cell (j := 2) rfl
    have x3 := H7.out.2.1.cell (j := 3) rfl
    have x5 := H7.out.2.1.cell (j := 5) rfl
    have u2 := H7.out.2.1.frozen 2
    have u3 := H7.out.2.1.frozen 3
    have u5 := H7.out.2.1.frozen 5
    have hne : ¬ w6.heap.size = w3.heap.size := by have := H7.out.2.2.2; omega
    go_region
    obtain ⟨W8, hW8⟩ : ∃ V : World, V = (((W7.setCell ⟨w3.heap.size, 2, none⟩ (Value.bool true)).setCell ⟨w3.heap.size, 3, none⟩ (Value.string k3.k.txt)).setCell ⟨w3.heap.size, 5, none⟩ (Value.int IntKind.u64 k3.k.nm)).drew := ⟨_, rfl⟩
    have hc8 : Chg (fun q => q = w3.heap.size) W7 W8 := by
      rw [hW8]
      exact (((Chg.of_set (S := fun q => q = w3.heap.size) _ _ _ _ rfl).trans (Chg.of_set (S := fun q => q = w3.heap.size) _ _ _ _ rfl)).trans (Chg.of_set (S := fun q => q = w3.heap.size) _ _ _ _ rfl)).trans (Chg.of_below (Below.refl _ _).drew)
    have H8 : Hid (EnJ w base g b off n cap t d nv a ⟨k6 :: ks6, s3.made, s3.out⟩ k6 ks6 p6 nv3 W8 ∧ BoxAt W8 w3.heap.size 65 7 w3.heap.size [.int .i64 kd, .string a.k.txt, .bool true, .string k3.k.txt, .int .u64 a.k.nm, .int .u64 k3.k.nm, .int .i64 0]) := ⟨H7.out.1.side hc8 (by have := HJ3.out.lt; omega) (fun q hq z => by have := (HJ3.out.fp.nlt q hq).2; omega), by
      have h1 := ((H7.out.2.1.set 2 (.bool true)).set 3 (.string k3.k.txt)).set 5 (.int .u64 k3.k.nm)
      rw [hW8]
      exact BoxAt.chg (S := fun _ => False) h1 (Chg.of_below (Below.refl _ _).drew) (fun q => q)⟩
    rw [← hW8]
    clear hW8 hc8 x2 x3 x5 u2 u3 u5 y3 y4 hne
    have hne : ¬ w3.heap.size = w.heap.size := by have := HJ3.out.lt; omega
    have l0 := H8.out.1.res.cell (j := 0) rfl
    have l1 := H8.out.1.res.cell (j := 1) rfl
    have l2 := H8.out.1.res.cell (j := 2) rfl
    have l3 := H8.out.1.res.cell (j := 3) rfl
    have l4 := H8.out.1.res.cell (j := 4) rfl
    have l5 := H8.out.1.res.cell (j := 5) rfl
    have l6 := H8.out.1.res.cell (j := 6) rfl
    have f0 := H8.out.1.res.frozen 0
    have f1 := H8.out.1.res.frozen 1
    have f2 := H8.out.1.res.frozen 2
    have f3 := H8.out.1.res.frozen 3
    have f4 := H8.out.1.res.frozen 4
    have f5 := H8.out.1.res.frozen 5
    have f6 := H8.out.1.res.frozen 6
    have c0 := H8.out.2.cell (j := 0) rfl
    have c1 := H8.out.2.cell (j := 1) rfl
    have c2 := H8.out.2.cell (j := 2) rfl
    have c3 := H8.out.2.cell (j := 3) rfl
    have c4 := H8.out.2.cell (j := 4) rfl
    have c5 := H8.out.2.cell (j := 5) rfl
    have c6 := H8.out.2.cell (j := 6) rfl
    obtain ⟨W9, hW9⟩ : ∃ V : World, V = setN W8 w.heap.size ((⟨kd, a.k.txt, true, k3.k.txt, a.k.nm, k3.k.nm, 0⟩ : Nd)) := ⟨_, rfl⟩
    have hB9 := H8.out.1.res.setN ((⟨kd, a.k.txt, true, k3.k.txt, a.k.nm, k3.k.nm, 0⟩ : Nd))
    rw [← hW9] at hB9
    have hc9 : Chg (fun q => q = w.heap.size) W8 W9 := by rw [hW9]; exact chg_setN _ _ _
    have HR : Hid (BehP base g b off n cap t d (fun r => r = liftP s (rangeF kd strs s.ks)) nv w (.returned ((⟨kd, a.k.txt, true, k3.k.txt, a.k.nm, k3.k.nm, 0⟩ : Nd)).v) W9) := H8.out.1.fin (by show _ = _; rw [HA7.out]) hc9
    have q0 := hB9.cell (j := 0) rfl
    have q1 := hB9.cell (j := 1) rfl
    have q2 := hB9.cell (j := 2) rfl
    have q3 := hB9.cell (j := 3) rfl
    have q4 := hB9.cell (j := 4) rfl
    have q5 := hB9.cell (j := 5) rfl
    have q6 := hB9.cell (j := 6) rfl
    unfold setN at hW9
    simp only [noS] at hW9 q0 q1 q2 q3 q4 q5 q6
    clear hB9 hc9
    go_wp2_with fail
    rw [← hW9]
    exact bodyPost_ret (v := ((⟨kd, a.k.txt, true, k3.k.txt, a.k.nm, k3.k.nm, 0⟩ : Nd)).v) (by simp [results, Tryz.results129, go_sem, q0, q1, q2, q3, q4, q5, q6, noS]) rfl HR.out

  have hd1 : Op.bytesLess a.k.txt.toList k3.k.txt.toList = false := by unfold less at hl1; simpa using hl1
  by_cases hl2 : a.k.nm < k3.k.nm
  case pos =>
    have hd2 : decide (a.k.nm < k3.k.nm) = true := decide_eq_true hl2
    have HA6 : Hid (liftP s (rangeF kd strs s.ks) = liftP s3 (match takeF s3.ks with
        | .error e => .error e
        | .ok k2 => .ok (k2, (⟨kd, a.k.txt, true, k3.k.txt, a.k.nm, k3.k.nm, 0⟩ : Nd)))) := by show _ = _; rw [HA5.out, if_pos (by exact .inr hl2)]

    clear hl1 hl2
    have e4 := H4.out.1.low.cell (j := 4) rfl
    have e3 := H4.out.1.low.cell (j := 3) rfl
    have e6 := H4.out.1.fp.fs.cell (j := 6) rfl
    have e5 := H4.out.1.fp.fs.cell (j := 5) rfl
    have hS0 : (fun w' : World => w'.cell? ⟨w.heap.size + 1, 4, none⟩ = some (.string a.k.txt) ∧ w'.cell? ⟨w.heap.size + 1, 3, none⟩ = some (.int .u64 a.k.nm) ∧ w'.cell? ⟨g, 6, none⟩ = some (.string k3.k.txt) ∧ w'.cell? ⟨g, 5, none⟩ = some (.int .u64 k3.k.nm)) W4.drew := ⟨e4, e3, e6, e5⟩
    clear e3 e4 e5 e6
    refine wp_region_T 99 (fun w' : World => w'.cell? ⟨w.heap.size + 1, 4, none⟩ = some (.string a.k.txt) ∧ w'.cell? ⟨w.heap.size + 1, 3, none⟩ = some (.int .u64 a.k.nm) ∧ w'.cell? ⟨g, 6, none⟩ = some (.string k3.k.txt) ∧ w'.cell? ⟨g, 5, none⟩ = some (.int .u64 k3.k.nm)) (by kernel_rfl) ?_
    refine anyT_takeN (i := 0) (v := ?vby0) rfl (by kernel_rfl) (by kernel_rfl) (by kernel_rfl) (by rfl) (fun _ _ _ h => h) (Or.inl ⟨by rfl, ?yby0⟩) hS0 ?_
    case yby0 => (intro wz hSw; obtain ⟨hz0, hz1, hz2, hz3⟩ := hSw; go_simp; (try with_reducible rfl))
    try simp only [Act.put, List.getElem_toArray, List.getElem_cons_zero, List.getElem_cons_succ, List.setIfInBounds_toArray, List.set_cons_zero, List.set_cons_succ]
    refine anyT_takeN (i := 1) (v := ?vby1) rfl (by kernel_rfl) (by kernel_rfl) (by kernel_rfl) (by rfl) (fun _ _ _ h => h) (Or.inl ⟨by rfl, ?yby1⟩) hS0 ?_
    case yby1 => (intro wz hSw; obtain ⟨hz0, hz1, hz2, hz3⟩ := hSw; go_simp; (try with_reducible rfl))
    try simp only [Act.put, List.getElem_toArray, List.getElem_cons_zero, List.getElem_cons_succ, List.setIfInBounds_toArray, List.set_cons_zero, List.set_cons_succ]
    refine anyT_takeN (i := 2) (v := ?vby2) rfl (by kernel_rfl) (by kernel_rfl) (by kernel_rfl) (by rfl) (fun _ _ _ h => h) (Or.inl ⟨by rfl, ?yby2⟩) hS0 ?_
    case yby2 => (intro wz hSw; obtain ⟨hz0, hz1, hz2, hz3⟩ := hSw; go_simp; (try with_reducible rfl))
    try simp only [Act.put, List.getElem_toArray, List.getElem_cons_zero, List.getElem_cons_succ, List.setIfInBounds_toArray, List.set_cons_zero, List.set_cons_succ]
    refine anyT_takeN (i := 3) (v := ?vby3) rfl (by kernel_rfl) (by kernel_rfl) (by kernel_rfl) (by rfl) (fun _ _ _ h => h) (Or.inl ⟨by rfl, ?yby3⟩) hS0 ?_
    case yby3 => (intro wz hSw; obtain ⟨hz0, hz1, hz2, hz3⟩ := hSw; go_simp; (try with_reducible rfl))
    try simp only [Act.put, List.getElem_toArray, List.getElem_cons_zero, List.getElem_cons_succ, List.setIfInBounds_toArray, List.set_cons_zero, List.set_cons_succ]
    refine anyT_takeN (i := 4) (v := ?vby4) rfl (by kernel_rfl) (by kernel_rfl) (by kernel_rfl) (by rfl) (fun _ _ _ h => h) (Or.inl ⟨by rfl, ?yby4⟩) hS0 ?_
    case yby4 => (intro wz hSw; obtain ⟨hz0, hz1, hz2, hz3⟩ := hSw; go_simp; (try with_reducible rfl))
    try simp only [Act.put, List.getElem_toArray, List.getElem_cons_zero, List.getElem_cons_succ, List.setIfInBounds_toArray, List.set_cons_zero, List.set_cons_succ]
    refine anyT_takeN (i := 5) (v := ?vby5) rfl (by kernel_rfl) (by kernel_rfl) (by kernel_rfl) (by rfl) (fun _ _ _ h => h) (Or.inl ⟨by rfl, ?yby5⟩) hS0 ?_
    case yby5 => (intro wz hSw; obtain ⟨hz0, hz1, hz2, hz3⟩ := hSw; go_simp; (try with_reducible rfl))
    try simp only [Act.put, List.getElem_toArray, List.getElem_cons_zero, List.getElem_cons_succ, List.setIfInBounds_toArray, List.set_cons_zero, List.set_cons_succ]
    refine anyT_takeN (i := 6) (v := ?vby6) rfl (by kernel_rfl) (by kernel_rfl) (by kernel_rfl) (by rfl) (fun _ _ _ h => h) (Or.inl ⟨by rfl, ?yby6⟩) hS0 ?_
    case yby6 => (intro wz hSw; obtain ⟨hz0, hz1, hz2, hz3⟩ := hSw; go_simp; (try with_reducible rfl))
    try simp only [Act.put, List.getElem_toArray, List.getElem_cons_zero, List.getElem_cons_succ, List.setIfInBounds_toArray, List.set_cons_zero, List.set_cons_succ]
    refine anyT_takeN (i := 7) (v := ?vby7) rfl (by kernel_rfl) (by kernel_rfl) (by kernel_rfl) (by rfl) (fun _ _ _ h => h) (Or.inl ⟨by rfl, ?yby7⟩) hS0 ?_
    case yby7 => (intro wz hSw; obtain ⟨hz0, hz1, hz2, hz3⟩ := hSw; go_simp; (try with_reducible rfl))
    try simp only [Act.put, List.getElem_toArray, List.getElem_cons_zero, List.getElem_cons_succ, List.setIfInBounds_toArray, List.set_cons_zero, List.set_cons_succ]
    refine anyT_takeN (i := 8) (v := .bool false) rfl (by kernel_rfl) (by kernel_rfl) (by kernel_rfl) (by rfl) (fun _ _ _ h => h) (Or.inl ⟨by rfl, ?yby8⟩) hS0 ?_
    case yby8 => (intro wz hSw; obtain ⟨hz0, hz1, hz2, hz3⟩ := hSw; go_simp; (try with_reducible rfl))
    try simp only [Act.put, List.getElem_toArray, List.getElem_cons_zero, List.getElem_cons_succ, List.setIfInBounds_toArray, List.set_cons_zero, List.set_cons_succ]
    refine anyT_takeN (i := 9) (v := ?vby9) rfl (by kernel_rfl) (by kernel_rfl) (by kernel_rfl) (by rfl) (fun _ _ _ h => h) (Or.inl ⟨by rfl, ?yby9⟩) hS0 ?_
    case yby9 => (intro wz hSw; obtain ⟨hz0, hz1, hz2, hz3⟩ := hSw; go_simp; (try with_reducible rfl))
    try simp only [Act.put, List.getElem_toArray, List.getElem_cons_zero, List.getElem_cons_succ, List.setIfInBounds_toArray, List.set_cons_zero, List.set_cons_succ]
    refine anyT_takeN (i := 10) (v := ?vby10) rfl (by kernel_rfl) (by kernel_rfl) (by kernel_rfl) (by rfl) (fun _ _ _ h => h) (Or.inl ⟨by rfl, ?yby10⟩) hS0 ?_
    case yby10 => (intro wz hSw; obtain ⟨hz0, hz1, hz2, hz3⟩ := hSw; go_simp; (try with_reducible rfl))
    try simp only [Act.put, List.getElem_toArray, List.getElem_cons_zero, List.getElem_cons_succ, List.setIfInBounds_toArray, List.set_cons_zero, List.set_cons_succ]
    refine anyT_takeN (i := 11) (v := ?vby11) rfl (by kernel_rfl) (by kernel_rfl) (by kernel_rfl) (by rfl) (fun _ _ _ h => h) (Or.inl ⟨by rfl, ?yby11⟩) hS0 ?_
    case yby11 => (intro wz hSw; obtain ⟨hz0, hz1, hz2, hz3⟩ := hSw; go_simp; (try with_reducible rfl))
    try simp only [Act.put, List.getElem_toArray, List.getElem_cons_zero, List.getElem_cons_succ, List.setIfInBounds_toArray, List.set_cons_zero, List.set_cons_succ]
    refine anyT_takeN (i := 12) (v := ?vby12) rfl (by kernel_rfl) (by kernel_rfl) (by kernel_rfl) (by rfl) (fun _ _ _ h => h) (Or.inl ⟨by rfl, ?yby12⟩) hS0 ?_
    case yby12 => (intro wz hSw; obtain ⟨hz0, hz1, hz2, hz3⟩ := hSw; go_simp; (try with_reducible rfl))
    try simp only [Act.put, List.getElem_toArray, List.getElem_cons_zero, List.getElem_cons_succ, List.setIfInBounds_toArray, List.set_cons_zero, List.set_cons_succ]
    refine anyT_takeN (i := 13) (v := ?vby13) rfl (by kernel_rfl) (by kernel_rfl) (by kernel_rfl) (by rfl) (fun _ _ _ h => h) (Or.inl ⟨by rfl, ?yby13⟩) hS0 ?_
    case yby13 => (intro wz hSw; obtain ⟨hz0, hz1, hz2, hz3⟩ := hSw; go_simp; (try with_reducible rfl))
    try simp only [Act.put, List.getElem_toArray, List.getElem_cons_zero, List.getElem_cons_succ, List.setIfInBounds_toArray, List.set_cons_zero, List.set_cons_succ]
    refine anyT_takeN (i := 14) (v := ?vby14) rfl (by kernel_rfl) (by kernel_rfl) (by kernel_rfl) (by rfl) (fun _ _ _ h => h) (Or.inl ⟨by rfl, ?yby14⟩) hS0 ?_
    case yby14 => (intro wz hSw; obtain ⟨hz0, hz1, hz2, hz3⟩ := hSw; go_simp; (try with_reducible rfl))
    try simp only [Act.put, List.getElem_toArray, List.getElem_cons_zero, List.getElem_cons_succ, List.setIfInBounds_toArray, List.set_cons_zero, List.set_cons_succ]
    refine anyT_takeN (i := 15) (v := ?vby15) rfl (by kernel_rfl) (by kernel_rfl) (by kernel_rfl) (by rfl) (fun _ _ _ h => h) (Or.inl ⟨by rfl, ?yby15⟩) hS0 ?_
    case yby15 => (intro wz hSw; obtain ⟨hz0, hz1, hz2, hz3⟩ := hSw; go_simp; (try with_reducible rfl))
    try simp only [Act.put, List.getElem_toArray, List.getElem_cons_zero, List.getElem_cons_succ, List.setIfInBounds_toArray, List.set_cons_zero, List.set_cons_succ]
    refine anyT_takeN (i := 16) (v := ?vby16) rfl (by kernel_rfl) (by kernel_rfl) (by kernel_rfl) (by rfl) (fun _ _ _ h => h) (Or.inl ⟨by rfl, ?yby16⟩) hS0 ?_
    case yby16 => (intro wz hSw; obtain ⟨hz0, hz1, hz2, hz3⟩ := hSw; go_simp; (try with_reducible rfl))
    try simp only [Act.put, List.getElem_toArray, List.getElem_cons_zero, List.getElem_cons_succ, List.setIfInBounds_toArray, List.set_cons_zero, List.set_cons_succ]
    refine anyT_takeN (i := 17) (v := .bool true) rfl (by kernel_rfl) (by kernel_rfl) (by kernel_rfl) (by rfl) (fun _ _ _ h => h) (Or.inl ⟨by rfl, ?yby17⟩) hS0 ?_
    case yby17 => (intro wz hSw; obtain ⟨hz0, hz1, hz2, hz3⟩ := hSw; go_simp; (try with_reducible rfl))
    try simp only [Act.put, List.getElem_toArray, List.getElem_cons_zero, List.getElem_cons_succ, List.setIfInBounds_toArray, List.set_cons_zero, List.set_cons_succ]
    refine anyT_takeN (i := 18) (v := ?vby18) rfl (by kernel_rfl) (by kernel_rfl) (by kernel_rfl) (by rfl) (fun _ _ _ h => h) (Or.inl ⟨by rfl, ?yby18⟩) hS0 ?_
    case yby18 => (intro wz hSw; obtain ⟨hz0, hz1, hz2, hz3⟩ := hSw; go_simp; (try with_reducible rfl))
    try simp only [Act.put, List.getElem_toArray, List.getElem_cons_zero, List.getElem_cons_succ, List.setIfInBounds_toArray, List.set_cons_zero, List.set_cons_succ]
    refine anyT_one (i := 19) (by kernel_rfl) rfl (fun K hK => ?_)
    go_simp
    go_at_call 27
    refine (fdem_yes _ 7 W4.drew).mono ?_
    rintro e w5 ⟨rfl, hw5⟩
    rw [hw5]
    clear hw5
    refine hK.out _ _ (.inr hS0) ?_
    clear hK
    refine anyT_done (by kernel_rfl) ?_
    clear hS0
    obtain ⟨W5, hW5⟩ : ∃ V : World, V = W4.drew := ⟨_, rfl⟩
    have hb5 : Below W4.heap.size W4 W5 := by rw [hW5]; exact (Below.refl _ _).drew
    have H5 : Hid (EnJ w base g b off n cap t d nv a s3 k3 ks3 p3 nv3 W5 ∧ BoxAt W5 w3.heap.size 65 7 w3.heap.size [.int .i64 kd, .string a.k.txt, .bool false, .string ⟨#[]⟩, .int .u64 a.k.nm, .int .u64 0, .int .i64 0]) := ⟨H4.out.1.up hb5, H4.out.2.1.chg (S := fun _ => False) (Chg.of_below hb5) (fun q => q)⟩
    rw [← hW5]
    clear hW5 hb5
    have HTk : Hid (Calls Tryz.prog 114 #[.pointer (some ⟨g, 0, none⟩)] W5 (TakP base g b off n cap t d s3 k3 nv3 W5)) := ftake_core H5.out.1.st H5.out.1.fp hfin
    go_wp2_with fail
    refine HTk.out.mono ?_
    clear HTk
    rintro e w6 ⟨Hb6, (⟨k6, ks6, p6, htk, rfl, hF6⟩ | ⟨c, e6, htk, rfl⟩)⟩
    case inr =>
      have HD : Hid (BehP base g b off n cap t d (fun r => r = liftP s (rangeF kd strs s.ks)) nv w (Pf c (e6 : Int)) w6) := H5.out.1.die (Hb6.out.mono (fun q z => .inl z)) (by
        show _ = _
        rw [HA6.out, htk]; rfl)
      clear htk
      exact ⟨rfl, HD.out⟩
    have HA7 : Hid (liftP s (rangeF kd strs s.ks) = .ok (⟨k6 :: ks6, s3.made, s3.out⟩, (⟨kd, a.k.txt, true, k3.k.txt, a.k.nm, k3.k.nm, 0⟩ : Nd))) := by show _ = _; rw [HA6.out, htk]; rfl
    have hJ6 : EnJ w base g b off n cap t d nv a ⟨k6 :: ks6, s3.made, s3.out⟩ k6 ks6 p6 nv3 w6 := H5.out.1.on (Hb6.out.mono (fun q z => .inl z)) hF6 (fun q hq => .inl hq)
    have hB6 := H5.out.2.chg Hb6.out (by have := HJ3.out.lt; omega)
    obtain ⟨W7, hW7⟩ : ∃ V : World, V = w6.alloc (Obj.cells #[.int .u8 ((ftB k3.k).toNat : Int), .int .i64 (k3.pos : Int), .int .i64 k3.k.wd, .int .u64 k3.k.nm, .string k3.k.txt] 52) := ⟨_, rfl⟩
    have hb7 : Below w6.heap.size w6 W7 := by rw [hW7]; exact (Below.refl _ _).alloc (Nat.le_refl _) _
    have H7 : Hid (EnJ w base g b off n cap t d nv a ⟨k6 :: ks6, s3.made, s3.out⟩ k6 ks6 p6 nv3 W7 ∧ BoxAt W7 w3.heap.size 65 7 w3.heap.size [.int .i64 kd, .string a.k.txt, .bool false, .string ⟨#[]⟩, .int .u64 a.k.nm, .int .u64 0, .int .i64 0] ∧ BoxAt W7 w6.heap.size 52 5 w6.heap.size (ftV k3) ∧ w3.heap.size < w6.heap.size) := ⟨hJ6.up hb7, hB6.chg (S := fun _ => False) (Chg.of_below hb7) (fun q => q), by rw [hW7]; exact boxAt_new w6 _ (Nat.le_refl _) rfl, hB6.lt.2⟩
    clear htk hF6 hJ6 hB6 hb7 Hb6
    go_upto_region 9 with fail
    rw [← hW7]
    clear hW7
    have y3 := H7.out.2.2.1.cell (j := 3) rfl
    have y4 := H7.out.2.2.1.cell (j := 4) rfl
    have x2 := H7.out.2.1.cell (j := 2) rfl
    have x3 := H7.out.2.1.cell (j := 3) rfl
    have x5 := H7.out.2.1.cell (j := 5) rfl
    have u2 := H7.out.2.1.frozen 2
    have u3 := H7.out.2.1.frozen 3
    have u5 := H7.out.2.1.frozen 5
    have hne : ¬ w6.heap.size = w3.heap.size := by have := H7.out.2.2.2; omega
    go_region
    obtain ⟨W8, hW8⟩ : ∃ V : World, V = (((W7.setCell ⟨w3.heap.size, 2, none⟩ (Value.bool true)).setCell ⟨w3.heap.size, 3, none⟩ (Value.string k3.k.txt)).setCell ⟨w3.heap.size, 5, none⟩ (Value.int IntKind.u64 k3.k.nm)).drew := ⟨_, rfl⟩
    have hc8 : Chg (fun q => q = w3.heap.size) W7 W8 := by
      rw [hW8]
      exact (((Chg.of_set (S := fun q => q = w3.heap.size) _ _ _ _ rfl).trans (Chg.of_set (S := fun q => q = w3.heap.size) _ _ _ _ rfl)).trans (Chg.of_set (S := fun q => q = w3.heap.size) _ _ _ _ rfl)).trans (Chg.of_below (Below.refl _ _).drew)
    have H8 : Hid (EnJ w base g b off n cap t d nv a ⟨k6 :: ks6, s3.made, s3.out⟩ k6 ks6 p6 nv3 W8 ∧ BoxAt W8 w3.heap.size 65 7 w3.heap.size [.int .i64 kd, .string a.k.txt, .bool true, .string k3.k.txt, .int .u64 a.k.nm, .int .u64 k3.k.nm, .int .i64 0]) := ⟨H7.out.1.side hc8 (by have := HJ3.out.lt; omega) (fun q hq z => by have := (HJ3.out.fp.nlt q hq).2; omega), by
      have h1 := ((H7.out.2.1.set 2 (.bool true)).set 3 (.string k3.k.txt)).set 5 (.int .u64 k3.k.nm)
      rw [hW8]
      exact BoxAt.chg (S := fun _ => False) h1 (Chg.of_below (Below.refl _ _).drew) (fun q => q)⟩
    rw [← hW8]
    clear hW8 hc8 x2 x3 x5 u2 u3 u5 y3 y4 hne
    have hne : ¬ w3.heap.size = w.heap.size := by have := HJ3.out.lt; omega
    have l0 := H8.out.1.res.cell (j := 0) rfl
    have l1 := H8.out.1.res.cell (j := 1) rfl
    have l2 := H8.out.1.res.cell (j := 2) rfl
    have l3 := H8.out.1.res.cell (j := 3) rfl
    have l4 := H8.out.1.res.cell (j := 4) rfl
    have l5 := H8.out.1.res.cell (j := 5) rfl
    have l6 := H8.out.1.res.cell (j := 6) rfl
    have f0 := H8.out.1.res.frozen 0
    have f1 := H8.out.1.res.frozen 1
    have f2 := H8.out.1.res.frozen 2
    have f3 := H8.out.1.res.frozen 3
    have f4 := H8.out.1.res.frozen 4
    have f5 := H8.out.1.res.frozen 5
    have f6 := H8.out.1.res.frozen 6
    have c0 := H8.out.2.cell (j := 0) rfl
    have c1 := H8.out.2.cell (j := 1) rfl
    have c2 := H8.out.2.cell (j := 2) rfl
    have c3 := H8.out.2.cell (j := 3) rfl
    have c4 := H8.out.2.cell (j := 4) rfl
    have c5 := H8.out.2.cell (j := 5) rfl
    have c6 := H8.out.2.cell (j := 6) rfl
    obtain ⟨W9, hW9⟩ : ∃ V : World, V = setN W8 w.heap.size ((⟨kd, a.k.txt, true, k3.k.txt, a.k.nm, k3.k.nm, 0⟩ : Nd)) := ⟨_, rfl⟩
    have hB9 := H8.out.1.res.setN ((⟨kd, a.k.txt, true, k3.k.txt, a.k.nm, k3.k.nm, 0⟩ : Nd))
    rw [← hW9] at hB9
    have hc9 : Chg (fun q => q = w.heap.size) W8 W9 := by rw [hW9]; exact chg_setN _ _ _
    have HR : Hid (BehP base g b off n cap t d (fun r => r = liftP s (rangeF kd strs s.ks)) nv w (.returned ((⟨kd, a.k.txt, true, k3.k.txt, a.k.nm, k3.k.nm, 0⟩ : Nd)).v) W9) := H8.out.1.fin (by show _ = _; rw [HA7.out]) hc9
    have q0 := hB9.cell (j := 0) rfl
    have q1 := hB9.cell (j := 1) rfl
    have q2 := hB9.cell (j := 2) rfl
    have q3 := hB9.cell (j := 3) rfl
    have q4 := hB9.cell (j := 4) rfl
    have q5 := hB9.cell (j := 5) rfl
    have q6 := hB9.cell (j := 6) rfl
    unfold setN at hW9
    simp only [noS] at hW9 q0 q1 q2 q3 q4 q5 q6
    clear hB9 hc9
    go_wp2_with fail
    rw [← hW9]
    exact bodyPost_ret (v := ((⟨kd, a.k.txt, true, k3.k.txt, a.k.nm, k3.k.nm, 0⟩ : Nd)).v) (by simp [results, Tryz.results129, go_sem, q0, q1, q2, q3, q4, q5, q6, noS]) rfl HR.out

  have hd2 : decide (a.k.nm < k3.k.nm) = false := decide_eq_false hl2
  have e4 := H4.out.1.low.cell (j := 4) rfl
  have e3 := H4.out.1.low.cell (j := 3) rfl
  have e6 := H4.out.1.fp.fs.cell (j := 6) rfl
  have e5 := H4.out.1.fp.fs.cell (j := 5) rfl
  have hS0 : (fun w' : World => w'.cell? ⟨w.heap.size + 1, 4, none⟩ = some (.string a.k.txt) ∧ w'.cell? ⟨w.heap.size + 1, 3, none⟩ = some (.int .u64 a.k.nm) ∧ w'.cell? ⟨g, 6, none⟩ = some (.string k3.k.txt) ∧ w'.cell? ⟨g, 5, none⟩ = some (.int .u64 k3.k.nm)) W4.drew := ⟨e4, e3, e6, e5⟩
  clear e3 e4 e5 e6
  refine wp_region_T 99 (fun w' : World => w'.cell? ⟨w.heap.size + 1, 4, none⟩ = some (.string a.k.txt) ∧ w'.cell? ⟨w.heap.size + 1, 3, none⟩ = some (.int .u64 a.k.nm) ∧ w'.cell? ⟨g, 6, none⟩ = some (.string k3.k.txt) ∧ w'.cell? ⟨g, 5, none⟩ = some (.int .u64 k3.k.nm)) (by kernel_rfl) ?_
  refine anyT_takeN (i := 0) (v := ?vbz0) rfl (by kernel_rfl) (by kernel_rfl) (by kernel_rfl) (by rfl) (fun _ _ _ h => h) (Or.inl ⟨by rfl, ?ybz0⟩) hS0 ?_
  case ybz0 => (intro wz hSw; obtain ⟨hz0, hz1, hz2, hz3⟩ := hSw; go_simp; (try with_reducible rfl))
  try simp only [Act.put, List.getElem_toArray, List.getElem_cons_zero, List.getElem_cons_succ, List.setIfInBounds_toArray, List.set_cons_zero, List.set_cons_succ]
  refine anyT_takeN (i := 1) (v := ?vbz1) rfl (by kernel_rfl) (by kernel_rfl) (by kernel_rfl) (by rfl) (fun _ _ _ h => h) (Or.inl ⟨by rfl, ?ybz1⟩) hS0 ?_
  case ybz1 => (intro wz hSw; obtain ⟨hz0, hz1, hz2, hz3⟩ := hSw; go_simp; (try with_reducible rfl))
  try simp only [Act.put, List.getElem_toArray, List.getElem_cons_zero, List.getElem_cons_succ, List.setIfInBounds_toArray, List.set_cons_zero, List.set_cons_succ]
  refine anyT_takeN (i := 2) (v := ?vbz2) rfl (by kernel_rfl) (by kernel_rfl) (by kernel_rfl) (by rfl) (fun _ _ _ h => h) (Or.inl ⟨by rfl, ?ybz2⟩) hS0 ?_
  case ybz2 => (intro wz hSw; obtain ⟨hz0, hz1, hz2, hz3⟩ := hSw; go_simp; (try with_reducible rfl))
  try simp only [Act.put, List.getElem_toArray, List.getElem_cons_zero, List.getElem_cons_succ, List.setIfInBounds_toArray, List.set_cons_zero, List.set_cons_succ]
  refine anyT_takeN (i := 3) (v := ?vbz3) rfl (by kernel_rfl) (by kernel_rfl) (by kernel_rfl) (by rfl) (fun _ _ _ h => h) (Or.inl ⟨by rfl, ?ybz3⟩) hS0 ?_
  case ybz3 => (intro wz hSw; obtain ⟨hz0, hz1, hz2, hz3⟩ := hSw; go_simp; (try with_reducible rfl))
  try simp only [Act.put, List.getElem_toArray, List.getElem_cons_zero, List.getElem_cons_succ, List.setIfInBounds_toArray, List.set_cons_zero, List.set_cons_succ]
  refine anyT_takeN (i := 4) (v := ?vbz4) rfl (by kernel_rfl) (by kernel_rfl) (by kernel_rfl) (by rfl) (fun _ _ _ h => h) (Or.inl ⟨by rfl, ?ybz4⟩) hS0 ?_
  case ybz4 => (intro wz hSw; obtain ⟨hz0, hz1, hz2, hz3⟩ := hSw; go_simp; (try with_reducible rfl))
  try simp only [Act.put, List.getElem_toArray, List.getElem_cons_zero, List.getElem_cons_succ, List.setIfInBounds_toArray, List.set_cons_zero, List.set_cons_succ]
  refine anyT_takeN (i := 5) (v := ?vbz5) rfl (by kernel_rfl) (by kernel_rfl) (by kernel_rfl) (by rfl) (fun _ _ _ h => h) (Or.inl ⟨by rfl, ?ybz5⟩) hS0 ?_
  case ybz5 => (intro wz hSw; obtain ⟨hz0, hz1, hz2, hz3⟩ := hSw; go_simp; (try with_reducible rfl))
  try simp only [Act.put, List.getElem_toArray, List.getElem_cons_zero, List.getElem_cons_succ, List.setIfInBounds_toArray, List.set_cons_zero, List.set_cons_succ]
  refine anyT_takeN (i := 6) (v := ?vbz6) rfl (by kernel_rfl) (by kernel_rfl) (by kernel_rfl) (by rfl) (fun _ _ _ h => h) (Or.inl ⟨by rfl, ?ybz6⟩) hS0 ?_
  case ybz6 => (intro wz hSw; obtain ⟨hz0, hz1, hz2, hz3⟩ := hSw; go_simp; (try with_reducible rfl))
  try simp only [Act.put, List.getElem_toArray, List.getElem_cons_zero, List.getElem_cons_succ, List.setIfInBounds_toArray, List.set_cons_zero, List.set_cons_succ]
  refine anyT_takeN (i := 7) (v := ?vbz7) rfl (by kernel_rfl) (by kernel_rfl) (by kernel_rfl) (by rfl) (fun _ _ _ h => h) (Or.inl ⟨by rfl, ?ybz7⟩) hS0 ?_
  case ybz7 => (intro wz hSw; obtain ⟨hz0, hz1, hz2, hz3⟩ := hSw; go_simp; (try with_reducible rfl))
  try simp only [Act.put, List.getElem_toArray, List.getElem_cons_zero, List.getElem_cons_succ, List.setIfInBounds_toArray, List.set_cons_zero, List.set_cons_succ]
  refine anyT_takeN (i := 8) (v := .bool false) rfl (by kernel_rfl) (by kernel_rfl) (by kernel_rfl) (by rfl) (fun _ _ _ h => h) (Or.inl ⟨by rfl, ?ybz8⟩) hS0 ?_
  case ybz8 => (intro wz hSw; obtain ⟨hz0, hz1, hz2, hz3⟩ := hSw; go_simp; (try with_reducible rfl))
  try simp only [Act.put, List.getElem_toArray, List.getElem_cons_zero, List.getElem_cons_succ, List.setIfInBounds_toArray, List.set_cons_zero, List.set_cons_succ]
  refine anyT_takeN (i := 9) (v := ?vbz9) rfl (by kernel_rfl) (by kernel_rfl) (by kernel_rfl) (by rfl) (fun _ _ _ h => h) (Or.inl ⟨by rfl, ?ybz9⟩) hS0 ?_
  case ybz9 => (intro wz hSw; obtain ⟨hz0, hz1, hz2, hz3⟩ := hSw; go_simp; (try with_reducible rfl))
  try simp only [Act.put, List.getElem_toArray, List.getElem_cons_zero, List.getElem_cons_succ, List.setIfInBounds_toArray, List.set_cons_zero, List.set_cons_succ]
  refine anyT_takeN (i := 10) (v := ?vbz10) rfl (by kernel_rfl) (by kernel_rfl) (by kernel_rfl) (by rfl) (fun _ _ _ h => h) (Or.inl ⟨by rfl, ?ybz10⟩) hS0 ?_
  case ybz10 => (intro wz hSw; obtain ⟨hz0, hz1, hz2, hz3⟩ := hSw; go_simp; (try with_reducible rfl))
  try simp only [Act.put, List.getElem_toArray, List.getElem_cons_zero, List.getElem_cons_succ, List.setIfInBounds_toArray, List.set_cons_zero, List.set_cons_succ]
  refine anyT_takeN (i := 11) (v := ?vbz11) rfl (by kernel_rfl) (by kernel_rfl) (by kernel_rfl) (by rfl) (fun _ _ _ h => h) (Or.inl ⟨by rfl, ?ybz11⟩) hS0 ?_
  case ybz11 => (intro wz hSw; obtain ⟨hz0, hz1, hz2, hz3⟩ := hSw; go_simp; (try with_reducible rfl))
  try simp only [Act.put, List.getElem_toArray, List.getElem_cons_zero, List.getElem_cons_succ, List.setIfInBounds_toArray, List.set_cons_zero, List.set_cons_succ]
  refine anyT_takeN (i := 12) (v := ?vbz12) rfl (by kernel_rfl) (by kernel_rfl) (by kernel_rfl) (by rfl) (fun _ _ _ h => h) (Or.inl ⟨by rfl, ?ybz12⟩) hS0 ?_
  case ybz12 => (intro wz hSw; obtain ⟨hz0, hz1, hz2, hz3⟩ := hSw; go_simp; (try with_reducible rfl))
  try simp only [Act.put, List.getElem_toArray, List.getElem_cons_zero, List.getElem_cons_succ, List.setIfInBounds_toArray, List.set_cons_zero, List.set_cons_succ]
  refine anyT_takeN (i := 13) (v := ?vbz13) rfl (by kernel_rfl) (by kernel_rfl) (by kernel_rfl) (by rfl) (fun _ _ _ h => h) (Or.inl ⟨by rfl, ?ybz13⟩) hS0 ?_
  case ybz13 => (intro wz hSw; obtain ⟨hz0, hz1, hz2, hz3⟩ := hSw; go_simp; (try with_reducible rfl))
  try simp only [Act.put, List.getElem_toArray, List.getElem_cons_zero, List.getElem_cons_succ, List.setIfInBounds_toArray, List.set_cons_zero, List.set_cons_succ]
  refine anyT_takeN (i := 14) (v := ?vbz14) rfl (by kernel_rfl) (by kernel_rfl) (by kernel_rfl) (by rfl) (fun _ _ _ h => h) (Or.inl ⟨by rfl, ?ybz14⟩) hS0 ?_
  case ybz14 => (intro wz hSw; obtain ⟨hz0, hz1, hz2, hz3⟩ := hSw; go_simp; (try with_reducible rfl))
  try simp only [Act.put, List.getElem_toArray, List.getElem_cons_zero, List.getElem_cons_succ, List.setIfInBounds_toArray, List.set_cons_zero, List.set_cons_succ]
  refine anyT_takeN (i := 15) (v := ?vbz15) rfl (by kernel_rfl) (by kernel_rfl) (by kernel_rfl) (by rfl) (fun _ _ _ h => h) (Or.inl ⟨by rfl, ?ybz15⟩) hS0 ?_
  case ybz15 => (intro wz hSw; obtain ⟨hz0, hz1, hz2, hz3⟩ := hSw; go_simp; (try with_reducible rfl))
  try simp only [Act.put, List.getElem_toArray, List.getElem_cons_zero, List.getElem_cons_succ, List.setIfInBounds_toArray, List.set_cons_zero, List.set_cons_succ]
  refine anyT_takeN (i := 16) (v := ?vbz16) rfl (by kernel_rfl) (by kernel_rfl) (by kernel_rfl) (by rfl) (fun _ _ _ h => h) (Or.inl ⟨by rfl, ?ybz16⟩) hS0 ?_
  case ybz16 => (intro wz hSw; obtain ⟨hz0, hz1, hz2, hz3⟩ := hSw; go_simp; (try with_reducible rfl))
  try simp only [Act.put, List.getElem_toArray, List.getElem_cons_zero, List.getElem_cons_succ, List.setIfInBounds_toArray, List.set_cons_zero, List.set_cons_succ]
  refine anyT_takeN (i := 17) (v := .bool false) rfl (by kernel_rfl) (by kernel_rfl) (by kernel_rfl) (by rfl) (fun _ _ _ h => h) (Or.inl ⟨by rfl, ?ybz17⟩) hS0 ?_
  case ybz17 => (intro wz hSw; obtain ⟨hz0, hz1, hz2, hz3⟩ := hSw; go_simp; (try with_reducible rfl))
  try simp only [Act.put, List.getElem_toArray, List.getElem_cons_zero, List.getElem_cons_succ, List.setIfInBounds_toArray, List.set_cons_zero, List.set_cons_succ]
  refine anyT_takeN (i := 18) (v := ?vbz18) rfl (by kernel_rfl) (by kernel_rfl) (by kernel_rfl) (by rfl) (fun _ _ _ h => h) (Or.inl ⟨by rfl, ?ybz18⟩) hS0 ?_
  case ybz18 => (intro wz hSw; obtain ⟨hz0, hz1, hz2, hz3⟩ := hSw; go_simp; (try with_reducible rfl))
  try simp only [Act.put, List.getElem_toArray, List.getElem_cons_zero, List.getElem_cons_succ, List.setIfInBounds_toArray, List.set_cons_zero, List.set_cons_succ]
  refine anyT_one (i := 19) (by kernel_rfl) rfl (fun K hK => ?_)
  go_simp
  go_at_call 27
  have HD : Hid (BehP base g b off n cap t d (fun r => r = liftP s (rangeF kd strs s.ks)) nv w (Pf 7 (k3.pos : Int)) W4.drew) := H4.out.1.die (Chg.of_below (Below.refl _ _).drew) (by show _ = _; rw [HA5.out, if_neg (by intro z; rcases z with z | z <;> simp_all [less])]; rfl)
  refine (fdem_no (H4.out.1.fp.below (Below.refl _ _).drew) 7).mono ?_
  rintro e w5 ⟨rfl, hw5⟩
  rw [hw5]
  clear hw5 hK
  exact ⟨rfl, HD.out⟩
end Go.Proofs.YtgnpcenpcmdlfaaGreatDoor
